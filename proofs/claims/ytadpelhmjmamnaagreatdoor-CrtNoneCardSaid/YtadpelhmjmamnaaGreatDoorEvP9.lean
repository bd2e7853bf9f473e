/- The reckoner: append, by names. No conditions. -/
import Derived.Test.YtadpelhmjmamnaaGreatDoorEvP8
namespace Go.Proofs.YtadpelhmjmamnaaGreatDoor.Ev
open Go Go.RowKit

section ops
variable {P : Program} {G : Nat} {ρ : Env} {T : PT Value} {H : HP} {N : Nat} {out : Out} {a : Act} {w : World} {dst : Option Tmp} {type : TypeId} {pos : String} {after : Array Edge} {guard : Option (Nat × Bool)}

/-- A row that append has made, in the world behind its draw. -/
theorem grown_sound {e : TypeId} {sz need cap : Nat} {us vs : List Value} {zc cells : Array Value} (hF : Free ρ N (N + 1)) (hcells : cells.toList = vs ++ zc.toList) (hv : VL ρ us vs) (hl : us.length = need * sz) (hc : need ≤ cap) (hs : sizeO P e = some sz) (hz : zc.size = (cap - need) * sz) :
    Grew P ρ (setE ρ N (w.heap.size, cap)) N (N + 1) [(N, .cells true e us)] w { w with heap := w.heap.push (.cells cells e (0, 0)), drawn := w.drawn + 1 } := by
  refine Grew.one hF ⟨rfl, rfl, rfl, by simp, fun k hk => ?_⟩ (by simp) ?_
  · show (w.heap.push _)[k]? = _
    rw [Array.getElem?_push, if_neg (by omega)]
  · refine ⟨vs ++ zc.toList, ?_, ?_, fun h => (by cases h), fun _ => ⟨sz, hs, ?_⟩⟩
    · show (w.heap.push _)[w.heap.size]? = _
      rw [Array.getElem?_push, if_pos rfl, ← hcells]
    · rw [hv.1, List.take_left]
      exact hv.mono (setE_ext (hF N (Nat.le_refl _) (by omega)))
    · show (vs ++ zc.toList).length = _
      have hz' : zc.toList.length = (cap - need) * sz := by simpa using hz
      rw [List.length_append, hz', ← hv.1, hl, ← Nat.add_mul]
      congr 1
      omega

theorem append_ok {x y : Operand} {st xt : TypeId} (hS : Sat P ρ H w) (hT : TR ρ T a.tmps) (hG : Glob G ρ) (hN : ∀ n b, H.get n = some b → n < N)
    (h : (match aeval G T x, aeval G T y with | some s, some v => appendC P H N st xt s v | _, _ => .bad 108) = Rs.ok out) : OpOk P ⟨dst, .call { callee := .builtin .append, args := ⟨[x, y]⟩, argTypes := ⟨[st, xt]⟩ }, type, pos, after, guard⟩ ρ N out a w := by
  split at h
  · rename_i u v hx hy
    have hrx := aeval_sound hT hG hx
    have hry := aeval_sound hT hG hy
    unfold appendC at h
    split at h
    · rename_i e sz by_ z base sl sc hrow
      obtain ⟨m, h1, hlen⟩ := len_sound (P := P) hry h
      obtain ⟨us, vs, h2, hcells, hv⟩ := cells_sound hS hry h1
      rw [forceN_eq] at h2
      cases hc : (notInt P xt && Nat.ble (Nat.add sl m) 65536 && Nat.ble by_ 65536 && Nat.blt 0 by_) with
      | false => rw [hc] at h2; cases h2
      | true =>
        rw [hc] at h2
        simp only [cond_true] at h2
        simp only [Bool.and_eq_true] at hc
        obtain ⟨⟨⟨hni, hneed⟩, hby⟩, _⟩ := hc
        have hneed : sl + m ≤ 65536 := Nat.le_of_ble_eq_true hneed
        have hby : by_ ≤ 65536 := Nat.le_of_ble_eq_true hby
        obtain ⟨hu, hs, hzl, _, hz, _⟩ := rowO_spec hrow
        obtain ⟨zv, hz1, _, hz2⟩ := run_zero hz
        obtain ⟨bs, sc', hax, hnone, hbase⟩ := hrx.slice rfl
        have hargs : (⟨[x, y]⟩ : Array Operand).map a.eval = #[.slice bs sl sc', a.eval y] := Array.ext' (by simp [hax])
        have hrun : ∀ (r : Value) (w' : World), (Builtin.append_ #[st, xt] type #[.slice bs sl sc', a.eval y]).run P w = .ok r w' → ∀ consts, (builtin .append ⟨[st, xt]⟩ type consts ((⟨[x, y]⟩ : Array Operand).map a.eval)).run P w = .ok (.value r) w' := fun r w' h consts => by
          rw [hargs]
          simp only [builtin, Sem.run_bind, h]
          rfl
        have happ := run_append (P := P) (w := w) (type := type) (bs := bs) (sc := sc') hrow hni hlen hby hneed zv hz2
        have hdrew : Below w.heap.size w { w with drawn := w.drawn + 1 } := ⟨rfl, rfl, rfl, Nat.le_refl _, fun _ _ => rfl⟩
        -- what stands there, with what is appended, in a row of its own
        have hnewrow : ∀ (old old' : List Value), (∀ w' : World, Below w.heap.size w w' → (Builtin.firstCells sz sl (.slice bs sl sc')).run P w' = .ok ⟨old'⟩ w') → VL ρ old old' → (old ++ us).length = (sl + m) * sz → sc' < sl + m →
            ∃ cap cells w', (Builtin.append_ #[st, xt] type #[.slice bs sl sc', a.eval y]).run P w = .ok (.slice (some ⟨w.heap.size, 0, none⟩) (sl + m) cap) w' ∧ w' = { w with heap := w.heap.push (.cells cells e (0, 0)), drawn := w.drawn + 1 } ∧ sl + m ≤ cap ∧
              (Free ρ N (N + 1) → Grew P ρ (setE ρ N (w.heap.size, cap)) N (N + 1) [(N, .cells true e (old ++ us))] w w') := fun old old' hold hvo hl hsc => by
          rw [if_neg (by omega), hold _ hdrew] at happ
          simp only [Result.andThen_ok] at happ
          rw [hcells _ hdrew] at happ
          simp only [Result.andThen_ok] at happ
          refine ⟨_, _, _, happ, rfl, Nat.le_add_right _ _, fun hF => ?_⟩
          refine grown_sound (vs := old' ++ vs) (zc := Builtin.zeroCells zv.cells (sl + m + (w.tape w.drawn (.appendCap (sl + m) sc' e)) % (2 ^ 63 - (sl + m)) - (sl + m))) hF (by simp) (hvo.append hv) hl (Nat.le_add_right _ _) hs ?_
          rw [zeroCells_length, ← Array.length_toList, hz1, hzl]
        have hgrownC : ∀ (old old' : List Value), (∀ w' : World, Below w.heap.size w w' → (Builtin.firstCells sz sl (.slice bs sl sc')).run P w' = .ok ⟨old'⟩ w') → VL ρ old old' → sc' < sl + m → grownC N e sz (old ++ us) (Nat.add sl m) = .ok out →
            OpOk P ⟨dst, .call { callee := .builtin .append, args := ⟨[x, y]⟩, argTypes := ⟨[st, xt]⟩ }, type, pos, after, guard⟩ ρ N out a w := fun old old' hold hvo hsc hgr => by
          unfold grownC at hgr
          cases hb : Nat.beq (old ++ us).length (Nat.mul (Nat.add sl m) sz) with
          | false => rw [hb] at hgr; cases hgr
          | true =>
            rw [hb] at hgr
            cases hgr
            obtain ⟨cap, cells, w', hr, _, hcap, hg⟩ := hnewrow old old' hold hvo (Nat.eq_of_beq_eq_true hb) hsc
            exact ⟨Nat.le_succ N, fun hF ro mm K Q hK => wp_value (run_call_builtin (hrun _ _ hr)) (hK _ _ _ (hg (hF.free _)) (.soft (setE_self ρ N _) rfl hcap (fun _ => rfl)))⟩
        split at h2
        · -- nil
          obtain ⟨rfl, rfl⟩ := hnone rfl
          cases hz0 : (Nat.beq sl 0 && Nat.beq sc' 0) with
          | false => rw [hz0] at h2; cases h2
          | true =>
            rw [hz0] at h2
            simp only [Bool.and_eq_true, Nat.beq_eq] at hz0
            obtain ⟨rfl, rfl⟩ := hz0
            simp only [cond_true] at h2
            cases hm : Nat.beq m 0 with
            | true =>
              rw [hm] at h2
              cases h2
              obtain rfl : m = 0 := Nat.eq_of_beq_eq_true hm
              rw [if_pos (by omega), hcells _ (.refl _ _)] at happ
              simp only [Result.andThen_ok] at happ
              exact ⟨Nat.le_refl _, fun hF ro mm K Q hK => wp_value (run_call_builtin (hrun _ _ happ)) (hK _ _ _ (.refl P ρ N w) (.nils _ _))⟩
            | false =>
              rw [hm] at h2
              have hm0 : 0 < m := by
                rcases Nat.eq_zero_or_pos m with h | h
                · subst h; cases hm
                · exact h
              exact hgrownC [] [] (fun w' _ => rfl) (.nil ρ) (by omega) h2
        · -- a known capacity
          rename_i b o
          obtain ⟨ba, C, rfl, hb, hsc, _⟩ := hbase b o none rfl
          obtain rfl := hsc rfl
          cases hle : Nat.ble (Nat.add sl m) sc' with
          | true =>
            rw [hle] at h2
            have hle : sl + m ≤ sc' := Nat.le_of_ble_eq_true hle
            rw [if_pos hle, hcells _ (.refl _ _)] at happ
            simp only [Result.andThen_ok] at happ
            simp only [cond_true] at h2
            split at h2
            · cases h2
              obtain rfl := hv.nil_inv
              exact ⟨Nat.le_refl _, fun hF ro mm K Q hK => wp_value (run_call_builtin (hrun _ _ happ)) (hK _ _ _ (.refl P ρ N w) (.sl hb))⟩
            · obtain ⟨H', w', rfl, hst, hW⟩ := lay_sound hS hb hN hv h2
              have hst' : (storeCells ((⟨ba, o, none⟩ : Addr).add (sl * sz)) vs).run P w = .ok () w' := by rw [add_off]; exact hst
              simp only [hst', Result.andThen_ok] at happ
              exact ⟨Nat.le_refl _, fun hF ro mm K Q hK => wp_value (run_call_builtin (hrun _ _ happ)) (hK _ _ _ hW (.sl hb))⟩
          | false =>
            rw [hle] at h2
            have hlt : sc' < sl + m := ble_false hle
            simp only [cond_false] at h2
            rw [← hax] at hgrownC
            obtain ⟨old, old', h3, hold, hvo⟩ := cells_sound hS hrx h2
            rw [appK_eq] at h3
            exact hgrownC old old' hold hvo hlt h3
        · -- a capacity that is not known
          rename_i b o q
          obtain ⟨ba, C, rfl, hb, _, hq⟩ := hbase b o (some q) rfl
          obtain ⟨hsl, hlc, hC⟩ := hq q rfl
          cases hm : Nat.beq m 0 with
          | true =>
            rw [hm] at h2
            simp only [cond_true] at h2
            split at h2
            · cases h2
              obtain rfl := hv.nil_inv
              obtain rfl : m = 0 := Nat.eq_of_beq_eq_true hm
              rw [if_pos (by omega), hcells _ (.refl _ _)] at happ
              simp only [Result.andThen_ok] at happ
              exact ⟨Nat.le_refl _, fun hF ro mm K Q hK => wp_value (run_call_builtin (hrun _ _ happ)) (hK _ _ _ (.refl P ρ N w) (.soft hb hsl hlc hC))⟩
            · cases h2
          | false =>
            rw [hm] at h2
            simp only [cond_false] at h2
            cases ho : Nat.beq o 0 with
            | false => rw [ho] at h2; cases h2
            | true =>
              rw [ho] at h2
              obtain rfl : o = 0 := Nat.eq_of_beq_eq_true ho
              obtain rfl := hC rfl
              simp only [cond_true] at h2
              split at h2
              · rename_i e' l hg
                cases hc2 : (Nat.beq e' e && us.all oneC) with
                | false => rw [hc2] at h2; cases h2
                | true =>
                  rw [hc2] at h2
                  rw [Bool.and_eq_true] at hc2
                  obtain ⟨he', hone⟩ := hc2
                  obtain rfl : e' = e := Nat.eq_of_beq_eq_true he'
                  simp only [cond_true, takeK_eq, appK_eq] at h2
                  split at h2
                  · rename_i hle
                    cases hln : Nat.beq (l.take (sl * sz) ++ us).length (Nat.mul (Nat.add sl m) sz) with
                    | false => rw [hln] at h2; cases h2
                    | true =>
                      rw [hln] at h2
                      have hln : (l.take (sl * sz) ++ us).length = (sl + m) * sz := Nat.eq_of_beq_eq_true hln
                      simp only [cond_true] at h2
                      rcases PT.insK_spec 60 H b (none : Option AB) with hbad | ⟨H1, hok1, hget1⟩
                      · rw [hbad] at h2; cases h2
                      · rw [hok1] at h2
                        rcases PT.insK_spec 60 H1 N (some (AB.cells true e' (l.take (sl * sz) ++ us))) with hbad | ⟨H2, hok2, hget2⟩
                        · rw [hbad] at h2; cases h2
                        · rw [hok2] at h2
                          cases h2
                          have hbN := hN b _ hg
                          obtain ⟨ba', C', hb', cs, hcs, hvl, _, hC2⟩ := hS.blk b _ hg
                          rw [hb] at hb'; cases hb'
                          obtain ⟨sz', hs', hcl⟩ := hC2 rfl
                          rw [hs] at hs'; cases hs'
                          have hlen2 : l.length ≤ cs.length := by have := hvl.1; simp at this; omega
                          have hvo : VL ρ (l.take (sl * sz)) (cs.take (sl * sz)) := by
                            have := hvl.take (sl * sz)
                            rwa [List.take_take, Nat.min_eq_left hle] at this
                          have hget : ∀ n, H2.get n = if n = N then some (.cells true e' (l.take (sl * sz) ++ us)) else if n = b then none else H.get n := fun n => by rw [hget2, hget1]
                          have hnamed : ∀ n b', H2.get n = some b' → n < N.succ := fun n b' hn => by
                            rw [hget] at hn
                            by_cases e1 : n = N
                            · rw [e1]; exact Nat.lt_succ_self N
                            · rw [if_neg e1] at hn
                              split at hn
                              · cases hn
                              · exact Nat.lt_succ_of_lt (hN n b' hn)
                          refine ⟨Nat.le_succ N, fun hD => ?_⟩
                          have hF : Free ρ N (N + 1) := hD.free _
                          have hFN := hF N (Nat.le_refl _) (Nat.lt_succ_self _)
                          rcases Nat.lt_or_ge sc' (sl + m) with hlt | hge
                          · -- a row of its own
                            have hold : ∀ w' : World, Below w.heap.size w w' → (Builtin.firstCells sz sl (.slice (some ⟨ba, 0, none⟩) sl sc')).run P w' = .ok ⟨cs.take (sl * sz)⟩ w' := fun w' hb' => by
                              have hcs' : w'.heap[ba]? = some (.cells ⟨cs⟩ e' (0, 0)) := by rw [hb'.block ba (hS.lt b ba _ hb)]; exact hcs
                              have := run_loadCells_at (P := P) (off := 0) (s := sl * sz) hcs' (by omega)
                              simpa [Builtin.firstCells] using this
                            obtain ⟨cap, cells, w', hr, hw', hcap, hgr⟩ := hnewrow _ _ hold hvo hln hlt
                            have hg' := hgr hF
                            intro ro mm K Q hK
                            refine wp_value (run_call_builtin (hrun _ _ hr)) (hK _ _ (setE ρ N (w.heap.size, cap)) ?_ (.soft (setE_self ρ N _) rfl hcap (fun _ => rfl)))
                            have hsat := hg'.sat (H := H) (H' := H2) hS hF (fun n b' hn => by
                              rw [hget] at hn
                              by_cases e1 : n = N
                              · subst e1; rw [if_pos rfl] at hn; cases hn; exact .inl (by simp)
                              · rw [if_neg e1] at hn
                                split at hn
                                · cases hn
                                · exact .inr hn)
                            exact ⟨hg'.ext, hg'.same, hsat, hg'.bel.os, hg'.bel.tape, hg'.bel.output, hg'.bel.size, fun x hx _ => hg'.bel.block x hx, fun n p h1 h2 h3 => .inl (hg'.new n p h1 h2 h3).1, hnamed⟩
                          · -- in place
                            have hrunst := run_storeCells_at (P := P) ba (sl * sz) e' vs 0 ⟨cs⟩ w hcs (by
                              have h1 := hv.1
                              simp only [List.length_append, List.length_take] at hln
                              have h2 : (sl + m) * sz ≤ sc' * sz := Nat.mul_le_mul_right sz hge
                              simp; omega) (hv.one hone)
                            simp only [Nat.add_zero] at hrunst
                            rw [if_pos hge, hcells _ (.refl _ _)] at happ
                            simp only [Result.andThen_ok, add_off, Nat.zero_add, hrunst] at happ
                            intro ro mm K Q hK
                            refine wp_value (run_call_builtin (hrun _ _ happ)) (hK _ _ (setE ρ N (ba, sc')) ?_ (.soft (setE_self ρ N _) rfl hge (fun _ => rfl)))
                            have hself := setRow_heap w ba ⟨cs⟩ ((cs.take (sl * sz) ++ vs ++ cs.drop (sl * sz + vs.length))).toArray e' (0, 0) hcs
                            have hext : Ext ρ (setE ρ N (ba, sc')) := setE_ext hFN
                            have hlo : (l.take (sl * sz)).length = sl * sz := by simp; omega
                            have hlc' : (cs.take (sl * sz)).length = sl * sz := by simp; omega
                            have hmem : ∀ n b', H2.get n = some b' → n ≠ N → n ≠ b ∧ H.get n = some b' := fun n b' hn e1 => by
                              rw [hget, if_neg e1] at hn
                              split at hn
                              · cases hn
                              · rename_i e2; exact ⟨e2, hn⟩
                            refine ⟨hext, fun n h => setE_other (by omega), ⟨fun n b' hn => ?_, fun n k b' c x D F hn hk h1 h2 => ?_, fun n x D hn => ?_⟩, rfl, rfl, rfl, by simp, fun x hx hno => ?_, fun n p h1 h2 h3 => ?_, hnamed⟩
                            · by_cases e1 : n = N
                              · subst e1
                                rw [hget, if_pos rfl] at hn
                                cases hn
                                refine ⟨ba, sc', setE_self _ _ _, _, hself, ?_, fun h => (by cases h), fun _ => ⟨sz, hs, ?_⟩⟩
                                · have e3 : (l.take (sl * sz) ++ us).length = (cs.take (sl * sz) ++ vs).length := by simp only [List.length_append, hlo, hlc', hv.1]
                                  rw [e3, List.take_left]
                                  exact (hvo.append hv).mono hext
                                · have h1 := hv.1
                                  simp only [List.length_append, hlo] at hln
                                  simp only [List.length_append, hlc', List.length_drop]
                                  have h2 : (sl + m) * sz ≤ sc' * sz := Nat.mul_le_mul_right sz hge
                                  omega
                              · obtain ⟨e2, hn'⟩ := hmem n b' hn e1
                                obtain ⟨x, D, h1, h2⟩ := hS.blk n b' hn'
                                have hx : x ≠ ba := fun ex => by subst ex; exact e2 (hS.inj n b b' _ x D sc' hn' hg h1 hb)
                                exact ⟨x, D, hext _ _ h1, by rw [setRow_other w ba x _ hx]; exact h2.mono hext⟩
                            · by_cases e1 : n = N <;> by_cases e2 : k = N
                              · rw [e1, e2]
                              · subst e1
                                rw [setE_self] at h1; cases h1
                                rw [setE_other e2] at h2
                                obtain ⟨e3, hk'⟩ := hmem k c hk e2
                                exact absurd (hS.inj k b c _ ba F sc' hk' hg h2 hb) e3
                              · subst e2
                                rw [setE_self] at h2; cases h2
                                rw [setE_other e1] at h1
                                obtain ⟨e3, hn'⟩ := hmem n b' hn e1
                                exact absurd (hS.inj n b b' _ ba D sc' hn' hg h1 hb) e3
                              · rw [setE_other e1] at h1
                                rw [setE_other e2] at h2
                                exact hS.inj n k b' c x D F (hmem n b' hn e1).2 (hmem k c hk e2).2 h1 h2
                            · rw [setRow_size]
                              by_cases e1 : n = N
                              · subst e1; rw [setE_self] at hn; cases hn; exact hS.lt b _ _ hb
                              · rw [setE_other e1] at hn; exact hS.lt n x D hn
                            · exact setRow_other w ba x _ (fun ex => hno b (ba, sc') (Nat.le_refl _) hbN hb ex.symm)
                            · obtain rfl : n = N := by omega
                              rw [setE_self] at h3; cases h3
                              exact .inr ⟨b, (ba, sc'), Nat.le_refl _, hbN, hb, rfl⟩
                  · cases h2
              · cases h2
    · cases h
  · cases h
end ops
end Go.Proofs.YtadpelhmjmamnaaGreatDoor.Ev

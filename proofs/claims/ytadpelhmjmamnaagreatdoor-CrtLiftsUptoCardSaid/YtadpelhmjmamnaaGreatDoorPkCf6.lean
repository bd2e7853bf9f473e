/- The reckoner: append, by names. No conditions. The reckoner: what looks at no memory. No conditions. The reckoner: operations on two values. No conditions. The reckoner: operations on values, each against the model. No conditions. -/
import Derived.Test.YtadpelhmjmamnaaGreatDoorPkCf5
namespace Go.Proofs.YtadpelhmjmamnaaGreatDoor
section
namespace Ev
open Go Go.RowKit

section ops
variable {P : Program} {G : Nat} {ρ : Env} {T : PT Value} {H : HP} {N : Nat} {out : Out} {a : Act} {w : World} {dst : Option Tmp} {type : TypeId} {pos : String} {after : Array Edge} {guard : Option (Nat × Bool)}

/-- A row that append has made, in the world behind its draw. -/
theorem grown_sound {e : TypeId} {sz need cap : Nat} {us vs : List Value} {zc cells : Array Value} (hF : Free ρ N (N + 1)) (hcells : cells.toList = vs ++ zc.toList) (hv : VL ρ us vs) (hl : us.length = need * sz) (hc : need ≤ cap) (hs : sizeO P e = some sz) (hz : zc.size = (cap - need) * sz) :
    Grew P ρ (setE ρ N (w.heap.size, cap)) N (N + 1) [(N, .cells true e us)] w { w with heap := w.heap.push (.cells cells e (0, 0)), drawn := w.drawn + 1 } := by
  refine Grew.one hF ⟨rfl, rfl, rfl, by simp, fun k hk => ?_⟩ (by simp) ?_
  · show (w.heap.push _)[k]? = _
    rw [Array.getElem?_push, if_neg (by omega)]
  · refine ⟨vs ++ zc.toList, ?_, ?_, fun h => (by cases h), fun _ => ⟨sz, hs, ?_⟩⟩
    · show (w.heap.push _)[w.heap.size]? = _
      rw [Array.getElem?_push, if_pos rfl, ← hcells]
    · rw [hv.1, List.take_left]
      exact hv.mono (setE_ext (hF N (Nat.le_refl _) (by omega)))
    · show (vs ++ zc.toList).length = _
      have hz' : zc.toList.length = (cap - need) * sz := by simpa using hz
      rw [List.length_append, hz', ← hv.1, hl, ← Nat.add_mul]
      congr 1
      omega

theorem append_ok {x y : Operand} {st xt : TypeId} (hS : Sat P ρ H w) (hT : TR ρ T a.tmps) (hG : Glob G ρ) (hN : ∀ n b, H.get n = some b → n < N)
    (h : (match aeval G T x, aeval G T y with | some s, some v => appendC P H N st xt s v | _, _ => .bad 108) = Rs.ok out) : OpOk P ⟨dst, .call { callee := .builtin .append, args := ⟨[x, y]⟩, argTypes := ⟨[st, xt]⟩ }, type, pos, after, guard⟩ ρ N out a w := by
  split at h
  · rename_i u v hx hy
    have hrx := aeval_sound hT hG hx
    have hry := aeval_sound hT hG hy
    unfold appendC at h
    split at h
    · rename_i e sz by_ z base sl sc hrow
      obtain ⟨m, h1, hlen⟩ := len_sound (P := P) hry h
      obtain ⟨us, vs, h2, hcells, hv⟩ := cells_sound hS hry h1
      rw [forceN_eq] at h2
      cases hc : (notInt P xt && Nat.ble (Nat.add sl m) 65536 && Nat.ble by_ 65536 && Nat.blt 0 by_) with
      | false => rw [hc] at h2; cases h2
      | true =>
        rw [hc] at h2
        simp only [cond_true] at h2
        simp only [Bool.and_eq_true] at hc
        obtain ⟨⟨⟨hni, hneed⟩, hby⟩, _⟩ := hc
        have hneed : sl + m ≤ 65536 := Nat.le_of_ble_eq_true hneed
        have hby : by_ ≤ 65536 := Nat.le_of_ble_eq_true hby
        obtain ⟨hu, hs, hzl, _, hz, _⟩ := rowO_spec hrow
        obtain ⟨zv, hz1, _, hz2⟩ := run_zero hz
        obtain ⟨bs, sc', hax, hnone, hbase⟩ := hrx.slice rfl
        have hargs : (⟨[x, y]⟩ : Array Operand).map a.eval = #[.slice bs sl sc', a.eval y] := Array.ext' (by simp [hax])
        have hrun : ∀ (r : Value) (w' : World), (Builtin.append_ #[st, xt] type #[.slice bs sl sc', a.eval y]).run P w = .ok r w' → ∀ consts, (builtin .append ⟨[st, xt]⟩ type consts ((⟨[x, y]⟩ : Array Operand).map a.eval)).run P w = .ok (.value r) w' := fun r w' h consts => by
          rw [hargs]
          simp only [builtin, Sem.run_bind, h]
          rfl
        have happ := run_append (P := P) (w := w) (type := type) (bs := bs) (sc := sc') hrow hni hlen hby hneed zv hz2
        have hdrew : Below w.heap.size w { w with drawn := w.drawn + 1 } := ⟨rfl, rfl, rfl, Nat.le_refl _, fun _ _ => rfl⟩
        -- what stands there, with what is appended, in a row of its own
        have hnewrow : ∀ (old old' : List Value), (∀ w' : World, Below w.heap.size w w' → (Builtin.firstCells sz sl (.slice bs sl sc')).run P w' = .ok ⟨old'⟩ w') → VL ρ old old' → (old ++ us).length = (sl + m) * sz → sc' < sl + m →
            ∃ cap cells w', (Builtin.append_ #[st, xt] type #[.slice bs sl sc', a.eval y]).run P w = .ok (.slice (some ⟨w.heap.size, 0, none⟩) (sl + m) cap) w' ∧ w' = { w with heap := w.heap.push (.cells cells e (0, 0)), drawn := w.drawn + 1 } ∧ sl + m ≤ cap ∧
              (Free ρ N (N + 1) → Grew P ρ (setE ρ N (w.heap.size, cap)) N (N + 1) [(N, .cells true e (old ++ us))] w w') := fun old old' hold hvo hl hsc => by
          rw [if_neg (by omega), hold _ hdrew] at happ
          simp only [Result.andThen_ok] at happ
          rw [hcells _ hdrew] at happ
          simp only [Result.andThen_ok] at happ
          refine ⟨_, _, _, happ, rfl, Nat.le_add_right _ _, fun hF => ?_⟩
          refine grown_sound (vs := old' ++ vs) (zc := Builtin.zeroCells zv.cells (sl + m + (w.tape w.drawn (.appendCap (sl + m) sc' e)) % (2 ^ 63 - (sl + m)) - (sl + m))) hF (by simp) (hvo.append hv) hl (Nat.le_add_right _ _) hs ?_
          rw [zeroCells_length, ← Array.length_toList, hz1, hzl]
        have hgrownC : ∀ (old old' : List Value), (∀ w' : World, Below w.heap.size w w' → (Builtin.firstCells sz sl (.slice bs sl sc')).run P w' = .ok ⟨old'⟩ w') → VL ρ old old' → sc' < sl + m → grownC N e sz (old ++ us) (Nat.add sl m) = .ok out →
            OpOk P ⟨dst, .call { callee := .builtin .append, args := ⟨[x, y]⟩, argTypes := ⟨[st, xt]⟩ }, type, pos, after, guard⟩ ρ N out a w := fun old old' hold hvo hsc hgr => by
          unfold grownC at hgr
          cases hb : Nat.beq (old ++ us).length (Nat.mul (Nat.add sl m) sz) with
          | false => rw [hb] at hgr; cases hgr
          | true =>
            rw [hb] at hgr
            cases hgr
            obtain ⟨cap, cells, w', hr, _, hcap, hg⟩ := hnewrow old old' hold hvo (Nat.eq_of_beq_eq_true hb) hsc
            exact ⟨Nat.le_succ N, fun hF ro mm K Q hK => wp_value (run_call_builtin (hrun _ _ hr)) (hK _ _ _ (hg (hF.free _)) (.soft (setE_self ρ N _) rfl hcap (fun _ => rfl)))⟩
        split at h2
        · -- nil
          obtain ⟨rfl, rfl⟩ := hnone rfl
          cases hz0 : (Nat.beq sl 0 && Nat.beq sc' 0) with
          | false => rw [hz0] at h2; cases h2
          | true =>
            rw [hz0] at h2
            simp only [Bool.and_eq_true, Nat.beq_eq] at hz0
            obtain ⟨rfl, rfl⟩ := hz0
            simp only [cond_true] at h2
            cases hm : Nat.beq m 0 with
            | true =>
              rw [hm] at h2
              cases h2
              obtain rfl : m = 0 := Nat.eq_of_beq_eq_true hm
              rw [if_pos (by omega), hcells _ (.refl _ _)] at happ
              simp only [Result.andThen_ok] at happ
              exact ⟨Nat.le_refl _, fun hF ro mm K Q hK => wp_value (run_call_builtin (hrun _ _ happ)) (hK _ _ _ (.refl P ρ N w) (.nils _ _))⟩
            | false =>
              rw [hm] at h2
              have hm0 : 0 < m := by
                rcases Nat.eq_zero_or_pos m with h | h
                · subst h; cases hm
                · exact h
              exact hgrownC [] [] (fun w' _ => rfl) (.nil ρ) (by omega) h2
        · -- a known capacity
          rename_i b o
          obtain ⟨ba, C, rfl, hb, hsc, _⟩ := hbase b o none rfl
          obtain rfl := hsc rfl
          cases hle : Nat.ble (Nat.add sl m) sc' with
          | true =>
            rw [hle] at h2
            have hle : sl + m ≤ sc' := Nat.le_of_ble_eq_true hle
            rw [if_pos hle, hcells _ (.refl _ _)] at happ
            simp only [Result.andThen_ok] at happ
            simp only [cond_true] at h2
            split at h2
            · cases h2
              obtain rfl := hv.nil_inv
              exact ⟨Nat.le_refl _, fun hF ro mm K Q hK => wp_value (run_call_builtin (hrun _ _ happ)) (hK _ _ _ (.refl P ρ N w) (.sl hb))⟩
            · obtain ⟨H', w', rfl, hst, hW⟩ := lay_sound hS hb hN hv h2
              have hst' : (storeCells ((⟨ba, o, none⟩ : Addr).add (sl * sz)) vs).run P w = .ok () w' := by rw [add_off]; exact hst
              simp only [hst', Result.andThen_ok] at happ
              exact ⟨Nat.le_refl _, fun hF ro mm K Q hK => wp_value (run_call_builtin (hrun _ _ happ)) (hK _ _ _ hW (.sl hb))⟩
          | false =>
            rw [hle] at h2
            have hlt : sc' < sl + m := ble_false hle
            simp only [cond_false] at h2
            rw [← hax] at hgrownC
            obtain ⟨old, old', h3, hold, hvo⟩ := cells_sound hS hrx h2
            rw [appK_eq] at h3
            exact hgrownC old old' hold hvo hlt h3
        · -- a capacity that is not known
          rename_i b o q
          obtain ⟨ba, C, rfl, hb, _, hq⟩ := hbase b o (some q) rfl
          obtain ⟨hsl, hlc, hC⟩ := hq q rfl
          cases hm : Nat.beq m 0 with
          | true =>
            rw [hm] at h2
            simp only [cond_true] at h2
            split at h2
            · cases h2
              obtain rfl := hv.nil_inv
              obtain rfl : m = 0 := Nat.eq_of_beq_eq_true hm
              rw [if_pos (by omega), hcells _ (.refl _ _)] at happ
              simp only [Result.andThen_ok] at happ
              exact ⟨Nat.le_refl _, fun hF ro mm K Q hK => wp_value (run_call_builtin (hrun _ _ happ)) (hK _ _ _ (.refl P ρ N w) (.soft hb hsl hlc hC))⟩
            · cases h2
          | false =>
            rw [hm] at h2
            simp only [cond_false] at h2
            cases ho : Nat.beq o 0 with
            | false => rw [ho] at h2; cases h2
            | true =>
              rw [ho] at h2
              obtain rfl : o = 0 := Nat.eq_of_beq_eq_true ho
              obtain rfl := hC rfl
              simp only [cond_true] at h2
              split at h2
              · rename_i e' l hg
                cases hc2 : (Nat.beq e' e && us.all oneC) with
                | false => rw [hc2] at h2; cases h2
                | true =>
                  rw [hc2] at h2
                  rw [Bool.and_eq_true] at hc2
                  obtain ⟨he', hone⟩ := hc2
                  obtain rfl : e' = e := Nat.eq_of_beq_eq_true he'
                  simp only [cond_true, takeK_eq, appK_eq] at h2
                  split at h2
                  · rename_i hle
                    cases hln : Nat.beq (l.take (sl * sz) ++ us).length (Nat.mul (Nat.add sl m) sz) with
                    | false => rw [hln] at h2; cases h2
                    | true =>
                      rw [hln] at h2
                      have hln : (l.take (sl * sz) ++ us).length = (sl + m) * sz := Nat.eq_of_beq_eq_true hln
                      simp only [cond_true] at h2
                      rcases PT.insK_spec 60 H b (none : Option AB) with hbad | ⟨H1, hok1, hget1⟩
                      · rw [hbad] at h2; cases h2
                      · rw [hok1] at h2
                        rcases PT.insK_spec 60 H1 N (some (AB.cells true e' (l.take (sl * sz) ++ us))) with hbad | ⟨H2, hok2, hget2⟩
                        · rw [hbad] at h2; cases h2
                        · rw [hok2] at h2
                          cases h2
                          have hbN := hN b _ hg
                          obtain ⟨ba', C', hb', cs, hcs, hvl, _, hC2⟩ := hS.blk b _ hg
                          rw [hb] at hb'; cases hb'
                          obtain ⟨sz', hs', hcl⟩ := hC2 rfl
                          rw [hs] at hs'; cases hs'
                          have hlen2 : l.length ≤ cs.length := by have := hvl.1; simp at this; omega
                          have hvo : VL ρ (l.take (sl * sz)) (cs.take (sl * sz)) := by
                            have := hvl.take (sl * sz)
                            rwa [List.take_take, Nat.min_eq_left hle] at this
                          have hget : ∀ n, H2.get n = if n = N then some (.cells true e' (l.take (sl * sz) ++ us)) else if n = b then none else H.get n := fun n => by rw [hget2, hget1]
                          have hnamed : ∀ n b', H2.get n = some b' → n < N.succ := fun n b' hn => by
                            rw [hget] at hn
                            by_cases e1 : n = N
                            · rw [e1]; exact Nat.lt_succ_self N
                            · rw [if_neg e1] at hn
                              split at hn
                              · cases hn
                              · exact Nat.lt_succ_of_lt (hN n b' hn)
                          refine ⟨Nat.le_succ N, fun hD => ?_⟩
                          have hF : Free ρ N (N + 1) := hD.free _
                          have hFN := hF N (Nat.le_refl _) (Nat.lt_succ_self _)
                          rcases Nat.lt_or_ge sc' (sl + m) with hlt | hge
                          · -- a row of its own
                            have hold : ∀ w' : World, Below w.heap.size w w' → (Builtin.firstCells sz sl (.slice (some ⟨ba, 0, none⟩) sl sc')).run P w' = .ok ⟨cs.take (sl * sz)⟩ w' := fun w' hb' => by
                              have hcs' : w'.heap[ba]? = some (.cells ⟨cs⟩ e' (0, 0)) := by rw [hb'.block ba (hS.lt b ba _ hb)]; exact hcs
                              have := run_loadCells_at (P := P) (off := 0) (s := sl * sz) hcs' (by omega)
                              simpa [Builtin.firstCells] using this
                            obtain ⟨cap, cells, w', hr, hw', hcap, hgr⟩ := hnewrow _ _ hold hvo hln hlt
                            have hg' := hgr hF
                            intro ro mm K Q hK
                            refine wp_value (run_call_builtin (hrun _ _ hr)) (hK _ _ (setE ρ N (w.heap.size, cap)) ?_ (.soft (setE_self ρ N _) rfl hcap (fun _ => rfl)))
                            have hsat := hg'.sat (H := H) (H' := H2) hS hF (fun n b' hn => by
                              rw [hget] at hn
                              by_cases e1 : n = N
                              · subst e1; rw [if_pos rfl] at hn; cases hn; exact .inl (by simp)
                              · rw [if_neg e1] at hn
                                split at hn
                                · cases hn
                                · exact .inr hn)
                            exact ⟨hg'.ext, hg'.same, hsat, hg'.bel.os, hg'.bel.tape, hg'.bel.output, hg'.bel.size, fun x hx _ => hg'.bel.block x hx, fun n p h1 h2 h3 => .inl (hg'.new n p h1 h2 h3).1, hnamed⟩
                          · -- in place
                            have hrunst := run_storeCells_at (P := P) ba (sl * sz) e' vs 0 ⟨cs⟩ w hcs (by
                              have h1 := hv.1
                              simp only [List.length_append, List.length_take] at hln
                              have h2 : (sl + m) * sz ≤ sc' * sz := Nat.mul_le_mul_right sz hge
                              simp; omega) (hv.one hone)
                            simp only [Nat.add_zero] at hrunst
                            rw [if_pos hge, hcells _ (.refl _ _)] at happ
                            simp only [Result.andThen_ok, add_off, Nat.zero_add, hrunst] at happ
                            intro ro mm K Q hK
                            refine wp_value (run_call_builtin (hrun _ _ happ)) (hK _ _ (setE ρ N (ba, sc')) ?_ (.soft (setE_self ρ N _) rfl hge (fun _ => rfl)))
                            have hself := setRow_heap w ba ⟨cs⟩ ((cs.take (sl * sz) ++ vs ++ cs.drop (sl * sz + vs.length))).toArray e' (0, 0) hcs
                            have hext : Ext ρ (setE ρ N (ba, sc')) := setE_ext hFN
                            have hlo : (l.take (sl * sz)).length = sl * sz := by simp; omega
                            have hlc' : (cs.take (sl * sz)).length = sl * sz := by simp; omega
                            have hmem : ∀ n b', H2.get n = some b' → n ≠ N → n ≠ b ∧ H.get n = some b' := fun n b' hn e1 => by
                              rw [hget, if_neg e1] at hn
                              split at hn
                              · cases hn
                              · rename_i e2; exact ⟨e2, hn⟩
                            refine ⟨hext, fun n h => setE_other (by omega), ⟨fun n b' hn => ?_, fun n k b' c x D F hn hk h1 h2 => ?_, fun n x D hn => ?_⟩, rfl, rfl, rfl, by simp, fun x hx hno => ?_, fun n p h1 h2 h3 => ?_, hnamed⟩
                            · by_cases e1 : n = N
                              · subst e1
                                rw [hget, if_pos rfl] at hn
                                cases hn
                                refine ⟨ba, sc', setE_self _ _ _, _, hself, ?_, fun h => (by cases h), fun _ => ⟨sz, hs, ?_⟩⟩
                                · have e3 : (l.take (sl * sz) ++ us).length = (cs.take (sl * sz) ++ vs).length := by simp only [List.length_append, hlo, hlc', hv.1]
                                  rw [e3, List.take_left]
                                  exact (hvo.append hv).mono hext
                                · have h1 := hv.1
                                  simp only [List.length_append, hlo] at hln
                                  simp only [List.length_append, hlc', List.length_drop]
                                  have h2 : (sl + m) * sz ≤ sc' * sz := Nat.mul_le_mul_right sz hge
                                  omega
                              · obtain ⟨e2, hn'⟩ := hmem n b' hn e1
                                obtain ⟨x, D, h1, h2⟩ := hS.blk n b' hn'
                                have hx : x ≠ ba := fun ex => by subst ex; exact e2 (hS.inj n b b' _ x D sc' hn' hg h1 hb)
                                exact ⟨x, D, hext _ _ h1, by rw [setRow_other w ba x _ hx]; exact h2.mono hext⟩
                            · by_cases e1 : n = N <;> by_cases e2 : k = N
                              · rw [e1, e2]
                              · subst e1
                                rw [setE_self] at h1; cases h1
                                rw [setE_other e2] at h2
                                obtain ⟨e3, hk'⟩ := hmem k c hk e2
                                exact absurd (hS.inj k b c _ ba F sc' hk' hg h2 hb) e3
                              · subst e2
                                rw [setE_self] at h2; cases h2
                                rw [setE_other e1] at h1
                                obtain ⟨e3, hn'⟩ := hmem n b' hn e1
                                exact absurd (hS.inj n b b' _ ba D sc' hn' hg h1 hb) e3
                              · rw [setE_other e1] at h1
                                rw [setE_other e2] at h2
                                exact hS.inj n k b' c x D F (hmem n b' hn e1).2 (hmem k c hk e2).2 h1 h2
                            · rw [setRow_size]
                              by_cases e1 : n = N
                              · subst e1; rw [setE_self] at hn; cases hn; exact hS.lt b _ _ hb
                              · rw [setE_other e1] at hn; exact hS.lt n x D hn
                            · exact setRow_other w ba x _ (fun ex => hno b (ba, sc') (Nat.le_refl _) hbN hb ex.symm)
                            · obtain rfl : n = N := by omega
                              rw [setE_self] at h3; cases h3
                              exact .inr ⟨b, (ba, sc'), Nat.le_refl _, hbN, hb, rfl⟩
                  · cases h2
              · cases h2
    · cases h
  · cases h
end ops
end Ev
end
section
namespace Ev
open Go Go.RowKit

theorem flat_eq : ∀ (n : Nat) (u : Value), flat n u = true → ∀ {ρ : Env} {v : Value}, VR ρ u v → v = u := by
  intro n
  induction n with
  | zero => intro u h; cases h
  | succ n ih =>
    intro u h ρ v hr
    have hl : ∀ (us vs : List Value), us.all (flat n) = true → us.length = vs.length → (∀ (i : Nat) (u v : Value), us[i]? = some u → vs[i]? = some v → VR ρ u v) → vs = us := fun us vs hu hlen hall => by
      apply List.ext_getElem? 
      intro i
      cases hx : us[i]? with
      | none =>
        have : us.length ≤ i := List.getElem?_eq_none_iff.1 hx
        exact List.getElem?_eq_none_iff.2 (by omega)
      | some x =>
        have hi : i < us.length := (List.getElem?_eq_some_iff.1 hx).1
        have hy : vs[i]? = some vs[i] := List.getElem?_eq_getElem (by omega)
        rw [hy]
        rw [ih x (List.all_eq_true.1 hu x (List.mem_of_getElem? hx)) (hall i x vs[i] hx hy)]
    cases hr with
    | ptr e => cases h
    | sl e => cases h
    | soft e => cases h
    | map e => cases h
    | yld e => cases h
    | meth h1 h2 h3 h4 => cases h
    | iface r => rw [ih _ h r]
    | agg h1 h2 => rw [hl _ _ h h1 h2]
    | tuple h1 h2 => rw [hl _ _ h h1 h2]
    | @func f us vs xs ys h1 h2 h3 h4 =>
      have h' : (us.all (flat n) && xs.all (flat n)) = true := h
      rw [Bool.and_eq_true] at h'
      rw [hl _ _ h'.1 h1 h2, hl _ _ h'.2 h3 h4]
    | _ => rfl

section ops
variable {P : Program} {G : Nat} {ρ : Env} {T : PT Value} {H : HP} {N : Nat} {out : Out} {a : Act} {w : World} {o : Oper}
theorem pure_ok {u v : Value} (h : out = .v u [] N) (hrun : (execOp a.eval o).run P w = .ok (.value v) w) (hv : VR ρ u v) (hd : ∀ c, o.op ≠ .defer c) : OpOk P o ρ N out a w := by
  subst h
  exact ⟨Nat.le_refl _, fun hF ro mm K Q hK => wp_value hrun (hK _ _ _ (.refl P ρ N w) hv) hd⟩
theorem VL.flat_eq {us vs : List Value} (h : VL ρ us vs) (n : Nat) (hf : us.all (flat n) = true) : vs = us := by
  induction us generalizing vs with
  | nil => exact h.nil_inv
  | cons u us ih =>
    obtain ⟨v, vs, rfl, h1, h2⟩ := h.cons_inv
    simp only [List.all_cons, Bool.and_eq_true] at hf
    rw [Ev.flat_eq n u hf.1 h1, ih h2 hf.2]
theorem flat_ok (hT : TR ρ T a.tmps) (hG : Glob G ρ) (h : flatC P G T N o = .ok out) (hd : ∀ c, o.op ≠ .defer c) (hs : ∀ cs b, o.op ≠ .select cs b) : OpOk P o ρ N out a w := by
  unfold flatC at h
  obtain ⟨us, h1, hv, hat⟩ := vals_sound hT hG _ _ _ h
  cases hf : us.all (flat 5) with
  | false => rw [hf] at h1; cases h1
  | true =>
    rw [hf] at h1
    simp only [cond_true] at h1
    have heq := hv.flat_eq 5 hf
    have hcong : execOp (aevalD G T) o = execOp a.eval o := execOp_congr o hs (fun x hx => by
      obtain ⟨i, hi, hix⟩ := List.getElem_of_mem (show x ∈ o.op.operands.toList by simpa using hx)
      have hi' : o.op.operands.toList[i]? = some x := by rw [List.getElem?_eq_getElem hi, hix]
      obtain ⟨u, hu, hau⟩ := hat i x hi'
      have h2 : (o.op.operands.toList.map a.eval)[i]? = some (a.eval x) := by rw [List.getElem?_map, hi']; rfl
      rw [heq, hu] at h2
      cases h2
      simp only [aevalD, hau])
    rw [hcong] at h1
    split at h1
    · rename_i v hp
      rw [forceV_eq] at h1
      cases hfv : flat 5 v with
      | false => rw [hfv] at h1; cases h1
      | true =>
        rw [hfv] at h1
        cases h1
        exact pure_ok rfl (prun_run hp w) (flat_le 5 v hfv ρ) hd
    · cases h1
theorem orFlat_ok {r : Rs Value} (hT : TR ρ T a.tmps) (hG : Glob G ρ) (h : orFlat P G T N o r = .ok out) (hd : ∀ c, o.op ≠ .defer c) (hs : ∀ cs b, o.op ≠ .select cs b)
    (hr : ∀ u, r = .ok u → ∃ v, (execOp a.eval o).run P w = .ok (.value v) w ∧ VR ρ u v) : OpOk P o ρ N out a w := by
  unfold orFlat at h
  split at h
  · cases h
    obtain ⟨v, h1, h2⟩ := hr _ rfl
    exact pure_ok rfl h1 h2 hd
  · exact flat_ok hT hG h hd hs
end ops

/-! ### Whole numbers -/
theorem topN_unsigned (k : IntKind) : k.signed = false → (topN k : Int) = 2 ^ k.bits := by cases k <;> decide
theorem topN_signed (k : IntKind) : k.signed = true → (topN k : Int) = 2 ^ (k.bits - 1) := by cases k <;> decide
theorem wrap_lt {k : IntKind} {m : Nat} (h : m < topN k) : k.wrap (m : Int) = m := by
  have hb : (topN k : Int) ≤ 2 ^ k.bits := by cases k <;> decide
  have h1 : (m : Int) % (2 ^ k.bits : Int) = m := Int.emod_eq_of_lt (by omega) (by omega)
  unfold IntKind.wrap
  simp only [h1]
  cases hs : k.signed with
  | false => simp
  | true =>
    have := topN_signed k hs
    have : ¬ ((m : Int) ≥ 2 ^ (k.bits - 1)) := by omega
    simp [this]
theorem wrapF_eq (k : IntKind) (n : Int) : wrapF k n = k.wrap n := by
  unfold wrapF
  cases n with
  | negSucc m => rfl
  | ofNat m =>
    simp only []
    cases h : Nat.blt m (topN k) with
    | false => rfl
    | true =>
      have : m < topN k := by simp [Nat.blt, Nat.ble_eq] at h; omega
      exact (wrap_lt this).symm
theorem ltF_eq (a b : Int) : ltF a b = decide (a < b) := by
  cases a <;> cases b <;> simp only [ltF]
  · rename_i m n
    rw [Bool.eq_iff_iff]; simp [Nat.blt, Nat.ble_eq]; omega
  · rename_i m n
    simp; omega
  · rename_i m n
    simp; omega
  · rename_i m n
    rw [Bool.eq_iff_iff]; simp [Nat.blt, Nat.ble_eq]; omega
theorem eqF_eq (a b : Int) : eqF a b = (a == b) := by
  cases a <;> cases b <;> simp only [eqF] <;> rw [Bool.eq_iff_iff] <;> simp <;> omega
theorem bits_and {k : IntKind} {m n : Nat} (f : Nat → Nat → Nat) (g : ∀ {w : Nat}, BitVec w → BitVec w → BitVec w) (hg : ∀ {w : Nat} (x y : BitVec w), (g x y).toNat = f x.toNat y.toNat) (hm : m < topN k) (hn : n < topN k) (hf : ∀ {b : Nat} {x y : Nat}, x < 2 ^ b → y < 2 ^ b → f x y < 2 ^ b) :
    k.wrap ((g (BitVec.ofInt k.bits (m : Int)) (BitVec.ofInt k.bits (n : Int))).toNat : Int) = (f m n : Nat) := by
  have hb : ∃ b, topN k = 2 ^ b ∧ topN k ≤ 2 ^ k.bits := by cases k <;> first | exact ⟨7, by decide, by decide⟩ | exact ⟨8, by decide, by decide⟩ | exact ⟨15, by decide, by decide⟩ | exact ⟨16, by decide, by decide⟩ | exact ⟨31, by decide, by decide⟩ | exact ⟨32, by decide, by decide⟩ | exact ⟨63, by decide, by decide⟩ | exact ⟨64, by decide, by decide⟩
  obtain ⟨b, h1, h2⟩ := hb
  have e1 : (BitVec.ofInt k.bits (m : Int)).toNat = m := by
    rw [BitVec.ofInt_natCast, BitVec.toNat_ofNat, Nat.mod_eq_of_lt (by omega)]
  have e2 : (BitVec.ofInt k.bits (n : Int)).toNat = n := by
    rw [BitVec.ofInt_natCast, BitVec.toNat_ofNat, Nat.mod_eq_of_lt (by omega)]
  rw [hg, e1, e2]
  exact wrap_lt (by rw [h1]; exact hf (by omega) (by omega))
end Ev
end
section
namespace Ev
open Go Go.RowKit

theorem kindEq_eq {j k : IntKind} (h : kindEq j k = true) : j = k := by cases j <;> cases k <;> first | rfl | cases h
section
variable {P : Program} {w : World}
theorem eqGuard_int (op : BinOp) (t : TypeId) (x y : Operand) (j k : IntKind) (a b : Int) : (eqGuard op t x y (.int j a) (.int k b)).run P w = .ok () w := by
  cases op <;> rfl
theorem blt_spec {m n : Nat} (h : Nat.blt m n = true) : m < n := by simp [Nat.blt, Nat.ble_eq] at h; omega
theorem fastBin_run {op : BinOp} {t : TypeId} {k : IntKind} {a b : Int} {r : Value} (h : fastBin op k a b = some r) : (binOp op t (.int k a) (.int k b)).run P w = .ok r w := by
  cases op <;> simp only [fastBin] at h
  case add => cases h; simp [binOp, Op.intArith, wrapF_eq] <;> rfl
  case sub => cases h; simp [binOp, Op.intArith, wrapF_eq] <;> rfl
  case mul => cases h; simp [binOp, Op.intArith, wrapF_eq] <;> rfl
  case lss => cases h; simp [binOp, Op.intCmp, ltF_eq]
  case gtr => cases h; simp [binOp, Op.intCmp, ltF_eq]
  case leq => cases h; have : decide (a ≤ b) = !decide (b < a) := (by rw [Bool.eq_iff_iff]; simp); simp [binOp, Op.intCmp, ltF_eq, this]
  case geq => cases h; have : decide (b ≤ a) = !decide (a < b) := (by rw [Bool.eq_iff_iff]; simp); simp [binOp, Op.intCmp, ltF_eq, this]
  case eql => cases h; simp [binOp, Op.intCmp, eqF_eq]
  case neq => cases h; simp [binOp, Op.intCmp, eqF_eq]; rfl
  case quo =>
    split at h
    · cases h
      rename_i m n
      have hne : ¬ ((Int.ofNat (n + 1)) = 0) := by rw [Int.ofNat_eq_natCast]; omega
      simp only [binOp, Op.intDiv, ne_eq, not_true_eq_false, if_false, wrapF_eq]
      rw [if_neg hne]
      rfl
    · cases h
  case rem =>
    split at h
    · cases h
      rename_i m n
      have hne : ¬ ((Int.ofNat (n + 1)) = 0) := by rw [Int.ofNat_eq_natCast]; omega
      simp only [binOp, Op.intDiv, ne_eq, not_true_eq_false, if_false]
      rw [if_neg hne]
      rfl
    · cases h
  case and =>
    split at h
    · rename_i m n
      cases hc : (Nat.blt m (topN k) && Nat.blt n (topN k)) with
      | false => rw [hc] at h; cases h
      | true =>
        rw [hc] at h; cases h
        rw [Bool.and_eq_true] at hc
        have := bits_and (k := k) Nat.land (fun x y => x &&& y) (fun x y => BitVec.toNat_and x y) (blt_spec hc.1) (blt_spec hc.2) (fun h1 _ => Nat.and_lt_two_pow _ ‹_›)
        simp only [binOp, Op.intBits, ne_eq, not_true_eq_false, if_false, Int.ofNat_eq_natCast]
        rw [this]; rfl
    · cases h
  case or =>
    split at h
    · rename_i m n
      cases hc : (Nat.blt m (topN k) && Nat.blt n (topN k)) with
      | false => rw [hc] at h; cases h
      | true =>
        rw [hc] at h; cases h
        rw [Bool.and_eq_true] at hc
        have := bits_and (k := k) Nat.lor (fun x y => x ||| y) (fun x y => BitVec.toNat_or x y) (blt_spec hc.1) (blt_spec hc.2) (fun h1 h2 => Nat.or_lt_two_pow h1 h2)
        simp only [binOp, Op.intBits, ne_eq, not_true_eq_false, if_false, Int.ofNat_eq_natCast]
        rw [this]; rfl
    · cases h
  case xor =>
    split at h
    · rename_i m n
      cases hc : (Nat.blt m (topN k) && Nat.blt n (topN k)) with
      | false => rw [hc] at h; cases h
      | true =>
        rw [hc] at h; cases h
        rw [Bool.and_eq_true] at hc
        have := bits_and (k := k) Nat.xor (fun x y => x ^^^ y) (fun x y => BitVec.toNat_xor x y) (blt_spec hc.1) (blt_spec hc.2) (fun h1 h2 => Nat.xor_lt_two_pow h1 h2)
        simp only [binOp, Op.intBits, ne_eq, not_true_eq_false, if_false, Int.ofNat_eq_natCast]
        rw [this]; rfl
    · cases h
  all_goals cases h
theorem fastSh_run {op : BinOp} {t : TypeId} {j k : IntKind} {a b : Int} {r : Value} (h : fastSh op j a b = some r) : (binOp op t (.int j a) (.int k b)).run P w = .ok r w := by
  unfold fastSh at h
  split at h
  · rename_i m n
    cases hn : Nat.ble n 64 with
    | false => rw [hn] at h; cases h
    | true =>
      rw [hn] at h
      simp only [cond_true] at h
      split at h
      · cases hb : Nat.ble n j.bits with
        | false => rw [hb] at h; cases h
        | true =>
          rw [hb] at h; cases h
          have hb := Nat.le_of_ble_eq_true hb
          have h0 : ¬ ((Int.ofNat n) < 0) := by simp
          simp only [binOp, Op.shift, if_neg h0]
          have : min (Int.ofNat n).toNat j.bits = n := by simp; omega
          rw [this]
          simp only [Sem.run_pure]
          congr 3
      · cases hb : Nat.ble n j.bits with
        | false => rw [hb] at h; cases h
        | true =>
          rw [hb] at h; cases h
          have hb := Nat.le_of_ble_eq_true hb
          have h0 : ¬ ((Int.ofNat n) < 0) := by simp
          simp only [binOp, Op.shift, if_neg h0]
          have : min (Int.ofNat n).toNat j.bits = n := by simp; omega
          rw [this]
          simp only [Sem.run_pure]
          have e : (Int.ofNat m).fdiv (2 ^ n) = Int.ofNat (m.div (Nat.pow 2 n)) := by
            rw [show (2 : Int) ^ n = ((2 ^ n : Nat) : Int) by simp]
            exact (Int.ofNat_fdiv m (2 ^ n)).symm
          rw [e]
      · cases h
  · cases h
theorem nilEq_run {t : TypeId} {x y : Value} {b : Bool} (h : nilEq (P.underlying t) x y = some b) (n : Nat) : (Op.equalIn (n + 1) t x y).run P w = .ok b w := by
  unfold nilEq at h
  simp only [Op.equalIn, underlying, Sem.run_bind, run_program, Result.andThen_ok]
  split at h <;> first | (cases h; done) | (rename_i hu; cases h; rw [hu]; rfl)
end
end Ev
end
section
namespace Ev
open Go Go.RowKit

section
variable {P : Program} {G : Nat} {ρ : Env} {T : PT Value} {H : HP} {N : Nat} {out : Out} {a : Act} {w : World} {dst : Option Tmp} {type : TypeId} {pos : String} {after : Array Edge} {guard : Option (Nat × Bool)}
theorem nilEq_VR {d : Option TypeDesc} {u v u' v' : Value} {b : Bool} (h1 : VR ρ u u') (h2 : VR ρ v v') (h : nilEq d u v = some b) : nilEq d u' v' = some b := by
  unfold nilEq at h
  split at h <;> cases h <;> cases h1 <;> cases h2 <;> rfl
theorem eqGuard_nil {op : BinOp} {t : TypeId} {x y : Operand} {d : Option TypeDesc} {u v : Value} {b : Bool} (h : nilEq d u v = some b) : (eqGuard op t x y u v).run P w = .ok () w := by
  unfold nilEq at h
  split at h <;> cases h <;> cases op <;> rfl
theorem binOp_nil {op : BinOp} {t : TypeId} {u v : Value} {b : Bool} (ho : op = .eql ∨ op = .neq) (h : nilEq (P.underlying t) u v = some b) : (binOp op t u v).run P w = .ok (.bool (if op = .eql then b else !b)) w := by
  have h2 := nilEq_run (P := P) (w := w) h 9999
  have h3 : (Op.equal t u v).run P w = .ok b w := h2
  have h4 : binOp op t u v = (if op = .eql then (do pure (.bool (← Op.equal t u v))) else (do pure (.bool (!(← Op.equal t u v))))) := by
    unfold nilEq at h
    rcases ho with rfl | rfl <;> (split at h <;> first | (cases h; done) | rfl)
  rw [h4]
  rcases ho with rfl | rfl
  · simp [h3]
  · simp [h3]
theorem binC_sound {op : BinOp} {t : TypeId} {x y : Operand} {u v u' v' r : Value} (h1 : VR ρ u u') (h2 : VR ρ v v') (h : binC P op t u v = some r) :
    (do eqGuard op t x y u' v'; binOp op t u' v' : Sem Value).run P w = .ok r w ∧ VR ρ r r := by
  unfold binC at h
  split at h
  · rename_i j a k b
    cases h1
    cases h2
    have hg := eqGuard_int (P := P) (w := w) op t x y j k a b
    rw [Sem.run_bind, hg, Result.andThen_ok]
    split at h
    · refine ⟨fastSh_run h, ?_⟩
      unfold fastSh at h; split at h <;> first | (cases h; done) | skip
      rename_i m n
      cases hn : Nat.ble n 64 with
      | false => rw [hn] at h; cases h
      | true =>
        rw [hn] at h; simp only [cond_true] at h
        cases hb : Nat.ble n j.bits with
        | false => rw [hb] at h; cases h
        | true => rw [hb] at h; cases h; constructor
    · refine ⟨fastSh_run h, ?_⟩
      unfold fastSh at h; split at h <;> first | (cases h; done) | skip
      rename_i m n
      cases hn : Nat.ble n 64 with
      | false => rw [hn] at h; cases h
      | true =>
        rw [hn] at h; simp only [cond_true] at h
        cases hb : Nat.ble n j.bits with
        | false => rw [hb] at h; cases h
        | true => rw [hb] at h; cases h; constructor
    · cases hk : kindEq j k with
      | false => rw [hk] at h; cases h
      | true =>
        rw [hk] at h
        simp only [cond_true] at h
        obtain rfl := kindEq_eq hk
        refine ⟨fastBin_run h, ?_⟩
        cases op <;> simp only [fastBin] at h <;> first
          | (cases h; constructor; done)
          | (split at h <;> first | (cases h; done) | (cases h; constructor; done) | (rename_i m n; cases hc : (Nat.blt m (topN j) && Nat.blt n (topN j)) <;> rw [hc] at h <;> cases h <;> constructor))
          | (cases h; done)
  · split at h
    · cases hn : nilEq (P.underlying t) u v with
      | none => rw [hn] at h; cases h
      | some b =>
        rw [hn] at h; cases h
        have hn' := nilEq_VR h1 h2 hn
        refine ⟨?_, .bool _⟩
        rw [Sem.run_bind, eqGuard_nil hn', Result.andThen_ok, binOp_nil (.inl rfl) hn']
        rfl
    · cases hn : nilEq (P.underlying t) u v with
      | none => rw [hn] at h; cases h
      | some b =>
        rw [hn] at h; cases h
        have hn' := nilEq_VR h1 h2 hn
        refine ⟨?_, .bool _⟩
        rw [Sem.run_bind, eqGuard_nil hn', Result.andThen_ok, binOp_nil (.inr rfl) hn']
        rfl
    · cases h
theorem binOp_ok {op : BinOp} {t yt : TypeId} {x y : Operand} (hT : TR ρ T a.tmps) (hG : Glob G ρ)
    (h : (match aeval G T x, aeval G T y with
      | some u, some v => (match binC P op t u v with
        | some r => forceV r fun r => Rs.ok (.v r [] N)
        | none => flatC P G T N ⟨dst, .binOp op t x y yt, type, pos, after, guard⟩)
      | _, _ => .bad 116) = Rs.ok out) : OpOk P ⟨dst, .binOp op t x y yt, type, pos, after, guard⟩ ρ N out a w := by
  split at h
  · rename_i u v hx hy
    split at h
    · rename_i r hr
      rw [forceV_eq] at h
      cases h
      obtain ⟨h1, h2⟩ := binC_sound (w := w) (x := x) (y := y) (aeval_sound hT hG hx) (aeval_sound hT hG hy) hr
      refine pure_ok rfl (v := r) ?_ h2 (fun _ h => (by cases h))
      simp only [execOp]
      rw [Sem.run_bind, h1]
      rfl
    · exact flat_ok hT hG h (fun _ h => (by cases h)) (fun _ _ h => (by cases h))
  · cases h
theorem unOp_ok {op : UnOp} {t : TypeId} {x : Operand} (hT : TR ρ T a.tmps) (hG : Glob G ρ)
    (h : (match aeval G T x with
    | some u => (match unC op u with
      | some r => forceV r fun r => Rs.ok (.v r [] N)
      | none => flatC P G T N ⟨dst, .unOp op t x, type, pos, after, guard⟩)
    | none => .bad 160) = Rs.ok out) : OpOk P ⟨dst, .unOp op t x, type, pos, after, guard⟩ ρ N out a w := by
  split at h
  · rename_i u hx
    split at h
    · rename_i r hr
      rw [forceV_eq] at h
      cases h
      have h1 := aeval_sound hT hG hx
      unfold unC at hr
      split at hr
      · cases hr
        generalize hv : a.eval x = v at h1
        cases h1
        exact pure_ok rfl (by simp only [execOp, hv]; rfl) (.bool _) (fun _ h => (by cases h))
      · cases hr
        generalize hv : a.eval x = v at h1
        cases h1
        exact pure_ok rfl (by simp only [execOp, hv, Op.unary, Op.intArith, wrapF_eq]; rfl) (.int _ _) (fun _ h => (by cases h))
      · cases hr
    · exact flat_ok hT hG h (fun _ h => (by cases h)) (fun _ _ h => (by cases h))
  · cases h
theorem convert_ok {s d : TypeId} {x : Operand} (hT : TR ρ T a.tmps) (hG : Glob G ρ)
    (h : (match aeval G T x with
    | some u => (match convC P s d u with
      | some r => forceV r fun r => Rs.ok (.v r [] N)
      | none => flatC P G T N ⟨dst, .convert s d x, type, pos, after, guard⟩)
    | none => .bad 161) = Rs.ok out) : OpOk P ⟨dst, .convert s d x, type, pos, after, guard⟩ ρ N out a w := by
  split at h
  · rename_i u hx
    split at h
    · rename_i r hr
      rw [forceV_eq] at h
      cases h
      have h1 := aeval_sound hT hG hx
      unfold convC at hr
      split at hr
      · rename_i ds k j n hs hd
        cases hr
        generalize hv : a.eval x = v at h1
        cases h1
        refine pure_ok rfl (v := .int k (wrapF k n)) ?_ (.int _ _) (fun _ h => (by cases h))
        have : ∀ (dd : TypeDesc), (convert s d (.int j n)).run P w = .ok (.int k (wrapF k n)) w := fun _ => by
          simp only [convert, underlying, Sem.run_bind, run_program, Result.andThen_ok, hs, hd, Sem.run_pure, wrapF_eq]
          cases ds <;> rfl
        simp only [execOp, hv, Sem.run_bind, this ds]
        rfl
      · cases hr
    · exact flat_ok hT hG h (fun _ h => (by cases h)) (fun _ _ h => (by cases h))
  · cases h
end
end Ev
end
end Go.Proofs.YtadpelhmjmamnaaGreatDoor

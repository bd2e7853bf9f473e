/- What the kernel reckons of a prime divisor q, and what it sa. -/
import Derived.Test.YtcjgilagldbjnaaGreatDoorPkBb29
namespace Go.Proofs.YtcjgilagldbjnaaGreatDoor
/-! Great divisors: q divides 2^k - 1, 7^k - 1, 61^k - 1, k = n / q - 1. -/
noncomputable def strip (S : Nat) (c : Nat) : Nat → Bool := Nat.rec (fun r => Nat.beq r (nat_lit 1)) (fun _ ih r => strict r fun r => ih (Nat.div r (Nat.gcd r S))) c
theorem strip_says {S q : Nat} (hq : Pr q) (hS : ¬ q ∣ S) : ∀ (c r : Nat), strip S c r = true → ¬ q ∣ r
 | 0, r, h => fun hd => by
  have h : Nat.beq r 1 = true := h
  have := Nat.eq_of_beq_eq_true h
  subst this
  exact hq.not_dvd_one hd
 | c + 1, r, h => fun hd => by
  have h : strict r (fun r => strip S c (r / Nat.gcd r S)) = true := h
  rw [strict_eq] at h
  refine strip_says hq hS c _ h ?_
  have e : r = Nat.gcd r S * (r / Nat.gcd r S) := (Nat.mul_div_cancel' (Nat.gcd_dvd_left r S)).symm
  rw [e] at hd
  rcases hq.dvd_mul hd with h1 | h1
  ·exact absurd (Nat.dvd_trans h1 (Nat.gcd_dvd_right r S)) hS
  ·exact h1
noncomputable def big (S : Nat) (k : Nat) : Bool := strip S (nat_lit 10) (Nat.gcd (Nat.gcd (Nat.pred (Nat.pow (nat_lit 2) k)) (Nat.pred (Nat.pow (nat_lit 7) k))) (Nat.pred (Nat.pow (nat_lit 61) k)))
theorem dvd_pred {q x : Nat} (h : x % q = 1) : q ∣ x - 1 := ⟨x / q, by have := Nat.div_add_mod x q; omega⟩
theorem big_says {S q k : Nat} (hq : Pr q) (hS : ¬ q ∣ S) (h : big S k = true) (hb : B3 q k) : False :=
 strip_says hq hS _ _ h (Nat.dvd_gcd (Nat.dvd_gcd (dvd_pred hb.1) (dvd_pred hb.2.1)) (dvd_pred hb.2.2))
/-! A range of numbers, step 2. -/
noncomputable def range2 (f : Nat → Bool) (c : Nat) : Nat → Bool := Nat.rec (fun _ => true) (fun _ ih n => ite3 (f n) (strict (Nat.add n (nat_lit 2)) ih) false) c
theorem range2_says (f : Nat → Bool) : ∀ (c n : Nat), range2 f c n = true → ∀ j, j < c → f (n + 2 * j) = true
 | 0, _, _, j, hj => by omega
 | c + 1, n, h, j, hj => by
  have h : ite3 (f n) (strict (n + 2) (range2 f c)) false = true := h
  obtain ⟨h1, h2⟩ := and3 h
  rw [strict_eq] at h2
  cases j with
  | zero => simpa using h1
  | succ j =>
   have := range2_says f c (n + 2) h2 j (by omega)
   rwa [show n + 2 + 2 * j = n + 2 * (j + 1) from by omega] at this
/-! The least number that will do at a prime q. -/
noncomputable def test3 (q f d : Nat) : Bool := ite3 (Nat.beq (Nat.mod d f) (nat_lit 0)) (ite3 (Nat.beq (Nat.mod (Nat.pow (nat_lit 2) (Nat.div d f)) q) (nat_lit 1)) (ite3 (Nat.beq (Nat.mod (Nat.pow (nat_lit 7) (Nat.div d f)) q) (nat_lit 1)) (Nat.beq (Nat.mod (Nat.pow (nat_lit 61) (Nat.div d f)) q) (nat_lit 1)) false) false) false
theorem test3_true {q f d : Nat} (h : test3 q f d = true) : f ∣ d ∧ B3 q (d / f) := by
 obtain ⟨h0, h⟩ := and3 h
 obtain ⟨h1, h⟩ := and3 h
 obtain ⟨h2, h3⟩ := and3 h
 exact ⟨Nat.dvd_of_mod_eq_zero (Nat.eq_of_beq_eq_true h0), Nat.eq_of_beq_eq_true h1, Nat.eq_of_beq_eq_true h2, Nat.eq_of_beq_eq_true h3⟩
theorem test3_false {q f d : Nat} (h : test3 q f d = false) : Min3 q f d := fun hd hb => by
 have e0 : Nat.beq (d % f) 0 = true := by rw [Nat.mod_eq_zero_of_dvd hd]; rfl
 have e1 : Nat.beq (2 ^ (d / f) % q) 1 = true := by rw [hb.1]; rfl
 have e2 : Nat.beq (7 ^ (d / f) % q) 1 = true := by rw [hb.2.1]; rfl
 have e3 : Nat.beq (61 ^ (d / f) % q) 1 = true := by rw [hb.2.2]; rfl
 have : test3 q f d = true := by
  show ite3 (Nat.beq (d % f) 0) (ite3 (Nat.beq (2 ^ (d / f) % q) 1) (ite3 (Nat.beq (7 ^ (d / f) % q) 1) (Nat.beq (61 ^ (d / f) % q) 1) false) false) false = true
  rw [e0, e1, e2, e3]; rfl
 rw [this] at h; cases h
noncomputable def lower (q f : Nat) (c : Nat) : Nat → (Nat → Bool) → Bool := Nat.rec (fun d K => K d) (fun _ ih d K => ite3 (test3 q f d) (strict (Nat.div d f) fun d => ih d K) (K d)) c
theorem lower_says {q f : Nat} (hf : 2 ≤ f) (K : Nat → Bool) : ∀ (c d : Nat), lower q f c d K = true → 0 < d → d < 2 ^ c → B3 q d → ∃ d', K d' = true ∧ 0 < d' ∧ d' ∣ d ∧ B3 q d' ∧ Min3 q f d'
 | 0, d, _, h0, hc, _ => by simp at hc; omega
 | c + 1, d, h, h0, hc, hb => by
  have h : ite3 (test3 q f d) (strict (d / f) fun d => lower q f c d K) (K d) = true := h
  cases ht : test3 q f d with
  | true =>
   rw [ht] at h
   have h : strict (d / f) (fun d => lower q f c d K) = true := h
   rw [strict_eq] at h
   obtain ⟨hd, hb'⟩ := test3_true ht
   have hle : d / f ≤ d / 2 := Nat.div_le_div_left hf (by omega)
   have hpos : 0 < d / f := Nat.div_pos (Nat.le_of_dvd h0 hd) (by omega)
   obtain ⟨d', h1, h2, h3, h4, h5⟩ := lower_says hf K c (d / f) h hpos (by rw [Nat.pow_succ] at hc; omega) hb'
   exact ⟨d', h1, h2, Nat.dvd_trans h3 (Nat.div_dvd_of_dvd hd), h4, h5⟩
  | false =>
   rw [ht] at h
   exact ⟨d, h, h0, Nat.dvd_refl d, hb, test3_false ht⟩
noncomputable def lowers (q : Nat) (fs : List Nat) : Nat → (Nat → Bool) → Bool := List.rec (fun d K => K d) (fun f _ ih d K => lower q f (nat_lit 18) d fun d => ih d K) fs
theorem lowers_says {q : Nat} (hq : 1 < q) (K : Nat → Bool) : ∀ (fs : List Nat) (d : Nat), lowers q fs d K = true → (∀ f ∈ fs, 2 ≤ f) → 0 < d → d < 262144 → B3 q d → ∃ d', K d' = true ∧ 0 < d' ∧ d' ∣ d ∧ B3 q d' ∧ ∀ f ∈ fs, Min3 q f d'
 | [], d, h, _, h0, _, hb => ⟨d, h, h0, Nat.dvd_refl d, hb, fun f hf => by cases hf⟩
 | f :: fs, d, h, hfs, h0, hd, hb => by
  have h : lower q f 18 d (fun d => lowers q fs d K) = true := h
  obtain ⟨d1, k1, k2, k3, k4, k5⟩ := lower_says (hfs f List.mem_cons_self) _ 18 d h h0 (by simpa using hd) hb
  have hd1 := Nat.le_of_dvd h0 k3
  obtain ⟨d2, l1, l2, l3, l4, l5⟩ := lowers_says hq K fs d1 k1 (fun x hx => hfs x (List.mem_cons_of_mem _ hx)) k2 (by omega) k4
  refine ⟨d2, l1, l2, Nat.dvd_trans l3 k3, l4, fun x hx => ?_⟩
  rcases List.mem_cons.1 hx with rfl | hx
  ·exact k5.of_dvd hq (by have := hfs x List.mem_cons_self; omega) l3
  ·exact l5 x hx
def small : List Nat := [2, 3, 5, 7, 11, 13, 17, 19, 23, 29, 31, 37, 41, 43, 47, 53, 59, 61, 67, 71, 73, 79, 83, 89, 97, 101, 103, 107, 109, 113, 127, 131, 137, 139, 149, 151, 157, 163, 167, 173, 179, 181, 191, 193, 197, 199, 211, 223, 227, 229, 233, 239, 241, 251, 257, 263, 269, 271, 277, 281, 283, 293, 307, 311, 313, 317, 331, 337, 347, 349, 353, 359, 367, 373, 379, 383, 389, 397, 401, 409, 419, 421, 431, 433, 439, 443, 449, 457, 461, 463, 467, 479, 487, 491, 499, 503, 509]
def smallAll : Nat := nat_lit 31964081287196888554640742530273949712805599189441373009521636182430667982828077742788853029807931798207106885718293402541861369758591699412090677759187666930105491469725350718941073722934985042092154205321144030
noncomputable def smallPow : Nat := nat_lit 1213165568702959336507777783908621725127213611075931006410121267960936316890354801357562940917913857884825189452153089439034122617611638924919155631260723809228682490464388124158050151178530728734587654527480329999627560401521719934225479244793961514486067102019606597037767859750028576226595365122217992806000125861008995008300238702279806138001877272879395223069770007134291140120551810201037320992078459006540086187090680756124971392098637086804971781197159194428356490157621728596529524895999459037029996661317833437422811415437913774026632056923763376009116528865382370970973110867905282030296979753090985949449193428839868834032746495210989660889782868446462391600644402048915113775734958299657430411184207456607774106581841551668915333027079799473081840967083117641387729902593063911491718867296212405603539038383183254163188012319754507953984736377321765701376686171969365785921818822682479784021047903198018274443343474267509154450275918243034124589519818486936627250809252608335659470732656496179897321917681624696806881305963415728135654859276696638715857605906190154076661482274002437446125379538048527173961079509537841564720281121411528329617135082315296253083783833741644380994633458844163116871401941527021402673567458809708225318131185900961392682667266051789193787744613939224454747111806791282744002599707679931308554484100920294275622627548852588493646426677641036186116110256781992171856988612177604643506722290605450297899070984946098291391037951953295785040040052989300571571533500334876235726518652703521374673184882716466962260801522342502463406427672522583531048238729638866878792172151487595241833537170040740972530424810242505796059833349011252389345279804970664900568131325311943678045077877814131266947381134121130844933424363991518992535082660672275694280996568948121562765245586000689221906436329569646000819976648507358281707821822221117805377776102357610977649401318795554100386672575524389409748166489066054040835535406875846049452972106303754850396704395265191378187200683555737374657347334423080790529599517950026434847713586113431457071194873485622960784774102526022035171679132437621208931195039622848887866090411983345975526382572852774654760683328655679327442591986753104739522750899425445016549606337122903996317318013246008478768459250417198859762999509509860351394177679645999954264468362503551784686655216367345399812226326970755041504183992042134640199340169233955511559023235251354049506938567723451488361074704283505748613138222401114950346251829717085608942364277448239944685879761543967080490968187168479132040534857828970000851160476493927149544708653296828760272276652173979361315243078385326284500678587875187304001396667350462737346963532064443167273655374810667804953729113023613234624512023642030375556570135918166421484246163376336791172579046767805310601952127234175917650915471723877015189841051650670969733110355756389108762036522969190834927309298109775457401488211794075780214726281964035469625223442801600698401198790570746390405220388459324454875593424919002288859989841240878371416021339760925377585839486225314680784210101580293436109152100624694079356225488101455122796787595360075000820361438263730734499513084444418982155519438902808021529501238559543442227454117917828336671698419735120135592253865026798634703484072411497902799210545297858320774379024220544851577994046587823173080974260822965341342395951059470569050427532887895752411194317007299606872057721490102793864744088129703536575840171384256332852545627378235206536863619383677293829776839922357275674610019288923445093221444649025885412687388352174922421120358355958393294155463261243071877373487193958831979263556561562694064636370104499352749665821714297482114190564549379334376269321484443310314652870891599350680970796162866831989043810280584275330750089000000000000000000
def prodL : List Nat → Nat
 | [] => 1
 | x :: xs => x * prodL xs
theorem smallAll_eq : prodL small = smallAll := by decide +kernel
theorem smallPow_eq : smallPow = smallAll ^ 18 := by decide +kernel
theorem dvd_prodL : ∀ {l : List Nat} {x : Nat}, x ∈ l → x ∣ prodL l
 | y :: l, x, h => by
  rcases List.mem_cons.1 h with rfl | h
  ·exact ⟨prodL l, rfl⟩
  ·exact Nat.dvd_trans (dvd_prodL h) ⟨y, by rw [prodL, Nat.mul_comm]⟩
theorem Pr.of_prodL {p : Nat} (hp : Pr p) : ∀ {l : List Nat}, p ∣ prodL l → ∃ x ∈ l, p ∣ x
 | [], h => absurd h hp.not_dvd_one
 | y :: l, h => by
  rcases hp.dvd_mul h with h | h
  ·exact ⟨y, List.mem_cons_self, h⟩
  ·obtain ⟨x, hx, hd⟩ := hp.of_prodL h
   exact ⟨x, List.mem_cons_of_mem _ hx, hd⟩
theorem small_bounds : ∀ x ∈ small, 2 ≤ x ∧ x < 512 := by decide +kernel
def smallHas (k : Nat) : Bool := k < 2 || small.contains k || small.any fun d => d < k && k % d == 0
theorem small_has : (List.range 512).all smallHas = true := by decide +kernel
theorem Pr.in_small {p : Nat} (hp : Pr p) (h : p < 512) : p ∈ small := by
 have h1 := List.all_eq_true.1 small_has p (List.mem_range.2 h)
 have h2 := hp.1
 unfold smallHas at h1
 rw [Bool.or_eq_true, Bool.or_eq_true] at h1
 rcases h1 with (h1 | h1) | h1
 ·have : p < 2 := by simpa using h1
  omega
 ·simpa using h1
 ·obtain ⟨d, hd, h3⟩ := List.any_eq_true.1 h1
  rw [Bool.and_eq_true] at h3
  have h4 : d < p := by simpa using h3.1
  have h5 : p % d = 0 := by simpa using h3.2
  have := small_bounds d hd
  rcases hp.2 d (Nat.dvd_of_mod_eq_zero h5) with e | e <;> omega
theorem Pr.small_iff {p : Nat} (hp : Pr p) : p ∣ smallAll ↔ p < 512 := by
 rw [← smallAll_eq]
 refine ⟨fun h => ?_, fun h => dvd_prodL (hp.in_small h)⟩
 obtain ⟨x, hx, hd⟩ := hp.of_prodL h
 have := small_bounds x hx
 have := Nat.le_of_dvd (by omega) hd
 omega
noncomputable def lastly (q d : Nat) (K : Nat → Bool) : Bool := strict (Nat.div d (Nat.gcd d smallPow)) fun r => ite3 (Nat.beq r (nat_lit 1)) (K d) (ite3 (Nat.ble (nat_lit 2) r) (ite3 (Nat.beq (Nat.gcd r smallAll) (nat_lit 1)) (lower q r (nat_lit 18) d K) false) false)
theorem lastly_says {q d : Nat} (hq : 1 < q) (K : Nat → Bool) (h : lastly q d K = true) (h0 : 0 < d) (hd : d < 262144) (hb : B3 q d) (hm : ∀ f ∈ small, Min3 q f d) :
  ∃ d', K d' = true ∧ 0 < d' ∧ B3 q d' ∧ ∀ f, Pr f → Min3 q f d' := by
 unfold lastly at h
 rw [strict_eq] at h
 have hg : Nat.gcd d smallPow ∣ d := Nat.gcd_dvd_left _ _
 have hgs : Nat.gcd d smallPow ∣ smallPow := Nat.gcd_dvd_right _ _
 have hdg : d = Nat.gcd d smallPow * (d / Nat.gcd d smallPow) := (Nat.mul_div_cancel' hg).symm
 change ite3 (Nat.beq (d / Nat.gcd d smallPow) 1) (K d) (ite3 (Nat.ble 2 (d / Nat.gcd d smallPow)) (ite3 (Nat.beq (Nat.gcd (d / Nat.gcd d smallPow) smallAll) 1) (lower q (d / Nat.gcd d smallPow) 18 d K) false) false) = true at h
 generalize d / Nat.gcd d smallPow = r at hdg h
 generalize Nat.gcd d smallPow = g at hg hgs hdg
 -- a prime from 512 on that divides d divides r
 have hfr : ∀ f, Pr f → 512 ≤ f → f ∣ d → f ∣ r := fun f hf h5 hfd => by
  rw [hdg] at hfd
  rcases hf.dvd_mul hfd with h1 | h1
  ·have h2 := Nat.dvd_trans h1 hgs
   rw [smallPow_eq] at h2
   have := hf.small_iff.1 (hf.dvd_pow h2)
   omega
  ·exact h1
 cases h1 : Nat.beq r 1 with
 | true =>
  rw [h1] at h
  have hr := Nat.eq_of_beq_eq_true h1
  refine ⟨d, h, h0, hb, fun f hf => ?_⟩
  rcases Nat.lt_or_ge f 512 with h5 | h5
  ·exact hm f (hf.in_small h5)
  ·intro hfd
   have := hfr f hf h5 hfd
   rw [hr] at this
   exact absurd this hf.not_dvd_one
 | false =>
  rw [h1] at h
  obtain ⟨h2, h⟩ := and3 (c := Nat.ble 2 r) (a := ite3 (Nat.beq (Nat.gcd r smallAll) 1) (lower q r 18 d K) false) h
  obtain ⟨h3, h⟩ := and3 h
  have h2 : 2 ≤ r := Nat.le_of_ble_eq_true h2
  have h3 : Nat.gcd r smallAll = 1 := Nat.eq_of_beq_eq_true h3
  obtain ⟨d', k1, k2, k3, k4, k5⟩ := lower_says h2 K 18 d h h0 (by simpa using hd) hb
  refine ⟨d', k1, k2, k4, fun f hf => ?_⟩
  rcases Nat.lt_or_ge f 512 with h5 | h5
  ·exact (hm f (hf.in_small h5)).of_dvd hq hf.pos k3
  ·intro hfd
   obtain ⟨e, he⟩ := hfr f hf h5 (Nat.dvd_trans hfd k3)
   have hrd : r ≤ d := by rw [hdg]; exact Nat.le_mul_of_pos_left r (Nat.pos_of_ne_zero fun h => by subst h; omega)
   have he5 : e < 512 := by
    rcases Nat.lt_or_ge e 512 with h6 | h6
    ·exact h6
    ·have : 512 * 512 ≤ f * e := Nat.mul_le_mul h5 h6
     omega
   have he1 : e = 1 := by
    rcases Nat.lt_or_ge e 2 with h6 | h6
    ·rcases Nat.eq_zero_or_pos e with h7 | h7
     ·subst h7; omega
     ·omega
    ·obtain ⟨p, hp, hpe⟩ := exists_pr e h6
     have hp5 : p < 512 := Nat.lt_of_le_of_lt (Nat.le_of_dvd (by omega) hpe) he5
     have := Nat.dvd_gcd (show p ∣ r from by rw [he]; exact Nat.dvd_trans hpe ⟨f, Nat.mul_comm _ _⟩) (hp.small_iff.2 hp5)
     rw [h3] at this
     exact absurd this hp.not_dvd_one
   have : r = f := by rw [he, he1, Nat.mul_one]
   exact this ▸ k5 <| hfd
noncomputable def order3 (q : Nat) (K : Nat → Bool) : Bool := lowers q small (Nat.pred q) fun d => lastly q d K
theorem order3_says {q : Nat} (hp : Pr q) (hlt : q < 262144) (hb : B3 q (q - 1)) (K : Nat → Bool) (h : order3 q K = true) : ∃ d, K d = true ∧ 0 < d ∧ ∀ k, B3 q k → d ∣ k := by
 have hq := hp.1
 obtain ⟨d, h1, h2, h3, h4, h5⟩ := lowers_says hq _ small (q - 1) h (fun f hf => (small_bounds f hf).1) (by omega) (by omega) hb
 have hd := Nat.le_of_dvd (by omega) h3
 obtain ⟨d', k1, k2, k3, k4⟩ := lastly_says hq K h1 h2 (by omega) h4 h5
 exact ⟨d', k1, k2, fun k hk => order_dvd hq k2 k3 k4 hk⟩
/-! Products -/
noncomputable def scan (P L : Nat) (c : Nat) : Nat → Bool := Nat.rec (fun _ => true) (fun _ ih t => ite3 (ite3 (Nat.beq t (nat_lit 1)) true (strict (Nat.mul P t) bad)) (strict (Nat.add t L) ih) false) c
theorem scan_says (P L : Nat) : ∀ (c t : Nat), scan P L c t = true → ∀ j, j < c → t + L * j ≠ 1 → bad (P * (t + L * j)) = true
 | 0, _, _, j, hj => by omega
 | c + 1, t, h, j, hj => fun hne => by
  have h : ite3 (ite3 (Nat.beq t 1) true (strict (P * t) bad)) (strict (t + L) (scan P L c)) false = true := h
  obtain ⟨h1, h2⟩ := and3 h
  rw [strict_eq] at h2
  cases j with
  | zero =>
   rw [Nat.mul_zero, Nat.add_zero] at hne ⊢
   have : Nat.beq t 1 = false := Bool.eq_false_iff.2 fun e => hne (Nat.eq_of_beq_eq_true e)
   rw [this] at h1
   have h1 : strict (P * t) bad = true := h1
   rwa [strict_eq] at h1
  | succ j =>
   have e : t + L * (j + 1) = t + L + L * j := by rw [Nat.mul_succ]; omega
   rw [e] at hne ⊢
   exact scan_says P L c (t + L) h2 j (by omega) hne
noncomputable def leaf (P L x : Nat) : Bool := ite3 (Nat.ble (Nat.succ x) L) (ite3 (Nat.beq (Nat.mod (Nat.mul P x) L) (nat_lit 1)) (strict (Nat.div (Nat.sub (Nat.add (Nat.div (nat_lit 4294967295) P) L) x) L) fun c => scan P L c x) false) false
theorem leaf_says {P L x t : Nat} (h : leaf P L x = true) (hP : 0 < P) (ht1 : t ≠ 1) (ht : P * t < 4294967296) (hL : P * t % L = 1) : bad (P * t) = true := by
 obtain ⟨h1, h⟩ := and3 h
 obtain ⟨h2, h⟩ := and3 h
 rw [strict_eq] at h
 have h1 : x + 1 ≤ L := Nat.le_of_ble_eq_true h1
 have h2 : P * x % L = 1 := Nat.eq_of_beq_eq_true h2
 have h : scan P L ((4294967295 / P + L - x) / L) x = true := h
 have htB : t ≤ 4294967295 / P := by rw [Nat.le_div_iff_mul_le hP, Nat.mul_comm]; omega
 -- t is x modulo L
 have e1 : x * (P * t) % L = x % L := by rw [Nat.mul_mod, hL, Nat.mul_one, Nat.mod_mod]
 have e2 : P * x * t % L = t % L := by rw [Nat.mul_mod, h2, Nat.one_mul, Nat.mod_mod]
 have e3 : t % L = x := by rw [← e2, show P * x * t = x * (P * t) from by ac_rfl, e1, Nat.mod_eq_of_lt (by omega)]
 have e4 : t = x + L * (t / L) := by have := Nat.div_add_mod t L; omega
 have hj : t / L < (4294967295 / P + L - x) / L := by
  refine (Nat.le_div_iff_mul_le (by omega)).2 ?_
  have : (t / L).succ * L = L * (t / L) + L := by rw [Nat.succ_mul, Nat.mul_comm]
  rw [this]; omega
 have := scan_says P L _ x h (t / L) hj (by rw [← e4]; exact ht1)
 rwa [← e4] at this
end Go.Proofs.YtcjgilagldbjnaaGreatDoor

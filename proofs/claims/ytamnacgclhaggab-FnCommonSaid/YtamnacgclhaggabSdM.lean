/- Maths of what differs between two rings. -/
import Derived.Test.YtamnacgclhaggabSwD
import Derived.Test.YtamnacgclhaggabPqM
namespace Go.Proofs.Ytamnacgclhaggab
open Go.ChangeShapes Go.WideShapes Go.ChangeAt Go.RowKit

/-- How many sets of three points there are. -/
def cntT (n : Nat) : Int := sumN (fun i => sumN (fun j => ((n - (i + 1 + j + 1) : Nat) : Int)) (n - (i + 1))) n
theorem cntT_val : cntT 3 = 1 ∧ cntT 4 = 4 ∧ cntT 5 = 10 ∧ cntT 6 = 20 ∧ cntT 7 = 35 := by decide
theorem difX_add {a b c : List Int} (hb : ∀ x y z : Nat, x < y → y < z → z < a.length → dif a b x y z + dif a c x y z = 1) : difX a b a.length + difX a c a.length = cntT a.length := by
  unfold difX cntT
  rw [← sumN_add]
  refine sumN_congr _ fun i hi => ?_
  show difY a b i a.length + difY a c i a.length = _
  unfold difY
  rw [← sumN_add]
  refine sumN_congr _ fun j hj => ?_
  show difZ a b i (i + 1 + j) a.length + difZ a c i (i + 1 + j) a.length = _
  unfold difZ
  rw [← sumN_add, sumN_congr (g := fun _ => 1) _ fun k hk => hb i (i + 1 + j) (i + 1 + j + 1 + k) (by omega) (by omega) (by omega), sumN_const]
  omega
theorem difX_all {a b : List Int} (hb : ∀ x y z : Nat, x < y → y < z → z < a.length → dif a b x y z = 1) : difX a b a.length = cntT a.length := by
  unfold difX cntT
  refine sumN_congr _ fun i hi => ?_
  unfold difY
  refine sumN_congr _ fun j hj => ?_
  unfold difZ
  rw [sumN_congr (g := fun _ => 1) _ fun k hk => hb i (i + 1 + j) (i + 1 + j + 1 + k) (by omega) (by omega) (by omega), sumN_const]
  omega
theorem difX_swap {a b : List Int} (h : a.length = b.length) : difX b a b.length = difX a b a.length := by
  rw [← h]
  have e : ∀ x y z, dif b a x y z = dif a b x y z := fun x y z => by
    unfold dif
    by_cases hh : has3 a [(x : Int), (y : Int), (z : Int)] = has3 b [(x : Int), (y : Int), (z : Int)]
    · rw [if_pos hh, if_pos hh.symm]
    · rw [if_neg hh, if_neg fun e => hh e.symm]
  unfold difX difY difZ
  rw [← h]
  simp only [e]
theorem sumN_zero {f : Nat → Int} : ∀ k, (∀ i, i < k → 0 ≤ f i) → sumN f k = 0 → ∀ i, i < k → f i = 0
  | 0, _, _, i, hi => by omega
  | k + 1, h, hs, i, hi => by
    have h1 : sumN f (k + 1) = sumN f k + f k := rfl
    have h2 := (sumN_bd (a := 0) (b := 0) (f := fun i => 0) k fun i _ => ⟨Int.le_refl _, Int.le_refl _⟩)
    have h3 : 0 ≤ sumN f k := by
      have key : ∀ m, m ≤ k → 0 ≤ sumN f m := fun m => by
        induction m with
        | zero => intro _; exact Int.le_refl _
        | succ m ih =>
          intro hm
          have a := ih (by omega)
          have b := h m (by omega)
          show 0 ≤ sumN f m + f m
          omega
      exact key k (Nat.le_refl _)
    have h4 := h k (by omega)
    rcases Nat.lt_succ_iff_lt_or_eq.1 hi with hlt | rfl
    · exact sumN_zero k (fun j hj => h j (by omega)) (by omega) i hlt
    · omega
theorem difX_none {a b : List Int} (hl : a.length ≤ 7) (h : difX a b a.length = 0) : ∀ x y z : Nat, x < y → y < z → z < a.length → dif a b x y z = 0 := by
  intro x y z hxy hyz hz
  have h1 := sumN_zero _ (fun i hi => (difY_bd a b i a.length hl hl).1) h x (by omega)
  have h2 := sumN_zero _ (fun j hj => (difZ_bd a b x (x + 1 + j) a.length hl).1) h1 (y - (x + 1)) (by omega)
  have e : x + 1 + (y - (x + 1)) = y := by omega
  have h2' : difZ a b x y a.length = 0 := by rw [← e]; exact h2
  have h3 := sumN_zero _ (fun k hk => (dif_bd a b x y (y + 1 + k)).1) h2' (z - (y + 1)) (by omega)
  have e2 : y + 1 + (z - (y + 1)) = z := by omega
  rw [← e2]
  exact h3
theorem pt_in {l : List Int} (h : Tell l) {x : Nat} (hx : x < l.length) : (x : Int) ∈ l := h.has (by omega) (by omega)
theorem dif_back {a b : List Int} (_ : Ring a) (hb : Ring b) (hl : a.length = b.length) {x y z : Nat} (hxy : x < y) (hyz : y < z) (hz : z < a.length) : dif a b x y z + dif a (backL b) x y z = 1 := by
  have e := has3_bck hb.1.2.2.2 (pt_in hb.1 (x := x) (by omega)) (pt_in hb.1 (x := y) (by omega)) (pt_in hb.1 (x := z) (by omega)) (by omega) (by omega) (by omega)
  unfold dif
  rw [e]
  cases has3 a [(x : Int), (y : Int), (z : Int)] <;> cases has3 b [(x : Int), (y : Int), (z : Int)] <;> simp
theorem dif_self (a : List Int) (x y z : Nat) : dif a a x y z = 0 := by unfold dif; rw [if_pos rfl]
theorem difX_self (a : List Int) : difX a a a.length = 0 := by
  unfold difX
  rw [sumN_congr (g := fun _ => 0) _ fun i hi => ?_, sumN_const]
  · omega
  · unfold difY
    rw [sumN_congr (g := fun _ => 0) _ fun j hj => ?_, sumN_const]
    · omega
    · unfold difZ
      rw [sumN_congr (g := fun _ => 0) _ fun k hk => dif_self a _ _ _, sumN_const]
      omega
/-- Of three different numbers the threes of two rings are the same in each order, where they are in one. -/
theorem has3_perm {a b : List Int} (ha : Ring a) (hb : Ring b) (hl : a.length = b.length) (h : ∀ x y z : Nat, x < y → y < z → z < a.length → has3 a [(x : Int), (y : Int), (z : Int)] = has3 b [(x : Int), (y : Int), (z : Int)]) {y z : Nat} (hy : 0 < y) (hz : 0 < z) (hyz : y ≠ z) (hyn : y < a.length) (hzn : z < a.length) : has3 a [0, (y : Int), (z : Int)] = has3 b [0, (y : Int), (z : Int)] := by
  rcases Nat.lt_or_gt_of_ne hyz with hlt | hlt
  · exact h 0 y z hy hlt hzn
  · have key : ∀ {l : List Int}, Ring l → y < l.length → z < l.length → has3 l [0, (y : Int), (z : Int)] = !has3 l [0, (z : Int), (y : Int)] := fun {l} hr h1 h2 => by
      have m0 : (0 : Int) ∈ l := pt_in hr.1 (x := 0) (by omega)
      have m1 := pt_in hr.1 h1
      have m2 := pt_in hr.1 h2
      rw [has3_cyc m0 m1 m2 (by omega) (by omega) (by omega), has3_cyc m0 m2 m1 (by omega) (by omega) (by omega)]
      exact cyc_not (idx_apart m0 m2 (by omega)) (idx_apart m2 m1 (by omega)) (idx_apart m0 m1 (by omega))
    rw [key ha hyn hzn, key hb (by omega) (by omega)]
    congr 1
    exact h 0 z y hz hlt hyn
theorem ring_zero {l : List Int} (hr : Ring l) : l.idxOf 0 = 0 := by
  have h3 := hr.1.1
  have h0 := hr.2
  have e : l.getD 0 0 = l[0] := by simp [List.getD, (by omega : 0 < l.length)]
  rw [e] at h0
  have := hr.1.2.2.2.idxOf_getElem 0 (by omega)
  rwa [h0] at this
theorem strict_uniq : ∀ (a b : List Nat), a.Pairwise (· < ·) → b.Pairwise (· < ·) → (∀ x, x ∈ a ↔ x ∈ b) → a = b
  | [], [], _, _, _ => rfl
  | [], y :: t, _, _, h => by have := (h y).2 (by simp); simp at this
  | x :: s, [], _, _, h => by have := (h x).1 (by simp); simp at this
  | x :: s, y :: t, ha, hb, h => by
    obtain ⟨ha1, ha2⟩ := List.pairwise_cons.1 ha
    obtain ⟨hb1, hb2⟩ := List.pairwise_cons.1 hb
    have e : x = y := by
      rcases List.mem_cons.1 ((h x).1 (by simp)) with h1 | h1
      · exact h1
      · rcases List.mem_cons.1 ((h y).2 (by simp)) with h2 | h2
        · exact h2.symm
        · have := hb1 x h1
          have := ha1 y h2
          omega
    subst e
    congr 1
    refine strict_uniq s t ha2 hb2 fun z => ?_
    constructor
    · intro hz
      rcases List.mem_cons.1 ((h z).1 (by simp [hz])) with h1 | h1
      · have := ha1 z hz; omega
      · exact h1
    · intro hz
      rcases List.mem_cons.1 ((h z).2 (by simp [hz])) with h1 | h1
      · have := hb1 z hz; omega
      · exact h1
/-- Rings whose threes are the same are the same. -/
theorem ring_ext {a b : List Int} (ha : Ring a) (hb : Ring b) (hl : a.length = b.length) (h : ∀ x y z : Nat, x < y → y < z → z < a.length → has3 a [(x : Int), (y : Int), (z : Int)] = has3 b [(x : Int), (y : Int), (z : Int)]) : a = b := by
  have hord : ∀ y z : Int, y ∈ a → z ∈ a → a.idxOf y < a.idxOf z → b.idxOf y < b.idxOf z := fun y z hy hz hlt => by
    have bd := ha.1.2.2.1
    obtain ⟨y', rfl⟩ : ∃ y' : Nat, y = (y' : Int) := ⟨y.toNat, by have := bd y hy; omega⟩
    obtain ⟨z', rfl⟩ : ∃ z' : Nat, z = (z' : Int) := ⟨z.toNat, by have := bd z hz; omega⟩
    have by' := bd _ hy
    have bz' := bd _ hz
    have hne : y' ≠ z' := fun e => by rw [e] at hlt; omega
    have hyb : (y' : Int) ∈ b := pt_in hb.1 (by omega)
    have hzb : (z' : Int) ∈ b := pt_in hb.1 (by omega)
    have z0a := ring_zero ha
    have z0b := ring_zero hb
    have m0a : (0 : Int) ∈ a := pt_in ha.1 (x := 0) (by omega)
    have m0b : (0 : Int) ∈ b := pt_in hb.1 (x := 0) (by omega)
    have hz0 : 0 < z' := by
      rcases Nat.eq_zero_or_pos z' with e | e
      · subst e
        have : a.idxOf ((0 : Nat) : Int) = 0 := z0a
        omega
      · exact e
    have hbz : 0 < b.idxOf (z' : Int) := by
      have := idx_apart m0b hzb (by omega)
      omega
    rcases Nat.eq_zero_or_pos y' with e | e
    · subst e
      have : b.idxOf ((0 : Nat) : Int) = 0 := z0b
      omega
    · have hp := has3_perm ha hb hl h e hz0 hne (by omega) (by omega)
      rw [has3_cyc m0a hy hz (by omega) (by omega) (by omega), has3_cyc m0b hyb hzb (by omega) (by omega) (by omega), Bool.eq_iff_iff, cyc_iff, cyc_iff] at hp
      have hay := idx_apart m0a hy (by omega)
      have hby := idx_apart m0b hyb (by omega)
      omega
  have hp : ∀ {c : List Int}, Ring c → c.length = b.length → (∀ y z : Int, y ∈ c → z ∈ c → c.idxOf y < c.idxOf z → b.idxOf y < b.idxOf z) → (c.map b.idxOf).Pairwise (· < ·) := fun {c} hc _ ho => by
    rw [List.pairwise_map, List.pairwise_iff_getElem]
    intro i j hi hj hij
    refine ho _ _ (List.getElem_mem hi) (List.getElem_mem hj) ?_
    rw [hc.1.2.2.2.idxOf_getElem i hi, hc.1.2.2.2.idxOf_getElem j hj]
    exact hij
  have e := strict_uniq _ _ (hp ha hl hord) (hp hb rfl fun _ _ _ _ h => h) fun x => by
    simp only [List.mem_map]
    constructor
    · rintro ⟨y, hy, rfl⟩
      have bd := ha.1.2.2.1 y hy
      exact ⟨y, hb.1.has bd.1 (by omega), rfl⟩
    · rintro ⟨y, hy, rfl⟩
      have bd := hb.1.2.2.1 y hy
      exact ⟨y, ha.1.has bd.1 (by omega), rfl⟩
  refine List.ext_getElem hl fun i h1 h2 => ?_
  have e1 : (a.map b.idxOf)[i]'(by simpa using h1) = (b.map b.idxOf)[i]'(by simpa using h2) := by simp only [e]
  rw [List.getElem_map, List.getElem_map, hb.1.2.2.2.idxOf_getElem i h2] at e1
  have m : a[i] ∈ b := by
    have bd := ha.1.2.2.1 _ (List.getElem_mem h1)
    exact hb.1.has bd.1 (by omega)
  have := List.getElem_idxOf (List.idxOf_lt_length_of_mem m)
  rw [← this]
  simp only [e1]
theorem sd_zero {a b : List Int} (ha : Ring a) (hb : Ring b) (hl : a.length = b.length) : difX a b a.length = 0 ↔ a = b := by
  constructor
  · intro h
    refine ring_ext ha hb hl fun x y z h1 h2 h3 => ?_
    have := difX_none ha.1.2.1 h x y z h1 h2 h3
    unfold dif at this
    split at this
    · assumption
    · omega
  · rintro rfl
    exact difX_self a
end Go.Proofs.Ytamnacgclhaggab

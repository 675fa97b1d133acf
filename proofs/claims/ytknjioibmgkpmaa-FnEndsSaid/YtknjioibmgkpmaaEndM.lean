/- The points from the first one of an arc to the last one are the set's. Plain lemmas. -/
import Derived.Test.YtknjioibmgkpmaaArJ
import Derived.Test.YtknjioibmgkpmaaFrom
import Derived.Test.YtknjioibmgkpmaaRw
namespace Go.Proofs.Ytknjioibmgkpmaa
open Go.ChangeShapes Go.WideShapes Go.ChangeAt Go.RowKit

def endsOk (n s : Nat) : Bool := (List.range n).all fun i => !begB n s i || (List.range n).all fun j => !finB n s j || (List.range n).all fun t => s.testBit (((i + 1) % n + t) % n) == decide (t ≤ (j + n - (i + 1) % n) % n)
theorem endsOk_all : ∀ n : Fin 8, ∀ s : Fin 128, s.val < 2 ^ n.val → ((List.range n.val).filter (begB n.val s.val)).length = 1 → endsOk n.val s.val = true := by decide +kernel
theorem ends_key (n s i j t : Nat) (h7 : n ≤ 7) (hs : s < 2 ^ n) (h1 : ((List.range n).filter (begB n s)).length = 1) (hi : i < n) (hb : begB n s i = true) (hj : j < n) (hf : finB n s j = true) (ht : t < n) : s.testBit (((i + 1) % n + t) % n) = decide (t ≤ (j + n - (i + 1) % n) % n) := by
  have h128 : s < 128 := Nat.lt_of_lt_of_le hs (Nat.pow_le_pow_right (by omega) h7 : 2 ^ n ≤ 2 ^ 7)
  have h := endsOk_all ⟨n, by omega⟩ ⟨s, h128⟩ hs h1
  simp only [endsOk, List.all_eq_true, List.mem_range] at h
  have h2 := h i hi
  rw [hb, Bool.not_true, Bool.false_or, List.all_eq_true] at h2
  have h3 := h2 j (List.mem_range.2 hj)
  rw [hf, Bool.not_true, Bool.false_or, List.all_eq_true] at h3
  exact eq_of_beq (h3 t (List.mem_range.2 ht))
theorem there_key : ∀ n : Fin 8, ∀ j : Fin 7, j.val < n.val → ∀ q : Fin 7, q.val < n.val → (j.val + (q.val + n.val - j.val) % n.val) % n.val = q.val ∧ ((j.val + q.val) % n.val + n.val - j.val) % n.val = q.val ∧ ((q.val + n.val - j.val) % n.val = 0 → q.val = j.val) := by decide +kernel
theorem there (n j q : Nat) (h7 : n ≤ 7) (hj : j < n) (hq : q < n) : (j + (q + n - j) % n) % n = q ∧ ((j + q) % n + n - j) % n = q ∧ ((q + n - j) % n = 0 → q = j) := there_key ⟨n, by omega⟩ ⟨j, by omega⟩ hj ⟨q, by omega⟩ hq

/-- The places where an arc begins and ends; what lies between. -/
theorem ends_at {l : List Int} {s : Nat} (h7 : l.length ≤ 7) (h1 : runN (hasN s) l = 1) : ∃ j e, j < l.length ∧ e < l.length ∧ firstA (hasN s) l = l.getD j 0 ∧ finA (hasN s) l = l.getD e 0 ∧ ∀ t, t < l.length → hasN s (l.getD ((j + t) % l.length) 0) = decide (t ≤ (e + l.length - j) % l.length) := by
  have hf : ((List.range l.length).filter (begs (hasN s) l)).length = 1 := by simpa [runN, runP] using h1
  obtain ⟨i, hi⟩ := List.length_eq_one_iff.1 hf
  have hm : i ∈ (List.range l.length).filter (begs (hasN s) l) := by rw [hi]; simp
  simp only [List.mem_filter, List.mem_range] at hm
  obtain ⟨hil, hb⟩ := hm
  have hj : (i + 1) % l.length < l.length := Nat.mod_lt _ (by omega)
  have hfirst : firstA (hasN s) l = l.getD ((i + 1) % l.length) 0 := lastV_one _ _ i _ hil hb fun j' hj' hb' => one_begin h1 hj' hil hb' hb
  have hbb := hb
  simp only [begs, Bool.and_eq_true, Bool.not_eq_true'] at hbb
  have hback : hasN s (l.getD (((i + 1) % l.length + (l.length - 1)) % l.length) 0) = false := by
    have e : ((i + 1) % l.length + (l.length - 1)) % l.length = i := by
      rcases Nat.lt_or_ge (i + 1) l.length with hlt | hge
      · rw [Nat.mod_eq_of_lt hlt, show i + 1 + (l.length - 1) = i + l.length by omega, Nat.add_mod_right, Nat.mod_eq_of_lt hil]
      · have : i + 1 = l.length := by omega
        rw [this, Nat.mod_self, Nat.zero_add, Nat.mod_eq_of_lt (by omega)]
        omega
    rw [e]; exact hbb.1
  obtain ⟨e, he, he1, he2⟩ := end_there (hasN s) l _ hj hbb.2 _ hback
  refine ⟨_, e, hj, he, hfirst, finA_end h7 h1 he he1 he2, fun t ht => ?_⟩
  have hbl := bitsL_lt (hasN s) l
  have hcount : ((List.range l.length).filter (begB l.length (bitsL (hasN s) l))).length = 1 := by
    rw [← filter_range_congr fun i hi => (begs_bits (hasN s) l i hi).1]
    exact hf
  have hk := ends_key l.length (bitsL (hasN s) l) i e t h7 hbl hcount hil (by rw [← (begs_bits (hasN s) l i hil).1]; exact hb) he (by rw [← (begs_bits (hasN s) l e he).2, fins, he1, he2]; rfl) ht
  rw [← hk]
  exact (bitsL_bit (hasN s) l _ (Nat.mod_lt _ (by omega))).symm

theorem idxAt7 {l : List Int} (hn : l.Nodup) {i : Nat} (hi : i < l.length) : l.idxOf (l.getD i 0) = i := by
  have e : l.getD i 0 = l[i] := by simp [List.getD, hi]
  rw [e]
  exact hn.idxOf_getElem i hi
theorem hasB_of7 {l : List Int} {x : Int} (h : Ring l) (hx : x ∈ l) : hasB l x = true := by
  have := h.1.2.2.1 x hx
  rw [hasB, ring_yes h]
  simp; omega
/-- The first point, the last one, those between. -/
def endsL (l : List Int) (x y : Int) : List Int := x :: y :: if x = y then [] else fromL l x y
theorem ends_mask {l : List Int} {s : Nat} (hr : Ring l) (hs : s < 2 ^ l.length) (h1 : runN (hasN s) l = 1) :
    firstA (hasN s) l ∈ l ∧ finA (hasN s) l ∈ l ∧ maskN (endsL l (firstA (hasN s) l) (finA (hasN s) l)) = s ∧ ∀ z ∈ endsL l (firstA (hasN s) l) (finA (hasN s) l), z ∈ l := by
  have h7 := hr.1.2.1
  have hnd := hr.1.2.2.2
  obtain ⟨j, e, hj, he, hx, hy, hbits⟩ := ends_at h7 h1
  rw [hx, hy]
  have hxm := getD_mem l j hj
  have hym := getD_mem l e he
  have hix := idxAt7 hnd hj
  have hiy := idxAt7 hnd he
  obtain ⟨st, hst⟩ : ∃ st, st = (e + l.length - j) % l.length := ⟨_, rfl⟩
  have hstl : st < l.length := by rw [hst]; exact Nat.mod_lt _ (by omega)
  obtain ⟨t1, t2, t3⟩ := there l.length j e h7 hj he
  rw [← hst] at t1 t3
  -- what lies between, place by place
  have hmem : ∀ q, q < l.length → (l.getD q 0 ∈ endsL l (l.getD j 0) (l.getD e 0) ↔ (q + l.length - j) % l.length ≤ st) := by
    intro q hq
    obtain ⟨u1, u2, u3⟩ := there l.length j q h7 hj hq
    have hiq := idxAt7 hnd hq
    have inj : ∀ a, a < l.length → l.getD q 0 = l.getD a 0 → q = a := fun a ha e' => by rw [← idxAt7 hnd hq, e', idxAt7 hnd ha]
    have hut : (q + l.length - j) % l.length < l.length := Nat.mod_lt _ (by omega)
    obtain ⟨t, ht⟩ : ∃ t, t = (q + l.length - j) % l.length := ⟨_, rfl⟩
    rw [← ht] at u1 u3 hut ⊢
    by_cases hxy : l.getD j 0 = l.getD e 0
    · have hje : j = e := by rw [← hix, hxy, hiy]
      have hst0 : st = 0 := by rw [hst, ← hje, show j + l.length - j = l.length by omega, Nat.mod_self]
      rw [endsL, if_pos hxy]
      simp only [List.mem_cons, List.not_mem_nil, or_false, ← hxy, or_self]
      constructor
      · intro h
        have := inj j hj h
        subst this
        rw [ht, show q + l.length - q = l.length by omega, Nat.mod_self]
        omega
      · intro h
        rw [u3 (by omega)]
    · have hst1 : 0 < st := by
        rcases Nat.eq_zero_or_pos st with h0 | h0
        · exact absurd (by rw [t3 h0]) hxy
        · exact h0
      have hend : endN l (l.getD j 0) (l.getD e 0) = st := by
        rw [endN, if_neg hxy, stepsI, hix, hiy, hst]
        have e1 : ((e : Int) - (j : Int)) % (l.length : Int) = ((e + l.length - j : Nat) : Int) % (l.length : Int) := by
          rw [show ((e + l.length - j : Nat) : Int) = (e : Int) - (j : Int) + (l.length : Int) by omega, Int.add_emod_right]
        rw [e1, ← Int.natCast_emod, Int.toNat_natCast]
      have hF : ∀ k, k + 1 < st → (fromL l (l.getD j 0) (l.getD e 0)).getD k 0 = l.getD ((j + (k + 1)) % l.length) 0 := fun k hk => by
        rw [fromL, hend]
        have : (((cutL l (l.getD j 0)).take st).drop 1).getD k 0 = (cutL l (l.getD j 0)).getD (k + 1) 0 := by
          simp [List.getD, hk]
        rw [this, cutL_get l _ _ (by omega), hix]
      have hFl : (fromL l (l.getD j 0) (l.getD e 0)).length = st - 1 := by
        rw [fromL_length _ _ _ (by rw [cutL_length, hend]; omega), hend]
      rw [endsL, if_neg hxy]
      simp only [List.mem_cons]
      constructor
      · rintro (h | h | h)
        · have := inj j hj h
          subst this
          rw [ht, show q + l.length - q = l.length by omega, Nat.mod_self]
          omega
        · have := inj e he h
          subst this
          omega
        · obtain ⟨k, hk, hke⟩ := List.getElem_of_mem h
          have h2 := hF k (by omega)
          rw [List.getD, List.getElem?_eq_getElem hk, Option.getD_some, hke] at h2
          have h3 := inj _ (Nat.mod_lt _ (by omega)) h2
          have h4 := (there l.length j (k + 1) h7 hj (by omega)).2.1
          rw [← h3] at h4
          omega
      · intro h
        rcases Nat.eq_zero_or_pos t with h0 | h0
        · exact .inl (by rw [u3 h0])
        · rcases Nat.lt_or_ge t st with h2 | h2
          · right; right
            have h3 := hF (t - 1) (by omega)
            rw [show t - 1 + 1 = t by omega, u1] at h3
            rw [← h3]
            exact getD_mem _ _ (by omega)
          · right; left
            obtain rfl : t = st := by omega
            rw [← u1, t1]
  have hall : ∀ z ∈ endsL l (l.getD j 0) (l.getD e 0), z ∈ l := by
    intro z hz
    rw [endsL] at hz
    simp only [List.mem_cons] at hz
    rcases hz with rfl | rfl | hz
    · exact hxm
    · exact hym
    · split at hz
      · simp at hz
      · rw [fromL] at hz
        have h1 := List.mem_of_mem_take (List.mem_of_mem_drop hz)
        obtain ⟨k, hk, rfl⟩ := List.getElem_of_mem h1
        have hk' : k < l.length := by simpa using hk
        have := cutL_get l (l.getD j 0) k hk'
        rw [List.getD, List.getElem?_eq_getElem hk, Option.getD_some] at this
        rw [this]
        exact getD_mem _ _ (Nat.mod_lt _ (by omega))
  refine ⟨hxm, hym, ?_, hall⟩
  apply Nat.eq_of_testBit_eq
  intro p
  have hpos : ∀ z ∈ endsL l (l.getD j 0) (l.getD e 0), 0 ≤ z := fun z hz => (hr.1.2.2.1 z (hall z hz)).1
  have hmb : (maskN (endsL l (l.getD j 0) (l.getD e 0))).testBit p = decide ((p : Int) ∈ endsL l (l.getD j 0) (l.getD e 0)) := by
    have := mask_has _ hpos (p : Int) (by omega)
    rwa [hasN, Int.toNat_natCast] at this
  rw [hmb]
  rcases Nat.lt_or_ge p l.length with hp | hp
  · have hpl : (p : Int) ∈ l := hr.1.has (by omega) (by omega)
    obtain ⟨q, hq, hqe⟩ := List.getElem_of_mem hpl
    have hqe' : l.getD q 0 = (p : Int) := by rw [List.getD, List.getElem?_eq_getElem hq, Option.getD_some, hqe]
    have hb := hbits _ (show (q + l.length - j) % l.length < l.length from Nat.mod_lt _ (by omega))
    rw [(there l.length j q h7 hj hq).1, hqe', hasN, Int.toNat_natCast, ← hst] at hb
    rw [hb, decide_eq_decide, ← hqe']
    exact hmem q hq
  · rw [Nat.testBit_lt_two_pow (Nat.lt_of_lt_of_le hs (Nat.pow_le_pow_right (by omega) hp)), decide_eq_false_iff_not]
    intro h
    have := hr.1.2.2.1 _ (hall _ h)
    omega

theorem cI_ArcEnds {w : World} {A : Option Addr} {n c : Nat} {l : List Int} (h : Rw w A n c l) (s : Int) : Calls Try.prog 14 #[.slice A n c, .int .i64 s] w fun e w' => e = .returned (.tuple #[.int .i64 (firR l s), .int .i64 (finR l s), .bool (arcB l s)]) ∧ Below w.heap.size w w' :=
  endsI_any A n c w.heap.size l s w h.rd (Nat.le_refl _) h.big h.2.1 h.2.2.1
theorem cS_ArcEnds {w : World} {A : Option Addr} {n c : Nat} {l : List Int} (h : Rw w A n c l) (s : Int) : Calls Try.prog 15 #[.slice A n c, .int .i64 s] w fun e w' => e = .returned (.tuple #[.int .i64 (firR l s), .int .i64 (finR l s), .bool (arcB l s)]) ∧ Below w.heap.size w w' :=
  endsS_law A n c w.heap.size l s w h.rd (Nat.le_refl _) h.big
theorem cI_From7 {w : World} {A : Option Addr} {n c : Nat} {l : List Int} (h : Rw w A n c l) (x : Int) (y : Int) : Calls Try.prog 16 #[.slice A n c, .int .i64 x, .int .i64 y] w fun e w' => ∃ v, e = .returned (.tuple #[v, .bool (hasB2 l x y)]) ∧ NewG w' v (fromR l x y) ∧ Below w.heap.size w w' :=
  (frI_any A n c w.heap.size l x y w h.rd (Nat.le_refl _) h.big h.2.1 h.2.2.1).mono fun _ _ ⟨v, e1, ho, hb⟩ => ⟨v, e1, ho.newG (fromR_length l x y), hb⟩
/-- What the law reckons with: the first and the last point, their set, those between. -/
theorem ends_told {l : List Int} {s : Int} (h : arcB l s = true) : ∃ x y : Int, firR l s = x ∧ finR l s = y ∧ 0 ≤ x ∧ x < 7 ∧ 0 ≤ y ∧ y < 7 ∧ (x ≠ y → hasB2 l x y = true) ∧ (∀ z ∈ endsL l x y, 0 ≤ z ∧ z < 7) ∧ maskI (endsL l x y) = s := by
  obtain ⟨hs, h1⟩ := arc_set h
  obtain ⟨k, rfl, hk, h128⟩ := hs.nat
  rw [Int.toNat_natCast] at h1
  obtain ⟨m1, m2, m3, m4⟩ := ends_mask hs.1 hk h1
  have b1 := hs.bd _ m1
  have b2 := hs.bd _ m2
  refine ⟨_, _, by rw [firR, if_pos h, Int.toNat_natCast], by rw [finR, if_pos h, Int.toNat_natCast], b1.1, b1.2, b2.1, b2.2, fun _ => ?_, fun z hz => hs.bd z (m4 z hz), ?_⟩
  · rw [hasB2, hasB_of7 hs.1 m1, hasB_of7 hs.1 m2]; rfl
  · have := (mask_eq _ (fun z hz => hs.bd z (m4 z hz)) 0 (by omega)).1
    have h9 : maskI (endsL l (firstA (hasN k) l) (finA (hasN k) l)) = (maskN (endsL l (firstA (hasN k) l) (finA (hasN k) l)) : Int) := this
    rw [h9, m3]
theorem and_or_zero (b : Nat) (hb : b < 128) : bits BinOp.or IntKind.i64 0 ((b : Nat) : Int) = ((b : Nat) : Int) := by
  have key : ∀ x : Fin 128, bits BinOp.or IntKind.i64 0 ((x.val : Nat) : Int) = ((x.val : Nat) : Int) := by decide +kernel
  exact key ⟨b, hb⟩
theorem two_first (x y : Int) (M : List Int) (h0 : 0 ≤ x) (h7 : x < 7) : maskI ((x :: y :: M).take 2) = bits BinOp.or IntKind.i64 (wrap64 (2 ^ min x.toNat 64)) (wrap64 (2 ^ min y.toNat 64)) := by
  rw [maskI_step (x :: y :: M) 1 (by simp), maskI_step (x :: y :: M) 0 (by simp)]
  have e : maskI ((x :: y :: M).take 0) = 0 := rfl
  rw [e]
  have e2 : (x :: y :: M).getD 0 0 = x := rfl
  have e3 : (x :: y :: M).getD 1 0 = y := rfl
  rw [e2, e3]
  have e4 : bits BinOp.or IntKind.i64 0 (wrap64 (2 ^ min x.toNat 64)) = wrap64 (2 ^ min x.toNat 64) := by
    have p := pow_small x h0 h7
    have h9 := and_or_zero (2 ^ x.toNat) p.2
    rw [← p.1] at h9
    exact h9
  rw [e4]
end Go.Proofs.Ytknjioibmgkpmaa

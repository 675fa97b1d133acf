/- Several texts as one: WvE WvF WvG WvQ WvZ WvN WvS WvH. -/
import Derived.Test.YtpfdlgofkcpglaaDoorWA
import Derived.Test.YtpfdlgofkcpglaaDoorEachM
import Derived.Test.YtpfdlgofkcpglaaDoorFact
import Derived.Test.YtpfdlgofkcpglaaDoorFold
import Derived.Test.YtpfdlgofkcpglaaDoorMat
import Derived.Lib.TrailingZeros
import Derived.Laws.Bits64b
namespace Go.Proofs.YtpfdlgofkcpglaaDoor
open Go.ChangeShapes Go.WideShapes Go.ChangeAt Go.RowKit

theorem part_info : (Tryd.prog.info? 62).map (fun i => (i.zero, i.size, i.bytes)) = some (some (.slice none 0 0), 1, 24) := by kernel_rfl
/-- A slice of parts of the call's own. -/
def PrtS (w : World) (B : Nat) (v : Value) (L : List (List Int)) : Prop :=
  ∃ xs : List Value, w.ownsRow B 62 1 v L.length xs ∧ ∀ k, k < L.length → ∃ vk, xs[k]? = some vk ∧ RowV w B vk (rowK L k)
section
variable {w w' : World} {B : Nat} {v : Value} {L : List (List Int)}
theorem PrtS.slice (h : PrtS w B v L) : ∃ A c, v = .slice A L.length c ∧ L.length ≤ c ∧ c ≤ 9223372036854775807 := by
  obtain ⟨xs, h1, _⟩ := h
  rcases h1.2 with ⟨e, h0⟩ | ⟨g, cap, cur, e, _, _, h2, h3, _⟩
  · exact ⟨none, 0, by rw [e, h0], by omega, by omega⟩
  · exact ⟨_, cap, e, h2, by unfold maxLen at h3; omega⟩
theorem PrtS.rd {A : Option Addr} {n c : Nat} (h : PrtS w B (.slice A n c) L) : n = L.length ∧ RdS w w.heap.size A n L := by
  obtain ⟨xs, h1, h2⟩ := h
  rcases h1.2 with ⟨e, h0⟩ | ⟨g, cap, cur, e, hB, hg, hc, hm, hs, ht⟩
  · injection e with e1 e2 e3
    subst e1; subst e2
    rw [List.eq_nil_of_length_eq_zero h0]
    exact ⟨rfl, RdS.nil⟩
  · injection e with e1 e2 e3
    subst e1; subst e2; subst e3
    refine ⟨rfl, rfl, fun _ => ⟨g, 0, rfl, (Array.getElem?_eq_some_iff.1 hg).1, fun k hk => ?_⟩⟩
    obtain ⟨vk, h3, h4, A, d, rfl, h5, h6⟩ := h2 k hk
    refine ⟨A, d, ?_, h4.rd.2, h5, h6⟩
    rw [Nat.zero_add, cell_of_row w g _ cur _ _ hg]
    rw [← ht, List.getElem?_take, if_pos (by omega)] at h3
    simpa using h3
theorem PrtS.nil (w : World) (B : Nat) : PrtS w B (.slice none 0 0) [] := ⟨[], ⟨by simp, .inl ⟨rfl, rfl⟩⟩, fun k hk => absurd hk (by simp)⟩
end
theorem part_oneCell {w : World} {B : Nat} {v : Value} {l : List Int} (h : RowV w B v l) : v.oneCell' = true := by
  obtain ⟨_, A, c, rfl, _⟩ := h
  rfl
/-- The first k parts, nothing behind. -/
def firstV (vs : List Value) (m : Nat) : List Value := vs ++ List.replicate (m - vs.length) (.slice none 0 0)
theorem firstV_set (vs : List Value) (m : Nat) (v : Value) (h : vs.length < m) : (firstV vs m).set vs.length v = firstV (vs ++ [v]) m := by
  unfold firstV
  rw [List.set_append_right _ _ (by omega), Nat.sub_self]
  obtain ⟨d, hd⟩ : ∃ d, m - vs.length = d + 1 := ⟨m - vs.length - 1, by omega⟩
  rw [hd, List.length_append, List.length_singleton, show m - (vs.length + 1) = d by omega, List.replicate_succ, List.set_cons_zero, List.append_assoc]
  rfl
theorem firstV_get (vs : List Value) (m : Nat) (h : vs.length < m) : (firstV vs m)[vs.length]? = some (.slice none 0 0) := by
  unfold firstV
  rw [List.getElem?_append_right (by omega)]
  simp [List.getElem?_replicate]
  omega
theorem firstV_full (vs : List Value) : firstV vs vs.length = vs := by simp [firstV]

set_option maxRecDepth 10000 in
set_option maxHeartbeats 1000000 in
theorem each_part (A : Option Addr) (m c H : Nat) (L : List (List Int)) (n : Int) (w : World) (h : RdS w H A m L) (hH : H ≤ w.heap.size) (hm : m ≤ 100) (hr : ∀ k, k < m → (rowK L k).length ≤ 1048576) :
    Calls Tryd.prog 90 #[.int .i64 n, .slice A m c, .func (.func 58) #[] #[]] w fun e w' => ∃ v, e = .returned (.tuple #[v, .bool (allB (prt n) L)]) ∧ PrtS w' w.heap.size v (allL (prt n) L) ∧ Below w.heap.size w w' := by
  obtain ⟨i0, hi, hz0, hz1, hz2⟩ := info_parts part_info
  have HL := Lib.hid h.len
  have HRB := Lib.hid hr
  clear hr
  go_enter Tryd.func90, Tryd.ntmps90
  go_wp2_with (at_make; refine wpList_make_full _ rfl _ _ 65 rfl w.heap.size 62 i0 (.slice none 0 0) 1 Tryd.underlying65 hi hz0 hz1 .i64 .i64 _ _ m rfl rfl rfl rfl (by rw [hz2]; omega) (by unfold maxLen; omega) (Nat.le_refl _) ?_)
  intro w1 hown hgrow
  have hb1 : Below w.heap.size w w1 := (Below.refl _ _).grown hgrow (Nat.le_refl _) (by simp)
  have hf1 : Hid (w1.ownsRow w.heap.size 62 1 (.slice (some ⟨w.heap.size, 0, none⟩) m m) m (firstV [] m)) := by
    have e : (madeCells (Value.slice none 0 0).cells m).toList = firstV [] m := by
      rw [show (Value.slice none 0 0).cells = #[Value.slice none 0 0] from rfl, toList_madeCells_one]; simp [firstV]
    first
      | (rw [Hid, ← e]; exact hown)
      | (rw [Hid]; simpa [firstV, toList_madeCells_one] using hown)
  have hr1 := Lib.hid (h.below (hb1.mono hH))
  have hBs : w.heap.size < w1.heap.size := (hf1.out.lt _ rfl).2
  clear hown hgrow h
  generalize hB : w.heap.size = B at *
  have HB := Lib.hid hB
  clear hB
  go_wp2
  go_loopw [18] (fun i wr => ∃ k : Nat, k ≤ m ∧ i = .int .i64 k ∧ ∃ vs : List Value, Hid (vs.length = k) ∧ Hid (wr.ownsRow B 62 1 (.slice (some ⟨B, 0, none⟩) m m) m (firstV vs m)) ∧ Hid (∀ j, j < k → ∃ vj, vs[j]? = some vj ∧ RowV wr (B + 1) vj (rowK L j)) ∧ Hid (AllTo (prt n) L k) ∧ Hid (RdS wr H A m L) ∧ Below B w wr ∧ B < wr.heap.size) (fun i _ => m - (intOf i).toNat)
  case atStart => exact ⟨0, Nat.zero_le _, rfl, [], rfl, hf1, fun j hj => absurd hj (by omega), fun j hj => absurd hj (by omega), hr1, hb1, hBs⟩
  case round =>
    obtain ⟨k, hk, rfl, vs, hvs, hf, hrows, hto, hrd, hbl, hBw⟩ := hrel
    clear hf1 hr1 hb1
    have HBL := Lib.hid hbl
    clear hbl
    by_cases hlt : k < m
    · obtain ⟨b, o, rfl, hbB, hcs⟩ := hrd.out.at_ (by omega)
      obtain ⟨Ak, ck, hc, hr, hz, hcm⟩ := hcs k hlt
      have HC := Lib.hid (readPart_any Ak _ ck H (rowK L k) n wr hr (by omega) (HRB.out k hlt) hz hcm)
      have HS := Lib.hid (all_no (q := prt n) (L := L) (k := k) (by rw [HL.out]; exact hlt))
      have HT := Lib.hid (allTo_step hto.out)
      have HYES := Lib.hid (fun (ht : prt n (rowK L k) = true) => prtL_yes (n := n) (l := rowK L k) (by simpa [prt] using ht))
      clear hcs hr hz hcm
      cases ht : prt n (rowK L k)
      · have T1 := Lib.hid (HS.out ht)
        rw [ht] at HC
        clear HT HS ht HYES
        generalize (rowK L k).length = z at *
        generalize prtL n (rowK L k) = l at *
        go_wp2_with fail
        refine HC.out.mono ?_
        rintro e w2 ⟨v2, rfl, hr2, hb2⟩
        have HBL2 := Lib.hid (HBL.out.trans (hb2.mono (by omega)))
        obtain ⟨A2, c2, rfl, _⟩ := hr2.2
        clear hb2 hr2
        go_wp2
        go_ret2
        exact ⟨_, by rw [T1.out.1]; rfl, by rw [T1.out.2]; exact PrtS.nil _ _, by rw [HB.out]; exact HBL2.out⟩
      · have T1 := Lib.hid (HT.out ht)
        rw [HYES.out ht, ht] at HC
        clear HT HS ht HYES
        obtain ⟨l, hl⟩ : ∃ l, l = rowK L k := ⟨_, rfl⟩
        rw [← hl] at HC hc
        have HLL := Lib.hid hl
        clear hl
        obtain ⟨z, hz⟩ : ∃ z, z = l.length := ⟨_, rfl⟩
        rw [← hz] at HC hc
        clear hz
        go_wp2_with fail
        refine HC.out.mono ?_
        rintro e w2 ⟨v2, rfl, hr2, hb2⟩
        have HBL2 := Lib.hid (HBL.out.trans (hb2.mono (by omega)))
        have HF2 : Hid (w2.ownsRow B 62 1 (.slice (some ⟨B, 0, none⟩) m m) m (firstV vs m)) := by
          rcases hf.out.2 with ⟨e, _⟩ | ⟨g, cap, cur, e, hg0, hg, rest⟩
          · cases e
          · have e' := e
            injection e with e1 _ _
            injection e1 with e1
            injection e1 with e1
            subst e1
            exact ⟨hf.out.1, .inr ⟨B, cap, cur, e', hg0, (hb2.block B hBw).trans hg, rest⟩⟩
        have HR2 := Lib.hid (hrd.out.below (hb2.mono (by omega)))
        have HRO2 : Hid (∀ j, j < k + 1 → ∃ vj, (vs ++ [v2])[j]? = some vj ∧ RowV w2 (B + 1) vj (rowK L j)) := fun j hj => by
          rcases Nat.lt_succ_iff_lt_or_eq.1 hj with hj | rfl
          · obtain ⟨vj, h1, h2⟩ := hrows.out j hj
            exact ⟨vj, by rw [List.getElem?_append_left (by rw [hvs.out]; exact hj)]; exact h1, h2.below5 hb2⟩
          · refine ⟨v2, by rw [List.getElem?_append_right (by rw [hvs.out]; omega)]; simp [hvs.out], ?_⟩
            rw [← HLL.out]
            exact hr2.less (by omega)
        have h1c := part_oneCell hr2
        have hs2 := hb2.size
        obtain ⟨A2, c2, rfl, _⟩ := hr2.2
        clear hb2 hr2 hf hrows hrd HC
        have hst := HF2.out.stored k (.slice A2 l.length c2)
        have hvl : vs.length < m := by rw [hvs.out]; exact hlt
        have e1 := firstV_set vs m (.slice A2 l.length c2) hvl
        have e2 := firstV_get vs m hvl
        rw [hvs.out] at e1 e2
        rw [e1] at hst
        have hcell : w2.cell? ⟨B, k, none⟩ = some (.slice none 0 0) := by
          rw [HF2.out.cellAt k (by omega)]; exact e2
        have hfr : w2.frozen? ⟨B, k, none⟩ = false := HF2.out.frozenAt _
        have HST := Lib.hid hst
        clear hst e1 e2 HF2
        go_wp2
        go_roundw
        case rel =>
          refine ⟨k + 1, by omega, by go_num, vs ++ [.slice A2 l.length c2], by simp [Hid, hvs.out], Lib.hid HST.out.1, ?_, T1, ?_, ?_, ?_⟩
          · intro j hj
            obtain ⟨vj, h1, h2⟩ := HRO2.out j hj
            exact ⟨vj, h1, h2.grown5 HST.out.2 (by omega)⟩
          · exact Lib.hid (HR2.out.below ((Below.refl H _).grown HST.out.2 (by omega) (by simp; omega)))
          · exact HBL2.out.grown HST.out.2 (by omega) (by simp)
          · have := HST.out.2.size; omega
        case measure => simp [intOf]; omega
    · obtain rfl : k = m := by omega
      have hto' := hto.out
      rw [← HL.out] at hto'
      have T1 := Lib.hid (all_yes (allTo_all hto'))
      clear hto'
      go_wp2
      go_ret2
      refine ⟨_, by rw [T1.out.1]; rfl, ?_, by rw [HB.out]; exact HBL.out⟩
      rw [T1.out.2, HB.out]
      refine ⟨vs, ?_, fun j hj => ?_⟩
      · have := hf.out
        rw [← hvs.out, firstV_full] at this
        rw [HL.out, ← hvs.out]; exact this
      · obtain ⟨vj, h1, h2⟩ := hrows.out j (by rw [← HL.out]; exact hj)
        exact ⟨vj, h1, h2.less (by omega)⟩
end Go.Proofs.YtpfdlgofkcpglaaDoor

namespace Go.Proofs.YtpfdlgofkcpglaaDoor
open Go.ChangeShapes Go.WideShapes Go.ChangeAt Go.RowKit

/-- Whether lists are at most ten parts of n points. -/
def Lst (n : Int) (L : List (List Int)) : Prop := (3 ≤ n ∧ n ≤ 6) ∧ L.length ≤ 10 ∧ ∀ l ∈ L, Prt n l
instance (n : Int) (L : List (List Int)) : Decidable (Lst n L) := by unfold Lst; infer_instance
def lst (n : Int) (L : List (List Int)) : Bool := decide (Lst n L)
def lstL (n : Int) (L : List (List Int)) : List (List Int) := if Lst n L then L else []
theorem lst_yes {n : Int} {L : List (List Int)} (h : Lst n L) : lst n L = true ∧ lstL n L = L := ⟨by simpa [lst] using h, by rw [lstL, if_pos h]⟩
theorem lst_no {n : Int} {L : List (List Int)} (h : ¬ Lst n L) : lst n L = false ∧ lstL n L = [] := ⟨by simpa [lst] using h, by rw [lstL, if_neg h]⟩

set_option maxRecDepth 10000 in
set_option maxHeartbeats 1000000 in
theorem readParts_any (A : Option Addr) (m c H : Nat) (L : List (List Int)) (n : Int) (w : World) (h : RdS w H A m L) (hH : H ≤ w.heap.size) (hm : m ≤ 9223372036854775807) (hr : ∀ k, k < m → (rowK L k).length ≤ 1048576) :
    Calls Tryd.prog 60 #[.int .i64 n, .slice A m c] w fun e w' => ∃ v, e = .returned (.tuple #[v, .bool (lst n L)]) ∧ PrtS w' w.heap.size v (lstL n L) ∧ Below w.heap.size w w' := by
  have HL := Lib.hid h.len
  have HA := Lib.hid (askI_any n w)
  by_cases ha : 3 ≤ n ∧ n ≤ 6
  · have ha' : asked n = true := by simp [asked]; omega
    rw [ha'] at HA
    by_cases hm10 : m ≤ 10
    · have HC := Lib.hid (each_part A m c H L n w h hH (by omega) hr)
      have T : Hid (lst n L = allB (prt n) L ∧ lstL n L = allL (prt n) L) := by
        by_cases hall : ∀ l ∈ L, Prt n l
        · have h1 := all_yes (q := prt n) (L := L) (fun l hl => prt_yes (hall l hl))
          have h2 := lst_yes (n := n) (L := L) ⟨ha, by rw [HL.out]; exact hm10, hall⟩
          exact ⟨by rw [h1.1, h2.1], by rw [h1.2, h2.2]⟩
        · have h2 := lst_no (n := n) (L := L) (fun hh => hall hh.2.2)
          have h3 : ¬ ∀ l ∈ L, prt n l = true := fun hh => hall (fun l hl => by simpa [prt] using hh l hl)
          have h4 : allB (prt n) L = false := by rw [Bool.eq_false_iff]; intro e; exact h3 (allB_iff.1 e)
          exact ⟨by rw [h4, h2.1], by rw [h2.2, allL, if_neg (by rw [h4]; simp)]⟩
      rw [T.out.1, T.out.2]
      have hg : decide ((m : Int) > 10) = false := by simp; omega
      clear h ha ha' T
      generalize allB (prt n) L = r at *
      generalize allL (prt n) L = R at *
      go_enter Tryd.func60, Tryd.ntmps60
      go_wp2_with (first
        | (go_at_call 64; refine HA.out.mono ?_; rintro e w' ⟨rfl, rfl⟩)
        | (refine HC.out.mono ?_; rintro e w2 ⟨v2, rfl, hp2, hb2⟩; obtain ⟨A2, c2, rfl, _⟩ := hp2.slice; have HP2 := Lib.hid hp2; clear hp2))
      go_ret2
      exact ⟨_, rfl, HP2.out, hb2⟩
    · have T := Lib.hid (lst_no (n := n) (L := L) (fun hh => by have := hh.2.1; rw [HL.out] at this; omega))
      rw [T.out.1, T.out.2]
      have hg : decide ((m : Int) > 10) = true := by simp; omega
      clear h ha ha' T
      go_enter Tryd.func60, Tryd.ntmps60
      go_wp2_with (first
        | (go_at_call 64; refine HA.out.mono ?_; rintro e w' ⟨rfl, rfl⟩))
      go_ret2
      exact ⟨_, rfl, PrtS.nil _ _, Below.refl _ _⟩
  · have ha' : asked n = false := by simp [asked]; omega
    rw [ha'] at HA
    have T := Lib.hid (lst_no (n := n) (L := L) (fun hh => ha hh.1))
    rw [T.out.1, T.out.2]
    clear h ha ha' T
    go_enter Tryd.func60, Tryd.ntmps60
    go_wp2_with (first
      | (go_at_call 64; refine HA.out.mono ?_; rintro e w' ⟨rfl, rfl⟩))
    go_ret2
    exact ⟨_, rfl, PrtS.nil _ _, Below.refl _ _⟩
end Go.Proofs.YtpfdlgofkcpglaaDoor

namespace Go.Proofs.YtpfdlgofkcpglaaDoor
open Go.ChangeShapes Go.WideShapes Go.ChangeAt Go.RowKit

/-- Whether two lists are parts of n points that have each point in just one of them. -/
def Wov (n : Int) (p q : List Int) : Prop := Prt n p ∧ Prt n q ∧ maskN p ^^^ maskN q = 2 ^ n.toNat - 1
instance (n : Int) (p q : List Int) : Decidable (Wov n p q) := by unfold Wov; infer_instance
def wov (n : Int) (p q : List Int) : Bool := decide (Wov n p q)
theorem wov_yes {n : Int} {p q : List Int} (h : Wov n p q) : wov n p q = true := by simpa [wov] using h
theorem wov_no {n : Int} {p q : List Int} (h : ¬ Wov n p q) : wov n p q = false := by simpa [wov] using h

theorem mask_fits {n : Int} {p : List Int} (h : Prt n p) (j : Nat) (hj : n ≤ j) : (maskN p).testBit j = false := by
  have := mask_bit p (fun x hx => (h.bd x hx).1) j 0
  rw [show maskN p = (p.foldl (fun s x => s ||| 2 ^ x.toNat) 0) from rfl, this]
  simp only [Nat.zero_testBit, Bool.false_or, decide_eq_false_iff_not]
  intro hm
  have := h.2.2.1.1 _ hm
  omega
theorem mask_at {n : Int} {p : List Int} (h : Prt n p) (j : Nat) : (maskN p).testBit j = decide ((j : Int) ∈ p) := by
  have := mask_bit p (fun x hx => (h.bd x hx).1) j 0
  rw [show maskN p = (p.foldl (fun s x => s ||| 2 ^ x.toNat) 0) from rfl, this]
  simp
/-- Each point is in just one of the two. -/
theorem xor_full {n : Int} {p q : List Int} (hp : Prt n p) (hq : Prt n q) : maskN p ^^^ maskN q = 2 ^ n.toNat - 1 ↔ ∀ j : Nat, (j : Int) < n → ((j : Int) ∈ p ↔ (j : Int) ∉ q) := by
  have h3 := hp.1
  constructor
  · intro e j hj
    have := congrArg (fun s => s.testBit j) e
    simp only [Nat.testBit_xor, mask_at hp, mask_at hq, Nat.testBit_two_pow_sub_one] at this
    have hj' : decide (j < n.toNat) = true := by simp; omega
    rw [hj'] at this
    by_cases h1 : (j : Int) ∈ p <;> by_cases h2 : (j : Int) ∈ q <;> simp_all
  · intro h
    apply Nat.eq_of_testBit_eq
    intro j
    simp only [Nat.testBit_xor, mask_at hp, mask_at hq, Nat.testBit_two_pow_sub_one]
    by_cases hj : (j : Int) < n
    · have hj' : decide (j < n.toNat) = true := by simp; omega
      rw [hj']
      have := h j hj
      by_cases h1 : (j : Int) ∈ p <;> by_cases h2 : (j : Int) ∈ q <;> simp_all
    · have hj' : decide (j < n.toNat) = false := by simp; omega
      have h1 : (j : Int) ∉ p := fun hm => by have := hp.2.2.1.1 _ hm; omega
      have h2 : (j : Int) ∉ q := fun hm => by have := hq.2.2.1.1 _ hm; omega
      rw [hj', decide_eq_false h1, decide_eq_false h2]; rfl
theorem or_full {n : Int} {p q : List Int} (hp : Prt n p) (hq : Prt n q) : maskN p ||| maskN q = 2 ^ n.toNat - 1 ↔ ∀ j : Nat, (j : Int) < n → ((j : Int) ∈ p ∨ (j : Int) ∈ q) := by
  have h3 := hp.1
  constructor
  · intro e j hj
    have := congrArg (fun s => s.testBit j) e
    simp only [Nat.testBit_or, mask_at hp, mask_at hq, Nat.testBit_two_pow_sub_one] at this
    have hj' : decide (j < n.toNat) = true := by simp; omega
    rw [hj'] at this
    by_cases h1 : (j : Int) ∈ p <;> by_cases h2 : (j : Int) ∈ q <;> simp_all
  · intro h
    apply Nat.eq_of_testBit_eq
    intro j
    simp only [Nat.testBit_or, mask_at hp, mask_at hq, Nat.testBit_two_pow_sub_one]
    by_cases hj : (j : Int) < n
    · have hj' : decide (j < n.toNat) = true := by simp; omega
      rw [hj']
      have := h j hj
      by_cases h1 : (j : Int) ∈ p <;> by_cases h2 : (j : Int) ∈ q <;> simp_all
    · have hj' : decide (j < n.toNat) = false := by simp; omega
      have h1 : (j : Int) ∉ p := fun hm => by have := hp.2.2.1.1 _ hm; omega
      have h2 : (j : Int) ∉ q := fun hm => by have := hq.2.2.1.1 _ hm; omega
      rw [hj', decide_eq_false h1, decide_eq_false h2]; rfl
theorem nodup_all {n : Nat} {l : List Int} (hd : l.Nodup) (hin : ∀ x ∈ l, 0 ≤ x ∧ x < n) (hl : n ≤ l.length) (j : Nat) (hj : j < n) : (j : Int) ∈ l := by
  have h1 := nodup_le n l hd hin
  have e : l.length = n := by omega
  exact all_in l hd (fun x hx => by rw [e]; exact hin x hx) j (by omega)
/-- The model's way to ask it. -/
theorem wov_model {n : Int} {p q : List Int} (hp : Prt n p) (hq : Prt n q) : Wov n p q ↔ ((p.length : Int) + q.length = n ∧ maskN p ||| maskN q = 2 ^ n.toNat - 1) := by
  have h3 := hp.1
  have key : Wov n p q ↔ ∀ j : Nat, (j : Int) < n → ((j : Int) ∈ p ↔ (j : Int) ∉ q) := by
    rw [← xor_full hp hq]
    exact ⟨fun h => h.2.2, fun h => ⟨hp, hq, h⟩⟩
  rw [key, or_full hp hq]
  have bp := hp.2.2.1
  have bq := hq.2.2.1
  obtain ⟨m, rfl⟩ : ∃ m : Nat, n = m := ⟨n.toNat, by omega⟩
  have hin : ∀ x ∈ p ++ q, 0 ≤ x ∧ x < (m : Int) := fun x hx => by
    rcases List.mem_append.1 hx with h | h
    · exact bp.1 x h
    · exact bq.1 x h
  constructor
  · intro h
    have hd : (p ++ q).Nodup := by
      rw [List.nodup_append]
      refine ⟨bp.2, bq.2, fun a ha b hb e => ?_⟩
      subst e
      have hb2 := bp.1 a ha
      have := h a.toNat (by omega)
      rw [Int.toNat_of_nonneg hb2.1] at this
      exact this.1 ha hb
    have h1 := nodup_le m (p ++ q) hd hin
    have h2 : ∀ j : Nat, j < m → (j : Int) ∈ p ++ q := fun j hj => by
      rw [List.mem_append]
      by_cases hq : (j : Int) ∈ q
      · exact .inr hq
      · exact .inl ((h j (by omega)).2 hq)
    have h4 : m ≤ (p ++ q).length := by
      have hs : ((List.range m).map fun j : Nat => (j : Int)).Nodup := by
        rw [List.nodup_iff_pairwise_ne, List.pairwise_map]
        exact (List.nodup_iff_pairwise_ne.1 List.nodup_range).imp (fun hne e => hne (by omega))
      have := hs.length_le_of_subset (l₂ := p ++ q) (fun x hx => by
        obtain ⟨j, hj, rfl⟩ := List.mem_map.1 hx
        exact h2 j (List.mem_range.1 hj))
      simpa using this
    rw [List.length_append] at h1 h4
    refine ⟨by omega, fun j hj => ?_⟩
    have := h2 j (by omega)
    rwa [List.mem_append] at this
  · rintro ⟨hl, h⟩ j hj
    refine ⟨fun h1 h2 => ?_, fun h2 => (h j hj).resolve_right h2⟩
    -- the point j twice: the others would have to fill one place less
    have hcov : ∀ i : Nat, i < m → (i : Int) ∈ p ++ q.erase (j : Int) := fun i hi => by
      rw [List.mem_append]
      by_cases e : (i : Int) = j
      · left; rw [e]; exact h1
      · rcases h i (by omega) with h5 | h5
        · exact .inl h5
        · exact .inr ((List.mem_erase_of_ne e).2 h5)
    have hs : ((List.range m).map fun i : Nat => (i : Int)).Nodup := by
      rw [List.nodup_iff_pairwise_ne, List.pairwise_map]
      exact (List.nodup_iff_pairwise_ne.1 List.nodup_range).imp (fun hne e => hne (by omega))
    have := hs.length_le_of_subset (l₂ := p ++ q.erase (j : Int)) (fun x hx => by
      obtain ⟨i, hi, rfl⟩ := List.mem_map.1 hx
      exact hcov i (List.mem_range.1 hi))
    rw [List.length_append, List.length_erase_of_mem h2] at this
    simp at this
    have hql : 0 < q.length := List.length_pos_of_mem h2
    omega

theorem lst_two (n : Int) (p q : List Int) (h36 : 3 ≤ n ∧ n ≤ 6) : Lst n [p, q] ↔ Prt n p ∧ Prt n q := by
  unfold Lst
  simp
  intro _ _
  exact h36
theorem wov_lst {n : Int} {p q : List Int} (h : Wov n p q) : Lst n [p, q] := (lst_two n p q h.1.1).2 ⟨h.1, h.2.1⟩
theorem rds_pair (w : World) (H : Nat) (Ap Aq : Option Addr) (np nq cp cq : Nat) (p q : List Int) (hp : Rd w H Ap np p) (hq : Rd w H Aq nq q) (hH : H ≤ w.heap.size) (hpc : np ≤ cp) (hpm : cp ≤ 9223372036854775807) (hqc : nq ≤ cq) (hqm : cq ≤ 9223372036854775807) :
    RdS (w.alloc (.cells #[.slice Ap np cp, .slice Aq nq cq] 23)) (w.heap.size + 1) (some ⟨w.heap.size, 0, none⟩) 2 [p, q] := by
  have hb : Below w.heap.size w (w.alloc (.cells #[.slice Ap np cp, .slice Aq nq cq] 23)) := (Below.refl _ _).alloc (Nat.le_refl _) _
  refine ⟨rfl, fun _ => ⟨w.heap.size, 0, rfl, by omega, fun k hk => ?_⟩⟩
  obtain rfl | rfl : k = 0 ∨ k = 1 := by omega
  · refine ⟨Ap, cp, ?_, ?_, by show p.length ≤ cp; rw [hp.len]; exact hpc, hpm⟩
    · show _ = some (Value.slice Ap p.length cp)
      rw [hp.len, cell_of_row _ w.heap.size _ _ _ _ (heap_alloc_new w _)]
      rfl
    · show Rd _ _ Ap p.length p
      rw [hp.len]
      exact (hp.below (hb.mono hH)).more (by omega)
  · refine ⟨Aq, cq, ?_, ?_, by show q.length ≤ cq; rw [hq.len]; exact hqc, hqm⟩
    · show _ = some (Value.slice Aq q.length cq)
      rw [hq.len, cell_of_row _ w.heap.size _ _ _ _ (heap_alloc_new w _)]
      rfl
    · show Rd _ _ Aq q.length q
      rw [hq.len]
      exact (hq.below (hb.mono hH)).more (by omega)

theorem oRow_less {w : World} {B B' : Nat} {e : TypeId} {m k : Nat} {v : Value} {xs : List Value} (h : w.ownsRow B e m v k xs) (hB : B' ≤ B) : w.ownsRow B' e m v k xs := by
  refine ⟨h.1, ?_⟩
  rcases h.2 with e | ⟨g, cap, cur, e, hg, rest⟩
  · exact .inl e
  · exact .inr ⟨g, cap, cur, e, by omega, rest⟩
def wovL (n : Int) (p q : List Int) : List (List Int) := if Wov n p q then [p, q] else []
theorem wovL_yes {n : Int} {p q : List Int} (h : Wov n p q) : wovL n p q = [p, q] := by rw [wovL, if_pos h]
theorem wovL_no {n : Int} {p q : List Int} (h : ¬ Wov n p q) : wovL n p q = [] := by rw [wovL, if_neg h]

set_option maxRecDepth 10000 in
set_option maxHeartbeats 2000000 in
theorem readWoven_any (Ap Aq : Option Addr) (np cp nq cq H : Nat) (n : Int) (p q : List Int) (w : World) (hp : Rd w H Ap np p) (hq : Rd w H Aq nq q) (hH : H ≤ w.heap.size) (hpn : np ≤ 1048576) (hqn : nq ≤ 1048576) (hpc : np ≤ cp) (hpm : cp ≤ 9223372036854775807) (hqc : nq ≤ cq) (hqm : cq ≤ 9223372036854775807) :
    Calls Tryd.prog 82 #[.int .i64 n, .slice Ap np cp, .slice Aq nq cq] w fun e w' => ∃ v, e = .returned (.tuple #[v, .bool (wov n p q)]) ∧ PrtS w' w.heap.size v (wovL n p q) ∧ Below w.heap.size w w' := by
  have HPL := Lib.hid hp.len
  have HQL := Lib.hid hq.len
  obtain ⟨W0, h0⟩ : ∃ W, W = w.alloc (.cells #[.slice Ap np cp, .slice Aq nq cq] 23) := ⟨_, rfl⟩
  have hr0 : RdS W0 (w.heap.size + 1) (some ⟨w.heap.size, 0, none⟩) 2 [p, q] := by rw [h0]; exact rds_pair w H Ap Aq np nq cp cq p q hp hq hH hpc hpm hqc hqm
  have hs0 : W0.heap.size = w.heap.size + 1 := by rw [h0]; simp
  have HB0 : Hid (Below w.heap.size w W0) := by rw [h0]; exact (Below.refl _ _).alloc (Nat.le_refl _) _
  have HC := Lib.hid (readParts_any _ 2 2 _ [p, q] n W0 hr0 (by omega) (by omega) (fun k hk => by
    obtain rfl | rfl : k = 0 ∨ k = 1 := by omega
    · show p.length ≤ _; rw [HPL.out]; exact hpn
    · show q.length ≤ _; rw [HQL.out]; exact hqn))
  have HS0 := Lib.hid hs0
  clear hr0 hp hq hs0
  by_cases hl : Lst n [p, q]
  · have hpq := (lst_two n p q hl.1).1 hl
    have h36 := hl.1
    rw [(lst_yes hl).1, (lst_yes hl).2] at HC
    have HBP := Lib.hid hpq.1.bd
    have HBQ := Lib.hid hpq.2.bd
    have hmp := mask_lt p hpq.1.bd
    have hmq := mask_lt q hpq.2.bd
    obtain ⟨N, hN⟩ : ∃ N : Nat, n = N := ⟨n.toNat, by omega⟩
    have hx := xor_small (maskN p) (maskN q) hmp hmq
    have HW : Hid (wov n p q = decide (maskN p ^^^ maskN q = 2 ^ N - 1)) := by
      have e : n.toNat = N := by omega
      rw [Hid, wov, decide_eq_decide, Wov, e]
      exact ⟨fun h => h.2.2, fun h => ⟨hpq.1, hpq.2, h⟩⟩
    have HFS := Lib.hid (fun W => flipW (fullSet_any N W (by omega)))
    rw [← hN] at HFS
    have hpow : 1 ≤ 2 ^ N := Nat.one_le_two_pow
    have HLP := Lib.hid hpq.1.len
    have HLQ := Lib.hid hpq.2.len
    have HWL : Hid (wovL n p q = if wov n p q = true then [p, q] else []) := by
      unfold wovL wov; simp [Hid]
    clear hl hpq h36 hmp hmq hN hpow
    go_enter Tryd.func82, Tryd.ntmps82
    go_wp2_with fail
    rw [← h0]
    clear h0
    refine HC.out.mono ?_
    rintro e w1 ⟨v1, rfl, hp1, hb1⟩
    obtain ⟨A1, c1, rfl, _⟩ := hp1.slice
    have hrd := hp1.rd.2
    obtain ⟨b, o, e1, hbH, hcs⟩ := hrd.at_ (by simp)
    subst e1
    obtain ⟨A2, d2, hc0, hr2, _, _⟩ := hcs 0 (by simp)
    obtain ⟨A3, d3, hc1, hr3, _, _⟩ := hcs 1 (by simp)
    rw [Nat.add_zero] at hc0
    have HRP := Lib.hid (show Rd w1 w1.heap.size A2 p.length p from hr2)
    have HRQ := Lib.hid (show Rd w1 w1.heap.size A3 q.length q from hr3)
    replace hc0 : w1.cell? ⟨b, o, none⟩ = some (.slice A2 p.length d2) := hc0
    replace hc1 : w1.cell? ⟨b, o + 1, none⟩ = some (.slice A3 q.length d3) := hc1
    have HSP := Lib.hid (fun k => flipW (setOf_any A2 p.length d2 _ p (w1.drewN k) (HRP.out.drewN k) (by have := HLP.out; omega) HBP.out))
    have HSQ := Lib.hid (fun k => flipW (setOf_any A3 q.length d3 _ q (w1.drewN k) (HRQ.out.drewN k) (by have := HLQ.out; omega) HBQ.out))
    have HP1 := Lib.hid hp1
    have HB1 := Lib.hid (HB0.out.trans (hb1.mono (by rw [HS0.out]; omega)))
    clear hcs hr2 hr3 hrd hp1 hb1 HC
    cases hd : decide (maskN p ^^^ maskN q = 2 ^ N - 1) with
    | true =>
      have hne : (((maskN p ^^^ maskN q : Nat) : Int) != ((2 ^ N - 1 : Nat) : Int)) = false := by
        simp only [decide_eq_true_eq] at hd
        rw [hd]; simp
      rw [← hx] at hne
      rw [hd] at HW
      rw [HW.out, if_pos rfl] at HWL
      clear hd hx
      generalize maskN p = s at *
      generalize maskN q = t at *
      generalize 2 ^ N - 1 = f at *
      go_wp2
      go_quiet (first | (go_at_call_of 89 (Value.slice A2 p.length d2); refine Calls.quiet_of_same (HSP.out _)) | (go_at_call_of 89 (Value.slice A3 q.length d3); refine Calls.quiet_of_same (HSQ.out _)) | (go_at_call 99; refine Calls.quiet_of_same (HFS.out _)))
      go_wp2
      go_ret2
      refine ⟨_, by rw [HW.out]; rfl, ?_, below_drewN HB1.out _⟩
      rw [HWL.out]
      obtain ⟨xs, x1, x2⟩ := HP1.out
      exact ⟨xs, oRow_less x1 (by rw [HS0.out]; omega), fun k hk => by
        obtain ⟨vk, a1, a2⟩ := x2 k hk
        exact ⟨vk, a1, a2.less (by rw [HS0.out]; omega)⟩⟩
    | false =>
      have hne : (((maskN p ^^^ maskN q : Nat) : Int) != ((2 ^ N - 1 : Nat) : Int)) = true := by
        simp only [decide_eq_false_iff_not] at hd
        simp only [bne_iff_ne, ne_eq]
        intro e
        exact hd (by exact_mod_cast e)
      rw [← hx] at hne
      rw [hd] at HW
      rw [HW.out, if_neg (by simp)] at HWL
      clear hd hx HP1
      generalize maskN p = s at *
      generalize maskN q = t at *
      generalize 2 ^ N - 1 = f at *
      go_wp2
      go_quiet (first | (go_at_call_of 89 (Value.slice A2 p.length d2); refine Calls.quiet_of_same (HSP.out _)) | (go_at_call_of 89 (Value.slice A3 q.length d3); refine Calls.quiet_of_same (HSQ.out _)) | (go_at_call 99; refine Calls.quiet_of_same (HFS.out _)))
      go_wp2
      go_ret2
      refine ⟨_, by rw [HW.out]; rfl, ?_, below_drewN HB1.out _⟩
      rw [HWL.out]
      exact PrtS.nil _ _
  · have HW := Lib.hid (wov_no (n := n) (p := p) (q := q) (fun h => hl (wov_lst h)))
    have HWL := Lib.hid (wovL_no (n := n) (p := p) (q := q) (fun h => hl (wov_lst h)))
    rw [(lst_no hl).1, (lst_no hl).2] at HC
    clear hl
    go_enter Tryd.func82, Tryd.ntmps82
    go_wp2_with fail
    rw [← h0]
    clear h0
    refine HC.out.mono ?_
    rintro e w1 ⟨v1, rfl, hp1, hb1⟩
    obtain ⟨A1, c1, rfl, _⟩ := hp1.slice
    have HB1 := Lib.hid (HB0.out.trans (hb1.mono (by rw [HS0.out]; omega)))
    clear hp1 hb1 HC
    go_wp2
    go_quiet (fail)
    go_wp2
    go_ret2
    refine ⟨_, by rw [HW.out]; rfl, ?_, below_drewN HB1.out _⟩
    rw [HWL.out]
    exact PrtS.nil _ _
end Go.Proofs.YtpfdlgofkcpglaaDoor

namespace Go.Proofs.YtpfdlgofkcpglaaDoor
open Go.ChangeShapes Go.WideShapes Go.ChangeAt Go.RowKit

set_option maxHeartbeats 400000 in
theorem equalP_drew (A B : Option Addr) (n m c d : Nat) (xs ys : List Int) (H : Nat) (w : World) (hx : Rd w H A n xs) (hy : Rd w H B m ys) (hn : n ≤ 1048576) (_ : m ≤ 1048576) :
    Calls Tryd.prog 104 #[.slice A n c, .slice B m d] w fun e w' => e = .returned (.bool (same xs ys)) ∧ ∃ m, w' = w.drewN m := by
  have hlx := Lib.hid hx.len
  have hly := Lib.hid hy.len
  by_cases hnm : n = m
  · obtain ⟨r, hr⟩ : ∃ r, r = same xs ys := ⟨_, rfl⟩
    rw [← hr]
    have HR := Lib.hid hr
    clear hr
    subst hnm
    go_enter Tryd.func104, Tryd.ntmps104
    go_wp2
    go_loopw [13] (fun i wr => ∃ k : Nat, k ≤ n ∧ i = .int .i64 k ∧ Hid (xs.take k = ys.take k) ∧ Rd wr H A n xs ∧ Rd wr H B n ys ∧ ∃ q, wr = w.drewN q) (fun i _ => n - (intOf i).toNat)
    case atStart => exact ⟨0, Nat.zero_le _, rfl, by simp [Hid], hx, hy, 0, rfl⟩
    case round =>
      obtain ⟨k, hk, rfl, htk, hrx, hry, q, hbl⟩ := hrel
      have HBL := Lib.hid hbl
      clear hbl
      by_cases hlt : k < n
      · obtain ⟨b, o, rfl, hbB, hcs⟩ := hrx.at_ (by omega)
        obtain ⟨b', o', rfl, hbB', hcs'⟩ := hry.at_ (by omega)
        have hc := hcs k hlt
        have hc' := hcs' k hlt
        have T1 := Lib.hid (take_eq_step xs ys k (by rw [hlx.out]; exact hlt) (by rw [hly.out]; exact hlt) htk.out)
        have T2 : Hid (xs.getD k 0 ≠ ys.getD k 0 → xs ≠ ys) := fun h e => h (by rw [e])
        clear hcs hcs' hx hy
        generalize xs.getD k 0 = x at hc T1 T2
        generalize ys.getD k 0 = y at hc' T1 T2
        by_cases hxy : x = y
        · have hb : (x != y) = false := by simp [hxy]
          have T3 := Lib.hid (T1.out hxy)
          clear hxy T1 T2
          go_wp2
          go_quiet (fail)
          go_wp2
          go_roundw
          case rel => exact ⟨k + 1, by omega, by go_num, T3, hrx.drewN _, hry.drewN _, q + nq, by rw [HBL.out, World.drewN_drewN]⟩
          case measure => simp [intOf]; omega
        · have hb : (x != y) = true := by simp [hxy]
          have T3 := Lib.hid (T2.out hxy)
          clear hxy T1 T2
          go_wp2
          go_quiet (fail)
          go_wp2
          go_ret
          exact ⟨by rw [HR.out]; simp [same, T3.out], q + nq, by rw [HBL.out, World.drewN_drewN]⟩
      · go_wp2
        go_ret
        obtain rfl : k = n := by omega
        have e : xs = ys := by
          have := htk.out
          rwa [List.take_of_length_le (by rw [hlx.out]; omega), List.take_of_length_le (by rw [hly.out]; omega)] at this
        exact ⟨by rw [HR.out]; simp [same, e], q, HBL.out⟩
  · have hr : same xs ys = false := by
      simp only [same, decide_eq_false_iff_not]
      rintro rfl
      exact hnm (hlx.out.symm.trans hly.out)
    rw [hr]
    have hb : ((n : Int) != (m : Int)) = true := by simp; omega
    clear hr hnm
    go_enter Tryd.func104, Tryd.ntmps104
    go_wp2
    go_ret
    exact ⟨rfl, 0, rfl⟩


set_option maxHeartbeats 400000 in
theorem equalS_drew (A B : Option Addr) (n m c d : Nat) (xs ys : List Int) (H : Nat) (w : World) (hx : Rd w H A n xs) (hy : Rd w H B m ys) (hn : n ≤ 1048576) (_ : m ≤ 1048576) :
    Calls Tryd.prog 105 #[.slice A n c, .slice B m d] w fun e w' => e = .returned (.bool (same xs ys)) ∧ ∃ m, w' = w.drewN m := by
  have hlx := Lib.hid hx.len
  have hly := Lib.hid hy.len
  by_cases hnm : n = m
  · obtain ⟨r, hr⟩ : ∃ r, r = same xs ys := ⟨_, rfl⟩
    rw [← hr]
    have HR := Lib.hid hr
    clear hr
    subst hnm
    go_enter Tryd.func105, Tryd.ntmps105
    go_wp2
    go_loopw [5] (fun i wr => ∃ k : Nat, k ≤ n ∧ i = .int .i64 k ∧ Hid (xs.take k = ys.take k) ∧ Rd wr H A n xs ∧ Rd wr H B n ys ∧ ∃ q, wr = w.drewN q) (fun i _ => n - (intOf i).toNat)
    case atStart => exact ⟨0, Nat.zero_le _, rfl, by simp [Hid], hx, hy, 0, rfl⟩
    case round =>
      obtain ⟨k, hk, rfl, htk, hrx, hry, q, hbl⟩ := hrel
      have HBL := Lib.hid hbl
      clear hbl
      by_cases hlt : k < n
      · obtain ⟨b, o, rfl, hbB, hcs⟩ := hrx.at_ (by omega)
        obtain ⟨b', o', rfl, hbB', hcs'⟩ := hry.at_ (by omega)
        have hc := hcs k hlt
        have hc' := hcs' k hlt
        have T1 := Lib.hid (take_eq_step xs ys k (by rw [hlx.out]; exact hlt) (by rw [hly.out]; exact hlt) htk.out)
        have T2 : Hid (xs.getD k 0 ≠ ys.getD k 0 → xs ≠ ys) := fun h e => h (by rw [e])
        clear hcs hcs' hx hy
        generalize xs.getD k 0 = x at hc T1 T2
        generalize ys.getD k 0 = y at hc' T1 T2
        by_cases hxy : x = y
        · have hb : (x != y) = false := by simp [hxy]
          have T3 := Lib.hid (T1.out hxy)
          clear hxy T1 T2
          go_wp2
          go_quiet (fail)
          go_wp2
          go_roundw
          case rel => exact ⟨k + 1, by omega, by go_num, T3, hrx.drewN _, hry.drewN _, q + nq, by rw [HBL.out, World.drewN_drewN]⟩
          case measure => simp [intOf]; omega
        · have hb : (x != y) = true := by simp [hxy]
          have T3 := Lib.hid (T2.out hxy)
          clear hxy T1 T2
          go_wp2
          go_quiet (fail)
          go_wp2
          go_ret
          exact ⟨by rw [HR.out]; simp [same, T3.out], q + nq, by rw [HBL.out, World.drewN_drewN]⟩
      · go_wp2
        go_ret
        obtain rfl : k = n := by omega
        have e : xs = ys := by
          have := htk.out
          rwa [List.take_of_length_le (by rw [hlx.out]; omega), List.take_of_length_le (by rw [hly.out]; omega)] at this
        exact ⟨by rw [HR.out]; simp [same, e], q, HBL.out⟩
  · have hr : same xs ys = false := by
      simp only [same, decide_eq_false_iff_not]
      rintro rfl
      exact hnm (hlx.out.symm.trans hly.out)
    rw [hr]
    have hb : ((n : Int) != (m : Int)) = true := by simp; omega
    clear hr hnm
    go_enter Tryd.func105, Tryd.ntmps105
    go_wp2
    go_ret
    exact ⟨rfl, 0, rfl⟩


end Go.Proofs.YtpfdlgofkcpglaaDoor

namespace Go.Proofs.YtpfdlgofkcpglaaDoor
open Go.ChangeShapes Go.WideShapes Go.ChangeAt Go.RowKit

def tabI : List Int := Lib.deBruijn64tab.map fun z : Nat => (z : Int)
theorem tab_len : tabI.length = 64 := by decide
/-- The library's table lies in its variable. -/
def Tab (w : World) : Prop := 2 ≤ w.heap.size ∧ ∀ j, j < 64 → w.cell? ⟨1, j, none⟩ = some (.int .u8 (tabI.getD j 0))
theorem Tab.below {w w' : World} {B : Nat} (h : Tab w) (hb : Below B w w') (hB : 2 ≤ B) : Tab w' :=
  ⟨Nat.le_trans h.1 hb.size, fun j hj => (hb.cell (p := ⟨1, j, none⟩) (by simp; omega)).trans (h.2 j hj)⟩
theorem Tab.on {w w' : World} (h : Tab w) (hb : Below w.heap.size w w') : Tab w' := h.below hb h.1
theorem Tab.turn {w w' : World} {B C : Nat} (h : Tab w) (ht : Turn B C w w') (hB : 2 ≤ B) : Tab w' := h.below (below_turn (Below.refl 2 w) ht hB h.1) (Nat.le_refl _)
theorem Tab.drewN {w : World} (h : Tab w) (k : Nat) : Tab (w.drewN k) := h
theorem Tab.alloc {w : World} (h : Tab w) (o : Obj) : Tab (w.alloc o) := h.on ((Below.refl _ _).alloc (Nat.le_refl _) _)

def tzI (s : Nat) : Nat := (s &&& (18446744073709551616 - s)) * 285870213051353865 % 18446744073709551616 / 288230376151711744
theorem tz_nat : ∀ s : Fin 128, s.val ≠ 0 → tzI s.val < 64 ∧ tabI.getD (tzI s.val) 0 = ((lowN s.val : Nat) : Int) := by decide +kernel
theorem tz_key (s : Nat) (h0 : 0 < s) (hs : s < 128) : IntKind.u64.wrap (bits BinOp.and IntKind.u64 (s : Int) (IntKind.u64.wrap (-(s : Int))) * 285870213051353865) / 288230376151711744 = ((tzI s : Nat) : Int) := by
  have e1 : IntKind.u64.wrap (-(s : Int)) = ((18446744073709551616 - s : Nat) : Int) := by rw [IntKind.wrap_u64]; omega
  rw [e1, bits_and_u64_nat s _ (by omega) (by omega), IntKind.wrap_u64]
  unfold tzI
  generalize s &&& (18446744073709551616 - s) = a
  rw [Int.natCast_ediv, Int.natCast_emod, Int.natCast_mul]
  rfl

theorem tz64_core (x k idx : Nat) (w : World) (hx0 : ((x : Int) == 0) = false)
    (key : IntKind.u64.wrap (bits BinOp.and IntKind.u64 (x : Int) (IntKind.u64.wrap (-(x : Int))) * 285870213051353865) / 288230376151711744 = (idx : Int))
    (hi : idx < 64) (hk : k < 64) (hcell : w.cell? ⟨1, idx, none⟩ = some (.int .u8 k)) :
    Calls Tryd.prog 119 #[.int .u64 x] w fun e w' => e = .returned (.int .i64 k) ∧ w' = w := by
  go_enter Tryd.func119, Tryd.ntmps119
  go_wp2_with (simp only [key])
  go_ret
  exact ⟨rfl, rfl⟩
theorem tz64_any (s : Nat) (w : World) (h0 : 0 < s) (hs : s < 128) (hT : Tab w) :
    Calls Tryd.prog 119 #[.int .u64 (s : Int)] w fun e w' => e = .returned (.int .i64 (lowN s : Int)) ∧ w = w' := by
  have key := tz_key s h0 hs
  obtain ⟨hi, hk⟩ := tz_nat ⟨s, hs⟩ (by simp; omega)
  simp only at hi hk
  have hcell := hT.2 _ hi
  rw [hk] at hcell
  have hl := low_le s
  exact (tz64_core s (lowN s) (tzI s) w (by simp; omega) key hi (by omega) hcell).mono fun _ _ ⟨a, b⟩ => ⟨a, b.symm⟩
theorem tz_any (s : Nat) (w : World) (h0 : 0 < s) (hs : s < 128) (hT : Tab w) :
    Calls Tryd.prog 100 #[.int .u64 (s : Int)] w fun e w' => e = .returned (.int .i64 (lowN s : Int)) ∧ w = w' := by
  have HC := Lib.hid (tz64_any s w h0 hs hT)
  generalize lowN s = k at *
  clear hT
  go_enter Tryd.func100, Tryd.ntmps100
  go_wp2_with (refine HC.out.mono ?_; rintro e w' ⟨rfl, rfl⟩)
  go_ret
  exact ⟨rfl, rfl⟩
end Go.Proofs.YtpfdlgofkcpglaaDoor

namespace Go.Proofs.YtpfdlgofkcpglaaDoor
open Go.ChangeShapes Go.WideShapes Go.ChangeAt Go.RowKit

theorem cutL_mem6 (l : List Int) (x : Int) (hl : 0 < l.length) : ∀ y ∈ cutL l x, y ∈ l := fun y hy => by
  obtain ⟨k, hk, rfl⟩ := List.getElem_of_mem hy
  have hk' : k < l.length := by simpa using hk
  have h := cutL_get l x k hk'
  have e : (cutL l x)[k] = l.getD ((l.idxOf x + k) % l.length) 0 := by rw [← h, List.getD, List.getElem?_eq_getElem hk]; rfl
  rw [e]
  exact getD_mem l _ (Nat.mod_lt _ hl)

set_option maxRecDepth 10000 in
set_option maxHeartbeats 1000000 in
theorem part_any (l : List Int) (s : Nat) (w : World) (ht : Tell l) (h0 : 0 < s) (hs : s < 2 ^ l.length) (hT : Tab w) :
    Calls Tryd.prog 66 #[agp l, .int .i64 (s : Int)] w fun e w' => ∃ v, e = .returned v ∧ RowV w' w.heap.size v (partL l s) ∧ Below w.heap.size w w' := by
  have h7 := ht.2.1
  have h3 := ht.1
  have hs7 := fits s l.length h7 hs
  have hlow := low_lt s l.length h7 hs (by omega)
  have hmem : ((lowN s : Nat) : Int) ∈ l := ht.has (by omega) (by omega)
  have hbd : ∀ x ∈ cutL l ((lowN s : Nat) : Int), 0 ≤ x ∧ x < 7 := fun x hx => by
    have := ht.2.2.1 x (cutL_mem6 l _ (by omega) x hx)
    omega
  have HTZ := Lib.hid (fun W (hW : Tab W) => tz_any s W h0 hs7 hW)
  have HCUT := Lib.hid (fun W => cut_any l ((lowN s : Nat) : Int) W (by omega) h7 ht.pos hmem)
  have HSZ := Lib.hid (fun W => size_any l W h7 ht.pos)
  have HPO := Lib.hid (fun (A : Option Addr) (c H : Nat) (W : World) (hR : Rd W H A l.length (cutL l ((lowN s : Nat) : Int))) (hH : H ≤ W.heap.size) => partOf_any A l.length c H s _ W hR hH (by omega) h7 hbd hs7)
  have HP : Hid (pickN s (cutL l ((lowN s : Nat) : Int)) = partL l s) := rfl
  rw [HP.out] at HPO
  have hcl : (cutL l ((lowN s : Nat) : Int)).length = l.length := cutL_length _ _
  have HCP : Hid (∀ k, k < l.length → (padR (cutL l ((lowN s : Nat) : Int))).getD k 0 = (cutL l ((lowN s : Nat) : Int)).getD k 0) := fun k hk => padR_get _ k (by rw [hcl]; exact hk)
  have HCL := Lib.hid hcl
  have HP7 := Lib.hid (padR_length l h7)
  have HC7 := Lib.hid (padR_length (cutL l ((lowN s : Nat) : Int)) (by rw [hcl]; exact h7))
  have HT := Lib.hid hT
  have hwu : IntKind.u64.wrap (s : Int) = (s : Int) := by rw [IntKind.wrap_u64]; omega
  clear hT hbd hlow hmem hcl HP h0 hs hs7
  generalize partL l s = R at *
  generalize lowN s = k at *
  generalize cutL l ((k : Nat) : Int) = C at *
  generalize hn : l.length = n at *
  clear hn
  obtain ⟨W0, hW⟩ : ∃ W, W = w.alloc (.cells (ints (padR l)).toArray 71) := ⟨_, rfl⟩
  have HA0 : Hid (Arr W0 w.heap.size (padR l)) := by rw [hW]; exact heap_alloc_new w _
  have HB0 : Hid (Below w.heap.size w W0 ∧ W0.heap.size = w.heap.size + 1) := by rw [hW]; exact ⟨(Below.refl _ _).alloc (Nat.le_refl _) _, by simp⟩
  unfold agp at HCUT HSZ ⊢
  generalize padR l = P at *
  generalize padR C = Q at *
  have HT0 := Lib.hid (HT.out.on HB0.out.1)
  go_enter Tryd.func66, Tryd.ntmps66
  go_wp2_with fail
  rw [← hW]
  clear hW
  refine (HTZ.out W0 HT0.out).mono ?_
  rintro e w' ⟨rfl, rfl⟩
  go_wp2_with (first
    | (refine load_ring rfl _ rfl w.heap.size P HP7.out rfl HA0 ?_))
  refine (HCUT.out W0).mono ?_
  rintro e w1 ⟨rfl, hb1⟩
  have hg0 : w.heap.size < W0.heap.size := by have := HB0.out.2; omega
  have HA1 := Lib.hid (HA0.out.below hb1 hg0)
  have HB1 := Lib.hid (HB0.out.1.trans (hb1.mono (by omega)))
  have hs1 := hb1.size
  have hNR := new_ring w1
  have HNR := Lib.hid hNR
  clear hb1 HA0 hNR
  have hg1 : w.heap.size < w1.heap.size := by omega
  have hsl := fun W => slice_ring W w1.heap.size n h7
  go_wp2_with (first
    | (refine store_ring rfl _ _ rfl w1.heap.size zero7 Q rfl HC7.out rfl rfl HNR ?_; intro w2 HQ2 hg2 hs2
       have HA2 := Lib.hid ((HA1.out.alloc (.cells #[.int .i64 0, .int .i64 0, .int .i64 0, .int .i64 0, .int .i64 0, .int .i64 0, .int .i64 0] 71)).grown hg2 (by omega))
       have HB2 := Lib.hid ((HB1.out.alloc (by omega) (.cells #[.int .i64 0, .int .i64 0, .int .i64 0, .int .i64 0, .int .i64 0, .int .i64 0, .int .i64 0] 71)).grown hg2 (by simp; omega) (by simp; omega))
       have hs2' : w2.heap.size = w1.heap.size + 1 := by rw [hs2]; simp
       clear HA1 HB1 hg2 hs2 HNR)
    | (refine load_ring rfl _ rfl w.heap.size P HP7.out rfl HA2 ?_)
    | (go_at_call 101; refine (HSZ.out _).mono ?_; rintro e w' ⟨rfl, rfl⟩))
  have hR : Rd (w2.alloc (.cells (ints P).toArray 71)) (w1.heap.size + 1) (some ⟨w1.heap.size, 0, none⟩) n C := by
    refine ⟨HCL.out, fun _ => ⟨_, _, rfl, by omega, fun j hj => ?_⟩⟩
    have := (HQ2.out.alloc (.cells (ints P).toArray 71)).cell (i := j) (by rw [HC7.out]; omega)
    rw [HCP.out j hj] at this
    rw [Nat.zero_add]
    exact this
  refine (HPO.out _ 7 _ _ hR (by simp; omega)).mono ?_
  rintro e w5 ⟨v5, rfl, hr5, hb5⟩
  have HR5 := Lib.hid (hr5.less (show w.heap.size ≤ _ by simp; omega))
  have HB5 := Lib.hid ((HB2.out.alloc (by omega) (.cells (ints P).toArray 71)).trans (hb5.mono (show w.heap.size ≤ _ by simp; omega)))
  clear hr5 hb5 hR hsl
  go_wp2
  go_ret
  exact ⟨v5, rfl, HR5.out, HB5.out⟩
end Go.Proofs.YtpfdlgofkcpglaaDoor

namespace Go.Proofs.YtpfdlgofkcpglaaDoor
open Go.ChangeShapes Go.WideShapes Go.ChangeAt Go.RowKit


theorem mask_pos {n : Int} {p : List Int} (h : Prt n p) : 0 < maskN p := by
  have hl := h.len.1
  have hm := getD_mem p 0 (by omega)
  have hb := h.bd _ hm
  have := mask_at h (p.getD 0 0).toNat
  rw [Int.toNat_of_nonneg hb.1, decide_eq_true hm] at this
  rcases Nat.eq_zero_or_pos (maskN p) with e | e
  · rw [e] at this; simp at this
  · exact e
theorem mask_pow {n : Int} {p : List Int} (h : Prt n p) : maskN p < 2 ^ n.toNat := by
  have h3 := h.1
  exact Nat.lt_pow_two_of_testBit _ fun j hj => mask_fits h j (by omega)

theorem pick_step (s : Nat) (C : List Int) (k : Nat) (hk : k < C.length) : pickN s (C.take (k + 1)) = if hasN s (C.getD k 0) then pickN s (C.take k) ++ [C.getD k 0] else pickN s (C.take k) := by
  unfold pickN
  rw [List.take_succ_eq_append_getElem hk, List.filter_append]
  simp only [List.getD, List.getElem?_eq_getElem hk, Option.getD_some, List.filter_cons, List.filter_nil]
  split <;> simp
theorem pick_len (s : Nat) (C : List Int) (k : Nat) : (pickN s (C.take k)).length ≤ k := by
  have := List.length_filter_le (hasN s) (C.take k)
  rw [List.length_take] at this
  unfold pickN; omega

set_option maxRecDepth 10000 in
set_option maxHeartbeats 1000000 in
theorem partS_any (A : Option Addr) (n c H : Nat) (l : List Int) (s : Nat) (w : World) (h : Rd w H A n l) (hH : H ≤ w.heap.size) (ht : Tell l) (h0 : 0 < s) (hs : s < 2 ^ l.length) :
    Calls Tryd.prog 70 #[.slice A n c, .int .i64 (s : Int)] w fun e w' => ∃ v, e = .returned v ∧ Own w' w.heap.size v (partL l s) ∧ Below w.heap.size w w' := by
  obtain ⟨i0, hi, hz0, hz1, hz2⟩ := info_parts int_info
  have HL := Lib.hid h.len
  have h7 := ht.2.1
  have h3 := ht.1
  have hs7 := fits s l.length h7 hs
  have hlow := low_lt s l.length h7 hs (by omega)
  have hl6 := low_le s
  have HLOW := Lib.hid (low_has s hs7 (by omega))
  have hmem : ((lowN s : Nat) : Int) ∈ l := ht.has (by omega) (by omega)
  rw [HL.out] at h3 h7
  have HCUT := Lib.hid (fun W (hW : Rd W H A n l) (hHW : H ≤ W.heap.size) => cutS_any A n c H l ((lowN s : Nat) : Int) W hW hHW (by omega) h7 hmem)
  have HC0 := Lib.hid (fun k : Nat => (shr_bit s (k : Int) hs7).2)
  have HC1 := Lib.hid (fun x : Int => (shr_bit s x hs7).1)
  have hbd : ∀ x ∈ cutL l ((lowN s : Nat) : Int), 0 ≤ x ∧ x < 7 := fun x hx => by
    have hl0 : 0 < l.length := by have := ht.1; omega
    obtain ⟨k, hk, rfl⟩ := List.getElem_of_mem hx
    have hk' : k < l.length := by simpa using hk
    have e : (cutL l ((lowN s : Nat) : Int))[k] = l.getD ((l.idxOf ((lowN s : Nat) : Int) + k) % l.length) 0 := by rw [← cutL_get l _ k hk', List.getD, List.getElem?_eq_getElem hk]; rfl
    rw [e]
    have := ht.2.2.1 _ (getD_mem l ((l.idxOf ((lowN s : Nat) : Int) + k) % l.length) (Nat.mod_lt _ hl0))
    have := ht.2.1
    omega
  have HBD := Lib.hid hbd
  have HP : Hid (partL l s = pickN s (cutL l ((lowN s : Nat) : Int))) := rfl
  rw [HP.out]
  have HCL : Hid ((cutL l ((lowN s : Nat) : Int)).length = n) := by rw [Hid, cutL_length]; exact HL.out
  have ho0 := Lib.hid (own_empty w _ (Nat.le_refl _))
  have HB0 := Lib.hid ((Below.refl w.heap.size w).alloc (Nat.le_refl _) (.cells #[] 3))
  have HR0 := Lib.hid (h.alloc hH (.cells #[] 3))
  clear h hbd hmem HP hs h0 hlow ht
  generalize hk0 : lowN s = k0 at *
  clear hk0
  generalize cutL l ((k0 : Nat) : Int) = C at *
  go_enter Tryd.func70, Tryd.ntmps70
  go_wp2
  go_loop [5] (fun i => ∃ k : Nat, k ≤ k0 ∧ i = .int .i64 k) (fun i => k0 - (intOf i).toNat)
  case atStart => exact ⟨0, Nat.zero_le _, rfl⟩
  case round =>
    obtain ⟨k, hk, rfl⟩ := hrel
    have hb := HC0.out k
    rw [Int.toNat_natCast] at hb
    by_cases hlt : k < k0
    · have e : hasN s (k : Int) = false := HLOW.out.2 k hlt
      rw [e] at hb
      go_wp2
      go_round
      case rel => exact ⟨k + 1, by omega, by go_num⟩
      case measure => simp [intOf]; omega
    · obtain rfl : k = k0 := by omega
      have e : hasN s (k : Int) = true := HLOW.out.1
      rw [e] at hb
      go_wp2_with fail
      obtain ⟨W0, h0⟩ : ∃ W, W = w.alloc (.cells #[] 3) := ⟨_, rfl⟩
      rw [← h0] at ho0 HB0 HR0 ⊢
      have hs0 : W0.heap.size = w.heap.size + 1 := by rw [h0]; simp
      clear h0
      refine (HCUT.out W0 HR0.out (by omega)).mono ?_
      rintro e w1 ⟨v1, rfl, ho1, hb1⟩
      have HO1 : Hid (Own w1 w.heap.size (.slice (some ⟨w.heap.size, 0, none⟩) 0 0) []) := ⟨ho0.out.1, by
        rcases ho0.out.2 with e | ⟨g, cap, cur, e, hg, hgg, rest⟩
        · exact .inl e
        · refine .inr ⟨g, cap, cur, e, hg, (hb1.block g ?_).trans hgg, rest⟩
          exact (Array.getElem?_eq_some_iff.1 hgg).1⟩
      have HB1 := Lib.hid (HB0.out.trans (hb1.mono (by omega)))
      have hs1 := hb1.size
      obtain ⟨A1, c1, rfl⟩ := ho1.slice
      have HRC := Lib.hid (show Rd w1 w1.heap.size A1 C.length C from ho1.rd.2)
      have HO1C := Lib.hid ho1
      have hcb : ∀ k, (Value.slice A1 C.length c1).ownBlock = some k → w.heap.size + 1 ≤ k := fun k hk => by rw [← hs0]; exact (World.ownsRow.lt ho1 k hk).1
      clear ho1 hb1 ho0 HB0 HR0 HCUT
      have HCC : Hid (Own2 w1 (w.heap.size + 1) w1.heap.size (.slice A1 C.length c1) C) := by
        refine ⟨?_, fun k hk => (World.ownsRow.lt HO1C.out k hk).2⟩
        have := HO1C.out
        rw [hs0] at this
        exact this.gen
      rw [HCL.out] at HCC HRC hcb ⊢
      clear HO1C hcb HRC
      have hs2 : w.heap.size + 1 ≤ w1.heap.size := by omega
      generalize hE : w1.heap.size = E at *
      have HE := Lib.hid hE
      clear hE hs1 hs0
      generalize hB : w.heap.size = B at *
      have HB := Lib.hid hB
      clear hB HC0 hb
      go_wp2_with fail
      go_loopw [6, 8] (fun v i wr => ∃ q : Nat, q ≤ n ∧ i = .int .i64 q ∧ Hid (wr.ownsRow B 3 1 v (pickN s (C.take q)).length (ints (pickN s (C.take q)))) ∧ Hid (Own2 wr (B + 1) E (.slice A1 n c1) C) ∧ Below B w wr ∧ E ≤ wr.heap.size ∧ Hid (∀ k, v.ownBlock = some k → k < B + 1 ∨ E ≤ k)) (fun _ i _ => n - (intOf i).toNat)
      case atStart =>
        refine ⟨0, Nat.zero_le _, rfl, ?_, HCC, HB1.out, by rw [HE.out]; exact Nat.le_refl _, ?_⟩
        · have := HO1.out
          simpa [Own, Hid, ints, pickN] using this
        · intro k hk
          simp [Value.ownBlock] at hk
          omega
      case round =>
        obtain ⟨q, hq, rfl, hown, hcc, hbl, hEw, hblk⟩ := hrel
        clear HO1 HCC HB1
        have HBL := Lib.hid hbl
        clear hbl
        by_cases hlq : q < n
        · have hql : q < C.length := by rw [HCL.out]; exact hlq
          obtain ⟨b, o, rfl, hbH, hcs⟩ := hcc.out.rd.at_ (by omega)
          have hc := hcs q hlq
          have hxb := HBD.out _ (getD_mem C q hql)
          have hst := pick_step s C q hql
          have hpl := pick_len s C q
          have hbt := HC1.out (C.getD q 0)
          clear hcs
          obtain ⟨x, hx⟩ : ∃ x, x = C.getD q 0 := ⟨_, rfl⟩
          rw [← hx] at hc hxb hst hbt
          clear hx
          obtain ⟨hx0, hx7⟩ := hxb
          have HC' := Lib.hid hcc.out
          clear hcc
          cases hp : hasN s x with
          | true =>
            rw [hp] at hbt hst
            rw [if_pos rfl] at hst
            have HST := Lib.hid hst
            generalize hz : (pickN s (C.take q)).length = z at *
            have hzl : Hid ((pickN s (C.take q)).length = z) := hz
            clear hst hp hz
            go_wp2_with (at_builtin; refine wpList_append_own_at _ rfl _ _ 23 rfl B 3 i0 (.int .i64 0) 1 8 Tryd.underlying23 hi hz0 hz1 hz2 rfl (by decide) _ _ _ rfl (hown.out.alloc _) ⟨wr.heap.size, 0, none⟩ 1 1 [.int .i64 x] rfl rfl (one_cell wr _ _) (by simp [Value.oneCell']) (by unfold maxLen; omega) (by omega) (by simp; omega) ?_)
            intro v' w5 hown' hgrow _ hob
            have HO5 : Hid (w5.ownsRow B 3 1 v' (pickN s (C.take (q + 1))).length (ints (pickN s (C.take (q + 1))))) := by
              have e1 : (pickN s (C.take (q + 1))).length = z + 1 := by rw [HST.out, List.length_append, hzl.out]; rfl
              have e2 : ints (pickN s (C.take (q + 1))) = ints (pickN s (C.take q)) ++ [.int .i64 x] := by rw [HST.out]; simp [ints]
              rw [Hid, e1, e2]
              exact hown'
            have HC5 := Lib.hid ((HC'.out.below ((Below.refl wr.heap.size wr).alloc (Nat.le_refl _) (.cells #[.int .i64 x] 3)) hEw).grown hgrow hblk.out)
            have HB5 := Lib.hid ((HBL.out.alloc (by omega) (.cells #[.int .i64 x] 3)).grown hgrow (by simp; omega) (fun k hk => (hown.out.lt k hk).1))
            have hs5 := hgrow.size
            have HK5 : Hid (∀ k, v'.ownBlock = some k → k < B + 1 ∨ E ≤ k) := fun k hk => by
              rcases hob with e | e
              · exact hblk.out k (by rw [← e]; exact hk)
              · rw [e] at hk
                simp at hk
                omega
            have hE5 : E ≤ w5.heap.size := by simp at hs5; omega
            clear hown' hgrow hob hs5
            go_wp2
            go_roundw
            case rel => exact ⟨q + 1, by omega, by go_num, HO5, HC5, HB5.out, hE5, HK5⟩
            case measure => simp [intOf]; omega
          | false =>
            rw [hp] at hbt hst
            rw [if_neg (by simp)] at hst
            have HST := Lib.hid hst
            clear hst hp
            go_wp2
            go_roundw
            case rel => exact ⟨q + 1, by omega, by go_num, by rw [HST.out]; exact hown, HC', HBL.out, hEw, hblk⟩
            case measure => simp [intOf]; omega
        · obtain rfl : q = n := by omega
          go_wp2
          go_ret
          refine ⟨_, rfl, ?_, by rw [HB.out]; exact HBL.out⟩
          have := hown.out
          rw [List.take_of_length_le (by rw [HCL.out]; omega)] at this
          rw [HB.out]
          exact this
end Go.Proofs.YtpfdlgofkcpglaaDoor

namespace Go.Proofs.YtpfdlgofkcpglaaDoor
open Go.ChangeShapes Go.WideShapes Go.ChangeAt Go.RowKit

theorem part_short (l : List Int) (s : Nat) (h : l.length ≤ 7) : (partL l s).length ≤ 7 := Nat.le_trans (part_length l s) h

set_option maxRecDepth 10000 in
set_option maxHeartbeats 1000000 in
theorem hasLS_any (A B : Option Addr) (n c m d H : Nat) (l p : List Int) (w : World) (h : Rd w H A n l) (k : Rd w H B m p) (hH : H ≤ w.heap.size) (ht : Tell l) (hp : Prt (l.length : Int) p) :
    Calls Tryd.prog 72 #[.slice A n c, .slice B m d] w fun e w' => e = .returned (.bool (hasL l p)) ∧ Below w.heap.size w w' := by
  have hml := hp.len
  have hk := k.len
  have hpw := mask_pow hp
  rw [Int.toNat_natCast] at hpw
  have HS := Lib.hid (setS_any B m d H p w k (by omega) hp.bd)
  have HPT := Lib.hid (partS_any A n c H l (maskN p) w h hH ht (mask_pos hp) hpw)
  have HE := Lib.hid (fun (A' : Option Addr) (n' c' : Nat) (W : World) (hW : Rd W W.heap.size A' n' (partL l (maskN p))) (kW : Rd W W.heap.size B m p) (hn' : n' ≤ 1048576) => equalS_drew A' B n' m c' d _ p W.heap.size W hW kW hn' (by omega))
  have HQ : Hid (same (partL l (maskN p)) p = hasL l p) := rfl
  rw [HQ.out] at HE
  have hsh := part_short l (maskN p) ht.2.1
  have HK := Lib.hid k
  clear h k hp hpw ht HQ
  generalize hasL l p = r at *
  generalize partL l (maskN p) = R at *
  generalize maskN p = s at *
  go_enter Tryd.func72, Tryd.ntmps72
  go_wp2_with fail
  refine HS.out.mono ?_
  rintro e w' ⟨rfl, rfl⟩
  go_wp2_with fail
  refine HPT.out.mono ?_
  rintro e w1 ⟨v1, rfl, ho1, hb1⟩
  obtain ⟨A1, c1, rfl⟩ := ho1.slice
  have hb1' := Lib.hid hb1
  have HC := Lib.hid (HE.out A1 _ c1 w1 ho1.rd.2 ((HK.out.below (hb1.mono hH)).more (Nat.le_trans hH hb1.size)) (by omega))
  clear ho1 hb1 HPT HS HK HE
  go_wp2_with fail
  refine HC.out.mono ?_
  rintro e w2 ⟨rfl, q, rfl⟩
  go_wp2
  go_ret
  exact ⟨rfl, below_drewN hb1'.out _⟩

attribute [local go_sem ↓] ldR_fold in
set_option maxRecDepth 10000 in
set_option maxHeartbeats 1000000 in
theorem hasLI_any (B : Option Addr) (m d H : Nat) (l p : List Int) (w : World) (k : Rd w H B m p) (hH : H ≤ w.heap.size) (ht : Tell l) (hp : Prt (l.length : Int) p) (hT : Tab w) :
    Calls Tryd.prog 71 #[agp l, .slice B m d] w fun e w' => e = .returned (.bool (hasL l p)) ∧ Below w.heap.size w w' := by
  have hml := hp.len
  have hk := k.len
  have hpw := mask_pow hp
  rw [Int.toNat_natCast] at hpw
  obtain ⟨W0, hW⟩ : ∃ W, W = w.alloc (.cells (ints (padR l)).toArray 71) := ⟨_, rfl⟩
  have HA0 : Hid (Arr W0 w.heap.size (padR l)) := by rw [hW]; exact heap_alloc_new w _
  have hb0 : Below w.heap.size w W0 := by rw [hW]; exact (Below.refl _ _).alloc (Nat.le_refl _) _
  have hs0 : W0.heap.size = w.heap.size + 1 := by rw [hW]; simp
  have hk0 : Rd W0 H B m p := k.below (hb0.mono hH)
  have HS := Lib.hid (setOf_any B m d H p W0.drew hk0.drew (by omega) hp.bd)
  have HPT := Lib.hid (part_any l (maskN p) W0.drew ht (mask_pos hp) hpw ((hT.on hb0).drewN 1))
  have HE := Lib.hid (fun (A' : Option Addr) (n' c' : Nat) (W : World) (hW : Rd W W.heap.size A' n' (partL l (maskN p))) (kW : Rd W W.heap.size B m p) (hn' : n' ≤ 1048576) => equalP_drew A' B n' m c' d _ p W.heap.size W hW kW hn' (by omega))
  have HQ : Hid (same (partL l (maskN p)) p = hasL l p) := rfl
  rw [HQ.out] at HE
  have hsh := part_short l (maskN p) ht.2.1
  have H7 := Lib.hid (padR_length l ht.2.1)
  have HK := Lib.hid hk0
  have HB0 := Lib.hid hb0
  clear k hp hpw ht HQ hk0 hb0 hT
  generalize hasL l p = r at *
  generalize partL l (maskN p) = R at *
  generalize maskN p = s at *
  unfold agp at HPT ⊢
  generalize padR l = P at *
  go_enter Tryd.func71, Tryd.ntmps71
  have l1 := ldR_run HA0.out.drew H7.out
  go_wp2_with fail
  rw [← hW]
  clear hW
  go_region_with (first
    | (go_at_call 89; refine HS.out.mono ?_; rintro e w' ⟨rfl, rfl⟩)
    | (go_at_call 66; refine HPT.out.mono ?_; rintro e w1 ⟨v1, rfl, hr1, hb1⟩
       obtain ⟨A1, c1, ev, _⟩ := hr1.2
       subst ev
       have hrd := hr1.1.rd.2
       have hs1 := hb1.size
       have HB1 := Lib.hid (HB0.out.drew.trans (hb1.mono (by simp; omega)))
       have HC := Lib.hid (HE.out A1 _ c1 w1 hrd ((HK.out.drew.below (hb1.mono (by simp; omega))).more (by simp at hs1; omega)) (by omega))
       clear hr1 hb1 hrd hs1)
    | (go_at_call 104; refine HC.out.mono ?_; rintro e w2 ⟨rfl, q, rfl⟩))
  all_goals
    go_wp2
    go_ret
    exact ⟨rfl, below_drewN HB1.out _⟩
end Go.Proofs.YtpfdlgofkcpglaaDoor

/- The rings that have all of some parts: the program. -/
import Derived.Test.YtgojojoanhilnabDoorWvH
import Derived.Test.YtgojojoanhilnabDoorWvE
namespace Go.Proofs.YtgojojoanhilnabDoor
open Go.ChangeShapes Go.WideShapes Go.ChangeAt Go.RowKit

set_option maxRecDepth 10000 in
set_option maxHeartbeats 1000000 in
theorem indexF_part (fid : Nat) (hE : ∀ args w, (callFunc fid args).run Tryd.prog w = .ok (.enter fid args) w) (cap : Value) (p : List Int → Bool) (H : Nat) (A : Option Addr) (n c : Nat) (L : List (List Int)) (w : World) (h : RdS w H A n L) (hH : H ≤ w.heap.size) (hn : n ≤ 1000)
    (hf : ∀ W, Below w.heap.size w W → ∀ l ∈ L, ∀ (Al : Option Addr) (cl : Nat), Rd W H Al l.length l → Calls Tryd.prog fid #[.slice Al l.length cl, cap] W fun e w' => e = .returned (.bool (p l)) ∧ Below W.heap.size W w') :
    Calls Tryd.prog 69 #[.slice A n c, .func (.func fid) #[] #[cap]] w fun e w' => e = .returned (.int .i64 (idxR p L)) ∧ Below w.heap.size w w' := by
  have HL := Lib.hid h.len
  have hr0 := Lib.hid h
  have HF := Lib.hid hf
  clear h hf
  go_enter Tryd.func69, Tryd.ntmps69
  go_wp2
  go_loopw [8] (fun i wr => ∃ k : Nat, k ≤ n ∧ i = .int .i64 k ∧ Hid (∀ j, j < k → p (rowK L j) = false) ∧ Hid (RdS wr H A n L) ∧ Below w.heap.size w wr) (fun i _ => n - (intOf i).toNat)
  case atStart => exact ⟨0, Nat.zero_le _, rfl, fun j hj => absurd hj (by omega), hr0, Below.refl _ _⟩
  case round =>
    obtain ⟨k, hk, rfl, hpre, hrd, hbl⟩ := hrel
    clear hr0
    by_cases hlt : k < n
    · have hkl : k < L.length := by rw [HL.out]; exact hlt
      obtain ⟨b, o, rfl, hbB, hcs⟩ := hrd.out.at_ (by omega)
      obtain ⟨Al, cl, hc, hr, _, _⟩ := hcs k hlt
      have HC := Lib.hid (HF.out wr hbl _ (rowK_mem hkl) Al cl hr)
      clear hcs hr
      cases hp : p (rowK L k) with
      | false =>
        have HP : Hid (∀ j, j < k + 1 → p (rowK L j) = false) := fun j hj => by
          rcases Nat.lt_succ_iff_lt_or_eq.1 hj with hj | rfl
          · exact hpre.out j hj
          · exact hp
        rw [hp] at HC
        clear hp hkl
        generalize (rowK L k).length = z at *
        go_wp2_with (refine HC.out.mono ?_; rintro e w5 ⟨rfl, hb5⟩)
        go_roundw
        case rel => exact ⟨k + 1, by omega, by go_num, HP, Lib.hid (hrd.out.below (hb5.mono (Nat.le_trans hH hbl.size))), hbl.trans (hb5.mono hbl.size)⟩
        case measure => simp [intOf]; omega
      | true =>
        have HI := Lib.hid (idxR_at hkl hpre.out hp).1
        rw [hp] at HC
        clear hp hkl
        generalize (rowK L k).length = z at *
        go_wp2_with (refine HC.out.mono ?_; rintro e w5 ⟨rfl, hb5⟩)
        go_ret
        exact ⟨by rw [HI.out]; rfl, hbl.trans (hb5.mono hbl.size)⟩
    · obtain rfl : k = n := by omega
      have HI := Lib.hid (idxR_none (p := p) (M := L) (by rw [HL.out]; exact hpre.out))
      go_wp2
      go_ret
      exact ⟨by rw [HI.out]; rfl, hbl⟩

theorem idxR_any (p : List Int → Bool) (L : List (List Int)) : decide (idxR p L ≥ 0) = L.any p := by
  cases h : L.any p with
  | true =>
    have h1 : L.findIdx p < L.length := by
      rw [List.findIdx_lt_length]
      obtain ⟨x, hx, hp⟩ := List.any_eq_true.1 h
      exact ⟨x, hx, hp⟩
    rw [idxR, if_pos h1]
    simp
  | false =>
    have h1 : ¬ L.findIdx p < L.length := by
      rw [List.findIdx_lt_length]
      rintro ⟨x, hx, hp⟩
      have := List.any_eq_false.1 h x hx
      exact this hp
    rw [idxR, if_neg h1]
    simp
theorem containsF_part (fid : Nat) (hE : ∀ args w, (callFunc fid args).run Tryd.prog w = .ok (.enter fid args) w) (cap : Value) (p : List Int → Bool) (H : Nat) (A : Option Addr) (n c : Nat) (L : List (List Int)) (w : World) (h : RdS w H A n L) (hH : H ≤ w.heap.size) (hn : n ≤ 1000)
    (hf : ∀ W, Below w.heap.size w W → ∀ l ∈ L, ∀ (Al : Option Addr) (cl : Nat), Rd W H Al l.length l → Calls Tryd.prog fid #[.slice Al l.length cl, cap] W fun e w' => e = .returned (.bool (p l)) ∧ Below W.heap.size W w') :
    Calls Tryd.prog 46 #[.slice A n c, .func (.func fid) #[] #[cap]] w fun e w' => e = .returned (.bool (L.any p)) ∧ Below w.heap.size w w' := by
  have HI := Lib.hid (indexF_part fid hE cap p H A n c L w h hH hn hf)
  have HD := Lib.hid (idxR_any p L)
  generalize L.any p = r at *
  generalize idxR p L = i at *
  clear h hf hE
  cases r with
  | true =>
    have hd := HD.out
    go_enter Tryd.func46, Tryd.ntmps46
    go_wp2_with (refine HI.out.mono ?_; rintro e w5 ⟨rfl, hb5⟩)
    go_ret
    exact ⟨by rw [← hd]; rfl, hb5⟩
  | false =>
    have hd := HD.out
    go_enter Tryd.func46, Tryd.ntmps46
    go_wp2_with (refine HI.out.mono ?_; rintro e w5 ⟨rfl, hb5⟩)
    go_ret
    exact ⟨by rw [← hd]; rfl, hb5⟩

set_option maxRecDepth 10000 in
set_option maxHeartbeats 1000000 in
theorem wov11_any (B : Option Addr) (m d H g : Nat) (l p : List Int) (w : World) (hg : Arr w g (padR l)) (k : Rd w H B m p) (hH : H ≤ w.heap.size) (ht : Tell l) (hp : Prt (l.length : Int) p) (hT : Tab w) :
    Calls Tryd.prog 47 #[.slice B m d, .pointer (some ⟨g, 0, none⟩)] w fun e w' => e = .returned (.bool (!hasL l p)) ∧ Below w.heap.size w w' := by
  have HC := Lib.hid (hasLI_any B m d H l p w k hH ht hp hT)
  have H7 := Lib.hid (padR_length l ht.2.1)
  have HA := Lib.hid hg
  clear hg k ht hp hT
  generalize hasL l p = r at *
  unfold agp at HC
  generalize padR l = P at *
  go_enter Tryd.func47, Tryd.ntmps47
  go_wp2_with (first
    | (refine load_ring rfl _ rfl g P H7.out rfl HA ?_)
    | (refine HC.out.mono ?_; rintro e w5 ⟨rfl, hb5⟩))
  go_ret
  exact ⟨rfl, hb5⟩

set_option maxRecDepth 10000 in
set_option maxHeartbeats 1000000 in
theorem wov1_any (l : List Int) (bx : Nat) (A : Option Addr) (n c H : Nat) (L : List (List Int)) (w : World) (hbx : w.cell? ⟨bx, 0, none⟩ = some (.slice A n c)) (h : RdS w H A n L) (hH : H ≤ w.heap.size) (hn : n ≤ 1000) (ht : Tell l) (hp : ∀ p ∈ L, Prt (l.length : Int) p) (hT : Tab w) :
    Calls Tryd.prog 45 #[agp l, .pointer (some ⟨bx, 0, none⟩)] w fun e w' => e = .returned (.bool (L.any fun p => !hasL l p)) ∧ Below w.heap.size w w' := by
  obtain ⟨W, hW⟩ : ∃ W, W = w.alloc (.cells (ints (padR l)).toArray 49) := ⟨_, rfl⟩
  have hbw : bx < w.heap.size := World.block_lt_of_cell? w _ hbx
  have k1 : Arr W w.heap.size (padR l) := by rw [hW]; exact heap_alloc_new w _
  have kb : Below w.heap.size w W := by rw [hW]; exact (Below.refl _ _).alloc (Nat.le_refl _) _
  have k2 : W.heap.size = w.heap.size + 1 := by rw [hW]; simp
  have k3 : W.cell? ⟨bx, 0, none⟩ = some (.slice A n c) := (kb.cell (p := ⟨bx, 0, none⟩) hbw).trans hbx
  have k4 := h.below (kb.mono hH)
  have k5 := hT.on kb
  have HC := Lib.hid (containsF_part 47 (enters_fn Tryd.func47 (by decide) rfl) (.pointer (some ⟨w.heap.size, 0, none⟩)) (fun p => !hasL l p) H A n c L W k4 (by omega) hn
    (fun V hV p hpm Al cl hr => wov11_any Al _ cl H w.heap.size l p V (k1.below hV (by omega)) hr (by have := hV.size; omega) ht (hp p hpm) (k5.on hV)))
  have HB := Lib.hid kb
  clear h hT hp ht k1 kb k4 k5 hbx
  rw [hW] at k3
  generalize (L.any fun p => !hasL l p) = r at *
  unfold agp
  generalize padR l = P at *
  go_enter Tryd.func45, Tryd.ntmps45
  go_wp2_with fail
  rw [← hW]
  clear hW
  refine HC.out.mono ?_
  rintro e w5 ⟨rfl, hb5⟩
  have HB5 := Lib.hid (HB.out.trans (hb5.mono (by omega)))
  go_wp2
  go_ret
  exact ⟨rfl, HB5.out⟩

/-- The rings of n points that have all of some parts. -/
def wovenL (n : Nat) (L : List (List Int)) : List (List Int) := (ringsL n).filter fun l => L.all (hasL l)
theorem wovenL_is (n : Nat) (L : List (List Int)) (h3 : 3 ≤ n) (h6 : n ≤ 6) : ∀ l ∈ wovenL n L, IsR n l := fun l hl => ringsL_is n h3 h6 l (List.mem_filter.1 hl).1
theorem wovenL_len (n : Nat) (L : List (List Int)) (h3 : 3 ≤ n) (h6 : n ≤ 6) : (wovenL n L).length ≤ 720 := by
  have h1 := List.length_filter_le (fun l => L.all (hasL l)) (ringsL n)
  rw [ringsL_length] at h1
  have := (facM_eq n h3 h6).2.1
  unfold wovenL; omega

set_option maxRecDepth 10000 in
set_option maxHeartbeats 1000000 in
theorem woven_any (n : Nat) (A : Option Addr) (m c H : Nat) (L : List (List Int)) (w : World) (h : RdS w H A m L) (hH : H ≤ w.heap.size) (h3 : 3 ≤ n) (h6 : n ≤ 6) (hm : m ≤ 1000) (hp : ∀ p ∈ L, Prt (n : Int) p) (hT : Tab w) :
    Calls Tryd.prog 23 #[.int .i64 (n : Int), .slice A m c] w fun e w' => ∃ v', e = .returned v' ∧ RowN w' w.heap.size 49 7 v' (padM (wovenL n L)) ∧ Below w.heap.size w w' := by
  obtain ⟨W, hW⟩ : ∃ W, W = w.alloc (.cells #[.slice A m c] 39) := ⟨_, rfl⟩
  have kb : Below w.heap.size w W := by rw [hW]; exact (Below.refl _ _).alloc (Nat.le_refl _) _
  have k2 : W.heap.size = w.heap.size + 1 := by rw [hW]; simp
  have k3 : W.cell? ⟨w.heap.size, 0, none⟩ = some (.slice A m c) := by rw [hW]; simp
  have k4 := h.below (kb.mono hH)
  have k5 := hT.on kb
  have HF : Hid (∀ V, Below W.heap.size W V → ∀ P ∈ padM (ringsL n), Calls Tryd.prog 45 #[.agg (ints P).toArray, .pointer (some ⟨w.heap.size, 0, none⟩)] V fun e w' => e = .returned (.bool (L.any fun p => !hasL (unpad P) p)) ∧ Below V.heap.size V w') := fun V hV P hP => by
    simp only [padM, List.mem_map] at hP
    obtain ⟨l, hl, rfl⟩ := hP
    have hI := ringsL_is n h3 h6 l hl
    rw [unpad_pad l hI.2.1]
    exact wov1_any l w.heap.size A m c H L V ((hV.cell (p := ⟨w.heap.size, 0, none⟩) (by simp; omega)).trans k3) (k4.below (hV.mono (by omega))) (by have := hV.size; omega) hm (hI.tell h3 (by omega)) (by rw [hI.1]; exact hp) (k5.on hV)
  have hpl : (padM (ringsL n)).length ≤ 1000 := by have := (facM_eq n h3 h6).2.1; simp [padM, ringsL_length]; omega
  have HPL := Lib.hid hpl
  have HR : Hid ((padM (ringsL n)).filter (fun P => !(L.any fun p => !hasL (unpad P) p)) = padM (wovenL n L)) := by
    rw [Hid, filter_pad (ringsL n) (fun l => !(L.any fun p => !hasL l p)) (fun l hl => (ringsL_is n h3 h6 l hl).2.1)]
    congr 1
    unfold wovenL
    congr 1
    funext l
    rw [List.not_any_eq_all_not]
    simp
  clear h hT hp k3 k4 k5 hpl
  have HB := Lib.hid kb
  have HSZ := Lib.hid k2
  have hBW : w.heap.size ≤ W.heap.size := by omega
  clear kb k2
  go_enter Tryd.func23, Tryd.ntmps23
  go_wp2_with fail
  rw [← hW]
  clear hW
  generalize hBB : w.heap.size = B at *
  have HBB := Lib.hid hBB
  clear hBB
  refine (allRings_any n W h3 h6).mono ?_
  rintro e w1 ⟨v1, rfl, hr1, hb1⟩
  have HR1 := Lib.hid hr1
  have HB1 := Lib.hid hb1
  have hs1 := hb1.size
  clear hr1 hb1
  go_wp2_with fail
  refine (deleteF_ring 45 (enters_fn Tryd.func45 (by decide) rfl) (.pointer (some ⟨B, 0, none⟩)) (fun P => L.any fun p => !hasL (unpad P) p) W.heap.size v1 _ w1 HR1.out hs1 HPL.out (fun V hV => HF.out V (HB1.out.trans hV))).mono ?_
  rintro e w2 ⟨v2, rfl, hr2, hb2⟩
  rw [HR.out] at hr2
  go_wp2
  go_ret
  exact ⟨_, rfl, by rw [HBB.out]; exact hr2.less hBW, by rw [HBB.out]; exact (HB.out.trans (HB1.out.mono hBW)).trans (hb2.mono hBW)⟩
end Go.Proofs.YtgojojoanhilnabDoor

/- Several texts as one: WvW WvL WvY1 WvY2 WvY0 GrX WvY3. -/
import Derived.Test.YtpfdlgofkcpglaaDoorWB
import Derived.Test.YtpfdlgofkcpglaaDoorGrow
import Derived.Test.YtpfdlgofkcpglaaDoorWA
import Derived.Test.YtpfdlgofkcpglaaDoorIn
import Derived.Test.YtpfdlgofkcpglaaDoorFirst
import Derived.Test.YtpfdlgofkcpglaaDoorMat
namespace Go.Proofs.YtpfdlgofkcpglaaDoor
open Go.ChangeShapes Go.WideShapes Go.ChangeAt Go.RowKit

set_option maxRecDepth 10000 in
set_option maxHeartbeats 1000000 in
theorem indexF_part (fid : Nat) (hE : ∀ args w, (callFunc fid args).run Tryd.prog w = .ok (.enter fid args) w) (cap : Value) (p : List Int → Bool) (H : Nat) (A : Option Addr) (n c : Nat) (L : List (List Int)) (w : World) (h : RdS w H A n L) (hH : H ≤ w.heap.size) (hn : n ≤ 1000)
    (hf : ∀ W, Below w.heap.size w W → ∀ l ∈ L, ∀ (Al : Option Addr) (cl : Nat), Rd W H Al l.length l → Calls Tryd.prog fid #[.slice Al l.length cl, cap] W fun e w' => e = .returned (.bool (p l)) ∧ Below W.heap.size W w') :
    Calls Tryd.prog 116 #[.slice A n c, .func (.func fid) #[] #[cap]] w fun e w' => e = .returned (.int .i64 (idxR p L)) ∧ Below w.heap.size w w' := by
  have HL := Lib.hid h.len
  have hr0 := Lib.hid h
  have HF := Lib.hid hf
  clear h hf
  go_enter Tryd.func116, Tryd.ntmps116
  go_wp2
  go_loopw [8] (fun i wr => ∃ k : Nat, k ≤ n ∧ i = .int .i64 k ∧ Hid (∀ j, j < k → p (rowK L j) = false) ∧ Hid (RdS wr H A n L) ∧ Below w.heap.size w wr) (fun i _ => n - (intOf i).toNat)
  case atStart => exact ⟨0, Nat.zero_le _, rfl, fun j hj => absurd hj (by omega), hr0, Below.refl _ _⟩
  case round =>
    obtain ⟨k, hk, rfl, hpre, hrd, hbl⟩ := hrel
    clear hr0
    by_cases hlt : k < n
    · have hkl : k < L.length := by rw [HL.out]; exact hlt
      obtain ⟨b, o, rfl, hbB, hcs⟩ := hrd.out.at_ (by omega)
      obtain ⟨Al, cl, hc, hr, _, _⟩ := hcs k hlt
      have HC := Lib.hid (HF.out wr hbl _ (rowK_mem hkl) Al cl hr)
      clear hcs hr
      cases hp : p (rowK L k) with
      | false =>
        have HP : Hid (∀ j, j < k + 1 → p (rowK L j) = false) := fun j hj => by
          rcases Nat.lt_succ_iff_lt_or_eq.1 hj with hj | rfl
          · exact hpre.out j hj
          · exact hp
        rw [hp] at HC
        clear hp hkl
        generalize (rowK L k).length = z at *
        go_wp2_with (refine HC.out.mono ?_; rintro e w5 ⟨rfl, hb5⟩)
        go_roundw
        case rel => exact ⟨k + 1, by omega, by go_num, HP, Lib.hid (hrd.out.below (hb5.mono (Nat.le_trans hH hbl.size))), hbl.trans (hb5.mono hbl.size)⟩
        case measure => simp [intOf]; omega
      | true =>
        have HI := Lib.hid (idxR_at hkl hpre.out hp).1
        rw [hp] at HC
        clear hp hkl
        generalize (rowK L k).length = z at *
        go_wp2_with (refine HC.out.mono ?_; rintro e w5 ⟨rfl, hb5⟩)
        go_ret
        exact ⟨by rw [HI.out]; rfl, hbl.trans (hb5.mono hbl.size)⟩
    · obtain rfl : k = n := by omega
      have HI := Lib.hid (idxR_none (p := p) (M := L) (by rw [HL.out]; exact hpre.out))
      go_wp2
      go_ret
      exact ⟨by rw [HI.out]; rfl, hbl⟩

theorem idxR_any (p : List Int → Bool) (L : List (List Int)) : decide (idxR p L ≥ 0) = L.any p := by
  cases h : L.any p with
  | true =>
    have h1 : L.findIdx p < L.length := by
      rw [List.findIdx_lt_length]
      obtain ⟨x, hx, hp⟩ := List.any_eq_true.1 h
      exact ⟨x, hx, hp⟩
    rw [idxR, if_pos h1]
    simp
  | false =>
    have h1 : ¬ L.findIdx p < L.length := by
      rw [List.findIdx_lt_length]
      rintro ⟨x, hx, hp⟩
      have := List.any_eq_false.1 h x hx
      exact this hp
    rw [idxR, if_neg h1]
    simp
theorem containsF_part (fid : Nat) (hE : ∀ args w, (callFunc fid args).run Tryd.prog w = .ok (.enter fid args) w) (cap : Value) (p : List Int → Bool) (H : Nat) (A : Option Addr) (n c : Nat) (L : List (List Int)) (w : World) (h : RdS w H A n L) (hH : H ≤ w.heap.size) (hn : n ≤ 1000)
    (hf : ∀ W, Below w.heap.size w W → ∀ l ∈ L, ∀ (Al : Option Addr) (cl : Nat), Rd W H Al l.length l → Calls Tryd.prog fid #[.slice Al l.length cl, cap] W fun e w' => e = .returned (.bool (p l)) ∧ Below W.heap.size W w') :
    Calls Tryd.prog 94 #[.slice A n c, .func (.func fid) #[] #[cap]] w fun e w' => e = .returned (.bool (L.any p)) ∧ Below w.heap.size w w' := by
  have HI := Lib.hid (indexF_part fid hE cap p H A n c L w h hH hn hf)
  have HD := Lib.hid (idxR_any p L)
  generalize L.any p = r at *
  generalize idxR p L = i at *
  clear h hf hE
  cases r with
  | true =>
    have hd := HD.out
    go_enter Tryd.func94, Tryd.ntmps94
    go_wp2_with (refine HI.out.mono ?_; rintro e w5 ⟨rfl, hb5⟩)
    go_ret
    exact ⟨by rw [← hd]; rfl, hb5⟩
  | false =>
    have hd := HD.out
    go_enter Tryd.func94, Tryd.ntmps94
    go_wp2_with (refine HI.out.mono ?_; rintro e w5 ⟨rfl, hb5⟩)
    go_ret
    exact ⟨by rw [← hd]; rfl, hb5⟩

set_option maxRecDepth 10000 in
set_option maxHeartbeats 1000000 in
theorem wov11_any (B : Option Addr) (m d H g : Nat) (l p : List Int) (w : World) (hg : Arr w g (padR l)) (k : Rd w H B m p) (hH : H ≤ w.heap.size) (ht : Tell l) (hp : Prt (l.length : Int) p) (hT : Tab w) :
    Calls Tryd.prog 95 #[.slice B m d, .pointer (some ⟨g, 0, none⟩)] w fun e w' => e = .returned (.bool (!hasL l p)) ∧ Below w.heap.size w w' := by
  have HC := Lib.hid (hasLI_any B m d H l p w k hH ht hp hT)
  have H7 := Lib.hid (padR_length l ht.2.1)
  have HA := Lib.hid hg
  clear hg k ht hp hT
  generalize hasL l p = r at *
  unfold agp at HC
  generalize padR l = P at *
  go_enter Tryd.func95, Tryd.ntmps95
  go_wp2_with (first
    | (refine load_ring rfl _ rfl g P H7.out rfl HA ?_)
    | (refine HC.out.mono ?_; rintro e w5 ⟨rfl, hb5⟩))
  go_ret
  exact ⟨rfl, hb5⟩

set_option maxRecDepth 10000 in
set_option maxHeartbeats 1000000 in
theorem wov1_any (l : List Int) (bx : Nat) (A : Option Addr) (n c H : Nat) (L : List (List Int)) (w : World) (hbx : w.cell? ⟨bx, 0, none⟩ = some (.slice A n c)) (h : RdS w H A n L) (hH : H ≤ w.heap.size) (hn : n ≤ 1000) (ht : Tell l) (hp : ∀ p ∈ L, Prt (l.length : Int) p) (hT : Tab w) :
    Calls Tryd.prog 93 #[agp l, .pointer (some ⟨bx, 0, none⟩)] w fun e w' => e = .returned (.bool (L.any fun p => !hasL l p)) ∧ Below w.heap.size w w' := by
  obtain ⟨W, hW⟩ : ∃ W, W = w.alloc (.cells (ints (padR l)).toArray 71) := ⟨_, rfl⟩
  have hbw : bx < w.heap.size := World.block_lt_of_cell? w _ hbx
  have k1 : Arr W w.heap.size (padR l) := by rw [hW]; exact heap_alloc_new w _
  have kb : Below w.heap.size w W := by rw [hW]; exact (Below.refl _ _).alloc (Nat.le_refl _) _
  have k2 : W.heap.size = w.heap.size + 1 := by rw [hW]; simp
  have k3 : W.cell? ⟨bx, 0, none⟩ = some (.slice A n c) := (kb.cell (p := ⟨bx, 0, none⟩) hbw).trans hbx
  have k4 := h.below (kb.mono hH)
  have k5 := hT.on kb
  have HC := Lib.hid (containsF_part 95 (enters_fn Tryd.func95 (by decide) rfl) (.pointer (some ⟨w.heap.size, 0, none⟩)) (fun p => !hasL l p) H A n c L W k4 (by omega) hn
    (fun V hV p hpm Al cl hr => wov11_any Al _ cl H w.heap.size l p V (k1.below hV (by omega)) hr (by have := hV.size; omega) ht (hp p hpm) (k5.on hV)))
  have HB := Lib.hid kb
  clear h hT hp ht k1 kb k4 k5 hbx
  rw [hW] at k3
  generalize (L.any fun p => !hasL l p) = r at *
  unfold agp
  generalize padR l = P at *
  go_enter Tryd.func93, Tryd.ntmps93
  go_wp2_with fail
  rw [← hW]
  clear hW
  refine HC.out.mono ?_
  rintro e w5 ⟨rfl, hb5⟩
  have HB5 := Lib.hid (HB.out.trans (hb5.mono (by omega)))
  go_wp2
  go_ret
  exact ⟨rfl, HB5.out⟩

/-- The rings of n points that have all of some parts. -/
def wovenL (n : Nat) (L : List (List Int)) : List (List Int) := (ringsL n).filter fun l => L.all (hasL l)
theorem wovenL_is (n : Nat) (L : List (List Int)) (h3 : 3 ≤ n) (h6 : n ≤ 6) : ∀ l ∈ wovenL n L, IsR n l := fun l hl => ringsL_is n h3 h6 l (List.mem_filter.1 hl).1
theorem wovenL_len (n : Nat) (L : List (List Int)) (h3 : 3 ≤ n) (h6 : n ≤ 6) : (wovenL n L).length ≤ 720 := by
  have h1 := List.length_filter_le (fun l => L.all (hasL l)) (ringsL n)
  rw [ringsL_length] at h1
  have := (facM_eq n h3 h6).2.1
  unfold wovenL; omega

set_option maxRecDepth 10000 in
set_option maxHeartbeats 1000000 in
theorem woven_any (n : Nat) (A : Option Addr) (m c H : Nat) (L : List (List Int)) (w : World) (h : RdS w H A m L) (hH : H ≤ w.heap.size) (h3 : 3 ≤ n) (h6 : n ≤ 6) (hm : m ≤ 1000) (hp : ∀ p ∈ L, Prt (n : Int) p) (hT : Tab w) :
    Calls Tryd.prog 61 #[.int .i64 (n : Int), .slice A m c] w fun e w' => ∃ v', e = .returned v' ∧ RowN w' w.heap.size 71 7 v' (padM (wovenL n L)) ∧ Below w.heap.size w w' := by
  obtain ⟨W, hW⟩ : ∃ W, W = w.alloc (.cells #[.slice A m c] 65) := ⟨_, rfl⟩
  have kb : Below w.heap.size w W := by rw [hW]; exact (Below.refl _ _).alloc (Nat.le_refl _) _
  have k2 : W.heap.size = w.heap.size + 1 := by rw [hW]; simp
  have k3 : W.cell? ⟨w.heap.size, 0, none⟩ = some (.slice A m c) := by rw [hW]; simp
  have k4 := h.below (kb.mono hH)
  have k5 := hT.on kb
  have HF : Hid (∀ V, Below W.heap.size W V → ∀ P ∈ padM (ringsL n), Calls Tryd.prog 93 #[.agg (ints P).toArray, .pointer (some ⟨w.heap.size, 0, none⟩)] V fun e w' => e = .returned (.bool (L.any fun p => !hasL (unpad P) p)) ∧ Below V.heap.size V w') := fun V hV P hP => by
    simp only [padM, List.mem_map] at hP
    obtain ⟨l, hl, rfl⟩ := hP
    have hI := ringsL_is n h3 h6 l hl
    rw [unpad_pad l hI.2.1]
    exact wov1_any l w.heap.size A m c H L V ((hV.cell (p := ⟨w.heap.size, 0, none⟩) (by simp; omega)).trans k3) (k4.below (hV.mono (by omega))) (by have := hV.size; omega) hm (hI.tell h3 (by omega)) (by rw [hI.1]; exact hp) (k5.on hV)
  have hpl : (padM (ringsL n)).length ≤ 1000 := by have := (facM_eq n h3 h6).2.1; simp [padM, ringsL_length]; omega
  have HPL := Lib.hid hpl
  have HR : Hid ((padM (ringsL n)).filter (fun P => !(L.any fun p => !hasL (unpad P) p)) = padM (wovenL n L)) := by
    rw [Hid, filter_pad (ringsL n) (fun l => !(L.any fun p => !hasL l p)) (fun l hl => (ringsL_is n h3 h6 l hl).2.1)]
    congr 1
    unfold wovenL
    congr 1
    funext l
    rw [List.not_any_eq_all_not]
    simp
  clear h hT hp k3 k4 k5 hpl
  have HB := Lib.hid kb
  have HSZ := Lib.hid k2
  have hBW : w.heap.size ≤ W.heap.size := by omega
  clear kb k2
  go_enter Tryd.func61, Tryd.ntmps61
  go_wp2_with fail
  rw [← hW]
  clear hW
  generalize hBB : w.heap.size = B at *
  have HBB := Lib.hid hBB
  clear hBB
  refine (allRings_any n W h3 h6).mono ?_
  rintro e w1 ⟨v1, rfl, hr1, hb1⟩
  have HR1 := Lib.hid hr1
  have HB1 := Lib.hid hb1
  have hs1 := hb1.size
  clear hr1 hb1
  go_wp2_with fail
  refine (deleteF_ring 93 (enters_fn Tryd.func93 (by decide) rfl) (.pointer (some ⟨B, 0, none⟩)) (fun P => L.any fun p => !hasL (unpad P) p) W.heap.size v1 _ w1 HR1.out hs1 HPL.out (fun V hV => HF.out V (HB1.out.trans hV))).mono ?_
  rintro e w2 ⟨v2, rfl, hr2, hb2⟩
  rw [HR.out] at hr2
  go_wp2
  go_ret
  exact ⟨_, rfl, by rw [HBB.out]; exact hr2.less hBW, by rw [HBB.out]; exact (HB.out.trans (HB1.out.mono hBW)).trans (hb2.mono hBW)⟩
end Go.Proofs.YtpfdlgofkcpglaaDoor

namespace Go.Proofs.YtpfdlgofkcpglaaDoor
open Go.ChangeShapes Go.WideShapes Go.ChangeAt Go.RowKit

set_option maxRecDepth 10000 in
set_option maxHeartbeats 1000000 in
theorem lists_any (A : Option Addr) (m c H : Nat) (L : List (List Int)) (n : Int) (w : World) (h : RdS w H A m L) (hm : m ≤ 9223372036854775807) (hr : ∀ k, k < m → (rowK L k).length ≤ 1048576) :
    Calls Tryd.prog 76 #[.int .i64 n, .slice A m c] w fun e w' => e = .returned (.bool (lst n L)) ∧ ∃ q, w' = w.drewN q := by
  have HL := Lib.hid h.len
  have HR := Lib.hid h
  have HRB := Lib.hid hr
  obtain ⟨r, hr⟩ : ∃ r, r = lst n L := ⟨_, rfl⟩
  rw [← hr]
  have HRR := Lib.hid hr
  clear h hr
  go_enter Tryd.func76, Tryd.ntmps76
  go_wp2
  go_loopw [5] (fun i wr => ∃ k : Nat, k ≤ m ∧ i = .int .i64 k ∧ Hid (AllTo (prt n) L k) ∧ ∃ d, wr = w.drewN d) (fun i _ => m - (intOf i).toNat)
  case atStart => exact ⟨0, Nat.zero_le _, rfl, fun j hj => absurd hj (by omega), 0, rfl⟩
  case round =>
    obtain ⟨k, hk, rfl, hto, d, hd⟩ := hrel
    have HRW : Hid (RdS wr H A m L) := by rw [hd]; exact HR.out.drewN d
    have HD := Lib.hid hd
    clear hd
    by_cases hlt : k < m
    · obtain ⟨b, o, rfl, hbB, hcs⟩ := HRW.out.at_ (by omega)
      obtain ⟨Ak, ck, hc, hrk, _, _⟩ := hcs k hlt
      have HC := Lib.hid (l6wIn_any Ak _ ck H (rowK L k) n wr hrk (HRB.out k hlt))
      have HT := Lib.hid (allTo_step (q := prt n) (L := L) (k := k) hto.out)
      have HN : Hid (prt n (rowK L k) = false → lst n L = false) := fun e => by
        refine (lst_no fun hh => ?_).1
        have := prt_yes (hh.2.2 _ (rowK_mem (k := k) (by rw [HL.out]; exact hlt)))
        rw [e] at this
        cases this
      clear hcs hrk hto
      cases hp : prt n (rowK L k) with
      | false =>
        have TF := Lib.hid (HN.out hp)
        rw [hp] at HC
        clear HT HN hp
        generalize (rowK L k).length = z at *
        go_wp2_with fail
        refine HC.out.mono ?_
        rintro e w2 ⟨rfl, q, rfl⟩
        go_wp2
        go_ret
        exact ⟨by rw [HRR.out, TF.out]; rfl, d + q, by rw [HD.out, World.drewN_drewN]⟩
      | true =>
        have TT := Lib.hid (HT.out hp)
        rw [hp] at HC
        clear HT HN hp
        generalize (rowK L k).length = z at *
        go_wp2_with fail
        refine HC.out.mono ?_
        rintro e w2 ⟨rfl, q, rfl⟩
        go_wp2
        go_roundw
        case rel => exact ⟨k + 1, by omega, by go_num, TT, d + q, by rw [HD.out, World.drewN_drewN]⟩
        case measure => simp [intOf]; omega
    · obtain rfl : k = m := by omega
      have hall : ∀ l ∈ L, Prt n l := fun l hl => by
        have := allTo_all (q := prt n) (L := L) (by rw [HL.out]; exact hto.out) l hl
        simpa [prt] using this
      by_cases h36 : 3 ≤ n ∧ n ≤ 6
      · have HI := Lib.hid (inQ n 3 6 true (by simp; omega))
        by_cases h10 : k ≤ 10
        · have TT := Lib.hid (lst_yes (n := n) (L := L) ⟨h36, by rw [HL.out]; exact h10, hall⟩).1
          clear hall
          have hd10 : decide ((k : Int) ≤ 10) = true := by simp; omega
          go_wp2_with (go_at_call 68; refine (HI.out _).mono ?_; rintro e w' ⟨rfl, rfl⟩)
          go_ret
          exact ⟨by rw [HRR.out, TT.out, ← hd10]; rfl, d, HD.out⟩
        · have hd10 : decide ((k : Int) ≤ 10) = false := by simp; omega
          have TF := Lib.hid (lst_no (n := n) (L := L) (fun hh => by have := hh.2.1; rw [HL.out] at this; omega)).1
          clear hall
          go_wp2_with (go_at_call 68; refine (HI.out _).mono ?_; rintro e w' ⟨rfl, rfl⟩)
          go_ret
          exact ⟨by rw [HRR.out, TF.out, ← hd10]; rfl, d, HD.out⟩
      · have HI := Lib.hid (inQ n 3 6 false (by simp; omega))
        have TF := Lib.hid (lst_no (n := n) (L := L) (fun hh => h36 hh.1)).1
        clear hall h36
        go_wp2_with (go_at_call 68; refine (HI.out _).mono ?_; rintro e w' ⟨rfl, rfl⟩)
        go_ret
        exact ⟨by rw [HRR.out, TF.out]; rfl, d, HD.out⟩

def allTo1 (l : List Int) (L : List (List Int)) (k : Nat) : Bool := (L.take k).all (hasL l)
theorem allTo1_step (l : List Int) (L : List (List Int)) (k : Nat) (hk : k < L.length) : allTo1 l L (k + 1) = (allTo1 l L k && hasL l (rowK L k)) := by
  unfold allTo1
  rw [List.take_succ_eq_append_getElem hk, List.all_append]
  simp [rowK, List.getD, hk]
theorem allTo1_full (l : List Int) (L : List (List Int)) : allTo1 l L L.length = L.all (hasL l) := by simp [allTo1]
def wovTo (n : Nat) (L : List (List Int)) (k : Nat) : List (List Int) := ((List.range k).map fun j : Nat => byL n (j : Int)).filter fun l => L.all (hasL l)
theorem wovTo_full (n : Nat) (L : List (List Int)) : wovTo n L (facM n) = wovenL n L := rfl
theorem wovTo_len (n : Nat) (L : List (List Int)) (k : Nat) : (wovTo n L k).length ≤ k := by
  have h1 := List.length_filter_le (fun l => L.all (hasL l)) ((List.range k).map fun j : Nat => byL n (j : Int))
  simp only [List.length_map, List.length_range] at h1
  exact h1
theorem wovTo_yes (n : Nat) (L : List (List Int)) (k : Nat) (h : L.all (hasL (byL n k)) = true) : wovTo n L k ++ [byL n k] = wovTo n L (k + 1) := by
  unfold wovTo
  rw [List.range_succ, List.map_append, List.filter_append]
  congr 1
  simp only [List.map_cons, List.map_nil, List.filter_cons, List.filter_nil]
  rw [if_pos h]
theorem wovTo_no (n : Nat) (L : List (List Int)) (k : Nat) (h : L.all (hasL (byL n k)) = false) : wovTo n L k = wovTo n L (k + 1) := by
  unfold wovTo
  rw [List.range_succ, List.map_append, List.filter_append]
  simp only [List.map_cons, List.map_nil, List.filter_cons, List.filter_nil]
  rw [if_neg (by rw [h]; simp)]
  simp
theorem Own.rowW {w : World} {B : Nat} {v : Value} {l : List Int} (h : Own w B v l) : RowV w B v l := h.rowV5

set_option maxRecDepth 10000 in
set_option maxHeartbeats 2000000 in
theorem l6wRings_any (A' : Option Addr) (m d H' : Nat) (n : Nat) (L : List (List Int)) (w : World) (h' : RdS w H' A' m L) (hH : H' ≤ w.heap.size) (h3 : 3 ≤ n) (h6 : n ≤ 6) (hm : m ≤ 1000) (hT : ∀ t ∈ L, Prt (n : Int) t) :
    Calls Tryd.prog 77 #[.int .i64 (n : Int), .slice A' m d] w fun e w' => ∃ v, e = .returned v ∧ GrowS w' w.heap.size v (wovenL n L) ∧ Below w.heap.size w w' := by
  obtain ⟨i0, hi, hz0, hz1, hz2⟩ := info_parts row_info
  obtain ⟨hf1, hf2, hf3, hf4⟩ := facM_eq n h3 h6
  have HL := Lib.hid h'.len
  have HTT := Lib.hid hT
  have hg0 : Hid (GrowS (w.alloc (.cells #[] 23)) w.heap.size (.slice (some ⟨w.heap.size, 0, none⟩) 0 0) []) := GrowS.empty w (Nat.le_refl _)
  have hb0 : Below w.heap.size w (w.alloc (.cells #[] 23)) := (Below.refl _ _).alloc (Nat.le_refl _) _
  have hr0 := Lib.hid (h'.below (hb0.mono hH))
  have HFM := Lib.hid hf1
  obtain ⟨N, hN⟩ : ∃ N, N = facM n := ⟨_, rfl⟩
  rw [← hN] at HFM hf2
  have HN := Lib.hid hN
  have hfk : ∀ k : Nat, k < N → (k : Int) < facN (n - 1) := fun k hk => by rw [← HFM.out]; omega
  have HFK := Lib.hid hfk
  have HFACT := Lib.hid (fun W => facS_nat (n - 1) ((n : Int) - 1) W (by omega) (by omega))
  rw [← HFM.out] at HFACT
  have HBY := Lib.hid (fun k (hk : k < N) W => byS_any n (k : Int) W h3 (by omega) (by omega) (hfk k hk))
  have HIS := Lib.hid (fun k (hk : k < N) => byL_is n k h3 h6 (by rw [← hN]; exact hk))
  clear hT h' hf1 hf3 hf4 hN hfk
  go_enter Tryd.func77, Tryd.ntmps77
  go_wp2
  generalize w.alloc (.cells #[] 23) = W0 at *
  have hBw0 := hb0.size
  generalize hB : w.heap.size = B at *
  have HB := Lib.hid hB
  clear hB
  go_loopw [5, 6] (fun v i wr => ∃ k : Nat, k ≤ N ∧ i = .int .i64 k ∧ Hid (GrowS wr B v (wovTo n L k)) ∧ Hid (RdS wr H' A' m L) ∧ Below B w wr) (fun _ i _ => N - (intOf i).toNat)
  case atStart => exact ⟨0, Nat.zero_le _, rfl, by simpa [wovTo, Hid] using hg0, hr0, hb0⟩
  case round =>
    obtain ⟨k, hk, rfl, hgs, hrd, hbl⟩ := hrel
    clear hg0 hr0 hb0
    have HBL := Lib.hid hbl
    have hBw : B ≤ wr.heap.size := by rw [← HB.out]; exact hbl.size
    clear hbl
    by_cases hlt : k < N
    · have HS := Lib.hid (HBY.out k hlt)
      have hI := HIS.out k hlt
      have ht : Tell (byL n (k : Int)) := hI.tell h3 (by omega)
      have hlen : (byL n (k : Int)).length = n := hI.1
      go_wp2_with fail
      refine (HFACT.out _).mono ?_
      rintro e w' ⟨rfl, rfl⟩
      go_wp2_with fail
      refine (HS.out _).mono ?_
      rintro e w2 ⟨vr, rfl, ho, hb2⟩
      obtain ⟨Ar, cr, rfl⟩ := ho.slice
      have HG2 := Lib.hid (hgs.out.below hb2 (Nat.le_refl _))
      have HR2 := Lib.hid (hrd.out.below (hb2.mono (by omega)))
      have HRV := Lib.hid (ho.rowW.less hBw)
      have HBL2 := Lib.hid (HBL.out.trans (hb2.mono hBw))
      have hs2 := hb2.size
      have HYES := Lib.hid (wovTo_yes n L k)
      have HNO := Lib.hid (wovTo_no n L k)
      have hkl := wovTo_len n L k
      have HRD : Hid (Rd w2 w2.heap.size Ar n (byL n (k : Int))) := by have := ho.rd.2; rw [hlen] at this; exact this
      have HHAS := Lib.hid (fun (W : World) (j : Nat) (_ : j < L.length) (Aj : Option Addr) (cj : Nat) (H : Nat) (hW : Rd W H Ar n (byL n (k : Int))) (kW : Rd W H Aj (rowK L j).length (rowK L j)) (hHW : H ≤ W.heap.size) =>
        hasLS_any Ar Aj n cr (rowK L j).length cj H (byL n (k : Int)) (rowK L j) W hW kW hHW ht (by rw [hlen]; exact HTT.out _ (rowK_mem (by assumption))))
      rw [hlen] at HRV ⊢
      clear ho hb2 hI hgs hrd hlen ht
      obtain ⟨a, ha⟩ : ∃ a, a = byL n (k : Int) := ⟨_, rfl⟩
      rw [← ha] at HRV HRD HHAS HYES HNO
      clear ha
      have hBw2 : B ≤ w2.heap.size := by omega
      generalize hE : w2.heap.size = E at *
      have HE := Lib.hid hE
      clear hE
      have HRD0 := Lib.hid HRD.out
      have hEE : E ≤ w2.heap.size := by rw [HE.out]; exact Nat.le_refl _
      clear HRD HS HBY HIS
      have hkb : k ≤ 720 := by omega
      generalize wovTo n L k = M at *
      obtain ⟨M', hM'⟩ : ∃ M', M' = wovTo n L (k + 1) := ⟨_, rfl⟩
      rw [← hM'] at HYES HNO
      have HM' := Lib.hid hM'
      clear hM'
      go_wp2
      go_loopw [8, 9] (fun okv i wq => ∃ j : Nat, j ≤ m ∧ i = .int .i64 j ∧ okv = .bool (allTo1 a L j) ∧ Hid (GrowS wq B u5 M) ∧ Hid (RdS wq H' A' m L) ∧ Hid (Rd wq E Ar n a) ∧ Hid (RowV wq B (.slice Ar n cr) a) ∧ Hid (Below B w wq) ∧ E ≤ wq.heap.size) (fun _ i _ => m - (intOf i).toNat)
      case atStart => exact ⟨0, Nat.zero_le _, rfl, by simp [allTo1], HG2, HR2, HRD0, HRV, HBL2, hEE⟩
      case round =>
        obtain ⟨j, hj, rfl, rfl, hg, hr, hrd, hrv, hbl2, hEw⟩ := hrel
        clear HG2 HR2 HRD0 HRV HBL2 hEE
        by_cases hlj : j < m
        · have hjl : j < L.length := by rw [HL.out]; exact hlj
          obtain ⟨b, o, rfl, hbB, hcs⟩ := hr.out.at_ (by omega)
          obtain ⟨Aj, cj, hc, hrk, _, _⟩ := hcs j hlj
          have HST := Lib.hid (allTo1_step a L j hjl)
          have HC := Lib.hid (HHAS.out wr j hjl Aj cj E hrd.out (hrk.more (by omega)) hEw)
          clear hcs hrk
          generalize hasL a (rowK L j) = h1 at *
          generalize (rowK L j).length = z at *
          cases hok : allTo1 a L j with
          | false =>
            rw [hok] at HST
            clear HC hok
            go_wp2
            go_roundw
            case rel => exact ⟨j + 1, by omega, by go_num, by rw [HST.out]; rfl, hg, hr, hrd, hrv, hbl2, hEw⟩
            case measure => simp [intOf]; omega
          | true =>
            rw [hok, Bool.true_and] at HST
            clear hok
            go_wp2_with (go_at_call 72; refine HC.out.mono ?_; rintro e w5 ⟨rfl, hb5⟩)
            go_roundw
            case rel => exact ⟨j + 1, by omega, by go_num, by rw [HST.out], Lib.hid (hg.out.below hb5 (Nat.le_refl _)), Lib.hid (hr.out.below (hb5.mono (by omega))), Lib.hid (hrd.out.below (hb5.mono hEw)), Lib.hid (hrv.out.below5 hb5), Lib.hid (hbl2.out.trans (hb5.mono (by omega))), Nat.le_trans hEw hb5.size⟩
            case measure => simp [intOf]; omega
        · obtain rfl : j = m := by omega
          have HAL : Hid (allTo1 a L j = L.all (hasL a)) := by rw [Hid, ← HL.out]; exact allTo1_full a L
          rw [HAL.out]
          cases hall : L.all (hasL a) with
          | true =>
            have HST := Lib.hid (HYES.out hall)
            clear HYES HNO hall HAL HHAS
            obtain ⟨xs, hx1, hx2⟩ := hg.out
            have HX1 := Lib.hid hx1
            have HX2 := Lib.hid hx2
            have hMb : M.length ≤ 720 := by omega
            have hEB : B ≤ wr.heap.size := by omega
            clear hx1 hx2
            go_wp2_with (at_builtin; refine wpList_append_own _ rfl _ _ 29 rfl B 23 i0 (.slice none 0 0) 1 24 Tryd.underlying29 hi hz0 hz1 hz2 rfl (by decide) _ _ _ rfl (HX1.out.alloc _) ⟨wr.heap.size, 0, none⟩ 1 1 [.slice Ar n cr] rfl rfl (one_cell wr _ _) (by simp [Value.oneCell']) (by unfold maxLen; omega) (by omega) (by simp; omega) ?_)
            intro v' w5 hown5 hgr5 _
            have HG5 := Lib.hid (grow_row rfl HX1.out HX2.out hrv.out _ hown5 hgr5)
            rw [HST.out] at HG5
            have HB5 := Lib.hid ((hbl2.out.alloc hEB _).grown hgr5 (by simp; omega) (fun i hi => (HX1.out.lt i hi).1))
            have HR5 := Lib.hid (hr.out.below (((Below.refl H' wr).alloc (by omega) _).grown hgr5 (by simp; omega) (fun i hi => by have := (HX1.out.lt i hi).1; omega)))
            clear hown5 hgr5
            go_wp2
            go_roundw
            case rel => exact ⟨k + 1, by omega, by go_num, by rw [← HM'.out]; exact HG5, HR5, HB5.out⟩
            case measure => simp [intOf]; omega
          | false =>
            have HST := Lib.hid (HNO.out hall)
            clear HYES HNO hall HAL HHAS
            rw [HST.out] at hg
            go_wp2
            go_roundw
            case rel => exact ⟨k + 1, by omega, by go_num, by rw [← HM'.out]; exact hg, hr, hbl2.out⟩
            case measure => simp [intOf]; omega
    · obtain rfl : k = N := by omega
      go_wp2_with fail
      refine (HFACT.out _).mono ?_
      rintro e w' ⟨rfl, rfl⟩
      rw [HN.out, wovTo_full] at hgs
      go_wp2
      go_ret
      exact ⟨_, rfl, by rw [HB.out]; exact hgs.out, by rw [HB.out]; exact HBL.out⟩
end Go.Proofs.YtpfdlgofkcpglaaDoor

namespace Go.Proofs.YtpfdlgofkcpglaaDoor
open Go.ChangeShapes Go.WideShapes Go.ChangeAt Go.RowKit

/-- Whether a list is a ring of at most six points and a number a set of some of them. -/
def WP (l : List Int) (s : Int) : Prop := Ring l ∧ l.length ≤ 6 ∧ 1 ≤ s ∧ s ≤ 2 ^ l.length - 1
instance (l : List Int) (s : Int) : Decidable (WP l s) := by unfold WP; infer_instance
def wpB (l : List Int) (s : Int) : Bool := decide (WP l s)
def wpR (l : List Int) (s : Int) : List Int := if WP l s then partL l s.toNat else []
theorem wp_yes {l : List Int} {s : Int} (h : WP l s) : wpB l s = true ∧ wpR l s = partL l s.toNat := ⟨by simpa [wpB] using h, by rw [wpR, if_pos h]⟩
theorem wp_no {l : List Int} {s : Int} (h : ¬ WP l s) : wpB l s = false ∧ wpR l s = [] := ⟨by simpa [wpB] using h, by rw [wpR, if_neg h]⟩
theorem wpR_length (l : List Int) (s : Int) : (wpR l s).length ≤ 7 := by
  unfold wpR
  split
  · rename_i h; exact part_short l _ h.1.1.2.1
  · simp
theorem pow6 (n : Nat) (h : n ≤ 6) : (2 : Int) ^ n - 1 = ((2 ^ n - 1 : Nat) : Int) := by
  obtain rfl | rfl | rfl | rfl | rfl | rfl | rfl : n = 0 ∨ n = 1 ∨ n = 2 ∨ n = 3 ∨ n = 4 ∨ n = 5 ∨ n = 6 := by omega
  all_goals decide

theorem setIn_any (n : Nat) (s : Int) (w : World) (hn : n ≤ 6) :
    Calls Tryd.prog 65 #[.int .i64 (n : Int), .int .i64 s] w fun e w' => e = .returned (.bool (decide (0 ≤ s) && decide (s ≤ 2 ^ n - 1))) ∧ w = w' := by
  have HF := Lib.hid (fun W => fullSet_any n W (by omega))
  rw [pow6 n hn]
  generalize 2 ^ n - 1 = f at *
  by_cases h0 : 0 ≤ s
  · go_enter Tryd.func65, Tryd.ntmps65
    go_wp2_with (go_at_call 99; refine (HF.out _).mono ?_; rintro e w' ⟨rfl, rfl⟩)
    go_ret
    exact ⟨by simp [h0], rfl⟩
  · have hd : decide (0 ≤ s) = false := by simp; omega
    rw [hd, Bool.false_and]
    go_enter Tryd.func65, Tryd.ntmps65
    go_wp2_with (go_at_call 99; refine (HF.out _).mono ?_; rintro e w' ⟨rfl, rfl⟩)
    go_ret
    exact ⟨rfl, rfl⟩

theorem wp_nat {l : List Int} {s : Int} (h : WP l s) : ∃ k : Nat, s = (k : Int) ∧ 0 < k ∧ k < 2 ^ l.length := by
  refine ⟨s.toNat, by have := h.2.2.1; omega, by have := h.2.2.1; omega, ?_⟩
  have h1 := h.2.2.2
  have h2 := h.2.2.1
  have e : ((2 ^ l.length : Nat) : Int) = 2 ^ l.length := by simp
  omega

set_option maxRecDepth 10000 in
set_option maxHeartbeats 1000000 in
theorem wpS_any (A : Option Addr) (n c H : Nat) (l : List Int) (s : Int) (w : World) (h : Rd w H A n l) (hH : H ≤ w.heap.size) (hn : n ≤ 1048576) :
    Calls Tryd.prog 24 #[.slice A n c, .int .i64 s] w fun e w' => ∃ v, e = .returned (.tuple #[v, .bool (wpB l s)]) ∧ Own w' w.heap.size v (wpR l s) ∧ Below w.heap.size w w' := by
  have HL := Lib.hid h.len
  have HRI := Lib.hid (fun k => flipW (ringS_any A n c H l (w.drewN k) (h.drewN k) hn))
  by_cases hr : Ring l
  · rw [ring_yes hr] at HRI
    have hn3 : 3 ≤ n := by rw [← HL.out]; exact hr.1.1
    by_cases h6 : n ≤ 6
    · by_cases hs : 1 ≤ s ∧ s ≤ 2 ^ n - 1
      · have HI := Lib.hid (inQ s 1 (2 ^ n - 1) true (by simp; omega))
        have HW : WP l s := ⟨hr, by rw [HL.out]; exact h6, hs.1, by rw [HL.out]; exact hs.2⟩
        obtain ⟨k, rfl, hk0, hk⟩ := wp_nat HW
        have T := Lib.hid (wp_yes HW)
        rw [Int.toNat_natCast] at T
        have HP := Lib.hid (fun W (hW : Rd W H A n l) (hHW : H ≤ W.heap.size) => partS_any A n c H l k W hW hHW hr.1 hk0 hk)
        rw [T.out.1, T.out.2]
        have HR := Lib.hid h
        clear h hr HW hk0 hk hs T
        generalize partL l k = R at *
        obtain rfl | rfl | rfl | rfl : n = 3 ∨ n = 4 ∨ n = 5 ∨ n = 6 := by omega
        all_goals
          simp only [Int.reducePow, Int.reduceSub] at HI
          go_enter Tryd.func24, Tryd.ntmps24
          go_wp2_with (first
            | (go_at_call 67; refine (HRI.out 0).mono ?_; rintro e w' ⟨rfl, rfl⟩)
            | (go_at_call 68; refine (HI.out _).mono ?_; rintro e w' ⟨rfl, rfl⟩)
            | (go_at_call 70; refine (HP.out _ HR.out hH).mono ?_; rintro e w1 ⟨v1, rfl, ho1, hb1⟩; have HO1 := Lib.hid ho1; obtain ⟨A1, c1, ev⟩ := ho1.slice; subst ev; clear ho1))
          go_ret2
          exact ⟨_, rfl, HO1.out, hb1⟩
      · have HI := Lib.hid (inQ s 1 (2 ^ n - 1) false (by simp; omega))
        have T := Lib.hid (wp_no (l := l) (s := s) (fun hh => hs (by have := hh.2.2; rw [HL.out] at this; exact this)))
        rw [T.out.1, T.out.2]
        have HN := Lib.hid (fun W => none_any W)
        clear h hr hs T
        obtain rfl | rfl | rfl | rfl : n = 3 ∨ n = 4 ∨ n = 5 ∨ n = 6 := by omega
        all_goals
          simp only [Int.reducePow, Int.reduceSub] at HI
          go_enter Tryd.func24, Tryd.ntmps24
          go_wp2_with (first
            | (go_at_call 67; refine (HRI.out 0).mono ?_; rintro e w' ⟨rfl, rfl⟩)
            | (go_at_call 68; refine (HI.out _).mono ?_; rintro e w' ⟨rfl, rfl⟩)
            | (go_at_call 69; refine (HN.out _).mono ?_; rintro e w1 ⟨v1, rfl, ho1, hb1⟩; have HO1 := Lib.hid ho1; obtain ⟨A1, c1, ev⟩ := ho1.slice; subst ev; clear ho1))
          go_ret2
          exact ⟨_, rfl, HO1.out, hb1⟩
    · have T := Lib.hid (wp_no (l := l) (s := s) (fun hh => h6 (by have := hh.2.1; rw [HL.out] at this; exact this)))
      rw [T.out.1, T.out.2]
      have HN := Lib.hid (fun W => none_any W)
      have hg : decide ((n : Int) > 6) = true := by simp; omega
      clear h hr T
      go_enter Tryd.func24, Tryd.ntmps24
      go_wp2_with (first
        | (go_at_call 67; refine (HRI.out 0).mono ?_; rintro e w' ⟨rfl, rfl⟩)
        | (go_at_call 69; refine (HN.out _).mono ?_; rintro e w1 ⟨v1, rfl, ho1, hb1⟩; have HO1 := Lib.hid ho1; obtain ⟨A1, c1, ev⟩ := ho1.slice; subst ev; clear ho1))
      go_ret2
      exact ⟨_, rfl, HO1.out, hb1⟩
  · have T := Lib.hid (wp_no (l := l) (s := s) (fun hh => hr hh.1))
    rw [ring_no hr] at HRI
    rw [T.out.1, T.out.2]
    have HN := Lib.hid (fun W => none_any W)
    clear h hr T
    go_enter Tryd.func24, Tryd.ntmps24
    go_wp2_with (first
      | (go_at_call 67; refine (HRI.out 0).mono ?_; rintro e w' ⟨rfl, rfl⟩)
      | (go_at_call 69; refine (HN.out _).mono ?_; rintro e w1 ⟨v1, rfl, ho1, hb1⟩; have HO1 := Lib.hid ho1; obtain ⟨A1, c1, ev⟩ := ho1.slice; subst ev; clear ho1))
    go_ret2
    exact ⟨_, rfl, HO1.out, hb1⟩

theorem setInQ (n : Nat) (s : Int) (r : Bool) (hn : n ≤ 6) (h : (decide (0 ≤ s) && decide (s ≤ 2 ^ n - 1)) = r) (w : World) :
    Calls Tryd.prog 65 #[.int .i64 (n : Int), .int .i64 s] w fun e w' => e = .returned (.bool r) ∧ w = w' := by
  subst h
  exact setIn_any n s w hn
theorem askQ (n : Int) (r : Bool) (h : asked n = r) (w : World) : Calls Tryd.prog 64 #[.int .i64 n] w fun e w' => e = .returned (.bool r) ∧ w = w' := by
  subst h
  exact askI_any n w
theorem nil_own (w : World) (B : Nat) : OwnG w B (.slice none 0 0) [] := .inl ⟨rfl, rfl⟩

set_option maxRecDepth 10000 in
set_option maxHeartbeats 1000000 in
theorem wpI_any (A : Option Addr) (n c H : Nat) (l : List Int) (s : Int) (w : World) (h : Rd w H A n l) (hH : H ≤ w.heap.size) (hn : n ≤ 1048576) (hnc : n ≤ c) (hcm : c ≤ 9223372036854775807) (hT : Tab w) :
    Calls Tryd.prog 23 #[.slice A n c, .int .i64 s] w fun e w' => ∃ v, e = .returned (.tuple #[v, .bool (wpB l s)]) ∧ OwnG w' w.heap.size v (wpR l s) ∧ Below w.heap.size w w' := by
  have HL := Lib.hid h.len
  have HRR := Lib.hid (readR_any A n c H l w h hH hn hnc hcm)
  have H7 := Lib.hid (ringP_length l)
  by_cases hr : Ring l
  · have hn3 : 3 ≤ n := by rw [← HL.out]; exact hr.1.1
    have hP : ringP l = padR l := by rw [ringP, if_pos hr]
    rw [ring_yes hr] at HRR
    by_cases h6 : n ≤ 6
    · have HA := Lib.hid (askQ (n : Int) true (by simp [asked]; omega))
      by_cases hs : 1 ≤ s ∧ s ≤ 2 ^ n - 1
      · have HI := Lib.hid (setInQ n s true h6 (by simp; omega))
        have HW : WP l s := ⟨hr, by rw [HL.out]; exact h6, hs.1, by rw [HL.out]; exact hs.2⟩
        obtain ⟨k, rfl, hk0, hk⟩ := wp_nat HW
        have T := Lib.hid (wp_yes HW)
        rw [Int.toNat_natCast] at T
        have HP := Lib.hid (fun W (hW : Tab W) => part_any l k W hr.1 hk0 hk hW)
        rw [T.out.1, T.out.2]
        have HT := Lib.hid hT
        have e0 : ((k : Int) == 0) = false := by simp; omega
        unfold agp at HP
        rw [← hP] at HP
        clear h hr HW hk0 hk hs T hT hP
        generalize partL l k = R at *
        generalize ringP l = P at *
        go_enter Tryd.func23, Tryd.ntmps23
        go_wp2_with fail
        refine HRR.out.mono ?_
        rintro e w1 ⟨rfl, hb1⟩
        have HA1 := Lib.hid (new_ring w1)
        have HB1 := Lib.hid hb1
        have HT1 := Lib.hid (HT.out.on hb1)
        have hs1 := hb1.size
        clear hb1
        go_wp2_with (first
          | (refine store_ring rfl _ _ rfl w1.heap.size zero7 P rfl H7.out rfl rfl HA1 ?_; intro w2 HA2 hg2 hs2
             have HB2 := Lib.hid ((HB1.out.alloc (by omega) (.cells #[.int .i64 0, .int .i64 0, .int .i64 0, .int .i64 0, .int .i64 0, .int .i64 0, .int .i64 0] 71)).grown hg2 (by simp; omega) (by simp; omega))
             have HT2 := Lib.hid (HT.out.on HB2.out)
             clear HA1 HB1 HT1 hg2)
          | (go_at_call 64; refine (HA.out _).mono ?_; rintro e w' ⟨rfl, rfl⟩)
          | (go_at_call 65; refine (HI.out _).mono ?_; rintro e w' ⟨rfl, rfl⟩)
          | (refine load_ring rfl _ rfl w1.heap.size P H7.out rfl HA2 ?_)
          | (go_at_call 66; refine (HP.out _ HT2.out).mono ?_; rintro e w3 ⟨v3, rfl, hr3, hb3⟩
             have HR3 := Lib.hid (hr3.less HB2.out.size)
             obtain ⟨A3, c3, ev, _⟩ := hr3.2
             subst ev
             have HB3 := Lib.hid (HB2.out.trans (hb3.mono HB2.out.size))
             clear hr3 hb3))
        go_ret2
        exact ⟨_, rfl, HR3.out.1, HB3.out⟩
      · have T := Lib.hid (wp_no (l := l) (s := s) (fun hh => hs (by have := hh.2.2; rw [HL.out] at this; exact this)))
        rw [T.out.1, T.out.2]
        generalize ringP l = P at *
        by_cases h0 : s = 0
        · subst h0
          have HI := Lib.hid (setInQ n 0 true h6 (by rw [pow6 n h6]; simp))
          clear h hr hs T hT hP
          go_enter Tryd.func23, Tryd.ntmps23
          go_wp2_with fail
          refine HRR.out.mono ?_
          rintro e w1 ⟨rfl, hb1⟩
          have HA1 := Lib.hid (new_ring w1)
          have HB1 := Lib.hid hb1
          have hs1 := hb1.size
          clear hb1
          go_wp2_with (first
            | (refine store_ring rfl _ _ rfl w1.heap.size zero7 P rfl H7.out rfl rfl HA1 ?_; intro w2 HA2 hg2 hs2
               have HB2 := Lib.hid ((HB1.out.alloc (by omega) (.cells #[.int .i64 0, .int .i64 0, .int .i64 0, .int .i64 0, .int .i64 0, .int .i64 0, .int .i64 0] 71)).grown hg2 (by simp; omega) (by simp; omega))
               clear HA1 HB1 hg2)
            | (go_at_call 64; refine (HA.out _).mono ?_; rintro e w' ⟨rfl, rfl⟩)
            | (go_at_call 65; refine (HI.out _).mono ?_; rintro e w' ⟨rfl, rfl⟩))
          go_ret2
          exact ⟨_, rfl, nil_own _ _, HB2.out⟩
        · have HI := Lib.hid (setInQ n s false h6 (by simp; omega))
          clear h hr hs T hT hP h0
          go_enter Tryd.func23, Tryd.ntmps23
          go_wp2_with fail
          refine HRR.out.mono ?_
          rintro e w1 ⟨rfl, hb1⟩
          have HA1 := Lib.hid (new_ring w1)
          have HB1 := Lib.hid hb1
          have hs1 := hb1.size
          clear hb1
          go_wp2_with (first
            | (refine store_ring rfl _ _ rfl w1.heap.size zero7 P rfl H7.out rfl rfl HA1 ?_; intro w2 HA2 hg2 hs2
               have HB2 := Lib.hid ((HB1.out.alloc (by omega) (.cells #[.int .i64 0, .int .i64 0, .int .i64 0, .int .i64 0, .int .i64 0, .int .i64 0, .int .i64 0] 71)).grown hg2 (by simp; omega) (by simp; omega))
               clear HA1 HB1 hg2)
            | (go_at_call 64; refine (HA.out _).mono ?_; rintro e w' ⟨rfl, rfl⟩)
            | (go_at_call 65; refine (HI.out _).mono ?_; rintro e w' ⟨rfl, rfl⟩))
          go_ret2
          exact ⟨_, rfl, nil_own _ _, HB2.out⟩
    · have HA := Lib.hid (askQ (n : Int) false (by simp [asked]; omega))
      have T := Lib.hid (wp_no (l := l) (s := s) (fun hh => h6 (by have := hh.2.1; rw [HL.out] at this; exact this)))
      rw [T.out.1, T.out.2]
      generalize ringP l = P at *
      clear h hr T hT hP
      go_enter Tryd.func23, Tryd.ntmps23
      go_wp2_with fail
      refine HRR.out.mono ?_
      rintro e w1 ⟨rfl, hb1⟩
      have HA1 := Lib.hid (new_ring w1)
      have HB1 := Lib.hid hb1
      have hs1 := hb1.size
      clear hb1
      go_wp2_with (first
        | (refine store_ring rfl _ _ rfl w1.heap.size zero7 P rfl H7.out rfl rfl HA1 ?_; intro w2 HA2 hg2 hs2
           have HB2 := Lib.hid ((HB1.out.alloc (by omega) (.cells #[.int .i64 0, .int .i64 0, .int .i64 0, .int .i64 0, .int .i64 0, .int .i64 0, .int .i64 0] 71)).grown hg2 (by simp; omega) (by simp; omega))
           clear HA1 HB1 hg2)
        | (go_at_call 64; refine (HA.out _).mono ?_; rintro e w' ⟨rfl, rfl⟩))
      go_ret2
      exact ⟨_, rfl, nil_own _ _, HB2.out⟩
  · have T := Lib.hid (wp_no (l := l) (s := s) (fun hh => hr hh.1))
    rw [ring_no hr] at HRR
    rw [T.out.1, T.out.2]
    generalize ringP l = P at *
    clear h hr T hT
    go_enter Tryd.func23, Tryd.ntmps23
    go_wp2_with fail
    refine HRR.out.mono ?_
    rintro e w1 ⟨rfl, hb1⟩
    have HA1 := Lib.hid (new_ring w1)
    have HB1 := Lib.hid hb1
    have hs1 := hb1.size
    clear hb1
    go_wp2_with (first
      | (refine store_ring rfl _ _ rfl w1.heap.size zero7 P rfl H7.out rfl rfl HA1 ?_; intro w2 HA2 hg2 hs2
         have HB2 := Lib.hid ((HB1.out.alloc (by omega) (.cells #[.int .i64 0, .int .i64 0, .int .i64 0, .int .i64 0, .int .i64 0, .int .i64 0, .int .i64 0] 71)).grown hg2 (by simp; omega) (by simp; omega))
         clear HA1 HB1 hg2))
    go_ret2
    exact ⟨_, rfl, nil_own _ _, HB2.out⟩

/-- Whether a list is a ring of at most six points that has a part. -/
def whB (l p : List Int) : Bool := decide (Ring l ∧ Prt (l.length : Int) p ∧ hasL l p = true)
theorem wh_all {l p : List Int} (hr : Ring l) (hp : Prt (l.length : Int) p) : whB l p = hasL l p := by
  cases h : hasL l p with
  | true => simpa [whB] using ⟨hr, hp, h⟩
  | false => simp [whB, h]
theorem wh_ring {l p : List Int} (hr : ¬ Ring l) : whB l p = false := by simp [whB, hr]
theorem wh_prt {l p : List Int} (hp : ¬ Prt (l.length : Int) p) : whB l p = false := by simp [whB, hp]

set_option maxRecDepth 10000 in
set_option maxHeartbeats 1000000 in
theorem whS_any (A : Option Addr) (n c : Nat) (B : Option Addr) (m d H : Nat) (l p : List Int) (w : World) (h : Rd w H A n l) (k : Rd w H B m p) (hH : H ≤ w.heap.size) (hn : n ≤ 1048576) (hm : m ≤ 1048576) :
    Calls Tryd.prog 28 #[.slice A n c, .slice B m d] w fun e w' => e = .returned (.bool (whB l p)) ∧ Below w.heap.size w w' := by
  have HL := Lib.hid h.len
  have HRI := Lib.hid (flipW (ringS_any A n c H l w h hn))
  by_cases hr : Ring l
  · rw [ring_yes hr] at HRI
    by_cases h6 : n ≤ 6
    · have HIN := Lib.hid (l6wIn_any B m d H p (n : Int) w k hm)
      have hg : decide ((n : Int) ≤ 6) = true := by simp; omega
      by_cases hp : Prt (l.length : Int) p
      · have HH := Lib.hid (fun q => hasLS_any A B n c m d H l p (w.drewN q) (h.drewN q) (k.drewN q) hH hr.1 hp)
        rw [wh_all hr hp]
        rw [HL.out] at hp
        rw [prt_yes hp] at HIN
        clear h k hr hp
        generalize hasL l p = r at *
        go_enter Tryd.func28, Tryd.ntmps28
        go_wp2_with (first
          | (go_at_call 67; refine HRI.out.mono ?_; rintro e w' ⟨rfl, rfl⟩)
          | (go_at_call 59; refine HIN.out.mono ?_; rintro e w1 ⟨rfl, q, rfl⟩)
          | (go_at_call 72; refine (HH.out _).mono ?_; rintro e w2 ⟨rfl, hb⟩))
        go_ret
        exact ⟨rfl, (below_drewN (Below.refl _ _) _).trans hb⟩
      · rw [wh_prt hp]
        rw [HL.out] at hp
        rw [prt_no hp] at HIN
        clear h k hr hp
        go_enter Tryd.func28, Tryd.ntmps28
        go_wp2_with (first
          | (go_at_call 67; refine HRI.out.mono ?_; rintro e w' ⟨rfl, rfl⟩)
          | (go_at_call 59; refine HIN.out.mono ?_; rintro e w1 ⟨rfl, q, rfl⟩))
        go_ret
        exact ⟨rfl, below_drewN (Below.refl _ _) _⟩
    · have hg : decide ((n : Int) ≤ 6) = false := by simp; omega
      rw [wh_prt (fun hp => h6 (by have := hp.1.2; rw [HL.out] at this; omega))]
      clear h k hr
      go_enter Tryd.func28, Tryd.ntmps28
      go_wp2_with (first
        | (go_at_call 67; refine HRI.out.mono ?_; rintro e w' ⟨rfl, rfl⟩))
      go_ret
      exact ⟨rfl, Below.refl _ _⟩
  · rw [ring_no hr] at HRI
    rw [wh_ring hr]
    clear h k hr
    go_enter Tryd.func28, Tryd.ntmps28
    go_wp2_with (first
      | (go_at_call 67; refine HRI.out.mono ?_; rintro e w' ⟨rfl, rfl⟩))
    go_ret
    exact ⟨rfl, Below.refl _ _⟩

set_option maxRecDepth 10000 in
set_option maxHeartbeats 1000000 in
theorem whI_any (A : Option Addr) (n c : Nat) (B : Option Addr) (m d H : Nat) (l p : List Int) (w : World) (h : Rd w H A n l) (k : Rd w H B m p) (hH : H ≤ w.heap.size) (hn : n ≤ 1048576) (hm : m ≤ 1048576) (hnc : n ≤ c) (hcm : c ≤ 9223372036854775807) (hmd : m ≤ d) (hdm : d ≤ 9223372036854775807) (hT : Tab w) :
    Calls Tryd.prog 26 #[.slice A n c, .slice B m d] w fun e w' => e = .returned (.bool (whB l p)) ∧ Below w.heap.size w w' := by
  have HL := Lib.hid h.len
  have HRR := Lib.hid (readR_any A n c H l w h hH hn hnc hcm)
  have H7 := Lib.hid (ringP_length l)
  have HRP := Lib.hid (fun W (hW : Below w.heap.size w W) => readPart_any B m d H p (n : Int) W (k.below (hW.mono hH)) (Nat.le_trans hH hW.size) hm hmd hdm)
  have HT := Lib.hid hT
  have key : ∀ (b1 b2 : Bool) (R : List Int), ringB l = b1 → prt (n : Int) p = b2 → prtL (n : Int) p = R → (b1 = true → b2 = true → ∀ (W : World) (A' : Option Addr) (c' : Nat), Rd W W.heap.size A' R.length R → Tab W → Calls Tryd.prog 71 #[.agg (ints (ringP l)).toArray, .slice A' R.length c'] W fun e w' => e = .returned (.bool (whB l p)) ∧ Below W.heap.size W w') → (b1 && b2) = false ∨ (b1 && b2) = true → ((b1 && b2) = false → whB l p = false) →
      Calls Tryd.prog 26 #[.slice A n c, .slice B m d] w fun e w' => e = .returned (.bool (whB l p)) ∧ Below w.heap.size w w' := by
    intro b1 b2 R e1 e2 e3 hh hb hf
    rw [e1] at HRR
    rw [e2, e3] at HRP
    have HH := Lib.hid hh
    have HF := Lib.hid hf
    clear h k hT e1 e2 e3 hh hf
    generalize whB l p = r at *
    generalize ringP l = P at *
    have start : ∀ (Q : Prop), Q → Q := fun _ q => q
    cases b1 <;> cases b2
    case true.true =>
      obtain ⟨p0, p1, p2, p3, p4, p5, p6, eP⟩ := seven H7.out
      subst eP
      have HH' := Lib.hid (HH.out rfl rfl)
      simp only [ints, List.map_cons, List.map_nil] at HH' HRR
      go_enter Tryd.func26, Tryd.ntmps26
      go_wp2_with fail
      refine HRR.out.mono ?_
      rintro e w1 ⟨rfl, hb1⟩
      have HA1 := Lib.hid (new_ring w1)
      have HB1 := Lib.hid hb1
      have hs1 := hb1.size
      clear hb1
      go_wp2_with (first
        | (refine store_ring rfl _ _ rfl w1.heap.size zero7 [p0, p1, p2, p3, p4, p5, p6] rfl H7.out rfl rfl HA1 ?_; intro w2 HA2 hg2 hs2
           have HB2 := Lib.hid ((HB1.out.alloc (by omega) (.cells #[.int .i64 0, .int .i64 0, .int .i64 0, .int .i64 0, .int .i64 0, .int .i64 0, .int .i64 0] 71)).grown hg2 (by simp; omega) (by simp; omega))
           clear HA1 HB1 hg2)
        | (go_at_call 58; refine (HRP.out _ HB2.out).mono ?_; rintro e w3 ⟨v3, rfl, hr3, hb3⟩
           obtain ⟨A3, c3, ev, _⟩ := hr3.2
           subst ev
           have HB3 := Lib.hid (HB2.out.trans (hb3.mono HB2.out.size))
           have HC3 := Lib.hid (HH'.out w3 A3 c3 hr3.1.rd.2 (HT.out.on HB3.out))
           obtain ⟨k0, k1, k2, k3, k4, k5, k6⟩ := cells7 (HA2.out.below hb3 HA2.out.lt)
           clear hr3 hb3 HA2)
        | (go_at_call 71; refine HC3.out.mono ?_; rintro e w4 ⟨rfl, hb4⟩))
      go_ret
      exact ⟨rfl, HB3.out.trans (hb4.mono HB3.out.size)⟩
    all_goals
      have HF' := Lib.hid (HF.out rfl)
      rw [HF'.out]
      go_enter Tryd.func26, Tryd.ntmps26
      go_wp2_with fail
      refine HRR.out.mono ?_
      rintro e w1 ⟨rfl, hb1⟩
      have HA1 := Lib.hid (new_ring w1)
      have HB1 := Lib.hid hb1
      have hs1 := hb1.size
      clear hb1
      go_wp2_with (first
        | (refine store_ring rfl _ _ rfl w1.heap.size zero7 P rfl H7.out rfl rfl HA1 ?_; intro w2 HA2 hg2 hs2
           have HB2 := Lib.hid ((HB1.out.alloc (by omega) (.cells #[.int .i64 0, .int .i64 0, .int .i64 0, .int .i64 0, .int .i64 0, .int .i64 0, .int .i64 0] 71)).grown hg2 (by simp; omega) (by simp; omega))
           clear HA1 HB1 hg2)
        | (go_at_call 58; refine (HRP.out _ HB2.out).mono ?_; rintro e w3 ⟨v3, rfl, hr3, hb3⟩
           obtain ⟨A3, c3, ev, _⟩ := hr3.2
           subst ev
           have HB3 := Lib.hid (HB2.out.trans (hb3.mono HB2.out.size))
           clear hr3 hb3 HA2))
      go_ret
      exact ⟨rfl, HB3.out⟩
  refine key (ringB l) (prt (n : Int) p) (prtL (n : Int) p) rfl rfl rfl ?_ (by cases (ringB l && prt (n : Int) p) <;> simp) ?_
  · intro h1 h2 W A' c' hR hTW
    have hr : Ring l := by simpa [ringB] using h1
    have hp : Prt (n : Int) p := by simpa [prt] using h2
    rw [prtL_yes hp] at hR ⊢
    rw [← HL.out] at hp
    rw [wh_all hr hp, show ringP l = padR l by rw [ringP, if_pos hr]]
    exact hasLI_any A' p.length c' W.heap.size l p W hR (Nat.le_refl _) hr.1 hp hTW
  · intro hf
    by_cases hr : Ring l
    · refine wh_prt fun hp => ?_
      rw [HL.out] at hp
      rw [ring_yes hr, prt_yes hp] at hf
      cases hf
    · exact wh_ring hr
end Go.Proofs.YtpfdlgofkcpglaaDoor

namespace Go.Proofs.YtpfdlgofkcpglaaDoor
open Go.ChangeShapes Go.WideShapes Go.ChangeAt Go.RowKit

def wrR (q : Int) (L : List (List Int)) : Int := if Lst q L then ((wovenL q.toNat L).length : Nat) else 0
def wfsR (q : Int) (L : List (List Int)) : List Int := if Lst q L then rowK (wovenL q.toNat L) 0 else []
def wfsB (q : Int) (L : List (List Int)) : Bool := if Lst q L then decide (0 < (wovenL q.toNat L).length) else false
theorem wfsR_length (q : Int) (L : List (List Int)) : (wfsR q L).length ≤ 7 := by
  unfold wfsR
  split
  · rename_i ht
    have h36 := ht.1
    rcases Nat.eq_zero_or_pos (wovenL q.toNat L).length with h0 | h0
    · rw [List.eq_nil_of_length_eq_zero h0]; simp [rowK]
    · have := (wovenL_is q.toNat L (by omega) (by omega) _ (rowK_mem h0)).1
      omega
  · simp
theorem lst_nat {q : Int} {L : List (List Int)} (ht : Lst q L) : ∃ k : Nat, q = k ∧ 3 ≤ k ∧ k ≤ 6 := ⟨q.toNat, by have := ht.1; omega, by have := ht.1; omega, by have := ht.1; omega⟩
theorem tot_rows {L : List (List Int)} {n : Nat} (hl : L.length = n) (hn : tot L ≤ 1048576) : ∀ k, k < n → (rowK L k).length ≤ 1048576 := fun k hk => Nat.le_trans (row_le L k (by omega)) hn

set_option maxHeartbeats 1000000 in
theorem wrS_any (A : Option Addr) (n c H : Nat) (q : Int) (L : List (List Int)) (w : World) (h : RdS w H A n L) (hH : H ≤ w.heap.size) (hn : tot L ≤ 1048576) :
    Calls Tryd.prog 31 #[.int .i64 q, .slice A n c] w fun e w' => e = .returned (.tuple #[.int .i64 (wrR q L), .bool (lst q L)]) ∧ Below w.heap.size w w' := by
  have hl := h.len
  have HC := Lib.hid (lists_any A n c H L q w h (by unfold tot at hn; omega) (tot_rows hl hn))
  by_cases ht : Lst q L
  · obtain ⟨k, rfl, h3, h6⟩ := lst_nat ht
    have HTY := Lib.hid (lst_yes ht).1
    have HG := Lib.hid (fun p => l6wRings_any A n c H k L (w.drewN p) (h.drewN p) hH h3 h6 (by have := ht.2.1; omega) ht.2.2)
    have HR : Hid (wrR (k : Int) L = ((wovenL k L).length : Nat)) := by rw [Hid, wrR, if_pos ht, Int.toNat_natCast]
    rw [(lst_yes ht).1] at HC
    rw [HR.out, HTY.out]
    clear h hl ht
    go_enter Tryd.func31, Tryd.ntmps31
    go_wp2_with fail
    refine HC.out.mono ?_
    rintro e w1 ⟨rfl, p, rfl⟩
    go_wp2_with fail
    refine (HG.out p).mono ?_
    rintro e w2 ⟨v, rfl, hg2, hb2⟩
    obtain ⟨A2, c2, rfl, _⟩ := hg2.slice
    clear hg2
    go_wp2
    go_ret2
    exact ⟨rfl, (below_drewN (Below.refl _ _) p).trans hb2⟩
  · have HTY := Lib.hid (lst_no ht).1
    have HR : Hid (wrR q L = 0) := by rw [Hid, wrR, if_neg ht]
    rw [(lst_no ht).1] at HC
    rw [HR.out, HTY.out]
    clear h hl ht
    go_enter Tryd.func31, Tryd.ntmps31
    go_wp2_with (go_at_call 76; refine HC.out.mono ?_; rintro e w1 ⟨rfl, p, rfl⟩)
    go_ret2
    exact ⟨rfl, below_drewN (Below.refl _ _) p⟩

set_option maxHeartbeats 1000000 in
theorem wrI_any (A : Option Addr) (n c H : Nat) (q : Int) (L : List (List Int)) (w : World) (h : RdS w H A n L) (hH : H ≤ w.heap.size) (hn : tot L ≤ 1048576) (hT : Tab w) :
    Calls Tryd.prog 20 #[.int .i64 q, .slice A n c] w fun e w' => e = .returned (.tuple #[.int .i64 (wrR q L), .bool (lst q L)]) ∧ Below w.heap.size w w' := by
  have HC := Lib.hid (readParts_any A n c H L q w h hH (by have := h.len; unfold tot at hn; omega) (tot_rows h.len hn))
  have HT := Lib.hid hT
  by_cases ht : Lst q L
  · obtain ⟨k, rfl, h3, h6⟩ := lst_nat ht
    have HTY := Lib.hid (lst_yes ht).1
    have HTT := Lib.hid ht
    have HR : Hid (wrR (k : Int) L = ((wovenL k L).length : Nat)) := by rw [Hid, wrR, if_pos ht, Int.toNat_natCast]
    rw [(lst_yes ht).1, (lst_yes ht).2] at HC
    rw [HR.out, HTY.out]
    clear h hH ht hT
    go_enter Tryd.func20, Tryd.ntmps20
    go_wp2_with fail
    refine HC.out.mono ?_
    rintro e w1 ⟨v1, rfl, hr1, hb1⟩
    obtain ⟨A1, c1, rfl, _⟩ := hr1.slice
    have HG := Lib.hid (woven_any k A1 L.length c1 w1.heap.size L w1 hr1.rd.2 (Nat.le_refl _) h3 h6 (by have := HTT.out.2.1; omega) HTT.out.2.2 (HT.out.on hb1))
    clear hr1 HC
    go_wp2_with fail
    refine HG.out.mono ?_
    rintro e w2 ⟨v2, rfl, hr2, hb2⟩
    obtain ⟨A2, c2, rfl⟩ := hr2.slice
    have hlen : Hid ((padM (wovenL k L)).length = (wovenL k L).length) := by simp [Hid, padM]
    rw [hlen.out]
    clear hr2
    go_wp2
    go_ret2
    exact ⟨rfl, hb1.trans (hb2.mono hb1.size)⟩
  · have HTY := Lib.hid (lst_no ht).1
    have HR : Hid (wrR q L = 0) := by rw [Hid, wrR, if_neg ht]
    rw [(lst_no ht).1] at HC
    rw [HR.out, HTY.out]
    clear h hH ht hT
    go_enter Tryd.func20, Tryd.ntmps20
    go_wp2_with (go_at_call 60; refine HC.out.mono ?_; rintro e w1 ⟨v1, rfl, hp1, hb1⟩; obtain ⟨A1, c1, ev, _⟩ := hp1.slice; subst ev; clear hp1)
    go_ret2
    exact ⟨rfl, hb1⟩

theorem GrowS.row6 {w : World} {B : Nat} {v : Value} {L : List (List Int)} (h : GrowS w B v L) {k : Nat} (hk : k < L.length) : ∃ g c A d, v = .slice (some ⟨g, 0, none⟩) L.length c ∧ w.cell? ⟨g, k, none⟩ = some (.slice A (rowK L k).length d) ∧ RowV w B (.slice A (rowK L k).length d) (rowK L k) := by
  obtain ⟨xs, h1, h2⟩ := h
  obtain ⟨vk, h3, h4⟩ := h2 k hk
  obtain ⟨A, d, rfl, _⟩ := h4.2
  rcases h1.2 with ⟨_, h0⟩ | ⟨g, cap, cur, rfl, hB, hg, hc, hm, hs, ht⟩
  · omega
  · refine ⟨g, cap, A, d, rfl, ?_, h4⟩
    rw [cell_of_row w g _ cur _ _ hg]
    rw [← ht, List.getElem?_take, if_pos (by omega)] at h3
    simpa using h3

set_option maxHeartbeats 1000000 in
theorem wfS_any (A : Option Addr) (n c H : Nat) (q : Int) (L : List (List Int)) (w : World) (h : RdS w H A n L) (hH : H ≤ w.heap.size) (hn : tot L ≤ 1048576) :
    Calls Tryd.prog 35 #[.int .i64 q, .slice A n c] w fun e w' => ∃ v, e = .returned (.tuple #[v, .bool (wfsB q L)]) ∧ OwnG w' w.heap.size v (wfsR q L) ∧ Below w.heap.size w w' := by
  have hl := h.len
  have HC := Lib.hid (lists_any A n c H L q w h (by unfold tot at hn; omega) (tot_rows hl hn))
  by_cases ht : Lst q L
  · obtain ⟨k, rfl, h3, h6⟩ := lst_nat ht
    have HG := Lib.hid (fun p => l6wRings_any A n c H k L (w.drewN p) (h.drewN p) hH h3 h6 (by have := ht.2.1; omega) ht.2.2)
    have HR : Hid (wfsR (k : Int) L = rowK (wovenL k L) 0 ∧ wfsB (k : Int) L = decide (0 < (wovenL k L).length)) := ⟨by rw [wfsR, if_pos ht, Int.toNat_natCast], by rw [wfsB, if_pos ht, Int.toNat_natCast]⟩
    rw [(lst_yes ht).1] at HC
    rw [HR.out.1, HR.out.2]
    clear h hl ht
    go_enter Tryd.func35, Tryd.ntmps35
    go_wp2_with fail
    refine HC.out.mono ?_
    rintro e w1 ⟨rfl, p, rfl⟩
    go_wp2_with fail
    refine (HG.out p).mono ?_
    rintro e w2 ⟨v, rfl, hg2, hb2⟩
    have HB2 := Lib.hid ((below_drewN (Below.refl _ _) p).trans hb2)
    by_cases h0 : 0 < (wovenL k L).length
    · obtain ⟨g, c', A', d', rfl, hc, hrow⟩ := hg2.row6 h0
      have HD : Hid (decide (0 < (wovenL k L).length) = true) := by simpa [Hid] using h0
      have HROW := Lib.hid hrow.1
      obtain ⟨z, hz⟩ : ∃ z, z = (wovenL k L).length := ⟨_, rfl⟩
      rw [← hz] at h0 ⊢
      clear hg2 hrow hb2 HG HC HR hz
      have he' : ((z : Int) == 0) = false := by simp; omega
      go_wp2
      go_ret2
      exact ⟨.slice A' (rowK (wovenL k L) 0).length d', by rw [HD.out]; rfl, HROW.out, HB2.out⟩
    · have hz : (wovenL k L).length = 0 := by omega
      have HD : Hid (decide (0 < (wovenL k L).length) = false) := by simpa [Hid] using h0
      have HE : Hid (rowK (wovenL k L) 0 = []) := by rw [List.eq_nil_of_length_eq_zero hz]; rfl
      obtain ⟨A', d', rfl, _⟩ := hg2.slice
      rw [hz]
      clear hg2 hb2 HG HC HR hz
      go_wp2_with fail
      refine (none_any _).mono ?_
      rintro e w3 ⟨v3, rfl, ho3, hb3⟩
      go_wp2
      go_ret2
      exact ⟨v3, by rw [HD.out]; rfl, by rw [HE.out]; exact (own_less ho3 HB2.out.size).gen, HB2.out.trans (hb3.mono HB2.out.size)⟩
  · have HR : Hid (wfsR q L = [] ∧ wfsB q L = false) := ⟨by rw [wfsR, if_neg ht], by rw [wfsB, if_neg ht]⟩
    rw [(lst_no ht).1] at HC
    rw [HR.out.1, HR.out.2]
    clear h hl ht
    go_enter Tryd.func35, Tryd.ntmps35
    go_wp2_with fail
    refine HC.out.mono ?_
    rintro e w1 ⟨rfl, p, rfl⟩
    go_wp2_with fail
    refine (none_any _).mono ?_
    rintro e w3 ⟨v3, rfl, ho3, hb3⟩
    go_wp2
    go_ret2
    exact ⟨_, rfl, ho3.gen, (below_drewN (Below.refl _ _) p).trans hb3⟩

set_option maxRecDepth 10000 in
set_option maxHeartbeats 1000000 in
theorem wfI_any (A : Option Addr) (n c H : Nat) (q : Int) (L : List (List Int)) (w : World) (h : RdS w H A n L) (hH : H ≤ w.heap.size) (hn : tot L ≤ 1048576) (hT : Tab w) :
    Calls Tryd.prog 32 #[.int .i64 q, .slice A n c] w fun e w' => ∃ v, e = .returned (.tuple #[v, .bool (wfsB q L)]) ∧ OwnG w' w.heap.size v (wfsR q L) ∧ Below w.heap.size w w' := by
  have HC := Lib.hid (readParts_any A n c H L q w h hH (by have := h.len; unfold tot at hn; omega) (tot_rows h.len hn))
  have HT := Lib.hid hT
  by_cases ht : Lst q L
  · obtain ⟨k, rfl, h3, h6⟩ := lst_nat ht
    have HTT := Lib.hid ht
    have HR : Hid (wfsR (k : Int) L = rowK (wovenL k L) 0 ∧ wfsB (k : Int) L = decide (0 < (wovenL k L).length)) := ⟨by rw [wfsR, if_pos ht, Int.toNat_natCast], by rw [wfsB, if_pos ht, Int.toNat_natCast]⟩
    rw [(lst_yes ht).1, (lst_yes ht).2] at HC
    rw [HR.out.1, HR.out.2]
    clear h hH ht hT
    go_enter Tryd.func32, Tryd.ntmps32
    go_wp2_with fail
    refine HC.out.mono ?_
    rintro e w1 ⟨v1, rfl, hr1, hb1⟩
    obtain ⟨A1, c1, rfl, _⟩ := hr1.slice
    have HG := Lib.hid (woven_any k A1 L.length c1 w1.heap.size L w1 hr1.rd.2 (Nat.le_refl _) h3 h6 (by have := HTT.out.2.1; omega) HTT.out.2.2 (HT.out.on hb1))
    clear hr1 HC
    go_wp2_with fail
    refine HG.out.mono ?_
    rintro e w2 ⟨v2, rfl, hr2, hb2⟩
    have HB2 := Lib.hid (hb1.trans (hb2.mono hb1.size))
    have HF := Lib.hid (firstList_any v2 w1.heap.size (wovenL k L) w2 hr2 (by have := wovenL_len k L h3 h6; omega) (fun l hl => by
      have hI := wovenL_is k L h3 h6 l hl
      exact ⟨by rw [hI.1]; omega, by rw [hI.1]; omega, hI.2.1⟩))
    clear hr2 hb1 hb2 HG HR
    go_wp2_with fail
    refine HF.out.mono ?_
    rintro e w3 ⟨v3, rfl, ho3, hb3⟩
    have HO3 := Lib.hid (show OwnG w3 w.heap.size v3 (rowK (wovenL k L) 0) from (ownG_dn ho3 HB2.out.size))
    have HB3 := Lib.hid (HB2.out.trans (hb3.mono HB2.out.size))
    clear ho3 hb3 HF
    go_wp2
    go_ret2
    exact ⟨v3, rfl, HO3.out, HB3.out⟩
  · have HR : Hid (wfsR q L = [] ∧ wfsB q L = false) := ⟨by rw [wfsR, if_neg ht], by rw [wfsB, if_neg ht]⟩
    rw [(lst_no ht).1] at HC
    rw [HR.out.1, HR.out.2]
    clear h hH ht hT
    go_enter Tryd.func32, Tryd.ntmps32
    go_wp2_with (go_at_call 60; refine HC.out.mono ?_; rintro e w1 ⟨v1, rfl, hp1, hb1⟩; obtain ⟨A1, c1, ev, _⟩ := hp1.slice; subst ev; clear hp1)
    go_ret2
    exact ⟨.slice none 0 0, rfl, .inl ⟨rfl, rfl⟩, hb1⟩
end Go.Proofs.YtpfdlgofkcpglaaDoor

namespace Go.Proofs.YtpfdlgofkcpglaaDoor
open Go.ChangeShapes Go.WideShapes Go.ChangeAt Go.RowKit


set_option maxRecDepth 10000 in
set_option maxHeartbeats 2000000 in
theorem two6_any (Ap Aq : Option Addr) (np cp nq cq H : Nat) (n : Int) (p q : List Int) (w : World) (hp : Rd w H Ap np p) (hq : Rd w H Aq nq q) (hpn : np ≤ 1048576) (hqn : nq ≤ 1048576) :
    Calls Tryd.prog 83 #[.int .i64 n, .slice Ap np cp, .slice Aq nq cq] w fun e w' => e = .returned (.bool (wov n p q)) ∧ ∃ k, w' = w.drewN k := by
  have HPL := Lib.hid hp.len
  have HQL := Lib.hid hq.len
  have HIP := Lib.hid (fun k => l6wIn_any Ap np cp H p n (w.drewN k) (hp.drewN k) hpn)
  have HIQ := Lib.hid (fun k => l6wIn_any Aq nq cq H q n (w.drewN k) (hq.drewN k) hqn)
  obtain ⟨nr, rfl⟩ : ∃ nr, nr = nq := ⟨nq, rfl⟩
  by_cases h1 : Prt n p
  · rw [prt_yes h1] at HIP
    by_cases h2 : Prt n q
    · rw [prt_yes h2] at HIQ
      have hm := wov_model h1 h2
      have hb1 := h1.bd
      have hb2 := h2.bd
      have hl1 := h1.len
      have hl2 := h2.len
      have HSP := Lib.hid (fun k => flipW (setS_any Ap np cp H p (w.drewN k) (hp.drewN k) hpn hb1))
      have HSQ := Lib.hid (fun k => flipW (setS_any Aq nr cq H q (w.drewN k) (hq.drewN k) hqn hb2))
      have hm1 := mask_lt p hb1
      have hm2 := mask_lt q hb2
      have h36 := h1.1
      have hor := or_small (maskN p) (maskN q) hm1 hm2
      rw [HPL.out, HQL.out] at hm
      rw [HPL.out] at hl1
      rw [HQL.out] at hl2
      obtain ⟨r, hr⟩ : ∃ r, r = wov n p q := ⟨_, rfl⟩
      rw [← hr]
      have hr' : Hid (r = decide ((np : Int) + nr = n ∧ maskN p ||| maskN q = 2 ^ n.toNat - 1)) := by
        rw [Hid, hr, wov, decide_eq_decide]; exact hm
      clear hp hq h1 h2 hm hb1 hb2 hr
      generalize maskN p = s at *
      generalize maskN q = t at *
      by_cases hs : (np : Int) + nr = n
      · have e1 : (((np : Int) + (nr : Int)) == n) = true := by simpa using hs
        have hw1 : IntKind.i64.wrap ((np : Int) + (nr : Int)) = (np : Int) + nr := IntWalk.i64_in _ (by omega)
        by_cases ho : s ||| t = 2 ^ n.toNat - 1
        · have HRT : Hid (r = true) := by rw [Hid, hr'.out]; simpa using ⟨hs, ho⟩
          have e2 : (bits BinOp.or IntKind.i64 (s : Int) (t : Int) == ((2 ^ n.toNat - 1 : Nat) : Int)) = true := by
            rw [hor, ho]; simp
          clear hs hr' hor ho
          obtain rfl | rfl | rfl | rfl : n = 3 ∨ n = 4 ∨ n = 5 ∨ n = 6 := by omega
          · replace e2 : (bits BinOp.or IntKind.i64 (s : Int) (t : Int) == 7) = true := e2
            go_enter Tryd.func83, Tryd.ntmps83
            go_wp2
            go_quiet (first | (go_at_call_of 59 (Value.slice Ap np cp); refine Calls.quiet_of (HIP.out _)) | (go_at_call_of 59 (Value.slice Aq nr cq); refine Calls.quiet_of (HIQ.out _)) | (go_at_call_of 106 (Value.slice Ap np cp); refine Calls.quiet_of_same (HSP.out _)) | (go_at_call_of 106 (Value.slice Aq nr cq); refine Calls.quiet_of_same (HSQ.out _)))
            go_wp2
            go_ret
            exact ⟨by rw [HRT.out]; rfl, nq, rfl⟩
          · replace e2 : (bits BinOp.or IntKind.i64 (s : Int) (t : Int) == 15) = true := e2
            go_enter Tryd.func83, Tryd.ntmps83
            go_wp2
            go_quiet (first | (go_at_call_of 59 (Value.slice Ap np cp); refine Calls.quiet_of (HIP.out _)) | (go_at_call_of 59 (Value.slice Aq nr cq); refine Calls.quiet_of (HIQ.out _)) | (go_at_call_of 106 (Value.slice Ap np cp); refine Calls.quiet_of_same (HSP.out _)) | (go_at_call_of 106 (Value.slice Aq nr cq); refine Calls.quiet_of_same (HSQ.out _)))
            go_wp2
            go_ret
            exact ⟨by rw [HRT.out]; rfl, nq, rfl⟩
          · replace e2 : (bits BinOp.or IntKind.i64 (s : Int) (t : Int) == 31) = true := e2
            go_enter Tryd.func83, Tryd.ntmps83
            go_wp2
            go_quiet (first | (go_at_call_of 59 (Value.slice Ap np cp); refine Calls.quiet_of (HIP.out _)) | (go_at_call_of 59 (Value.slice Aq nr cq); refine Calls.quiet_of (HIQ.out _)) | (go_at_call_of 106 (Value.slice Ap np cp); refine Calls.quiet_of_same (HSP.out _)) | (go_at_call_of 106 (Value.slice Aq nr cq); refine Calls.quiet_of_same (HSQ.out _)))
            go_wp2
            go_ret
            exact ⟨by rw [HRT.out]; rfl, nq, rfl⟩
          · replace e2 : (bits BinOp.or IntKind.i64 (s : Int) (t : Int) == 63) = true := e2
            go_enter Tryd.func83, Tryd.ntmps83
            go_wp2
            go_quiet (first | (go_at_call_of 59 (Value.slice Ap np cp); refine Calls.quiet_of (HIP.out _)) | (go_at_call_of 59 (Value.slice Aq nr cq); refine Calls.quiet_of (HIQ.out _)) | (go_at_call_of 106 (Value.slice Ap np cp); refine Calls.quiet_of_same (HSP.out _)) | (go_at_call_of 106 (Value.slice Aq nr cq); refine Calls.quiet_of_same (HSQ.out _)))
            go_wp2
            go_ret
            exact ⟨by rw [HRT.out]; rfl, nq, rfl⟩
        · have HRF : Hid (r = false) := by rw [Hid, hr'.out]; simp [ho]
          have e2 : (bits BinOp.or IntKind.i64 (s : Int) (t : Int) == ((2 ^ n.toNat - 1 : Nat) : Int)) = false := by
            rw [hor]; simp only [beq_eq_false_iff_ne, ne_eq]; intro e; exact ho (by exact_mod_cast e)
          clear hs hr' hor ho
          obtain rfl | rfl | rfl | rfl : n = 3 ∨ n = 4 ∨ n = 5 ∨ n = 6 := by omega
          · replace e2 : (bits BinOp.or IntKind.i64 (s : Int) (t : Int) == 7) = false := e2
            go_enter Tryd.func83, Tryd.ntmps83
            go_wp2
            go_quiet (first | (go_at_call_of 59 (Value.slice Ap np cp); refine Calls.quiet_of (HIP.out _)) | (go_at_call_of 59 (Value.slice Aq nr cq); refine Calls.quiet_of (HIQ.out _)) | (go_at_call_of 106 (Value.slice Ap np cp); refine Calls.quiet_of_same (HSP.out _)) | (go_at_call_of 106 (Value.slice Aq nr cq); refine Calls.quiet_of_same (HSQ.out _)))
            go_wp2
            go_ret
            exact ⟨by rw [HRF.out]; rfl, nq, rfl⟩
          · replace e2 : (bits BinOp.or IntKind.i64 (s : Int) (t : Int) == 15) = false := e2
            go_enter Tryd.func83, Tryd.ntmps83
            go_wp2
            go_quiet (first | (go_at_call_of 59 (Value.slice Ap np cp); refine Calls.quiet_of (HIP.out _)) | (go_at_call_of 59 (Value.slice Aq nr cq); refine Calls.quiet_of (HIQ.out _)) | (go_at_call_of 106 (Value.slice Ap np cp); refine Calls.quiet_of_same (HSP.out _)) | (go_at_call_of 106 (Value.slice Aq nr cq); refine Calls.quiet_of_same (HSQ.out _)))
            go_wp2
            go_ret
            exact ⟨by rw [HRF.out]; rfl, nq, rfl⟩
          · replace e2 : (bits BinOp.or IntKind.i64 (s : Int) (t : Int) == 31) = false := e2
            go_enter Tryd.func83, Tryd.ntmps83
            go_wp2
            go_quiet (first | (go_at_call_of 59 (Value.slice Ap np cp); refine Calls.quiet_of (HIP.out _)) | (go_at_call_of 59 (Value.slice Aq nr cq); refine Calls.quiet_of (HIQ.out _)) | (go_at_call_of 106 (Value.slice Ap np cp); refine Calls.quiet_of_same (HSP.out _)) | (go_at_call_of 106 (Value.slice Aq nr cq); refine Calls.quiet_of_same (HSQ.out _)))
            go_wp2
            go_ret
            exact ⟨by rw [HRF.out]; rfl, nq, rfl⟩
          · replace e2 : (bits BinOp.or IntKind.i64 (s : Int) (t : Int) == 63) = false := e2
            go_enter Tryd.func83, Tryd.ntmps83
            go_wp2
            go_quiet (first | (go_at_call_of 59 (Value.slice Ap np cp); refine Calls.quiet_of (HIP.out _)) | (go_at_call_of 59 (Value.slice Aq nr cq); refine Calls.quiet_of (HIQ.out _)) | (go_at_call_of 106 (Value.slice Ap np cp); refine Calls.quiet_of_same (HSP.out _)) | (go_at_call_of 106 (Value.slice Aq nr cq); refine Calls.quiet_of_same (HSQ.out _)))
            go_wp2
            go_ret
            exact ⟨by rw [HRF.out]; rfl, nq, rfl⟩
      · have e1 : (((np : Int) + (nr : Int)) == n) = false := by simpa using hs
        have hw1 : IntKind.i64.wrap ((np : Int) + (nr : Int)) = (np : Int) + nr := IntWalk.i64_in _ (by omega)
        have HRF : Hid (r = false) := by rw [Hid, hr'.out]; simp [hs]
        clear hs hr' hor
        go_enter Tryd.func83, Tryd.ntmps83
        go_wp2
        go_quiet (first | (go_at_call_of 59 (Value.slice Ap np cp); refine Calls.quiet_of (HIP.out _)) | (go_at_call_of 59 (Value.slice Aq nr cq); refine Calls.quiet_of (HIQ.out _)))
        go_wp2
        go_ret
        exact ⟨by rw [HRF.out]; rfl, nq, rfl⟩
    · rw [prt_no h2] at HIQ
      have HRF := Lib.hid (wov_no (n := n) (p := p) (q := q) (fun h => h2 h.2.1))
      rw [HRF.out]
      clear hp hq h1 h2
      go_enter Tryd.func83, Tryd.ntmps83
      go_wp2
      go_quiet (first | (go_at_call_of 59 (Value.slice Ap np cp); refine Calls.quiet_of (HIP.out _)) | (go_at_call_of 59 (Value.slice Aq nr cq); refine Calls.quiet_of (HIQ.out _)))
      go_wp2
      go_ret
      exact ⟨rfl, nq, rfl⟩
  · rw [prt_no h1] at HIP
    have HRF := Lib.hid (wov_no (n := n) (p := p) (q := q) (fun h => h1 h.1))
    rw [HRF.out]
    clear hp hq h1
    go_enter Tryd.func83, Tryd.ntmps83
    go_wp2
    go_quiet (first | (go_at_call_of 59 (Value.slice Ap np cp); refine Calls.quiet_of (HIP.out _)))
    go_wp2
    go_ret
    exact ⟨rfl, nq, rfl⟩

/-- How many rings two woven parts are in, by factorials. -/
def wsmR (n : Int) (p q : List Int) : Int := if Wov n p q then facN (n - 1).toNat / (facN (p.length - 1) * facN (q.length - 1)) else 0
theorem wov_len {n : Int} {p q : List Int} (h : Wov n p q) : (p.length : Int) + q.length = n := ((wov_model h.1 h.2.1).1 h).1

set_option maxRecDepth 10000 in
set_option maxHeartbeats 4000000 in
theorem wsI_any (Ap : Option Addr) (np cp : Nat) (Aq : Option Addr) (nq cq H : Nat) (n : Int) (p q : List Int) (w : World) (hp : Rd w H Ap np p) (hq : Rd w H Aq nq q) (hH : H ≤ w.heap.size) (hpn : np ≤ 1048576) (hqn : nq ≤ 1048576) (hpc : np ≤ cp) (hpm : cp ≤ 9223372036854775807) (hqc : nq ≤ cq) (hqm : cq ≤ 9223372036854775807) :
    Calls Tryd.prog 40 #[.int .i64 n, .slice Ap np cp, .slice Aq nq cq] w fun e w' => e = .returned (.tuple #[.int .i64 (wsmR n p q), .bool (wov n p q)]) ∧ Below w.heap.size w w' := by
  have HPL := hp.len
  have HQL := hq.len
  have HC := Lib.hid (readWoven_any Ap Aq np cp nq cq H n p q w hp hq hH hpn hqn hpc hpm hqc hqm)
  by_cases h : Wov n p q
  · have hl := wov_len h
    have h1 := h.1.len
    have h2 := h.2.1.len
    have h36 := h.1.1
    rw [wov_yes h] at HC ⊢
    rw [wsmR, if_pos h]
    rw [HPL, HQL] at hl ⊢
    rw [HPL] at h1
    rw [HQL] at h2
    have HF := Lib.hid (fun (x : Int) (h0 : 0 ≤ x) (h6 : x ≤ 6) W => facI_any x W h0 h6)
    have f0 : facN 0 = 1 := rfl
    have f1 : facN 1 = 1 := rfl
    have f2 : facN 2 = 2 := rfl
    have f3 : facN 3 = 6 := rfl
    have f4 : facN 4 = 24 := rfl
    have f5 : facN 5 = 120 := rfl
    clear hp hq h HPL HQL
    obtain rfl | rfl | rfl | rfl : n = 3 ∨ n = 4 ∨ n = 5 ∨ n = 6 := by omega
    all_goals
      obtain rfl | rfl | rfl | rfl | rfl : np = 1 ∨ np = 2 ∨ np = 3 ∨ np = 4 ∨ np = 5 := by omega
    all_goals first
      | (exfalso; omega)
      | (obtain rfl | rfl | rfl | rfl | rfl : nq = 1 ∨ nq = 2 ∨ nq = 3 ∨ nq = 4 ∨ nq = 5 := by omega
         all_goals first
           | (exfalso; omega)
           | (go_enter Tryd.func40, Tryd.ntmps40
              go_wp2_with (first
                | (go_at_call 82; refine HC.out.mono ?_; rintro e w1 ⟨v1, rfl, hp1, hb1⟩; obtain ⟨A1, c1, ev, _⟩ := hp1.slice; subst ev; clear hp1)
                | (go_at_call 80; refine (HF.out _ (by omega) (by omega) _).mono ?_; rintro e w' ⟨rfl, rfl⟩))
              go_ret2
              exact ⟨rfl, hb1⟩))
  · rw [wov_no h] at HC ⊢
    rw [wsmR, if_neg h]
    clear hp hq h HPL HQL
    go_enter Tryd.func40, Tryd.ntmps40
    go_wp2_with (first
      | (go_at_call 82; refine HC.out.mono ?_; rintro e w1 ⟨v1, rfl, hp1, hb1⟩; obtain ⟨A1, c1, ev, _⟩ := hp1.slice; subst ev; clear hp1))
    go_ret2
    exact ⟨rfl, hb1⟩
end Go.Proofs.YtpfdlgofkcpglaaDoor

namespace Go.Proofs.YtpfdlgofkcpglaaDoor
open Go.ChangeShapes Go.WideShapes Go.ChangeAt Go.RowKit

theorem ownsRow_less {w : World} {B B' : Nat} {e : TypeId} {m k : Nat} {v : Value} {xs : List Value} (h : w.ownsRow B e m v k xs) (hB : B' ≤ B) : w.ownsRow B' e m v k xs := by
  refine ⟨h.1, ?_⟩
  rcases h.2 with e | ⟨g, cap, cur, e, hb, rest⟩
  · exact .inl e
  · exact .inr ⟨g, cap, cur, e, by omega, rest⟩

theorem own_rowV5 {w : World} {B : Nat} {v : Value} {l : List Int} (h : Own w B v l) : RowV w B v l := by
  refine ⟨h.gen, ?_⟩
  rcases h.2 with ⟨e, h0⟩ | ⟨g, cap, cur, e, _, _, h2, h3, _⟩
  · exact ⟨none, 0, by rw [e, h0], by omega, by omega⟩
  · exact ⟨_, cap, e, h2, by unfold maxLen at h3; omega⟩

theorem ownsRow_uniq {w : World} {B : Nat} {e : TypeId} {m n : Nat} {v : Value} {xs ys : List Value} (h : w.ownsRow B e m v n xs) (h' : w.ownsRow B e m v n ys) : xs = ys := by
  rcases h.2 with ⟨e1, h0⟩ | ⟨g, cap, cur, e1, _, hg, _, _, _, ht⟩
  · have a := h.1
    have b := h'.1
    subst h0
    have a' : xs = [] := List.eq_nil_of_length_eq_zero (by simpa using a)
    have b' : ys = [] := List.eq_nil_of_length_eq_zero (by simpa using b)
    rw [a', b']
  · rcases h'.2 with ⟨e2, h0⟩ | ⟨g', cap', cur', e2, _, hg', _, _, _, ht'⟩
    · rw [e1] at e2; cases e2
    · rw [e1] at e2
      injection e2 with e3 _ _
      injection e3 with e4
      injection e4 with e5
      subst e5
      rw [hg] at hg'
      injection hg' with e6
      injection e6 with e7
      subst e7
      rw [← ht, ← ht']

def GrowX (w : World) (B : Nat) (v : Value) (L : List (List Int)) (xs : List Value) : Prop :=
  w.ownsRow B 23 1 v L.length xs ∧ (∀ k, k < L.length → ∃ vk, xs[k]? = some vk ∧ RowV w B vk (rowK L k)) ∧
  ∀ i j, i < j → j < L.length → ∀ vi vj k, xs[i]? = some vi → xs[j]? = some vj → vi.ownBlock = some k → vj.ownBlock ≠ some k
section
variable {w w' w1 w5 : World} {B : Nat} {v v' vk : Value} {L : List (List Int)} {l : List Int} {xs : List Value}
theorem GrowX.keep (h : GrowX w B v L xs) (hk : ∀ (k : Nat) (cs : Array Value) (t : TypeId) (f : Nat × Nat), w.heap[k]? = some (.cells cs t f) → w'.heap[k]? = w.heap[k]?) : GrowX w' B v L xs := by
  obtain ⟨h1, h2, h3⟩ := h
  refine ⟨⟨h1.1, ?_⟩, fun k hkl => ?_, h3⟩
  · rcases h1.2 with e | ⟨g, cap, cur, e, hb, hg, rest⟩
    · exact .inl e
    · exact .inr ⟨g, cap, cur, e, hb, (hk g _ _ _ hg).trans hg, rest⟩
  · obtain ⟨u, h4, h5⟩ := h2 k hkl
    refine ⟨u, h4, h5.same fun i hi => ?_⟩
    obtain ⟨cur, hc⟩ := h5.1.kind hi
    exact hk i _ _ _ hc
theorem GrowX.below {D : Nat} (h : GrowX w B v L xs) (hb : Below D w w') (hD : w.heap.size ≤ D) : GrowX w' B v L xs :=
  h.keep fun k _ _ _ hk => hb.block k (by have := (Array.getElem?_eq_some_iff.1 hk).1; omega)
/-- A row that lies in blocks behind w's, a cell for its value, the value appended. -/
theorem GrowX.snoc (h : GrowX w B v L xs) (hb : Below w.heap.size w w1) (hBw : B ≤ w.heap.size) (hr : RowV w1 w.heap.size vk l) (o : Obj)
    (ho : w5.ownsRow B 23 1 v' (L.length + 1) (xs ++ [vk])) (hg : (w1.alloc o).grownBy w5 v.ownBlock) : GrowX w5 B v' (L ++ [l]) (xs ++ [vk]) := by
  obtain ⟨h1, h2, h3⟩ := h.below hb (Nat.le_refl _)
  have hxl : xs.length = L.length := by have := h1.1; omega
  have hlt : ∀ i vi k, i < L.length → xs[i]? = some vi → vi.ownBlock = some k → k < w.heap.size := fun i vi k hi hx hk => by
    obtain ⟨u, h4, h5⟩ := h.2.1 i hi
    rw [hx] at h4
    injection h4 with h4
    subst h4
    exact (h5.1.lt k hk).2
  have hge : ∀ k, vk.ownBlock = some k → w.heap.size ≤ k := fun k hk => (hr.1.lt k hk).1
  obtain ⟨ys, g1, g2⟩ : GrowS w5 B v' (L ++ [l]) := grow_row rfl h1 h2 (hr.less hBw) o ho hg
  have hys : ys = xs ++ [vk] := by
    rw [List.length_append] at g1
    exact ownsRow_uniq g1 ho
  subst hys
  refine ⟨by rw [List.length_append]; exact ho, g2, fun i j hij hj vi vj k hi hj' hk => ?_⟩
  rw [List.length_append, List.length_singleton] at hj
  rw [List.getElem?_append_left (by omega)] at hi
  rcases Nat.lt_or_ge j L.length with hjl | hjl
  · rw [List.getElem?_append_left (by omega)] at hj'
    exact h3 i j hij hjl vi vj k hi hj' hk
  · obtain rfl : j = L.length := by omega
    rw [List.getElem?_append_right (by omega)] at hj'
    simp [hxl] at hj'
    subst hj'
    intro e
    have a1 := hge k e
    have a2 := hlt i vi k hij hi hk
    omega

/-- The first row, appended to a slice that has no room. -/
theorem GrowX.one (hBw : B ≤ w1.heap.size) (hr : RowV w1 B vk l) (o : Obj) (ho : w5.ownsRow (w1.alloc o).heap.size 23 1 v' 1 [vk]) (hg : (w1.alloc o).grownBy w5 none) : GrowX w5 B v' [l] [vk] := by
  refine ⟨ownsRow_less ho (by simp; omega), fun k hk => ?_, fun i j hij hj => by simp at hj; omega⟩
  obtain rfl : k = 0 := by simpa using hk
  refine ⟨vk, rfl, ?_⟩
  have : rowK [l] 0 = l := rfl
  rw [this]
  exact hr.same fun k hk => (hg.block k (by have := (hr.1.lt k hk).2; simp; omega) (by simp)).trans (Below.heap_alloc _ _ _ (hr.1.lt k hk).2)
theorem GrowX.owned (h : GrowX w B v L xs) : OwnS w B w.heap.size v L := by
  obtain ⟨h1, h2, h3⟩ := h
  rcases h1.2 with ⟨e, h0⟩ | ⟨g, cap, cur, e, hB, hg, hc, hm, hs, ht⟩
  · exact .inl ⟨e, List.eq_nil_of_length_eq_zero h0⟩
  · refine .inr ⟨g, cap, cur, fun j => xs.getD j undef, e, hB, (Array.getElem?_eq_some_iff.1 hg).1, hg, fun j hj => ?_, fun i j hi hj hij k hk => ?_⟩
    · obtain ⟨vk, h4, h5⟩ := h2 j hj
      have e1 : xs.getD j undef = vk := by simp [List.getD, h4]
      show cur[j]? = some (xs.getD j undef) ∧ Own2 w B w.heap.size (xs.getD j undef) (rowK L j) ∧ (xs.getD j undef).ownBlock ≠ some g ∧ ∃ A c, xs.getD j undef = .slice A (rowK L j).length c ∧ (rowK L j).length ≤ c ∧ c ≤ 9223372036854775807
      rw [e1]
      refine ⟨?_, h5.1.two, fun e2 => ?_, h5.2⟩
      · rw [← ht, List.getElem?_take, if_pos (by omega)] at h4
        simpa using h4
      · exact h5.1.apart h1 g e2 (by rw [e]; rfl)
    · obtain ⟨vi, hi1, _⟩ := h2 i hi
      obtain ⟨vj, hj1, _⟩ := h2 j hj
      have e1 : xs.getD i undef = vi := by simp [List.getD, hi1]
      have e2 : xs.getD j undef = vj := by simp [List.getD, hj1]
      replace hk : vi.ownBlock = some k := by rw [← e1]; exact hk
      show (xs.getD j undef).ownBlock ≠ some k
      rw [e2]
      rcases Nat.lt_or_ge i j with hlt | hge
      · exact h3 i j hlt hj vi vj k hi1 hj1 hk
      · intro e3
        exact h3 j i (by omega) hi vj vi k hj1 hi1 e3 hk
end
end Go.Proofs.YtpfdlgofkcpglaaDoor

namespace Go.Proofs.YtpfdlgofkcpglaaDoor
open Go.ChangeShapes Go.WideShapes Go.ChangeAt Go.RowKit

def wctR (n : Int) (p q : List Int) : Int := if Wov n p q then ((wovenL n.toNat [p, q]).length : Nat) else 0
def waR (n : Int) (p q : List Int) : List (List Int) := if Wov n p q then wovenL n.toNat [p, q] else []
theorem sumTo_bd6 (L : List (List Int)) (m : Nat) (h : ∀ l ∈ L, l.length ≤ m) : ∀ k, k ≤ L.length → sumTo L k ≤ m * k
  | 0, _ => by simp [sumTo]
  | k + 1, hk => by
    have ih := sumTo_bd6 L m h k (by omega)
    have := h _ (rowK_mem (M := L) (k := k) (by omega))
    rw [sumTo, Nat.mul_succ]
    omega
theorem wov_nat {n : Int} {p q : List Int} (h : Wov n p q) : ∃ k : Nat, n = k ∧ 3 ≤ k ∧ k ≤ 6 := lst_nat (wov_lst h)
theorem waR_tot (n : Int) (p q : List Int) : tot (waR n p q) ≤ 1048576 := by
  unfold waR
  split
  · rename_i h
    obtain ⟨k, rfl, h3, h6⟩ := wov_nat h
    rw [Int.toNat_natCast]
    have hl := wovenL_len k [p, q] h3 h6
    have hs := sumTo_bd6 (wovenL k [p, q]) 6 (fun r hr => by rw [(wovenL_is k _ h3 h6 r hr).1]; exact h6) _ (Nat.le_refl _)
    unfold tot; omega
  · simp [tot, sumTo]

set_option maxRecDepth 10000 in
set_option maxHeartbeats 1000000 in
theorem wcS_any (Ap : Option Addr) (np cp : Nat) (Aq : Option Addr) (nq cq H : Nat) (n : Int) (p q : List Int) (w : World) (hp : Rd w H Ap np p) (hq : Rd w H Aq nq q) (hH : H ≤ w.heap.size) (hpn : np ≤ 1048576) (hqn : nq ≤ 1048576) (hpc : np ≤ cp) (hpm : cp ≤ 9223372036854775807) (hqc : nq ≤ cq) (hqm : cq ≤ 9223372036854775807) :
    Calls Tryd.prog 39 #[.int .i64 n, .slice Ap np cp, .slice Aq nq cq] w fun e w' => e = .returned (.tuple #[.int .i64 (wctR n p q), .bool (wov n p q)]) ∧ Below w.heap.size w w' := by
  have HC := Lib.hid (two6_any Ap Aq np cp nq cq H n p q w hp hq hpn hqn)
  by_cases h : Wov n p q
  · obtain ⟨k, rfl, h3, h6⟩ := wov_nat h
    rw [wov_yes h] at HC ⊢
    rw [wctR, if_pos h, Int.toNat_natCast]
    have HL := Lib.hid (fun d => l6wRings_any _ 2 2 _ k [p, q] _ (rds_pair (w.drewN d) H Ap Aq np nq cp cq p q (hp.drewN d) (hq.drewN d) hH hpc hpm hqc hqm) (by simp) h3 h6 (by omega) (wov_lst h).2.2)
    clear hp hq h
    generalize wovenL k [p, q] = M at *
    go_enter Tryd.func39, Tryd.ntmps39
    go_wp2_with fail
    refine HC.out.mono ?_
    rintro e w1 ⟨rfl, d, rfl⟩
    go_wp2_with fail
    refine (HL.out d).mono ?_
    rintro e w2 ⟨v, rfl, hg2, hb2⟩
    obtain ⟨A2, c2, rfl, _⟩ := hg2.slice
    have HB2 := Lib.hid (((below_drewN (Below.refl w.heap.size w) d).alloc (by simp) (.cells #[.slice Ap np cp, .slice Aq nq cq] 23)).trans (hb2.mono (by simp)))
    clear hg2 hb2
    go_wp2
    go_ret2
    exact ⟨rfl, HB2.out⟩
  · rw [wov_no h] at HC ⊢
    rw [wctR, if_neg h]
    clear hp hq h
    go_enter Tryd.func39, Tryd.ntmps39
    go_wp2_with (first
      | (go_at_call 83; refine HC.out.mono ?_; rintro e w1 ⟨rfl, k, rfl⟩))
    go_ret2
    exact ⟨rfl, below_drewN (Below.refl _ _) _⟩

set_option maxRecDepth 10000 in
set_option maxHeartbeats 1000000 in
theorem wcI_any (Ap : Option Addr) (np cp : Nat) (Aq : Option Addr) (nq cq H : Nat) (n : Int) (p q : List Int) (w : World) (hp : Rd w H Ap np p) (hq : Rd w H Aq nq q) (hH : H ≤ w.heap.size) (hpn : np ≤ 1048576) (hqn : nq ≤ 1048576) (hpc : np ≤ cp) (hpm : cp ≤ 9223372036854775807) (hqc : nq ≤ cq) (hqm : cq ≤ 9223372036854775807) (hT : Tab w) :
    Calls Tryd.prog 38 #[.int .i64 n, .slice Ap np cp, .slice Aq nq cq] w fun e w' => e = .returned (.tuple #[.int .i64 (wctR n p q), .bool (wov n p q)]) ∧ Below w.heap.size w w' := by
  have HC := Lib.hid (readWoven_any Ap Aq np cp nq cq H n p q w hp hq hH hpn hqn hpc hpm hqc hqm)
  have HT := Lib.hid hT
  by_cases h : Wov n p q
  · obtain ⟨k, rfl, h3, h6⟩ := wov_nat h
    rw [wov_yes h, wovL_yes h] at HC
    rw [wov_yes h, wctR, if_pos h, Int.toNat_natCast]
    have HW := Lib.hid (wov_lst h).2.2
    clear hp hq h hT
    go_enter Tryd.func38, Tryd.ntmps38
    go_wp2_with fail
    refine HC.out.mono ?_
    rintro e w1 ⟨v1, rfl, hr1, hb1⟩
    obtain ⟨A1, c1, rfl, _⟩ := hr1.slice
    have HG := Lib.hid (woven_any k A1 2 c1 w1.heap.size [p, q] w1 hr1.rd.2 (Nat.le_refl _) h3 h6 (by omega) HW.out (HT.out.on hb1))
    clear hr1 HC
    go_wp2_with fail
    refine HG.out.mono ?_
    rintro e w2 ⟨v2, rfl, hr2, hb2⟩
    obtain ⟨A2, c2, rfl⟩ := hr2.slice
    have hlen : Hid ((padM (wovenL k [p, q])).length = (wovenL k [p, q]).length) := by simp [Hid, padM]
    rw [hlen.out]
    clear hr2
    go_wp2
    go_ret2
    exact ⟨rfl, hb1.trans (hb2.mono hb1.size)⟩
  · rw [wov_no h] at HC ⊢
    rw [wctR, if_neg h]
    clear hp hq h hT
    go_enter Tryd.func38, Tryd.ntmps38
    go_wp2_with (first
      | (go_at_call 82; refine HC.out.mono ?_; rintro e w1 ⟨v1, rfl, hp1, hb1⟩; obtain ⟨A1, c1, ev, _⟩ := hp1.slice; subst ev; clear hp1))
    go_ret2
    exact ⟨rfl, hb1⟩

set_option maxRecDepth 10000 in
set_option maxHeartbeats 1000000 in
theorem waS_any (Ap : Option Addr) (np cp : Nat) (Aq : Option Addr) (nq cq H : Nat) (n : Int) (p q : List Int) (w : World) (hp : Rd w H Ap np p) (hq : Rd w H Aq nq q) (hH : H ≤ w.heap.size) (hpn : np ≤ 1048576) (hqn : nq ≤ 1048576) (hpc : np ≤ cp) (hpm : cp ≤ 9223372036854775807) (hqc : nq ≤ cq) (hqm : cq ≤ 9223372036854775807) :
    Calls Tryd.prog 43 #[.int .i64 n, .slice Ap np cp, .slice Aq nq cq] w fun e w' => ∃ v, e = .returned (.tuple #[v, .bool (wov n p q)]) ∧ (∃ A c, v = .slice A (waR n p q).length c ∧ RdS w' w'.heap.size A (waR n p q).length (waR n p q)) ∧ Below w.heap.size w w' := by
  have HC := Lib.hid (two6_any Ap Aq np cp nq cq H n p q w hp hq hpn hqn)
  by_cases h : Wov n p q
  · obtain ⟨k, rfl, h3, h6⟩ := wov_nat h
    rw [wov_yes h] at HC ⊢
    rw [waR, if_pos h, Int.toNat_natCast]
    have HL := Lib.hid (fun d => l6wRings_any _ 2 2 _ k [p, q] _ (rds_pair (w.drewN d) H Ap Aq np nq cp cq p q (hp.drewN d) (hq.drewN d) hH hpc hpm hqc hqm) (by simp) h3 h6 (by omega) (wov_lst h).2.2)
    clear hp hq h
    generalize wovenL k [p, q] = M at *
    go_enter Tryd.func43, Tryd.ntmps43
    go_wp2_with fail
    refine HC.out.mono ?_
    rintro e w1 ⟨rfl, d, rfl⟩
    go_wp2_with fail
    refine (HL.out d).mono ?_
    rintro e w2 ⟨v, rfl, hg2, hb2⟩
    obtain ⟨A2, c2, rfl, _⟩ := hg2.slice
    have HB2 := Lib.hid (((below_drewN (Below.refl w.heap.size w) d).alloc (by simp) (.cells #[.slice Ap np cp, .slice Aq nq cq] 23)).trans (hb2.mono (by simp)))
    have HRD := Lib.hid hg2.rd.2
    clear hg2 hb2
    go_wp2
    go_ret2
    exact ⟨_, rfl, ⟨A2, c2, rfl, HRD.out⟩, HB2.out⟩
  · rw [wov_no h] at HC ⊢
    rw [waR, if_neg h]
    clear hp hq h
    go_enter Tryd.func43, Tryd.ntmps43
    go_wp2_with (first
      | (go_at_call 83; refine HC.out.mono ?_; rintro e w1 ⟨rfl, k, rfl⟩))
    go_ret2
    exact ⟨_, rfl, ⟨_, _, rfl, RdS.nil⟩, (below_drewN (Below.refl _ _) _).alloc (by simp) _⟩

theorem GrowX.empty6 {B : Nat} (w : World) (hB : B ≤ w.heap.size) : GrowX (w.alloc (.cells #[] 23)) B (.slice (some ⟨w.heap.size, 0, none⟩) 0 0) [] [] := by
  refine ⟨⟨by simp, .inr ⟨w.heap.size, 0, #[], rfl, hB, heap_alloc_new w _, Nat.le_refl _, by decide, by simp, by simp⟩⟩, fun k hk => by simp at hk, ?_⟩
  intros
  simp_all
/-- A row of rings lies in no block of slices. -/
theorem rings_apart {w : World} {B D n : Nat} {v u : Value} {M : List (List Int)} {xs : List Value} (h : RowN w B 71 7 v M) (ho : w.ownsRow D 23 1 u n xs) : ∀ k, v.ownBlock = some k → u.ownBlock ≠ some k := by
  intro k hk e
  rcases h.2.2 with ⟨rfl, _⟩ | ⟨g, cap, cur, rfl, _, hg, _⟩
  · simp [Value.ownBlock] at hk
  · simp [Value.ownBlock] at hk
    subst hk
    rcases ho.2 with ⟨rfl, _⟩ | ⟨g', cap', cur', rfl, _, hg', _⟩
    · simp [Value.ownBlock] at e
    · simp [Value.ownBlock] at e
      subst e
      rw [hg] at hg'
      injection hg' with e1
      injection e1 with _ e2
      exact absurd e2 (by decide)

set_option maxRecDepth 10000 in
set_option maxHeartbeats 2000000 in
theorem waI_any (Ap : Option Addr) (np cp : Nat) (Aq : Option Addr) (nq cq H : Nat) (n : Int) (p q : List Int) (w : World) (hp : Rd w H Ap np p) (hq : Rd w H Aq nq q) (hH : H ≤ w.heap.size) (hpn : np ≤ 1048576) (hqn : nq ≤ 1048576) (hpc : np ≤ cp) (hpm : cp ≤ 9223372036854775807) (hqc : nq ≤ cq) (hqm : cq ≤ 9223372036854775807) (hT : Tab w) :
    Calls Tryd.prog 42 #[.int .i64 n, .slice Ap np cp, .slice Aq nq cq] w fun e w' => ∃ v, e = .returned (.tuple #[v, .bool (wov n p q)]) ∧ OwnS w' w.heap.size w'.heap.size v (waR n p q) ∧ Below w.heap.size w w' := by
  obtain ⟨i0, hi, hz0, hz1, hz2⟩ := info_parts row_info
  have HC := Lib.hid (readWoven_any Ap Aq np cp nq cq H n p q w hp hq hH hpn hqn hpc hpm hqc hqm)
  have HT := Lib.hid hT
  by_cases h : Wov n p q
  · obtain ⟨k0, rfl, h3, h6⟩ := wov_nat h
    rw [wov_yes h, wovL_yes h] at HC
    rw [wov_yes h, waR, if_pos h, Int.toNat_natCast]
    have HW := Lib.hid (wov_lst h).2.2
    have HIS := Lib.hid (wovenL_is k0 [p, q] h3 h6)
    have HML := Lib.hid (wovenL_len k0 [p, q] h3 h6)
    clear hp hq h hT
    go_enter Tryd.func42, Tryd.ntmps42
    go_wp2_with fail
    refine HC.out.mono ?_
    rintro e w1 ⟨v1, rfl, hr1, hb1⟩
    obtain ⟨A1, c1, rfl, _⟩ := hr1.slice
    obtain ⟨D, hD⟩ : ∃ D, D = w1.heap.size := ⟨_, rfl⟩
    have HX2 : Hid (GrowX (w1.alloc (.cells #[] 23)) D (.slice (some ⟨D, 0, none⟩) 0 0) [] []) := by rw [hD]; exact GrowX.empty6 w1 (Nat.le_refl _)
    have hs2 : (w1.alloc (.cells #[] 23)).heap.size = D + 1 := by simp [hD]
    have hb2 : Below w1.heap.size w1 (w1.alloc (.cells #[] 23)) := (Below.refl _ _).alloc (Nat.le_refl _) _
    have HB2 := Lib.hid (hb1.trans (hb2.mono hb1.size))
    have hr2 : RdS (w1.alloc (.cells #[] 23)) D A1 2 [p, q] := by rw [hD]; exact hr1.rd.2.below hb2
    have HG := Lib.hid (woven_any k0 A1 2 c1 D [p, q] _ hr2 (by rw [hs2]; omega) h3 h6 (by omega) HW.out ((HT.out.on hb1).on hb2))
    have hDw : w.heap.size ≤ D := by rw [hD]; exact hb1.size
    clear hr1 hr2 HC hb1 hb2 HW
    go_wp2_with fail
    rw [← hD]
    clear hD
    generalize w1.alloc (.cells #[] 23) = W2 at *
    refine HG.out.mono ?_
    rintro e w3 ⟨v3, rfl, hr3, hb3⟩
    have HX3 := Lib.hid (HX2.out.below hb3 (Nat.le_refl _))
    have HR3 := Lib.hid hr3
    have HB3 := Lib.hid (HB2.out.trans (hb3.mono HB2.out.size))
    have hs3 := hb3.size
    have hpl : (padM (wovenL k0 [p, q])).length = (wovenL k0 [p, q]).length := by simp [padM]
    obtain ⟨A3, c3, e3⟩ := hr3.slice
    rw [hpl] at e3
    clear HX2 HB2 HG hr3 hb3
    obtain ⟨M, hM⟩ : ∃ M, M = wovenL k0 [p, q] := ⟨_, rfl⟩
    rw [← hM] at HML HIS HR3 hpl e3
    have HMM := Lib.hid hM
    clear hM
    obtain ⟨N, hN⟩ : ∃ N, N = M.length := ⟨_, rfl⟩
    rw [← hN] at hpl e3 HML
    have HN := Lib.hid hN
    have HPL := Lib.hid hpl
    have hN7 : N ≤ 720 := HML.out
    subst e3
    clear hN hpl HML
    go_wp2
    go_loopw [10, 27] (fun v i wr => ∃ k : Nat, k ≤ N ∧ i = .int .i64 k ∧ (∃ xs, Hid (GrowX wr D v (M.take k) xs)) ∧ Hid (RowN wr W2.heap.size 71 7 (.slice A3 N c3) (padM M)) ∧ Hid (Below w.heap.size w wr) ∧ D ≤ wr.heap.size) (fun _ i _ => N - (intOf i).toNat)
    case atStart => exact ⟨0, Nat.zero_le _, rfl, ⟨[], HX3⟩, HR3, HB3, by omega⟩
    case round =>
      obtain ⟨k, hk, rfl, ⟨xs, hx⟩, hrow, hbl, hDr⟩ := hrel
      clear HX3 HR3 HB3
      by_cases hlt : k < N
      · have hkM : k < M.length := by rw [← HN.out]; exact hlt
        have hkP : k < (padM M).length := by rw [HPL.out]; exact hlt
        obtain ⟨g, c', e0, _, _, _, _, h77, _⟩ := hrow.out.elem hkP
        rw [HPL.out] at e0
        injection e0 with e1 _ e4
        subst e1; subst e4
        have hI := HIS.out _ (rowK_mem hkM)
        have HE : Hid (rowK (padM M) k = padR (rowK M k)) := by simp [Hid, padM, rowK, List.getD, hkM]
        have HST : Hid (M.take (k + 1) = M.take k ++ [rowK M k]) := by
          rw [Hid, List.take_succ_eq_append_getElem hkM]; simp [rowK, List.getD, hkM]
        have hkl : (M.take k).length = k := by rw [List.length_take]; omega
        have HLI := Lib.hid (fun W => list_any (rowK M k) W (by rw [hI.1]; omega) (by rw [hI.1]; omega) hI.2.1)
        have hll : (rowK M k).length = k0 := hI.1
        have H77 := Lib.hid (padR_length (rowK M k) (by rw [hI.1]; omega))
        have HNR := Lib.hid (new_ring wr)
        have HKP := Lib.hid hkP
        clear hI h77
        generalize rowK M k = R at *
        unfold agp at HLI
        generalize padR R = Q at *
        go_wp2_with (first
          | (refine load_elem rfl _ 71 rfl _ rfl Tryd.underlying71 g N c3 W2.heap.size k 7 (padM M) hrow HKP.out ring_size rfl ?_; rw [HE.out])
          | (refine store_ring rfl _ _ rfl wr.heap.size zero7 Q rfl H77.out rfl rfl HNR ?_; intro w4 HA4 hg4 hs4)
          | (refine load_ring rfl _ rfl wr.heap.size Q H77.out rfl HA4 ?_))
        have hb4 : Below wr.heap.size wr w4 := ((Below.refl _ _).alloc (Nat.le_refl _) _).grown hg4 (by simp) (by simp)
        have HB4 := Lib.hid hb4
        clear hb4 hg4 hs4 HA4 HNR
        refine (HLI.out w4).mono ?_
        rintro e w5 ⟨vr, rfl, ho5, hb5⟩
        obtain ⟨Ar, cr, rfl⟩ := ho5.slice
        have HRV := Lib.hid ((own_rowV5 ho5).less HB4.out.size)
        have HB5 := Lib.hid (HB4.out.trans (hb5.mono HB4.out.size))
        have HBD := Lib.hid (hbl.out.trans (HB5.out.mono (by omega)))
        have HX5 := Lib.hid (hx.out.below HB5.out (Nat.le_refl _))
        have HRO5 := Lib.hid (hrow.out.below HB5.out (fun i hi => (hrow.out.lt i hi).2))
        have HX := Lib.hid hx.out
        have hs5 := HB5.out.size
        clear ho5 hb5 HB4 hx hbl hrow
        have HX1 := Lib.hid HX5.out.1
        rw [hll] at HRV ⊢
        go_wp2_with (at_builtin; refine wpList_append_own _ rfl _ _ 29 rfl D 23 i0 (.slice none 0 0) 1 24 Tryd.underlying29 hi hz0 hz1 hz2 rfl (by decide) _ _ _ rfl (HX1.out.alloc _) ⟨w5.heap.size, 0, none⟩ 1 1 [.slice Ar k0 cr] rfl rfl (one_cell w5 _ _) (by simp [Value.oneCell']) (by unfold maxLen; omega) (by omega) (by simp; omega) ?_)
        intro v' w6 hown6 hgr6 _
        have HG6 := Lib.hid (HX.out.snoc HB5.out hDr HRV.out _ (by rw [hkl]; exact hown6) hgr6)
        rw [← HST.out] at HG6
        have HB6 := Lib.hid ((HBD.out.alloc (by omega) _).grown hgr6 (by simp; omega) (fun i hi => Nat.le_trans hDw (HX1.out.lt i hi).1))
        have hap := rings_apart (HRO5.out.alloc (.cells #[.slice Ar k0 cr] 23)) (HX1.out.alloc (.cells #[.slice Ar k0 cr] 23))
        have HRO6 := Lib.hid ((HRO5.out.alloc (.cells #[.slice Ar k0 cr] 23)).grown hgr6 hap)
        have hD6 : D ≤ w6.heap.size := by have := hgr6.size; simp at this; omega
        clear hown6 hgr6 hap
        go_wp2
        go_roundw
        case rel => exact ⟨k + 1, by omega, by go_num, ⟨_, HG6⟩, HRO6, HB6, hD6⟩
        case measure => simp [intOf]; omega
      · obtain rfl : k = N := by omega
        rw [List.take_of_length_le (by rw [← HN.out]; exact Nat.le_refl _)] at hx
        have HOW := Lib.hid (hx.out.owned.more (B' := w.heap.size) hDw (Nat.le_refl _))
        clear hx hrow
        obtain ⟨A9, c9, e9⟩ := HOW.out.slice
        subst e9
        go_wp2
        go_ret2
        exact ⟨_, rfl, by rw [← HMM.out]; exact HOW.out, hbl.out⟩
  · rw [wov_no h] at HC ⊢
    rw [waR, if_neg h]
    clear hp hq h hT
    go_enter Tryd.func42, Tryd.ntmps42
    go_wp2_with (first
      | (go_at_call 82; refine HC.out.mono ?_; rintro e w1 ⟨v1, rfl, hp1, hb1⟩; obtain ⟨A1, c1, ev, _⟩ := hp1.slice; subst ev; clear hp1))
    go_ret2
    exact ⟨_, rfl, .inl ⟨rfl, rfl⟩, hb1⟩
end Go.Proofs.YtpfdlgofkcpglaaDoor

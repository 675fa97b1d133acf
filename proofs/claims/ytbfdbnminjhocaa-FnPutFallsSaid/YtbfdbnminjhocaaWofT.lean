/- WindOf, WindPath, WindFalls of the model and of the program. -/
import Derived.Test.YtbfdbnminjhocaaWdS
import Derived.Test.YtbfdbnminjhocaaWdI
namespace Go.Proofs.Ytbfdbnminjhocaa
open Go.ChangeShapes Go.WideShapes Go.ChangeAt Go.RowKit

def woR (l0 l1 : List Int) : Int := if TwoR l0 l1 then windL l0 l1 else 0
def wpR (l0 l1 : List Int) : List Int := if TwoR l0 l1 then pathL l0 l1 else []
def wfR (l : List Int) : Int := if Ring l then fallsL l else 0
theorem wpR_length (l0 l1 : List Int) : (wpR l0 l1).length ≤ 7 := by
  unfold wpR
  split
  · rename_i h; rw [pathL_length]; exact h.1.1.2.1
  · simp
theorem ring_list {l : List Int} (h : Ring l) : ringP l = padR l := by rw [ringP, if_pos h]
theorem own_nil (w : World) (B : Nat) : Own w B (.slice none 0 0) [] := ⟨rfl, .inl ⟨rfl, rfl⟩⟩

/-- A new variable of a winding, with two rings in it. -/
theorem new_wind (W : World) (P Q : List Int) (hP : P.length = 7) (hQ : Q.length = 7) :
    ∃ V, (stW ⟨W.heap.size, 0, none⟩ (agw P Q)).run Try.prog (W.alloc (.cells #[.int .i64 0, .int .i64 0, .int .i64 0, .int .i64 0, .int .i64 0, .int .i64 0, .int .i64 0, .int .i64 0, .int .i64 0, .int .i64 0, .int .i64 0, .int .i64 0, .int .i64 0, .int .i64 0] 69)) = .ok () V ∧
      Bw V W.heap.size P Q ∧ Below W.heap.size W V ∧ V.heap.size = W.heap.size + 1 := by
  have hz : Blk 69 (W.alloc (.cells #[.int .i64 0, .int .i64 0, .int .i64 0, .int .i64 0, .int .i64 0, .int .i64 0, .int .i64 0, .int .i64 0, .int .i64 0, .int .i64 0, .int .i64 0, .int .i64 0, .int .i64 0, .int .i64 0] 69)) W.heap.size [0, 0, 0, 0, 0, 0, 0, 0, 0, 0, 0, 0, 0, 0] := heap_alloc_new W _
  obtain ⟨V, r, hb, hg, hs⟩ := stW_run (P := P ++ Q) hz rfl (by simp [hP, hQ])
  exact ⟨V, r, hb, ((Below.refl _ W).alloc (Nat.le_refl _) _).grown hg (by simp) (by simp), by rw [hs]; simp⟩

section
variable (A0 : Option Addr) (n0 c0 : Nat) (A1 : Option Addr) (n1 c1 H : Nat) (l0 l1 : List Int) (w : World) (h0 : Rd w H A0 n0 l0) (h1 : Rd w H A1 n1 l1) (hH : H ≤ w.heap.size) (hn0 : n0 ≤ 1048576) (hn1 : n1 ≤ 1048576)
include h0 h1 hH hn0 hn1

theorem wpS_any : Calls Try.prog 33 #[.slice A0 n0 c0, .slice A1 n1 c1] w fun e w' => ∃ v, e = .returned (.tuple #[v, .bool (twoB l0 l1)]) ∧ Own w' w.heap.size v (wpR l0 l1) ∧ Below w.heap.size w w' := by
  have HT := Lib.hid (twoS_any A0 n0 c0 A1 n1 c1 H l0 l1 w h0 h1 hn0 hn1)
  by_cases h : TwoR l0 l1
  · have L0 := h0.len
    have L1 := h1.len
    have HW := Lib.hid (pathS_any A0 n0 c0 A1 n1 c1 H l0 l1 w h0 h1 hH (by have := h.1.1.1; omega) (by have := h.1.1.2.1; omega) (by have := h.2.1.1.1; omega) (by have := h.2.1.1.2.1; omega) h.w2.mem)
    rw [wpR, if_pos h, twoYes h]
    rw [twoYes h] at HT
    clear h0 h1 h L0 L1
    generalize pathL l0 l1 = C at *
    go_enter Try.func33, Try.ntmps33
    go_wp2_with fail
    refine HT.out.mono ?_
    rintro e w' ⟨rfl, rfl⟩
    go_wp2_with fail
    refine HW.out.mono ?_
    rintro e w' ⟨v, rfl, ho, hb⟩
    have HO := Lib.hid ho
    have HB := Lib.hid hb
    clear hb ho HW
    go_wp2
    go_ret2
    exact ⟨_, rfl, HO.out, HB.out⟩
  · rw [wpR, if_neg h, twoNo h]
    rw [twoNo h] at HT
    clear h0 h1 h
    go_enter Try.func33, Try.ntmps33
    go_wp2_with fail
    refine HT.out.mono ?_
    rintro e w' ⟨rfl, rfl⟩
    go_wp2_with fail
    refine (none_any w).mono ?_
    rintro e w' ⟨v, rfl, ho, hb⟩
    have HO := Lib.hid ho
    have HB := Lib.hid hb
    clear hb ho
    go_wp2
    go_ret2
    exact ⟨_, rfl, HO.out, HB.out⟩

variable (hnc0 : n0 ≤ c0) (hcm0 : c0 ≤ 9223372036854775807) (hnc1 : n1 ≤ c1) (hcm1 : c1 ≤ 9223372036854775807)
include hnc0 hcm0 hnc1 hcm1

attribute [local go_sem ↓] ldW_fold stW_fold in
set_option maxRecDepth 10000 in
set_option maxHeartbeats 1000000 in
theorem woI_any : Calls Try.prog 21 #[.slice A0 n0 c0, .slice A1 n1 c1] w fun e w' => e = .returned (.tuple #[.int .i64 (woR l0 l1), .bool (twoB l0 l1)]) ∧ Below w.heap.size w w' := by
  have HR := Lib.hid (rdw_any A0 n0 c0 A1 n1 c1 H l0 l1 w h0 h1 hH hn0 hn1 hnc0 hcm0 hnc1 hcm1)
  have h70 := ringP_length l0
  have h71 := ringP_length l1
  clear h0 h1
  by_cases h : TwoR l0 l1
  · have HW := Lib.hid (fun W => turns_any l0 l1 W h.w2)
    rw [ring_list h.1] at HR h70
    rw [ring_list h.2.1] at HR h71
    rw [woR, if_pos h, twoYes h]
    rw [twoYes h] at HR
    clear h
    generalize windL l0 l1 = r at *
    generalize padR l0 = P at *
    generalize padR l1 = Q at *
    go_enter Try.func21, Try.ntmps21
    go_wp2_with fail
    refine HR.out.mono ?_
    rintro e W1 ⟨rfl, hb1⟩
    obtain ⟨W3, r3, hx3, hb3, hs3⟩ := new_wind W1 P Q h70 h71
    have l3 := ldW_run hx3 h70 h71
    have HB := Lib.hid (hb1.trans (hb3.mono hb1.size))
    clear hb1 hb3 hx3 hs3
    go_wp2_with fail
    refine (HW.out _).mono ?_
    rintro e w' ⟨rfl, hb⟩
    have HB' := Lib.hid (HB.out.trans (hb.mono HB.out.size))
    clear hb r3 l3
    go_wp2
    go_ret2
    exact ⟨rfl, HB'.out⟩
  · rw [woR, if_neg h, twoNo h]
    rw [twoNo h] at HR
    clear h
    generalize ringP l0 = P at *
    generalize ringP l1 = Q at *
    go_enter Try.func21, Try.ntmps21
    go_wp2_with fail
    refine HR.out.mono ?_
    rintro e W1 ⟨rfl, hb1⟩
    obtain ⟨W3, r3, hx3, hb3, hs3⟩ := new_wind W1 P Q h70 h71
    have HB := Lib.hid (hb1.trans (hb3.mono hb1.size))
    clear hb1 hb3 hx3 hs3
    go_wp2_with fail
    go_ret2
    exact ⟨rfl, HB.out⟩

attribute [local go_sem ↓] ldW_fold stW_fold in
set_option maxRecDepth 10000 in
set_option maxHeartbeats 1000000 in
theorem wpI_any : Calls Try.prog 32 #[.slice A0 n0 c0, .slice A1 n1 c1] w fun e w' => ∃ v, e = .returned (.tuple #[v, .bool (twoB l0 l1)]) ∧ Own w' w.heap.size v (wpR l0 l1) ∧ Below w.heap.size w w' := by
  have HR := Lib.hid (rdw_any A0 n0 c0 A1 n1 c1 H l0 l1 w h0 h1 hH hn0 hn1 hnc0 hcm0 hnc1 hcm1)
  have h70 := ringP_length l0
  have h71 := ringP_length l1
  clear h0 h1
  by_cases h : TwoR l0 l1
  · have HW := Lib.hid (fun W => path_any l0 l1 W h.w2)
    rw [ring_list h.1] at HR h70
    rw [ring_list h.2.1] at HR h71
    rw [wpR, if_pos h, twoYes h]
    rw [twoYes h] at HR
    clear h
    generalize pathL l0 l1 = C at *
    generalize padR l0 = P at *
    generalize padR l1 = Q at *
    go_enter Try.func32, Try.ntmps32
    go_wp2_with fail
    refine HR.out.mono ?_
    rintro e W1 ⟨rfl, hb1⟩
    obtain ⟨W3, r3, hx3, hb3, hs3⟩ := new_wind W1 P Q h70 h71
    have l3 := ldW_run hx3 h70 h71
    have HB := Lib.hid (hb1.trans (hb3.mono hb1.size))
    clear hb1 hb3 hx3 hs3
    go_wp2_with fail
    refine (HW.out _).mono ?_
    rintro e w' ⟨v, rfl, ho, hb⟩
    have HB' := Lib.hid (HB.out.trans (hb.mono HB.out.size))
    have HO := Lib.hid (own_less ho HB.out.size)
    clear hb r3 l3 ho
    go_wp2
    go_ret2
    exact ⟨_, rfl, HO.out, HB'.out⟩
  · rw [wpR, if_neg h, twoNo h]
    rw [twoNo h] at HR
    clear h
    generalize ringP l0 = P at *
    generalize ringP l1 = Q at *
    go_enter Try.func32, Try.ntmps32
    go_wp2_with fail
    refine HR.out.mono ?_
    rintro e W1 ⟨rfl, hb1⟩
    obtain ⟨W3, r3, hx3, hb3, hs3⟩ := new_wind W1 P Q h70 h71
    have HB := Lib.hid (hb1.trans (hb3.mono hb1.size))
    clear hb1 hb3 hx3 hs3
    go_wp2_with fail
    go_ret2
    exact ⟨.slice none 0 0, rfl, own_nil _ _, HB.out⟩
end

theorem wfS_any (A : Option Addr) (n c H : Nat) (l : List Int) (w : World) (h : Rd w H A n l) (_ : H ≤ w.heap.size) (hn : n ≤ 1048576) :
    Calls Try.prog 19 #[.slice A n c] w fun e w' => e = .returned (.tuple #[.int .i64 (wfR l), .bool (ringB l)]) ∧ Below w.heap.size w w' := by
  have HT := Lib.hid (ringS_any A n c H l w h hn)
  by_cases hr : Ring l
  · have L := h.len
    have HW := Lib.hid (fallsS_any A n c H l w h (by have := hr.1.1; omega) (by have := hr.1.2.1; omega))
    rw [wfR, if_pos hr, ring_yes hr]
    rw [ring_yes hr] at HT
    clear h hr L
    generalize fallsL l = r at *
    go_enter Try.func19, Try.ntmps19
    go_wp2_with fail
    refine HT.out.mono ?_
    rintro e w' ⟨rfl, rfl⟩
    go_wp2_with fail
    refine HW.out.mono ?_
    rintro e w' ⟨rfl, p, rfl⟩
    have HB := Lib.hid (below_drewN (Below.refl w.heap.size w) p)
    go_wp2
    go_ret2
    exact ⟨rfl, HB.out⟩
  · rw [wfR, if_neg hr, ring_no hr]
    rw [ring_no hr] at HT
    clear h hr
    go_enter Try.func19, Try.ntmps19
    go_wp2_with fail
    refine HT.out.mono ?_
    rintro e w' ⟨rfl, rfl⟩
    go_wp2
    go_ret2
    exact ⟨rfl, Below.refl _ _⟩

attribute [local go_sem ↓] ldR_fold stR_fold in
set_option maxRecDepth 10000 in
set_option maxHeartbeats 1000000 in
theorem wfI_any (A : Option Addr) (n c H : Nat) (l : List Int) (w : World) (h : Rd w H A n l) (hH : H ≤ w.heap.size) (hn : n ≤ 1048576) (hnc : n ≤ c) (hcm : c ≤ 9223372036854775807) :
    Calls Try.prog 18 #[.slice A n c] w fun e w' => e = .returned (.tuple #[.int .i64 (wfR l), .bool (ringB l)]) ∧ Below w.heap.size w w' := by
  have HR := Lib.hid (readR_any A n c H l w h hH hn hnc hcm)
  have h70 := ringP_length l
  clear h
  by_cases hr : Ring l
  · have HW := Lib.hid (fun W => falls_any l W hr.1)
    rw [ring_list hr] at HR h70
    rw [wfR, if_pos hr, ring_yes hr]
    rw [ring_yes hr] at HR
    unfold agp at HW
    clear hr
    generalize fallsL l = r at *
    generalize padR l = P at *
    go_enter Try.func18, Try.ntmps18
    go_wp2_with fail
    refine HR.out.mono ?_
    rintro e W1 ⟨rfl, hb1⟩
    obtain ⟨W3, r3, hx3, hg3, hs3⟩ := stR_run (Q := P) (new_ring W1) rfl h70
    have l3 := ldR_run hx3 h70
    have HB : Hid (Below w.heap.size w W3) := (hb1.alloc hb1.size _).grown hg3 (by have := hb1.size; simp; omega) (by have := hb1.size; simp; omega)
    clear hb1 hg3 hx3 hs3
    go_wp2_with fail
    refine (HW.out _).mono ?_
    rintro e w' ⟨rfl, hb⟩
    have HB' := Lib.hid (HB.out.trans (hb.mono HB.out.size))
    clear hb r3 l3
    go_wp2
    go_ret2
    exact ⟨rfl, HB'.out⟩
  · rw [wfR, if_neg hr, ring_no hr]
    rw [ring_no hr] at HR
    clear hr
    generalize ringP l = P at *
    go_enter Try.func18, Try.ntmps18
    go_wp2_with fail
    refine HR.out.mono ?_
    rintro e W1 ⟨rfl, hb1⟩
    obtain ⟨W3, r3, hx3, hg3, hs3⟩ := stR_run (Q := P) (new_ring W1) rfl h70
    have HB : Hid (Below w.heap.size w W3) := (hb1.alloc hb1.size _).grown hg3 (by have := hb1.size; simp; omega) (by have := hb1.size; simp; omega)
    clear hb1 hg3 hx3 hs3
    go_wp2_with fail
    go_ret2
    exact ⟨rfl, HB.out⟩
end Go.Proofs.Ytbfdbnminjhocaa

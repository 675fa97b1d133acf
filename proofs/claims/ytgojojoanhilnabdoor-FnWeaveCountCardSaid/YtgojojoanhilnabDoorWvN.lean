/- The part of a ring with the points of a set; whether a ring has a part: the program. -/
import Derived.Test.YtgojojoanhilnabDoorWvZ
namespace Go.Proofs.YtgojojoanhilnabDoor
open Go.ChangeShapes Go.WideShapes Go.ChangeAt Go.RowKit

theorem cutL_mem6 (l : List Int) (x : Int) (hl : 0 < l.length) : ∀ y ∈ cutL l x, y ∈ l := fun y hy => by
  obtain ⟨k, hk, rfl⟩ := List.getElem_of_mem hy
  have hk' : k < l.length := by simpa using hk
  have h := cutL_get l x k hk'
  have e : (cutL l x)[k] = l.getD ((l.idxOf x + k) % l.length) 0 := by rw [← h, List.getD, List.getElem?_eq_getElem hk]; rfl
  rw [e]
  exact getD_mem l _ (Nat.mod_lt _ hl)

set_option maxRecDepth 10000 in
set_option maxHeartbeats 1000000 in
theorem part_any (l : List Int) (s : Nat) (w : World) (ht : Tell l) (h0 : 0 < s) (hs : s < 2 ^ l.length) (hT : Tab w) :
    Calls Tryd.prog 61 #[agp l, .int .i64 (s : Int)] w fun e w' => ∃ v, e = .returned v ∧ RowV w' w.heap.size v (partL l s) ∧ Below w.heap.size w w' := by
  have h7 := ht.2.1
  have h3 := ht.1
  have hs7 := fits s l.length h7 hs
  have hlow := low_lt s l.length h7 hs (by omega)
  have hmem : ((lowN s : Nat) : Int) ∈ l := ht.has (by omega) (by omega)
  have hbd : ∀ x ∈ cutL l ((lowN s : Nat) : Int), 0 ≤ x ∧ x < 7 := fun x hx => by
    have := ht.2.2.1 x (cutL_mem6 l _ (by omega) x hx)
    omega
  have HTZ := Lib.hid (fun W (hW : Tab W) => tz_any s W h0 hs7 hW)
  have HCUT := Lib.hid (fun W => cut_any l ((lowN s : Nat) : Int) W (by omega) h7 ht.pos hmem)
  have HSZ := Lib.hid (fun W => size_any l W h7 ht.pos)
  have HPO := Lib.hid (fun (A : Option Addr) (c H : Nat) (W : World) (hR : Rd W H A l.length (cutL l ((lowN s : Nat) : Int))) (hH : H ≤ W.heap.size) => partOf_any A l.length c H s _ W hR hH (by omega) h7 hbd hs7)
  have HP : Hid (pickN s (cutL l ((lowN s : Nat) : Int)) = partL l s) := rfl
  rw [HP.out] at HPO
  have hcl : (cutL l ((lowN s : Nat) : Int)).length = l.length := cutL_length _ _
  have HCP : Hid (∀ k, k < l.length → (padR (cutL l ((lowN s : Nat) : Int))).getD k 0 = (cutL l ((lowN s : Nat) : Int)).getD k 0) := fun k hk => padR_get _ k (by rw [hcl]; exact hk)
  have HCL := Lib.hid hcl
  have HP7 := Lib.hid (padR_length l h7)
  have HC7 := Lib.hid (padR_length (cutL l ((lowN s : Nat) : Int)) (by rw [hcl]; exact h7))
  have HT := Lib.hid hT
  have hwu : IntKind.u64.wrap (s : Int) = (s : Int) := by rw [IntKind.wrap_u64]; omega
  clear hT hbd hlow hmem hcl HP h0 hs hs7
  generalize partL l s = R at *
  generalize lowN s = k at *
  generalize cutL l ((k : Nat) : Int) = C at *
  generalize hn : l.length = n at *
  clear hn
  obtain ⟨W0, hW⟩ : ∃ W, W = w.alloc (.cells (ints (padR l)).toArray 49) := ⟨_, rfl⟩
  have HA0 : Hid (Arr W0 w.heap.size (padR l)) := by rw [hW]; exact heap_alloc_new w _
  have HB0 : Hid (Below w.heap.size w W0 ∧ W0.heap.size = w.heap.size + 1) := by rw [hW]; exact ⟨(Below.refl _ _).alloc (Nat.le_refl _) _, by simp⟩
  unfold agp at HCUT HSZ ⊢
  generalize padR l = P at *
  generalize padR C = Q at *
  have HT0 := Lib.hid (HT.out.on HB0.out.1)
  go_enter Tryd.func61, Tryd.ntmps61
  go_wp2_with fail
  rw [← hW]
  clear hW
  refine (HTZ.out W0 HT0.out).mono ?_
  rintro e w' ⟨rfl, rfl⟩
  go_wp2_with (first
    | (refine load_ring rfl _ rfl w.heap.size P HP7.out rfl HA0 ?_))
  refine (HCUT.out W0).mono ?_
  rintro e w1 ⟨rfl, hb1⟩
  have hg0 : w.heap.size < W0.heap.size := by have := HB0.out.2; omega
  have HA1 := Lib.hid (HA0.out.below hb1 hg0)
  have HB1 := Lib.hid (HB0.out.1.trans (hb1.mono (by omega)))
  have hs1 := hb1.size
  have hNR := new_ring w1
  have HNR := Lib.hid hNR
  clear hb1 HA0 hNR
  have hg1 : w.heap.size < w1.heap.size := by omega
  have hsl := fun W => slice_ring W w1.heap.size n h7
  go_wp2_with (first
    | (refine store_ring rfl _ _ rfl w1.heap.size zero7 Q rfl HC7.out rfl rfl HNR ?_; intro w2 HQ2 hg2 hs2
       have HA2 := Lib.hid ((HA1.out.alloc (.cells #[.int .i64 0, .int .i64 0, .int .i64 0, .int .i64 0, .int .i64 0, .int .i64 0, .int .i64 0] 49)).grown hg2 (by omega))
       have HB2 := Lib.hid ((HB1.out.alloc (by omega) (.cells #[.int .i64 0, .int .i64 0, .int .i64 0, .int .i64 0, .int .i64 0, .int .i64 0, .int .i64 0] 49)).grown hg2 (by simp; omega) (by simp; omega))
       have hs2' : w2.heap.size = w1.heap.size + 1 := by rw [hs2]; simp
       clear HA1 HB1 hg2 hs2 HNR)
    | (refine load_ring rfl _ rfl w.heap.size P HP7.out rfl HA2 ?_)
    | (go_at_call 65; refine (HSZ.out _).mono ?_; rintro e w' ⟨rfl, rfl⟩))
  have hR : Rd (w2.alloc (.cells (ints P).toArray 49)) (w1.heap.size + 1) (some ⟨w1.heap.size, 0, none⟩) n C := by
    refine ⟨HCL.out, fun _ => ⟨_, _, rfl, by omega, fun j hj => ?_⟩⟩
    have := (HQ2.out.alloc (.cells (ints P).toArray 49)).cell (i := j) (by rw [HC7.out]; omega)
    rw [HCP.out j hj] at this
    rw [Nat.zero_add]
    exact this
  refine (HPO.out _ 7 _ _ hR (by simp; omega)).mono ?_
  rintro e w5 ⟨v5, rfl, hr5, hb5⟩
  have HR5 := Lib.hid (hr5.less (show w.heap.size ≤ _ by simp; omega))
  have HB5 := Lib.hid ((HB2.out.alloc (by omega) (.cells (ints P).toArray 49)).trans (hb5.mono (show w.heap.size ≤ _ by simp; omega)))
  clear hr5 hb5 hR hsl
  go_wp2
  go_ret
  exact ⟨v5, rfl, HR5.out, HB5.out⟩
end Go.Proofs.YtgojojoanhilnabDoor

/- ProofClashIs of the program. -/
import Derived.Test.YthefnanhikjddaaDoorPdPCl
import Derived.Test.YthefnanhikjddaaDoorPdC
import Derived.Test.YthefnanhikjddaaDoorCC
import Derived.Test.YthefnanhikjddaaDoorClW
namespace Go.Proofs.YthefnanhikjddaaDoor
open Go.ChangeShapes Go.WideShapes Go.ChangeAt Go.RowKit

open Classical in
/-- A three of which both ways follow. -/
noncomputable def ckL (L : List (List Int)) (l : List Int) : Bool := decide (l.length = 3) && decide (Cl L l) && decide (Cl L (turn3 l))
theorem ck_of {L K : List (List Int)} (h : ∀ t, t ∈ K ↔ Cl L t) (l : List Int) : ckC K l = ckL L l := by
  rw [Bool.eq_iff_iff]
  simp [ckC, ckL, h l, h (turn3 l)]
noncomputable def pcB (q : Int) (L : List (List Int)) (s : ByteArray) : Bool := if Tel q L then ((rdW clW.data.toList s.data.toList).filter (ckL L)).isSome else false

attribute [local go_sem ↓] stP_fold in
set_option maxRecDepth 10000 in
set_option maxHeartbeats 1000000 in
theorem pcI_any (A : Option Addr) (n c H : Nat) (q : Int) (L : List (List Int)) (s : ByteArray) (w : World) (h : RdS w H A n L) (hH : H ≤ w.heap.size) (_ : tot L ≤ 1048576) (hs : s.size ≤ 1048576) :
    Calls Tryd.prog 9 #[.int .i64 q, .slice A n c, .string s] w fun e w' => e = .returned (.bool (pcB q L s)) ∧ Below w.heap.size w w' := by
  have HC := Lib.hid (readThrees_any A n c H L q w h hH)
  by_cases ht : Tel q L
  · obtain ⟨k, rfl, h3, h6⟩ := tel_nat ht
    have HT := Lib.hid ht
    have HSU : Hid (pcB (k : Int) L s = ((rdW clW.data.toList s.data.toList).filter (ckL L)).isSome) := by rw [Hid, pcB, if_pos ht]
    rw [(tel_yes ht).1, (tel_yes ht).2] at HC
    clear h hH ht
    go_enter Tryd.func9, Tryd.ntmps9
    go_wp2_with fail
    refine HC.out.mono ?_
    rintro e w1 ⟨v1, rfl, hr1, hb1⟩
    have HG := Lib.hid (closed_any k v1 w.heap.size L w1 hr1 HT.out.2.2.2 (by have := HT.out.2.2.1; omega) h6)
    clear hr1 HC
    go_wp2_with fail
    refine HG.out.mono ?_
    rintro e w2 ⟨K, rfl, hm2, hk2, hb2⟩
    have hs2 := Nat.le_trans hb1.size hb2.size
    have HB2 := Lib.hid (hb1.trans (hb2.mono hb1.size))
    have HCK : Hid (∀ (l : List Int) (A : Option Addr) (c : Nat) (W : World), rdW clW.data.toList s.data.toList = some l → Below w2.heap.size w2 W → Rd W W.heap.size A l.length l → Calls Tryd.prog 22 #[.map (some w1.heap.size), .slice A l.length c] W fun e w' => e = .returned (.bool (ckL L l)) ∧ Below W.heap.size W w') := by
      intro l A c W hl hb hR
      rw [← ck_of hk2]
      exact clashesAt_any w1.heap.size K A c l W (hm2.below hb hm2.lt) hR (rdW_bd hl)
    have HP := Lib.hid (readProof_Cl w1.heap.size s clW w2 (ckL L) hs HCK)
    obtain ⟨r, hr⟩ : ∃ r, r = (rdW clW.data.toList s.data.toList).filter (ckL L) := ⟨_, rfl⟩
    rw [← hr] at HP HSU
    clear hm2 hk2 hb1 hb2 HCK HG hr
    cases r with
    | none =>
      go_wp2_with fail
      refine HP.out.mono ?_
      rintro e w3 ⟨rfl, hb3⟩
      obtain ⟨w4, hst, p1, g1, z1⟩ := stP_run (ds := [.string ⟨#[]⟩, .slice none 0 0, .nilFunc]) (heap_alloc_new w3 (.cells #[.string ⟨#[]⟩, .slice none 0 0, .nilFunc] 52)) rfl rfl (by simp [Value.oneCell'])
      have HB4 := Lib.hid (((HB2.out.trans (hb3.mono HB2.out.size)).alloc (by have := HB2.out.size; have := hb3.size; omega) _).grown g1 (by have := HB2.out.size; have := hb3.size; simp; omega) (by have := HB2.out.size; have := hb3.size; simp; omega))
      clear p1 g1 hb3
      go_wp2
      go_ret
      exact ⟨by rw [HSU.out]; rfl, HB4.out⟩
    | some l =>
      go_wp2_with fail
      refine HP.out.mono ?_
      rintro e w3 ⟨g, rfl, hb3⟩
      obtain ⟨w4, hst, p1, g1, z1⟩ := stP_run (ds := [.string clW, .slice (some ⟨g, 0, none⟩) l.length l.length, .func (.func 22) #[.map (some w1.heap.size)] #[]]) (heap_alloc_new w3 (.cells #[.string ⟨#[]⟩, .slice none 0 0, .nilFunc] 52)) rfl rfl (by simp [Value.oneCell'])
      have HB4 := Lib.hid (((HB2.out.trans (hb3.mono HB2.out.size)).alloc (by have := HB2.out.size; have := hb3.size; omega) _).grown g1 (by have := HB2.out.size; have := hb3.size; simp; omega) (by have := HB2.out.size; have := hb3.size; simp; omega))
      clear p1 g1 hb3
      go_wp2
      go_ret
      exact ⟨by rw [HSU.out]; rfl, HB4.out⟩
  · have HSU : Hid (pcB q L s = false) := by rw [Hid, pcB, if_neg ht]
    rw [(tel_no ht).1] at HC
    rw [HSU.out]
    clear h hH ht
    go_enter Tryd.func9, Tryd.ntmps9
    go_wp2_with (go_at_call 18; refine HC.out.mono ?_; rintro e w1 ⟨v1, rfl, _, hb1⟩)
    go_ret
    exact ⟨rfl, hb1⟩
end Go.Proofs.YthefnanhikjddaaDoor

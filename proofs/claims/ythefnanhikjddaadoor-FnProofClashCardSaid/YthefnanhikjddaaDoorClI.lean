/- ProofClash of the program. -/
import Derived.Test.YthefnanhikjddaaDoorPtTCl
import Derived.Test.YthefnanhikjddaaDoorPdC
import Derived.Test.YthefnanhikjddaaDoorClF
import Derived.Test.YthefnanhikjddaaDoorCodS
import Derived.Test.YthefnanhikjddaaDoorClW
namespace Go.Proofs.YthefnanhikjddaaDoor
open Go.ChangeShapes Go.WideShapes Go.ChangeAt Go.RowKit

open Classical in
/-- The first three of a telling's closing that goes round both ways. -/
noncomputable def ctF (q : Int) (L : List (List Int)) : Option (List Int) := if Tel q L then ((everyL q.toNat).filter fun t => decide (Cl L t)).find? fun t => decide (Cl L (turn3 t)) else none
noncomputable def ctT (q : Int) (L : List (List Int)) : ByteArray := match ctF q L with | none => ⟨#[]⟩ | some t => tld clW t
theorem any_find {α : Type} (p : α → Bool) (S : List α) : S.any p = (S.find? p).isSome := by
  rw [Bool.eq_iff_iff, List.any_eq_true, List.find?_isSome]
open Classical in
theorem ctF_of {k : Nat} {L K : List (List Int)} (ht : Tel (k : Int) L) (h : ∀ t, t ∈ K ↔ Cl L t) : ctF (k : Int) L = ((everyL k).filter fun t => decide (t ∈ K)).find? fun t => decide (turn3 t ∈ K) := by
  rw [ctF, if_pos ht, Int.toNat_natCast]
  have e1 : (fun t => decide (Cl L t)) = fun t => decide (t ∈ K) := by
    funext t
    rw [Bool.eq_iff_iff]
    simp [h t]
  have e2 : (fun t => decide (Cl L (turn3 t))) = fun t => decide (turn3 t ∈ K) := by
    funext t
    rw [Bool.eq_iff_iff]
    simp [h (turn3 t)]
  rw [e1, e2]

set_option maxRecDepth 10000 in
set_option maxHeartbeats 2000000 in
theorem ctI_any (A : Option Addr) (n c H : Nat) (q : Int) (L : List (List Int)) (w : World) (h : RdS w H A n L) (hH : H ≤ w.heap.size) (_ : tot L ≤ 1048576) :
    Calls Tryd.prog 7 #[.int .i64 q, .slice A n c] w fun e w' => e = .returned (.tuple #[.string (ctT q L), .bool (ctF q L).isSome]) ∧ Below w.heap.size w w' := by
  have HC := Lib.hid (readThrees_any A n c H L q w h hH)
  by_cases ht : Tel q L
  rotate_left
  · have e : ctF q L = none := by rw [ctF, if_neg ht]
    have e2 : ctT q L = ⟨#[]⟩ := by rw [ctT, e]
    rw [(tel_no ht).1] at HC
    rw [e, e2]
    clear h hH ht e e2
    go_enter Tryd.func7, Tryd.ntmps7
    go_wp2_with (go_at_call 18; refine HC.out.mono ?_; rintro e w1 ⟨v1, rfl, _, hb1⟩)
    go_ret2
    exact ⟨rfl, hb1⟩
  obtain ⟨k, rfl, h3, h6⟩ := tel_nat ht
  have HT := Lib.hid ht
  rw [(tel_yes ht).1, (tel_yes ht).2] at HC
  have HTT : Hid (ctT (k : Int) L = match ctF (k : Int) L with | none => ⟨#[]⟩ | some t => tld clW t) := rfl
  clear h hH ht
  go_enter Tryd.func7, Tryd.ntmps7
  go_wp2_with fail
  refine HC.out.mono ?_
  rintro e w1 ⟨v1, rfl, hr1, hb1⟩
  have HG := Lib.hid (closed_any k v1 w.heap.size L w1 hr1 HT.out.2.2.2 (by have := HT.out.2.2.1; omega) h6)
  clear hr1 HC
  go_wp2_with fail
  refine HG.out.mono ?_
  rintro e w2 ⟨K, rfl, hm2, hk2, hb2⟩
  have hs2 := Nat.le_trans hb1.size hb2.size
  have HSH := Lib.hid (clash1_any k w1.heap.size K w2 (by omega) hm2)
  have HF := Lib.hid (ctF_of HT.out hk2)
  rw [any_find, ← HF.out] at HSH
  have HM2 := Lib.hid hm2
  have hml := hm2.lt
  have HB2 := Lib.hid (hb1.trans (hb2.mono hb1.size))
  clear hm2 hb1 hb2 HG
  go_wp2_with fail
  refine HSH.out.mono ?_
  rintro e w3 ⟨P, hP, rfl, hb3, hfd⟩
  have HB3 := Lib.hid (HB2.out.trans (hb3.mono HB2.out.size))
  have HM3 := Lib.hid (HM2.out.below hb3 hml)
  have HNT := Lib.hid (Blk.new (t := 45) w3 [0, 0, 0])
  have hs3 := HB3.out.size
  cases hct : ctF (k : Int) L with
  | none =>
    have E2 : Hid (ctT (k : Int) L = ⟨#[]⟩) := by rw [Hid, HTT.out, hct]
    have E3 := Lib.hid hct
    have HP := Lib.hid hP
    clear hP hfd hct hk2
    go_wp2_with (refine store_tri rfl _ _ rfl w3.heap.size zero3 P rfl HP.out rfl rfl HNT ?_; intro w6 HB6 hg6 hs6)
    go_ret2
    exact ⟨by rw [E2.out, E3.out]; rfl, (HB3.out.alloc (by omega) _).grown hg6 (by simp; omega) (fun k hk => by injection hk; omega)⟩
  | some t =>
    have hfP : ctF (k : Int) L = some P := hfd (by rw [hct]; rfl)
    obtain rfl : t = P := by rw [hct] at hfP; exact Option.some.inj hfP
    have E2 : Hid (ctT (k : Int) L = tld clW t) := by rw [Hid, HTT.out, hct]
    have E3 := Lib.hid hct
    rw [HF.out] at hfP
    have hmem := List.mem_of_find?_eq_some hfP
    have hpb := List.find?_some hfP
    obtain ⟨hev, hin⟩ := List.mem_filter.1 hmem
    have hthr := (every_thr k t).1 hev
    have hck : ckC K t = true := by
      unfold ckC
      have h1 : t ∈ K := by simpa using hin
      have h2 : turn3 t ∈ K := by simpa using hpb
      simp [hthr.1, h1, h2]
    obtain ⟨x, y, z, e, hx, hy, hz, _⟩ := thr_nat hthr
    subst e
    have HP := Lib.hid hP
    have HLI := Lib.hid (fun (V : World) => tlist_any (x : Int) (y : Int) (z : Int) 0 V (Nat.zero_le _))
    have HTO : Hid (∀ (A : Option Addr) (c : Nat) (W : World), MapK W w1.heap.size K → Rd W W.heap.size A 3 [(x : Int), (y : Int), (z : Int)] →
        Calls Tryd.prog 23 #[.agg #[.string ⟨#[99, 108, 97, 115, 104]⟩, .slice A 3 c, .func (.func 22) #[.map (some w1.heap.size)] #[]]] W fun e w' => e = .returned (.tuple #[.string (tld clW [(x : Int), (y : Int), (z : Int)]), .bool true]) ∧ Below W.heap.size W w') :=
      Lib.hid fun A c W hmW hR => told_Cl w1.heap.size clW A c [(x : Int), (y : Int), (z : Int)] W (by decide) (fun u hu => by simp at hu; omega) (by simp)
        (Lib.hid (fun V hV => by
          have h := clashesAt_any w1.heap.size K A c [(x : Int), (y : Int), (z : Int)] V (hmW.below hV hmW.lt) ((hR.below hV).more hV.size) (fun u hu => by simp at hu; omega)
          rw [hck] at h
          exact h)) hR
    obtain ⟨T, hT⟩ : ∃ T, T = tld clW [(x : Int), (y : Int), (z : Int)] := ⟨_, rfl⟩
    rw [← hT] at HTO E2
    clear hT
    clear hP hfd hct hk2 hfP hmem hpb hev hin hthr hck
    have hm4 := HM3.out.lt
    go_wp2_with (first
      | (refine store_tri rfl _ _ rfl w3.heap.size zero3 [(x : Int), (y : Int), (z : Int)] rfl HP.out rfl rfl HNT ?_; intro w6 HB6 hg6 hs6; have h6 : Hid (Below w3.heap.size w3 w6) := Lib.hid (((Below.refl _ _).alloc (Nat.le_refl _) _).grown hg6 (by simp) (by simp)))
      | (refine load_tri rfl _ rfl w3.heap.size [(x : Int), (y : Int), (z : Int)] rfl rfl HB6 ?_)
      | (go_at_call 23; refine (HTO.out (some ⟨w3.heap.size + 1 + 1, 0, none⟩) 3 w7 HM7.out HR7.out).mono ?_; rintro e w8 ⟨rfl, hb8⟩; have HB8 := Lib.hid (HB7.out.trans (hb8.mono HB7.out.size)))
      | (go_at_call 21; refine (HLI.out _).mono ?_; rintro e w7 ⟨rfl, ho7, hb7⟩; have h7 : Hid (Below w3.heap.size w3 w7) := Lib.hid (h6.out.trans (hb7.mono h6.out.size)); have HM7 := Lib.hid (HM3.out.below h7.out hm4); have HR7 := Lib.hid ho7.rd.2; rw [show w6.heap.size = w3.heap.size + 1 by rw [hs6]; simp] at HR7; have HB7 := Lib.hid (HB3.out.trans (h7.out.mono HB3.out.size))))
    go_ret2
    exact ⟨by rw [E2.out, E3.out]; rfl, HB8.out⟩
end Go.Proofs.YthefnanhikjddaaDoor

/- The points behind a word, read by the program. -/
import Derived.Test.YthefnanhikjddaaDoorPdL
import Derived.BigQuiet
import Derived.Deep.QuietTactic
import Derived.Test.YthefnanhikjddaaDoorPdM
import Derived.Test.YthefnanhikjddaaDoorMA
namespace Go.Proofs.YthefnanhikjddaaDoor
open Go.ChangeShapes Go.WideShapes Go.ChangeAt Go.RowKit

theorem cutp_any (s p : ByteArray) (w : World) :
    Calls Tryd.prog 83 #[.string s, .string p] w fun e w' => e = .returned (.tuple #[.string ⟨(Lib.trimPrefix s.data.toList p.data.toList).toArray⟩, .bool (Lib.hasPrefix s.data.toList p.data.toList)]) ∧ w' = w :=
  Any.strings_CutPrefix Tryd.lays103 s p w

theorem set_mid (acc : List Int) (m : Nat) (x : Int) : (acc ++ List.replicate (m + 1) 0).set acc.length x = (acc ++ [x]) ++ List.replicate m 0 := by
  rw [List.set_append_right _ _ (Nat.le_refl _), Nat.sub_self, List.replicate_succ, List.set_cons_zero, List.append_assoc]
  rfl

/-- What the program's reading hands back. -/
def RdI (r : Option (List Int)) (w : World) (e : Ending) (w' : World) : Prop :=
  match r with
  | none => e = .returned (.tuple #[.slice none 0 0, .bool false]) ∧ Below w.heap.size w w'
  | some l => e = .returned (.tuple #[.slice (some ⟨w.heap.size, 0, none⟩) l.length l.length, .bool true]) ∧ Own w' w.heap.size (.slice (some ⟨w.heap.size, 0, none⟩) l.length l.length) l ∧ Below w.heap.size w w'

set_option maxRecDepth 10000 in
set_option maxHeartbeats 1000000 in
theorem rdpI_any (s p : ByteArray) (w : World) (hs : s.size ≤ 1048576) :
    Calls Tryd.prog 53 #[.string s, .string p] w (RdI (rdW p.data.toList s.data.toList) w) := by
  have HC := Lib.hid (fun w => cutp_any s p w)
  cases hp : Lib.hasPrefix s.data.toList p.data.toList with
  | false =>
    have e : rdW p.data.toList s.data.toList = none := by unfold rdW; rw [hp]; rfl
    rw [e]
    rw [hp] at HC
    clear e hp
    go_enter Tryd.func53, Tryd.ntmps53
    go_wp2_with (go_at_call 83; refine (HC.out _).mono ?_; rintro e w' ⟨rfl, hw⟩; rw [hw]; clear hw)
    go_ret2
    exact ⟨rfl, Below.refl _ _⟩
  | true =>
    have e : rdW p.data.toList s.data.toList = dgs (s.data.toList.drop p.data.toList.length) := by unfold rdW; rw [hp]; rfl
    have et : Lib.trimPrefix s.data.toList p.data.toList = s.data.toList.drop p.data.toList.length := by unfold Lib.trimPrefix; rw [hp]; rfl
    rw [hp, et] at HC
    obtain ⟨R, hR⟩ : ∃ R : ByteArray, R = ⟨(s.data.toList.drop p.data.toList.length).toArray⟩ := ⟨_, rfl⟩
    have hRl : R.data.toList = s.data.toList.drop p.data.toList.length := by rw [hR]
    have hRs : R.size ≤ 1048576 := by
      have h1 : R.size = R.data.toList.length := by simp
      rw [h1, hRl, List.length_drop]
      have : s.data.toList.length = s.size := by simp
      omega
    rw [← hR] at HC
    rw [e, ← hRl]
    obtain ⟨r, hr⟩ : ∃ r, r = dgs R.data.toList := ⟨_, rfl⟩
    rw [← hr]
    have HR := Lib.hid hr
    clear e et hR hRl hr hp
    by_cases h2 : R.size % 2 = 0
    rotate_left
    · have h1 : R.data.toList.length = R.size := by simp
      have e : r = none := by rw [HR.out]; exact dgs_odd (by rw [h1]; omega)
      rw [e]
      have hn' : (R.size : Int) % 2 = 1 := by omega
      clear e HR
      go_enter Tryd.func53, Tryd.ntmps53
      go_wp2_with (go_at_call 83; refine (HC.out _).mono ?_; rintro e w' ⟨rfl, hw⟩; rw [hw]; clear hw)
      go_ret2
      exact ⟨rfl, Below.refl _ _⟩
    obtain ⟨z, hz⟩ : ∃ z, R.size = 2 * z := ⟨R.size / 2, by omega⟩
    obtain ⟨i0, hi, hz0, hz1, hz2⟩ := info_parts int_info
    have HZ := Lib.hid hz
    have hn' : (R.size : Int) % 2 = 0 := by omega
    have hq' : (R.size : Int) / 2 = (z : Int) := by omega
    have hz19 : z ≤ 1048576 := by omega
    clear hz h2
    go_enter Tryd.func53, Tryd.ntmps53
    go_wp2_with (first
      | (go_at_call 83; refine (HC.out _).mono ?_; rintro e w' ⟨rfl, hw⟩; rw [hw]; clear hw)
      | (at_make; refine wpList_make_full _ rfl _ _ 31 rfl w.heap.size 3 i0 (.int .i64 0) 1 Tryd.underlying31 hi hz0 hz1 .i64 .i64 _ _ z rfl rfl rfl rfl (by rw [hz2]; omega) (by unfold maxLen; omega) (Nat.le_refl _) ?_))
    intro w1 hown hgrow
    have hb1 : Below w.heap.size w w1 := (Below.refl _ _).grown hgrow (Nat.le_refl _) (by simp)
    have ho1 : w1.ownsRow w.heap.size 3 1 (.slice (some ⟨w.heap.size, 0, none⟩) z z) z (ints (([] : List Int) ++ List.replicate z 0)) := by
      have e : ints (([] : List Int) ++ List.replicate z 0) = (madeCells #[Value.int IntKind.i64 0] z).toList := by
        rw [toList_madeCells_one]
        simp [ints]
      rw [e]
      simpa using hown
    have HE : Hid (r = (dgs (sx R 0)).map fun l => ([] : List Int) ++ l) := by
      rw [Hid, HR.out, sx_zero]
      cases dgs R.data.toList <;> rfl
    clear hown hgrow HR
    generalize hB : w.heap.size = B at *
    have HB := Lib.hid hB
    clear hB
    go_wp2
    go_loopw [32] (fun i wr => ∃ (k : Nat) (acc : List Int), k ≤ z ∧ i = .int .i64 k ∧ acc.length = k ∧ wr.ownsRow B 3 1 (.slice (some ⟨B, 0, none⟩) z z) z (ints (acc ++ List.replicate (z - k) 0)) ∧ Below B w wr ∧ Hid (r = (dgs (sx R (2 * k))).map fun l => acc ++ l)) (fun i _ => z - (intOf i).toNat)
    case atStart => exact ⟨0, [], Nat.zero_le _, rfl, rfl, ho1, hb1, HE⟩
    case round =>
      obtain ⟨k, acc, hk, rfl, hal, hown, hbl, HK⟩ := hrel
      by_cases hlt : k < z
      · obtain ⟨m, hm⟩ : ∃ m, m = 2 * k := ⟨_, rfl⟩
        obtain ⟨q, hq2⟩ : ∃ q, q = 2 * k + 1 := ⟨_, rfl⟩
        have hw1 : IntKind.i64.wrap (2 * (k : Int)) = (m : Int) := by rw [IntWalk.i64_in _ (by omega)]; omega
        have hw2 : IntKind.i64.wrap ((m : Int) + 1) = (q : Int) := by rw [IntWalk.i64_in _ (by omega)]; omega
        have hz := HZ.out
        have hmR : m < R.size := by omega
        have hqR : q < R.size := by omega
        have HM := Lib.hid hm
        have HQ : Hid (q = m + 1) := by rw [Hid]; omega
        have HK1 := HK.out
        rw [← hm] at HK1
        have HBAD := Lib.hid (rd_bad HK1 hmR hqR HQ.out)
        have HYES := Lib.hid (rd_step HK1 hmR hqR HQ.out)
        clear hm hq2 hz HK1 HK HE hn'
        have HOW := Lib.hid hown
        have HBL := Lib.hid hbl
        clear hown hbl ho1 hb1
        by_cases h32 : R[m].toNat = 32
        rotate_left
        · have e := HBAD.out (fun h => h32 h.1)
          rw [e]
          have hne : ((R[m].toNat : Int) != 32) = true := by simp; omega
          clear e HBAD HYES
          go_wp2
          go_quiet (fail)
          go_wp2
          go_ret2
          exact ⟨rfl, by rw [HB.out]; exact below_drewN HBL.out _⟩
        by_cases h48 : 48 ≤ R[q].toNat
        rotate_left
        · have e := HBAD.out (fun h => h48 h.2.1)
          rw [e]
          have hlt48 : (R[q].toNat : Int) < 48 := by omega
          clear e HBAD HYES h48
          go_wp2
          go_quiet (fail)
          go_wp2
          go_ret2
          exact ⟨rfl, by rw [HB.out]; exact below_drewN HBL.out _⟩
        by_cases h57 : R[q].toNat ≤ 57
        rotate_left
        · have e := HBAD.out (fun h => h57 h.2.2)
          rw [e]
          have hlt57 : (57 : Int) < (R[q].toNat : Int) := by omega
          have hn48 : ¬ (R[q].toNat : Int) < 48 := by omega
          clear e HBAD HYES h48 h57
          go_wp2
          go_quiet (fail)
          go_wp2
          go_ret2
          exact ⟨rfl, by rw [HB.out]; exact below_drewN HBL.out _⟩
        have HS2 := Lib.hid (HYES.out ⟨h32, h48, h57⟩)
        have hn48 : ¬ (R[q].toNat : Int) < 48 := by omega
        have hn57 : ¬ (57 : Int) < (R[q].toNat : Int) := by omega
        clear HYES HBAD
        go_wp2
        go_quiet (fail)
        generalize hW2 : wr.drewN _ = W2
        have hown2 : W2.ownsRow B 3 1 (.slice (some ⟨B, 0, none⟩) z z) z (ints (acc ++ List.replicate (z - k) 0)) := by rw [← hW2]; exact HOW.out
        have hbl2 : Below B w W2 := by rw [← hW2]; exact below_drewN HBL.out _
        clear hW2 HOW HBL
        have hst := hown2.stored k (.int .i64 ((R[q].toNat : Int) - 48))
        rw [ints_set, show z - k = (z - (k + 1)) + 1 by omega, ← hal, set_mid, hal] at hst
        have HST := Lib.hid hst
        have hcell : ∃ u, W2.cell? ⟨B, k, none⟩ = some u := ⟨_, (hown2.cellAt k (by omega)).trans (ints_get _ _ (by simp; omega))⟩
        have hfr : W2.frozen? ⟨B, k, none⟩ = false := hown2.frozenAt _
        obtain ⟨u, hcell⟩ := hcell
        clear hst hown2
        go_wp2
        go_roundw
        case rel =>
          refine ⟨k + 1, acc ++ [(R[q].toNat : Int) - 48], by omega, by go_num, by simp [hal], HST.out.1, hbl2.grown HST.out.2 (by have := hbl2.size; have := HB.out; omega) (by simp), ?_⟩
          rw [Hid, show 2 * (k + 1) = m + 2 by have := HM.out; omega]
          exact HS2.out
        case measure => simp [intOf]; omega
      · obtain rfl : k = z := by omega
        have hz := HZ.out
        have e : r = some acc := by have h := HK.out; rw [← hz] at h; exact rd_done h
        subst e
        rw [Nat.sub_self] at hown
        have HOW := Lib.hid hown
        clear hz hown
        go_wp2
        go_ret2
        refine ⟨by rw [HB.out, hal]; rfl, ?_, by rw [HB.out]; exact hbl⟩
        rw [HB.out]
        unfold Own
        rw [hal]
        simpa using HOW.out
end Go.Proofs.YthefnanhikjddaaDoor

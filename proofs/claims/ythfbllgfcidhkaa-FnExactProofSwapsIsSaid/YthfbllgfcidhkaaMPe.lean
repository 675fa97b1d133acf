/- merged -/
import Derived.Test.YthfbllgfcidhkaaBase
import Derived.Lib.Strings
import Derived.Test.YthfbllgfcidhkaaPdL
import Derived.BigQuiet
import Derived.Deep.QuietTactic
import Derived.Test.YthfbllgfcidhkaaKit
import Derived.Test.YthfbllgfcidhkaaOwn
import Derived.Laws.DeepStrings4
import Derived.Laws.Strings3
import Derived.Lib.IndexEntry
import Derived.Test.YthfbllgfcidhkaaFold
import Derived.Test.YthfbllgfcidhkaaList
import Derived.Test.YthfbllgfcidhkaaSwA
import Derived.Test.YthfbllgfcidhkaaAllR
import Derived.Test.YthfbllgfcidhkaaTwo
import Derived.Test.YthfbllgfcidhkaaTwoS
import Derived.Test.YthfbllgfcidhkaaEqS
import Derived.Test.YthfbllgfcidhkaaThree
namespace Go.Proofs.Ythfbllgfcidhkaa
open Go.ChangeShapes Go.WideShapes Go.ChangeAt Go.RowKit

def dgs : List UInt8 → Option (List Int)
  | [] => some []
  | [_] => none
  | a :: b :: r => if a.toNat = 32 ∧ 48 ≤ b.toNat ∧ b.toNat ≤ 57 then (dgs r).map (fun l => ((b.toNat : Int) - 48) :: l) else none
theorem dgs_nil : dgs [] = some [] := rfl
theorem dgs_yes (a b : UInt8) (r : List UInt8) (h : a.toNat = 32 ∧ 48 ≤ b.toNat ∧ b.toNat ≤ 57) : dgs (a :: b :: r) = (dgs r).map (fun l => ((b.toNat : Int) - 48) :: l) := by rw [dgs, if_pos h]
theorem dgs_no (a b : UInt8) (r : List UInt8) (h : ¬ (a.toNat = 32 ∧ 48 ≤ b.toNat ∧ b.toNat ≤ 57)) : dgs (a :: b :: r) = none := by rw [dgs, if_neg h]
theorem dgs_all (s : List UInt8) : (s.length % 2 = 1 → dgs s = none) ∧ ∀ l, dgs s = some l → s.length = 2 * l.length ∧ ∀ x ∈ l, 0 ≤ x ∧ x ≤ 9 := by
  induction s using dgs.induct with
  | case1 => exact ⟨fun h => by simp at h, fun l h => by rw [dgs] at h; obtain rfl := Option.some.inj h; simp⟩
  | case2 a => exact ⟨fun _ => rfl, fun l h => by rw [dgs] at h; cases h⟩
  | case3 a b r hg ih =>
    refine ⟨fun h => ?_, fun l h => ?_⟩
    · rw [dgs_yes _ _ _ hg, ih.1 (by simp at h; omega)]; rfl
    · rw [dgs_yes _ _ _ hg] at h
      rcases hr : dgs r with _ | l'
      · rw [hr] at h; cases h
      · rw [hr] at h
        obtain rfl := Option.some.inj h
        obtain ⟨h1, h2⟩ := ih.2 l' hr
        refine ⟨by simp; omega, fun x hx => ?_⟩
        rcases List.mem_cons.1 hx with rfl | hx
        · omega
        · exact h2 x hx
  | case4 a b r hg =>
    exact ⟨fun _ => dgs_no _ _ _ hg, fun l h => by rw [dgs_no _ _ _ hg] at h; cases h⟩
theorem dgs_len {s : List UInt8} {l : List Int} (h : dgs s = some l) : s.length = 2 * l.length := ((dgs_all s).2 l h).1
theorem dgs_bd {s : List UInt8} {l : List Int} (h : dgs s = some l) : ∀ x ∈ l, 0 ≤ x ∧ x ≤ 9 := ((dgs_all s).2 l h).2
theorem dgs_odd {s : List UInt8} (h : s.length % 2 = 1) : dgs s = none := (dgs_all s).1 h

/-- The points behind a word. -/
def rdW (word s : List UInt8) : Option (List Int) := if Lib.hasPrefix s word then dgs (s.drop word.length) else none
theorem rdW_bd {word s : List UInt8} {l : List Int} (h : rdW word s = some l) : ∀ x ∈ l, 0 ≤ x ∧ x ≤ 9 := by
  unfold rdW at h
  split at h
  · exact dgs_bd h
  · cases h
theorem rdW_len {word s : List UInt8} {l : List Int} (h : rdW word s = some l) : 2 * l.length ≤ s.length := by
  unfold rdW at h
  split at h
  · have := dgs_len h
    simp at this
    omega
  · cases h

/-- What is left of a text from a place on. -/
def sx (s : ByteArray) (k : Nat) : List UInt8 := s.data.toList.drop k
theorem sx_cons (s : ByteArray) (k : Nat) (h : k < s.size) : sx s k = s[k] :: sx s (k + 1) := by
  unfold sx
  rw [List.drop_eq_getElem_cons (by simpa using h)]
  rfl
theorem sx_two (s : ByteArray) (k : Nat) (h : k + 1 < s.size) : sx s k = s[k] :: s[k + 1] :: sx s (k + 2) := by
  rw [sx_cons s k (by omega), sx_cons s (k + 1) h]
theorem sx_end (s : ByteArray) : sx s s.size = [] := by unfold sx; exact List.drop_eq_nil_of_le (by simp)
theorem sx_len (s : ByteArray) (k : Nat) : (sx s k).length = s.size - k := by simp [sx]
theorem sx_zero (s : ByteArray) : sx s 0 = s.data.toList := rfl

/-- A round of the reading: the acc is what has been read. -/
theorem rd_step {r : Option (List Int)} {s : ByteArray} {p q : Nat} {acc : List Int} (h : r = (dgs (sx s p)).map fun l => acc ++ l) (hp : p < s.size) (hq : q < s.size) (e : q = p + 1)
    (hg : s[p].toNat = 32 ∧ 48 ≤ s[q].toNat ∧ s[q].toNat ≤ 57) : r = (dgs (sx s (p + 2))).map fun l => (acc ++ [(s[q].toNat : Int) - 48]) ++ l := by
  subst e
  rw [h, sx_two s p hq, dgs_yes _ _ _ hg, Option.map_map]
  congr 1
  funext l
  simp
theorem rd_bad {r : Option (List Int)} {s : ByteArray} {p q : Nat} {acc : List Int} (h : r = (dgs (sx s p)).map fun l => acc ++ l) (hp : p < s.size) (hq : q < s.size) (e : q = p + 1)
    (hg : ¬ (s[p].toNat = 32 ∧ 48 ≤ s[q].toNat ∧ s[q].toNat ≤ 57)) : r = none := by
  subst e
  rw [h, sx_two s p hq, dgs_no _ _ _ hg]; rfl
theorem rd_done {r : Option (List Int)} {s : ByteArray} {acc : List Int} (h : r = (dgs (sx s s.size)).map fun l => acc ++ l) : r = some acc := by
  rw [h, sx_end]; simp [dgs]

/-- A word and points, told. -/
def told (word : List UInt8) (l : List Int) : List UInt8 := word ++ l.flatMap fun x => [32, UInt8.ofNat (48 + x.toNat)]
theorem told_snoc (word : List UInt8) (l : List Int) (x : Int) : told word (l ++ [x]) = told word l ++ [32, UInt8.ofNat (48 + x.toNat)] := by simp [told]
theorem told_len (word : List UInt8) (l : List Int) : (told word l).length = word.length + 2 * l.length := by
  induction l with
  | nil => simp [told]
  | cons x l ih => simp [told] at ih ⊢; omega
end Go.Proofs.Ythfbllgfcidhkaa

namespace Go.Proofs.Ythfbllgfcidhkaa
open Go.ChangeShapes Go.WideShapes Go.ChangeAt Go.RowKit

theorem cutp_any (s p : ByteArray) (w : World) :
    Calls Try.prog 88 #[.string s, .string p] w fun e w' => e = .returned (.tuple #[.string ⟨(Lib.trimPrefix s.data.toList p.data.toList).toArray⟩, .bool (Lib.hasPrefix s.data.toList p.data.toList)]) ∧ w' = w :=
  Any.strings_CutPrefix Try.lays103 s p w

theorem set_mid (acc : List Int) (m : Nat) (x : Int) : (acc ++ List.replicate (m + 1) 0).set acc.length x = (acc ++ [x]) ++ List.replicate m 0 := by
  rw [List.set_append_right _ _ (Nat.le_refl _), Nat.sub_self, List.replicate_succ, List.set_cons_zero, List.append_assoc]
  rfl

/-- What the program's reading hands back. -/
def RdI (r : Option (List Int)) (w : World) (e : Ending) (w' : World) : Prop :=
  match r with
  | none => e = .returned (.tuple #[.slice none 0 0, .bool false]) ∧ Below w.heap.size w w'
  | some l => e = .returned (.tuple #[.slice (some ⟨w.heap.size, 0, none⟩) l.length l.length, .bool true]) ∧ Own w' w.heap.size (.slice (some ⟨w.heap.size, 0, none⟩) l.length l.length) l ∧ Below w.heap.size w w'

set_option maxRecDepth 10000 in
set_option maxHeartbeats 1000000 in
theorem rdpI_any (s p : ByteArray) (w : World) (hs : s.size ≤ 1048576) :
    Calls Try.prog 60 #[.string s, .string p] w (RdI (rdW p.data.toList s.data.toList) w) := by
  have HC := Lib.hid (fun w => cutp_any s p w)
  cases hp : Lib.hasPrefix s.data.toList p.data.toList with
  | false =>
    have e : rdW p.data.toList s.data.toList = none := by unfold rdW; rw [hp]; rfl
    rw [e]
    rw [hp] at HC
    clear e hp
    go_enter Try.func60, Try.ntmps60
    go_wp2_with (go_at_call 88; refine (HC.out _).mono ?_; rintro e w' ⟨rfl, hw⟩; rw [hw]; clear hw)
    go_ret2
    exact ⟨rfl, Below.refl _ _⟩
  | true =>
    have e : rdW p.data.toList s.data.toList = dgs (s.data.toList.drop p.data.toList.length) := by unfold rdW; rw [hp]; rfl
    have et : Lib.trimPrefix s.data.toList p.data.toList = s.data.toList.drop p.data.toList.length := by unfold Lib.trimPrefix; rw [hp]; rfl
    rw [hp, et] at HC
    obtain ⟨R, hR⟩ : ∃ R : ByteArray, R = ⟨(s.data.toList.drop p.data.toList.length).toArray⟩ := ⟨_, rfl⟩
    have hRl : R.data.toList = s.data.toList.drop p.data.toList.length := by rw [hR]
    have hRs : R.size ≤ 1048576 := by
      have h1 : R.size = R.data.toList.length := by simp
      rw [h1, hRl, List.length_drop]
      have : s.data.toList.length = s.size := by simp
      omega
    rw [← hR] at HC
    rw [e, ← hRl]
    obtain ⟨r, hr⟩ : ∃ r, r = dgs R.data.toList := ⟨_, rfl⟩
    rw [← hr]
    have HR := Lib.hid hr
    clear e et hR hRl hr hp
    by_cases h2 : R.size % 2 = 0
    rotate_left
    · have h1 : R.data.toList.length = R.size := by simp
      have e : r = none := by rw [HR.out]; exact dgs_odd (by rw [h1]; omega)
      rw [e]
      have hn' : (R.size : Int) % 2 = 1 := by omega
      clear e HR
      go_enter Try.func60, Try.ntmps60
      go_wp2_with (go_at_call 88; refine (HC.out _).mono ?_; rintro e w' ⟨rfl, hw⟩; rw [hw]; clear hw)
      go_ret2
      exact ⟨rfl, Below.refl _ _⟩
    obtain ⟨z, hz⟩ : ∃ z, R.size = 2 * z := ⟨R.size / 2, by omega⟩
    obtain ⟨i0, hi, hz0, hz1, hz2⟩ := info_parts int_info
    have HZ := Lib.hid hz
    have hn' : (R.size : Int) % 2 = 0 := by omega
    have hq' : (R.size : Int) / 2 = (z : Int) := by omega
    have hz19 : z ≤ 1048576 := by omega
    clear hz h2
    go_enter Try.func60, Try.ntmps60
    go_wp2_with (first
      | (go_at_call 88; refine (HC.out _).mono ?_; rintro e w' ⟨rfl, hw⟩; rw [hw]; clear hw)
      | (at_make; refine wpList_make_full _ rfl _ _ 27 rfl w.heap.size 3 i0 (.int .i64 0) 1 Try.underlying27 hi hz0 hz1 .i64 .i64 _ _ z rfl rfl rfl rfl (by rw [hz2]; omega) (by unfold maxLen; omega) (Nat.le_refl _) ?_))
    intro w1 hown hgrow
    have hb1 : Below w.heap.size w w1 := (Below.refl _ _).grown hgrow (Nat.le_refl _) (by simp)
    have ho1 : w1.ownsRow w.heap.size 3 1 (.slice (some ⟨w.heap.size, 0, none⟩) z z) z (ints (([] : List Int) ++ List.replicate z 0)) := by
      have e : ints (([] : List Int) ++ List.replicate z 0) = (madeCells #[Value.int IntKind.i64 0] z).toList := by
        rw [toList_madeCells_one]
        simp [ints]
      rw [e]
      simpa using hown
    have HE : Hid (r = (dgs (sx R 0)).map fun l => ([] : List Int) ++ l) := by
      rw [Hid, HR.out, sx_zero]
      cases dgs R.data.toList <;> rfl
    clear hown hgrow HR
    generalize hB : w.heap.size = B at *
    have HB := Lib.hid hB
    clear hB
    go_wp2
    go_loopw [32] (fun i wr => ∃ (k : Nat) (acc : List Int), k ≤ z ∧ i = .int .i64 k ∧ acc.length = k ∧ wr.ownsRow B 3 1 (.slice (some ⟨B, 0, none⟩) z z) z (ints (acc ++ List.replicate (z - k) 0)) ∧ Below B w wr ∧ Hid (r = (dgs (sx R (2 * k))).map fun l => acc ++ l)) (fun i _ => z - (intOf i).toNat)
    case atStart => exact ⟨0, [], Nat.zero_le _, rfl, rfl, ho1, hb1, HE⟩
    case round =>
      obtain ⟨k, acc, hk, rfl, hal, hown, hbl, HK⟩ := hrel
      by_cases hlt : k < z
      · obtain ⟨m, hm⟩ : ∃ m, m = 2 * k := ⟨_, rfl⟩
        obtain ⟨q, hq2⟩ : ∃ q, q = 2 * k + 1 := ⟨_, rfl⟩
        have hw1 : IntKind.i64.wrap (2 * (k : Int)) = (m : Int) := by rw [IntWalk.i64_in _ (by omega)]; omega
        have hw2 : IntKind.i64.wrap ((m : Int) + 1) = (q : Int) := by rw [IntWalk.i64_in _ (by omega)]; omega
        have hz := HZ.out
        have hmR : m < R.size := by omega
        have hqR : q < R.size := by omega
        have HM := Lib.hid hm
        have HQ : Hid (q = m + 1) := by rw [Hid]; omega
        have HK1 := HK.out
        rw [← hm] at HK1
        have HBAD := Lib.hid (rd_bad HK1 hmR hqR HQ.out)
        have HYES := Lib.hid (rd_step HK1 hmR hqR HQ.out)
        clear hm hq2 hz HK1 HK HE hn'
        have HOW := Lib.hid hown
        have HBL := Lib.hid hbl
        clear hown hbl ho1 hb1
        by_cases h32 : R[m].toNat = 32
        rotate_left
        · have e := HBAD.out (fun h => h32 h.1)
          rw [e]
          have hne : ((R[m].toNat : Int) != 32) = true := by simp; omega
          clear e HBAD HYES
          go_wp2
          go_quiet (fail)
          go_wp2
          go_ret2
          exact ⟨rfl, by rw [HB.out]; exact below_drewN HBL.out _⟩
        by_cases h48 : 48 ≤ R[q].toNat
        rotate_left
        · have e := HBAD.out (fun h => h48 h.2.1)
          rw [e]
          have hlt48 : (R[q].toNat : Int) < 48 := by omega
          clear e HBAD HYES h48
          go_wp2
          go_quiet (fail)
          go_wp2
          go_ret2
          exact ⟨rfl, by rw [HB.out]; exact below_drewN HBL.out _⟩
        by_cases h57 : R[q].toNat ≤ 57
        rotate_left
        · have e := HBAD.out (fun h => h57 h.2.2)
          rw [e]
          have hlt57 : (57 : Int) < (R[q].toNat : Int) := by omega
          have hn48 : ¬ (R[q].toNat : Int) < 48 := by omega
          clear e HBAD HYES h48 h57
          go_wp2
          go_quiet (fail)
          go_wp2
          go_ret2
          exact ⟨rfl, by rw [HB.out]; exact below_drewN HBL.out _⟩
        have HS2 := Lib.hid (HYES.out ⟨h32, h48, h57⟩)
        have hn48 : ¬ (R[q].toNat : Int) < 48 := by omega
        have hn57 : ¬ (57 : Int) < (R[q].toNat : Int) := by omega
        clear HYES HBAD
        go_wp2
        go_quiet (fail)
        generalize hW2 : wr.drewN _ = W2
        have hown2 : W2.ownsRow B 3 1 (.slice (some ⟨B, 0, none⟩) z z) z (ints (acc ++ List.replicate (z - k) 0)) := by rw [← hW2]; exact HOW.out
        have hbl2 : Below B w W2 := by rw [← hW2]; exact below_drewN HBL.out _
        clear hW2 HOW HBL
        have hst := hown2.stored k (.int .i64 ((R[q].toNat : Int) - 48))
        rw [ints_set, show z - k = (z - (k + 1)) + 1 by omega, ← hal, set_mid, hal] at hst
        have HST := Lib.hid hst
        have hcell : ∃ u, W2.cell? ⟨B, k, none⟩ = some u := ⟨_, (hown2.cellAt k (by omega)).trans (ints_get _ _ (by simp; omega))⟩
        have hfr : W2.frozen? ⟨B, k, none⟩ = false := hown2.frozenAt _
        obtain ⟨u, hcell⟩ := hcell
        clear hst hown2
        go_wp2
        go_roundw
        case rel =>
          refine ⟨k + 1, acc ++ [(R[q].toNat : Int) - 48], by omega, by go_num, by simp [hal], HST.out.1, hbl2.grown HST.out.2 (by have := hbl2.size; have := HB.out; omega) (by simp), ?_⟩
          rw [Hid, show 2 * (k + 1) = m + 2 by have := HM.out; omega]
          exact HS2.out
        case measure => simp [intOf]; omega
      · obtain rfl : k = z := by omega
        have hz := HZ.out
        have e : r = some acc := by have h := HK.out; rw [← hz] at h; exact rd_done h
        subst e
        rw [Nat.sub_self] at hown
        have HOW := Lib.hid hown
        clear hz hown
        go_wp2
        go_ret2
        refine ⟨by rw [HB.out, hal]; rfl, ?_, by rw [HB.out]; exact hbl⟩
        rw [HB.out]
        unfold Own
        rw [hal]
        simpa using HOW.out
end Go.Proofs.Ythfbllgfcidhkaa

namespace Go.Proofs.Ythfbllgfcidhkaa
open Go.ChangeShapes Go.WideShapes Go.ChangeAt Go.RowKit

theorem sl_pre (s : ByteArray) (j : Nat) (hj : j ≤ s.size) (W : World) : (Instr.slice 9 (.string s) none (some (.int .i64 (j : Int))) none).run Try.prog W = .ok (.string (s.extract 0 j)) W := by
  rw [run_slice_string_to_if (h := Try.underlying9), if_pos (by omega)]
  simp
theorem pre_eq (s p : ByteArray) : ((s.extract 0 p.size).toList == p.toList) = Lib.hasPrefix s.data.toList p.data.toList := by
  rw [Lib.toList_data, Lib.toList_data, Lib.extract_data]
  rw [Bool.eq_iff_iff, beq_iff_eq]
  unfold Lib.hasPrefix
  rw [List.isPrefixOf_iff_prefix, List.prefix_iff_eq_take]
  have : p.data.toList.length = p.size := by simp
  rw [this]
  simp
  exact eq_comm
theorem pre_no (s p : ByteArray) (hb : Lib.hasPrefix s.data.toList p.data.toList = false) : ¬ (s.extract 0 p.size).toList = p.toList := fun h => by
  have h2 := pre_eq s p
  rw [hb, h] at h2
  simp at h2
theorem pre_yes (s p : ByteArray) (hb : Lib.hasPrefix s.data.toList p.data.toList = true) : (s.extract 0 p.size).toList = p.toList := by
  have h2 := pre_eq s p
  rw [hb] at h2
  exact beq_iff_eq.1 h2
theorem pre_len {s p : ByteArray} (h : Lib.hasPrefix s.data.toList p.data.toList = true) : p.size ≤ s.size := by
  have := List.IsPrefix.length_le (List.isPrefixOf_iff_prefix.1 h)
  simpa using this

attribute [local go_sem ↓] apI_fold in
set_option maxRecDepth 10000 in
set_option maxHeartbeats 1000000 in
theorem rdpS_any (s p : ByteArray) (w : World) (hs : s.size ≤ 1048576) (hp : p.size ≤ 100) :
    Calls Try.prog 30 #[.string s, .string p] w fun e w' => ∃ v, e = .returned (.tuple #[v, .bool (rdW p.data.toList s.data.toList).isSome]) ∧ Own w' w.heap.size v ((rdW p.data.toList s.data.toList).getD []) ∧ Below w.heap.size w w' := by
  obtain ⟨r, hr⟩ : ∃ r, r = rdW p.data.toList s.data.toList := ⟨_, rfl⟩
  rw [← hr]
  have HR := Lib.hid hr
  clear hr
  have ho0 := Lib.hid (own_empty w _ (Nat.le_refl _))
  have HB0 := Lib.hid ((Below.refl w.heap.size w).alloc (Nat.le_refl _) (.cells #[] 3))
  by_cases hle : p.size ≤ s.size
  rotate_left
  · have e : r = none := by
      rw [HR.out, rdW]
      cases hb : Lib.hasPrefix s.data.toList p.data.toList with
      | false => rfl
      | true => exact absurd (pre_len hb) hle
    subst e
    have hlt : (s.size : Int) < (p.size : Int) := by omega
    clear hle HR
    go_enter Try.func30, Try.ntmps30
    go_wp2
    go_ret2
    exact ⟨_, rfl, ho0.out, HB0.out⟩
  have hnl : ¬ (s.size : Int) < (p.size : Int) := by omega
  have hsl := fun W => sl_pre s p.size hle W
  cases hb : Lib.hasPrefix s.data.toList p.data.toList with
  | false =>
    have hne := pre_no s p hb
    have e : r = none := by rw [HR.out, rdW, hb]; rfl
    subst e
    clear hle HR hb
    go_enter Try.func30, Try.ntmps30
    go_wp2
    go_ret2
    exact ⟨_, rfl, ho0.out, HB0.out⟩
  | true =>
    have hne := pre_yes s p hb
    have e : r = dgs (sx s p.size) := by
      rw [HR.out, rdW, hb]
      have : p.data.toList.length = p.size := by simp
      rw [this]
      rfl
    have HE := Lib.hid e
    clear HR hb e
    obtain ⟨d, hd⟩ : ∃ d, s.size = p.size + d := ⟨s.size - p.size, by omega⟩
    by_cases h2 : d % 2 = 0
    rotate_left
    · have e : r = none := by rw [HE.out]; exact dgs_odd (by rw [sx_len]; omega)
      subst e
      have hd1 : ((s.size : Int) - (p.size : Int)) % 2 = 1 := by omega
      clear hd hle h2 HE
      go_enter Try.func30, Try.ntmps30
      go_wp2
      go_ret2
      exact ⟨_, rfl, ho0.out, HB0.out⟩
    have hd1 : ((s.size : Int) - (p.size : Int)) % 2 = 0 := by omega
    have HD := Lib.hid hd
    clear hd hle
    go_enter Try.func30, Try.ntmps30
    go_wp2
    go_loopw [6, 7] (fun v i wr => ∃ (m : Nat) (acc : List Int), i = .int .i64 m ∧ m ≤ s.size ∧ (s.size - m) % 2 = 0 ∧ acc.length ≤ m ∧ Hid (Own wr w.heap.size v acc) ∧ Hid (Below w.heap.size w wr) ∧ Hid (r = (dgs (sx s m)).map fun l => acc ++ l)) (fun _ i _ => s.size - (intOf i).toNat)
    case atStart =>
      refine ⟨p.size, [], rfl, by have := HD.out; omega, by have := HD.out; omega, Nat.zero_le _, ho0, HB0, ?_⟩
      rw [Hid, HE.out]
      cases dgs (sx s p.size) <;> rfl
    case round =>
      obtain ⟨m, acc, rfl, hms, hm2, hal, hown, hbl, HK⟩ := hrel
      clear ho0 HB0 HE
      by_cases hlt : m < s.size
      · obtain ⟨q, hq⟩ : ∃ q, q = m + 1 := ⟨_, rfl⟩
        have hqR : q < s.size := by omega
        have hw2 : IntKind.i64.wrap ((m : Int) + 1) = (q : Int) := by rw [IntWalk.i64_in _ (by omega)]; omega
        have HQ := Lib.hid hq
        have HBAD := Lib.hid (rd_bad HK.out hlt hqR hq)
        have HYES := Lib.hid (rd_step HK.out hlt hqR hq)
        have HOE := Lib.hid (own_empty wr w.heap.size hbl.out.size)
        have HBE := Lib.hid (hbl.out.alloc hbl.out.size (.cells #[] 3))
        clear hq
        by_cases h32 : s[m].toNat = 32
        rotate_left
        · have e := HBAD.out (fun h => h32 h.1)
          subst e
          have hne32 : ((s[m].toNat : Int) != 32) = true := by simp; omega
          clear HBAD HYES h32
          go_wp2
          go_ret2
          exact ⟨_, rfl, HOE.out, HBE.out⟩
        by_cases h48 : 48 ≤ s[q].toNat
        rotate_left
        · have e := HBAD.out (fun h => h48 h.2.1)
          subst e
          have hlt48 : (s[q].toNat : Int) < 48 := by omega
          clear HBAD HYES h48
          go_wp2
          go_ret2
          exact ⟨_, rfl, HOE.out, HBE.out⟩
        by_cases h57 : s[q].toNat ≤ 57
        rotate_left
        · have e := HBAD.out (fun h => h57 h.2.2)
          subst e
          have hlt57 : (57 : Int) < (s[q].toNat : Int) := by omega
          have hn48 : ¬ (s[q].toNat : Int) < 48 := by omega
          clear HBAD HYES h48 h57
          go_wp2
          go_ret2
          exact ⟨_, rfl, HOE.out, HBE.out⟩
        have HS2 := Lib.hid (HYES.out ⟨h32, h48, h57⟩)
        have hn48 : ¬ (s[q].toNat : Int) < 48 := by omega
        have hn57 : ¬ (57 : Int) < (s[q].toNat : Int) := by omega
        obtain ⟨v', w4, hrun, hown', hgrow⟩ := apI_runL hown.out hbl.out.size (by omega) ((s[q].toNat : Int) - 48)
        have HO4 := Lib.hid hown'
        have HB4 := Lib.hid (apI_below hown.out hgrow (Nat.le_refl _) hbl.out hbl.out.size)
        clear HYES HBAD HOE HBE hown' hgrow
        go_wp2
        go_roundw
        case rel => exact ⟨m + 2, acc ++ [(s[q].toNat : Int) - 48], by go_num, by have := HQ.out; omega, by have := HQ.out; omega, by simp; omega, HO4, HB4, HS2⟩
        case measure => simp [intOf]; omega
      · obtain rfl : m = s.size := by omega
        have e : r = some acc := rd_done HK.out
        subst e
        obtain ⟨A6, c6, ev⟩ := hown.out.slice
        subst ev
        go_wp2
        go_ret2
        exact ⟨_, rfl, hown.out, hbl.out⟩
end Go.Proofs.Ythfbllgfcidhkaa

namespace Go.Proofs.Ythfbllgfcidhkaa
open Go.ChangeShapes Go.WideShapes Go.ChangeAt Go.RowKit

abbrev PfB (w : World) (g : Nat) (cs : List Value) : Prop := w.heap[g]? = some (.cells cs.toArray 50 (0, 0))
def ldP (p : Addr) : Sem Value := loadVar 50 p
def stP (p : Addr) (v : Value) : Sem Unit := storeVar 50 p v
theorem ldP_fold (p : Addr) : loadVar 50 p = ldP p := rfl
theorem stP_fold (p : Addr) (v : Value) : storeVar 50 p v = stP p v := rfl
theorem pf_size : (Try.prog.info? 50).map (·.size) = some 3 := by kernel_rfl
theorem ldP_run {w : World} {g : Nat} {cs : List Value} (h : PfB w g cs) (hl : cs.length = 3) : (ldP ⟨g, 0, none⟩).run Try.prog w = .ok (.agg cs.toArray) w :=
  run_loadVar_row (P := Try.prog) w g 50 50 _ (0, 0) _ h Try.underlying50 rfl (by rw [pf_size]; simp [hl])
theorem stP_run {w : World} {g : Nat} {cs ds : List Value} (h : PfB w g cs) (hl : cs.length = 3) (hd : ds.length = 3) (h1 : ∀ v ∈ ds, v.oneCell' = true) : ∃ w', (stP ⟨g, 0, none⟩ (.agg ds.toArray)).run Try.prog w = .ok () w' ∧ PfB w' g ds ∧ w.grownBy w' (some g) ∧ w'.heap.size = w.heap.size := by
  refine ⟨w.setRow g ds.toArray, ?_, ?_, ?_, ?_⟩
  · have hs := run_storeCells_at Try.prog g 0 50 ds 0 _ w h (by simp [hl, hd]) h1
    cases hq : Try.prog.info? 50 with
    | none => have := pf_size; simp [hq] at this
    | some i =>
      have hsz : i.size = 3 := by have := pf_size; simpa [hq] using this
      have e : cs.toArray.toList.take 0 ++ ds ++ cs.toArray.toList.drop (0 + 0 + ds.length) = ds := by simp [hl, hd]
      simp only [Nat.add_zero] at hs
      unfold stP
      simp [storeVar, sizeOf, typeInfo, hq, Value.cells, hsz, hd, hs]
      rw [List.drop_eq_nil_of_le (by simp [hl])]
      simp
  · exact setRow_heap w g _ _ _ _ h
  · exact ⟨rfl, rfl, rfl, by simp, fun k _ hk => setRow_other w g k _ (fun e => hk (by simp [e]))⟩
  · simp
theorem PfB.keep {w w' : World} {g D : Nat} {cs : List Value} (h : PfB w g cs) (hb : Below D w w') (hD : g < D) : PfB w' g cs := (hb.block g hD).trans h
/-- A result that is a proof and one more. -/
theorem results_pf2 {fn : Func} {p t : Tmp} (h : fn.results = #[.cell p 50, .tmp t]) (tmps : Array Value) (w : World) (g : Nat) (cs : List Value) (hP : cs.length = 3)
    (hp : tmps.getD p undef = .pointer (some ⟨g, 0, none⟩)) (hg : Hid (PfB w g cs)) : (results fn tmps).run Try.prog w = .ok (.tuple #[.agg cs.toArray, tmps.getD t undef]) w := by
  have hp' : tmps[p]?.getD undef = .pointer (some ⟨g, 0, none⟩) := by simpa using hp
  have hl := run_loadVar_row (P := Try.prog) w g 50 50 _ (0, 0) _ hg.out Try.underlying50 rfl (by rw [pf_size]; simp [hP])
  simp [results, h, hp', asAddr, hl]
theorem ret_pf2 {fn : Func} {R : Ending → World → Prop} {a : Act} {w : World} {p t : Tmp} (h : fn.results = #[.cell p 50, .tmp t]) (g : Nat) (cs : List Value) (hP : cs.length = 3) (hp : a.tmps.getD p undef = .pointer (some ⟨g, 0, none⟩))
    (hg : Hid (PfB w g cs)) (hd : a.defers = []) (hR : R (.returned (.tuple #[.agg cs.toArray, a.tmps.getD t undef])) w) : bodyPost Try.prog fn R .ret a w :=
  bodyPost_ret (results_pf2 h _ _ g cs hP hp hg) hd hR
end Go.Proofs.Ythfbllgfcidhkaa

namespace Go.Proofs.Ythfbllgfcidhkaa
open Go.ChangeShapes Go.WideShapes Go.ChangeAt Go.RowKit

set_option maxRecDepth 10000 in
theorem holds_Sw (x1 : Nat) (x2 : Nat) (p : ByteArray) (v : Value) (w : World) (r : Bool)
    (HC : Hid (∀ W, Below w.heap.size w W → Calls Try.prog 64 #[v, .pointer (some ⟨x1, 0, none⟩), .pointer (some ⟨x2, 0, none⟩)] W fun e w' => e = .returned (.bool r) ∧ Below W.heap.size W w')) :
    Calls Try.prog 61 #[.agg #[.string p, v, .func (.func 64) #[] #[.pointer (some ⟨x1, 0, none⟩), .pointer (some ⟨x2, 0, none⟩)]]] w fun e w' => e = .returned (.bool r) ∧ Below w.heap.size w w' := by
  go_enter Try.func61, Try.ntmps61
  go_wp2_with fail
  have hb0 := (Below.refl w.heap.size w).alloc (Nat.le_refl _) (.cells #[.string p, v, .func (.func 64) #[] #[.pointer (some ⟨x1, 0, none⟩), .pointer (some ⟨x2, 0, none⟩)]] 50)
  refine (HC.out _ hb0).mono ?_
  rintro e w1 ⟨rfl, hb1⟩
  have HB := Lib.hid (hb0.trans (hb1.mono hb0.size))
  clear hb0 hb1 HC
  go_wp2
  go_ret
  exact ⟨rfl, HB.out⟩

/-- What the reading of a proof hands back: the points that have been read, if the check tells so. -/
def RPSw (x1 : Nat) (x2 : Nat) (p : ByteArray) (r : Option (List Int)) (w : World) (e : Ending) (w' : World) : Prop :=
  match r with
  | none => e = .returned (.tuple #[.agg #[.string ⟨#[]⟩, .slice none 0 0, .nilFunc], .bool false]) ∧ Below w.heap.size w w'
  | some l => ∃ g, e = .returned (.tuple #[.agg #[.string p, .slice (some ⟨g, 0, none⟩) l.length l.length, .func (.func 64) #[] #[.pointer (some ⟨x1, 0, none⟩), .pointer (some ⟨x2, 0, none⟩)]], .bool true]) ∧ Below w.heap.size w w'

attribute [local go_sem ↓] ldP_fold stP_fold in
set_option maxRecDepth 10000 in
set_option maxHeartbeats 1000000 in
theorem readProof_Sw (x1 : Nat) (x2 : Nat) (s p : ByteArray) (w : World) (ck : List Int → Bool) (hs : s.size ≤ 1048576)
    (HC : Hid (∀ (l : List Int) (A : Option Addr) (c : Nat) (W : World), rdW p.data.toList s.data.toList = some l → Below w.heap.size w W → Rd W W.heap.size A l.length l → Calls Try.prog 64 #[.slice A l.length c, .pointer (some ⟨x1, 0, none⟩), .pointer (some ⟨x2, 0, none⟩)] W fun e w' => e = .returned (.bool (ck l)) ∧ Below W.heap.size W w')) :
    Calls Try.prog 36 #[.string s, .string p, .func (.func 64) #[] #[.pointer (some ⟨x1, 0, none⟩), .pointer (some ⟨x2, 0, none⟩)]] w (RPSw x1 x2 p ((rdW p.data.toList s.data.toList).filter ck) w) := by
  have hb0 := (Below.refl w.heap.size w).alloc (Nat.le_refl _) (.cells #[.string ⟨#[]⟩, .slice none 0 0, .nilFunc] 50)
  have hs0 := hb0.size
  have HR := Lib.hid (rdpI_any s p (w.alloc (.cells #[.string ⟨#[]⟩, .slice none 0 0, .nilFunc] 50)) hs)
  obtain ⟨r, hr⟩ : ∃ r, r = rdW p.data.toList s.data.toList := ⟨_, rfl⟩
  rw [← hr] at HR HC ⊢
  clear hr
  have hg0 := heap_alloc_new w (.cells #[.string ⟨#[]⟩, .slice none 0 0, .nilFunc] 50)
  have hz0 : (w.alloc (.cells #[.string ⟨#[]⟩, .slice none 0 0, .nilFunc] 50)).heap.size = w.heap.size + 1 := by simp
  have p00 : PfB (w.alloc (.cells #[.string ⟨#[]⟩, .slice none 0 0, .nilFunc] 50)) w.heap.size [.string ⟨#[]⟩, .slice none 0 0, .nilFunc] := hg0
  clear hg0
  cases r with
  | none =>
    go_enter Try.func36, Try.ntmps36
    go_wp2_with fail
    refine HR.out.mono ?_
    rintro e w1 ⟨rfl, hb1⟩
    have hl1 := hb1.size
    have p0 := p00.keep hb1 (by omega)
    obtain ⟨w2, hst1, p1, g1, z1⟩ := stP_run (ds := [.string p, .slice none 0 0, .func (.func 64) #[] #[.pointer (some ⟨x1, 0, none⟩), .pointer (some ⟨x2, 0, none⟩)]]) (heap_alloc_new w1 (.cells #[.string ⟨#[]⟩, .slice none 0 0, .nilFunc] 50)) rfl rfl (by simp [Value.oneCell'])
    have z1' : w2.heap.size = w1.heap.size + 1 := by rw [z1]; simp
    have q2 : PfB w2 w.heap.size [.string ⟨#[]⟩, .slice none 0 0, .nilFunc] := (g1.block _ (by simp; omega) (by simp; omega)).trans ((Below.heap_alloc w1 _ _ (by omega)).trans p0)
    obtain ⟨w3, hst2, p2, g2, z2⟩ := stP_run (ds := [.string ⟨#[]⟩, .slice none 0 0, .nilFunc]) q2 rfl rfl (by simp [Value.oneCell'])
    have HB : Hid (Below w.heap.size w w3) := Lib.hid ((((hb0.trans (hb1.mono hs0)).alloc (by omega) _).grown g1 (by simp; omega) (by simp; omega)).grown g2 (by omega) (by simp))
    have HP := Lib.hid p2
    clear p0 p1 p2 q2 g1 g2 p00 hb0 hb1
    go_wp2
    exact ret_pf2 rfl w.heap.size _ rfl rfl HP rfl ⟨rfl, HB.out⟩
  | some l =>
    have HR1 : Calls Try.prog 60 #[.string s, .string p] (w.alloc (.cells #[.string ⟨#[]⟩, .slice none 0 0, .nilFunc] 50)) fun e w' => e = .returned (.tuple #[.slice (some ⟨w.heap.size + 1, 0, none⟩) l.length l.length, .bool true]) ∧ Own w' (w.heap.size + 1) (.slice (some ⟨w.heap.size + 1, 0, none⟩) l.length l.length) l ∧ Below (w.heap.size + 1) (w.alloc (.cells #[.string ⟨#[]⟩, .slice none 0 0, .nilFunc] 50)) w' := by
      have h := HR.out
      unfold RdI at h
      simpa only [hz0] using h
    have HR2 := Lib.hid HR1
    clear HR1 HR
    go_enter Try.func36, Try.ntmps36
    go_wp2_with fail
    refine HR2.out.mono ?_
    rintro e w1 ⟨rfl, ho1, hb1⟩
    have hl1 := hb1.size
    have p0 := p00.keep hb1 (by omega)
    obtain ⟨w2, hst1, p1, g1, z1⟩ := stP_run (ds := [.string p, .slice (some ⟨w.heap.size + 1, 0, none⟩) l.length l.length, .func (.func 64) #[] #[.pointer (some ⟨x1, 0, none⟩), .pointer (some ⟨x2, 0, none⟩)]]) (heap_alloc_new w1 (.cells #[.string ⟨#[]⟩, .slice none 0 0, .nilFunc] 50)) rfl rfl (by simp [Value.oneCell'])
    have z1' : w2.heap.size = w1.heap.size + 1 := by rw [z1]; simp
    have q2 : PfB w2 w.heap.size [.string ⟨#[]⟩, .slice none 0 0, .nilFunc] := (g1.block _ (by simp; omega) (by simp; omega)).trans ((Below.heap_alloc w1 _ _ (by omega)).trans p0)
    have hb12 : Below w1.heap.size w1 w2 := ((Below.refl _ _).alloc (Nat.le_refl _) _).grown g1 (by simp) (by simp)
    have hld1 := ldP_run p1 rfl
    have hb02 : Below w.heap.size w w2 := (hb0.trans (hb1.mono (by omega))).trans (hb12.mono (by omega))
    have hrd2 : Rd w2 w2.heap.size (some ⟨w.heap.size + 1, 0, none⟩) l.length l := (ho1.rd.2.below hb12).more (by omega)
    have HC2 : Hid (∀ W, Below w2.heap.size w2 W → Calls Try.prog 64 #[.slice (some ⟨w.heap.size + 1, 0, none⟩) l.length l.length, .pointer (some ⟨x1, 0, none⟩), .pointer (some ⟨x2, 0, none⟩)] W fun e w' => e = .returned (.bool (ck l)) ∧ Below W.heap.size W w') :=
      fun W hW => HC.out l _ _ W rfl (hb02.trans (hW.mono hb02.size)) ((hrd2.below hW).more hW.size)
    have HH := Lib.hid (holds_Sw x1 x2 p _ w2 (ck l) HC2)
    have HB2 := Lib.hid hb02
    have P1 := Lib.hid p1
    have Q2 := Lib.hid q2
    clear p0 p1 q2 g1 p00 hb0 hb1 hb12 hb02 hrd2 HC2 HC ho1
    cases hck : ck l with
    | false =>
      rw [hck] at HH
      have e : (some l).filter ck = none := by simp [Option.filter, hck]
      have HE := Lib.hid e
      clear e
      go_wp2_with fail
      refine HH.out.mono ?_
      rintro e w3 ⟨rfl, hb3⟩
      have q3 := Q2.out.keep hb3 (by omega)
      obtain ⟨w4, hst2, p2, g2, z2⟩ := stP_run (ds := [.string ⟨#[]⟩, .slice none 0 0, .nilFunc]) q3 rfl rfl (by simp [Value.oneCell'])
      have HB : Hid (Below w.heap.size w w4) := Lib.hid ((HB2.out.trans (hb3.mono HB2.out.size)).grown g2 (by have := hb3.size; omega) (by simp))
      have HP := Lib.hid p2
      clear q3 p2 g2 hb3
      go_wp2
      exact ret_pf2 rfl w.heap.size _ rfl rfl HP rfl (by rw [HE.out]; exact ⟨rfl, HB.out⟩)
    | true =>
      rw [hck] at HH
      have e : (some l).filter ck = some l := by simp [Option.filter, hck]
      have HE := Lib.hid e
      clear e
      go_wp2_with fail
      refine HH.out.mono ?_
      rintro e w3 ⟨rfl, hb3⟩
      have q3 := Q2.out.keep hb3 (by omega)
      have p3 := P1.out.keep hb3 (by omega)
      have hld3 := ldP_run p3 rfl
      obtain ⟨w4, hst2, p2, g2, z2⟩ := stP_run (ds := [.string p, .slice (some ⟨w.heap.size + 1, 0, none⟩) l.length l.length, .func (.func 64) #[] #[.pointer (some ⟨x1, 0, none⟩), .pointer (some ⟨x2, 0, none⟩)]]) q3 rfl rfl (by simp [Value.oneCell'])
      have HB : Hid (Below w.heap.size w w4) := Lib.hid ((HB2.out.trans (hb3.mono HB2.out.size)).grown g2 (by have := hb3.size; omega) (by simp))
      have HP := Lib.hid p2
      clear q3 p2 g2 hb3 p3
      go_wp2
      exact ret_pf2 rfl w.heap.size _ rfl rfl HP rfl (by rw [HE.out]; exact ⟨_, rfl, HB.out⟩)
end Go.Proofs.Ythfbllgfcidhkaa

namespace Go.Proofs.Ythfbllgfcidhkaa
open Go.ChangeShapes Go.WideShapes Go.ChangeAt Go.RowKit

/-- Where swaps lead, one behind the other. -/
def goS : List Int → List Int → Option (List Int)
  | a, [] => some a
  | a, x :: xs => if x ∈ a then goS (swapL a x) xs else none
theorem goS_yes {a l : List Int} {k : Nat} (hk : k < l.length) (h : l.getD k 0 ∈ a) : goS a (l.drop k) = goS (swapL a (l.getD k 0)) (l.drop (k + 1)) := by
  have e : l.getD k 0 = l[k] := by simp [List.getD, hk]
  rw [e] at h ⊢
  rw [List.drop_eq_getElem_cons hk, goS, if_pos h]
theorem goS_no {a l : List Int} {k : Nat} (hk : k < l.length) (h : ¬ l.getD k 0 ∈ a) : goS a (l.drop k) = none := by
  have e : l.getD k 0 = l[k] := by simp [List.getD, hk]
  rw [e] at h
  rw [List.drop_eq_getElem_cons hk, goS, if_neg h]
theorem goS_end (a l : List Int) : goS a (l.drop l.length) = some a := by
  rw [List.drop_eq_nil_of_le (Nat.le_refl _)]; rfl
theorem tell_has {l : List Int} (h : Tell l) (x : Int) : x ∈ l ↔ 0 ≤ x ∧ x < l.length := ⟨fun hx => h.2.2.1 x hx, fun hx => h.has hx.1 hx.2⟩

theorem pad_inj2 {a b : List Int} (ha : ∀ x ∈ a, 0 ≤ x) (hb : ∀ x ∈ b, 0 ≤ x) : decide (padR a = padR b) = decide (a = b) := by
  rw [decide_eq_decide]
  refine ⟨fun h => ?_, fun h => by rw [h]⟩
  have := congrArg unpad h
  rwa [unpad_pad a ha, unpad_pad b hb] at this
theorem eq_ringP {P Q : List Int} (hP : P.length = 7) (hQ : Q.length = 7) (w : World) :
    (binOp .eql 59 (.agg (ints P).toArray) (.agg (ints Q).toArray)).run Try.prog w = .ok (.bool (decide (P = Q))) w := by
  obtain ⟨a0, a1, a2, a3, a4, a5, a6, rfl⟩ := seven hP
  obtain ⟨b0, b1, b2, b3, b4, b5, b6, rfl⟩ := seven hQ
  exact eq_ring w a0 a1 a2 a3 a4 a5 a6 b0 b1 b2 b3 b4 b5 b6

attribute [local go_sem ↓] ldR_fold stR_fold in
set_option maxRecDepth 10000 in
set_option maxHeartbeats 2000000 in
theorem leads_any (a b : List Int) (g1 g2 : Nat) (A : Option Addr) (c : Nat) (l : List Int) (w : World) (ha : Ring a) (hb : Ring b) (h1 : Arr w g1 (padR a)) (h2 : Arr w g2 (padR b)) (hl : l.length ≤ 1048576) (h : Rd w w.heap.size A l.length l) :
    Calls Try.prog 64 #[.slice A l.length c, .pointer (some ⟨g1, 0, none⟩), .pointer (some ⟨g2, 0, none⟩)] w fun e w' => e = .returned (.bool (decide (goS a l = some b))) ∧ Below w.heap.size w w' := by
  obtain ⟨n, hn⟩ : ∃ n, n = l.length := ⟨_, rfl⟩
  rw [← hn] at h hl ⊢
  have HN := Lib.hid hn
  have HR := Lib.hid h
  have g2lt : g2 < w.heap.size := (Array.getElem?_eq_some_iff.1 h2).1
  have H2 := Lib.hid h2
  have HLB := padR_length b hb.1.2.1
  have HLA := padR_length a ha.1.2.1
  obtain ⟨V, r1, a1, gv, zv⟩ := stR_run (Q := padR a) (new_ring w) rfl HLA
  have hbV : Below w.heap.size w V := ((Below.refl _ _).alloc (Nat.le_refl _) _).grown gv (by simp) (by simp)
  have l1 := ldR_run h1 HLA
  have HA1 := Lib.hid a1
  have HB1 := Lib.hid hbV
  have HRA := Lib.hid ha
  have HRB := Lib.hid hb
  obtain ⟨r, hr⟩ : ∃ r, r = goS a l := ⟨_, rfl⟩
  rw [← hr]
  have H0 : Hid (r = goS a (l.drop 0)) := by rw [Hid, hr, List.drop_zero]
  clear hn h h1 h2 a1 hbV ha hb hr gv
  go_enter Try.func64, Try.ntmps64
  go_wp2_with fail
  generalize hB : w.heap.size = B at *
  have HB := Lib.hid hB
  clear hB r1 l1
  go_loopw [11] (fun i wr => ∃ (k : Nat) (cur : List Int), k ≤ n ∧ i = .int .i64 k ∧ Hid (Ring cur) ∧ Hid (Arr wr B (padR cur)) ∧ Hid (Below B w wr) ∧ Hid (r = goS cur (l.drop k))) (fun i _ => n - (intOf i).toNat)
  case atStart => exact ⟨0, a, Nat.zero_le _, rfl, HRA, HA1, HB1, H0⟩
  case round =>
    obtain ⟨k, cur, hk, rfl, hrc, hac, hbl, hgo⟩ := hrel
    clear HA1 HB1 H0 HRA
    have hlc := padR_length cur hrc.out.1.2.1
    have l1 := ldR_run hac.out hlc
    by_cases hlt : k < n
    · have hR2 := HR.out.below hbl.out
      obtain ⟨bb, o, rfl, hbB, hcs⟩ := hR2.at_ (by omega)
      have hc := hcs k hlt
      have HY := Lib.hid (goS_yes (a := cur) (l := l) (k := k) (by rw [← HN.out]; exact hlt))
      have HNO := Lib.hid (goS_no (a := cur) (l := l) (k := k) (by rw [← HN.out]; exact hlt))
      have HH := Lib.hid (fun W x => has_any cur x W hrc.out.1.2.1 hrc.out.1.pos)
      clear hcs hR2
      generalize l.getD k 0 = x at hc HY HNO
      have hiff := tell_has hrc.out.1 x
      by_cases hx : 0 ≤ x ∧ x < cur.length
      · have hm := hiff.2 hx
        have HG : Hid (r = goS (swapL cur x) (l.drop (k + 1))) := by rw [Hid, hgo.out]; exact HY.out hm
        have HRN := Lib.hid (swapL_ring hrc.out.1 hm)
        have HSW := Lib.hid (fun W => swapped_any cur x W hrc.out.1 hm)
        have hd : decide (0 ≤ x ∧ x < cur.length) = true := by simpa using hx
        have HL7 := padR_length (swapL cur x) HRN.out.1.2.1
        clear hiff hm hx HY HNO hgo
        unfold agp at HH HSW
        go_wp2_with fail
        refine (HH.out _ x).mono ?_
        rintro e w1 ⟨rfl, hb1⟩
        rw [hd]
        have hac1 := hac.out.below hb1 hac.out.lt
        have l2 := ldR_run hac1 hlc
        have HBL1 := Lib.hid (hbl.out.trans (hb1.mono (Nat.le_of_lt hac.out.lt)))
        have HA1 := Lib.hid hac1
        clear hb1 hac1 HH
        go_wp2_with fail
        refine (HSW.out _).mono ?_
        rintro e w2 ⟨rfl, hb2⟩
        have hac2 := HA1.out.below hb2 HA1.out.lt
        obtain ⟨w3, r3, a3, g3, z3⟩ := stR_run (Q := padR (swapL cur x)) hac2 hlc HL7
        have HB3 : Hid (Below B w w3) := Lib.hid ((HBL1.out.trans (hb2.mono (Nat.le_of_lt HA1.out.lt))).grown g3 (Nat.le_of_lt hac2.lt) (by simp))
        have HA3 := Lib.hid a3
        clear hb2 hac2 a3 g3 HSW
        go_wp2
        go_roundw
        case rel => exact ⟨k + 1, swapL cur x, by omega, by go_num, HRN, HA3, HB3, HG⟩
        case measure => simp [intOf]; omega
      · have e : r = none := by rw [hgo.out]; exact HNO.out (fun hm => hx (hiff.1 hm))
        subst e
        have hd : decide (0 ≤ x ∧ x < cur.length) = false := by simpa using hx
        clear hiff hx HY HNO hgo
        unfold agp at HH
        go_wp2_with fail
        refine (HH.out _ x).mono ?_
        rintro e w1 ⟨rfl, hb1⟩
        rw [hd]
        have HBL1 := Lib.hid (hbl.out.trans (hb1.mono (Nat.le_of_lt hac.out.lt)))
        clear hb1 HH
        go_wp2
        go_ret
        exact ⟨rfl, by rw [HB.out]; exact HBL1.out⟩
    · obtain rfl : k = n := by omega
      have e : r = some cur := by rw [hgo.out, HN.out]; exact goS_end cur l
      have l2 := ldR_run (H2.out.below hbl.out g2lt) HLB
      have heq := fun W => eq_ringP hlc HLB W
      rw [pad_inj2 hrc.out.1.pos HRB.out.1.pos] at heq
      have e2 : decide (r = some b) = decide (cur = b) := by rw [e]; simp
      have HE := Lib.hid e2
      clear e e2 hgo
      go_wp2
      go_ret
      exact ⟨by rw [HE.out]; rfl, by rw [HB.out]; exact hbl.out⟩
end Go.Proofs.Ythfbllgfcidhkaa

namespace Go.Proofs.Ythfbllgfcidhkaa
open Go.ChangeShapes Go.WideShapes Go.ChangeAt Go.RowKit

abbrev swW : ByteArray := ⟨#[115, 119, 97, 112, 115]⟩
/-- The points of a proof of swaps. -/
def psL (a b : List Int) (s : ByteArray) : Option (List Int) := if TwoR a b then (rdW swW.data.toList s.data.toList).filter (fun l => decide (goS a l = some b)) else none
def psN (a b : List Int) (s : ByteArray) : Int := match psL a b s with | none => 0 | some l => (l.length : Int)

theorem boxes10 (w : World) (P Q : List Int) (W : World) (hW : W = (w.alloc (.cells (ints P).toArray 59)).alloc (.cells (ints Q).toArray 59)) :
    Arr W w.heap.size P ∧ Arr W (w.heap.size + 1) Q ∧ Below w.heap.size w W ∧ W.heap.size = w.heap.size + 2 := by
  subst hW
  have k1 : Arr (w.alloc (.cells (ints P).toArray 59)) w.heap.size P := heap_alloc_new w _
  have k2 := heap_alloc_new (w.alloc (.cells (ints P).toArray 59)) (.cells (ints Q).toArray 59)
  rw [show (w.alloc (.cells (ints P).toArray 59)).heap.size = w.heap.size + 1 by simp] at k2
  exact ⟨k1.alloc _, k2, ((Below.refl _ w).alloc (Nat.le_refl _) _).alloc (by simp) _, by simp⟩
theorem leadsTo_any (P Q : List Int) (w : World) :
    Calls Try.prog 44 #[.agg (ints P).toArray, .agg (ints Q).toArray] w fun e w' => e = .returned (.func (.func 64) #[] #[.pointer (some ⟨w.heap.size, 0, none⟩), .pointer (some ⟨w.heap.size + 1, 0, none⟩)]) ∧ Arr w' w.heap.size P ∧ Arr w' (w.heap.size + 1) Q ∧ Below w.heap.size w w' ∧ w'.heap.size = w.heap.size + 2 := by
  have HX := Lib.hid (boxes10 w P Q _ rfl)
  go_enter Try.func44, Try.ntmps44
  go_wp2
  go_ret
  exact ⟨by simp, HX.out⟩

attribute [local go_sem ↓] ldR_fold stR_fold stP_fold in
set_option maxRecDepth 10000 in
set_option maxHeartbeats 2000000 in
theorem psI_any (A0 : Option Addr) (n0 c0 : Nat) (A1 : Option Addr) (n1 c1 H : Nat) (l0 l1 : List Int) (s : ByteArray) (w : World) (h0 : Rd w H A0 n0 l0) (h1 : Rd w H A1 n1 l1) (hH : H ≤ w.heap.size) (hn0 : n0 ≤ 1048576) (hn1 : n1 ≤ 1048576) (hs : s.size ≤ 1048576) (hnc0 : n0 ≤ c0) (hcm0 : c0 ≤ 9223372036854775807) (hnc1 : n1 ≤ c1) (hcm1 : c1 ≤ 9223372036854775807) :
    Calls Try.prog 16 #[.slice A0 n0 c0, .slice A1 n1 c1, .string s] w fun e w' => e = .returned (.tuple #[.int .i64 (psN l0 l1 s), .bool (psL l0 l1 s).isSome]) ∧ Below w.heap.size w w' := by
  have HT := Lib.hid (two_any A0 n0 c0 A1 n1 c1 H l0 l1 w h0 h1 hH hn0 hn1 hnc0 hcm0 hnc1 hcm1)
  have H70 := ringP_length l0
  have H71 := ringP_length l1
  clear h0 h1
  by_cases ht : TwoR l0 l1
  rotate_left
  · have e : psL l0 l1 s = none := by rw [psL, if_neg ht]
    have e2 : psN l0 l1 s = 0 := by rw [psN, e]
    rw [e, e2]
    rw [twoNo ht] at HT
    clear ht e e2
    generalize ringP l0 = P0 at *
    generalize ringP l1 = P1 at *
    go_enter Try.func16, Try.ntmps16
    go_wp2_with fail
    refine HT.out.mono ?_
    rintro e W1 ⟨rfl, hb1⟩
    obtain ⟨V1, V, r1, r2, a1, a2, hb2, hs2⟩ := new_two W1 P0 P1 H70 H71
    have HB := Lib.hid (hb1.trans (hb2.mono hb1.size))
    clear hb1 hb2 a1 a2 hs2
    go_wp2
    go_ret2
    exact ⟨rfl, HB.out⟩
  have HPL : Hid (psL l0 l1 s = (rdW swW.data.toList s.data.toList).filter (fun l => decide (goS l0 l = some l1))) := by rw [Hid, psL, if_pos ht]
  have e0 : ringP l0 = padR l0 := by rw [ringP, if_pos ht.1]
  have e1 : ringP l1 = padR l1 := by rw [ringP, if_pos ht.2.1]
  rw [twoYes ht, e0, e1] at HT
  rw [e0] at H70
  rw [e1] at H71
  have HRD := Lib.hid ht
  clear ht e0 e1
  go_enter Try.func16, Try.ntmps16
  go_wp2_with fail
  refine HT.out.mono ?_
  rintro e W1 ⟨rfl, hb1⟩
  obtain ⟨V1, V, r1, r2, a1, a2, hb2, hs2⟩ := new_two W1 (padR l0) (padR l1) H70 H71
  have HB := Lib.hid (hb1.trans (hb2.mono hb1.size))
  have ld1 := ldR_run a1 H70
  have ld2 := ldR_run a2 H71
  clear hb1 hb2 a1 a2 hs2 HT
  go_wp2_with fail
  refine (leadsTo_any (padR l0) (padR l1) V).mono ?_
  rintro e w2 ⟨rfl, b1, b2, hb2, hs2⟩
  have HB2 := Lib.hid (HB.out.trans (hb2.mono HB.out.size))
  have HCK : Hid (∀ (l : List Int) (A : Option Addr) (c : Nat) (W : World), rdW swW.data.toList s.data.toList = some l → Below w2.heap.size w2 W → Rd W W.heap.size A l.length l → Calls Try.prog 64 #[.slice A l.length c, .pointer (some ⟨V.heap.size, 0, none⟩), .pointer (some ⟨V.heap.size + 1, 0, none⟩)] W fun e w' => e = .returned (.bool ((fun l => decide (goS l0 l = some l1)) l)) ∧ Below W.heap.size W w') := by
    intro l A c W hl hb hR
    have hlen := rdW_len hl
    have hsz : s.data.toList.length = s.size := by simp
    exact leads_any l0 l1 V.heap.size (V.heap.size + 1) A c l W HRD.out.1 HRD.out.2.1 (b1.below hb (by omega)) (b2.below hb (by omega)) (by omega) hR
  have HP := Lib.hid (readProof_Sw V.heap.size (V.heap.size + 1) s swW w2 (fun l => decide (goS l0 l = some l1)) hs HCK)
  have HPN : Hid (psN l0 l1 s = match psL l0 l1 s with | none => 0 | some l => (l.length : Int)) := rfl
  obtain ⟨r, hr⟩ : ∃ r, r = (rdW swW.data.toList s.data.toList).filter (fun l => decide (goS l0 l = some l1)) := ⟨_, rfl⟩
  rw [← hr] at HP HPL
  clear hr HCK b1 b2 hb2 HB
  cases r with
  | none =>
    go_wp2_with fail
    refine HP.out.mono ?_
    rintro e w3 ⟨rfl, hb3⟩
    obtain ⟨w4, hst, p1, g1, z1⟩ := stP_run (ds := [.string ⟨#[]⟩, .slice none 0 0, .nilFunc]) (heap_alloc_new w3 (.cells #[.string ⟨#[]⟩, .slice none 0 0, .nilFunc] 50)) rfl rfl (by simp [Value.oneCell'])
    have HB4 := Lib.hid (((HB2.out.trans (hb3.mono HB2.out.size)).alloc (by have := HB2.out.size; have := hb3.size; omega) _).grown g1 (by have := HB2.out.size; have := hb3.size; simp; omega) (by have := HB2.out.size; have := hb3.size; simp; omega))
    have c1 : w4.cell? ⟨w3.heap.size, 1, none⟩ = some (.slice none 0 0) := by rw [cell_of_row w4 w3.heap.size 1 _ _ _ p1]; rfl
    clear p1 g1 hb3
    go_wp2
    go_ret2
    exact ⟨by rw [HPN.out, HPL.out]; rfl, HB4.out⟩
  | some l =>
    go_wp2_with fail
    refine HP.out.mono ?_
    rintro e w3 ⟨g, rfl, hb3⟩
    obtain ⟨w4, hst, p1, g1, z1⟩ := stP_run (ds := [.string swW, .slice (some ⟨g, 0, none⟩) l.length l.length, .func (.func 64) #[] #[.pointer (some ⟨V.heap.size, 0, none⟩), .pointer (some ⟨V.heap.size + 1, 0, none⟩)]]) (heap_alloc_new w3 (.cells #[.string ⟨#[]⟩, .slice none 0 0, .nilFunc] 50)) rfl rfl (by simp [Value.oneCell'])
    have HB4 := Lib.hid (((HB2.out.trans (hb3.mono HB2.out.size)).alloc (by have := HB2.out.size; have := hb3.size; omega) _).grown g1 (by have := HB2.out.size; have := hb3.size; simp; omega) (by have := HB2.out.size; have := hb3.size; simp; omega))
    have c1 : w4.cell? ⟨w3.heap.size, 1, none⟩ = some (.slice (some ⟨g, 0, none⟩) l.length l.length) := by rw [cell_of_row w4 w3.heap.size 1 _ _ _ p1]; rfl
    clear p1 g1 hb3
    go_wp2
    go_ret2
    exact ⟨by rw [HPN.out, HPL.out]; rfl, HB4.out⟩
end Go.Proofs.Ythfbllgfcidhkaa

namespace Go.Proofs.Ythfbllgfcidhkaa
open Go.ChangeShapes Go.WideShapes Go.ChangeAt Go.RowKit

set_option maxRecDepth 10000 in
set_option maxHeartbeats 2000000 in
theorem psS_any (A0 : Option Addr) (n0 c0 : Nat) (A1 : Option Addr) (n1 c1 H : Nat) (l0 l1 : List Int) (s : ByteArray) (w : World) (h0 : Rd w H A0 n0 l0) (h1 : Rd w H A1 n1 l1) (hH : H ≤ w.heap.size) (hn0 : n0 ≤ 1048576) (hn1 : n1 ≤ 1048576) (hs : s.size ≤ 1048576) :
    Calls Try.prog 14 #[.slice A0 n0 c0, .slice A1 n1 c1, .string s] w fun e w' => e = .returned (.tuple #[.int .i64 (psN l0 l1 s), .bool (psL l0 l1 s).isSome]) ∧ Below w.heap.size w w' := by
  have HR := Lib.hid (rdpS_any s swW w hs (by decide))
  have HLE : Hid (∀ l, rdW swW.data.toList s.data.toList = some l → 2 * l.length ≤ s.size) := Lib.hid (fun l hl => by
    have h1 := rdW_len hl
    have h2 : s.data.toList.length = s.size := by simp
    omega)
  have HPN : Hid (psN l0 l1 s = match psL l0 l1 s with | none => 0 | some l => (l.length : Int)) := rfl
  obtain ⟨r, hr⟩ : ∃ r, r = rdW swW.data.toList s.data.toList := ⟨_, rfl⟩
  have HPL : Hid (psL l0 l1 s = if TwoR l0 l1 then r.filter (fun l => decide (goS l0 l = some l1)) else none) := by rw [Hid, hr, psL]
  rw [← hr] at HR HLE
  have HT := Lib.hid (fun W (hb : Below w.heap.size w W) => twoS_any A0 n0 c0 A1 n1 c1 H l0 l1 W (h0.below (hb.mono hH)) (h1.below (hb.mono hH)) hn0 hn1)
  clear hr
  cases r with
  | none =>
    have e : psL l0 l1 s = none := by rw [HPL.out]; split <;> rfl
    have e2 : psN l0 l1 s = 0 := by rw [HPN.out, e]
    rw [e, e2]
    clear e e2 h0 h1
    go_enter Try.func14, Try.ntmps14
    go_wp2_with (go_at_call 30; refine HR.out.mono ?_; rintro e w1 ⟨v, rfl, _, hb1⟩)
    go_ret2
    exact ⟨rfl, hb1⟩
  | some l =>
    by_cases ht : TwoR l0 l1
    rotate_left
    · have e : psL l0 l1 s = none := by rw [HPL.out, if_neg ht]
      have e2 : psN l0 l1 s = 0 := by rw [HPN.out, e]
      rw [e, e2]
      rw [twoNo ht] at HT
      clear e e2 h0 h1 ht
      go_enter Try.func14, Try.ntmps14
      go_wp2_with (first
        | (go_at_call 30; refine HR.out.mono ?_; rintro e w1 ⟨v, rfl, _, hb1⟩)
        | (go_at_call 39; refine (HT.out _ hb1).mono ?_; rintro e w2 ⟨rfl, hw⟩; rw [← hw]; clear hw))
      go_ret2
      exact ⟨rfl, hb1⟩
    have HPL2 : Hid (psL l0 l1 s = if decide (goS l0 l = some l1) then some l else none) := by
      rw [Hid, HPL.out, if_pos ht]
      cases h : decide (goS l0 l = some l1) <;> simp [Option.filter, h]
    have L0 := h0.len
    have L1 := h1.len
    have hl9 : 2 * l.length ≤ 1048576 := by have := HLE.out l rfl; omega
    rw [twoYes ht] at HT
    have H0 := Lib.hid (fun W (hb : Below w.heap.size w W) => (h0.below (hb.mono hH)).more (Nat.le_trans hH hb.size))
    have H1 := Lib.hid (fun W (hb : Below w.heap.size w W) => (h1.below (hb.mono hH)).more (Nat.le_trans hH hb.size))
    have HRA := Lib.hid ht.1
    have hn7 : n0 ≤ 7 := by have := ht.1.1.2.1; omega
    have hn3 : 3 ≤ n0 := by have := ht.1.1.1; omega
    clear h0 h1 HPL ht HLE
    obtain ⟨z, hz⟩ : ∃ z, z = l.length := ⟨_, rfl⟩
    have HZ := Lib.hid hz
    have HG0 : Hid (goS l0 l = goS l0 (l.drop 0)) := by rw [Hid, List.drop_zero]
    go_enter Try.func14, Try.ntmps14
    rw [← hz] at hl9
    go_wp2_with (first
      | (go_at_call 30; refine HR.out.mono ?_; rintro e w1 ⟨v, rfl, ho, hb1⟩; obtain ⟨Ax, cx, rfl⟩ := ho.slice)
      | (go_at_call 39; refine (HT.out _ hb1).mono ?_; rintro e w2 ⟨rfl, hw⟩; rw [← hw]; clear hw))
    have hx2 : Rd w1 w1.heap.size Ax l.length l := ho.rd.2
    rw [← hz] at hx2 ⊢
    have HX := Lib.hid hx2
    have HA := Lib.hid (H0.out w1 hb1)
    have HB := Lib.hid (H1.out w1 hb1)
    have HB1 := Lib.hid hb1
    clear ho hz hb1 hx2 H0 H1 HR HT
    go_loopw [0, 10] (fun a i wr => ∃ (k : Nat) (cur : List Int) (A : Option Addr) (c : Nat), k ≤ z ∧ a = .slice A n0 c ∧ i = .int .i64 k ∧ Hid (Ring cur) ∧ cur.length = n0 ∧ Hid (Rd wr wr.heap.size A n0 cur) ∧ Hid (Below w1.heap.size w1 wr) ∧ Hid (goS l0 l = goS cur (l.drop k))) (fun _ i _ => z - (intOf i).toNat)
    case atStart => exact ⟨0, l0, A0, c0, Nat.zero_le _, rfl, rfl, HRA, L0, HA, Lib.hid (Below.refl _ _), HG0⟩
    case round =>
      obtain ⟨k, cur, A, c, hk, rfl, rfl, hrc, hcl, hrd, hbl, hgo⟩ := hrel
      clear HRA HA HG0
      by_cases hlt : k < z
      · have hX2 := HX.out.below hbl.out
        obtain ⟨bb, o, rfl, hbB, hcs⟩ := hX2.at_ (by omega)
        have hc := hcs k hlt
        have HY := Lib.hid (goS_yes (a := cur) (l := l) (k := k) (by rw [← HZ.out]; exact hlt))
        have HNO := Lib.hid (goS_no (a := cur) (l := l) (k := k) (by rw [← HZ.out]; exact hlt))
        clear hcs hX2
        generalize l.getD k 0 = x at hc HY HNO
        have hiff := tell_has hrc.out.1 x
        have hw1 : IntKind.i64.wrap ((n0 : Int) - 1) = (n0 : Int) - 1 := IntWalk.i64_in _ (by omega)
        by_cases hx : 0 ≤ x ∧ x < cur.length
        · have hm := hiff.2 hx
          have HG : Hid (goS l0 l = goS (swapL cur x) (l.drop (k + 1))) := by rw [Hid, hgo.out]; exact HY.out hm
          have HRN := Lib.hid (swapL_ring hrc.out.1 hm)
          have HIN := Lib.hid (fun W => in_yes x 0 ((n0 : Int) - 1) W (by simp; omega))
          have HSW := Lib.hid (l5At_any A n0 c wr.heap.size cur x wr hrd.out (Nat.le_refl _) hrc.out.1 hm)
          have hL7 : (swapL cur x).length = n0 := by rw [swapL_length, hcl]
          clear hiff hm hx HY HNO hgo
          go_wp2_with (first
            | (go_at_call 40; refine (HIN.out _).mono ?_; rintro e w' ⟨rfl, hw⟩; rw [hw]; clear hw)
            | (go_at_call 41; refine HSW.out.mono ?_; rintro e w3 ⟨v3, rfl, ho3, hb3⟩; obtain ⟨A3, c3, rfl⟩ := ho3.slice))
          go_roundw
          case rel =>
            have hrd3 := ho3.rd.2
            rw [hL7] at hrd3
            exact ⟨k + 1, swapL cur x, A3, c3, by omega, rfl, by go_num, HRN, hL7, Lib.hid hrd3, Lib.hid (hbl.out.trans (hb3.mono hbl.out.size)), HG⟩
          case measure => simp [intOf]; omega
        · have e : goS l0 l = none := by rw [hgo.out]; exact HNO.out (fun hm => hx (hiff.1 hm))
          have e1 : psL l0 l1 s = none := by rw [HPL2.out, e]; rfl
          have e2 : psN l0 l1 s = 0 := by rw [HPN.out, e1]
          have E1 := Lib.hid e1
          have E2 := Lib.hid e2
          have HIN := Lib.hid (fun W => in_no x 0 ((n0 : Int) - 1) W (by simp; omega))
          clear hiff hx HY HNO hgo e e1 e2
          go_wp2_with (go_at_call 40; refine (HIN.out _).mono ?_; rintro e w' ⟨rfl, hw⟩; rw [hw]; clear hw)
          go_ret2
          exact ⟨by rw [E1.out, E2.out]; rfl, HB1.out.trans (hbl.out.mono HB1.out.size)⟩
      · obtain rfl : k = z := by omega
        have e : goS l0 l = some cur := by rw [hgo.out, HZ.out]; exact goS_end cur l
        have HEQ := Lib.hid (eqS6_drew A A1 n0 n1 c c1 cur l1 wr.heap.size wr hrd.out ((HB.out.below hbl.out).more hbl.out.size) hn0 hn1)
        have HBW := Lib.hid (HB1.out.trans (hbl.out.mono HB1.out.size))
        by_cases hcb : cur = l1
        · have e1 : psL l0 l1 s = some l := by rw [HPL2.out, e, hcb]; simp
          have e2 : psN l0 l1 s = (k : Int) := by rw [HPN.out, e1, HZ.out]
          have hsm : same cur l1 = true := by simp [same, hcb]
          rw [hsm] at HEQ
          have E1 := Lib.hid e1
          have E2 := Lib.hid e2
          clear e e1 e2 hsm hgo
          go_wp2_with (go_at_call 42; refine HEQ.out.mono ?_; rintro e w' ⟨rfl, p, rfl⟩)
          go_ret2
          exact ⟨by rw [E1.out, E2.out]; rfl, below_drewN HBW.out _⟩
        · have e1 : psL l0 l1 s = none := by rw [HPL2.out, e]; simp [hcb]
          have e2 : psN l0 l1 s = 0 := by rw [HPN.out, e1]
          have hsm : same cur l1 = false := by simp [same, hcb]
          rw [hsm] at HEQ
          have E1 := Lib.hid e1
          have E2 := Lib.hid e2
          clear e e1 e2 hsm hgo
          go_wp2_with (go_at_call 42; refine HEQ.out.mono ?_; rintro e w' ⟨rfl, p, rfl⟩)
          go_ret2
          exact ⟨by rw [E1.out, E2.out]; rfl, below_drewN HBW.out _⟩
end Go.Proofs.Ythfbllgfcidhkaa

/- merged -/
import Derived.Test.YthfbllgfcidhkaaBase
import Derived.Lib.Strings
import Derived.Test.YthfbllgfcidhkaaPdL
import Derived.BigQuiet
import Derived.Deep.QuietTactic
import Derived.Test.YthfbllgfcidhkaaKit
import Derived.Test.YthfbllgfcidhkaaOwn
import Derived.Laws.DeepStrings4
import Derived.Laws.Strings3
import Derived.Lib.IndexEntry
import Derived.Test.YthfbllgfcidhkaaFold
import Derived.Test.YthfbllgfcidhkaaList
import Derived.Test.YthfbllgfcidhkaaMWork
import Derived.Test.YthfbllgfcidhkaaReadT
import Derived.Test.YthfbllgfcidhkaaRingT
import Derived.Test.YthfbllgfcidhkaaCodS
namespace Go.Proofs.Ythfbllgfcidhkaa
open Go.ChangeShapes Go.WideShapes Go.ChangeAt Go.RowKit

def dgs : List UInt8 → Option (List Int)
  | [] => some []
  | [_] => none
  | a :: b :: r => if a.toNat = 32 ∧ 48 ≤ b.toNat ∧ b.toNat ≤ 57 then (dgs r).map (fun l => ((b.toNat : Int) - 48) :: l) else none
theorem dgs_nil : dgs [] = some [] := rfl
theorem dgs_yes (a b : UInt8) (r : List UInt8) (h : a.toNat = 32 ∧ 48 ≤ b.toNat ∧ b.toNat ≤ 57) : dgs (a :: b :: r) = (dgs r).map (fun l => ((b.toNat : Int) - 48) :: l) := by rw [dgs, if_pos h]
theorem dgs_no (a b : UInt8) (r : List UInt8) (h : ¬ (a.toNat = 32 ∧ 48 ≤ b.toNat ∧ b.toNat ≤ 57)) : dgs (a :: b :: r) = none := by rw [dgs, if_neg h]
theorem dgs_all (s : List UInt8) : (s.length % 2 = 1 → dgs s = none) ∧ ∀ l, dgs s = some l → s.length = 2 * l.length ∧ ∀ x ∈ l, 0 ≤ x ∧ x ≤ 9 := by
  induction s using dgs.induct with
  | case1 => exact ⟨fun h => by simp at h, fun l h => by rw [dgs] at h; obtain rfl := Option.some.inj h; simp⟩
  | case2 a => exact ⟨fun _ => rfl, fun l h => by rw [dgs] at h; cases h⟩
  | case3 a b r hg ih =>
    refine ⟨fun h => ?_, fun l h => ?_⟩
    · rw [dgs_yes _ _ _ hg, ih.1 (by simp at h; omega)]; rfl
    · rw [dgs_yes _ _ _ hg] at h
      rcases hr : dgs r with _ | l'
      · rw [hr] at h; cases h
      · rw [hr] at h
        obtain rfl := Option.some.inj h
        obtain ⟨h1, h2⟩ := ih.2 l' hr
        refine ⟨by simp; omega, fun x hx => ?_⟩
        rcases List.mem_cons.1 hx with rfl | hx
        · omega
        · exact h2 x hx
  | case4 a b r hg =>
    exact ⟨fun _ => dgs_no _ _ _ hg, fun l h => by rw [dgs_no _ _ _ hg] at h; cases h⟩
theorem dgs_len {s : List UInt8} {l : List Int} (h : dgs s = some l) : s.length = 2 * l.length := ((dgs_all s).2 l h).1
theorem dgs_bd {s : List UInt8} {l : List Int} (h : dgs s = some l) : ∀ x ∈ l, 0 ≤ x ∧ x ≤ 9 := ((dgs_all s).2 l h).2
theorem dgs_odd {s : List UInt8} (h : s.length % 2 = 1) : dgs s = none := (dgs_all s).1 h

/-- The points behind a word. -/
def rdW (word s : List UInt8) : Option (List Int) := if Lib.hasPrefix s word then dgs (s.drop word.length) else none
theorem rdW_bd {word s : List UInt8} {l : List Int} (h : rdW word s = some l) : ∀ x ∈ l, 0 ≤ x ∧ x ≤ 9 := by
  unfold rdW at h
  split at h
  · exact dgs_bd h
  · cases h
theorem rdW_len {word s : List UInt8} {l : List Int} (h : rdW word s = some l) : 2 * l.length ≤ s.length := by
  unfold rdW at h
  split at h
  · have := dgs_len h
    simp at this
    omega
  · cases h

/-- What is left of a text from a place on. -/
def sx (s : ByteArray) (k : Nat) : List UInt8 := s.data.toList.drop k
theorem sx_cons (s : ByteArray) (k : Nat) (h : k < s.size) : sx s k = s[k] :: sx s (k + 1) := by
  unfold sx
  rw [List.drop_eq_getElem_cons (by simpa using h)]
  rfl
theorem sx_two (s : ByteArray) (k : Nat) (h : k + 1 < s.size) : sx s k = s[k] :: s[k + 1] :: sx s (k + 2) := by
  rw [sx_cons s k (by omega), sx_cons s (k + 1) h]
theorem sx_end (s : ByteArray) : sx s s.size = [] := by unfold sx; exact List.drop_eq_nil_of_le (by simp)
theorem sx_len (s : ByteArray) (k : Nat) : (sx s k).length = s.size - k := by simp [sx]
theorem sx_zero (s : ByteArray) : sx s 0 = s.data.toList := rfl

/-- A round of the reading: the acc is what has been read. -/
theorem rd_step {r : Option (List Int)} {s : ByteArray} {p q : Nat} {acc : List Int} (h : r = (dgs (sx s p)).map fun l => acc ++ l) (hp : p < s.size) (hq : q < s.size) (e : q = p + 1)
    (hg : s[p].toNat = 32 ∧ 48 ≤ s[q].toNat ∧ s[q].toNat ≤ 57) : r = (dgs (sx s (p + 2))).map fun l => (acc ++ [(s[q].toNat : Int) - 48]) ++ l := by
  subst e
  rw [h, sx_two s p hq, dgs_yes _ _ _ hg, Option.map_map]
  congr 1
  funext l
  simp
theorem rd_bad {r : Option (List Int)} {s : ByteArray} {p q : Nat} {acc : List Int} (h : r = (dgs (sx s p)).map fun l => acc ++ l) (hp : p < s.size) (hq : q < s.size) (e : q = p + 1)
    (hg : ¬ (s[p].toNat = 32 ∧ 48 ≤ s[q].toNat ∧ s[q].toNat ≤ 57)) : r = none := by
  subst e
  rw [h, sx_two s p hq, dgs_no _ _ _ hg]; rfl
theorem rd_done {r : Option (List Int)} {s : ByteArray} {acc : List Int} (h : r = (dgs (sx s s.size)).map fun l => acc ++ l) : r = some acc := by
  rw [h, sx_end]; simp [dgs]

/-- A word and points, told. -/
def told (word : List UInt8) (l : List Int) : List UInt8 := word ++ l.flatMap fun x => [32, UInt8.ofNat (48 + x.toNat)]
theorem told_snoc (word : List UInt8) (l : List Int) (x : Int) : told word (l ++ [x]) = told word l ++ [32, UInt8.ofNat (48 + x.toNat)] := by simp [told]
theorem told_len (word : List UInt8) (l : List Int) : (told word l).length = word.length + 2 * l.length := by
  induction l with
  | nil => simp [told]
  | cons x l ih => simp [told] at ih ⊢; omega
end Go.Proofs.Ythfbllgfcidhkaa

namespace Go.Proofs.Ythfbllgfcidhkaa
open Go.ChangeShapes Go.WideShapes Go.ChangeAt Go.RowKit

theorem cutp_any (s p : ByteArray) (w : World) :
    Calls Try.prog 88 #[.string s, .string p] w fun e w' => e = .returned (.tuple #[.string ⟨(Lib.trimPrefix s.data.toList p.data.toList).toArray⟩, .bool (Lib.hasPrefix s.data.toList p.data.toList)]) ∧ w' = w :=
  Any.strings_CutPrefix Try.lays103 s p w

theorem set_mid (acc : List Int) (m : Nat) (x : Int) : (acc ++ List.replicate (m + 1) 0).set acc.length x = (acc ++ [x]) ++ List.replicate m 0 := by
  rw [List.set_append_right _ _ (Nat.le_refl _), Nat.sub_self, List.replicate_succ, List.set_cons_zero, List.append_assoc]
  rfl

/-- What the program's reading hands back. -/
def RdI (r : Option (List Int)) (w : World) (e : Ending) (w' : World) : Prop :=
  match r with
  | none => e = .returned (.tuple #[.slice none 0 0, .bool false]) ∧ Below w.heap.size w w'
  | some l => e = .returned (.tuple #[.slice (some ⟨w.heap.size, 0, none⟩) l.length l.length, .bool true]) ∧ Own w' w.heap.size (.slice (some ⟨w.heap.size, 0, none⟩) l.length l.length) l ∧ Below w.heap.size w w'

set_option maxRecDepth 10000 in
set_option maxHeartbeats 1000000 in
theorem rdpI_any (s p : ByteArray) (w : World) (hs : s.size ≤ 1048576) :
    Calls Try.prog 60 #[.string s, .string p] w (RdI (rdW p.data.toList s.data.toList) w) := by
  have HC := Lib.hid (fun w => cutp_any s p w)
  cases hp : Lib.hasPrefix s.data.toList p.data.toList with
  | false =>
    have e : rdW p.data.toList s.data.toList = none := by unfold rdW; rw [hp]; rfl
    rw [e]
    rw [hp] at HC
    clear e hp
    go_enter Try.func60, Try.ntmps60
    go_wp2_with (go_at_call 88; refine (HC.out _).mono ?_; rintro e w' ⟨rfl, hw⟩; rw [hw]; clear hw)
    go_ret2
    exact ⟨rfl, Below.refl _ _⟩
  | true =>
    have e : rdW p.data.toList s.data.toList = dgs (s.data.toList.drop p.data.toList.length) := by unfold rdW; rw [hp]; rfl
    have et : Lib.trimPrefix s.data.toList p.data.toList = s.data.toList.drop p.data.toList.length := by unfold Lib.trimPrefix; rw [hp]; rfl
    rw [hp, et] at HC
    obtain ⟨R, hR⟩ : ∃ R : ByteArray, R = ⟨(s.data.toList.drop p.data.toList.length).toArray⟩ := ⟨_, rfl⟩
    have hRl : R.data.toList = s.data.toList.drop p.data.toList.length := by rw [hR]
    have hRs : R.size ≤ 1048576 := by
      have h1 : R.size = R.data.toList.length := by simp
      rw [h1, hRl, List.length_drop]
      have : s.data.toList.length = s.size := by simp
      omega
    rw [← hR] at HC
    rw [e, ← hRl]
    obtain ⟨r, hr⟩ : ∃ r, r = dgs R.data.toList := ⟨_, rfl⟩
    rw [← hr]
    have HR := Lib.hid hr
    clear e et hR hRl hr hp
    by_cases h2 : R.size % 2 = 0
    rotate_left
    · have h1 : R.data.toList.length = R.size := by simp
      have e : r = none := by rw [HR.out]; exact dgs_odd (by rw [h1]; omega)
      rw [e]
      have hn' : (R.size : Int) % 2 = 1 := by omega
      clear e HR
      go_enter Try.func60, Try.ntmps60
      go_wp2_with (go_at_call 88; refine (HC.out _).mono ?_; rintro e w' ⟨rfl, hw⟩; rw [hw]; clear hw)
      go_ret2
      exact ⟨rfl, Below.refl _ _⟩
    obtain ⟨z, hz⟩ : ∃ z, R.size = 2 * z := ⟨R.size / 2, by omega⟩
    obtain ⟨i0, hi, hz0, hz1, hz2⟩ := info_parts int_info
    have HZ := Lib.hid hz
    have hn' : (R.size : Int) % 2 = 0 := by omega
    have hq' : (R.size : Int) / 2 = (z : Int) := by omega
    have hz19 : z ≤ 1048576 := by omega
    clear hz h2
    go_enter Try.func60, Try.ntmps60
    go_wp2_with (first
      | (go_at_call 88; refine (HC.out _).mono ?_; rintro e w' ⟨rfl, hw⟩; rw [hw]; clear hw)
      | (at_make; refine wpList_make_full _ rfl _ _ 27 rfl w.heap.size 3 i0 (.int .i64 0) 1 Try.underlying27 hi hz0 hz1 .i64 .i64 _ _ z rfl rfl rfl rfl (by rw [hz2]; omega) (by unfold maxLen; omega) (Nat.le_refl _) ?_))
    intro w1 hown hgrow
    have hb1 : Below w.heap.size w w1 := (Below.refl _ _).grown hgrow (Nat.le_refl _) (by simp)
    have ho1 : w1.ownsRow w.heap.size 3 1 (.slice (some ⟨w.heap.size, 0, none⟩) z z) z (ints (([] : List Int) ++ List.replicate z 0)) := by
      have e : ints (([] : List Int) ++ List.replicate z 0) = (madeCells #[Value.int IntKind.i64 0] z).toList := by
        rw [toList_madeCells_one]
        simp [ints]
      rw [e]
      simpa using hown
    have HE : Hid (r = (dgs (sx R 0)).map fun l => ([] : List Int) ++ l) := by
      rw [Hid, HR.out, sx_zero]
      cases dgs R.data.toList <;> rfl
    clear hown hgrow HR
    generalize hB : w.heap.size = B at *
    have HB := Lib.hid hB
    clear hB
    go_wp2
    go_loopw [32] (fun i wr => ∃ (k : Nat) (acc : List Int), k ≤ z ∧ i = .int .i64 k ∧ acc.length = k ∧ wr.ownsRow B 3 1 (.slice (some ⟨B, 0, none⟩) z z) z (ints (acc ++ List.replicate (z - k) 0)) ∧ Below B w wr ∧ Hid (r = (dgs (sx R (2 * k))).map fun l => acc ++ l)) (fun i _ => z - (intOf i).toNat)
    case atStart => exact ⟨0, [], Nat.zero_le _, rfl, rfl, ho1, hb1, HE⟩
    case round =>
      obtain ⟨k, acc, hk, rfl, hal, hown, hbl, HK⟩ := hrel
      by_cases hlt : k < z
      · obtain ⟨m, hm⟩ : ∃ m, m = 2 * k := ⟨_, rfl⟩
        obtain ⟨q, hq2⟩ : ∃ q, q = 2 * k + 1 := ⟨_, rfl⟩
        have hw1 : IntKind.i64.wrap (2 * (k : Int)) = (m : Int) := by rw [IntWalk.i64_in _ (by omega)]; omega
        have hw2 : IntKind.i64.wrap ((m : Int) + 1) = (q : Int) := by rw [IntWalk.i64_in _ (by omega)]; omega
        have hz := HZ.out
        have hmR : m < R.size := by omega
        have hqR : q < R.size := by omega
        have HM := Lib.hid hm
        have HQ : Hid (q = m + 1) := by rw [Hid]; omega
        have HK1 := HK.out
        rw [← hm] at HK1
        have HBAD := Lib.hid (rd_bad HK1 hmR hqR HQ.out)
        have HYES := Lib.hid (rd_step HK1 hmR hqR HQ.out)
        clear hm hq2 hz HK1 HK HE hn'
        have HOW := Lib.hid hown
        have HBL := Lib.hid hbl
        clear hown hbl ho1 hb1
        by_cases h32 : R[m].toNat = 32
        rotate_left
        · have e := HBAD.out (fun h => h32 h.1)
          rw [e]
          have hne : ((R[m].toNat : Int) != 32) = true := by simp; omega
          clear e HBAD HYES
          go_wp2
          go_quiet (fail)
          go_wp2
          go_ret2
          exact ⟨rfl, by rw [HB.out]; exact below_drewN HBL.out _⟩
        by_cases h48 : 48 ≤ R[q].toNat
        rotate_left
        · have e := HBAD.out (fun h => h48 h.2.1)
          rw [e]
          have hlt48 : (R[q].toNat : Int) < 48 := by omega
          clear e HBAD HYES h48
          go_wp2
          go_quiet (fail)
          go_wp2
          go_ret2
          exact ⟨rfl, by rw [HB.out]; exact below_drewN HBL.out _⟩
        by_cases h57 : R[q].toNat ≤ 57
        rotate_left
        · have e := HBAD.out (fun h => h57 h.2.2)
          rw [e]
          have hlt57 : (57 : Int) < (R[q].toNat : Int) := by omega
          have hn48 : ¬ (R[q].toNat : Int) < 48 := by omega
          clear e HBAD HYES h48 h57
          go_wp2
          go_quiet (fail)
          go_wp2
          go_ret2
          exact ⟨rfl, by rw [HB.out]; exact below_drewN HBL.out _⟩
        have HS2 := Lib.hid (HYES.out ⟨h32, h48, h57⟩)
        have hn48 : ¬ (R[q].toNat : Int) < 48 := by omega
        have hn57 : ¬ (57 : Int) < (R[q].toNat : Int) := by omega
        clear HYES HBAD
        go_wp2
        go_quiet (fail)
        generalize hW2 : wr.drewN _ = W2
        have hown2 : W2.ownsRow B 3 1 (.slice (some ⟨B, 0, none⟩) z z) z (ints (acc ++ List.replicate (z - k) 0)) := by rw [← hW2]; exact HOW.out
        have hbl2 : Below B w W2 := by rw [← hW2]; exact below_drewN HBL.out _
        clear hW2 HOW HBL
        have hst := hown2.stored k (.int .i64 ((R[q].toNat : Int) - 48))
        rw [ints_set, show z - k = (z - (k + 1)) + 1 by omega, ← hal, set_mid, hal] at hst
        have HST := Lib.hid hst
        have hcell : ∃ u, W2.cell? ⟨B, k, none⟩ = some u := ⟨_, (hown2.cellAt k (by omega)).trans (ints_get _ _ (by simp; omega))⟩
        have hfr : W2.frozen? ⟨B, k, none⟩ = false := hown2.frozenAt _
        obtain ⟨u, hcell⟩ := hcell
        clear hst hown2
        go_wp2
        go_roundw
        case rel =>
          refine ⟨k + 1, acc ++ [(R[q].toNat : Int) - 48], by omega, by go_num, by simp [hal], HST.out.1, hbl2.grown HST.out.2 (by have := hbl2.size; have := HB.out; omega) (by simp), ?_⟩
          rw [Hid, show 2 * (k + 1) = m + 2 by have := HM.out; omega]
          exact HS2.out
        case measure => simp [intOf]; omega
      · obtain rfl : k = z := by omega
        have hz := HZ.out
        have e : r = some acc := by have h := HK.out; rw [← hz] at h; exact rd_done h
        subst e
        rw [Nat.sub_self] at hown
        have HOW := Lib.hid hown
        clear hz hown
        go_wp2
        go_ret2
        refine ⟨by rw [HB.out, hal]; rfl, ?_, by rw [HB.out]; exact hbl⟩
        rw [HB.out]
        unfold Own
        rw [hal]
        simpa using HOW.out
end Go.Proofs.Ythfbllgfcidhkaa

namespace Go.Proofs.Ythfbllgfcidhkaa
open Go.ChangeShapes Go.WideShapes Go.ChangeAt Go.RowKit

theorem sl_pre (s : ByteArray) (j : Nat) (hj : j ≤ s.size) (W : World) : (Instr.slice 9 (.string s) none (some (.int .i64 (j : Int))) none).run Try.prog W = .ok (.string (s.extract 0 j)) W := by
  rw [run_slice_string_to_if (h := Try.underlying9), if_pos (by omega)]
  simp
theorem pre_eq (s p : ByteArray) : ((s.extract 0 p.size).toList == p.toList) = Lib.hasPrefix s.data.toList p.data.toList := by
  rw [Lib.toList_data, Lib.toList_data, Lib.extract_data]
  rw [Bool.eq_iff_iff, beq_iff_eq]
  unfold Lib.hasPrefix
  rw [List.isPrefixOf_iff_prefix, List.prefix_iff_eq_take]
  have : p.data.toList.length = p.size := by simp
  rw [this]
  simp
  exact eq_comm
theorem pre_no (s p : ByteArray) (hb : Lib.hasPrefix s.data.toList p.data.toList = false) : ¬ (s.extract 0 p.size).toList = p.toList := fun h => by
  have h2 := pre_eq s p
  rw [hb, h] at h2
  simp at h2
theorem pre_yes (s p : ByteArray) (hb : Lib.hasPrefix s.data.toList p.data.toList = true) : (s.extract 0 p.size).toList = p.toList := by
  have h2 := pre_eq s p
  rw [hb] at h2
  exact beq_iff_eq.1 h2
theorem pre_len {s p : ByteArray} (h : Lib.hasPrefix s.data.toList p.data.toList = true) : p.size ≤ s.size := by
  have := List.IsPrefix.length_le (List.isPrefixOf_iff_prefix.1 h)
  simpa using this

attribute [local go_sem ↓] apI_fold in
set_option maxRecDepth 10000 in
set_option maxHeartbeats 1000000 in
theorem rdpS_any (s p : ByteArray) (w : World) (hs : s.size ≤ 1048576) (hp : p.size ≤ 100) :
    Calls Try.prog 30 #[.string s, .string p] w fun e w' => ∃ v, e = .returned (.tuple #[v, .bool (rdW p.data.toList s.data.toList).isSome]) ∧ Own w' w.heap.size v ((rdW p.data.toList s.data.toList).getD []) ∧ Below w.heap.size w w' := by
  obtain ⟨r, hr⟩ : ∃ r, r = rdW p.data.toList s.data.toList := ⟨_, rfl⟩
  rw [← hr]
  have HR := Lib.hid hr
  clear hr
  have ho0 := Lib.hid (own_empty w _ (Nat.le_refl _))
  have HB0 := Lib.hid ((Below.refl w.heap.size w).alloc (Nat.le_refl _) (.cells #[] 3))
  by_cases hle : p.size ≤ s.size
  rotate_left
  · have e : r = none := by
      rw [HR.out, rdW]
      cases hb : Lib.hasPrefix s.data.toList p.data.toList with
      | false => rfl
      | true => exact absurd (pre_len hb) hle
    subst e
    have hlt : (s.size : Int) < (p.size : Int) := by omega
    clear hle HR
    go_enter Try.func30, Try.ntmps30
    go_wp2
    go_ret2
    exact ⟨_, rfl, ho0.out, HB0.out⟩
  have hnl : ¬ (s.size : Int) < (p.size : Int) := by omega
  have hsl := fun W => sl_pre s p.size hle W
  cases hb : Lib.hasPrefix s.data.toList p.data.toList with
  | false =>
    have hne := pre_no s p hb
    have e : r = none := by rw [HR.out, rdW, hb]; rfl
    subst e
    clear hle HR hb
    go_enter Try.func30, Try.ntmps30
    go_wp2
    go_ret2
    exact ⟨_, rfl, ho0.out, HB0.out⟩
  | true =>
    have hne := pre_yes s p hb
    have e : r = dgs (sx s p.size) := by
      rw [HR.out, rdW, hb]
      have : p.data.toList.length = p.size := by simp
      rw [this]
      rfl
    have HE := Lib.hid e
    clear HR hb e
    obtain ⟨d, hd⟩ : ∃ d, s.size = p.size + d := ⟨s.size - p.size, by omega⟩
    by_cases h2 : d % 2 = 0
    rotate_left
    · have e : r = none := by rw [HE.out]; exact dgs_odd (by rw [sx_len]; omega)
      subst e
      have hd1 : ((s.size : Int) - (p.size : Int)) % 2 = 1 := by omega
      clear hd hle h2 HE
      go_enter Try.func30, Try.ntmps30
      go_wp2
      go_ret2
      exact ⟨_, rfl, ho0.out, HB0.out⟩
    have hd1 : ((s.size : Int) - (p.size : Int)) % 2 = 0 := by omega
    have HD := Lib.hid hd
    clear hd hle
    go_enter Try.func30, Try.ntmps30
    go_wp2
    go_loopw [6, 7] (fun v i wr => ∃ (m : Nat) (acc : List Int), i = .int .i64 m ∧ m ≤ s.size ∧ (s.size - m) % 2 = 0 ∧ acc.length ≤ m ∧ Hid (Own wr w.heap.size v acc) ∧ Hid (Below w.heap.size w wr) ∧ Hid (r = (dgs (sx s m)).map fun l => acc ++ l)) (fun _ i _ => s.size - (intOf i).toNat)
    case atStart =>
      refine ⟨p.size, [], rfl, by have := HD.out; omega, by have := HD.out; omega, Nat.zero_le _, ho0, HB0, ?_⟩
      rw [Hid, HE.out]
      cases dgs (sx s p.size) <;> rfl
    case round =>
      obtain ⟨m, acc, rfl, hms, hm2, hal, hown, hbl, HK⟩ := hrel
      clear ho0 HB0 HE
      by_cases hlt : m < s.size
      · obtain ⟨q, hq⟩ : ∃ q, q = m + 1 := ⟨_, rfl⟩
        have hqR : q < s.size := by omega
        have hw2 : IntKind.i64.wrap ((m : Int) + 1) = (q : Int) := by rw [IntWalk.i64_in _ (by omega)]; omega
        have HQ := Lib.hid hq
        have HBAD := Lib.hid (rd_bad HK.out hlt hqR hq)
        have HYES := Lib.hid (rd_step HK.out hlt hqR hq)
        have HOE := Lib.hid (own_empty wr w.heap.size hbl.out.size)
        have HBE := Lib.hid (hbl.out.alloc hbl.out.size (.cells #[] 3))
        clear hq
        by_cases h32 : s[m].toNat = 32
        rotate_left
        · have e := HBAD.out (fun h => h32 h.1)
          subst e
          have hne32 : ((s[m].toNat : Int) != 32) = true := by simp; omega
          clear HBAD HYES h32
          go_wp2
          go_ret2
          exact ⟨_, rfl, HOE.out, HBE.out⟩
        by_cases h48 : 48 ≤ s[q].toNat
        rotate_left
        · have e := HBAD.out (fun h => h48 h.2.1)
          subst e
          have hlt48 : (s[q].toNat : Int) < 48 := by omega
          clear HBAD HYES h48
          go_wp2
          go_ret2
          exact ⟨_, rfl, HOE.out, HBE.out⟩
        by_cases h57 : s[q].toNat ≤ 57
        rotate_left
        · have e := HBAD.out (fun h => h57 h.2.2)
          subst e
          have hlt57 : (57 : Int) < (s[q].toNat : Int) := by omega
          have hn48 : ¬ (s[q].toNat : Int) < 48 := by omega
          clear HBAD HYES h48 h57
          go_wp2
          go_ret2
          exact ⟨_, rfl, HOE.out, HBE.out⟩
        have HS2 := Lib.hid (HYES.out ⟨h32, h48, h57⟩)
        have hn48 : ¬ (s[q].toNat : Int) < 48 := by omega
        have hn57 : ¬ (57 : Int) < (s[q].toNat : Int) := by omega
        obtain ⟨v', w4, hrun, hown', hgrow⟩ := apI_runL hown.out hbl.out.size (by omega) ((s[q].toNat : Int) - 48)
        have HO4 := Lib.hid hown'
        have HB4 := Lib.hid (apI_below hown.out hgrow (Nat.le_refl _) hbl.out hbl.out.size)
        clear HYES HBAD HOE HBE hown' hgrow
        go_wp2
        go_roundw
        case rel => exact ⟨m + 2, acc ++ [(s[q].toNat : Int) - 48], by go_num, by have := HQ.out; omega, by have := HQ.out; omega, by simp; omega, HO4, HB4, HS2⟩
        case measure => simp [intOf]; omega
      · obtain rfl : m = s.size := by omega
        have e : r = some acc := rd_done HK.out
        subst e
        obtain ⟨A6, c6, ev⟩ := hown.out.slice
        subst ev
        go_wp2
        go_ret2
        exact ⟨_, rfl, hown.out, hbl.out⟩
end Go.Proofs.Ythfbllgfcidhkaa

namespace Go.Proofs.Ythfbllgfcidhkaa
open Go.ChangeShapes Go.WideShapes Go.ChangeAt Go.RowKit

abbrev PfB (w : World) (g : Nat) (cs : List Value) : Prop := w.heap[g]? = some (.cells cs.toArray 50 (0, 0))
def ldP (p : Addr) : Sem Value := loadVar 50 p
def stP (p : Addr) (v : Value) : Sem Unit := storeVar 50 p v
theorem ldP_fold (p : Addr) : loadVar 50 p = ldP p := rfl
theorem stP_fold (p : Addr) (v : Value) : storeVar 50 p v = stP p v := rfl
theorem pf_size : (Try.prog.info? 50).map (·.size) = some 3 := by kernel_rfl
theorem ldP_run {w : World} {g : Nat} {cs : List Value} (h : PfB w g cs) (hl : cs.length = 3) : (ldP ⟨g, 0, none⟩).run Try.prog w = .ok (.agg cs.toArray) w :=
  run_loadVar_row (P := Try.prog) w g 50 50 _ (0, 0) _ h Try.underlying50 rfl (by rw [pf_size]; simp [hl])
theorem stP_run {w : World} {g : Nat} {cs ds : List Value} (h : PfB w g cs) (hl : cs.length = 3) (hd : ds.length = 3) (h1 : ∀ v ∈ ds, v.oneCell' = true) : ∃ w', (stP ⟨g, 0, none⟩ (.agg ds.toArray)).run Try.prog w = .ok () w' ∧ PfB w' g ds ∧ w.grownBy w' (some g) ∧ w'.heap.size = w.heap.size := by
  refine ⟨w.setRow g ds.toArray, ?_, ?_, ?_, ?_⟩
  · have hs := run_storeCells_at Try.prog g 0 50 ds 0 _ w h (by simp [hl, hd]) h1
    cases hq : Try.prog.info? 50 with
    | none => have := pf_size; simp [hq] at this
    | some i =>
      have hsz : i.size = 3 := by have := pf_size; simpa [hq] using this
      have e : cs.toArray.toList.take 0 ++ ds ++ cs.toArray.toList.drop (0 + 0 + ds.length) = ds := by simp [hl, hd]
      simp only [Nat.add_zero] at hs
      unfold stP
      simp [storeVar, sizeOf, typeInfo, hq, Value.cells, hsz, hd, hs]
      rw [List.drop_eq_nil_of_le (by simp [hl])]
      simp
  · exact setRow_heap w g _ _ _ _ h
  · exact ⟨rfl, rfl, rfl, by simp, fun k _ hk => setRow_other w g k _ (fun e => hk (by simp [e]))⟩
  · simp
theorem PfB.keep {w w' : World} {g D : Nat} {cs : List Value} (h : PfB w g cs) (hb : Below D w w') (hD : g < D) : PfB w' g cs := (hb.block g hD).trans h
/-- A result that is a proof and one more. -/
theorem results_pf2 {fn : Func} {p t : Tmp} (h : fn.results = #[.cell p 50, .tmp t]) (tmps : Array Value) (w : World) (g : Nat) (cs : List Value) (hP : cs.length = 3)
    (hp : tmps.getD p undef = .pointer (some ⟨g, 0, none⟩)) (hg : Hid (PfB w g cs)) : (results fn tmps).run Try.prog w = .ok (.tuple #[.agg cs.toArray, tmps.getD t undef]) w := by
  have hp' : tmps[p]?.getD undef = .pointer (some ⟨g, 0, none⟩) := by simpa using hp
  have hl := run_loadVar_row (P := Try.prog) w g 50 50 _ (0, 0) _ hg.out Try.underlying50 rfl (by rw [pf_size]; simp [hP])
  simp [results, h, hp', asAddr, hl]
theorem ret_pf2 {fn : Func} {R : Ending → World → Prop} {a : Act} {w : World} {p t : Tmp} (h : fn.results = #[.cell p 50, .tmp t]) (g : Nat) (cs : List Value) (hP : cs.length = 3) (hp : a.tmps.getD p undef = .pointer (some ⟨g, 0, none⟩))
    (hg : Hid (PfB w g cs)) (hd : a.defers = []) (hR : R (.returned (.tuple #[.agg cs.toArray, a.tmps.getD t undef])) w) : bodyPost Try.prog fn R .ret a w :=
  bodyPost_ret (results_pf2 h _ _ g cs hP hp hg) hd hR
end Go.Proofs.Ythfbllgfcidhkaa

namespace Go.Proofs.Ythfbllgfcidhkaa
open Go.ChangeShapes Go.WideShapes Go.ChangeAt Go.RowKit

set_option maxRecDepth 10000 in
theorem holds_Cl (mb : Nat) (p : ByteArray) (v : Value) (w : World) (r : Bool)
    (HC : Hid (∀ W, Below w.heap.size w W → Calls Try.prog 38 #[.map (some mb), v] W fun e w' => e = .returned (.bool r) ∧ Below W.heap.size W w')) :
    Calls Try.prog 61 #[.agg #[.string p, v, .func (.func 38) #[.map (some mb)] #[]]] w fun e w' => e = .returned (.bool r) ∧ Below w.heap.size w w' := by
  go_enter Try.func61, Try.ntmps61
  go_wp2_with fail
  have hb0 := (Below.refl w.heap.size w).alloc (Nat.le_refl _) (.cells #[.string p, v, .func (.func 38) #[.map (some mb)] #[]] 50)
  refine (HC.out _ hb0).mono ?_
  rintro e w1 ⟨rfl, hb1⟩
  have HB := Lib.hid (hb0.trans (hb1.mono hb0.size))
  clear hb0 hb1 HC
  go_wp2
  go_ret
  exact ⟨rfl, HB.out⟩

/-- What the reading of a proof hands back: the points that have been read, if the check tells so. -/
def RPCl (mb : Nat) (p : ByteArray) (r : Option (List Int)) (w : World) (e : Ending) (w' : World) : Prop :=
  match r with
  | none => e = .returned (.tuple #[.agg #[.string ⟨#[]⟩, .slice none 0 0, .nilFunc], .bool false]) ∧ Below w.heap.size w w'
  | some l => ∃ g, e = .returned (.tuple #[.agg #[.string p, .slice (some ⟨g, 0, none⟩) l.length l.length, .func (.func 38) #[.map (some mb)] #[]], .bool true]) ∧ Below w.heap.size w w'

attribute [local go_sem ↓] ldP_fold stP_fold in
set_option maxRecDepth 10000 in
set_option maxHeartbeats 1000000 in
theorem readProof_Cl (mb : Nat) (s p : ByteArray) (w : World) (ck : List Int → Bool) (hs : s.size ≤ 1048576)
    (HC : Hid (∀ (l : List Int) (A : Option Addr) (c : Nat) (W : World), rdW p.data.toList s.data.toList = some l → Below w.heap.size w W → Rd W W.heap.size A l.length l → Calls Try.prog 38 #[.map (some mb), .slice A l.length c] W fun e w' => e = .returned (.bool (ck l)) ∧ Below W.heap.size W w')) :
    Calls Try.prog 36 #[.string s, .string p, .func (.func 38) #[.map (some mb)] #[]] w (RPCl mb p ((rdW p.data.toList s.data.toList).filter ck) w) := by
  have hb0 := (Below.refl w.heap.size w).alloc (Nat.le_refl _) (.cells #[.string ⟨#[]⟩, .slice none 0 0, .nilFunc] 50)
  have hs0 := hb0.size
  have HR := Lib.hid (rdpI_any s p (w.alloc (.cells #[.string ⟨#[]⟩, .slice none 0 0, .nilFunc] 50)) hs)
  obtain ⟨r, hr⟩ : ∃ r, r = rdW p.data.toList s.data.toList := ⟨_, rfl⟩
  rw [← hr] at HR HC ⊢
  clear hr
  have hg0 := heap_alloc_new w (.cells #[.string ⟨#[]⟩, .slice none 0 0, .nilFunc] 50)
  have hz0 : (w.alloc (.cells #[.string ⟨#[]⟩, .slice none 0 0, .nilFunc] 50)).heap.size = w.heap.size + 1 := by simp
  have p00 : PfB (w.alloc (.cells #[.string ⟨#[]⟩, .slice none 0 0, .nilFunc] 50)) w.heap.size [.string ⟨#[]⟩, .slice none 0 0, .nilFunc] := hg0
  clear hg0
  cases r with
  | none =>
    go_enter Try.func36, Try.ntmps36
    go_wp2_with fail
    refine HR.out.mono ?_
    rintro e w1 ⟨rfl, hb1⟩
    have hl1 := hb1.size
    have p0 := p00.keep hb1 (by omega)
    obtain ⟨w2, hst1, p1, g1, z1⟩ := stP_run (ds := [.string p, .slice none 0 0, .func (.func 38) #[.map (some mb)] #[]]) (heap_alloc_new w1 (.cells #[.string ⟨#[]⟩, .slice none 0 0, .nilFunc] 50)) rfl rfl (by simp [Value.oneCell'])
    have z1' : w2.heap.size = w1.heap.size + 1 := by rw [z1]; simp
    have q2 : PfB w2 w.heap.size [.string ⟨#[]⟩, .slice none 0 0, .nilFunc] := (g1.block _ (by simp; omega) (by simp; omega)).trans ((Below.heap_alloc w1 _ _ (by omega)).trans p0)
    obtain ⟨w3, hst2, p2, g2, z2⟩ := stP_run (ds := [.string ⟨#[]⟩, .slice none 0 0, .nilFunc]) q2 rfl rfl (by simp [Value.oneCell'])
    have HB : Hid (Below w.heap.size w w3) := Lib.hid ((((hb0.trans (hb1.mono hs0)).alloc (by omega) _).grown g1 (by simp; omega) (by simp; omega)).grown g2 (by omega) (by simp))
    have HP := Lib.hid p2
    clear p0 p1 p2 q2 g1 g2 p00 hb0 hb1
    go_wp2
    exact ret_pf2 rfl w.heap.size _ rfl rfl HP rfl ⟨rfl, HB.out⟩
  | some l =>
    have HR1 : Calls Try.prog 60 #[.string s, .string p] (w.alloc (.cells #[.string ⟨#[]⟩, .slice none 0 0, .nilFunc] 50)) fun e w' => e = .returned (.tuple #[.slice (some ⟨w.heap.size + 1, 0, none⟩) l.length l.length, .bool true]) ∧ Own w' (w.heap.size + 1) (.slice (some ⟨w.heap.size + 1, 0, none⟩) l.length l.length) l ∧ Below (w.heap.size + 1) (w.alloc (.cells #[.string ⟨#[]⟩, .slice none 0 0, .nilFunc] 50)) w' := by
      have h := HR.out
      unfold RdI at h
      simpa only [hz0] using h
    have HR2 := Lib.hid HR1
    clear HR1 HR
    go_enter Try.func36, Try.ntmps36
    go_wp2_with fail
    refine HR2.out.mono ?_
    rintro e w1 ⟨rfl, ho1, hb1⟩
    have hl1 := hb1.size
    have p0 := p00.keep hb1 (by omega)
    obtain ⟨w2, hst1, p1, g1, z1⟩ := stP_run (ds := [.string p, .slice (some ⟨w.heap.size + 1, 0, none⟩) l.length l.length, .func (.func 38) #[.map (some mb)] #[]]) (heap_alloc_new w1 (.cells #[.string ⟨#[]⟩, .slice none 0 0, .nilFunc] 50)) rfl rfl (by simp [Value.oneCell'])
    have z1' : w2.heap.size = w1.heap.size + 1 := by rw [z1]; simp
    have q2 : PfB w2 w.heap.size [.string ⟨#[]⟩, .slice none 0 0, .nilFunc] := (g1.block _ (by simp; omega) (by simp; omega)).trans ((Below.heap_alloc w1 _ _ (by omega)).trans p0)
    have hb12 : Below w1.heap.size w1 w2 := ((Below.refl _ _).alloc (Nat.le_refl _) _).grown g1 (by simp) (by simp)
    have hld1 := ldP_run p1 rfl
    have hb02 : Below w.heap.size w w2 := (hb0.trans (hb1.mono (by omega))).trans (hb12.mono (by omega))
    have hrd2 : Rd w2 w2.heap.size (some ⟨w.heap.size + 1, 0, none⟩) l.length l := (ho1.rd.2.below hb12).more (by omega)
    have HC2 : Hid (∀ W, Below w2.heap.size w2 W → Calls Try.prog 38 #[.map (some mb), .slice (some ⟨w.heap.size + 1, 0, none⟩) l.length l.length] W fun e w' => e = .returned (.bool (ck l)) ∧ Below W.heap.size W w') :=
      fun W hW => HC.out l _ _ W rfl (hb02.trans (hW.mono hb02.size)) ((hrd2.below hW).more hW.size)
    have HH := Lib.hid (holds_Cl mb p _ w2 (ck l) HC2)
    have HB2 := Lib.hid hb02
    have P1 := Lib.hid p1
    have Q2 := Lib.hid q2
    clear p0 p1 q2 g1 p00 hb0 hb1 hb12 hb02 hrd2 HC2 HC ho1
    cases hck : ck l with
    | false =>
      rw [hck] at HH
      have e : (some l).filter ck = none := by simp [Option.filter, hck]
      have HE := Lib.hid e
      clear e
      go_wp2_with fail
      refine HH.out.mono ?_
      rintro e w3 ⟨rfl, hb3⟩
      have q3 := Q2.out.keep hb3 (by omega)
      obtain ⟨w4, hst2, p2, g2, z2⟩ := stP_run (ds := [.string ⟨#[]⟩, .slice none 0 0, .nilFunc]) q3 rfl rfl (by simp [Value.oneCell'])
      have HB : Hid (Below w.heap.size w w4) := Lib.hid ((HB2.out.trans (hb3.mono HB2.out.size)).grown g2 (by have := hb3.size; omega) (by simp))
      have HP := Lib.hid p2
      clear q3 p2 g2 hb3
      go_wp2
      exact ret_pf2 rfl w.heap.size _ rfl rfl HP rfl (by rw [HE.out]; exact ⟨rfl, HB.out⟩)
    | true =>
      rw [hck] at HH
      have e : (some l).filter ck = some l := by simp [Option.filter, hck]
      have HE := Lib.hid e
      clear e
      go_wp2_with fail
      refine HH.out.mono ?_
      rintro e w3 ⟨rfl, hb3⟩
      have q3 := Q2.out.keep hb3 (by omega)
      have p3 := P1.out.keep hb3 (by omega)
      have hld3 := ldP_run p3 rfl
      obtain ⟨w4, hst2, p2, g2, z2⟩ := stP_run (ds := [.string p, .slice (some ⟨w.heap.size + 1, 0, none⟩) l.length l.length, .func (.func 38) #[.map (some mb)] #[]]) q3 rfl rfl (by simp [Value.oneCell'])
      have HB : Hid (Below w.heap.size w w4) := Lib.hid ((HB2.out.trans (hb3.mono HB2.out.size)).grown g2 (by have := hb3.size; omega) (by simp))
      have HP := Lib.hid p2
      clear q3 p2 g2 hb3 p3
      go_wp2
      exact ret_pf2 rfl w.heap.size _ rfl rfl HP rfl (by rw [HE.out]; exact ⟨_, rfl, HB.out⟩)
end Go.Proofs.Ythfbllgfcidhkaa

namespace Go.Proofs.Ythfbllgfcidhkaa
open Go.ChangeShapes Go.WideShapes Go.ChangeAt Go.RowKit

open Classical in
noncomputable def ckC (K : List (List Int)) (l : List Int) : Bool := decide (l.length = 3) && decide (l ∈ K) && decide (turn3 l ∈ K)

theorem tback_lit (x y z : Int) (w : World) :
    Calls Try.prog 56 #[.agg (ints [x, y, z]).toArray] w fun e w' => e = .returned (.agg #[.int .i64 x, .int .i64 z, .int .i64 y]) ∧ Below w.heap.size w w' := tback_any x y z w

set_option maxRecDepth 10000 in
set_option maxHeartbeats 1000000 in
theorem clashesAt_any (mb : Nat) (K : List (List Int)) (A : Option Addr) (c : Nat) (l : List Int) (w : World) (hm : MapK w mb K) (h : Rd w w.heap.size A l.length l) (hb9 : ∀ x ∈ l, 0 ≤ x ∧ x ≤ 9) :
    Calls Try.prog 38 #[.map (some mb), .slice A l.length c] w fun e w' => e = .returned (.bool (ckC K l)) ∧ Below w.heap.size w w' := by
  by_cases h3 : l.length = 3
  rotate_left
  · have e : ckC K l = false := by simp [ckC, h3]
    rw [e]
    generalize l.length = n at *
    have hn : ((n : Int) != 3) = true := by simp; omega
    clear h hm e h3
    go_enter Try.func38, Try.ntmps38
    go_wp2
    go_ret
    exact ⟨rfl, Below.refl _ _⟩
  obtain ⟨x, y, z, rfl⟩ := of_three h3
  have hx := hb9 x (by simp)
  have hy := hb9 y (by simp)
  have hz := hb9 z (by simp)
  have HSM : Hid (Sm [x, y, z]) := Lib.hid ⟨x, y, z, rfl, by omega, by omega, by omega, by omega, by omega, by omega⟩
  have HSN : Hid (Sm [x, z, y]) := Lib.hid ⟨x, z, y, rfl, by omega, by omega, by omega, by omega, by omega, by omega⟩
  have HCK : Hid (ckC K [x, y, z] = (decide ([x, y, z] ∈ K) && decide ([x, z, y] ∈ K))) := by
    rw [Hid, ckC]
    simp [turn3]
  have hlt := hm.lt
  obtain ⟨b, o, rfl, hbH, c0, c1, c2⟩ := rd3 h
  have HM := Lib.hid hm
  have hb1 : Below w.heap.size w (w.alloc (.cells #[.int .i64 x, .int .i64 y, .int .i64 z] 74)).drew := ((Below.refl w.heap.size w).alloc (Nat.le_refl _) _).drew
  have HB1 := Lib.hid hb1
  have hl1 : (Instr.lookup 54 (.map (some mb)) (.agg #[.int .i64 x, .int .i64 y, .int .i64 z]) false).run Try.prog (w.alloc (.cells #[.int .i64 x, .int .i64 y, .int .i64 z] 74)).drew = .ok (.bool (decide ([x, y, z] ∈ K))) (w.alloc (.cells #[.int .i64 x, .int .i64 y, .int .i64 z] 74)).drew :=
    MapK.look (t := [x, y, z]) (hm.below hb1 hlt) HSM.out
  have HL2 : Hid (∀ W, Below w.heap.size w W → (Instr.lookup 54 (.map (some mb)) (.agg #[.int .i64 x, .int .i64 z, .int .i64 y]) false).run Try.prog W = .ok (.bool (decide ([x, z, y] ∈ K))) W) :=
    fun W hW => MapK.look (t := [x, z, y]) (hm.below hW hlt) HSN.out
  clear hb1 HSM HSN HM
  rw [show ([x, y, z] : List Int).length = 3 from rfl]
  clear h hm hb9 hx hy hz h3
  go_enter Try.func38, Try.ntmps38
  cases h1 : decide ([x, y, z] ∈ K) with
  | false =>
    have HD : Hid (decide ([x, y, z] ∈ K) = false) := h1
    rw [h1] at hl1
    clear h1
    go_wp2
    go_region
    go_wp2
    go_ret
    exact ⟨by rw [HCK.out, HD.out]; rfl, HB1.out⟩
  | true =>
    have HD : Hid (decide ([x, y, z] ∈ K) = true) := h1
    rw [h1] at hl1
    clear h1
    go_wp2
    go_region
    go_wp2_with fail
    refine (tback_lit x y z _).mono ?_
    rintro e w7 ⟨rfl, hb7⟩
    have HB7 := Lib.hid (HB1.out.trans (hb7.mono HB1.out.size))
    have hl2 := HL2.out w7 HB7.out
    clear hb7
    go_wp2
    go_ret
    exact ⟨by rw [HCK.out, HD.out]; rfl, HB7.out⟩
end Go.Proofs.Ythfbllgfcidhkaa

namespace Go.Proofs.Ythfbllgfcidhkaa
open Go.ChangeShapes Go.WideShapes Go.ChangeAt Go.RowKit

abbrev clW : ByteArray := ⟨#[99, 108, 97, 115, 104]⟩
open Classical in
/-- A three of which both ways follow. -/
noncomputable def ckL (L : List (List Int)) (l : List Int) : Bool := decide (l.length = 3) && decide (Cl L l) && decide (Cl L (turn3 l))
theorem ck_of {L K : List (List Int)} (h : ∀ t, t ∈ K ↔ Cl L t) (l : List Int) : ckC K l = ckL L l := by
  rw [Bool.eq_iff_iff]
  simp [ckC, ckL, h l, h (turn3 l)]
noncomputable def pcB (q : Int) (L : List (List Int)) (s : ByteArray) : Bool := if Tel q L then ((rdW clW.data.toList s.data.toList).filter (ckL L)).isSome else false

attribute [local go_sem ↓] stP_fold in
set_option maxRecDepth 10000 in
set_option maxHeartbeats 1000000 in
theorem pcI_any (A : Option Addr) (n c H : Nat) (q : Int) (L : List (List Int)) (s : ByteArray) (w : World) (h : RdS w H A n L) (hH : H ≤ w.heap.size) (_ : tot L ≤ 1048576) (hs : s.size ≤ 1048576) :
    Calls Try.prog 12 #[.int .i64 q, .slice A n c, .string s] w fun e w' => e = .returned (.bool (pcB q L s)) ∧ Below w.heap.size w w' := by
  have HC := Lib.hid (readThrees_any A n c H L q w h hH)
  by_cases ht : Tel q L
  · obtain ⟨k, rfl, h3, h6⟩ := tel_nat ht
    have HT := Lib.hid ht
    have HSU : Hid (pcB (k : Int) L s = ((rdW clW.data.toList s.data.toList).filter (ckL L)).isSome) := by rw [Hid, pcB, if_pos ht]
    rw [(tel_yes ht).1, (tel_yes ht).2] at HC
    clear h hH ht
    go_enter Try.func12, Try.ntmps12
    go_wp2_with fail
    refine HC.out.mono ?_
    rintro e w1 ⟨v1, rfl, hr1, hb1⟩
    have HG := Lib.hid (closed_any k v1 w.heap.size L w1 hr1 HT.out.2.2.2 (by have := HT.out.2.2.1; omega) h6)
    clear hr1 HC
    go_wp2_with fail
    refine HG.out.mono ?_
    rintro e w2 ⟨K, rfl, hm2, hk2, hb2⟩
    have hs2 := Nat.le_trans hb1.size hb2.size
    have HB2 := Lib.hid (hb1.trans (hb2.mono hb1.size))
    have HCK : Hid (∀ (l : List Int) (A : Option Addr) (c : Nat) (W : World), rdW clW.data.toList s.data.toList = some l → Below w2.heap.size w2 W → Rd W W.heap.size A l.length l → Calls Try.prog 38 #[.map (some w1.heap.size), .slice A l.length c] W fun e w' => e = .returned (.bool (ckL L l)) ∧ Below W.heap.size W w') := by
      intro l A c W hl hb hR
      rw [← ck_of hk2]
      exact clashesAt_any w1.heap.size K A c l W (hm2.below hb hm2.lt) hR (rdW_bd hl)
    have HP := Lib.hid (readProof_Cl w1.heap.size s clW w2 (ckL L) hs HCK)
    obtain ⟨r, hr⟩ : ∃ r, r = (rdW clW.data.toList s.data.toList).filter (ckL L) := ⟨_, rfl⟩
    rw [← hr] at HP HSU
    clear hm2 hk2 hb1 hb2 HCK HG hr
    cases r with
    | none =>
      go_wp2_with fail
      refine HP.out.mono ?_
      rintro e w3 ⟨rfl, hb3⟩
      obtain ⟨w4, hst, p1, g1, z1⟩ := stP_run (ds := [.string ⟨#[]⟩, .slice none 0 0, .nilFunc]) (heap_alloc_new w3 (.cells #[.string ⟨#[]⟩, .slice none 0 0, .nilFunc] 50)) rfl rfl (by simp [Value.oneCell'])
      have HB4 := Lib.hid (((HB2.out.trans (hb3.mono HB2.out.size)).alloc (by have := HB2.out.size; have := hb3.size; omega) _).grown g1 (by have := HB2.out.size; have := hb3.size; simp; omega) (by have := HB2.out.size; have := hb3.size; simp; omega))
      clear p1 g1 hb3
      go_wp2
      go_ret
      exact ⟨by rw [HSU.out]; rfl, HB4.out⟩
    | some l =>
      go_wp2_with fail
      refine HP.out.mono ?_
      rintro e w3 ⟨g, rfl, hb3⟩
      obtain ⟨w4, hst, p1, g1, z1⟩ := stP_run (ds := [.string clW, .slice (some ⟨g, 0, none⟩) l.length l.length, .func (.func 38) #[.map (some w1.heap.size)] #[]]) (heap_alloc_new w3 (.cells #[.string ⟨#[]⟩, .slice none 0 0, .nilFunc] 50)) rfl rfl (by simp [Value.oneCell'])
      have HB4 := Lib.hid (((HB2.out.trans (hb3.mono HB2.out.size)).alloc (by have := HB2.out.size; have := hb3.size; omega) _).grown g1 (by have := HB2.out.size; have := hb3.size; simp; omega) (by have := HB2.out.size; have := hb3.size; simp; omega))
      clear p1 g1 hb3
      go_wp2
      go_ret
      exact ⟨by rw [HSU.out]; rfl, HB4.out⟩
  · have HSU : Hid (pcB q L s = false) := by rw [Hid, pcB, if_neg ht]
    rw [(tel_no ht).1] at HC
    rw [HSU.out]
    clear h hH ht
    go_enter Try.func12, Try.ntmps12
    go_wp2_with (go_at_call 35; refine HC.out.mono ?_; rintro e w1 ⟨v1, rfl, _, hb1⟩)
    go_ret
    exact ⟨rfl, hb1⟩
end Go.Proofs.Ythfbllgfcidhkaa

namespace Go.Proofs.Ythfbllgfcidhkaa
open Go.ChangeShapes Go.WideShapes Go.ChangeAt Go.RowKit

set_option maxRecDepth 10000 in
set_option maxHeartbeats 1000000 in
theorem clash10_any (g : Nat) (K : List (List Int)) (A : Option Addr) (c : Nat) (a b d : Nat) (w : World) (hm : Mk w g K) (h : Rd w w.heap.size A 3 [(a : Int), (b : Int), (d : Int)]) (ha : a < 6) (hb : b < 6) (hd : d < 6) :
    Calls Try.prog 33 #[.slice (some ⟨g, 0, none⟩) 216 216, .slice A 3 c] w fun e w' => e = .returned (.bool (decide ([(a : Int), (b : Int), (d : Int)] ∈ K) && decide ([(a : Int), (d : Int), (b : Int)] ∈ K))) ∧ Below w.heap.size w w' := by
  obtain ⟨bb, o, rfl, hbH, c0, c1, c2⟩ := rd3 h
  have m1 := hm.cell ha hb hd
  have m2 := hm.cell ha hd hb
  have n1 := codeN_lt ha hb hd
  have n2 := codeN_lt ha hd hb
  generalize decide ([(a : Int), (d : Int), (b : Int)] ∈ K) = s2 at *
  clear hm h
  cases hs1 : decide ([(a : Int), (b : Int), (d : Int)] ∈ K) with
  | false =>
    rw [hs1] at m1
    go_enter Try.func33, Try.ntmps33
    go_wp2
    go_quiet (refine Calls.quiet_of_same (code_any _ _ _ _ (by assumption) (by assumption) (by assumption)))
    go_wp2
    go_ret
    exact ⟨rfl, below_drewN (Below.refl _ _) _⟩
  | true =>
    rw [hs1] at m1
    go_enter Try.func33, Try.ntmps33
    go_wp2
    go_quiet (refine Calls.quiet_of_same (code_any _ _ _ _ (by assumption) (by assumption) (by assumption)))
    go_wp2
    go_ret
    exact ⟨rfl, below_drewN (Below.refl _ _) _⟩

theorem ckL_no {n : Int} {L : List (List Int)} (hL : ∀ t ∈ L, Thr n t) {t : List Int} (h : ¬ Thr n t) : ckL L t = false := by
  have : ¬ Cl L t := fun hc => h (hc.thr hL)
  simp [ckL, this]

set_option maxRecDepth 10000 in
set_option maxHeartbeats 1000000 in
theorem pcS_any (A : Option Addr) (n c H : Nat) (q : Int) (L : List (List Int)) (s : ByteArray) (w : World) (h : RdS w H A n L) (hH : H ≤ w.heap.size) (hn : tot L ≤ 1048576) (hs : s.size ≤ 1048576) :
    Calls Try.prog 10 #[.int .i64 q, .slice A n c, .string s] w fun e w' => e = .returned (.bool (pcB q L s)) ∧ Below w.heap.size w w' := by
  have hnb : n ≤ 1048576 := by have := h.len; unfold tot at hn; omega
  have HN := Lib.hid h.len
  have HR := Lib.hid (rdpS_any s clW w hs (by decide))
  have HBD : Hid (∀ l, rdW clW.data.toList s.data.toList = some l → ∀ x ∈ l, 0 ≤ x ∧ x ≤ 9) := Lib.hid (fun l hl => rdW_bd hl)
  have HLE : Hid (∀ l, rdW clW.data.toList s.data.toList = some l → 2 * l.length ≤ s.data.toList.length) := Lib.hid (fun l hl => rdW_len hl)
  have hsl : s.data.toList.length = s.size := by simp
  rw [hsl] at HLE
  obtain ⟨r, hr⟩ : ∃ r, r = rdW clW.data.toList s.data.toList := ⟨_, rfl⟩
  have HPB : Hid (pcB q L s = if Tel q L then (r.filter (ckL L)).isSome else false) := by rw [Hid, hr, pcB]
  rw [← hr] at HR HBD HLE
  have HT := Lib.hid (fun W (hb : Below w.heap.size w W) => telS_any A n c H L q W (h.below (hb.mono hH)) hnb)
  clear hr hsl
  cases r with
  | none =>
    have e : pcB q L s = false := by rw [HPB.out]; split <;> rfl
    rw [e]
    clear e
    go_enter Try.func10, Try.ntmps10
    go_wp2_with (go_at_call 30; refine HR.out.mono ?_; rintro e w1 ⟨v, rfl, _, hb1⟩)
    go_ret
    exact ⟨rfl, hb1⟩
  | some l =>
    by_cases ht : Tel q L
    rotate_left
    · have e : pcB q L s = false := by rw [HPB.out, if_neg ht]
      rw [e]
      rw [(tel_no ht).1] at HT
      clear e ht
      go_enter Try.func10, Try.ntmps10
      go_wp2_with (first
        | (go_at_call 30; refine HR.out.mono ?_; rintro e w1 ⟨v, rfl, _, hb1⟩)
        | (go_at_call 31; refine (HT.out _ hb1).mono ?_; rintro e w2 ⟨rfl, p2, rfl⟩))
      go_ret
      exact ⟨rfl, below_drewN hb1 _⟩
    have e : pcB q L s = ckL L l := by rw [HPB.out, if_pos ht]; cases h : ckL L l <;> simp [Option.filter, h]
    rw [e]
    clear e HPB
    obtain ⟨m, rfl, h3, h6⟩ := tel_nat ht
    rw [(tel_yes ht).1] at HT
    have HT2 := Lib.hid (fun (A : Option Addr) (k : Nat) (c : Nat) (W : World) (hk : k ≤ 1048576) (hR : Rd W W.heap.size A k l) => l2Three_any A k c W.heap.size l (m : Int) W hR (by omega) (by omega) (by omega))
    have hl9 : l.length ≤ 1048576 := by have := HLE.out l rfl; omega
    by_cases hth : Thr (m : Int) l
    rotate_left
    · rw [ckL_no ht.2.2.2 hth]
      rw [(thr_no hth).1] at HT2
      clear ht hth
      go_enter Try.func10, Try.ntmps10
      go_wp2_with (first
        | (go_at_call 30; refine HR.out.mono ?_; rintro e w1 ⟨v, rfl, ho, hb1⟩; obtain ⟨A1, c1, rfl⟩ := ho.slice)
        | (go_at_call 31; refine (HT.out _ hb1).mono ?_; rintro e w2 ⟨rfl, p2, rfl⟩; have hR2 := ho.rd.2.drewN p2)
        | (go_at_call 32; refine (HT2.out A1 l.length c1 _ hl9 hR2).mono ?_; rintro e w3 ⟨rfl, p3, rfl⟩))
      go_ret
      exact ⟨rfl, below_drewN hb1 _⟩
    rw [(thr_yes hth).1] at HT2
    obtain ⟨a, b, d, rfl, ha, hb, hd, _⟩ := thr_nat hth
    have HCL := Lib.hid (fun W (hb : Below w.heap.size w W) => closedS_any A n c H m L W (h.below (hb.mono hH)) (Nat.le_trans hH hb.size) h3 h6 (by rw [← HN.out]; exact ht.2.2.1) ht.2.2.2)
    have HCK := Lib.hid (fun (K : List (List Int)) (hk : ∀ t, t ∈ K ↔ Cl L t) => ck_of hk [(a : Int), (b : Int), (d : Int)])
    have HFI := Lib.hid (fun (K : List (List Int)) (g : Nat) (A : Option Addr) (c : Nat) (W : World) (hm : Mk W g K) (hR : Rd W W.heap.size A 3 [(a : Int), (b : Int), (d : Int)]) => clash10_any g K A c a b d W hm hR (by omega) (by omega) (by omega))
    clear ht hth h
    go_enter Try.func10, Try.ntmps10
    go_wp2_with (first
      | (go_at_call 30; refine HR.out.mono ?_; rintro e w1 ⟨v, rfl, ho, hb1⟩; obtain ⟨A1, c1, rfl⟩ := ho.slice)
      | (go_at_call 31; refine (HT.out _ hb1).mono ?_; rintro e w2 ⟨rfl, p2, rfl⟩; have hR2 := ho.rd.2.drewN p2)
      | (go_at_call 32; refine (HT2.out A1 3 c1 _ hl9 hR2).mono ?_; rintro e w3 ⟨rfl, p3, rfl⟩; have hb3 := below_drewN hb1 (p2 + p3); have hR3 := ho.rd.2.drewN (p2 + p3))
      | (go_at_call 34; refine (HCL.out _ hb3).mono ?_; rintro e w4 ⟨rfl, ⟨K, hmk, hK⟩, hb4⟩; have hR4 := (hR3.below hb4).more hb4.size; have hb5 := hb3.trans (hb4.mono hb3.size))
      | (go_at_call 33; refine (HFI.out K _ A1 c1 _ hmk hR4).mono ?_; rintro e w5 ⟨rfl, hb6⟩))
    go_ret
    refine ⟨?_, hb5.trans (hb6.mono hb5.size)⟩
    rw [← HCK.out K hK]
    simp [ckC, turn3]
end Go.Proofs.Ythfbllgfcidhkaa

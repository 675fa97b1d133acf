/- Several texts as one: PdM PdS PdR PdQ PdPAt PaM PaI EqS PaS. -/
import Derived.Test.YtphffefkjbgibabDoorMA
import Derived.Lib.Strings
import Derived.Laws.DeepStrings4
import Derived.Laws.Strings3
import Derived.Lib.IndexEntry
import Derived.Test.YtphffefkjbgibabDoorFold
import Derived.Test.YtphffefkjbgibabDoorPdL
import Derived.BigQuiet
import Derived.Deep.QuietTactic
import Derived.Test.YtphffefkjbgibabDoorPnR
import Derived.Test.YtphffefkjbgibabDoorPnT
import Derived.Deep.RegionHeld3
import Derived.Test.YtphffefkjbgibabDoorPnW
import Derived.Test.YtphffefkjbgibabDoorWvQ
import Derived.Test.YtphffefkjbgibabDoorPR
import Derived.Test.YtphffefkjbgibabDoorPnU
import Derived.Test.YtphffefkjbgibabDoorWvS
import Derived.Test.YtphffefkjbgibabDoorPE
namespace Go.Proofs.YtphffefkjbgibabDoor
open Go.ChangeShapes Go.WideShapes Go.ChangeAt Go.RowKit

def dgs : List UInt8 → Option (List Int)
  | [] => some []
  | [_] => none
  | a :: b :: r => if a.toNat = 32 ∧ 48 ≤ b.toNat ∧ b.toNat ≤ 57 then (dgs r).map (fun l => ((b.toNat : Int) - 48) :: l) else none
theorem dgs_nil : dgs [] = some [] := rfl
theorem dgs_yes (a b : UInt8) (r : List UInt8) (h : a.toNat = 32 ∧ 48 ≤ b.toNat ∧ b.toNat ≤ 57) : dgs (a :: b :: r) = (dgs r).map (fun l => ((b.toNat : Int) - 48) :: l) := by rw [dgs, if_pos h]
theorem dgs_no (a b : UInt8) (r : List UInt8) (h : ¬ (a.toNat = 32 ∧ 48 ≤ b.toNat ∧ b.toNat ≤ 57)) : dgs (a :: b :: r) = none := by rw [dgs, if_neg h]
theorem dgs_all (s : List UInt8) : (s.length % 2 = 1 → dgs s = none) ∧ ∀ l, dgs s = some l → s.length = 2 * l.length ∧ ∀ x ∈ l, 0 ≤ x ∧ x ≤ 9 := by
  induction s using dgs.induct with
  | case1 => exact ⟨fun h => by simp at h, fun l h => by rw [dgs] at h; obtain rfl := Option.some.inj h; simp⟩
  | case2 a => exact ⟨fun _ => rfl, fun l h => by rw [dgs] at h; cases h⟩
  | case3 a b r hg ih =>
    refine ⟨fun h => ?_, fun l h => ?_⟩
    · rw [dgs_yes _ _ _ hg, ih.1 (by simp at h; omega)]; rfl
    · rw [dgs_yes _ _ _ hg] at h
      rcases hr : dgs r with _ | l'
      · rw [hr] at h; cases h
      · rw [hr] at h
        obtain rfl := Option.some.inj h
        obtain ⟨h1, h2⟩ := ih.2 l' hr
        refine ⟨by simp; omega, fun x hx => ?_⟩
        rcases List.mem_cons.1 hx with rfl | hx
        · omega
        · exact h2 x hx
  | case4 a b r hg =>
    exact ⟨fun _ => dgs_no _ _ _ hg, fun l h => by rw [dgs_no _ _ _ hg] at h; cases h⟩
theorem dgs_len {s : List UInt8} {l : List Int} (h : dgs s = some l) : s.length = 2 * l.length := ((dgs_all s).2 l h).1
theorem dgs_bd {s : List UInt8} {l : List Int} (h : dgs s = some l) : ∀ x ∈ l, 0 ≤ x ∧ x ≤ 9 := ((dgs_all s).2 l h).2
theorem dgs_odd {s : List UInt8} (h : s.length % 2 = 1) : dgs s = none := (dgs_all s).1 h

/-- The points behind a word. -/
def rdW (word s : List UInt8) : Option (List Int) := if Lib.hasPrefix s word then dgs (s.drop word.length) else none
theorem rdW_bd {word s : List UInt8} {l : List Int} (h : rdW word s = some l) : ∀ x ∈ l, 0 ≤ x ∧ x ≤ 9 := by
  unfold rdW at h
  split at h
  · exact dgs_bd h
  · cases h
theorem rdW_len {word s : List UInt8} {l : List Int} (h : rdW word s = some l) : 2 * l.length ≤ s.length := by
  unfold rdW at h
  split at h
  · have := dgs_len h
    simp at this
    omega
  · cases h

/-- What is left of a text from a place on. -/
def sx (s : ByteArray) (k : Nat) : List UInt8 := s.data.toList.drop k
theorem sx_cons (s : ByteArray) (k : Nat) (h : k < s.size) : sx s k = s[k] :: sx s (k + 1) := by
  unfold sx
  rw [List.drop_eq_getElem_cons (by simpa using h)]
  rfl
theorem sx_two (s : ByteArray) (k : Nat) (h : k + 1 < s.size) : sx s k = s[k] :: s[k + 1] :: sx s (k + 2) := by
  rw [sx_cons s k (by omega), sx_cons s (k + 1) h]
theorem sx_end (s : ByteArray) : sx s s.size = [] := by unfold sx; exact List.drop_eq_nil_of_le (by simp)
theorem sx_len (s : ByteArray) (k : Nat) : (sx s k).length = s.size - k := by simp [sx]
theorem sx_zero (s : ByteArray) : sx s 0 = s.data.toList := rfl

/-- A round of the reading: the acc is what has been read. -/
theorem rd_step {r : Option (List Int)} {s : ByteArray} {p q : Nat} {acc : List Int} (h : r = (dgs (sx s p)).map fun l => acc ++ l) (hp : p < s.size) (hq : q < s.size) (e : q = p + 1)
    (hg : s[p].toNat = 32 ∧ 48 ≤ s[q].toNat ∧ s[q].toNat ≤ 57) : r = (dgs (sx s (p + 2))).map fun l => (acc ++ [(s[q].toNat : Int) - 48]) ++ l := by
  subst e
  rw [h, sx_two s p hq, dgs_yes _ _ _ hg, Option.map_map]
  congr 1
  funext l
  simp
theorem rd_bad {r : Option (List Int)} {s : ByteArray} {p q : Nat} {acc : List Int} (h : r = (dgs (sx s p)).map fun l => acc ++ l) (hp : p < s.size) (hq : q < s.size) (e : q = p + 1)
    (hg : ¬ (s[p].toNat = 32 ∧ 48 ≤ s[q].toNat ∧ s[q].toNat ≤ 57)) : r = none := by
  subst e
  rw [h, sx_two s p hq, dgs_no _ _ _ hg]; rfl
theorem rd_done {r : Option (List Int)} {s : ByteArray} {acc : List Int} (h : r = (dgs (sx s s.size)).map fun l => acc ++ l) : r = some acc := by
  rw [h, sx_end]; simp [dgs]

/-- A word and points, told. -/
def told (word : List UInt8) (l : List Int) : List UInt8 := word ++ l.flatMap fun x => [32, UInt8.ofNat (48 + x.toNat)]
theorem told_snoc (word : List UInt8) (l : List Int) (x : Int) : told word (l ++ [x]) = told word l ++ [32, UInt8.ofNat (48 + x.toNat)] := by simp [told]
theorem told_len (word : List UInt8) (l : List Int) : (told word l).length = word.length + 2 * l.length := by
  induction l with
  | nil => simp [told]
  | cons x l ih => simp [told] at ih ⊢; omega
end Go.Proofs.YtphffefkjbgibabDoor

namespace Go.Proofs.YtphffefkjbgibabDoor
open Go.ChangeShapes Go.WideShapes Go.ChangeAt Go.RowKit

theorem sl_pre (s : ByteArray) (j : Nat) (hj : j ≤ s.size) (W : World) : (Instr.slice 9 (.string s) none (some (.int .i64 (j : Int))) none).run Tryd.prog W = .ok (.string (s.extract 0 j)) W := by
  rw [run_slice_string_to_if (h := Tryd.underlying9), if_pos (by omega)]
  simp
theorem pre_eq (s p : ByteArray) : ((s.extract 0 p.size).toList == p.toList) = Lib.hasPrefix s.data.toList p.data.toList := by
  rw [Lib.toList_data, Lib.toList_data, Lib.extract_data]
  rw [Bool.eq_iff_iff, beq_iff_eq]
  unfold Lib.hasPrefix
  rw [List.isPrefixOf_iff_prefix, List.prefix_iff_eq_take]
  have : p.data.toList.length = p.size := by simp
  rw [this]
  simp
  exact eq_comm
theorem pre_no (s p : ByteArray) (hb : Lib.hasPrefix s.data.toList p.data.toList = false) : ¬ (s.extract 0 p.size).toList = p.toList := fun h => by
  have h2 := pre_eq s p
  rw [hb, h] at h2
  simp at h2
theorem pre_yes (s p : ByteArray) (hb : Lib.hasPrefix s.data.toList p.data.toList = true) : (s.extract 0 p.size).toList = p.toList := by
  have h2 := pre_eq s p
  rw [hb] at h2
  exact beq_iff_eq.1 h2
theorem pre_len {s p : ByteArray} (h : Lib.hasPrefix s.data.toList p.data.toList = true) : p.size ≤ s.size := by
  have := List.IsPrefix.length_le (List.isPrefixOf_iff_prefix.1 h)
  simpa using this

attribute [local go_sem ↓] apI_fold in
set_option maxRecDepth 10000 in
set_option maxHeartbeats 1000000 in
theorem rdpS_any (s p : ByteArray) (w : World) (hs : s.size ≤ 1048576) (hp : p.size ≤ 100) :
    Calls Tryd.prog 26 #[.string s, .string p] w fun e w' => ∃ v, e = .returned (.tuple #[v, .bool (rdW p.data.toList s.data.toList).isSome]) ∧ Own w' w.heap.size v ((rdW p.data.toList s.data.toList).getD []) ∧ Below w.heap.size w w' := by
  obtain ⟨r, hr⟩ : ∃ r, r = rdW p.data.toList s.data.toList := ⟨_, rfl⟩
  rw [← hr]
  have HR := Lib.hid hr
  clear hr
  have ho0 := Lib.hid (own_empty w _ (Nat.le_refl _))
  have HB0 := Lib.hid ((Below.refl w.heap.size w).alloc (Nat.le_refl _) (.cells #[] 3))
  by_cases hle : p.size ≤ s.size
  rotate_left
  · have e : r = none := by
      rw [HR.out, rdW]
      cases hb : Lib.hasPrefix s.data.toList p.data.toList with
      | false => rfl
      | true => exact absurd (pre_len hb) hle
    subst e
    have hlt : (s.size : Int) < (p.size : Int) := by omega
    clear hle HR
    go_enter Tryd.func26, Tryd.ntmps26
    go_wp2
    go_ret2
    exact ⟨_, rfl, ho0.out, HB0.out⟩
  have hnl : ¬ (s.size : Int) < (p.size : Int) := by omega
  have hsl := fun W => sl_pre s p.size hle W
  cases hb : Lib.hasPrefix s.data.toList p.data.toList with
  | false =>
    have hne := pre_no s p hb
    have e : r = none := by rw [HR.out, rdW, hb]; rfl
    subst e
    clear hle HR hb
    go_enter Tryd.func26, Tryd.ntmps26
    go_wp2
    go_ret2
    exact ⟨_, rfl, ho0.out, HB0.out⟩
  | true =>
    have hne := pre_yes s p hb
    have e : r = dgs (sx s p.size) := by
      rw [HR.out, rdW, hb]
      have : p.data.toList.length = p.size := by simp
      rw [this]
      rfl
    have HE := Lib.hid e
    clear HR hb e
    obtain ⟨d, hd⟩ : ∃ d, s.size = p.size + d := ⟨s.size - p.size, by omega⟩
    by_cases h2 : d % 2 = 0
    rotate_left
    · have e : r = none := by rw [HE.out]; exact dgs_odd (by rw [sx_len]; omega)
      subst e
      have hd1 : ((s.size : Int) - (p.size : Int)) % 2 = 1 := by omega
      clear hd hle h2 HE
      go_enter Tryd.func26, Tryd.ntmps26
      go_wp2
      go_ret2
      exact ⟨_, rfl, ho0.out, HB0.out⟩
    have hd1 : ((s.size : Int) - (p.size : Int)) % 2 = 0 := by omega
    have HD := Lib.hid hd
    clear hd hle
    go_enter Tryd.func26, Tryd.ntmps26
    go_wp2
    go_loopw [6, 7] (fun v i wr => ∃ (m : Nat) (acc : List Int), i = .int .i64 m ∧ m ≤ s.size ∧ (s.size - m) % 2 = 0 ∧ acc.length ≤ m ∧ Hid (Own wr w.heap.size v acc) ∧ Hid (Below w.heap.size w wr) ∧ Hid (r = (dgs (sx s m)).map fun l => acc ++ l)) (fun _ i _ => s.size - (intOf i).toNat)
    case atStart =>
      refine ⟨p.size, [], rfl, by have := HD.out; omega, by have := HD.out; omega, Nat.zero_le _, ho0, HB0, ?_⟩
      rw [Hid, HE.out]
      cases dgs (sx s p.size) <;> rfl
    case round =>
      obtain ⟨m, acc, rfl, hms, hm2, hal, hown, hbl, HK⟩ := hrel
      clear ho0 HB0 HE
      by_cases hlt : m < s.size
      · obtain ⟨q, hq⟩ : ∃ q, q = m + 1 := ⟨_, rfl⟩
        have hqR : q < s.size := by omega
        have hw2 : IntKind.i64.wrap ((m : Int) + 1) = (q : Int) := by rw [IntWalk.i64_in _ (by omega)]; omega
        have HQ := Lib.hid hq
        have HBAD := Lib.hid (rd_bad HK.out hlt hqR hq)
        have HYES := Lib.hid (rd_step HK.out hlt hqR hq)
        have HOE := Lib.hid (own_empty wr w.heap.size hbl.out.size)
        have HBE := Lib.hid (hbl.out.alloc hbl.out.size (.cells #[] 3))
        clear hq
        by_cases h32 : s[m].toNat = 32
        rotate_left
        · have e := HBAD.out (fun h => h32 h.1)
          subst e
          have hne32 : ((s[m].toNat : Int) != 32) = true := by simp; omega
          clear HBAD HYES h32
          go_wp2
          go_ret2
          exact ⟨_, rfl, HOE.out, HBE.out⟩
        by_cases h48 : 48 ≤ s[q].toNat
        rotate_left
        · have e := HBAD.out (fun h => h48 h.2.1)
          subst e
          have hlt48 : (s[q].toNat : Int) < 48 := by omega
          clear HBAD HYES h48
          go_wp2
          go_ret2
          exact ⟨_, rfl, HOE.out, HBE.out⟩
        by_cases h57 : s[q].toNat ≤ 57
        rotate_left
        · have e := HBAD.out (fun h => h57 h.2.2)
          subst e
          have hlt57 : (57 : Int) < (s[q].toNat : Int) := by omega
          have hn48 : ¬ (s[q].toNat : Int) < 48 := by omega
          clear HBAD HYES h48 h57
          go_wp2
          go_ret2
          exact ⟨_, rfl, HOE.out, HBE.out⟩
        have HS2 := Lib.hid (HYES.out ⟨h32, h48, h57⟩)
        have hn48 : ¬ (s[q].toNat : Int) < 48 := by omega
        have hn57 : ¬ (57 : Int) < (s[q].toNat : Int) := by omega
        obtain ⟨v', w4, hrun, hown', hgrow⟩ := apI_runL hown.out hbl.out.size (by omega) ((s[q].toNat : Int) - 48)
        have HO4 := Lib.hid hown'
        have HB4 := Lib.hid (apI_below hown.out hgrow (Nat.le_refl _) hbl.out hbl.out.size)
        clear HYES HBAD HOE HBE hown' hgrow
        go_wp2
        go_roundw
        case rel => exact ⟨m + 2, acc ++ [(s[q].toNat : Int) - 48], by go_num, by have := HQ.out; omega, by have := HQ.out; omega, by simp; omega, HO4, HB4, HS2⟩
        case measure => simp [intOf]; omega
      · obtain rfl : m = s.size := by omega
        have e : r = some acc := rd_done HK.out
        subst e
        obtain ⟨A6, c6, ev⟩ := hown.out.slice
        subst ev
        go_wp2
        go_ret2
        exact ⟨_, rfl, hown.out, hbl.out⟩
end Go.Proofs.YtphffefkjbgibabDoor

namespace Go.Proofs.YtphffefkjbgibabDoor
open Go.ChangeShapes Go.WideShapes Go.ChangeAt Go.RowKit

theorem cutp_any (s p : ByteArray) (w : World) :
    Calls Tryd.prog 71 #[.string s, .string p] w fun e w' => e = .returned (.tuple #[.string ⟨(Lib.trimPrefix s.data.toList p.data.toList).toArray⟩, .bool (Lib.hasPrefix s.data.toList p.data.toList)]) ∧ w' = w :=
  Any.strings_CutPrefix Tryd.lays103 s p w

theorem set_mid (acc : List Int) (m : Nat) (x : Int) : (acc ++ List.replicate (m + 1) 0).set acc.length x = (acc ++ [x]) ++ List.replicate m 0 := by
  rw [List.set_append_right _ _ (Nat.le_refl _), Nat.sub_self, List.replicate_succ, List.set_cons_zero, List.append_assoc]
  rfl

/-- What the program's reading hands back. -/
def RdI (r : Option (List Int)) (w : World) (e : Ending) (w' : World) : Prop :=
  match r with
  | none => e = .returned (.tuple #[.slice none 0 0, .bool false]) ∧ Below w.heap.size w w'
  | some l => e = .returned (.tuple #[.slice (some ⟨w.heap.size, 0, none⟩) l.length l.length, .bool true]) ∧ Own w' w.heap.size (.slice (some ⟨w.heap.size, 0, none⟩) l.length l.length) l ∧ Below w.heap.size w w'

set_option maxRecDepth 10000 in
set_option maxHeartbeats 1000000 in
theorem rdpI_any (s p : ByteArray) (w : World) (hs : s.size ≤ 1048576) :
    Calls Tryd.prog 52 #[.string s, .string p] w (RdI (rdW p.data.toList s.data.toList) w) := by
  have HC := Lib.hid (fun w => cutp_any s p w)
  cases hp : Lib.hasPrefix s.data.toList p.data.toList with
  | false =>
    have e : rdW p.data.toList s.data.toList = none := by unfold rdW; rw [hp]; rfl
    rw [e]
    rw [hp] at HC
    clear e hp
    go_enter Tryd.func52, Tryd.ntmps52
    go_wp2_with (go_at_call 71; refine (HC.out _).mono ?_; rintro e w' ⟨rfl, hw⟩; rw [hw]; clear hw)
    go_ret2
    exact ⟨rfl, Below.refl _ _⟩
  | true =>
    have e : rdW p.data.toList s.data.toList = dgs (s.data.toList.drop p.data.toList.length) := by unfold rdW; rw [hp]; rfl
    have et : Lib.trimPrefix s.data.toList p.data.toList = s.data.toList.drop p.data.toList.length := by unfold Lib.trimPrefix; rw [hp]; rfl
    rw [hp, et] at HC
    obtain ⟨R, hR⟩ : ∃ R : ByteArray, R = ⟨(s.data.toList.drop p.data.toList.length).toArray⟩ := ⟨_, rfl⟩
    have hRl : R.data.toList = s.data.toList.drop p.data.toList.length := by rw [hR]
    have hRs : R.size ≤ 1048576 := by
      have h1 : R.size = R.data.toList.length := by simp
      rw [h1, hRl, List.length_drop]
      have : s.data.toList.length = s.size := by simp
      omega
    rw [← hR] at HC
    rw [e, ← hRl]
    obtain ⟨r, hr⟩ : ∃ r, r = dgs R.data.toList := ⟨_, rfl⟩
    rw [← hr]
    have HR := Lib.hid hr
    clear e et hR hRl hr hp
    by_cases h2 : R.size % 2 = 0
    rotate_left
    · have h1 : R.data.toList.length = R.size := by simp
      have e : r = none := by rw [HR.out]; exact dgs_odd (by rw [h1]; omega)
      rw [e]
      have hn' : (R.size : Int) % 2 = 1 := by omega
      clear e HR
      go_enter Tryd.func52, Tryd.ntmps52
      go_wp2_with (go_at_call 71; refine (HC.out _).mono ?_; rintro e w' ⟨rfl, hw⟩; rw [hw]; clear hw)
      go_ret2
      exact ⟨rfl, Below.refl _ _⟩
    obtain ⟨z, hz⟩ : ∃ z, R.size = 2 * z := ⟨R.size / 2, by omega⟩
    obtain ⟨i0, hi, hz0, hz1, hz2⟩ := info_parts int_info
    have HZ := Lib.hid hz
    have hn' : (R.size : Int) % 2 = 0 := by omega
    have hq' : (R.size : Int) / 2 = (z : Int) := by omega
    have hz19 : z ≤ 1048576 := by omega
    clear hz h2
    go_enter Tryd.func52, Tryd.ntmps52
    go_wp2_with (first
      | (go_at_call 71; refine (HC.out _).mono ?_; rintro e w' ⟨rfl, hw⟩; rw [hw]; clear hw)
      | (at_make; refine wpList_make_full _ rfl _ _ 23 rfl w.heap.size 3 i0 (.int .i64 0) 1 Tryd.underlying23 hi hz0 hz1 .i64 .i64 _ _ z rfl rfl rfl rfl (by rw [hz2]; omega) (by unfold maxLen; omega) (Nat.le_refl _) ?_))
    intro w1 hown hgrow
    have hb1 : Below w.heap.size w w1 := (Below.refl _ _).grown hgrow (Nat.le_refl _) (by simp)
    have ho1 : w1.ownsRow w.heap.size 3 1 (.slice (some ⟨w.heap.size, 0, none⟩) z z) z (ints (([] : List Int) ++ List.replicate z 0)) := by
      have e : ints (([] : List Int) ++ List.replicate z 0) = (madeCells #[Value.int IntKind.i64 0] z).toList := by
        rw [toList_madeCells_one]
        simp [ints]
      rw [e]
      simpa using hown
    have HE : Hid (r = (dgs (sx R 0)).map fun l => ([] : List Int) ++ l) := by
      rw [Hid, HR.out, sx_zero]
      cases dgs R.data.toList <;> rfl
    clear hown hgrow HR
    generalize hB : w.heap.size = B at *
    have HB := Lib.hid hB
    clear hB
    go_wp2
    go_loopw [32] (fun i wr => ∃ (k : Nat) (acc : List Int), k ≤ z ∧ i = .int .i64 k ∧ acc.length = k ∧ wr.ownsRow B 3 1 (.slice (some ⟨B, 0, none⟩) z z) z (ints (acc ++ List.replicate (z - k) 0)) ∧ Below B w wr ∧ Hid (r = (dgs (sx R (2 * k))).map fun l => acc ++ l)) (fun i _ => z - (intOf i).toNat)
    case atStart => exact ⟨0, [], Nat.zero_le _, rfl, rfl, ho1, hb1, HE⟩
    case round =>
      obtain ⟨k, acc, hk, rfl, hal, hown, hbl, HK⟩ := hrel
      by_cases hlt : k < z
      · obtain ⟨m, hm⟩ : ∃ m, m = 2 * k := ⟨_, rfl⟩
        obtain ⟨q, hq2⟩ : ∃ q, q = 2 * k + 1 := ⟨_, rfl⟩
        have hw1 : IntKind.i64.wrap (2 * (k : Int)) = (m : Int) := by rw [IntWalk.i64_in _ (by omega)]; omega
        have hw2 : IntKind.i64.wrap ((m : Int) + 1) = (q : Int) := by rw [IntWalk.i64_in _ (by omega)]; omega
        have hz := HZ.out
        have hmR : m < R.size := by omega
        have hqR : q < R.size := by omega
        have HM := Lib.hid hm
        have HQ : Hid (q = m + 1) := by rw [Hid]; omega
        have HK1 := HK.out
        rw [← hm] at HK1
        have HBAD := Lib.hid (rd_bad HK1 hmR hqR HQ.out)
        have HYES := Lib.hid (rd_step HK1 hmR hqR HQ.out)
        clear hm hq2 hz HK1 HK HE hn'
        have HOW := Lib.hid hown
        have HBL := Lib.hid hbl
        clear hown hbl ho1 hb1
        by_cases h32 : R[m].toNat = 32
        rotate_left
        · have e := HBAD.out (fun h => h32 h.1)
          rw [e]
          have hne : ((R[m].toNat : Int) != 32) = true := by simp; omega
          clear e HBAD HYES
          go_wp2
          go_quiet (fail)
          go_wp2
          go_ret2
          exact ⟨rfl, by rw [HB.out]; exact below_drewN HBL.out _⟩
        by_cases h48 : 48 ≤ R[q].toNat
        rotate_left
        · have e := HBAD.out (fun h => h48 h.2.1)
          rw [e]
          have hlt48 : (R[q].toNat : Int) < 48 := by omega
          clear e HBAD HYES h48
          go_wp2
          go_quiet (fail)
          go_wp2
          go_ret2
          exact ⟨rfl, by rw [HB.out]; exact below_drewN HBL.out _⟩
        by_cases h57 : R[q].toNat ≤ 57
        rotate_left
        · have e := HBAD.out (fun h => h57 h.2.2)
          rw [e]
          have hlt57 : (57 : Int) < (R[q].toNat : Int) := by omega
          have hn48 : ¬ (R[q].toNat : Int) < 48 := by omega
          clear e HBAD HYES h48 h57
          go_wp2
          go_quiet (fail)
          go_wp2
          go_ret2
          exact ⟨rfl, by rw [HB.out]; exact below_drewN HBL.out _⟩
        have HS2 := Lib.hid (HYES.out ⟨h32, h48, h57⟩)
        have hn48 : ¬ (R[q].toNat : Int) < 48 := by omega
        have hn57 : ¬ (57 : Int) < (R[q].toNat : Int) := by omega
        clear HYES HBAD
        go_wp2
        go_quiet (fail)
        generalize hW2 : wr.drewN _ = W2
        have hown2 : W2.ownsRow B 3 1 (.slice (some ⟨B, 0, none⟩) z z) z (ints (acc ++ List.replicate (z - k) 0)) := by rw [← hW2]; exact HOW.out
        have hbl2 : Below B w W2 := by rw [← hW2]; exact below_drewN HBL.out _
        clear hW2 HOW HBL
        have hst := hown2.stored k (.int .i64 ((R[q].toNat : Int) - 48))
        rw [ints_set, show z - k = (z - (k + 1)) + 1 by omega, ← hal, set_mid, hal] at hst
        have HST := Lib.hid hst
        have hcell : ∃ u, W2.cell? ⟨B, k, none⟩ = some u := ⟨_, (hown2.cellAt k (by omega)).trans (ints_get _ _ (by simp; omega))⟩
        have hfr : W2.frozen? ⟨B, k, none⟩ = false := hown2.frozenAt _
        obtain ⟨u, hcell⟩ := hcell
        clear hst hown2
        go_wp2
        go_roundw
        case rel =>
          refine ⟨k + 1, acc ++ [(R[q].toNat : Int) - 48], by omega, by go_num, by simp [hal], HST.out.1, hbl2.grown HST.out.2 (by have := hbl2.size; have := HB.out; omega) (by simp), ?_⟩
          rw [Hid, show 2 * (k + 1) = m + 2 by have := HM.out; omega]
          exact HS2.out
        case measure => simp [intOf]; omega
      · obtain rfl : k = z := by omega
        have hz := HZ.out
        have e : r = some acc := by have h := HK.out; rw [← hz] at h; exact rd_done h
        subst e
        rw [Nat.sub_self] at hown
        have HOW := Lib.hid hown
        clear hz hown
        go_wp2
        go_ret2
        refine ⟨by rw [HB.out, hal]; rfl, ?_, by rw [HB.out]; exact hbl⟩
        rw [HB.out]
        unfold Own
        rw [hal]
        simpa using HOW.out
end Go.Proofs.YtphffefkjbgibabDoor

namespace Go.Proofs.YtphffefkjbgibabDoor
open Go.ChangeShapes Go.WideShapes Go.ChangeAt Go.RowKit

abbrev PfB (w : World) (g : Nat) (cs : List Value) : Prop := w.heap[g]? = some (.cells cs.toArray 47 (0, 0))
def ldP (p : Addr) : Sem Value := loadVar 47 p
def stP (p : Addr) (v : Value) : Sem Unit := storeVar 47 p v
theorem ldP_fold (p : Addr) : loadVar 47 p = ldP p := rfl
theorem stP_fold (p : Addr) (v : Value) : storeVar 47 p v = stP p v := rfl
theorem pf_size : (Tryd.prog.info? 47).map (·.size) = some 3 := by kernel_rfl
theorem ldP_run {w : World} {g : Nat} {cs : List Value} (h : PfB w g cs) (hl : cs.length = 3) : (ldP ⟨g, 0, none⟩).run Tryd.prog w = .ok (.agg cs.toArray) w :=
  run_loadVar_row (P := Tryd.prog) w g 47 47 _ (0, 0) _ h Tryd.underlying47 rfl (by rw [pf_size]; simp [hl])
theorem stP_run {w : World} {g : Nat} {cs ds : List Value} (h : PfB w g cs) (hl : cs.length = 3) (hd : ds.length = 3) (h1 : ∀ v ∈ ds, v.oneCell' = true) : ∃ w', (stP ⟨g, 0, none⟩ (.agg ds.toArray)).run Tryd.prog w = .ok () w' ∧ PfB w' g ds ∧ w.grownBy w' (some g) ∧ w'.heap.size = w.heap.size := by
  refine ⟨w.setRow g ds.toArray, ?_, ?_, ?_, ?_⟩
  · have hs := run_storeCells_at Tryd.prog g 0 47 ds 0 _ w h (by simp [hl, hd]) h1
    cases hq : Tryd.prog.info? 47 with
    | none => have := pf_size; simp [hq] at this
    | some i =>
      have hsz : i.size = 3 := by have := pf_size; simpa [hq] using this
      have e : cs.toArray.toList.take 0 ++ ds ++ cs.toArray.toList.drop (0 + 0 + ds.length) = ds := by simp [hl, hd]
      simp only [Nat.add_zero] at hs
      unfold stP
      simp [storeVar, sizeOf, typeInfo, hq, Value.cells, hsz, hd, hs]
      rw [List.drop_eq_nil_of_le (by simp [hl])]
      simp
  · exact setRow_heap w g _ _ _ _ h
  · exact ⟨rfl, rfl, rfl, by simp, fun k _ hk => setRow_other w g k _ (fun e => hk (by simp [e]))⟩
  · simp
theorem PfB.keep {w w' : World} {g D : Nat} {cs : List Value} (h : PfB w g cs) (hb : Below D w w') (hD : g < D) : PfB w' g cs := (hb.block g hD).trans h
/-- A result that is a proof and one more. -/
theorem results_pf2 {fn : Func} {p t : Tmp} (h : fn.results = #[.cell p 47, .tmp t]) (tmps : Array Value) (w : World) (g : Nat) (cs : List Value) (hP : cs.length = 3)
    (hp : tmps.getD p undef = .pointer (some ⟨g, 0, none⟩)) (hg : Hid (PfB w g cs)) : (results fn tmps).run Tryd.prog w = .ok (.tuple #[.agg cs.toArray, tmps.getD t undef]) w := by
  have hp' : tmps[p]?.getD undef = .pointer (some ⟨g, 0, none⟩) := by simpa using hp
  have hl := run_loadVar_row (P := Tryd.prog) w g 47 47 _ (0, 0) _ hg.out Tryd.underlying47 rfl (by rw [pf_size]; simp [hP])
  simp [results, h, hp', asAddr, hl]
theorem ret_pf2 {fn : Func} {R : Ending → World → Prop} {a : Act} {w : World} {p t : Tmp} (h : fn.results = #[.cell p 47, .tmp t]) (g : Nat) (cs : List Value) (hP : cs.length = 3) (hp : a.tmps.getD p undef = .pointer (some ⟨g, 0, none⟩))
    (hg : Hid (PfB w g cs)) (hd : a.defers = []) (hR : R (.returned (.tuple #[.agg cs.toArray, a.tmps.getD t undef])) w) : bodyPost Tryd.prog fn R .ret a w :=
  bodyPost_ret (results_pf2 h _ _ g cs hP hp hg) hd hR
end Go.Proofs.YtphffefkjbgibabDoor

namespace Go.Proofs.YtphffefkjbgibabDoor
open Go.ChangeShapes Go.WideShapes Go.ChangeAt Go.RowKit

set_option maxRecDepth 10000 in
theorem holds_At (x1 : Nat) (x2 : Nat) (p : ByteArray) (v : Value) (w : World) (r : Bool)
    (HC : Hid (∀ W, Below w.heap.size w W → Calls Tryd.prog 40 #[v, .pointer (some ⟨x1, 0, none⟩), .pointer (some ⟨x2, 0, none⟩)] W fun e w' => e = .returned (.bool r) ∧ Below W.heap.size W w')) :
    Calls Tryd.prog 45 #[.agg #[.string p, v, .func (.func 40) #[] #[.pointer (some ⟨x1, 0, none⟩), .pointer (some ⟨x2, 0, none⟩)]]] w fun e w' => e = .returned (.bool r) ∧ Below w.heap.size w w' := by
  go_enter Tryd.func45, Tryd.ntmps45
  go_wp2_with fail
  have hb0 := (Below.refl w.heap.size w).alloc (Nat.le_refl _) (.cells #[.string p, v, .func (.func 40) #[] #[.pointer (some ⟨x1, 0, none⟩), .pointer (some ⟨x2, 0, none⟩)]] 47)
  refine (HC.out _ hb0).mono ?_
  rintro e w1 ⟨rfl, hb1⟩
  have HB := Lib.hid (hb0.trans (hb1.mono hb0.size))
  clear hb0 hb1 HC
  go_wp2
  go_ret
  exact ⟨rfl, HB.out⟩

/-- What the reading of a proof hands back: the points that have been read, if the check tells so. -/
def RPAt (x1 : Nat) (x2 : Nat) (p : ByteArray) (r : Option (List Int)) (w : World) (e : Ending) (w' : World) : Prop :=
  match r with
  | none => e = .returned (.tuple #[.agg #[.string ⟨#[]⟩, .slice none 0 0, .nilFunc], .bool false]) ∧ Below w.heap.size w w'
  | some l => ∃ g, e = .returned (.tuple #[.agg #[.string p, .slice (some ⟨g, 0, none⟩) l.length l.length, .func (.func 40) #[] #[.pointer (some ⟨x1, 0, none⟩), .pointer (some ⟨x2, 0, none⟩)]], .bool true]) ∧ Below w.heap.size w w'

attribute [local go_sem ↓] ldP_fold stP_fold in
set_option maxRecDepth 10000 in
set_option maxHeartbeats 1000000 in
theorem readProof_At (x1 : Nat) (x2 : Nat) (s p : ByteArray) (w : World) (ck : List Int → Bool) (hs : s.size ≤ 1048576)
    (HC : Hid (∀ (l : List Int) (A : Option Addr) (c : Nat) (W : World), c = l.length → rdW p.data.toList s.data.toList = some l → Below w.heap.size w W → Rd W W.heap.size A l.length l → Calls Tryd.prog 40 #[.slice A l.length c, .pointer (some ⟨x1, 0, none⟩), .pointer (some ⟨x2, 0, none⟩)] W fun e w' => e = .returned (.bool (ck l)) ∧ Below W.heap.size W w')) :
    Calls Tryd.prog 23 #[.string s, .string p, .func (.func 40) #[] #[.pointer (some ⟨x1, 0, none⟩), .pointer (some ⟨x2, 0, none⟩)]] w (RPAt x1 x2 p ((rdW p.data.toList s.data.toList).filter ck) w) := by
  have hb0 := (Below.refl w.heap.size w).alloc (Nat.le_refl _) (.cells #[.string ⟨#[]⟩, .slice none 0 0, .nilFunc] 47)
  have hs0 := hb0.size
  have HR := Lib.hid (rdpI_any s p (w.alloc (.cells #[.string ⟨#[]⟩, .slice none 0 0, .nilFunc] 47)) hs)
  obtain ⟨r, hr⟩ : ∃ r, r = rdW p.data.toList s.data.toList := ⟨_, rfl⟩
  rw [← hr] at HR HC ⊢
  clear hr
  have hg0 := heap_alloc_new w (.cells #[.string ⟨#[]⟩, .slice none 0 0, .nilFunc] 47)
  have hz0 : (w.alloc (.cells #[.string ⟨#[]⟩, .slice none 0 0, .nilFunc] 47)).heap.size = w.heap.size + 1 := by simp
  have p00 : PfB (w.alloc (.cells #[.string ⟨#[]⟩, .slice none 0 0, .nilFunc] 47)) w.heap.size [.string ⟨#[]⟩, .slice none 0 0, .nilFunc] := hg0
  clear hg0
  cases r with
  | none =>
    go_enter Tryd.func23, Tryd.ntmps23
    go_wp2_with fail
    refine HR.out.mono ?_
    rintro e w1 ⟨rfl, hb1⟩
    have hl1 := hb1.size
    have p0 := p00.keep hb1 (by omega)
    obtain ⟨w2, hst1, p1, g1, z1⟩ := stP_run (ds := [.string p, .slice none 0 0, .func (.func 40) #[] #[.pointer (some ⟨x1, 0, none⟩), .pointer (some ⟨x2, 0, none⟩)]]) (heap_alloc_new w1 (.cells #[.string ⟨#[]⟩, .slice none 0 0, .nilFunc] 47)) rfl rfl (by simp [Value.oneCell'])
    have z1' : w2.heap.size = w1.heap.size + 1 := by rw [z1]; simp
    have q2 : PfB w2 w.heap.size [.string ⟨#[]⟩, .slice none 0 0, .nilFunc] := (g1.block _ (by simp; omega) (by simp; omega)).trans ((Below.heap_alloc w1 _ _ (by omega)).trans p0)
    obtain ⟨w3, hst2, p2, g2, z2⟩ := stP_run (ds := [.string ⟨#[]⟩, .slice none 0 0, .nilFunc]) q2 rfl rfl (by simp [Value.oneCell'])
    have HB : Hid (Below w.heap.size w w3) := Lib.hid ((((hb0.trans (hb1.mono hs0)).alloc (by omega) _).grown g1 (by simp; omega) (by simp; omega)).grown g2 (by omega) (by simp))
    have HP := Lib.hid p2
    clear p0 p1 p2 q2 g1 g2 p00 hb0 hb1
    go_wp2
    exact ret_pf2 rfl w.heap.size _ rfl rfl HP rfl ⟨rfl, HB.out⟩
  | some l =>
    have HR1 : Calls Tryd.prog 52 #[.string s, .string p] (w.alloc (.cells #[.string ⟨#[]⟩, .slice none 0 0, .nilFunc] 47)) fun e w' => e = .returned (.tuple #[.slice (some ⟨w.heap.size + 1, 0, none⟩) l.length l.length, .bool true]) ∧ Own w' (w.heap.size + 1) (.slice (some ⟨w.heap.size + 1, 0, none⟩) l.length l.length) l ∧ Below (w.heap.size + 1) (w.alloc (.cells #[.string ⟨#[]⟩, .slice none 0 0, .nilFunc] 47)) w' := by
      have h := HR.out
      unfold RdI at h
      simpa only [hz0] using h
    have HR2 := Lib.hid HR1
    clear HR1 HR
    go_enter Tryd.func23, Tryd.ntmps23
    go_wp2_with fail
    refine HR2.out.mono ?_
    rintro e w1 ⟨rfl, ho1, hb1⟩
    have hl1 := hb1.size
    have p0 := p00.keep hb1 (by omega)
    obtain ⟨w2, hst1, p1, g1, z1⟩ := stP_run (ds := [.string p, .slice (some ⟨w.heap.size + 1, 0, none⟩) l.length l.length, .func (.func 40) #[] #[.pointer (some ⟨x1, 0, none⟩), .pointer (some ⟨x2, 0, none⟩)]]) (heap_alloc_new w1 (.cells #[.string ⟨#[]⟩, .slice none 0 0, .nilFunc] 47)) rfl rfl (by simp [Value.oneCell'])
    have z1' : w2.heap.size = w1.heap.size + 1 := by rw [z1]; simp
    have q2 : PfB w2 w.heap.size [.string ⟨#[]⟩, .slice none 0 0, .nilFunc] := (g1.block _ (by simp; omega) (by simp; omega)).trans ((Below.heap_alloc w1 _ _ (by omega)).trans p0)
    have hb12 : Below w1.heap.size w1 w2 := ((Below.refl _ _).alloc (Nat.le_refl _) _).grown g1 (by simp) (by simp)
    have hld1 := ldP_run p1 rfl
    have hb02 : Below w.heap.size w w2 := (hb0.trans (hb1.mono (by omega))).trans (hb12.mono (by omega))
    have hrd2 : Rd w2 w2.heap.size (some ⟨w.heap.size + 1, 0, none⟩) l.length l := (ho1.rd.2.below hb12).more (by omega)
    have HC2 : Hid (∀ W, Below w2.heap.size w2 W → Calls Tryd.prog 40 #[.slice (some ⟨w.heap.size + 1, 0, none⟩) l.length l.length, .pointer (some ⟨x1, 0, none⟩), .pointer (some ⟨x2, 0, none⟩)] W fun e w' => e = .returned (.bool (ck l)) ∧ Below W.heap.size W w') :=
      fun W hW => HC.out l _ _ W rfl rfl (hb02.trans (hW.mono hb02.size)) ((hrd2.below hW).more hW.size)
    have HH := Lib.hid (holds_At x1 x2 p _ w2 (ck l) HC2)
    have HB2 := Lib.hid hb02
    have P1 := Lib.hid p1
    have Q2 := Lib.hid q2
    clear p0 p1 q2 g1 p00 hb0 hb1 hb12 hb02 hrd2 HC2 HC ho1
    cases hck : ck l with
    | false =>
      rw [hck] at HH
      have e : (some l).filter ck = none := by simp [Option.filter, hck]
      have HE := Lib.hid e
      clear e
      go_wp2_with fail
      refine HH.out.mono ?_
      rintro e w3 ⟨rfl, hb3⟩
      have q3 := Q2.out.keep hb3 (by omega)
      obtain ⟨w4, hst2, p2, g2, z2⟩ := stP_run (ds := [.string ⟨#[]⟩, .slice none 0 0, .nilFunc]) q3 rfl rfl (by simp [Value.oneCell'])
      have HB : Hid (Below w.heap.size w w4) := Lib.hid ((HB2.out.trans (hb3.mono HB2.out.size)).grown g2 (by have := hb3.size; omega) (by simp))
      have HP := Lib.hid p2
      clear q3 p2 g2 hb3
      go_wp2
      exact ret_pf2 rfl w.heap.size _ rfl rfl HP rfl (by rw [HE.out]; exact ⟨rfl, HB.out⟩)
    | true =>
      rw [hck] at HH
      have e : (some l).filter ck = some l := by simp [Option.filter, hck]
      have HE := Lib.hid e
      clear e
      go_wp2_with fail
      refine HH.out.mono ?_
      rintro e w3 ⟨rfl, hb3⟩
      have q3 := Q2.out.keep hb3 (by omega)
      have p3 := P1.out.keep hb3 (by omega)
      have hld3 := ldP_run p3 rfl
      obtain ⟨w4, hst2, p2, g2, z2⟩ := stP_run (ds := [.string p, .slice (some ⟨w.heap.size + 1, 0, none⟩) l.length l.length, .func (.func 40) #[] #[.pointer (some ⟨x1, 0, none⟩), .pointer (some ⟨x2, 0, none⟩)]]) q3 rfl rfl (by simp [Value.oneCell'])
      have HB : Hid (Below w.heap.size w w4) := Lib.hid ((HB2.out.trans (hb3.mono HB2.out.size)).grown g2 (by have := hb3.size; omega) (by simp))
      have HP := Lib.hid p2
      clear q3 p2 g2 hb3 p3
      go_wp2
      exact ret_pf2 rfl w.heap.size _ rfl rfl HP rfl (by rw [HE.out]; exact ⟨_, rfl, HB.out⟩)
end Go.Proofs.YtphffefkjbgibabDoor

namespace Go.Proofs.YtphffefkjbgibabDoor
open Go.ChangeShapes Go.WideShapes Go.ChangeAt Go.RowKit

theorem maskN_lt2 (n : Nat) (l : List Int) (h : ∀ x ∈ l, 0 ≤ x ∧ x < n) : maskN l < 2 ^ n := by
  refine Nat.lt_pow_two_of_testBit _ fun j hj => ?_
  unfold maskN
  rw [mask_bit l (fun x hx => (h x hx).1)]
  simp only [Nat.zero_testBit, Bool.false_or, decide_eq_false_iff_not]
  intro hm
  have := (h _ hm).2
  omega
theorem maskN_pos2 {l : List Int} (h : ∀ x ∈ l, 0 ≤ x) (h1 : 0 < l.length) : 0 < maskN l := by
  have hx := List.getElem_mem h1
  have h2 := mask_has l h _ (h _ hx)
  rw [decide_eq_true hx] at h2
  unfold hasN at h2
  refine Nat.pos_of_ne_zero fun e => ?_
  rw [e] at h2
  simp at h2

/-- Points of a ring at whose set it has a pattern, in the order in which it has them. -/
def ckA (r p l : List Int) : Bool := decide (l.length = p.length) && pts (r.length : Int) l && same (partL r (maskN l)) l && atN r p (maskN l)
/-- As the model asks it: whether they are points of the ring, once each, is told by the order. -/
theorem part_nodup {r : List Int} (ht : Tell r) {s : Nat} (h0 : 0 < s) (hs : s < 2 ^ r.length) : (partL r s).Nodup := by
  have h7 := ht.2.1
  have hlt := low_lt s r.length h7 hs (by omega)
  have hlow : (lowN s : Int) ∈ r := ht.has (by omega) (by omega)
  unfold partL pickN
  exact List.Sublist.nodup List.filter_sublist (cutL_tell ht hlow).2.2.2
theorem eq_ringA {P Q : List Int} (hP : P.length = 7) (hQ : Q.length = 7) (w : World) :
    (binOp .eql 38 (.agg (ints P).toArray) (.agg (ints Q).toArray)).run Tryd.prog w = .ok (.bool (decide (P = Q))) w := by
  obtain ⟨a0, a1, a2, a3, a4, a5, a6, rfl⟩ := seven hP
  obtain ⟨b0, b1, b2, b3, b4, b5, b6, rfl⟩ := seven hQ
  exact eq_ring w a0 a1 a2 a3 a4 a5 a6 b0 b1 b2 b3 b4 b5 b6

attribute [local go_sem ↓] ldR_fold in
set_option maxRecDepth 10000 in
set_option maxHeartbeats 4000000 in
theorem shows_any (r p : List Int) (x1 x2 : Nat) (A : Option Addr) (c : Nat) (l : List Int) (w : World) (hr : Ring r) (hp : Ring p) (h1 : Arr w x1 (padR p)) (h2 : Arr w x2 (padR r)) (hl : l.length ≤ 1048576) (hc1 : l.length ≤ c) (hc2 : c ≤ 9223372036854775807) (h : Rd w w.heap.size A l.length l) (hT : Tab w) :
    Calls Tryd.prog 40 #[.slice A l.length c, .pointer (some ⟨x1, 0, none⟩), .pointer (some ⟨x2, 0, none⟩)] w fun e w' => e = .returned (.bool (ckA r p l)) ∧ Below w.heap.size w w' := by
  have hp7 := hp.1.2.1
  have hr7 := hr.1.2.1
  have HLP := padR_length p hp7
  have HLR := padR_length r hr7
  have HSZ := Lib.hid (fun (q : List Int) W (hq : q.length ≤ 7 ∧ ∀ x ∈ q, 0 ≤ x) => size_any q W hq.1 hq.2)
  unfold agp at HSZ
  have hqp : p.length ≤ 7 ∧ ∀ x ∈ p, 0 ≤ x := ⟨hp7, hp.1.pos⟩
  have hqr : r.length ≤ 7 ∧ ∀ x ∈ r, 0 ≤ x := ⟨hr7, hr.1.pos⟩
  have l1 := ldR_run h1 HLP
  have lt1 := h1.lt
  have lt2 := h2.lt
  by_cases hn : l.length = p.length
  rotate_left
  · have e : ckA r p l = false := by simp [ckA, hn]
    rw [e]
    obtain ⟨n, hn'⟩ : ∃ n, n = l.length := ⟨_, rfl⟩
    rw [← hn'] at hn ⊢
    have hne : ((n : Int) != (p.length : Int)) = true := by simp; omega
    clear h h1 h2 hp hr hp7 hr7 hT e hn hn' hl hc1
    go_enter Tryd.func40, Tryd.ntmps40
    go_wp2_with (go_at_call 39; refine (HSZ.out _ _ (by assumption)).mono ?_; rintro e w1 ⟨rfl, hw⟩; rw [hw]; clear hw)
    go_ret
    exact ⟨rfl, (Below.refl _ _).alloc (Nat.le_refl _) _⟩
  have hne : ((l.length : Int) != (p.length : Int)) = false := by simp; omega
  have hbW1 : Below w.heap.size w (w.alloc (.cells (ints (padR p)).toArray 38)) := (Below.refl _ _).alloc (Nat.le_refl _) _
  have hbW2 : Below w.heap.size w ((w.alloc (.cells (ints (padR p)).toArray 38)).alloc (.cells (ints (padR r)).toArray 38)) := hbW1.alloc hbW1.size _
  have l2 := ldR_run (h2.below hbW1 lt2) HLR
  have HPT := Lib.hid (pointsIn_any A l.length c _ l (r.length : Int) _ (h.below hbW2) (by omega) hc1 hc2)
  by_cases hpt : Pts (r.length : Int) l
  rotate_left
  · have e : ckA r p l = false := by simp [ckA, pts_no hpt]
    rw [e]
    rw [pts_no hpt] at HPT
    have HBW := Lib.hid hbW2
    clear h h1 h2 hp hr hp7 hr7 hT e hn hl hc1 hpt hbW1 hbW2
    go_enter Tryd.func40, Tryd.ntmps40
    go_wp2_with (first
      | (go_at_call 41; refine HPT.out.mono ?_; rintro e w1 ⟨rfl, hw⟩; rw [hw]; clear hw)
      | (go_at_call 39; refine (HSZ.out _ _ (by assumption)).mono ?_; rintro e w1 ⟨rfl, hw⟩; rw [hw]; clear hw))
    go_ret
    exact ⟨rfl, HBW.out⟩
  rw [pts_yes hpt] at HPT
  have hpos : 0 < l.length := by have := hp.1.1; omega
  have h0 := maskN_pos2 (fun x hx => (hpt.1 x hx).1) hpos
  have hs := maskN_lt2 r.length l hpt.1
  have HST := Lib.hid (setOf_any A l.length c _ l _ (h.below hbW2) hl (fun x hx => by have := hpt.1 x hx; omega))
  obtain ⟨W0, hW⟩ : ∃ W0, W0 = (w.alloc (.cells (ints (padR p)).toArray 38)).alloc (.cells (ints (padR r)).toArray 38) := ⟨_, rfl⟩
  have hbW := hbW2
  rw [← hW] at hbW
  have HTV : Hid (Tab W0.drew) := (hT.on hbW).drewN 1
  have HTF := Lib.hid (fun W (hb : Below w.heap.size w W) => hT.on hb)
  have X1 := Lib.hid (h1.below hbW lt1)
  have X2 := Lib.hid (h2.below hbW lt2)
  have HRD := Lib.hid (fun W (hb : Below w.heap.size w W) => (h.below hb).more hb.size)
  have HBW := Lib.hid hbW
  have HPA := Lib.hid (part_any r (maskN l) W0.drew hr.1 h0 hs HTV.out)
  have HPB := Lib.hid (fun W (hW : Tab W) => patAt_any r (maskN l) W hr.1 h0 hs hW)
  have HE := Lib.hid (fun (A' : Option Addr) (n' c' : Nat) (W : World) (hW : Rd W W.heap.size A' n' (partL r (maskN l))) (kW : Rd W W.heap.size A l.length l) (hn' : n' ≤ 1048576) => equalP_drew A' A n' l.length c' c _ l W.heap.size W hW kW hn' hl)
  have hsh : (partL r (maskN l)).length ≤ 7 := Nat.le_trans (part_length r (maskN l)) hr7
  have HL2 := padR_length (patL r (maskN l)) (by rw [pat_length hr.1 hs]; exact siz_le _)
  have HCK : Hid (ckA r p l = (same (partL r (maskN l)) l && decide (padR (patL r (maskN l)) = padR p))) := by
    rw [Hid, pad_inj (fun x hx => (pat_bd r (maskN l) x hx).1) hp.1.pos]
    simp [ckA, hn, pts_yes hpt, atN]
  have heq := fun W => eq_ringA HL2 HLP W
  clear h0 hs hpos hn h h1 h2 hr hp hp7 hr7 hT hpt hbW
  have l1' := ldR_run X1.out.drew HLP
  have l2' := ldR_run X2.out.drew HLR
  generalize patL r (maskN l) = T at *
  generalize hR : partL r (maskN l) = R at *
  generalize maskN l = s at *
  unfold agp at HPA HPB
  cases hsm : same R l with
  | false =>
    rw [hsm] at HE HCK
    rw [HCK.out]
    clear hsm hR HPB heq l1'
    go_enter Tryd.func40, Tryd.ntmps40
    go_wp2_with (first
      | (go_at_call 41; refine HPT.out.mono ?_; rintro e w1 ⟨rfl, hw⟩; rw [hw]; clear hw)
      | (go_at_call 42; refine HST.out.mono ?_; rintro e w1 ⟨rfl, hw⟩; rw [← hw]; clear hw)
      | (go_at_call 39; refine (HSZ.out _ _ (by assumption)).mono ?_; rintro e w1 ⟨rfl, hw⟩; rw [hw]; clear hw))
    rw [← hW]
    clear hW
    -- @takes
    refine wp_region_held_drew (S := fun V => (ldR ⟨x2, 0, none⟩).run Tryd.prog V = .ok (.agg (ints (padR r)).toArray) V) (by kernel_rfl) l2' (fun hHeld => ?_)
    refine wpAnyH_take (i := 0) (oi := { dst := some 20, op := Op.load 38 (Operand.tmp 2), type := 38, pos := "l10_proofs.go:165", after := #[], guard := none }) (v := ?_) rfl (by kernel_rfl) (by kernel_rfl) (by kernel_rfl) (fun _ _ _ h => h) (Or.inl ⟨by rfl, ?_⟩) (by assumption) ?_
    rotate_left
    · intro V hSw; (try dsimp only at hSw); go_simp; (try with_reducible rfl)
    try simp only [Act.put, List.setIfInBounds_toArray, List.set_cons_zero, List.set_cons_succ]
    refine wpAnyH_take (i := 1) (oi := { dst := some 21, op := Op.move (Operand.tmp 5), type := 3, pos := "l10_proofs.go:165", after := #[], guard := none }) (v := ?_) rfl (by kernel_rfl) (by kernel_rfl) (by kernel_rfl) (fun _ _ _ h => h) (Or.inl ⟨by rfl, ?_⟩) (by assumption) ?_
    rotate_left
    · intro V hSw; (try dsimp only at hSw); go_simp; (try with_reducible rfl)
    try simp only [Act.put, List.setIfInBounds_toArray, List.set_cons_zero, List.set_cons_succ]
    refine wpAnyH_take (i := 3) (oi := { dst := some 23, op := Op.move (Operand.tmp 0), type := 23, pos := "l10_proofs.go:165", after := #[], guard := none }) (v := ?_) rfl (by kernel_rfl) (by kernel_rfl) (by kernel_rfl) (fun _ _ _ h => h) (Or.inl ⟨by rfl, ?_⟩) (by assumption) ?_
    rotate_left
    · intro V hSw; (try dsimp only at hSw); go_simp; (try with_reducible rfl)
    try simp only [Act.put, List.setIfInBounds_toArray, List.set_cons_zero, List.set_cons_succ]
    refine wpAnyH_ready (rs := [2]) (by kernel_rfl) (by simp) ?_
    refine AllReadyH.cons (o := { dst := some 22, op := Op.call { callee := Callee.value (Operand.func 16), args := #[Operand.tmp 20, Operand.tmp 21], argTypes := #[38, 3] }, type := 41, pos := "l10_proofs.go:165", after := #[{ on := 0, ground := Ground.data }, { on := 1, ground := Ground.data }], guard := none }) rfl (fun K hK => ?_) AllReadyH.nil
    go_simp
    refine HPA.out.mono ?_
    rintro e w1 ⟨v1, rfl, hr1, hb1⟩
    obtain ⟨A1, c1, ev, _⟩ := hr1.2
    subst ev
    have hrd := hr1.1.rd.2
    have HQ0 : Hid (Below W0.heap.size W0 w1) := Lib.hid ((Below.refl W0.heap.size W0).drew.trans hb1)
    have HB1 := Lib.hid (HBW.out.drew.trans (hb1.mono (by simpa using HBW.out.size)))
    have HC := Lib.hid (HE.out A1 _ c1 w1 hrd (HRD.out w1 HB1.out) (by omega))
    have lb := ldR_run (X2.out.below HQ0.out X2.out.lt) HLR
    clear hr1 hb1 hrd
    refine hK.out _ _ lb (fun hHeld => ?_)
    clear hK K
    try simp only [Act.put, List.setIfInBounds_toArray, List.set_cons_zero, List.set_cons_succ]
    refine wpAnyH_ready (rs := [4]) (by kernel_rfl) (by simp) ?_
    refine AllReadyH.cons (o := { dst := some 24, op := Op.call { callee := Callee.value (Operand.func 43), args := #[Operand.tmp 22, Operand.tmp 23], argTypes := #[41, 41] }, type := 4, pos := "l10_proofs.go:165", after := #[{ on := 2, ground := Ground.data }, { on := 3, ground := Ground.data }, { on := 2, ground := Ground.chain }], guard := none }) rfl (fun K hK => ?_) AllReadyH.nil
    go_simp
    refine HC.out.mono ?_
    rintro e w2 ⟨rfl, q, rfl⟩
    have HQ1 := Lib.hid (below_drewN HQ0.out q)
    have ld := ldR_run (X2.out.below HQ1.out X2.out.lt) HLR
    refine hK.out _ _ ld (fun hHeld => ?_)
    clear hK K
    try simp only [Act.put, List.setIfInBounds_toArray, List.set_cons_zero, List.set_cons_succ]
    refine wpAnyH_take (i := 5) (oi := { dst := some 25, op := Op.move (Operand.tmp 24), type := 4, pos := "l10_proofs.go:165", after := #[{ on := 4, ground := Ground.data }, { on := 4, ground := Ground.chain }], guard := none }) (v := ?_) rfl (by kernel_rfl) (by kernel_rfl) (by kernel_rfl) (fun _ _ _ h => h) (Or.inl ⟨by rfl, ?_⟩) (by assumption) ?_
    rotate_left
    · intro V hSw; (try dsimp only at hSw); go_simp; (try with_reducible rfl)
    try simp only [Act.put, List.setIfInBounds_toArray, List.set_cons_zero, List.set_cons_succ]
    refine wpAnyH_take (i := 6) (oi := { dst := some 26, op := Op.load 38 (Operand.tmp 2), type := 38, pos := "l10_proofs.go:165", after := #[{ on := 5, ground := Ground.guard }], guard := some (5, true) }) (v := undef) rfl (by kernel_rfl) (by kernel_rfl) (by kernel_rfl) (fun _ _ _ h => h) (Or.inr ⟨by rfl, rfl⟩) (by assumption) ?_
    try simp only [Act.put, List.setIfInBounds_toArray, List.set_cons_zero, List.set_cons_succ]
    refine wpAnyH_take (i := 7) (oi := { dst := some 27, op := Op.move (Operand.tmp 5), type := 3, pos := "l10_proofs.go:165", after := #[{ on := 5, ground := Ground.guard }], guard := some (5, true) }) (v := undef) rfl (by kernel_rfl) (by kernel_rfl) (by kernel_rfl) (fun _ _ _ h => h) (Or.inr ⟨by rfl, rfl⟩) (by assumption) ?_
    try simp only [Act.put, List.setIfInBounds_toArray, List.set_cons_zero, List.set_cons_succ]
    refine wpAnyH_take (i := 8) (oi := { dst := some 28, op := Op.call { callee := Callee.value (Operand.func 44), args := #[Operand.tmp 26, Operand.tmp 27], argTypes := #[38, 3] }, type := 38, pos := "l10_proofs.go:165", after := #[{ on := 6, ground := Ground.data }, { on := 7, ground := Ground.data }, { on := 5, ground := Ground.chain }, { on := 5, ground := Ground.guard }], guard := some (5, true) }) (v := undef) rfl (by kernel_rfl) (by kernel_rfl) (by kernel_rfl) (fun _ _ _ h => h) (Or.inr ⟨by rfl, rfl⟩) (by assumption) ?_
    try simp only [Act.put, List.setIfInBounds_toArray, List.set_cons_zero, List.set_cons_succ]
    refine wpAnyH_take (i := 9) (oi := { dst := some 29, op := Op.load 38 (Operand.tmp 1), type := 38, pos := "l10_proofs.go:165", after := #[{ on := 5, ground := Ground.guard }], guard := some (5, true) }) (v := undef) rfl (by kernel_rfl) (by kernel_rfl) (by kernel_rfl) (fun _ _ _ h => h) (Or.inr ⟨by rfl, rfl⟩) (by assumption) ?_
    try simp only [Act.put, List.setIfInBounds_toArray, List.set_cons_zero, List.set_cons_succ]
    refine wpAnyH_take (i := 10) (oi := { dst := some 30, op := Op.binOp BinOp.eql 38 (Operand.tmp 28) (Operand.tmp 29) 38, type := 4, pos := "l10_proofs.go:165", after := #[{ on := 8, ground := Ground.data }, { on := 9, ground := Ground.data }, { on := 5, ground := Ground.guard }], guard := some (5, true) }) (v := undef) rfl (by kernel_rfl) (by kernel_rfl) (by kernel_rfl) (fun _ _ _ h => h) (Or.inr ⟨by rfl, rfl⟩) (by assumption) ?_
    try simp only [Act.put, List.setIfInBounds_toArray, List.set_cons_zero, List.set_cons_succ]
    refine wpAnyH_take (i := 11) (oi := { dst := some 31, op := Op.pick (Operand.tmp 25) (Operand.tmp 30) (Operand.const (Value.bool false)), type := 4, pos := "l10_proofs.go:165", after := #[{ on := 5, ground := Ground.data }, { on := 10, ground := Ground.data }], guard := none }) (v := ?_) rfl (by kernel_rfl) (by kernel_rfl) (by kernel_rfl) (fun _ _ _ h => h) (Or.inl ⟨by rfl, ?_⟩) (by assumption) ?_
    rotate_left
    · intro V hSw; (try dsimp only at hSw); go_simp; (try with_reducible rfl)
    try simp only [Act.put, List.setIfInBounds_toArray, List.set_cons_zero, List.set_cons_succ]
    refine wpAnyH_take (i := 12) (oi := { dst := some 4, op := Op.assign (Operand.tmp 31), type := 4, pos := "l10_proofs.go:165", after := #[{ on := 11, ground := Ground.data }, { on := 8, ground := Ground.chain }, { on := 0, ground := Ground.phase }, { on := 1, ground := Ground.phase }, { on := 2, ground := Ground.phase }, { on := 3, ground := Ground.phase }, { on := 4, ground := Ground.phase }, { on := 5, ground := Ground.phase }, { on := 6, ground := Ground.phase }, { on := 7, ground := Ground.phase }, { on := 8, ground := Ground.phase }, { on := 9, ground := Ground.phase }, { on := 10, ground := Ground.phase }, { on := 11, ground := Ground.phase }], guard := none }) (v := ?_) rfl (by kernel_rfl) (by kernel_rfl) (by kernel_rfl) (fun _ _ _ h => h) (Or.inl ⟨by rfl, ?_⟩) (by assumption) ?_
    rotate_left
    · intro V hSw; (try dsimp only at hSw); go_simp; (try with_reducible rfl)
    try simp only [Act.put, List.setIfInBounds_toArray, List.set_cons_zero, List.set_cons_succ]
    refine wpAnyH_done (by kernel_rfl) ?_ _
    -- @end
    all_goals
      go_wp2
      go_ret
      exact ⟨rfl, below_drewN HB1.out _⟩
  | true =>
    rw [hsm] at HE HCK
    rw [HCK.out, Bool.true_and]
    clear hsm hR HCK
    generalize padR T = Q at *
    go_enter Tryd.func40, Tryd.ntmps40
    go_wp2_with (first
      | (go_at_call 41; refine HPT.out.mono ?_; rintro e w1 ⟨rfl, hw⟩; rw [hw]; clear hw)
      | (go_at_call 42; refine HST.out.mono ?_; rintro e w1 ⟨rfl, hw⟩; rw [← hw]; clear hw)
      | (go_at_call 39; refine (HSZ.out _ _ (by assumption)).mono ?_; rintro e w1 ⟨rfl, hw⟩; rw [hw]; clear hw))
    rw [← hW]
    clear hW
    go_region_held3 (fun V' => (ldR ⟨x1, 0, none⟩).run Tryd.prog V' = .ok (.agg (ints (padR p)).toArray) V' ∧ (ldR ⟨x2, 0, none⟩).run Tryd.prog V' = .ok (.agg (ints (padR r)).toArray) V')
      (first
        | exact ⟨m1, m2⟩
        | exact ⟨lc, ld⟩
        | exact ⟨la, lb⟩
        | exact ⟨l1', l2'⟩)
      (first
        | (go_at_call 44; refine (HPB.out _ HT3.out).mono ?_; rintro e w3 ⟨rfl, hb3⟩
           have HB3 := Lib.hid (HB2.out.trans (hb3.mono HB2.out.size))
           have m1 := ldR_run (X1.out.below (HQ1.out.trans (hb3.mono HQ1.out.size)) X1.out.lt) HLP
           have m2 := ldR_run (X2.out.below (HQ1.out.trans (hb3.mono HQ1.out.size)) X2.out.lt) HLR
           clear hb3)
        | (go_at_call 43; refine HC.out.mono ?_; rintro e w2 ⟨rfl, q, rfl⟩
           have HB2 := Lib.hid (below_drewN HB1.out q)
           have HQ1 := Lib.hid (below_drewN HQ0.out q)
           have HT3 := Lib.hid (HTF.out _ HB2.out)
           have lc := ldR_run (X1.out.below HQ1.out X1.out.lt) HLP
           have ld := ldR_run (X2.out.below HQ1.out X2.out.lt) HLR)
        | (go_at_call 16; refine HPA.out.mono ?_; rintro e w1 ⟨v1, rfl, hr1, hb1⟩
           obtain ⟨A1, c1, ev, _⟩ := hr1.2
           subst ev
           have hrd := hr1.1.rd.2
           have HQ0 : Hid (Below W0.heap.size W0 w1) := Lib.hid ((Below.refl W0.heap.size W0).drew.trans hb1)
           have HB1 := Lib.hid (HBW.out.drew.trans (hb1.mono (by simpa using HBW.out.size)))
           have HC := Lib.hid (HE.out A1 _ c1 w1 hrd (HRD.out w1 HB1.out) (by omega))
           have la := ldR_run (X1.out.below HQ0.out X1.out.lt) HLP
           have lb := ldR_run (X2.out.below HQ0.out X2.out.lt) HLR
           clear hr1 hb1 hrd))
    all_goals
      go_wp2
      go_ret
      exact ⟨rfl, HB3.out⟩
end Go.Proofs.YtphffefkjbgibabDoor

namespace Go.Proofs.YtphffefkjbgibabDoor
open Go.ChangeShapes Go.WideShapes Go.ChangeAt Go.RowKit

abbrev atW : ByteArray := ⟨#[97, 116]⟩
/-- A text is a proof of a pattern of a ring. -/
def paB10 (r p : List Int) (s : ByteArray) : Bool := if Two8 r p then ((rdW atW.data.toList s.data.toList).filter (ckA r p)).isSome else false

theorem boxes10 (w : World) (P Q : List Int) (W : World) (hW : W = (w.alloc (.cells (ints P).toArray 38)).alloc (.cells (ints Q).toArray 38)) :
    Arr W w.heap.size P ∧ Arr W (w.heap.size + 1) Q ∧ Below w.heap.size w W ∧ W.heap.size = w.heap.size + 2 := by
  subst hW
  have k1 : Arr (w.alloc (.cells (ints P).toArray 38)) w.heap.size P := heap_alloc_new w _
  have k2 := heap_alloc_new (w.alloc (.cells (ints P).toArray 38)) (.cells (ints Q).toArray 38)
  rw [show (w.alloc (.cells (ints P).toArray 38)).heap.size = w.heap.size + 1 by simp] at k2
  exact ⟨k1.alloc _, k2, ((Below.refl _ w).alloc (Nat.le_refl _) _).alloc (by simp) _, by simp⟩
theorem showsTo_any (P Q : List Int) (w : World) :
    Calls Tryd.prog 17 #[.agg (ints P).toArray, .agg (ints Q).toArray] w fun e w' => e = .returned (.func (.func 40) #[] #[.pointer (some ⟨w.heap.size + 1, 0, none⟩), .pointer (some ⟨w.heap.size, 0, none⟩)]) ∧ Arr w' w.heap.size P ∧ Arr w' (w.heap.size + 1) Q ∧ Below w.heap.size w w' ∧ w'.heap.size = w.heap.size + 2 := by
  have HX := Lib.hid (boxes10 w P Q _ rfl)
  go_enter Tryd.func17, Tryd.ntmps17
  go_wp2
  go_ret
  exact ⟨by simp, HX.out⟩

attribute [local go_sem ↓] ldR_fold stR_fold stP_fold in
set_option maxRecDepth 10000 in
set_option maxHeartbeats 2000000 in
theorem paI10_any (A0 : Option Addr) (n0 c0 : Nat) (A1 : Option Addr) (n1 c1 H : Nat) (l0 l1 : List Int) (s : ByteArray) (w : World) (h0 : Rd w H A0 n0 l0) (h1 : Rd w H A1 n1 l1) (hH : H ≤ w.heap.size) (hn0 : n0 ≤ 1048576) (hn1 : n1 ≤ 1048576) (hs : s.size ≤ 1048576) (hnc0 : n0 ≤ c0) (hcm0 : c0 ≤ 9223372036854775807) (hnc1 : n1 ≤ c1) (hcm1 : c1 ≤ 9223372036854775807) (hT : Tab w) :
    Calls Tryd.prog 9 #[.slice A0 n0 c0, .slice A1 n1 c1, .string s] w fun e w' => e = .returned (.bool (paB10 l0 l1 s)) ∧ Below w.heap.size w w' := by
  have HT := Lib.hid (pat2_any A0 n0 c0 A1 n1 c1 H l0 l1 w h0 h1 hH hn0 hn1 hnc0 hcm0 hnc1 hcm1)
  have HTB := Lib.hid (fun (W : World) (hb : Below w.heap.size w W) => hT.on hb)
  have H70 := ringP_length l0
  have H71 := ringP_length l1
  clear h0 h1 hT
  by_cases ht : Two8 l0 l1
  rotate_left
  · have e : paB10 l0 l1 s = false := by rw [paB10, if_neg ht]
    rw [e]
    rw [two8_no ht] at HT
    clear ht e
    generalize ringP l0 = P0 at *
    generalize ringP l1 = P1 at *
    go_enter Tryd.func9, Tryd.ntmps9
    go_wp2_with fail
    refine HT.out.mono ?_
    rintro e W1 ⟨rfl, hb1⟩
    obtain ⟨V1, V, r1, r2, a1, a2, hb2, hs2⟩ := new_two W1 P0 P1 H70 H71
    have HB := Lib.hid (hb1.trans (hb2.mono hb1.size))
    clear hb1 hb2 a1 a2 hs2
    go_wp2
    go_ret
    exact ⟨rfl, HB.out⟩
  have HPL : Hid (paB10 l0 l1 s = ((rdW atW.data.toList s.data.toList).filter (ckA l0 l1)).isSome) := by rw [Hid, paB10, if_pos ht]
  have e0 : ringP l0 = padR l0 := by rw [ringP, if_pos ht.1]
  have e1 : ringP l1 = padR l1 := by rw [ringP, if_pos ht.2.1]
  rw [two8_yes ht, e0, e1] at HT
  rw [e0] at H70
  rw [e1] at H71
  have HRD := Lib.hid ht
  clear ht e0 e1
  go_enter Tryd.func9, Tryd.ntmps9
  go_wp2_with fail
  refine HT.out.mono ?_
  rintro e W1 ⟨rfl, hb1⟩
  obtain ⟨V1, V, r1, r2, a1, a2, hb2, hs2⟩ := new_two W1 (padR l0) (padR l1) H70 H71
  have HB := Lib.hid (hb1.trans (hb2.mono hb1.size))
  have ld1 := ldR_run a1 H70
  have ld2 := ldR_run a2 H71
  clear hb1 hb2 a1 a2 hs2 HT
  go_wp2_with fail
  refine (showsTo_any (padR l0) (padR l1) V).mono ?_
  rintro e w2 ⟨rfl, b1, b2, hb2, hs2⟩
  have HB2 := Lib.hid (HB.out.trans (hb2.mono HB.out.size))
  have HCK : Hid (∀ (l : List Int) (A : Option Addr) (c : Nat) (W : World), c = l.length → rdW atW.data.toList s.data.toList = some l → Below w2.heap.size w2 W → Rd W W.heap.size A l.length l → Calls Tryd.prog 40 #[.slice A l.length c, .pointer (some ⟨V.heap.size + 1, 0, none⟩), .pointer (some ⟨V.heap.size, 0, none⟩)] W fun e w' => e = .returned (.bool (ckA l0 l1 l)) ∧ Below W.heap.size W w') := by
    intro l A c W hc hl hb hR
    have hlen := rdW_len hl
    have hsz : s.data.toList.length = s.size := by simp
    exact shows_any l0 l1 (V.heap.size + 1) V.heap.size A c l W HRD.out.1 HRD.out.2.1 (b2.below hb (by omega)) (b1.below hb (by omega)) (by omega) (by omega) (by omega) hR (HTB.out W (HB2.out.trans (hb.mono HB2.out.size)))
  have HP := Lib.hid (readProof_At (V.heap.size + 1) V.heap.size s atW w2 (ckA l0 l1) hs HCK)
  obtain ⟨r, hr⟩ : ∃ r, r = (rdW atW.data.toList s.data.toList).filter (ckA l0 l1) := ⟨_, rfl⟩
  rw [← hr] at HP HPL
  clear hr HCK b1 b2 hb2 HB
  cases r with
  | none =>
    go_wp2_with fail
    refine HP.out.mono ?_
    rintro e w3 ⟨rfl, hb3⟩
    obtain ⟨w4, hst, p1, g1, z1⟩ := stP_run (ds := [.string ⟨#[]⟩, .slice none 0 0, .nilFunc]) (heap_alloc_new w3 (.cells #[.string ⟨#[]⟩, .slice none 0 0, .nilFunc] 47)) rfl rfl (by simp [Value.oneCell'])
    have HB4 := Lib.hid (((HB2.out.trans (hb3.mono HB2.out.size)).alloc (by have := HB2.out.size; have := hb3.size; omega) _).grown g1 (by have := HB2.out.size; have := hb3.size; simp; omega) (by have := HB2.out.size; have := hb3.size; simp; omega))
    clear p1 g1 hb3
    go_wp2
    go_ret
    exact ⟨by rw [HPL.out]; rfl, HB4.out⟩
  | some l =>
    go_wp2_with fail
    refine HP.out.mono ?_
    rintro e w3 ⟨g, rfl, hb3⟩
    obtain ⟨w4, hst, p1, g1, z1⟩ := stP_run (ds := [.string atW, .slice (some ⟨g, 0, none⟩) l.length l.length, .func (.func 40) #[] #[.pointer (some ⟨V.heap.size + 1, 0, none⟩), .pointer (some ⟨V.heap.size, 0, none⟩)]]) (heap_alloc_new w3 (.cells #[.string ⟨#[]⟩, .slice none 0 0, .nilFunc] 47)) rfl rfl (by simp [Value.oneCell'])
    have HB4 := Lib.hid (((HB2.out.trans (hb3.mono HB2.out.size)).alloc (by have := HB2.out.size; have := hb3.size; omega) _).grown g1 (by have := HB2.out.size; have := hb3.size; simp; omega) (by have := HB2.out.size; have := hb3.size; simp; omega))
    clear p1 g1 hb3
    go_wp2
    go_ret
    exact ⟨by rw [HPL.out]; rfl, HB4.out⟩
end Go.Proofs.YtphffefkjbgibabDoor

namespace Go.Proofs.YtphffefkjbgibabDoor
open Go.ChangeShapes Go.WideShapes Go.ChangeAt Go.RowKit

set_option maxHeartbeats 400000 in
theorem eqS6_drew (A B : Option Addr) (n m c d : Nat) (xs ys : List Int) (H : Nat) (w : World) (hx : Rd w H A n xs) (hy : Rd w H B m ys) (hn : n ≤ 1048576) (_ : m ≤ 1048576) :
    Calls Tryd.prog 31 #[.slice A n c, .slice B m d] w fun e w' => e = .returned (.bool (same xs ys)) ∧ ∃ m, w' = w.drewN m := by
  have hlx := Lib.hid hx.len
  have hly := Lib.hid hy.len
  by_cases hnm : n = m
  · obtain ⟨r, hr⟩ : ∃ r, r = same xs ys := ⟨_, rfl⟩
    rw [← hr]
    have HR := Lib.hid hr
    clear hr
    subst hnm
    go_enter Tryd.func31, Tryd.ntmps31
    go_wp2
    go_loopw [5] (fun i wr => ∃ k : Nat, k ≤ n ∧ i = .int .i64 k ∧ Hid (xs.take k = ys.take k) ∧ Rd wr H A n xs ∧ Rd wr H B n ys ∧ ∃ q, wr = w.drewN q) (fun i _ => n - (intOf i).toNat)
    case atStart => exact ⟨0, Nat.zero_le _, rfl, by simp [Hid], hx, hy, 0, rfl⟩
    case round =>
      obtain ⟨k, hk, rfl, htk, hrx, hry, q, hbl⟩ := hrel
      have HBL := Lib.hid hbl
      clear hbl
      by_cases hlt : k < n
      · obtain ⟨b, o, rfl, hbB, hcs⟩ := hrx.at_ (by omega)
        obtain ⟨b', o', rfl, hbB', hcs'⟩ := hry.at_ (by omega)
        have hc := hcs k hlt
        have hc' := hcs' k hlt
        have T1 := Lib.hid (take_eq_step xs ys k (by rw [hlx.out]; exact hlt) (by rw [hly.out]; exact hlt) htk.out)
        have T2 : Hid (xs.getD k 0 ≠ ys.getD k 0 → xs ≠ ys) := fun h e => h (by rw [e])
        clear hcs hcs' hx hy
        generalize xs.getD k 0 = x at hc T1 T2
        generalize ys.getD k 0 = y at hc' T1 T2
        by_cases hxy : x = y
        · have hb : (x != y) = false := by simp [hxy]
          have T3 := Lib.hid (T1.out hxy)
          clear hxy T1 T2
          go_wp2
          go_quiet (fail)
          go_wp2
          go_roundw
          case rel => exact ⟨k + 1, by omega, by go_num, T3, hrx.drewN _, hry.drewN _, q + nq, by rw [HBL.out, World.drewN_drewN]⟩
          case measure => simp [intOf]; omega
        · have hb : (x != y) = true := by simp [hxy]
          have T3 := Lib.hid (T2.out hxy)
          clear hxy T1 T2
          go_wp2
          go_quiet (fail)
          go_wp2
          go_ret
          exact ⟨by rw [HR.out]; simp [same, T3.out], q + nq, by rw [HBL.out, World.drewN_drewN]⟩
      · go_wp2
        go_ret
        obtain rfl : k = n := by omega
        have e : xs = ys := by
          have := htk.out
          rwa [List.take_of_length_le (by rw [hlx.out]; omega), List.take_of_length_le (by rw [hly.out]; omega)] at this
        exact ⟨by rw [HR.out]; simp [same, e], q, HBL.out⟩
  · have hr : same xs ys = false := by
      simp only [same, decide_eq_false_iff_not]
      rintro rfl
      exact hnm (hlx.out.symm.trans hly.out)
    rw [hr]
    have hb : ((n : Int) != (m : Int)) = true := by simp; omega
    clear hr hnm
    go_enter Tryd.func31, Tryd.ntmps31
    go_wp2
    go_ret
    exact ⟨rfl, 0, rfl⟩


end Go.Proofs.YtphffefkjbgibabDoor

namespace Go.Proofs.YtphffefkjbgibabDoor
open Go.ChangeShapes Go.WideShapes Go.ChangeAt Go.RowKit

theorem ckA_range {r p l : List Int} (hr : Ring r) (hl : l.length = p.length) (hp : 0 < l.length) (hx : ∀ x ∈ l, 0 ≤ x ∧ x < r.length) : ckA r p l = (atN r p (maskN l) && same (partL r (maskN l)) l) := by
  have h0 := maskN_pos2 (fun x hm => (hx x hm).1) hp
  have hs := maskN_lt2 r.length l hx
  unfold ckA
  by_cases hsm : partL r (maskN l) = l
  · have hn := part_nodup hr.1 h0 hs
    rw [hsm] at hn
    have hpt : Pts (r.length : Int) l := ⟨hx, hn⟩
    rw [pts_yes hpt]
    simp [same, hsm, hl]
  · simp [same, hsm]
theorem ckA_out {r p l : List Int} {x : Int} (hm : x ∈ l) (hx : ¬ (0 ≤ x ∧ x < r.length)) : ckA r p l = false := by
  have hpt : ¬ Pts (r.length : Int) l := fun h => hx (h.1 x hm)
  simp [ckA, pts_no hpt]

set_option maxRecDepth 10000 in
set_option maxHeartbeats 2000000 in
theorem paS10_any (A0 : Option Addr) (n0 c0 : Nat) (A1 : Option Addr) (n1 c1 H : Nat) (l0 l1 : List Int) (s : ByteArray) (w : World) (h0 : Rd w H A0 n0 l0) (h1 : Rd w H A1 n1 l1) (hH : H ≤ w.heap.size) (hn0 : n0 ≤ 1048576) (hn1 : n1 ≤ 1048576) (hs : s.size ≤ 1048576) :
    Calls Tryd.prog 11 #[.slice A0 n0 c0, .slice A1 n1 c1, .string s] w fun e w' => e = .returned (.bool (paB10 l0 l1 s)) ∧ Below w.heap.size w w' := by
  have HR := Lib.hid (rdpS_any s atW w hs (by decide))
  have HLE : Hid (∀ l, rdW atW.data.toList s.data.toList = some l → 2 * l.length ≤ s.size) := Lib.hid (fun l hl => by
    have h1 := rdW_len hl
    have h2 : s.data.toList.length = s.size := by simp
    omega)
  obtain ⟨r, hr⟩ : ∃ r, r = rdW atW.data.toList s.data.toList := ⟨_, rfl⟩
  have HPL : Hid (paB10 l0 l1 s = if Two8 l0 l1 then (r.filter (ckA l0 l1)).isSome else false) := by rw [Hid, hr, paB10]
  rw [← hr] at HR HLE
  have HT := Lib.hid (fun W (hb : Below w.heap.size w W) => two8S_any A0 n0 c0 A1 n1 c1 H l0 l1 W (h0.below (hb.mono hH)) (h1.below (hb.mono hH)) hn0 hn1)
  clear hr
  cases r with
  | none =>
    have e : paB10 l0 l1 s = false := by rw [HPL.out]; split <;> rfl
    rw [e]
    clear e h0 h1
    go_enter Tryd.func11, Tryd.ntmps11
    go_wp2_with (go_at_call 26; refine HR.out.mono ?_; rintro e w1 ⟨v, rfl, _, hb1⟩)
    go_ret
    exact ⟨rfl, hb1⟩
  | some l =>
    by_cases ht : Two8 l0 l1
    rotate_left
    · have e : paB10 l0 l1 s = false := by rw [HPL.out, if_neg ht]
      rw [e]
      rw [two8_no ht] at HT
      clear e h0 h1 ht
      go_enter Tryd.func11, Tryd.ntmps11
      go_wp2_with (first
        | (go_at_call 26; refine HR.out.mono ?_; rintro e w1 ⟨v, rfl, _, hb1⟩)
        | (go_at_call 27; refine (HT.out _ hb1).mono ?_; rintro e w2 ⟨rfl, hw⟩; rw [← hw]; clear hw))
      go_ret
      exact ⟨rfl, hb1⟩
    have HPL2 : Hid (paB10 l0 l1 s = ckA l0 l1 l) := by
      rw [Hid, HPL.out, if_pos ht]
      cases h : ckA l0 l1 l <;> simp [Option.filter, h]
    have L0 := h0.len
    have L1 := h1.len
    have hl9 : 2 * l.length ≤ 1048576 := by have := HLE.out l rfl; omega
    rw [two8_yes ht] at HT
    by_cases hln : l.length = l1.length
    rotate_left
    · have e : paB10 l0 l1 s = false := by rw [HPL2.out]; simp [ckA, hln]
      rw [e]
      have hne : ((l.length : Int) != (n1 : Int)) = true := by simp; omega
      clear e h0 h1 ht
      go_enter Tryd.func11, Tryd.ntmps11
      go_wp2_with (first
        | (go_at_call 26; refine HR.out.mono ?_; rintro e w1 ⟨v, rfl, ho, hb1⟩; obtain ⟨Ax, cx, rfl⟩ := ho.slice)
        | (go_at_call 27; refine (HT.out _ hb1).mono ?_; rintro e w2 ⟨rfl, hw⟩; rw [← hw]; clear hw))
      go_ret
      exact ⟨rfl, hb1⟩
    have hne : ((l.length : Int) != (n1 : Int)) = false := by simp; omega
    rw [HPL2.out]
    have HRA := Lib.hid ht.1
    have HRP := Lib.hid ht.2.1
    have hn7 : n0 ≤ 7 := by have := ht.1.1.2.1; omega
    have hn3 : 3 ≤ n0 := by have := ht.1.1.1; omega
    have hpos : 0 < l.length := by have := ht.2.1.1.1; omega
    have H0 := Lib.hid (fun W (hb : Below w.heap.size w W) => (h0.below (hb.mono hH)).more (Nat.le_trans hH hb.size))
    have H1 := Lib.hid (fun W (hb : Below w.heap.size w W) => (h1.below (hb.mono hH)).more (Nat.le_trans hH hb.size))
    clear h0 h1 HPL HPL2 ht HLE
    obtain ⟨z, hz⟩ : ∃ z, z = l.length := ⟨_, rfl⟩
    have HZ := Lib.hid hz
    have HLN := Lib.hid hln
    clear hln
    go_enter Tryd.func11, Tryd.ntmps11
    rw [← hz] at hl9 hne hpos
    go_wp2_with (first
      | (go_at_call 26; refine HR.out.mono ?_; rintro e w1 ⟨v, rfl, ho, hb1⟩; obtain ⟨Ax, cx, rfl⟩ := ho.slice)
      | (go_at_call 27; refine (HT.out _ hb1).mono ?_; rintro e w2 ⟨rfl, hw⟩; rw [← hw]; clear hw))
    have hx2 : Rd w1 w1.heap.size Ax l.length l := ho.rd.2
    rw [← hz] at hx2 ⊢
    have HX := Lib.hid hx2
    have HA := Lib.hid (H0.out w1 hb1)
    have HB := Lib.hid (H1.out w1 hb1)
    have HB1 := Lib.hid hb1
    have HLZ : Hid (l0.length = n0) := L0
    clear ho hz hb1 hx2 H0 H1 HR HT L0 L1 hne
    go_loopw [9] (fun i wr => ∃ k : Nat, k ≤ z ∧ i = .int .i64 k ∧ Hid (∀ x ∈ l.take k, 0 ≤ x ∧ x < (n0 : Int)) ∧ Hid (Below w1.heap.size w1 wr)) (fun i _ => z - (intOf i).toNat)
    case atStart => exact ⟨0, Nat.zero_le _, rfl, Lib.hid (by simp), Lib.hid (Below.refl _ _)⟩
    case round =>
      obtain ⟨k, hk, rfl, hrg, hbl⟩ := hrel
      by_cases hlt : k < z
      · have hX2 := HX.out.below hbl.out
        obtain ⟨bb, o, rfl, hbB, hcs⟩ := hX2.at_ (by omega)
        have hc := hcs k hlt
        have hkl : k < l.length := by rw [← HZ.out]; exact hlt
        have e : l.getD k 0 = l[k] := by simp [List.getD, hkl]
        have HMEM : Hid (l.getD k 0 ∈ l) := by rw [Hid, e]; exact List.getElem_mem hkl
        have HTK : Hid (l.take (k + 1) = l.take k ++ [l.getD k 0]) := by rw [Hid, e, List.take_succ_eq_append_getElem hkl]
        clear hcs hX2 e hkl
        generalize l.getD k 0 = x at hc HMEM HTK
        have hw1 : IntKind.i64.wrap ((n0 : Int) - 1) = (n0 : Int) - 1 := IntWalk.i64_in _ (by omega)
        by_cases hx : 0 ≤ x ∧ x < (n0 : Int)
        · have HIN := Lib.hid (fun W => in_yes x 0 ((n0 : Int) - 1) W (by simp; omega))
          have HRG : Hid (∀ y ∈ l.take (k + 1), 0 ≤ y ∧ y < (n0 : Int)) := by
            rw [Hid, HTK.out]
            intro y hy
            rcases List.mem_append.1 hy with hy | hy
            · exact hrg.out y hy
            · rw [List.mem_singleton.1 hy]; exact hx
          clear hx HMEM HTK
          go_wp2_with (go_at_call 28; refine (HIN.out _).mono ?_; rintro e w' ⟨rfl, hw⟩; rw [hw]; clear hw)
          go_roundw
          case rel => exact ⟨k + 1, by omega, by go_num, HRG, hbl⟩
          case measure => simp [intOf]; omega
        · have e1 : ckA l0 l1 l = false := ckA_out HMEM.out (by rw [HLZ.out]; exact hx)
          have E1 := Lib.hid e1
          have HIN := Lib.hid (fun W => in_no x 0 ((n0 : Int) - 1) W (by simp; omega))
          clear hx e1 HMEM HTK
          go_wp2_with (go_at_call 28; refine (HIN.out _).mono ?_; rintro e w' ⟨rfl, hw⟩; rw [hw]; clear hw)
          go_ret
          exact ⟨by rw [E1.out]; rfl, HB1.out.trans (hbl.out.mono HB1.out.size)⟩
      · obtain rfl : k = z := by omega
        have hall : ∀ x ∈ l, 0 ≤ x ∧ x < (l0.length : Int) := by
          have h := hrg.out
          rw [HZ.out, List.take_length] at h
          rw [HLZ.out]
          exact h
        have HCK := Lib.hid (ckA_range HRA.out HLN.out (by rw [← HZ.out]; exact hpos) hall)
        have h0 := maskN_pos2 (fun x hm => (hall x hm).1) (by rw [← HZ.out]; exact hpos)
        have hs2 := maskN_lt2 l0.length l hall
        have hXk := HX.out.below hbl.out
        have HST := Lib.hid (setS_any Ax k cx w1.heap.size l wr hXk (by omega) (fun x hm => by have := hall x hm; have := HLZ.out; omega))
        have HAT := Lib.hid (at8_any A0 n0 c0 A1 n1 c1 w1.heap.size l0 l1 (maskN l) wr (HA.out.below hbl.out) (HB.out.below hbl.out) hbl.out.size HRA.out.1 HRP.out.1 hs2)
        have HPS := Lib.hid (fun W (hb : Below w1.heap.size w1 W) => partS_any A0 n0 c0 w1.heap.size l0 (maskN l) W (HA.out.below hb) hb.size HRA.out.1 h0 hs2)
        have HEQ := Lib.hid (fun (A' : Option Addr) (n' c' : Nat) (W : World) (hW : Rd W W.heap.size A' n' (partL l0 (maskN l))) (kW : Rd W W.heap.size Ax k l) (hn' : n' ≤ 1048576) => eqS6_drew A' Ax n' k c' cx _ l W.heap.size W hW kW hn' (by omega))
        have hsh : (partL l0 (maskN l)).length ≤ 7 := Nat.le_trans (part_length l0 (maskN l)) (by have := HRA.out.1.2.1; omega)
        have HXW := Lib.hid (fun W (hb : Below w1.heap.size w1 W) => (HX.out.below hb).more hb.size)
        have HBW := Lib.hid (fun W (hb : Below w1.heap.size w1 W) => HB1.out.trans (hb.mono HB1.out.size))
        clear hall hs2 h0 hXk hrg
        generalize partL l0 (maskN l) = R at *
        generalize hM : maskN l = m at *
        cases hat : atN l0 l1 m with
        | false =>
          rw [hat] at HAT HCK
          rw [Bool.false_and] at HCK
          clear hat hM HPS HEQ
          go_wp2_with (first
            | (go_at_call 29; refine HST.out.mono ?_; rintro e w' ⟨rfl, hw⟩; rw [← hw]; clear hw)
            | (go_at_call 30; refine HAT.out.mono ?_; rintro e w4 ⟨rfl, hb4⟩))
          go_ret
          exact ⟨by rw [HCK.out]; rfl, HBW.out _ (hbl.out.trans (hb4.mono hbl.out.size))⟩
        | true =>
          rw [hat] at HAT HCK
          rw [Bool.true_and] at HCK
          clear hat hM
          go_wp2_with (first
            | (go_at_call 29; refine HST.out.mono ?_; rintro e w' ⟨rfl, hw⟩; rw [← hw]; clear hw)
            | (go_at_call 30; refine HAT.out.mono ?_; rintro e w4 ⟨rfl, hb4⟩; have hq4 := hbl.out.trans (hb4.mono hbl.out.size))
            | (go_at_call 21; refine (HPS.out _ hq4).mono ?_; rintro e w5 ⟨v5, rfl, ho5, hb5⟩; obtain ⟨A5, c5, rfl⟩ := ho5.slice; have hq5 := hq4.trans (hb5.mono hq4.size))
            | (go_at_call 31; refine (HEQ.out A5 _ c5 _ ho5.rd.2 (HXW.out _ hq5) (by omega)).mono ?_; rintro e w6 ⟨rfl, p6, rfl⟩))
          go_ret
          exact ⟨by rw [HCK.out]; rfl, below_drewN (HBW.out _ hq5) _⟩
end Go.Proofs.YtphffefkjbgibabDoor

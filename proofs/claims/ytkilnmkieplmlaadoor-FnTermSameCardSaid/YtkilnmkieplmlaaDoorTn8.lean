/- TermSame: the program's and the model's. -/
import Derived.Test.YtkilnmkieplmlaaDoorTn7
import Derived.Test.YtkilnmkieplmlaaDoorMA
import Derived.Test.YtkilnmkieplmlaaDoorEqS
namespace Go.Proofs.YtkilnmkieplmlaaDoor
open Go.ChangeShapes Go.WideShapes Go.ChangeAt Go.RowKit

/-- Two texts tell one ring. -/
def tsameB (l m : List UInt8) : Bool := tringB l && (tringB m && same (tringR l) (tringR m))
theorem unpad_padT (l : List Int) (h : ∀ x ∈ l, 0 ≤ x) : (padR l).filter (fun x => decide (0 ≤ x)) = l := by
  unfold padR
  rw [List.filter_append, List.filter_eq_self.2 (by simpa using h)]
  simp
theorem padT_inj {a b : List Int} (ha : ∀ x ∈ a, 0 ≤ x) (hb : ∀ x ∈ b, 0 ≤ x) : decide (padR a = padR b) = same a b := by
  unfold same
  rw [decide_eq_decide]
  refine ⟨fun h => ?_, fun h => by rw [h]⟩
  have := congrArg (fun l => l.filter fun x => decide (0 ≤ x)) h
  simpa only [unpad_padT a ha, unpad_padT b hb] using this
theorem cut_posT {l : List Int} (hT : Tell l) : ∀ x ∈ cutL l 0, 0 ≤ x := by
  intro x hx
  have h3 := hT.1
  unfold cutL at hx
  obtain ⟨i, hi, rfl⟩ := List.mem_map.1 hx
  have hlt : (l.idxOf 0 + i) % l.length < l.length := Nat.mod_lt _ (by omega)
  exact (hT.2.2.1 _ (getD_mem _ _ hlt)).1

theorem sameS_any (s t : ByteArray) (w : World) (hs : s.size ≤ 1048576) (ht : t.size ≤ 1048576) : Calls Tryd.prog 6 #[.string s, .string t] w fun e w' => e = .returned (.bool (tsameB s.data.toList t.data.toList)) ∧ Below w.heap.size w w' := by
  have HA := Lib.hid (tringS_law 0 s w (Nat.zero_le _) hs)
  have HC := Lib.hid (fun W => tringS_law 0 t W (Nat.zero_le _) ht)
  have la := tringR_length s.data.toList
  have lb := tringR_length t.data.toList
  unfold tsameB
  obtain ⟨A, hA⟩ : ∃ A, A = tringR s.data.toList := ⟨_, rfl⟩
  obtain ⟨B, hB⟩ : ∃ B, B = tringR t.data.toList := ⟨_, rfl⟩
  obtain ⟨p, hp⟩ : ∃ p, p = tringB s.data.toList := ⟨_, rfl⟩
  obtain ⟨q, hq⟩ : ∃ q, q = tringB t.data.toList := ⟨_, rfl⟩
  rw [← hA] at HA la ⊢
  rw [← hB] at HC lb ⊢
  rw [← hp] at HA ⊢
  rw [← hq] at HC ⊢
  obtain ⟨r, hr⟩ : ∃ r, r = same A B := ⟨_, rfl⟩
  rw [← hr]
  have HR := Lib.hid hr
  clear hA hB hp hq hr hs ht
  go_enter Tryd.func6, Tryd.ntmps6
  go_wp2_with fail
  refine HA.out.mono ?_
  rintro e w1 ⟨v1, rfl, ho1, hb1⟩
  obtain ⟨A1, c1, rfl⟩ := ho1.slice
  have hs1 := hb1.size
  have HO1 := Lib.hid ho1.rd.2
  clear ho1
  go_wp2_with fail
  refine (HC.out w1).mono ?_
  rintro e w2 ⟨v2, rfl, ho2, hb2⟩
  obtain ⟨A2, c2, rfl⟩ := ho2.slice
  have hs2 := hb2.size
  have HR1 := Lib.hid ((HO1.out.below hb2).more hs2)
  have HR2 := Lib.hid ho2.rd.2
  have HB2 := Lib.hid (hb1.trans (hb2.mono hs1))
  clear ho2 hb1 hb2 HO1
  cases p with
  | false =>
    go_wp2_with fail
    go_ret
    exact ⟨rfl, HB2.out⟩
  | true =>
    cases q with
    | false =>
      go_wp2_with fail
      go_ret
      exact ⟨rfl, HB2.out⟩
    | true =>
      go_wp2_with (go_at_call 13; refine (eqS6_drew _ _ _ _ _ _ A B w2.heap.size w2 HR1.out HR2.out (by omega) (by omega)).mono ?_; rintro e w3 ⟨rfl, z, rfl⟩; rw [← HR.out])
      go_ret
      exact ⟨by simp, below_drewN HB2.out z⟩

attribute [local go_sem ↓] ldR_fold stR_fold in
theorem sameI_nx (s t : ByteArray) (w : World) (hand : Hand w) (hs : s.size ≤ 1048576) (ht : t.size ≤ 1048576) (h : ringT s.data.toList = none) : Calls Tryd.prog 5 #[.string s, .string t] w fun e w' => e = .returned (.bool false) ∧ Below w.heap.size w w' := by
  have HA := Lib.hid ((rrNo7 s hs h).out w hand)
  have HH := Lib.hid hand
  rcases h2 : ringT t.data.toList with _ | u
  · have HC := rrNo7 t ht h2
    clear h h2 hand hs ht
    go_enter Tryd.func5, Tryd.ntmps5
    go_wp2_with fail
    refine HA.out.mono ?_
    rintro e w1 ⟨rfl, hb1⟩
    obtain ⟨W2, r2, a2, b2⟩ := put7 w1 (-1) (-1) (-1) (-1) (-1) (-1) (-1)
    have HB2 := Lib.hid (hb1.trans (b2.out.mono hb1.size))
    clear hb1
    go_wp2_with fail
    refine (HC.out W2 (HH.out.on HB2.out)).mono ?_
    rintro e w3 ⟨rfl, hb3⟩
    obtain ⟨W4, r4, a4, b4⟩ := put7 w3 (-1) (-1) (-1) (-1) (-1) (-1) (-1)
    have HB4 := Lib.hid (HB2.out.trans ((hb3.trans (b4.out.mono hb3.size)).mono HB2.out.size))
    clear hb3 a2 a4
    go_wp2_with fail
    go_ret
    exact ⟨rfl, HB4.out⟩
  · obtain ⟨q0, q1, q2, q3, q4, q5, q6, hQ, HC⟩ := rrYes7 t ht u h2
    clear h h2 hand hs ht
    go_enter Tryd.func5, Tryd.ntmps5
    go_wp2_with fail
    refine HA.out.mono ?_
    rintro e w1 ⟨rfl, hb1⟩
    obtain ⟨W2, r2, a2, b2⟩ := put7 w1 (-1) (-1) (-1) (-1) (-1) (-1) (-1)
    have HB2 := Lib.hid (hb1.trans (b2.out.mono hb1.size))
    clear hb1
    go_wp2_with fail
    refine (HC.out W2 (HH.out.on HB2.out)).mono ?_
    rintro e w3 ⟨v3, rfl, _, hb3⟩
    obtain ⟨W4, r4, a4, b4⟩ := put7 w3 q0 q1 q2 q3 q4 q5 q6
    have HB4 := Lib.hid (HB2.out.trans ((hb3.trans (b4.out.mono hb3.size)).mono HB2.out.size))
    clear hb3 a2 a4
    go_wp2_with fail
    go_ret
    exact ⟨rfl, HB4.out⟩
attribute [local go_sem ↓] ldR_fold stR_fold in
theorem sameI_yn (s t : ByteArray) (w : World) (hand : Hand w) (hs : s.size ≤ 1048576) (ht : t.size ≤ 1048576) (a : Tm) (h : ringT s.data.toList = some a) (h2 : ringT t.data.toList = none) : Calls Tryd.prog 5 #[.string s, .string t] w fun e w' => e = .returned (.bool false) ∧ Below w.heap.size w w' := by
  obtain ⟨q0, q1, q2, q3, q4, q5, q6, hQ, HA'⟩ := rrYes7 s hs a h
  have HA := Lib.hid (HA'.out w hand)
  have HH := Lib.hid hand
  have HC := rrNo7 t ht h2
  clear h h2 hand hs ht HA'
  go_enter Tryd.func5, Tryd.ntmps5
  go_wp2_with fail
  refine HA.out.mono ?_
  rintro e w1 ⟨v1, rfl, _, hb1⟩
  obtain ⟨W2, r2, a2, b2⟩ := put7 w1 q0 q1 q2 q3 q4 q5 q6
  have HB2 := Lib.hid (hb1.trans (b2.out.mono hb1.size))
  clear hb1
  go_wp2_with fail
  refine (HC.out W2 (HH.out.on HB2.out)).mono ?_
  rintro e w3 ⟨rfl, hb3⟩
  obtain ⟨W4, r4, a4, b4⟩ := put7 w3 (-1) (-1) (-1) (-1) (-1) (-1) (-1)
  have HB4 := Lib.hid (HB2.out.trans ((hb3.trans (b4.out.mono hb3.size)).mono HB2.out.size))
  clear hb3 a2 a4
  go_wp2_with fail
  go_ret
  exact ⟨rfl, HB4.out⟩
attribute [local go_sem ↓] ldR_fold stR_fold in
set_option maxRecDepth 10000 in
theorem sameI_yy (s t : ByteArray) (w : World) (hand : Hand w) (hs : s.size ≤ 1048576) (ht : t.size ≤ 1048576) (a b : Tm) (h : ringT s.data.toList = some a) (h2 : ringT t.data.toList = some b) :
    Calls Tryd.prog 5 #[.string s, .string t] w fun e w' => e = .returned (.bool (same (cutL (ptsU a.row) 0) (cutL (ptsU b.row) 0))) ∧ Below w.heap.size w w' := by
  have hpi := padT_inj (cut_posT (ringT_ok h).2) (cut_posT (ringT_ok h2).2)
  obtain ⟨q0, q1, q2, q3, q4, q5, q6, hQ, HA'⟩ := rrYes7 s hs a h
  obtain ⟨p0, p1, p2, p3, p4, p5, p6, hP, HC⟩ := rrYes7 t ht b h2
  have HA := Lib.hid (HA'.out w hand)
  have HH := Lib.hid hand
  rw [hQ.out, hP.out] at hpi
  obtain ⟨r, hr⟩ : ∃ r, r = same (cutL (ptsU a.row) 0) (cutL (ptsU b.row) 0) := ⟨_, rfl⟩
  rw [← hr] at hpi ⊢
  have HE : Hid (∀ W : World, (binOp .eql 39 (ag q0 q1 q2 q3 q4 q5 q6) (ag p0 p1 p2 p3 p4 p5 p6)).run Tryd.prog W = .ok (.bool r) W) := fun W => by rw [eq_ring, hpi]
  clear h h2 hand hs ht HA' hr hpi hQ hP
  go_enter Tryd.func5, Tryd.ntmps5
  go_wp2_with fail
  refine HA.out.mono ?_
  rintro e w1 ⟨v1, rfl, _, hb1⟩
  obtain ⟨W2, r2, a2, b2⟩ := put7 w1 q0 q1 q2 q3 q4 q5 q6
  have HB2 := Lib.hid (hb1.trans (b2.out.mono hb1.size))
  have hs2 : w1.heap.size < W2.heap.size := a2.out.lt
  clear hb1
  go_wp2_with fail
  refine (HC.out W2 (HH.out.on HB2.out)).mono ?_
  rintro e w3 ⟨v3, rfl, _, hb3⟩
  obtain ⟨W4, r4, a4, b4⟩ := put7 w3 p0 p1 p2 p3 p4 p5 p6
  have HB4 := Lib.hid (HB2.out.trans ((hb3.trans (b4.out.mono hb3.size)).mono HB2.out.size))
  have l1 := ldR_run ((a2.out.below hb3 hs2).below b4.out (by have := hb3.size; omega)) rfl
  have l2 := ldR_run a4.out rfl
  simp only [ints, List.map_cons, List.map_nil] at l1 l2
  have HE4 := HE.out
  clear hb3 a2 a4
  go_wp2_with fail
  go_ret
  exact ⟨rfl, HB4.out⟩
theorem sameTI_any (s t : ByteArray) (w : World) (hand : Hand w) (hs : s.size ≤ 1048576) (ht : t.size ≤ 1048576) : Calls Tryd.prog 5 #[.string s, .string t] w fun e w' => e = .returned (.bool (tsameB s.data.toList t.data.toList)) ∧ Below w.heap.size w w' := by
  rcases h : ringT s.data.toList with _ | a
  · have e : tsameB s.data.toList t.data.toList = false := by simp [tsameB, tringB, h]
    rw [e]
    exact sameI_nx s t w hand hs ht h
  · rcases h2 : ringT t.data.toList with _ | b
    · have e : tsameB s.data.toList t.data.toList = false := by simp [tsameB, tringB, h, h2]
      rw [e]
      exact sameI_yn s t w hand hs ht a h h2
    · have e : tsameB s.data.toList t.data.toList = same (cutL (ptsU a.row) 0) (cutL (ptsU b.row) 0) := by simp [tsameB, tringB, tringR, h, h2]
      rw [e]
      exact sameI_yy s t w hand hs ht a b h h2

end Go.Proofs.YtkilnmkieplmlaaDoor

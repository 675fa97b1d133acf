/- A proof's own check, asked by way of the function value that it keeps; the reading of a proof. -/
import Derived.Test.YthefnanhikjddaaDoorPdR
import Derived.Test.YthefnanhikjddaaDoorPdQ
namespace Go.Proofs.YthefnanhikjddaaDoor
open Go.ChangeShapes Go.WideShapes Go.ChangeAt Go.RowKit

set_option maxRecDepth 10000 in
theorem holds_Cl (mb : Nat) (p : ByteArray) (v : Value) (w : World) (r : Bool)
    (HC : Hid (∀ W, Below w.heap.size w W → Calls Tryd.prog 22 #[.map (some mb), v] W fun e w' => e = .returned (.bool r) ∧ Below W.heap.size W w')) :
    Calls Tryd.prog 48 #[.agg #[.string p, v, .func (.func 22) #[.map (some mb)] #[]]] w fun e w' => e = .returned (.bool r) ∧ Below w.heap.size w w' := by
  go_enter Tryd.func48, Tryd.ntmps48
  go_wp2_with fail
  have hb0 := (Below.refl w.heap.size w).alloc (Nat.le_refl _) (.cells #[.string p, v, .func (.func 22) #[.map (some mb)] #[]] 52)
  refine (HC.out _ hb0).mono ?_
  rintro e w1 ⟨rfl, hb1⟩
  have HB := Lib.hid (hb0.trans (hb1.mono hb0.size))
  clear hb0 hb1 HC
  go_wp2
  go_ret
  exact ⟨rfl, HB.out⟩

/-- What the reading of a proof hands back: the points that have been read, if the check tells so. -/
def RPCl (mb : Nat) (p : ByteArray) (r : Option (List Int)) (w : World) (e : Ending) (w' : World) : Prop :=
  match r with
  | none => e = .returned (.tuple #[.agg #[.string ⟨#[]⟩, .slice none 0 0, .nilFunc], .bool false]) ∧ Below w.heap.size w w'
  | some l => ∃ g, e = .returned (.tuple #[.agg #[.string p, .slice (some ⟨g, 0, none⟩) l.length l.length, .func (.func 22) #[.map (some mb)] #[]], .bool true]) ∧ Below w.heap.size w w'

attribute [local go_sem ↓] ldP_fold stP_fold in
set_option maxRecDepth 10000 in
set_option maxHeartbeats 1000000 in
theorem readProof_Cl (mb : Nat) (s p : ByteArray) (w : World) (ck : List Int → Bool) (hs : s.size ≤ 1048576)
    (HC : Hid (∀ (l : List Int) (A : Option Addr) (c : Nat) (W : World), rdW p.data.toList s.data.toList = some l → Below w.heap.size w W → Rd W W.heap.size A l.length l → Calls Tryd.prog 22 #[.map (some mb), .slice A l.length c] W fun e w' => e = .returned (.bool (ck l)) ∧ Below W.heap.size W w')) :
    Calls Tryd.prog 29 #[.string s, .string p, .func (.func 22) #[.map (some mb)] #[]] w (RPCl mb p ((rdW p.data.toList s.data.toList).filter ck) w) := by
  have hb0 := (Below.refl w.heap.size w).alloc (Nat.le_refl _) (.cells #[.string ⟨#[]⟩, .slice none 0 0, .nilFunc] 52)
  have hs0 := hb0.size
  have HR := Lib.hid (rdpI_any s p (w.alloc (.cells #[.string ⟨#[]⟩, .slice none 0 0, .nilFunc] 52)) hs)
  obtain ⟨r, hr⟩ : ∃ r, r = rdW p.data.toList s.data.toList := ⟨_, rfl⟩
  rw [← hr] at HR HC ⊢
  clear hr
  have hg0 := heap_alloc_new w (.cells #[.string ⟨#[]⟩, .slice none 0 0, .nilFunc] 52)
  have hz0 : (w.alloc (.cells #[.string ⟨#[]⟩, .slice none 0 0, .nilFunc] 52)).heap.size = w.heap.size + 1 := by simp
  have p00 : PfB (w.alloc (.cells #[.string ⟨#[]⟩, .slice none 0 0, .nilFunc] 52)) w.heap.size [.string ⟨#[]⟩, .slice none 0 0, .nilFunc] := hg0
  clear hg0
  cases r with
  | none =>
    go_enter Tryd.func29, Tryd.ntmps29
    go_wp2_with fail
    refine HR.out.mono ?_
    rintro e w1 ⟨rfl, hb1⟩
    have hl1 := hb1.size
    have p0 := p00.keep hb1 (by omega)
    obtain ⟨w2, hst1, p1, g1, z1⟩ := stP_run (ds := [.string p, .slice none 0 0, .func (.func 22) #[.map (some mb)] #[]]) (heap_alloc_new w1 (.cells #[.string ⟨#[]⟩, .slice none 0 0, .nilFunc] 52)) rfl rfl (by simp [Value.oneCell'])
    have z1' : w2.heap.size = w1.heap.size + 1 := by rw [z1]; simp
    have q2 : PfB w2 w.heap.size [.string ⟨#[]⟩, .slice none 0 0, .nilFunc] := (g1.block _ (by simp; omega) (by simp; omega)).trans ((Below.heap_alloc w1 _ _ (by omega)).trans p0)
    obtain ⟨w3, hst2, p2, g2, z2⟩ := stP_run (ds := [.string ⟨#[]⟩, .slice none 0 0, .nilFunc]) q2 rfl rfl (by simp [Value.oneCell'])
    have HB : Hid (Below w.heap.size w w3) := Lib.hid ((((hb0.trans (hb1.mono hs0)).alloc (by omega) _).grown g1 (by simp; omega) (by simp; omega)).grown g2 (by omega) (by simp))
    have HP := Lib.hid p2
    clear p0 p1 p2 q2 g1 g2 p00 hb0 hb1
    go_wp2
    exact ret_pf2 rfl w.heap.size _ rfl rfl HP rfl ⟨rfl, HB.out⟩
  | some l =>
    have HR1 : Calls Tryd.prog 53 #[.string s, .string p] (w.alloc (.cells #[.string ⟨#[]⟩, .slice none 0 0, .nilFunc] 52)) fun e w' => e = .returned (.tuple #[.slice (some ⟨w.heap.size + 1, 0, none⟩) l.length l.length, .bool true]) ∧ Own w' (w.heap.size + 1) (.slice (some ⟨w.heap.size + 1, 0, none⟩) l.length l.length) l ∧ Below (w.heap.size + 1) (w.alloc (.cells #[.string ⟨#[]⟩, .slice none 0 0, .nilFunc] 52)) w' := by
      have h := HR.out
      unfold RdI at h
      simpa only [hz0] using h
    have HR2 := Lib.hid HR1
    clear HR1 HR
    go_enter Tryd.func29, Tryd.ntmps29
    go_wp2_with fail
    refine HR2.out.mono ?_
    rintro e w1 ⟨rfl, ho1, hb1⟩
    have hl1 := hb1.size
    have p0 := p00.keep hb1 (by omega)
    obtain ⟨w2, hst1, p1, g1, z1⟩ := stP_run (ds := [.string p, .slice (some ⟨w.heap.size + 1, 0, none⟩) l.length l.length, .func (.func 22) #[.map (some mb)] #[]]) (heap_alloc_new w1 (.cells #[.string ⟨#[]⟩, .slice none 0 0, .nilFunc] 52)) rfl rfl (by simp [Value.oneCell'])
    have z1' : w2.heap.size = w1.heap.size + 1 := by rw [z1]; simp
    have q2 : PfB w2 w.heap.size [.string ⟨#[]⟩, .slice none 0 0, .nilFunc] := (g1.block _ (by simp; omega) (by simp; omega)).trans ((Below.heap_alloc w1 _ _ (by omega)).trans p0)
    have hb12 : Below w1.heap.size w1 w2 := ((Below.refl _ _).alloc (Nat.le_refl _) _).grown g1 (by simp) (by simp)
    have hld1 := ldP_run p1 rfl
    have hb02 : Below w.heap.size w w2 := (hb0.trans (hb1.mono (by omega))).trans (hb12.mono (by omega))
    have hrd2 : Rd w2 w2.heap.size (some ⟨w.heap.size + 1, 0, none⟩) l.length l := (ho1.rd.2.below hb12).more (by omega)
    have HC2 : Hid (∀ W, Below w2.heap.size w2 W → Calls Tryd.prog 22 #[.map (some mb), .slice (some ⟨w.heap.size + 1, 0, none⟩) l.length l.length] W fun e w' => e = .returned (.bool (ck l)) ∧ Below W.heap.size W w') :=
      fun W hW => HC.out l _ _ W rfl (hb02.trans (hW.mono hb02.size)) ((hrd2.below hW).more hW.size)
    have HH := Lib.hid (holds_Cl mb p _ w2 (ck l) HC2)
    have HB2 := Lib.hid hb02
    have P1 := Lib.hid p1
    have Q2 := Lib.hid q2
    clear p0 p1 q2 g1 p00 hb0 hb1 hb12 hb02 hrd2 HC2 HC ho1
    cases hck : ck l with
    | false =>
      rw [hck] at HH
      have e : (some l).filter ck = none := by simp [Option.filter, hck]
      have HE := Lib.hid e
      clear e
      go_wp2_with fail
      refine HH.out.mono ?_
      rintro e w3 ⟨rfl, hb3⟩
      have q3 := Q2.out.keep hb3 (by omega)
      obtain ⟨w4, hst2, p2, g2, z2⟩ := stP_run (ds := [.string ⟨#[]⟩, .slice none 0 0, .nilFunc]) q3 rfl rfl (by simp [Value.oneCell'])
      have HB : Hid (Below w.heap.size w w4) := Lib.hid ((HB2.out.trans (hb3.mono HB2.out.size)).grown g2 (by have := hb3.size; omega) (by simp))
      have HP := Lib.hid p2
      clear q3 p2 g2 hb3
      go_wp2
      exact ret_pf2 rfl w.heap.size _ rfl rfl HP rfl (by rw [HE.out]; exact ⟨rfl, HB.out⟩)
    | true =>
      rw [hck] at HH
      have e : (some l).filter ck = some l := by simp [Option.filter, hck]
      have HE := Lib.hid e
      clear e
      go_wp2_with fail
      refine HH.out.mono ?_
      rintro e w3 ⟨rfl, hb3⟩
      have q3 := Q2.out.keep hb3 (by omega)
      have p3 := P1.out.keep hb3 (by omega)
      have hld3 := ldP_run p3 rfl
      obtain ⟨w4, hst2, p2, g2, z2⟩ := stP_run (ds := [.string p, .slice (some ⟨w.heap.size + 1, 0, none⟩) l.length l.length, .func (.func 22) #[.map (some mb)] #[]]) q3 rfl rfl (by simp [Value.oneCell'])
      have HB : Hid (Below w.heap.size w w4) := Lib.hid ((HB2.out.trans (hb3.mono HB2.out.size)).grown g2 (by have := hb3.size; omega) (by simp))
      have HP := Lib.hid p2
      clear q3 p2 g2 hb3 p3
      go_wp2
      exact ret_pf2 rfl w.heap.size _ rfl rfl HP rfl (by rw [HE.out]; exact ⟨_, rfl, HB.out⟩)
end Go.Proofs.YthefnanhikjddaaDoor

/- Where a set begins, going round from a linked point: the program. -/
import Derived.Test.YthpomflpnmddoaaGreatDoorLnk
import Derived.Test.YthpomflpnmddoaaGreatDoorArM
import Derived.Test.YthpomflpnmddoaaGreatDoorFold
import Derived.Deep.LoopGhost
namespace Go.Proofs.YthpomflpnmddoaaGreatDoor
open Go.ChangeShapes Go.WideShapes Go.ChangeAt Go.RowKit

/-- A set that is asked for a point. -/
theorem askF_any (s b : Nat) (x : Int) (w : World) (hc : w.cell? ⟨b, 0, none⟩ = some (.int .i64 (s : Int))) (hs : s < 128) (h0 : 0 ≤ x) (h7 : x < 7) :
    Calls Tryz.prog 77 #[.int .i64 x, .pointer (some ⟨b, 0, none⟩)] w fun e w' => e = .returned (.bool (hasN s x)) ∧ w = w' := by
  have HH := Lib.hid (setHas_any s x w hs h0 h7)
  generalize hasN s x = r at *
  go_enter Tryz.func77, Tryz.ntmps77
  go_wp2_with (go_at_call 78; refine HH.out.mono ?_; rintro e w' ⟨rfl, rfl⟩)
  go_ret
  exact ⟨rfl, rfl⟩
/-- The set as a function value. -/
abbrev askV (b : Nat) : Value := .func (.func 77) #[] #[.pointer (some ⟨b, 0, none⟩)]
/-- A variable that holds a set. -/
def SetC (w : World) (b : Nat) (s : Nat) : Prop := b < w.heap.size ∧ w.cell? ⟨b, 0, none⟩ = some (.int .i64 (s : Int))
theorem SetC.below {w w' : World} {b s E : Nat} (h : SetC w b s) (hb : Below E w w') (hE : b < E) : SetC w' b s := ⟨Nat.lt_of_lt_of_le h.1 hb.size, (hb.cell (p := ⟨b, 0, none⟩) hE).trans h.2⟩

theorem askedA_any (s : Nat) (w : World) :
    Calls Tryz.prog 49 #[.int .i64 (s : Int)] w fun e w' => e = .returned (askV w.heap.size) ∧ w' = w.alloc (.cells #[.int .i64 (s : Int)] 3) := by
  go_enter Tryz.func49, Tryz.ntmps49
  go_wp2
  go_ret
  exact ⟨rfl, rfl⟩
theorem SetC.new (w : World) (s : Nat) : SetC (w.alloc (.cells #[.int .i64 (s : Int)] 3)) w.heap.size s := ⟨by simp, by
  have := one_cell w (.int .i64 (s : Int)) 3 0 _ rfl
  rwa [Addr.add_lit] at this⟩

/-- Pointers to linked points. -/
def ptrs (gs : List Nat) : List Value := gs.map fun g => .pointer (some ⟨g, 0, none⟩)
def OwnP (w : World) (B : Nat) (v : Value) (gs : List Nat) : Prop := w.ownsRow B 54 1 v gs.length (ptrs gs)
theorem ptr_info : (Tryz.prog.info? 54).map (fun i => (i.zero, i.size, i.bytes)) = some (some (.pointer none), 1, 8) := by kernel_rfl
theorem ownP_empty (w : World) (B : Nat) (hB : B ≤ w.heap.size) : OwnP (w.alloc (.cells #[] 54)) B (.slice (some ⟨w.heap.size, 0, none⟩) 0 0) [] :=
  World.ownsRow_lit w #[] 0 hB (by unfold maxLen; omega) rfl
theorem apP_run {V : World} {B : Nat} {v : Value} {C : List Nat} (h : OwnP V B v C) (hB : B ≤ V.heap.size) (hl : C.length ≤ 3000) (x : Nat) :
    ∃ v' w', (∀ ty, (apI #[95, 95] ty #[v, .slice (some ⟨V.heap.size, 0, none⟩) 1 1]).run Tryz.prog (V.alloc (.cells #[.pointer (some ⟨x, 0, none⟩)] 54)) = .ok v' w') ∧ OwnP w' B v' (C ++ [x]) ∧ (V.alloc (.cells #[.pointer (some ⟨x, 0, none⟩)] 54)).grownBy w' v.ownBlock := by
  obtain ⟨i0, hi, hz0, hz1, hz2⟩ := info_parts ptr_info
  obtain ⟨v', w', hrun, hown, hgr, _⟩ := run_append_own (P := Tryz.prog) (V.alloc (.cells #[.pointer (some ⟨x, 0, none⟩)] 54)) B 95 95 54 i0 (.pointer none) 1 8 Tryz.underlying95 hi hz0 hz1 hz2 rfl (by decide) v C.length (ptrs C) (World.ownsRow.alloc h _) ⟨V.heap.size, 0, none⟩ 1 1 [.pointer (some ⟨x, 0, none⟩)] rfl (one_cell V _ _) (by simp [Value.oneCell']) (by unfold maxLen; omega) (by omega) (by simp; omega)
  exact ⟨v', w', fun _ => hrun, by unfold OwnP; simpa [ptrs] using hown, hgr⟩
theorem apP_below {V w' : World} {B D : Nat} {v : Value} {C : List Nat} {x : Nat} (h : OwnP V B v C) (hg : (V.alloc (.cells #[.pointer (some ⟨x, 0, none⟩)] 54)).grownBy w' v.ownBlock) {w : World} (hD : D ≤ B) (hb : Below D w V) (hV : D ≤ V.heap.size) : Below D w w' :=
  (hb.alloc hV _).grown hg (by simp; omega) fun k hk => Nat.le_trans hD (World.ownsRow.lt h k hk).1
theorem OwnP.slice {w : World} {B : Nat} {v : Value} {gs : List Nat} (h : OwnP w B v gs) : ∃ A c, v = .slice A gs.length c := by
  rcases h.2 with ⟨e, h0⟩ | ⟨g, cap, cur, e, _⟩
  · exact ⟨none, 0, by rw [e, h0]⟩
  · exact ⟨_, cap, e⟩
theorem OwnP.head {w : World} {B : Nat} {v : Value} {g : Nat} (h : OwnP w B v [g]) : ∃ b c, v = .slice (some ⟨b, 0, none⟩) 1 c ∧ w.cell? ⟨b, 0, none⟩ = some (.pointer (some ⟨g, 0, none⟩)) := by
  rcases h.2 with ⟨e, h0⟩ | ⟨b, cap, cur, e, hb, hh, hnc, hcm, hcs, ht⟩
  · simp at h0
  · refine ⟨b, cap, e, ?_⟩
    have e' := e
    subst e
    rw [h.cellAt 0 (by simp)]
    rfl

attribute [local go_sem ↓] apI_fold in
set_option maxRecDepth 10000 in
set_option maxHeartbeats 2000000 in
theorem runs_any (l : List Int) (s b D : Nat) (g : Nat → Nat) (w : World) (h : Lnk w D g l) (h2 : 2 ≤ l.length) (h7 : l.length ≤ 7) (hp : ∀ x ∈ l, 0 ≤ x ∧ x < 7) (hs : s < 128) (hc : SetC w b s) :
    Calls Tryz.prog 50 #[.pointer (some ⟨g 0, 0, none⟩), askV b] w fun e w' => ∃ v, e = .returned v ∧ OwnP w' w.heap.size v ((runP (hasN s) l l.length).map g) ∧ Below w.heap.size w w' := by
  obtain ⟨n, hn⟩ : ∃ n, n = l.length := ⟨_, rfl⟩
  have HL := Lib.hid hn
  rw [← hn] at h2 h7 ⊢
  have HP := Lib.hid (fun k (hk : k < n) => hp _ (getD_mem l k (by rw [← HL.out]; exact hk)))
  have HLK := Lib.hid (fun (V : World) (hV : Below w.heap.size w V) => h.below hV (Nat.le_refl _))
  have HSC := Lib.hid (fun (V : World) (hV : Below w.heap.size w V) => hc.below hV hc.1)
  have HYES := Lib.hid (fun k => runP_yes (p := hasN s) (l := l) (k := k))
  have HNO := Lib.hid (fun k => runP_no (p := hasN s) (l := l) (k := k))
  have HLN := Lib.hid (fun k => runP_len (hasN s) l k)
  have HBG : Hid (∀ k, begs (hasN s) l k = (!hasN s (l.getD k 0) && hasN s (l.getD ((k + 1) % n) 0))) := fun k => by rw [begs, ← HL.out]
  have HASK := Lib.hid (fun (x : Int) (V : World) (hV : Below w.heap.size w V) (h0 : 0 ≤ x) (h7 : x < 7) => askF_any s b x V (hc.below hV hc.1).2 hs h0 h7)
  have ho0 := Lib.hid (ownP_empty w _ (Nat.le_refl _))
  have hb0 := Lib.hid ((Below.refl w.heap.size w).alloc (Nat.le_refl _) (.cells #[] 54))
  clear h hc hn hp
  go_enter Tryz.func50, Tryz.ntmps50
  go_wp2
  generalize hW0 : w.alloc (.cells #[] 54) = W0 at *
  clear hW0
  go_loopg [5, 6] (n - 0) (fun q v a wr => ∃ k : Nat, k < n ∧ q = n - k ∧ a = .pointer (some ⟨g k, 0, none⟩) ∧ Hid (OwnP wr w.heap.size v ((runP (hasN s) l k).map g)) ∧ Hid (Below w.heap.size w wr))
  case atStart => exact ⟨0, by omega, rfl, rfl, by simpa [Hid, runP_zero] using ho0, hb0⟩
  case round =>
    obtain ⟨k, hk, hq, rfl, hown, hbl⟩ := hrel
    clear ho0 hb0
    have hmod : (k + 1) % n < n := Nat.mod_lt _ (by omega)
    have hlk := HLK.out wr hbl.out
    have hx := HP.out k hk
    have hy := HP.out ((k + 1) % n) hmod
    have hcx := (hlk.at_ k (by rw [← HL.out]; exact hk)).c0
    have hcn := (hlk.at_ k (by rw [← HL.out]; exact hk)).c1
    have hcy := (hlk.at_ ((k + 1) % n) (by rw [← HL.out]; exact hmod)).c0
    rw [← HL.out] at hcn
    have HX := Lib.hid (HASK.out (l.getD k 0) wr hbl.out hx.1 hx.2)
    have HY := Lib.hid (HASK.out (l.getD ((k + 1) % n) 0) wr hbl.out hy.1 hy.2)
    have HB := Lib.hid (HBG.out k)
    generalize l.getD k 0 = x at *
    generalize l.getD ((k + 1) % n) 0 = y at *
    obtain ⟨r, hr⟩ : ∃ r, r = (runP (hasN s) l k).map g := ⟨_, rfl⟩
    have HR := Lib.hid hr
    have hrl : r.length ≤ 7 := by have := HLN.out k; rw [hr, List.length_map]; omega
    rw [← hr] at hown
    clear hr hlk hx hy
    have HEQ := Lib.hid (fun (V : World) (hV : Below w.heap.size w V) => (HLK.out V hV).eql (i := (k + 1) % n) (j := 0) (by rw [← HL.out]; exact hmod) (by rw [← HL.out]; omega))
    have HCN := Lib.hid (fun (V : World) (hV : Below w.heap.size w V) => ((HLK.out V hV).at_ k (by rw [← HL.out]; exact hk)).c1)
    rw [← HL.out] at HCN
    have hnext : Hid (k + 1 < n → (k + 1) % n = k + 1) := fun h => Nat.mod_eq_of_lt h
    have hlast : Hid (k + 1 = n → (k + 1) % n = 0) := fun h => by rw [h, Nat.mod_self]
    have HYK : Hid (begs (hasN s) l k = true → runP (hasN s) l k ++ [(k + 1) % n] = runP (hasN s) l (k + 1)) := fun h => by have := HYES.out k h; rw [← HL.out] at this; exact this
    generalize (k + 1) % n = j at *
    cases hX : hasN s x with
    | true =>
      rw [hX] at HX HB
      simp only [Bool.not_true, Bool.false_and] at HB
      have hown1 : Hid (OwnP wr w.heap.size u5 ((runP (hasN s) l (k + 1)).map g)) := by rw [HNO.out k HB.out, ← HR.out]; exact hown
      have heq := HEQ.out wr hbl.out
      clear hown HB HEQ HCN hX HY hcy
      rcases (show k + 1 = n ∨ k + 1 < n by omega) with hkn | hkn
      · obtain rfl := hlast.out hkn
        rw [decide_eq_true rfl] at heq
        clear hlast hnext
        go_wp2_with fail
        refine HX.out.mono ?_
        rintro e w' ⟨rfl, rfl⟩
        go_wp2
        go_ret
        exact ⟨_, rfl, by rw [← hkn]; exact hown1.out, hbl.out⟩
      · obtain rfl := hnext.out hkn
        rw [decide_eq_false (by omega)] at heq
        clear hlast hnext
        go_wp2_with fail
        refine HX.out.mono ?_
        rintro e w' ⟨rfl, rfl⟩
        go_wp2
        go_roundg (n - (k + 1))
        case rel => exact ⟨k + 1, hkn, rfl, rfl, hown1, hbl⟩
        case measure => omega
    | false =>
      rw [hX] at HX HB
      simp only [Bool.not_false, Bool.true_and] at HB
      cases hY : hasN s y with
      | true =>
        rw [hY] at HY HB
        obtain ⟨v', w5, hrun, hown', hgrow⟩ := apP_run hown.out hbl.out.size (by omega) (g j)
        have hown1 : Hid (OwnP w5 w.heap.size v' ((runP (hasN s) l (k + 1)).map g)) := by
          rw [Hid, ← HYK.out HB.out, List.map_append, ← HR.out]
          exact hown'
        have hb5 := Lib.hid (apP_below hown.out hgrow (Nat.le_refl _) hbl.out hbl.out.size)
        have heq := HEQ.out w5 hb5.out
        have hcn5 := HCN.out w5 hb5.out
        clear hown hown' hgrow HB HEQ HCN hX hY hbl
        rcases (show k + 1 = n ∨ k + 1 < n by omega) with hkn | hkn
        · obtain rfl := hlast.out hkn
          rw [decide_eq_true rfl] at heq
          clear hlast hnext
          go_wp2_with fail
          refine HX.out.mono ?_
          rintro e w' ⟨rfl, rfl⟩
          go_wp2_with fail
          refine HY.out.mono ?_
          rintro e w' ⟨rfl, rfl⟩
          go_wp2
          go_ret
          exact ⟨_, rfl, by rw [← hkn]; exact hown1.out, hb5.out⟩
        · obtain rfl := hnext.out hkn
          rw [decide_eq_false (by omega)] at heq
          clear hlast hnext
          go_wp2_with fail
          refine HX.out.mono ?_
          rintro e w' ⟨rfl, rfl⟩
          go_wp2_with fail
          refine HY.out.mono ?_
          rintro e w' ⟨rfl, rfl⟩
          go_wp2
          go_roundg (n - (k + 1))
          case rel => exact ⟨k + 1, hkn, rfl, rfl, hown1, hb5⟩
          case measure => omega
      | false =>
        rw [hY] at HY HB
        have hown1 : Hid (OwnP wr w.heap.size u5 ((runP (hasN s) l (k + 1)).map g)) := by rw [HNO.out k HB.out, ← HR.out]; exact hown
        have heq := HEQ.out wr hbl.out
        clear hown HB HEQ HCN hX hY
        rcases (show k + 1 = n ∨ k + 1 < n by omega) with hkn | hkn
        · obtain rfl := hlast.out hkn
          rw [decide_eq_true rfl] at heq
          clear hlast hnext
          go_wp2_with fail
          refine HX.out.mono ?_
          rintro e w' ⟨rfl, rfl⟩
          go_wp2_with fail
          refine HY.out.mono ?_
          rintro e w' ⟨rfl, rfl⟩
          go_wp2
          go_ret
          exact ⟨_, rfl, by rw [← hkn]; exact hown1.out, hbl.out⟩
        · obtain rfl := hnext.out hkn
          rw [decide_eq_false (by omega)] at heq
          clear hlast hnext
          go_wp2_with fail
          refine HX.out.mono ?_
          rintro e w' ⟨rfl, rfl⟩
          go_wp2_with fail
          refine HY.out.mono ?_
          rintro e w' ⟨rfl, rfl⟩
          go_wp2
          go_roundg (n - (k + 1))
          case rel => exact ⟨k + 1, hkn, rfl, rfl, hown1, hbl⟩
          case measure => omega

theorem isArc_any (l : List Int) (s b D : Nat) (g : Nat → Nat) (w : World) (h : Lnk w D g l) (h2 : 2 ≤ l.length) (h7 : l.length ≤ 7) (hp : ∀ x ∈ l, 0 ≤ x ∧ x < 7) (hs : s < 128) (hc : SetC w b s) :
    Calls Tryz.prog 25 #[.pointer (some ⟨g 0, 0, none⟩), askV b] w fun e w' => e = .returned (.bool (decide (runN (hasN s) l = 1))) ∧ Below w.heap.size w w' := by
  have HC := Lib.hid (runs_any l s b D g w h h2 h7 hp hs hc)
  have HE : Hid (((runP (hasN s) l l.length).map g).length = runN (hasN s) l) := by rw [Hid, List.length_map, runN]
  generalize (runP (hasN s) l l.length).map g = r at *
  have hle := runN_le (hasN s) l
  obtain ⟨q, hq⟩ : ∃ q, q = runN (hasN s) l := ⟨_, rfl⟩
  rw [← hq] at HE hle ⊢
  have hd : Hid (decide (q = 1) = ((q : Int) == 1)) := by rw [Hid, Bool.eq_iff_iff, decide_eq_true_iff, beq_iff_eq]; omega
  rw [hd.out]
  clear h hp hc hq hd
  go_enter Tryz.func25, Tryz.ntmps25
  go_wp2_with fail
  refine HC.out.mono ?_
  rintro e w1 ⟨v1, rfl, ho1, hb1⟩
  obtain ⟨A1, c1, rfl⟩ := ho1.slice
  rw [HE.out]
  clear ho1
  go_wp2
  go_ret
  exact ⟨rfl, hb1⟩

end Go.Proofs.YthpomflpnmddoaaGreatDoor

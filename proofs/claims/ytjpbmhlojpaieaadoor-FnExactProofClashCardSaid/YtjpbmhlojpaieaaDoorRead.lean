/- The program's reading of a list into its array. -/
import Derived.Test.YtjpbmhlojpaieaaDoorPts
import Derived.StillTailTactics
import Derived.Laws.CopyOwn
namespace Go.Proofs.YtjpbmhlojpaieaaDoor
open Go.ChangeShapes Go.WideShapes Go.ChangeAt Go.RowKit

theorem results_ring2 {fn : Func} {p t : Tmp} (h : fn.results = #[.cell p 39, .tmp t]) (tmps : Array Value) (w : World) (g : Nat) (P : List Int) (hP : P.length = 7)
    (hp : tmps.getD p undef = .pointer (some ⟨g, 0, none⟩)) (hg : Arr w g P) :
    (results fn tmps).run Tryd.prog w = .ok (.tuple #[.agg (ints P).toArray, tmps.getD t undef]) w := by
  have hp' : tmps[p]?.getD undef = .pointer (some ⟨g, 0, none⟩) := by simpa using hp
  simp [results, h, hp', asAddr, run_loadVar_row (P := Tryd.prog) w g 39 39 _ (0, 0) _ hg Tryd.underlying39 rfl (by rw [ring_size]; simp [hP])]

theorem ret_ring2 {fn : Func} {R : Ending → World → Prop} {a : Act} {w : World} {p t : Tmp} (h : fn.results = #[.cell p 39, .tmp t]) (g : Nat) (P : List Int) (hP : P.length = 7) (hp : a.tmps.getD p undef = .pointer (some ⟨g, 0, none⟩))
    (hg : Hid (Arr w g P)) (hd : a.defers = []) (hR : R (.returned (.tuple #[.agg (ints P).toArray, a.tmps.getD t undef])) w) : bodyPost Tryd.prog fn R .ret a w :=
  bodyPost_ret (results_ring2 h _ _ g P hP hp hg.out) hd hR

abbrev neg7 : List Int := [-1, -1, -1, -1, -1, -1, -1]
abbrev zero7 : List Int := [0, 0, 0, 0, 0, 0, 0]

theorem new_ring (w : World) : Arr (w.alloc (.cells #[.int .i64 0, .int .i64 0, .int .i64 0, .int .i64 0, .int .i64 0, .int .i64 0, .int .i64 0] 39)) w.heap.size zero7 := heap_alloc_new w _

/-- What readTelling hands back: the array of the list, or an array without points. -/
def readP (l : List Int) : List Int := if Tell l then padR l else neg7

theorem Arr.grown {w w' : World} {g g' : Nat} {P : List Int} (h : Arr w g P) (hg : w.grownBy w' (some g')) (hne : g ≠ g') : Arr w' g P :=
  (hg.block g h.lt (by simpa using hne)).trans h

/-- The array half read: the first k numbers, -1 behind. -/
def padK (l : List Int) (k : Nat) : List Int := l.take k ++ List.replicate (7 - k) (-1)
theorem padK_length (l : List Int) (k : Nat) (hk : k ≤ l.length) (h7 : k ≤ 7) : (padK l k).length = 7 := by simp [padK]; omega
theorem padK_step (l : List Int) (k : Nat) (hk : k < l.length) (h7 : k < 7) : (padK l k).set k (l.getD k 0) = padK l (k + 1) := by
  unfold padK
  have hl : (l.take k).length = k := by simp; omega
  rw [List.set_append_right _ _ (by omega), hl, Nat.sub_self]
  obtain ⟨m, hm⟩ : ∃ m, 7 - k = m + 1 := ⟨7 - k - 1, by omega⟩
  rw [hm, show 7 - (k + 1) = m by omega, List.replicate_succ, List.set_cons_zero]
  rw [List.take_succ_eq_append_getElem hk, List.append_assoc]
  simp [List.getD, hk]
theorem padK_full (l : List Int) : padK l l.length = padR l := by simp [padK, padR]

theorem tell_yes {l : List Int} (h : Tell l) : tell l = true := by simpa [tell] using h
theorem tell_no {l : List Int} (h : ¬ Tell l) : tell l = false := by simpa [tell] using h
theorem pad_neg (l : List Int) (n : Nat) (hl : l.length = n) (_ : n ≤ 7) : l ++ neg7.drop n = padR l := by
  unfold padR
  rw [hl]
  have : neg7 = List.replicate 7 (-1) := rfl
  rw [this, List.drop_replicate]
theorem int_size : (Tryd.prog.info? 3).map (·.size) = some 1 := by kernel_rfl

/-- copy of a list to an array's head. -/
theorem copy_list {ops : Array Oper} {rest : List Oper} {o : Oper} {a : Act} {w : World} {Q : Exit → Act → World → Prop} (hgd : o.guard = none) (d s : Operand)
    (ho : o.op = .call { callee := .builtin .copy, args := #[d, s], argTypes := #[22, 22] }) (g n dCap sCap : Nat) (P l : List Int) (h7 : P.length = 7) (hl : l.length = n) (hn : n ≤ 7)
    (sp : Addr) (hd : a.eval d = .slice (some ⟨g, 0, none⟩) 7 dCap) (hs : a.eval s = .slice (some sp) n sCap) (hc : ∀ j, j < n → w.cell? (sp.add j) = some (.int .i64 (l.getD j 0))) (hg : Hid (Arr w g P))
    (h : ∀ w', Hid (Arr w' g (l ++ P.drop n)) → w.grownBy w' (some g) → w'.heap.size = w.heap.size → wpList Tryd.prog ops Q rest (a.put o.dst (goInt n)) w') :
    wpList Tryd.prog ops Q (o :: rest) a w := by
  have hl' : (ints l).length = n := by simp [hl]
  have hh := wpList_copy_own hgd d s 22 22 ho 3 Tryd.underlying22 int_size g 0 7 dCap sp n sCap hd hs (ints P).toArray 39 hg.out (ints l) (by rw [hl']; exact (Nat.min_eq_left hn).symm)
    (fun j v hv => by
      have hj : j < n := by
        have := (List.getElem?_eq_some_iff.1 hv).1
        omega
      rw [hc j hj, ← hv, ints_get _ _ (by omega)])
    (by rw [hl']; simp; omega) (ints_oneCell _) (rest := rest) (Q := Q) (ops := ops) (P := Tryd.prog)
  rw [hl'] at hh
  refine hh (h _ ?_ ?_ ?_)
  · have e : ((ints P).toArray.toList.take 0 ++ (ints l ++ (ints P).toArray.toList.drop (0 + n))) = ints (l ++ P.drop n) := by
      simp [ints, List.map_drop]
    rw [e]
    exact setRow_heap w g _ _ _ _ hg.out
  · exact ⟨rfl, rfl, rfl, by simp, fun k _ hk => setRow_other w g k _ (fun e => hk (by simp [e]))⟩
  · simp

set_option maxRecDepth 10000 in
set_option maxHeartbeats 1000000 in
theorem readT_any (A : Option Addr) (n c H : Nat) (l : List Int) (w : World) (h : Rd w H A n l) (hH : H ≤ w.heap.size) (hn : n ≤ 1048576) (hnc : n ≤ c) (hcm : c ≤ 9223372036854775807) :
    Calls Tryd.prog 70 #[.slice A n c] w fun e w' => e = .returned (.tuple #[.agg (ints (readP l)).toArray, .bool (tell l)]) ∧ Below w.heap.size w w' := by
  have HL := Lib.hid h.len
  go_enter Tryd.func70, Tryd.ntmps70
  go_wp2_with fail
  obtain ⟨W0, h0⟩ : ∃ W, W = w.alloc (.cells #[.int .i64 0, .int .i64 0, .int .i64 0, .int .i64 0, .int .i64 0, .int .i64 0, .int .i64 0] 39) := ⟨_, rfl⟩
  rw [← h0]
  have hs0 : W0.heap.size = w.heap.size + 1 := by rw [h0]; simp
  have hb0 : Below w.heap.size w W0 := by rw [h0]; exact (Below.refl _ _).alloc (Nat.le_refl _) _
  have ha0 : Arr W0 w.heap.size zero7 := by rw [h0]; exact new_ring w
  have hr0 : Rd W0 H A n l := h.below (hb0.mono hH)
  clear h h0
  generalize hB : w.heap.size = B at *
  have HB := Lib.hid hB
  clear hB
  refine (empty_any W0).mono ?_
  rintro e W1 ⟨rfl, hb⟩
  have hb1 : Below B w W1 := hb0.trans (hb.mono (by omega))
  have ha1 := ha0.below hb (by omega)
  have hr1 := hr0.below (hb.mono (by omega))
  have hs1 : B < W1.heap.size := by have := hb.size; omega
  clear hb hb0 ha0 hr0 hs0
  have ha2 := new_ring W1
  have ha3 := ha1.alloc (.cells #[.int .i64 0, .int .i64 0, .int .i64 0, .int .i64 0, .int .i64 0, .int .i64 0, .int .i64 0] 39)
  have hb2 := hb1.alloc (by omega) (.cells #[.int .i64 0, .int .i64 0, .int .i64 0, .int .i64 0, .int .i64 0, .int .i64 0, .int .i64 0] 39)
  have hr2 := hr1.alloc (by omega) (.cells #[.int .i64 0, .int .i64 0, .int .i64 0, .int .i64 0, .int .i64 0, .int .i64 0, .int .i64 0] 39)
  have HA2 := Lib.hid ha2
  have HA3 := Lib.hid ha3
  clear ha1 hb1 hr1 ha2 ha3
  generalize hG : W1.heap.size = G at *
  go_wp2_with (refine store_ring rfl _ _ rfl G zero7 neg7 rfl rfl (by first | rfl | (rw [← hG]; rfl)) rfl HA2 ?_; intro w2 HA4 hg2 hs2)
  have HA5 := Lib.hid (HA3.out.grown hg2 (by omega))
  have hb3 : Below B w w2 := hb2.grown hg2 (by simp; omega) (by simp; omega)
  have hr3 := hr2.below ((Below.refl H _).grown hg2 (by simp; omega) (by simp; omega))
  have HB3 := Lib.hid (show B < w2.heap.size by rw [hs2]; simp; omega)
  clear HA2 HA3 hg2 hs2 hr2 hb2 hG
  have HPT := Lib.hid (pointsIn_any A n c H l (n : Int) w2 hr3 hn hnc hcm)
  have HTL := Lib.hid (tell_pts l)
  rw [HL.out] at HTL
  by_cases hs : 3 ≤ n ∧ n ≤ 7
  · have hb : (decide ((3 : Int) ≤ (n : Int)) && decide ((n : Int) ≤ 7)) = true := by simp; omega
    obtain ⟨h3, h7⟩ := hs
    by_cases hp : Pts (n : Int) l
    · have HT := Lib.hid (HTL.out.2 ⟨⟨h3, h7⟩, hp⟩)
      rw [pts_yes hp] at HPT
      clear hp
      have H7 := Lib.hid (padR_length l (by rw [HL.out]; exact h7))
      obtain ⟨b, o, e, hbH, hcs⟩ := hr3.at_ (by omega)
      subst e
      have HC := Lib.hid hcs
      clear hcs hr3
      go_wp2_with (first
        | (go_at_call 91; refine (sizeIn_any _ _).mono ?_; rintro e w' ⟨rfl, rfl⟩)
        | (go_at_call 51; refine HPT.out.mono ?_; rintro e w' ⟨rfl, rfl⟩)
        | (refine copy_list rfl (.tmp 18) (.tmp 19) rfl G n 7 c neg7 l rfl HL.out h7 ⟨b, o, none⟩ rfl rfl (fun j hj => by rw [Addr.add_lit]; exact HC.out j hj) HA4 ?_; intro w5 HG5 hg5 hs5; rw [pad_neg l n HL.out h7] at HG5; have HB5 := Lib.hid (HA5.out.grown hg5 (by omega)))
        | (refine load_ring rfl _ rfl G (padR l) H7.out rfl HG5 ?_)
        | (refine store_ring rfl _ _ rfl B zero7 (padR l) rfl H7.out rfl rfl HB5 ?_; intro w6 HB6 hg6 _))
      exact ret_ring2 rfl B (padR l) H7.out rfl HB6 rfl ⟨by rw [readP, if_pos HT.out, tell_yes HT.out]; rfl, by rw [HB.out]; exact (hb3.grown hg5 (by have := HB3.out; omega) (by simp; omega)).grown hg6 (by have := HB3.out; have := hs5; have := hg6.size; omega) (by simp)⟩
    · have TF : Hid (¬ Tell l) := fun ht => hp (HTL.out.1 ht).2
      rw [pts_no hp] at HPT
      clear hp
      go_wp2_with (first
        | (go_at_call 91; refine (sizeIn_any _ _).mono ?_; rintro e w' ⟨rfl, rfl⟩)
        | (go_at_call 51; refine HPT.out.mono ?_; rintro e w' ⟨rfl, rfl⟩)
        | (refine load_ring rfl _ rfl G neg7 rfl rfl HA4 ?_)
        | (refine store_ring rfl _ _ rfl B zero7 neg7 rfl rfl rfl rfl HA5 ?_; intro w6 HB6 hg6 _))
      exact ret_ring2 rfl B neg7 rfl rfl HB6 rfl ⟨by rw [readP, if_neg TF.out, tell_no TF.out]; rfl, by rw [HB.out]; exact hb3.grown hg6 (by have := HB3.out; have := hb3.size; have := HB.out; omega) (by simp)⟩
  · have hb : (decide ((3 : Int) ≤ (n : Int)) && decide ((n : Int) ≤ 7)) = false := by simp; omega
    have TF : Hid (¬ Tell l) := fun ht => hs (HTL.out.1 ht).1
    clear hs HPT HTL
    go_wp2_with (first
      | (go_at_call 91; refine (sizeIn_any _ _).mono ?_; rintro e w' ⟨rfl, rfl⟩)
      | (refine load_ring rfl _ rfl G neg7 rfl rfl HA4 ?_)
      | (refine store_ring rfl _ _ rfl B zero7 neg7 rfl rfl rfl rfl HA5 ?_; intro w6 HB6 hg6 _))
    exact ret_ring2 rfl B neg7 rfl rfl HB6 rfl ⟨by rw [readP, if_neg TF.out, tell_no TF.out]; rfl, by rw [HB.out]; exact hb3.grown hg6 (by have := HB3.out; have := hb3.size; have := HB.out; omega) (by simp)⟩
end Go.Proofs.YtjpbmhlojpaieaaDoor

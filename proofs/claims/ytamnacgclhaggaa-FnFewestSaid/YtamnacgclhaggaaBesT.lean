/- PairBeside of the model and of the program. -/
import Derived.Test.YtamnacgclhaggaaPartT
import Derived.Test.YtamnacgclhaggaaPR
namespace Go.Proofs.Ytamnacgclhaggaa
open Go.ChangeShapes Go.WideShapes Go.ChangeAt Go.RowKit

def besB (l : List Int) (x y : Int) : Bool := decide (stepsI l x y = 1) || decide (stepsI l x y = (l.length : Int) - 1)
def bsB (l : List Int) (x y : Int) : Bool := ringB l && two l.length [x, y] && besB l x y

theorem two2 (n x y : Int) : Two n [x, y] ↔ (0 ≤ x ∧ x < n) ∧ (0 ≤ y ∧ y < n) ∧ x ≠ y := by
  unfold Two Pts
  simp only [List.mem_cons, List.not_mem_nil, or_false, List.nodup_cons, List.nodup_nil, and_true, forall_eq_or_imp, forall_eq, List.length_cons, List.length_nil]
  constructor
  · rintro ⟨_, ⟨hx, hy⟩, h1, _⟩; exact ⟨hx, hy, fun e => h1 e⟩
  · rintro ⟨hx, hy, h1⟩; exact ⟨trivial, ⟨hx, hy⟩, fun e => h1 e, by simp⟩
theorem emod_near {i j n : Int} (hi0 : 0 ≤ i) (hi : i < n) (hj0 : 0 ≤ j) (hj : j < n) : (j - i) % n = if i ≤ j then j - i else j - i + n := by
  split
  · exact Int.emod_eq_of_lt (by omega) (by omega)
  · rw [← Int.add_emod_right]; exact Int.emod_eq_of_lt (by omega) (by omega)
theorem get_eq {l : List Int} (hn : l.Nodup) {i : Nat} (hi : i < l.length) {y : Int} (hy : y ∈ l) : l.getD i 0 = y ↔ i = l.idxOf y := by
  constructor
  · intro e
    have e2 : l.getD i 0 = l[i] := by simp [List.getD, hi]
    rw [← e, e2]
    exact (hn.idxOf_getElem i hi).symm
  · intro e; rw [e]; exact at_idx l y hy
theorem next_steps {l : List Int} (hn : l.Nodup) (h2 : 2 ≤ l.length) {x y : Int} (hx : x ∈ l) (hy : y ∈ l) : l.getD ((l.idxOf x + 1) % l.length) 0 = y ↔ stepsI l x y = 1 := by
  rw [get_eq hn (Nat.mod_lt _ (by omega)) hy]
  have a1 := List.idxOf_lt_length_of_mem hx
  have a2 := List.idxOf_lt_length_of_mem hy
  unfold stepsI
  generalize l.idxOf x = i at *
  generalize l.idxOf y = j at *
  rw [emod_near (by omega) (by omega) (by omega) (by omega)]
  by_cases h : i + 1 = l.length
  · rw [h, Nat.mod_self]
    split <;> omega
  · rw [Nat.mod_eq_of_lt (by omega)]
    split <;> omega
theorem stepsB_back {l : List Int} {x y : Int} (hx : x ∈ l) (hy : y ∈ l) (h2 : 2 ≤ l.length) : stepsI l y x = 1 ↔ stepsI l x y = (l.length : Int) - 1 := by
  have a1 := List.idxOf_lt_length_of_mem hx
  have a2 := List.idxOf_lt_length_of_mem hy
  unfold stepsI
  generalize l.idxOf x = i at *
  generalize l.idxOf y = j at *
  rw [emod_near (by omega) (by omega) (by omega) (by omega), emod_near (by omega) (by omega) (by omega) (by omega)]
  split <;> split <;> omega
theorem bes_eq {l : List Int} (hn : l.Nodup) (h2 : 2 ≤ l.length) {x y : Int} (hx : x ∈ l) (hy : y ∈ l) : besB l x y = (l.getD ((l.idxOf x + 1) % l.length) 0 == y || l.getD ((l.idxOf y + 1) % l.length) 0 == x) := by
  unfold besB
  rw [Bool.eq_iff_iff]
  simp only [Bool.or_eq_true, decide_eq_true_eq, beq_iff_eq]
  rw [next_steps hn h2 hx hy, next_steps hn h2 hy hx, stepsB_back hx hy h2]

theorem bsS_any (A : Option Addr) (n c H : Nat) (l : List Int) (x y : Int) (w : World) (h : Rd w H A n l) (_ : H ≤ w.heap.size) (hn : n ≤ 1048576) :
    Calls Try.prog 33 #[.slice A n c, .int .i64 x, .int .i64 y] w fun e w' => e = .returned (.bool (bsB l x y)) ∧ Below w.heap.size w w' := by
  have HX := Lib.hid (hasS_any A n c H l x w h hn)
  have HY := Lib.hid (hasS_any A n c H l y w h hn)
  have HL := Lib.hid h.len
  have hv : bsB l x y = (hasB l x && (hasB l y && (!(x == y) && besB l x y))) := by
    unfold bsB hasB
    by_cases hr : Ring l
    · rw [ring_yes hr, Bool.eq_iff_iff]
      simp only [two, Bool.true_and, Bool.and_eq_true, decide_eq_true_eq, two2, Bool.not_eq_true', beq_eq_false_iff_ne, ne_eq]
      constructor
      · rintro ⟨⟨a, b, c⟩, d⟩; exact ⟨a, b, c, d⟩
      · rintro ⟨a, b, c, d⟩; exact ⟨⟨a, b, c⟩, d⟩
    · rw [ring_no hr]; simp
  have HV := Lib.hid hv
  clear hv
  cases hx : hasB l x
  · rw [hx] at HX HV
    clear HY h
    go_enter Try.func33, Try.ntmps33
    go_wp2_with fail
    refine HX.out.mono ?_
    rintro e w' ⟨rfl, rfl⟩
    go_wp2
    go_ret
    exact ⟨by rw [HV.out]; rfl, Below.refl _ _⟩
  · rw [hx] at HX HV
    cases hy : hasB l y
    · rw [hy] at HY HV
      clear h
      go_enter Try.func33, Try.ntmps33
      go_wp2_with fail
      refine HX.out.mono ?_
      rintro e w' ⟨rfl, rfl⟩
      go_wp2_with fail
      refine HY.out.mono ?_
      rintro e w' ⟨rfl, rfl⟩
      go_wp2
      go_ret
      exact ⟨by rw [HV.out]; rfl, Below.refl _ _⟩
    · rw [hy] at HY HV
      have h3 := hasB_yes hx
      have h4 := hasB_yes hy
      have H3 := Lib.hid h3.1.1.1
      have H7 := Lib.hid h3.1.1.2.1
      rw [HL.out] at H3 H7
      have HS := Lib.hid (st_any A n c H l x y w h (by have := H3.out; omega) H7.out h3.2.2.2 h4.2.2.2)
      clear hx hy h3 h4 h
      by_cases hxy : x = y
      · have he : (x == y) = true := by simpa using hxy
        rw [he] at HV
        clear hxy HS
        go_enter Try.func33, Try.ntmps33
        go_wp2_with fail
        refine HX.out.mono ?_
        rintro e w' ⟨rfl, rfl⟩
        go_wp2_with fail
        refine HY.out.mono ?_
        rintro e w' ⟨rfl, rfl⟩
        go_wp2
        go_ret
        exact ⟨by rw [HV.out]; rfl, Below.refl _ _⟩
      · have he : (x == y) = false := by simpa using hxy
        rw [he] at HV
        have hbs : besB l x y = ((stepsI l x y == 1) || (stepsI l x y == (n : Int) - 1)) := by
          unfold besB
          rw [← HL.out, Bool.eq_iff_iff]
          simp
        rw [hbs] at HV
        generalize stepsI l x y = k at *
        have hw1 : IntKind.i64.wrap ((n : Int) - 1) = (n : Int) - 1 := IntWalk.i64_in _ (by omega)
        clear hxy hbs
        by_cases k1 : k = 1
        · have e1 : (k == 1) = true := by simpa using k1
          rw [e1] at HV
          clear k1
          go_enter Try.func33, Try.ntmps33
          go_wp2_with fail
          refine HX.out.mono ?_
          rintro e w' ⟨rfl, rfl⟩
          go_wp2_with fail
          refine HY.out.mono ?_
          rintro e w' ⟨rfl, rfl⟩
          go_wp2_with fail
          refine HS.out.mono ?_
          rintro e w' ⟨rfl, rfl⟩
          go_wp2
          go_ret
          exact ⟨by rw [HV.out]; rfl, Below.refl _ _⟩
        · have e1 : (k == 1) = false := by simpa using k1
          rw [e1] at HV
          clear k1
          go_enter Try.func33, Try.ntmps33
          go_wp2_with fail
          refine HX.out.mono ?_
          rintro e w' ⟨rfl, rfl⟩
          go_wp2_with fail
          refine HY.out.mono ?_
          rintro e w' ⟨rfl, rfl⟩
          go_wp2_with fail
          refine HS.out.mono ?_
          rintro e w' ⟨rfl, rfl⟩
          go_wp2
          go_ret
          exact ⟨by rw [HV.out]; rfl, Below.refl _ _⟩

set_option maxRecDepth 10000 in
set_option maxHeartbeats 2000000 in
theorem beside_any (l : List Int) (x y : Int) (w : World) (hd : l.Nodup) (h2 : 2 ≤ l.length) (hl : l.length ≤ 7) (hp : ∀ x ∈ l, 0 ≤ x) (hx : x ∈ l) (hy : y ∈ l) :
    Calls Try.prog 74 #[agp l, .agg (ints [x, y]).toArray] w fun e w' => e = .returned (.bool (besB l x y)) ∧ Below w.heap.size w w' := by
  obtain ⟨a0, a1, a2, a3, a4, a5, a6, hP⟩ := seven (padR_length l hl)
  have HY := fun W => Lib.hid (next_any l x W (by omega) hl hp hx)
  have HZ := fun W => Lib.hid (next_any l y W (by omega) hl hp hy)
  have HV := Lib.hid (bes_eq hd h2 hx hy)
  unfold agp at HY HZ ⊢
  rw [hP] at HY HZ ⊢
  simp only [ints, List.map_cons, List.map_nil] at HY HZ ⊢
  have HYY := Lib.hid HY
  have HZZ := Lib.hid HZ
  clear hP hp HY HZ hx hy hd
  generalize l.getD ((l.idxOf x + 1) % l.length) 0 = s at *
  generalize l.getD ((l.idxOf y + 1) % l.length) 0 = t at *
  rw [HV.out]
  clear HV h2 hl
  obtain ⟨W0, hW0⟩ : ∃ W, W = w.alloc (.cells (ints [a0, a1, a2, a3, a4, a5, a6]).toArray 53) := ⟨_, rfl⟩
  obtain ⟨W, hW⟩ : ∃ W, W = W0.alloc (.cells (ints [x, y]).toArray 77) := ⟨_, rfl⟩
  have k1 : Arr W0 w.heap.size [a0, a1, a2, a3, a4, a5, a6] := by rw [hW0]; exact heap_alloc_new w _
  have k0 : W0.heap.size = w.heap.size + 1 := by rw [hW0]; simp
  have k2 : Arr W w.heap.size [a0, a1, a2, a3, a4, a5, a6] := by rw [hW]; exact k1.alloc _
  have k3 : Blk 77 W (w.heap.size + 1) [x, y] := by rw [hW, ← k0]; exact Blk.new W0 _
  have k5 : W.heap.size = w.heap.size + 2 := by rw [hW]; simp [k0]
  have kb : Below w.heap.size w W := by rw [hW, hW0]; exact ((Below.refl _ _).alloc (Nat.le_refl _) _).alloc (by simp) _
  have HB := Lib.hid kb
  have HK := Lib.hid (fun (V : World) (hV : Below (w.heap.size + 2) W V) => (⟨cells7 (k2.below hV (by omega)), (k3.below hV (by omega)).cell (i := 0) (by simp), (k3.below hV (by omega)).cell (i := 1) (by simp)⟩ : _ ∧ _ ∧ _))
  simp only [ints, List.map_cons, List.map_nil] at hW0 hW
  cases hst : (s == y)
  · skip
    go_enter Try.func74, Try.ntmps74
    go_wp2
    rw [← hW0, ← hW]
    clear hW0 hW k1 k0 k2 k3 kb
    have HSZ := Lib.hid k5
    have hBW : w.heap.size + 2 ≤ W.heap.size := by omega
    clear k5
    generalize hB : w.heap.size = B at *
    have HBB := Lib.hid hB
    clear hB
    have HST := Lib.hid (fun (V V' : World) (h1 : Below (B + 2) W V) (h2 : Below V.heap.size V V') => h1.trans (h2.mono (by have := h1.size; omega)))
    go_region_held3 (fun V => ((V.cell? ⟨B, 0, none⟩ = some (.int .i64 a0) ∧ V.cell? ⟨B, 1, none⟩ = some (.int .i64 a1) ∧ V.cell? ⟨B, 2, none⟩ = some (.int .i64 a2) ∧ V.cell? ⟨B, 3, none⟩ = some (.int .i64 a3) ∧ V.cell? ⟨B, 4, none⟩ = some (.int .i64 a4) ∧ V.cell? ⟨B, 5, none⟩ = some (.int .i64 a5) ∧ V.cell? ⟨B, 6, none⟩ = some (.int .i64 a6)) ∧ V.cell? ⟨B + 1, 0, none⟩ = some (.int .i64 x) ∧ V.cell? ⟨B + 1, 1, none⟩ = some (.int .i64 y)))
      (first
        | exact HK.out _ (Below.refl _ _).drew
        | exact HK.out _ HB1.out
        | exact HK.out _ HB2.out)
      (first
        | (go_at_call_of 116 (Value.int IntKind.i64 x); refine ((HYY.out _).out).mono ?_; rintro e w5 ⟨rfl, hb⟩; have HB1 := Lib.hid (HST.out _ _ (Below.refl _ W).drew hb); clear hb)
        | (go_at_call_of 116 (Value.int IntKind.i64 y); refine ((HZZ.out _).out).mono ?_; rintro e w6 ⟨rfl, hb⟩; have HB2 := Lib.hid (HST.out _ _ HB1.out hb); clear hb))
    all_goals
      go_wp2
      go_ret
      exact ⟨rfl, by rw [HBB.out]; exact HB.out.trans (HB2.out.mono (by omega))⟩
  · skip
    go_enter Try.func74, Try.ntmps74
    go_wp2
    rw [← hW0, ← hW]
    clear hW0 hW k1 k0 k2 k3 kb
    have HSZ := Lib.hid k5
    have hBW : w.heap.size + 2 ≤ W.heap.size := by omega
    clear k5
    generalize hB : w.heap.size = B at *
    have HBB := Lib.hid hB
    clear hB
    have HST := Lib.hid (fun (V V' : World) (h1 : Below (B + 2) W V) (h2 : Below V.heap.size V V') => h1.trans (h2.mono (by have := h1.size; omega)))
    -- @takes
    refine wp_region_held_drew (S := fun V => ((V.cell? ⟨B, 0, none⟩ = some (.int .i64 a0) ∧ V.cell? ⟨B, 1, none⟩ = some (.int .i64 a1) ∧ V.cell? ⟨B, 2, none⟩ = some (.int .i64 a2) ∧ V.cell? ⟨B, 3, none⟩ = some (.int .i64 a3) ∧ V.cell? ⟨B, 4, none⟩ = some (.int .i64 a4) ∧ V.cell? ⟨B, 5, none⟩ = some (.int .i64 a5) ∧ V.cell? ⟨B, 6, none⟩ = some (.int .i64 a6)) ∧ V.cell? ⟨B + 1, 0, none⟩ = some (.int .i64 x) ∧ V.cell? ⟨B + 1, 1, none⟩ = some (.int .i64 y))) (by kernel_rfl) (HK.out _ (Below.refl _ _).drew) (fun hHeld => ?_)
    refine wpAnyH_take (i := 0) (oi := { dst := some 5, op := Op.load 53 (Operand.tmp 2), type := 53, pos := "l3_pairs.go:219", after := #[], guard := none }) (v := ?_) rfl (by kernel_rfl) (by kernel_rfl) (by kernel_rfl) (fun _ _ _ h => h) (Or.inl ⟨by rfl, ?_⟩) (by assumption) ?_
    rotate_left
    · intro V hSw; (try dsimp only at hSw); obtain ⟨⟨c0, c1, c2, c3, c4, c5, c6⟩, f0, f1⟩ := hSw; go_simp; (try with_reducible rfl)
    try simp only [Act.put, List.setIfInBounds_toArray, List.set_cons_zero, List.set_cons_succ]
    refine wpAnyH_take (i := 1) (oi := { dst := some 6, op := Op.fieldAddr 77 (Operand.tmp 3) 0, type := 0, pos := "l3_pairs.go:219", after := #[], guard := none }) (v := ?_) rfl (by kernel_rfl) (by kernel_rfl) (by kernel_rfl) (fun _ _ _ h => h) (Or.inl ⟨by rfl, ?_⟩) (by assumption) ?_
    rotate_left
    · intro V hSw; (try dsimp only at hSw); obtain ⟨⟨c0, c1, c2, c3, c4, c5, c6⟩, f0, f1⟩ := hSw; go_simp; (try with_reducible rfl)
    try simp only [Act.put, List.setIfInBounds_toArray, List.set_cons_zero, List.set_cons_succ]
    refine wpAnyH_take (i := 2) (oi := { dst := some 7, op := Op.load 3 (Operand.tmp 6), type := 3, pos := "l3_pairs.go:219", after := #[{ on := 1, ground := Ground.data }], guard := none }) (v := ?_) rfl (by kernel_rfl) (by kernel_rfl) (by kernel_rfl) (fun _ _ _ h => h) (Or.inl ⟨by rfl, ?_⟩) (by assumption) ?_
    rotate_left
    · intro V hSw; (try dsimp only at hSw); obtain ⟨⟨c0, c1, c2, c3, c4, c5, c6⟩, f0, f1⟩ := hSw; go_simp; (try with_reducible rfl)
    try simp only [Act.put, List.setIfInBounds_toArray, List.set_cons_zero, List.set_cons_succ]
    refine wpAnyH_take (i := 4) (oi := { dst := some 9, op := Op.fieldAddr 77 (Operand.tmp 3) 1, type := 0, pos := "l3_pairs.go:219", after := #[], guard := none }) (v := ?_) rfl (by kernel_rfl) (by kernel_rfl) (by kernel_rfl) (fun _ _ _ h => h) (Or.inl ⟨by rfl, ?_⟩) (by assumption) ?_
    rotate_left
    · intro V hSw; (try dsimp only at hSw); obtain ⟨⟨c0, c1, c2, c3, c4, c5, c6⟩, f0, f1⟩ := hSw; go_simp; (try with_reducible rfl)
    try simp only [Act.put, List.setIfInBounds_toArray, List.set_cons_zero, List.set_cons_succ]
    refine wpAnyH_take (i := 5) (oi := { dst := some 10, op := Op.load 3 (Operand.tmp 9), type := 3, pos := "l3_pairs.go:219", after := #[{ on := 4, ground := Ground.data }], guard := none }) (v := ?_) rfl (by kernel_rfl) (by kernel_rfl) (by kernel_rfl) (fun _ _ _ h => h) (Or.inl ⟨by rfl, ?_⟩) (by assumption) ?_
    rotate_left
    · intro V hSw; (try dsimp only at hSw); obtain ⟨⟨c0, c1, c2, c3, c4, c5, c6⟩, f0, f1⟩ := hSw; go_simp; (try with_reducible rfl)
    try simp only [Act.put, List.setIfInBounds_toArray, List.set_cons_zero, List.set_cons_succ]
    refine wpAnyH_ready (rs := [3]) (by kernel_rfl) (by simp) ?_
    refine AllReadyH.cons (o := { dst := some 8, op := Op.call { callee := Callee.value (Operand.func 116), args := #[Operand.tmp 5, Operand.tmp 7], argTypes := #[53, 3] }, type := 3, pos := "l3_pairs.go:219", after := #[{ on := 0, ground := Ground.data }, { on := 2, ground := Ground.data }], guard := none }) rfl (fun K hK => ?_) AllReadyH.nil
    go_simp
    refine ((HYY.out _).out).mono ?_
    rintro e w5 ⟨rfl, hb⟩
    have HB1 := Lib.hid (HST.out _ _ (Below.refl _ W).drew hb)
    clear hb
    refine hK.out _ _ (HK.out _ HB1.out) (fun hHeld => ?_)
    clear hK K
    try simp only [Act.put, List.setIfInBounds_toArray, List.set_cons_zero, List.set_cons_succ]
    refine wpAnyH_take (i := 6) (oi := { dst := some 11, op := Op.binOp BinOp.eql 3 (Operand.tmp 8) (Operand.tmp 10) 3, type := 4, pos := "l3_pairs.go:219", after := #[{ on := 3, ground := Ground.data }, { on := 5, ground := Ground.data }], guard := none }) (v := ?_) rfl (by kernel_rfl) (by kernel_rfl) (by kernel_rfl) (fun _ _ _ h => h) (Or.inl ⟨by rfl, ?_⟩) (by assumption) ?_
    rotate_left
    · intro V hSw; (try dsimp only at hSw); obtain ⟨⟨c0, c1, c2, c3, c4, c5, c6⟩, f0, f1⟩ := hSw; go_simp; (try with_reducible rfl)
    try simp only [Act.put, List.setIfInBounds_toArray, List.set_cons_zero, List.set_cons_succ]
    refine wpAnyH_take (i := 7) (oi := { dst := some 12, op := Op.move (Operand.tmp 11), type := 4, pos := "l3_pairs.go:219", after := #[{ on := 6, ground := Ground.data }, { on := 3, ground := Ground.chain }], guard := none }) (v := ?_) rfl (by kernel_rfl) (by kernel_rfl) (by kernel_rfl) (fun _ _ _ h => h) (Or.inl ⟨by rfl, ?_⟩) (by assumption) ?_
    rotate_left
    · intro V hSw; (try dsimp only at hSw); obtain ⟨⟨c0, c1, c2, c3, c4, c5, c6⟩, f0, f1⟩ := hSw; go_simp; (try with_reducible rfl)
    try simp only [Act.put, List.setIfInBounds_toArray, List.set_cons_zero, List.set_cons_succ]
    refine wpAnyH_take (i := 8) (oi := { dst := some 13, op := Op.load 53 (Operand.tmp 2), type := 53, pos := "l3_pairs.go:219", after := #[{ on := 7, ground := Ground.guard }], guard := some (7, false) }) (v := undef) rfl (by kernel_rfl) (by kernel_rfl) (by kernel_rfl) (fun _ _ _ h => h) (Or.inr ⟨by rfl, rfl⟩) (by assumption) ?_
    try simp only [Act.put, List.setIfInBounds_toArray, List.set_cons_zero, List.set_cons_succ]
    refine wpAnyH_take (i := 9) (oi := { dst := some 14, op := Op.fieldAddr 77 (Operand.tmp 3) 1, type := 0, pos := "l3_pairs.go:219", after := #[{ on := 7, ground := Ground.guard }], guard := some (7, false) }) (v := undef) rfl (by kernel_rfl) (by kernel_rfl) (by kernel_rfl) (fun _ _ _ h => h) (Or.inr ⟨by rfl, rfl⟩) (by assumption) ?_
    try simp only [Act.put, List.setIfInBounds_toArray, List.set_cons_zero, List.set_cons_succ]
    refine wpAnyH_take (i := 10) (oi := { dst := some 15, op := Op.load 3 (Operand.tmp 14), type := 3, pos := "l3_pairs.go:219", after := #[{ on := 9, ground := Ground.data }, { on := 7, ground := Ground.guard }], guard := some (7, false) }) (v := undef) rfl (by kernel_rfl) (by kernel_rfl) (by kernel_rfl) (fun _ _ _ h => h) (Or.inr ⟨by rfl, rfl⟩) (by assumption) ?_
    try simp only [Act.put, List.setIfInBounds_toArray, List.set_cons_zero, List.set_cons_succ]
    refine wpAnyH_take (i := 11) (oi := { dst := some 16, op := Op.call { callee := Callee.value (Operand.func 116), args := #[Operand.tmp 13, Operand.tmp 15], argTypes := #[53, 3] }, type := 3, pos := "l3_pairs.go:219", after := #[{ on := 8, ground := Ground.data }, { on := 10, ground := Ground.data }, { on := 7, ground := Ground.chain }, { on := 7, ground := Ground.guard }], guard := some (7, false) }) (v := undef) rfl (by kernel_rfl) (by kernel_rfl) (by kernel_rfl) (fun _ _ _ h => h) (Or.inr ⟨by rfl, rfl⟩) (by assumption) ?_
    try simp only [Act.put, List.setIfInBounds_toArray, List.set_cons_zero, List.set_cons_succ]
    refine wpAnyH_take (i := 12) (oi := { dst := some 17, op := Op.fieldAddr 77 (Operand.tmp 3) 0, type := 0, pos := "l3_pairs.go:219", after := #[{ on := 7, ground := Ground.guard }], guard := some (7, false) }) (v := undef) rfl (by kernel_rfl) (by kernel_rfl) (by kernel_rfl) (fun _ _ _ h => h) (Or.inr ⟨by rfl, rfl⟩) (by assumption) ?_
    try simp only [Act.put, List.setIfInBounds_toArray, List.set_cons_zero, List.set_cons_succ]
    refine wpAnyH_take (i := 13) (oi := { dst := some 18, op := Op.load 3 (Operand.tmp 17), type := 3, pos := "l3_pairs.go:219", after := #[{ on := 12, ground := Ground.data }, { on := 7, ground := Ground.guard }], guard := some (7, false) }) (v := undef) rfl (by kernel_rfl) (by kernel_rfl) (by kernel_rfl) (fun _ _ _ h => h) (Or.inr ⟨by rfl, rfl⟩) (by assumption) ?_
    try simp only [Act.put, List.setIfInBounds_toArray, List.set_cons_zero, List.set_cons_succ]
    refine wpAnyH_take (i := 14) (oi := { dst := some 19, op := Op.binOp BinOp.eql 3 (Operand.tmp 16) (Operand.tmp 18) 3, type := 4, pos := "l3_pairs.go:219", after := #[{ on := 11, ground := Ground.data }, { on := 13, ground := Ground.data }, { on := 7, ground := Ground.guard }], guard := some (7, false) }) (v := undef) rfl (by kernel_rfl) (by kernel_rfl) (by kernel_rfl) (fun _ _ _ h => h) (Or.inr ⟨by rfl, rfl⟩) (by assumption) ?_
    try simp only [Act.put, List.setIfInBounds_toArray, List.set_cons_zero, List.set_cons_succ]
    refine wpAnyH_take (i := 15) (oi := { dst := some 20, op := Op.pick (Operand.tmp 12) (Operand.const (Value.bool true)) (Operand.tmp 19), type := 4, pos := "l3_pairs.go:219", after := #[{ on := 7, ground := Ground.data }, { on := 14, ground := Ground.data }], guard := none }) (v := ?_) rfl (by kernel_rfl) (by kernel_rfl) (by kernel_rfl) (fun _ _ _ h => h) (Or.inl ⟨by rfl, ?_⟩) (by assumption) ?_
    rotate_left
    · intro V hSw; (try dsimp only at hSw); obtain ⟨⟨c0, c1, c2, c3, c4, c5, c6⟩, f0, f1⟩ := hSw; go_simp; (try with_reducible rfl)
    try simp only [Act.put, List.setIfInBounds_toArray, List.set_cons_zero, List.set_cons_succ]
    refine wpAnyH_take (i := 16) (oi := { dst := some 4, op := Op.assign (Operand.tmp 20), type := 4, pos := "l3_pairs.go:219", after := #[{ on := 15, ground := Ground.data }, { on := 11, ground := Ground.chain }, { on := 0, ground := Ground.phase }, { on := 1, ground := Ground.phase }, { on := 2, ground := Ground.phase }, { on := 3, ground := Ground.phase }, { on := 4, ground := Ground.phase }, { on := 5, ground := Ground.phase }, { on := 6, ground := Ground.phase }, { on := 7, ground := Ground.phase }, { on := 8, ground := Ground.phase }, { on := 9, ground := Ground.phase }, { on := 10, ground := Ground.phase }, { on := 11, ground := Ground.phase }, { on := 12, ground := Ground.phase }, { on := 13, ground := Ground.phase }, { on := 14, ground := Ground.phase }, { on := 15, ground := Ground.phase }], guard := none }) (v := ?_) rfl (by kernel_rfl) (by kernel_rfl) (by kernel_rfl) (fun _ _ _ h => h) (Or.inl ⟨by rfl, ?_⟩) (by assumption) ?_
    rotate_left
    · intro V hSw; (try dsimp only at hSw); obtain ⟨⟨c0, c1, c2, c3, c4, c5, c6⟩, f0, f1⟩ := hSw; go_simp; (try with_reducible rfl)
    try simp only [Act.put, List.setIfInBounds_toArray, List.set_cons_zero, List.set_cons_succ]
    refine wpAnyH_done (by kernel_rfl) ?_ _
    -- @end
    all_goals
      go_wp2
      go_ret
      exact ⟨rfl, by rw [HBB.out]; exact HB.out.trans (HB1.out.mono (by omega))⟩
end Go.Proofs.Ytamnacgclhaggaa

/- The model's reading of a term. -/
import Derived.Test.YtehadbpbkenccaaGreatDoorTmS
import Derived.WalkSpells
namespace Go.Proofs.YtehadbpbkenccaaGreatDoor
open Go.ChangeShapes Go.WideShapes Go.ChangeAt Go.RowKit

/-- A variable that holds a term of the model's. -/
def V9 (w : World) (g : Nat) (x y : Value) : Prop := w.heap[g]? = some (.cells #[x, y] 37 (0, 0))
abbrev z9 : Obj := .cells #[.int .u8 0, .slice none 0 0] 37
section
variable {w w' : World} {g D : Nat} {x y x' y' : Value}
theorem V9.lt (h : V9 w g x y) : g < w.heap.size := (Array.getElem?_eq_some_iff.1 h).1
theorem V9.below (h : V9 w g x y) (hb : Below D w w') (hD : g < D) : V9 w' g x y := (hb.block g hD).trans h
theorem V9.alloc (h : V9 w g x y) (o : Obj) : V9 (w.alloc o) g x y := (Below.heap_alloc w o g h.lt).trans h
theorem V9.grown {r : Nat} (h : V9 w g x y) (hg : w.grownBy w' (some r)) (hne : g ≠ r) : V9 w' g x y := (hg.block g h.lt (by simpa using hne)).trans h
theorem V9.new (w : World) (x y : Value) : V9 (w.alloc (.cells #[x, y] 37)) w.heap.size x y := heap_alloc_new w _
theorem V9.c0 (h : V9 w g x y) : w.cell? ⟨g, 0, none⟩ = some x := by rw [cell_of_row w g 0 _ _ _ h]; rfl
theorem V9.c1 (h : V9 w g x y) : w.cell? ⟨g, 1, none⟩ = some y := by rw [cell_of_row w g 1 _ _ _ h]; rfl
theorem V9.fr (h : V9 w g x y) (j : Nat) : w.frozen? ⟨g, j, none⟩ = false := frozen_of_row w g j _ _ h
theorem V9.ld (h : V9 w g x y) : (ld9 ⟨g, 0, none⟩).run Tryz.prog w = .ok (.agg #[x, y]) w := ld9_at h.c0 h.c1
theorem V9.st (h : V9 w g x y) (hx : x'.oneCell' = true) (hy : y'.oneCell' = true) :
    ∃ w', (st9 ⟨g, 0, none⟩ (.agg #[x', y'])).run Tryz.prog w = .ok () w' ∧ V9 w' g x' y' ∧ w.grownBy w' (some g) ∧ w'.heap.size = w.heap.size := by
  refine ⟨w.setRow g #[x', y'], ?_, setRow_heap w g _ _ _ _ h, ⟨rfl, rfl, rfl, by simp, fun k _ hk => setRow_other w g k _ (fun e => hk (by simp [e]))⟩, by simp⟩
  have hs := run_storeCells_at Tryz.prog g 0 37 [x', y'] 0 _ w h (by simp) (by simp [hx, hy])
  have e : (#[x, y] : Array Value).toList.take 0 ++ [x', y'] ++ (#[x, y] : Array Value).toList.drop (0 + 0 + [x', y'].length) = [x', y'] := by simp
  rw [Nat.add_zero, e] at hs
  unfold st9
  simp [storeVar, Value.cells, Result.andThen, hs]
end
theorem results_ct9 {fn : Func} {p t : Tmp} (h : fn.results = #[.cell p 37, .tmp t]) (tmps : Array Value) (w : World) (g : Nat) (x y : Value)
    (hp : tmps.getD p undef = .pointer (some ⟨g, 0, none⟩)) (hg : V9 w g x y) :
    (results fn tmps).run Tryz.prog w = .ok (.tuple #[.agg #[x, y], tmps.getD t undef]) w := by
  have hp' : tmps[p]?.getD undef = .pointer (some ⟨g, 0, none⟩) := by simpa using hp
  have hl : (loadVar 37 ⟨g, 0, none⟩).run Tryz.prog w = .ok (.agg #[x, y]) w := hg.ld
  simp [results, h, hp', asAddr, hl]
theorem ret_ct9 {fn : Func} {R : Ending → World → Prop} {a : Act} {w : World} {p t : Tmp} (h : fn.results = #[.cell p 37, .tmp t]) (g : Nat) (x y : Value) (hp : a.tmps.getD p undef = .pointer (some ⟨g, 0, none⟩))
    (hg : Hid (V9 w g x y)) (hd : a.defers = []) (hR : R (.returned (.tuple #[.agg #[x, y], a.tmps.getD t undef])) w) : bodyPost Tryz.prog fn R .ret a w :=
  bodyPost_ret (results_ct9 h _ _ g x y hp hg.out) hd hR

/-- The variables that each reading begins with: its result, and what stands for no term. -/
theorem pro9 (w : World) : ∃ W, (st9 ⟨w.heap.size + 1 + 1, 0, none⟩ (.agg #[.int .u8 97, .slice (some ⟨w.heap.size + 1, 0, none⟩) 0 0])).run Tryz.prog (((w.alloc z9).alloc (.cells #[] 37)).alloc z9) = .ok () W ∧
    Hid (V9 W w.heap.size (.int .u8 0) (.slice none 0 0)) ∧ Hid (V9 W (w.heap.size + 1 + 1) (.int .u8 97) (.slice (some ⟨w.heap.size + 1, 0, none⟩) 0 0)) ∧ Hid (Below w.heap.size w W) ∧ Hid (W.heap.size = w.heap.size + 3) := by
  have h1 : V9 (((w.alloc z9).alloc (.cells #[] 37)).alloc z9) (w.heap.size + 1 + 1) (.int .u8 0) (.slice none 0 0) := by
    have := V9.new ((w.alloc z9).alloc (.cells #[] 37)) (.int .u8 0) (.slice none 0 0)
    simpa using this
  have h0 : V9 (((w.alloc z9).alloc (.cells #[] 37)).alloc z9) w.heap.size (.int .u8 0) (.slice none 0 0) := ((V9.new w _ _).alloc _).alloc _
  obtain ⟨W, r, a, g, s⟩ := h1.st (x' := .int .u8 97) (y' := .slice (some ⟨w.heap.size + 1, 0, none⟩) 0 0) rfl rfl
  refine ⟨W, r, h0.grown g (by omega), a, ?_, by rw [Hid, s]; simp⟩
  exact ((((Below.refl w.heap.size w).alloc (Nat.le_refl _) _).alloc (by simp) _).alloc (by simp; omega) _).grown g (by simp; omega) (by simp; omega)
/-- The result stored. -/
theorem fin9 {w W : World} {g : Nat} {x y x' y' : Value} (h : V9 W g x y) (hb : Below g w W) (hx : x'.oneCell' = true) (hy : y'.oneCell' = true) :
    ∃ W', (st9 ⟨g, 0, none⟩ (.agg #[x', y'])).run Tryz.prog W = .ok () W' ∧ Hid (V9 W' g x' y') ∧ Hid (Below g w W') ∧ W.grownBy W' (some g) ∧ W'.heap.size = W.heap.size := by
  obtain ⟨W', r, a, gr, s⟩ := h.st (x' := x') (y' := y') hx hy
  have := h.lt
  exact ⟨W', r, a, hb.grown gr (by omega) (by simp), gr, s⟩

def SNo (w : World) (e : Ending) (w' : World) : Prop := ∃ c A n d, e = .returned (.tuple #[.agg #[.int .u8 c, .slice A n d], .int .i64 0]) ∧ Below w.heap.size w w'
def SYes (t : Tm) (k : Nat) (w : World) (e : Ending) (w' : World) : Prop := ∃ a b, e = .returned (.tuple #[.agg #[a, b], .int .i64 (k : Int)]) ∧ TS w' (Btw w.heap.size w'.heap.size) t a b ∧ Below w.heap.size w w'

attribute [local go_sem ↓] ld9_fold st9_fold in
theorem s_end (s : ByteArray) (w : World) : Calls Tryz.prog 29 #[.string s, .int .i64 (s.size : Int)] w (SNo w) := by
  obtain ⟨W, r, h0, h1, hb, hs⟩ := pro9 w
  have l1 := h1.out.ld
  obtain ⟨W', r', a', b', _, _⟩ := fin9 (x' := .int .u8 97) (y' := .slice (some ⟨w.heap.size + 1, 0, none⟩) 0 0) h0.out hb.out rfl rfl
  go_enter Tryz.func29, Tryz.ntmps29
  go_wp2
  exact ret_ct9 rfl w.heap.size _ _ rfl a' rfl ⟨_, _, _, _, rfl, b'.out⟩
attribute [local go_sem ↓] ld9_fold st9_fold in
set_option maxRecDepth 10000 in
theorem s_let (s : ByteArray) (k : Nat) (w : World) (h : k < s.size) (h63 : s.size ≤ 1048576) (hL : isL s[k] = true) : Calls Tryz.prog 29 #[.string s, .int .i64 (k : Int)] w (SYes (.L s[k]) (k + 1) w) := by
  obtain ⟨h1, h2⟩ : 97 ≤ s[k].toNat ∧ s[k].toNat ≤ 103 := by simpa [isL] using hL
  obtain ⟨W, r, h0, hn, hb, hs⟩ := pro9 w
  have hbA := hb.out.alloc (by have := hs.out; omega) (.cells #[] 37)
  obtain ⟨W', r', a', b', _, _⟩ := fin9 (x' := .int .u8 (s[k].toNat : Int)) (y' := .slice (some ⟨W.heap.size, 0, none⟩) 0 0) (h0.out.alloc (.cells #[] 37)) hbA rfl rfl
  clear hbA
  go_enter Tryz.func29, Tryz.ntmps29
  go_wp2
  exact ret_ct9 rfl w.heap.size _ _ rfl a' rfl ⟨_, _, rfl, by rw [TS]; exact ⟨rfl, _, _, rfl⟩, b'.out⟩
attribute [local go_sem ↓] ld9_fold st9_fold in
set_option maxRecDepth 10000 in
theorem s_bad (s : ByteArray) (k : Nat) (w : World) (h : k < s.size) (hL : isL s[k] = false) (h1 : s[k] ≠ 45) (h2 : s[k] ≠ 40) : Calls Tryz.prog 29 #[.string s, .int .i64 (k : Int)] w (SNo w) := by
  have e1 : ((s[k].toNat : Int) == 45) = false := by
    simp; intro e; exact h1 (UInt8.toNat_inj.1 (by simp; omega))
  have e2 : ((s[k].toNat : Int) != 40) = true := by
    simp; intro e; exact h2 (UInt8.toNat_inj.1 (by simp; omega))
  have hc : s[k].toNat < 97 ∨ (97 ≤ s[k].toNat ∧ 103 < s[k].toNat) := by
    simp [isL] at hL; omega
  obtain ⟨W, r, h0, hn, hb, hs⟩ := pro9 w
  have l1 := hn.out.ld
  obtain ⟨W', r', a', b', _, _⟩ := fin9 (x' := .int .u8 97) (y' := .slice (some ⟨w.heap.size + 1, 0, none⟩) 0 0) h0.out hb.out rfl rfl
  rcases hc with hc | ⟨hc, hc'⟩
  all_goals
    go_enter Tryz.func29, Tryz.ntmps29
    go_wp2
    exact ret_ct9 rfl w.heap.size _ _ rfl a' rfl ⟨_, _, _, _, rfl, b'.out⟩

attribute [local go_sem ↓] ld9_fold st9_fold in
set_option maxRecDepth 10000 in
theorem s_sign0 (s : ByteArray) (k : Nat) (w : World) (h : k < s.size) (h63 : s.size ≤ 1048576) (hc : s[k].toNat = 45) (HC : Hid (∀ W, Calls Tryz.prog 29 #[.string s, .int .i64 ((k : Int) + 1)] W (SNo W))) :
    Calls Tryz.prog 29 #[.string s, .int .i64 (k : Int)] w (SNo w) := by
  obtain ⟨W, r, h0, hn, hb, hs⟩ := pro9 w
  have HD := Lib.hid (HC.out W)
  clear HC
  go_enter Tryz.func29, Tryz.ntmps29
  go_wp2_with fail
  refine HD.out.mono ?_
  rintro e W1 ⟨c, A, n, d, rfl, hb1⟩
  obtain ⟨W2, r2, a2, b2, g2, s2⟩ := fin9 (w := W1) (x' := .int .u8 c) (y' := .slice A n d) (V9.new W1 (.int .u8 0) (.slice none 0 0)) ((Below.refl _ _).alloc (Nat.le_refl _) _) rfl rfl
  have l2 := a2.out.ld
  have hs1 := hb1.size
  have h02 := ((h0.out.below hb1 (by have := hs.out; omega)).alloc z9).grown g2 (by have := hs.out; omega)
  have hb2 := (hb.out.trans (hb1.mono (by have := hs.out; omega))).trans (b2.out.mono (by have := hs.out; omega))
  have hs2 : W2.heap.size = W1.heap.size + 1 := by rw [s2]; simp
  have h03 : V9 (W2.alloc (.cells #[.int .u8 c, .slice A n d] 37)) w.heap.size (.int .u8 0) (.slice none 0 0) := h02.alloc _
  have hb3 := hb2.alloc (by have := hs.out; omega) (.cells #[.int .u8 c, .slice A n d] 37)
  obtain ⟨W4, r4, a4, b4, _, _⟩ := fin9 (w := w) (x' := .int .u8 45) (y' := .slice (some ⟨W2.heap.size, 0, none⟩) 1 1) h03 hb3 rfl rfl
  clear h02 hb2 h03 hb3 hs1 hb1 h0 hn hb hs2 s2
  go_wp2_with fail
  exact ret_ct9 rfl w.heap.size _ _ rfl a4 rfl ⟨_, _, _, _, rfl, b4.out⟩
attribute [local go_sem ↓] ld9_fold st9_fold in
set_option maxRecDepth 10000 in
theorem s_sign1 (s : ByteArray) (k : Nat) (w : World) (h : k < s.size) (h63 : s.size ≤ 1048576) (hc : s[k].toNat = 45) (t : Tm) (m : Nat) (HC : Hid (∀ W, Calls Tryz.prog 29 #[.string s, .int .i64 ((k : Int) + 1)] W (SYes t m W))) :
    Calls Tryz.prog 29 #[.string s, .int .i64 (k : Int)] w (SYes (.S t) m w) := by
  obtain ⟨W, r, h0, hn, hb, hs⟩ := pro9 w
  have HD := Lib.hid (HC.out W)
  clear HC
  go_enter Tryz.func29, Tryz.ntmps29
  go_wp2_with fail
  refine HD.out.mono ?_
  rintro e W1 ⟨a, b, rfl, ht, hb1⟩
  have HT := Lib.hid ht
  obtain ⟨e1, A, d, e2⟩ := ht.form
  subst e1; subst e2
  obtain ⟨W2, r2, a2, b2, g2, s2⟩ := fin9 (w := W1) (x' := .int .u8 (t.sig.toNat : Int)) (y' := .slice A t.kids.length d) (V9.new W1 (.int .u8 0) (.slice none 0 0)) ((Below.refl _ _).alloc (Nat.le_refl _) _) rfl rfl
  have l2 := a2.out.ld
  have hs1 := hb1.size
  have h02 := ((h0.out.below hb1 (by have := hs.out; omega)).alloc z9).grown g2 (by have := hs.out; omega)
  have hb2 := (hb.out.trans (hb1.mono (by have := hs.out; omega))).trans (b2.out.mono (by have := hs.out; omega))
  have hs2 : W2.heap.size = W1.heap.size + 1 := by rw [s2]; simp
  have h03 : V9 (W2.alloc (.cells #[.int .u8 (t.sig.toNat : Int), .slice A t.kids.length d] 37)) w.heap.size (.int .u8 0) (.slice none 0 0) := h02.alloc _
  have hb3 := hb2.alloc (by have := hs.out; omega) (.cells #[.int .u8 (t.sig.toNat : Int), .slice A t.kids.length d] 37)
  obtain ⟨W4, r4, a4, b4, g4, s4⟩ := fin9 (w := w) (x' := .int .u8 45) (y' := .slice (some ⟨W2.heap.size, 0, none⟩) 1 1) h03 hb3 rfl rfl
  have HTS : Hid (TS W4 (Btw w.heap.size W4.heap.size) (.S t) (.int .u8 45) (.slice (some ⟨W2.heap.size, 0, none⟩) 1 1)) := by
    have hg4 : ∀ k, k < W2.heap.size → k ≠ w.heap.size → W4.heap[k]? = W2.heap[k]? := fun k hk hne => (g4.block k (by simp; omega) (by simpa using hne)).trans (Below.heap_alloc W2 _ k hk)
    have hz4 : W4.heap.size = W2.heap.size + 1 := by rw [s4]; simp
    have hz := hs.out
    rw [Hid, TS]
    refine ⟨rfl, W2.heap.size, 1, #[.int .u8 (t.sig.toNat : Int), .slice A t.kids.length d], _, _, rfl, Nat.le_refl _, ⟨by omega, by omega⟩, ?_, rfl, ?_⟩
    · exact (g4.block _ (by simp) (by simp; omega)).trans (V9.new W2 _ _)
    · refine TS.keep (w := W1) (fun k hk => ?_) (fun k hk => ?_) _ _ _ HT.out
      · rw [hg4 k (by have := hk.2; omega) (by have := hk.1; omega)]
        exact b2.out.block k hk.2
      · exact ⟨by have := hk.1; omega, by have := hk.2; omega⟩
  clear h02 hb2 h03 hb3 hs1 hb1 h0 hn hb ht HT g4 s4 hs2 s2
  go_wp2_with fail
  exact ret_ct9 rfl w.heap.size _ _ rfl a4 rfl ⟨_, _, rfl, HTS.out, b4.out⟩
end Go.Proofs.YtehadbpbkenccaaGreatDoor

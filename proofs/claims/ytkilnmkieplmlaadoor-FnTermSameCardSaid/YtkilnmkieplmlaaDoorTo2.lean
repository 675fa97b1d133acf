/- TermOf: the program's and the model's. -/
import Derived.Test.YtkilnmkieplmlaaDoorTn2
import Derived.Test.YtkilnmkieplmlaaDoorMA
import Derived.Test.YtkilnmkieplmlaaDoorFold
namespace Go.Proofs.YtkilnmkieplmlaaDoor
open Go.ChangeShapes Go.WideShapes Go.ChangeAt Go.RowKit

/-- The letters of points. -/
def letU (x : Int) : UInt8 := UInt8.ofNat (97 + x.toNat)
def lettersU (l : List Int) : List UInt8 := l.map letU
theorem letU_val {x : Int} (h0 : 0 ≤ x) (h7 : x < 7) : ((letU x).toNat : Int) = 97 + x := by
  unfold letU
  rw [UInt8.toNat_ofNat']
  omega
theorem lettersU_take (l : List Int) (k : Nat) (h : k < l.length) : lettersU (l.take (k + 1)) = lettersU (l.take k) ++ [letU (l.getD k 0)] := by
  unfold lettersU
  rw [List.take_succ_eq_append_getElem h, List.map_append]
  simp [List.getD, h]

/-! ### The program's -/
/-- Block g has n bytes; the first ones are those of L. -/
def Row8 (w : World) (g n : Nat) (L : List UInt8) : Prop :=
  ∃ cur, w.heap[g]? = some (.cells cur 5 (0, 0)) ∧ cur.size = n ∧ ∀ j (hj : j < L.length), cur[j]? = some (e8 L[j])
section
variable {w w' : World} {g n D : Nat} {L : List UInt8}
theorem Row8.lt (h : Row8 w g n L) : g < w.heap.size := by obtain ⟨cur, hg, _⟩ := h; exact (Array.getElem?_eq_some_iff.1 hg).1
theorem Row8.cell (h : Row8 w g n L) {j : Nat} (hj : j < n) : ∃ u, w.cell? ⟨g, j, none⟩ = some u := by
  obtain ⟨cur, hg, hs, hr⟩ := h
  refine ⟨cur[j]'(by omega), ?_⟩
  rw [cell_of_row w g j cur _ _ hg]
  exact Array.getElem?_eq_getElem (by omega)
theorem Row8.frozen (h : Row8 w g n L) (j : Nat) : w.frozen? ⟨g, j, none⟩ = false := by
  obtain ⟨cur, hg, hs, hr⟩ := h
  exact frozen_of_row w g j cur _ hg
theorem Row8.step (h : Row8 w g n L) (hL : L.length < n) (c : UInt8) : Row8 (w.setCell ⟨g, L.length, none⟩ (e8 c)) g n (L ++ [c]) := by
  obtain ⟨cur, hg, hs, hr⟩ := h
  refine ⟨cur.setIfInBounds L.length (e8 c), heap_setCell_same w g _ cur _ _ hg, by simpa using hs, fun j hj => ?_⟩
  simp at hj
  rw [Array.getElem?_setIfInBounds]
  by_cases e : L.length = j
  · subst e; rw [if_pos rfl, if_pos (by omega)]; simp
  · rw [if_neg e, hr j (by omega)]; simp [List.getElem_append_left (show j < L.length by omega)]
theorem Row8.str (h : Row8 w g n L) (hL : L.length = n) (c : Nat) : (convert 22 9 (.slice (some ⟨g, 0, none⟩) n c)).run Tryd.prog w = .ok (.string (bs L)) w := by
  subst hL
  refine run_convert_bytes_back (P := Tryd.prog) w 22 9 5 ⟨g, 0, none⟩ c L Tryd.underlying22 Tryd.underlying5 Tryd.underlying9 fun j hj => ?_
  obtain ⟨cur, hg, hs, hr⟩ := h
  rw [Addr.add_lit, Nat.zero_add, cell_of_row w g j cur _ _ hg]
  exact hr j hj
end
theorem u8_info : (Tryd.prog.info? 5).map (fun i => (i.zero, i.size, i.bytes)) = some (some (.int .u8 0), 1, 1) := by kernel_rfl

/-- The text that tells a ring, and whether there is one. -/
def ofR (l : List Int) : List UInt8 := if Ring l then 40 :: (lettersU l ++ [41]) else []
theorem ring_in {l : List Int} (h : Ring l) : ∀ x ∈ l, 0 ≤ x ∧ x < 7 := fun x hx => by
  have := h.1.2.2.1 x hx; have := h.1.2.1; omega

/-! ### The model's -/
/-- The model's own row of bytes. -/
def Out8 (w : World) (B : Nat) (v : Value) (L : List UInt8) : Prop := w.ownsRow B 5 1 v L.length (L.map e8)
/-- An append, by another name. -/
def ap8 (ts : Array TypeId) (ty : TypeId) (args : Array Value) : Sem Value := Builtin.append_ ts ty args
theorem ap8_fold (ts : Array TypeId) (ty : TypeId) (args : Array Value) : Builtin.append_ ts ty args = ap8 ts ty args := rfl
theorem Out8.step {V w : World} {B : Nat} {v : Value} {L : List UInt8} (h : Out8 V B v L) (hb : Below B w V) (hB : B ≤ V.heap.size) (hl : L.length ≤ 3000) (c : UInt8) (x : Int) (hx : (c.toNat : Int) = x) :
    ∃ v' w', (∀ ty, (ap8 #[22, 22] ty #[v, .slice (some ⟨V.heap.size, 0, none⟩) 1 1]).run Tryd.prog (V.alloc (.cells #[.int .u8 x] 5)) = .ok v' w') ∧ Out8 w' B v' (L ++ [c]) ∧ Below B w w' ∧ B ≤ w'.heap.size := by
  subst hx
  obtain ⟨i0, hi, hz0, hz1, hz2⟩ := info_parts u8_info
  obtain ⟨v', w', hrun, hown, hgr, _⟩ := run_append_own (P := Tryd.prog) (V.alloc (.cells #[.int .u8 (c.toNat : Int)] 5)) B 22 22 5 i0 (.int .u8 0) 1 1 Tryd.underlying22 hi hz0 hz1 hz2 rfl (by decide) v L.length (L.map e8) (World.ownsRow.alloc h _) ⟨V.heap.size, 0, none⟩ 1 1 [.int .u8 (c.toNat : Int)] rfl (one_cell V _ _) (by simp [Value.oneCell']) (by unfold maxLen; omega) (by omega) (by simp; omega)
  refine ⟨v', w', fun _ => hrun, ?_, (hb.alloc hB _).grown hgr (by simp; omega) fun k hk => (World.ownsRow.lt h k hk).1, by have := hgr.size; simp at this; omega⟩
  unfold Out8
  simpa [e8] using hown
theorem Out8.str {w : World} {B : Nat} {v : Value} {L : List UInt8} (h : Out8 w B v L) (hp : 0 < L.length) : (convert 22 9 v).run Tryd.prog w = .ok (.string (bs L)) w := by
  obtain ⟨g, cap, rfl, _⟩ : ∃ g cap, v = .slice (some ⟨g, 0, none⟩) L.length cap ∧ True := by
    rcases h.2 with ⟨e, h0⟩ | ⟨g, cap, cur, e, _⟩
    · omega
    · exact ⟨g, cap, e, trivial⟩
  refine run_convert_bytes_back (P := Tryd.prog) w 22 9 5 ⟨g, 0, none⟩ cap L Tryd.underlying22 Tryd.underlying5 Tryd.underlying9 fun j hj => ?_
  exact World.ownsRow.cells h rfl j _ (by simp [hj, e8])
theorem Out8.one (W : World) (c : UInt8) : Out8 (W.alloc (.cells #[.int .u8 (c.toNat : Int)] 5)) W.heap.size (.slice (some ⟨W.heap.size, 0, none⟩) 1 1) [c] :=
  ⟨by simp, .inr ⟨W.heap.size, 1, _, rfl, Nat.le_refl _, heap_alloc_new W _, Nat.le_refl _, by decide, by simp, by simp [e8]⟩⟩

attribute [local go_sem ↓] ap8_fold in
set_option maxRecDepth 10000 in
set_option maxHeartbeats 1000000 in
theorem ofS_any (A : Option Addr) (n c H : Nat) (l : List Int) (w : World) (h : Rd w H A n l) (hH : H ≤ w.heap.size) (hn : n ≤ 1048576) :
    Calls Tryd.prog 10 #[.slice A n c] w fun e w' => e = .returned (.tuple #[.string (bs (ofR l)), .bool (ringB l)]) ∧ Below w.heap.size w w' := by
  have HL := Lib.hid h.len
  have HI := Lib.hid (ringS_any A n c H l w h hn)
  by_cases hr : Ring l
  · have e : ofR l = 40 :: (lettersU l ++ [41]) := by rw [ofR, if_pos hr]
    rw [e, ring_yes hr]
    rw [ring_yes hr] at HI
    have HIN := Lib.hid (ring_in hr)
    have h7 : n ≤ 7 := by rw [← HL.out]; exact hr.1.2.1
    have ho0 := Out8.one w 40
    have hb0 := (Below.refl w.heap.size w).alloc (Nat.le_refl _) (.cells #[.int .u8 40] 5)
    have hr0 := h.below (hb0.mono hH)
    have HRW := Lib.hid h
    clear e hr h
    go_enter Tryd.func10, Tryd.ntmps10
    go_wp2_with (go_at_call 23; refine HI.out.mono ?_; rintro e w' ⟨rfl, rfl⟩)
    go_loopw [4, 5] (fun v i wr => ∃ k : Nat, k ≤ n ∧ i = .int .i64 k ∧ Hid (Out8 wr w.heap.size v (40 :: lettersU (l.take k))) ∧ Hid (Rd wr H A n l) ∧ Hid (Below w.heap.size w wr) ∧ w.heap.size ≤ wr.heap.size) (fun _ i _ => n - (intOf i).toNat)
    case atStart => exact ⟨0, Nat.zero_le _, rfl, ho0, hr0, hb0, by simp⟩
    case round =>
      obtain ⟨k, hk, rfl, ho, hrd, hbl, hsz⟩ := hrel
      clear ho0 hb0 hr0
      by_cases hlt : k < n
      · have hkl : k < l.length := by rw [HL.out]; exact hlt
        obtain ⟨b, o, rfl, hbH, hcs⟩ := hrd.out.at_ (by omega)
        have hc := hcs k hlt
        obtain ⟨x0, x7⟩ := HIN.out _ (getD_mem l k hkl)
        obtain ⟨v', w', hrun, ho', hb', hs'⟩ := ho.out.step hbl.out hsz (by simp [lettersU]; omega) (letU (l.getD k 0)) _ (letU_val x0 x7)
        have hE := lettersU_take l k hkl
        rw [List.cons_append, ← hE] at ho'
        have HO := Lib.hid ho'
        have HB' := Lib.hid hb'
        have HRD' := Lib.hid (HRW.out.below (hb'.mono hH))
        generalize l.getD k 0 = x at *
        clear hcs hE ho' hb'
        go_wp2_with fail
        go_roundw
        case rel => exact ⟨k + 1, by omega, by go_num, HO.out, HRD'.out, HB'.out, hs'⟩
        case measure => simp [intOf]; omega
      · obtain rfl : k = n := by omega
        have e : lettersU (l.take k) = lettersU l := by rw [List.take_of_length_le (by rw [HL.out]; omega)]
        have ho1 := ho.out
        rw [e] at ho1
        obtain ⟨v', w', hrun, ho', hb', hs'⟩ := ho1.step hbl.out hsz (by simp [lettersU]; have := HL.out; omega) 41 41 rfl
        have hst := ho'.str (by simp)
        have HB' := Lib.hid hb'
        clear ho ho1 ho' hb' e
        go_wp2_with fail
        go_ret2
        exact ⟨rfl, HB'.out⟩
  · have e : ofR l = [] := by rw [ofR, if_neg hr]
    rw [e, ring_no hr]
    rw [ring_no hr] at HI
    clear e hr h
    go_enter Tryd.func10, Tryd.ntmps10
    go_wp2_with (go_at_call 23; refine HI.out.mono ?_; rintro e w' ⟨rfl, rfl⟩)
    go_ret2
    exact ⟨rfl, Below.refl _ _⟩
end Go.Proofs.YtkilnmkieplmlaaDoor

/- Several texts as one: Drop DropT Named NamedT From World Put PutT. -/
import Derived.Test.YtbfdbnminjhocaaMB
import Derived.StillTailTactics
import Derived.Laws.CopyOwn
import Derived.Test.YtbfdbnminjhocaaMA
namespace Go.Proofs.Ytbfdbnminjhocaa
open Go.ChangeShapes Go.WideShapes Go.ChangeAt Go.RowKit

/-- The list without its greatest point. -/
def dropL (l : List Int) : List Int := l.filter fun x => x != (l.length : Int) - 1
theorem dropL_eq (l : List Int) (h : Tell l) : dropL l = l.take (l.idxOf ((l.length : Int) - 1)) ++ l.drop (l.idxOf ((l.length : Int) - 1) + 1) := by
  unfold dropL
  rw [← h.2.2.2.erase_eq_filter, List.erase_eq_eraseIdx_of_idxOf, List.eraseIdx_eq_take_drop_succ]
  rfl
theorem top_in (l : List Int) (h : Tell l) : ((l.length : Int) - 1) ∈ l := h.has (by have := h.1; omega) (by omega)
theorem dropL_length (l : List Int) (h : Tell l) : (dropL l).length = l.length - 1 := by
  have := List.idxOf_lt_length_of_mem (top_in l h)
  rw [dropL_eq l h]
  simp; omega
theorem dropL_pos (l : List Int) (h : Tell l) : ∀ x ∈ dropL l, 0 ≤ x := fun x hx => h.pos x (List.mem_filter.1 hx).1
theorem pad_drop (l : List Int) (h : Tell l) : ((padR l).take (l.idxOf ((l.length : Int) - 1)) ++ ((padR l).drop (l.idxOf ((l.length : Int) - 1) + 1) ++ (padR l).drop 6)).set 6 (-1) = padR (dropL l) := by
  have hp := List.idxOf_lt_length_of_mem (top_in l h)
  have h7 := h.2.1
  rw [dropL_eq l h]
  generalize l.idxOf ((l.length : Int) - 1) = p at *
  have hl := padR_length l h7
  have e6 : (padR l).drop 6 = [(padR l).getD 6 0] := by
    rw [List.drop_eq_getElem_cons (by omega), List.drop_of_length_le (by omega)]
    simp [List.getD, hl]
  rw [e6, ← List.append_assoc, List.set_append_right _ _ (by simp; omega)]
  have : 6 - ((padR l).take p ++ (padR l).drop (p + 1)).length = 0 := by simp; omega
  rw [this, List.set_cons_zero]
  unfold padR
  rw [List.take_append_of_le_length (by omega), List.drop_append_of_le_length (by omega)]
  simp only [List.append_assoc, List.append_cancel_left_eq, List.length_append, List.length_take, List.length_drop]
  rw [show 7 - (min p l.length + (l.length - (p + 1))) = (7 - l.length) + 1 by omega, List.replicate_succ']

/-- A cut of an array from a place on. -/
theorem slice_ring3 (W : World) (b m : Nat) (hm : m ≤ 7) :
    ∃ ad : Addr, (m < 7 → ad = ⟨b, m, none⟩) ∧
    (Instr.sliceAt 52 (.pointer (some ⟨b, 0, none⟩)) (some (.int .i64 (m : Int))) none none).run Try.prog W = .ok (.slice (some ad) (7 - m) (7 - m)) W := by
  obtain ⟨i, hi, _, hs, _⟩ := info_parts int_info
  have hal : Try.prog.arrayLen 52 = 7 := by kernel_rfl
  have hel : Try.prog.elem 52 = 3 := by kernel_rfl
  have h := run_sliceAt_array_l (P := Try.prog) W 52 ⟨b, 0, none⟩ (by rw [hal, hel]; exact Try.underlying52) .i64 (m : Int) (by omega) (by rw [hal]; omega)
  have hc : Try.prog.cellsOf 3 = 1 := cells_int
  refine ⟨if 7 = m then ⟨b, 0, none⟩ else (⟨b, 0, none⟩ : Addr).add (m * 1), fun hlt => ?_, ?_⟩
  · rw [if_neg (by omega), Nat.mul_one, Addr.add_lit, Nat.zero_add]
  · rw [h, hel, run_sizeOf W hi, Result.andThen_ok, hal, hc]
    simp [slicedAt]


/-- copy between two places of one array. -/
theorem copy_ring {ops : Array Oper} {rest : List Oper} {o : Oper} {a : Act} {w : World} {Q : Exit → Act → World → Prop} (hgd : o.guard = none) (d s : Operand)
    (ho : o.op = .call { callee := .builtin .copy, args := #[d, s], argTypes := #[23, 23] }) (g p q m : Nat) (P : List Int) (h7 : P.length = 7)
    (dp sp : Addr) (dLen dCap sLen sCap : Nat) (hd : a.eval d = .slice (some dp) dLen dCap) (hs : a.eval s = .slice (some sp) sLen sCap) (hm : m = Nat.min sLen dLen)
    (hpos : 0 < m → dp = ⟨g, p, none⟩ ∧ sp = ⟨g, q, none⟩) (hp : p + m ≤ 7) (hq : q + m ≤ 7) (hg : Hid (Arr w g P))
    (h : ∀ w', Hid (Arr w' g (P.take p ++ ((P.drop q).take m ++ P.drop (p + m)))) → w.grownBy w' (some g) → w'.heap.size = w.heap.size → wpList Try.prog ops Q rest (a.put o.dst (goInt m)) w') :
    wpList Try.prog ops Q (o :: rest) a w := by
  by_cases h0 : m = 0
  · subst h0
    refine wpList_copy_nothing hgd d s 23 23 ho 3 Try.underlying23 int_size _ _ dLen dCap sLen sCap hd hs hm.symm ?_
    refine h w ?_ (World.grownBy.refl _ _) rfl
    rw [List.take_zero, List.nil_append, Nat.add_zero, List.take_append_drop]
    exact hg
  · obtain ⟨rfl, rfl⟩ := hpos (by omega)
    have hl : (ints ((P.drop q).take m)).length = m := by simp; omega
    have hh := wpList_copy_own hgd d s 23 23 ho 3 Try.underlying23 int_size g p dLen dCap ⟨g, q, none⟩ sLen sCap hd hs (ints P).toArray 52 hg.out (ints ((P.drop q).take m)) (by rw [hl]; exact hm)
      (fun j v hv => by
        have hj : j < m := by
          have := (List.getElem?_eq_some_iff.1 hv).1
          omega
        rw [Addr.add_lit, hg.out.cell (by omega), ← hv, ints_get _ _ (by simp; omega)]
        simp [List.getD, hj])
      (by rw [hl]; simp; omega) (ints_oneCell _) (rest := rest) (Q := Q) (ops := ops) (P := Try.prog)
    rw [hl] at hh
    refine hh (h _ ?_ ?_ ?_)
    · have e : ((ints P).toArray.toList.take p ++ (ints ((P.drop q).take m) ++ (ints P).toArray.toList.drop (p + m))) = ints (P.take p ++ ((P.drop q).take m ++ P.drop (p + m))) := by
        simp [ints, List.map_take, List.map_drop]
      rw [e]
      exact setRow_heap w g _ _ _ _ hg.out
    · exact ⟨rfl, rfl, rfl, by simp, fun k _ hk => setRow_other w g k _ (fun e => hk (by simp [e]))⟩
    · simp

end Go.Proofs.Ytbfdbnminjhocaa

namespace Go.Proofs.Ytbfdbnminjhocaa
open Go.ChangeShapes Go.WideShapes Go.ChangeAt Go.RowKit

/-- A ring of four points at least. -/
def dropB (l : List Int) : Bool := ringB l && decide (l.length ≠ 3)
def dropR (l : List Int) : List Int := if dropB l then dropL l else []
theorem dropB_yes {l : List Int} (h : dropB l = true) : Ring l ∧ l.length ≠ 3 := by
  simpa [dropB, ringB] using h
theorem dropR_length (l : List Int) : (dropR l).length ≤ 7 := by
  unfold dropR
  split
  · rename_i h; rw [dropL_length l (dropB_yes h).1.1]; have := (dropB_yes h).1.1.2.1; omega
  · simp

/-- What is kept of the first k. -/
def keepK (l : List Int) (g : Int) (k : Nat) : List Int := (l.take k).filter fun x => x != g
theorem keepK_yes (l : List Int) (g : Int) (k : Nat) (hk : k < l.length) (h : l.getD k 0 ≠ g) : ints (keepK l g k) ++ [.int .i64 (l.getD k 0)] = ints (keepK l g (k + 1)) := by
  have e : keepK l g (k + 1) = keepK l g k ++ [l.getD k 0] := by
    unfold keepK
    rw [List.take_succ_eq_append_getElem hk, List.filter_append]
    simp [List.getD, hk] at h ⊢
    exact h
  rw [e, ints, ints, List.map_append]
  rfl
theorem keepK_no (l : List Int) (g : Int) (k : Nat) (hk : k < l.length) (h : l.getD k 0 = g) : keepK l g (k + 1) = keepK l g k := by
  unfold keepK
  rw [List.take_succ_eq_append_getElem hk, List.filter_append]
  simp [List.getD, hk] at h ⊢
  exact h
theorem keepK_le (l : List Int) (g : Int) (k : Nat) : (keepK l g k).length ≤ k := by
  unfold keepK
  exact Nat.le_trans (List.length_filter_le _ _) (List.length_take_le _ _)
theorem keepK_full (l : List Int) : keepK l ((l.length : Int) - 1) l.length = dropL l := by unfold keepK dropL; rw [List.take_length]

end Go.Proofs.Ytbfdbnminjhocaa

namespace Go.Proofs.Ytbfdbnminjhocaa
open Go.ChangeShapes Go.WideShapes Go.ChangeAt Go.RowKit

/-- The list with each point called by what p has at its place. -/
def callL (l p : List Int) : List Int := l.map fun x => p.getD x.toNat 0
@[simp] theorem callL_length (l p : List Int) : (callL l p).length = l.length := by simp [callL]
theorem callL_get (l p : List Int) (k : Nat) (hk : k < l.length) : (callL l p).getD k 0 = p.getD (l.getD k 0).toNat 0 := by
  simp [callL, List.getD, hk]
theorem callL_pos (l p : List Int) (hl : Tell l) (hp : Tell p) (e : p.length = l.length) : ∀ x ∈ callL l p, 0 ≤ x := fun x hx => by
  obtain ⟨y, hy, rfl⟩ := List.mem_map.1 hx
  have := hl.2.2.1 y hy
  exact hp.pos _ (getD_mem p _ (by omega))
theorem callL_zero (l p : List Int) (hl : Tell l) (hp : Tell p) (e : p.length = l.length) : (0 : Int) ∈ callL l p := by
  have h0 := at_idx p 0 hp.zero
  have hlt := List.idxOf_lt_length_of_mem hp.zero
  refine List.mem_map.2 ⟨(p.idxOf 0 : Int), hl.has (by omega) (by omega), ?_⟩
  simpa using h0

def callK (l p : List Int) (k : Nat) : List Int := (callL l p).take k ++ (padR l).drop k
theorem callK_length (l p : List Int) (k : Nat) (hk : k ≤ l.length) (h7 : l.length ≤ 7) : (callK l p k).length = 7 := by
  have := padR_length l h7
  simp [callK]; omega
theorem callK_zero (l p : List Int) : callK l p 0 = padR l := by simp [callK]
theorem callK_step (l p : List Int) (k : Nat) (hk : k < l.length) (h7 : l.length ≤ 7) : (callK l p k).set k (p.getD (l.getD k 0).toNat 0) = callK l p (k + 1) := by
  rw [← callL_get l p k hk]
  unfold callK
  have hl : ((callL l p).take k).length = k := by simp; omega
  have hp := padR_length l h7
  rw [List.set_append_right _ _ (by omega), hl, Nat.sub_self, List.drop_eq_getElem_cons (by omega : k < (padR l).length), List.set_cons_zero]
  rw [List.take_succ_eq_append_getElem (by simpa using hk), List.append_assoc]
  simp [List.getD, hk]
theorem callK_full (l p : List Int) : callK l p l.length = padR (callL l p) := by
  unfold callK padR
  rw [List.take_of_length_le (by simp), List.drop_append, callL_length]
  simp

/-- The world of named before its loop. -/
theorem named_world (w : World) (c d z : Array Value) (P Q Z : List Int) (hc : c = (ints P).toArray) (hd : d = (ints Q).toArray) (hz : z = (ints Z).toArray) (W : World)
    (hW : W = ((((w.alloc (.cells c 52)).alloc (.cells d 52)).alloc (.cells z 52)).alloc (.cells c 52)).alloc (.cells c 52)) :
    Arr W w.heap.size P ∧ Arr W (w.heap.size + 1) Q ∧ Arr W (w.heap.size + 1 + 1) Z ∧ Arr W (w.heap.size + 1 + 1 + 1) P ∧ Below w.heap.size w W ∧ W.heap.size = w.heap.size + 5 := by
  subst hc; subst hd; subst hz; subst hW
  refine ⟨?_, ?_, ?_, ?_, ?_, by simp⟩
  · have h : Arr (w.alloc (.cells (ints P).toArray 52)) w.heap.size P := heap_alloc_new w _
    exact (((h.alloc _).alloc _).alloc _).alloc _
  · have h : Arr ((w.alloc (.cells (ints P).toArray 52)).alloc (.cells (ints Q).toArray 52)) (w.heap.size + 1) Q := heap_alloc2_new w _ _
    exact ((h.alloc _).alloc _).alloc _
  · have h : Arr (((w.alloc (.cells (ints P).toArray 52)).alloc (.cells (ints Q).toArray 52)).alloc (.cells (ints Z).toArray 52)) (w.heap.size + 1 + 1) Z := by
      have := heap_alloc_new ((w.alloc (.cells (ints P).toArray 52)).alloc (.cells (ints Q).toArray 52)) (.cells (ints Z).toArray 52)
      simp only [World.alloc, Array.size_push] at this ⊢
      exact this
    exact (h.alloc _).alloc _
  · have h : Arr ((((w.alloc (.cells (ints P).toArray 52)).alloc (.cells (ints Q).toArray 52)).alloc (.cells (ints Z).toArray 52)).alloc (.cells (ints P).toArray 52)) (w.heap.size + 1 + 1 + 1) P := by
      have := heap_alloc_new (((w.alloc (.cells (ints P).toArray 52)).alloc (.cells (ints Q).toArray 52)).alloc (.cells (ints Z).toArray 52)) (.cells (ints P).toArray 52)
      simp only [World.alloc, Array.size_push] at this ⊢
      exact this
    exact h.alloc _
  · exact (((((Below.refl _ _).alloc (Nat.le_refl _) _).alloc (by simp) _).alloc (by simp; omega) _).alloc (by simp; omega) _).alloc (by simp; omega) _

set_option maxHeartbeats 1000000 in
theorem named_any (l p : List Int) (w : World) (hl : Tell l) (hp : Tell p) (e : p.length = l.length) :
    Calls Try.prog 85 #[agp l, agp p] w fun e w' => e = .returned (agp (cutL (callL l p) 0)) ∧ Below w.heap.size w w' := by
  have h7 := hl.2.1
  have h3 := hl.1
  obtain ⟨a0, a1, a2, a3, a4, a5, a6, hP⟩ := seven (padR_length l h7)
  obtain ⟨b0, b1, b2, b3, b4, b5, b6, hQ⟩ := seven (padR_length p hp.2.1)
  have HS := fun W => Lib.hid (size_any l W h7 hl.pos)
  have HC := fun W => Lib.hid (cut_any (callL l p) 0 W (by rw [callL_length]; omega) (by rw [callL_length]; exact h7) (callL_pos l p hl hp e) (callL_zero l p hl hp e))
  have hga : ∀ k, k < l.length → ([a0, a1, a2, a3, a4, a5, a6] : List Int).getD k 0 = l.getD k 0 := fun k hk => by rw [← hP]; exact padR_get l k hk
  have hgb : ∀ k, k < p.length → ([b0, b1, b2, b3, b4, b5, b6] : List Int).getD k 0 = p.getD k 0 := fun k hk => by rw [← hQ]; exact padR_get p k hk
  have hz : callK l p 0 = [a0, a1, a2, a3, a4, a5, a6] := by rw [callK_zero, hP]
  have hin : ∀ k, k < l.length → 0 ≤ l.getD k 0 ∧ l.getD k 0 < l.length := fun k hk => hl.2.2.1 _ (getD_mem l k hk)
  have hD : (padR (cutL (callL l p) 0)).length = 7 := padR_length _ (by rw [cutL_length, callL_length]; exact h7)
  unfold agp at HS HC ⊢
  rw [← callK_full l p] at HC
  rw [hP] at HS ⊢
  rw [hQ]
  rw [e] at hgb
  have h7b := hp.2.1
  rw [e] at h7b
  simp only [ints, List.map_cons, List.map_nil] at HS ⊢
  have HSS := Lib.hid HS
  have HCC := Lib.hid HC
  have HGA := Lib.hid hga
  have HGB := Lib.hid hgb
  have HIN := Lib.hid hin
  have HZ := Lib.hid hz
  have HD := Lib.hid hD
  have hdd : List.map (Value.int IntKind.i64) (padR (cutL (callL l p) 0)) = ints (padR (cutL (callL l p) 0)) := rfl
  rw [hdd]
  clear hdd HS HC hga hgb hin hz hP hQ hl hp e hD h7b
  generalize padR (cutL (callL l p) 0) = D at *
  generalize hn : l.length = n at *
  have HN := Lib.hid hn
  clear hn
  go_enter Try.func85, Try.ntmps85
  go_wp2_with (go_at_call 97; refine ((HSS.out _).out).mono ?_; rintro e w' ⟨rfl, rfl⟩)
  obtain ⟨W, hW⟩ : ∃ W, W = ((((w.alloc (.cells #[.int .i64 a0, .int .i64 a1, .int .i64 a2, .int .i64 a3, .int .i64 a4, .int .i64 a5, .int .i64 a6] 52)).alloc (.cells #[.int .i64 b0, .int .i64 b1, .int .i64 b2, .int .i64 b3, .int .i64 b4, .int .i64 b5, .int .i64 b6] 52)).alloc (.cells #[.int .i64 0, .int .i64 0, .int .i64 0, .int .i64 0, .int .i64 0, .int .i64 0, .int .i64 0] 52)).alloc (.cells #[.int .i64 a0, .int .i64 a1, .int .i64 a2, .int .i64 a3, .int .i64 a4, .int .i64 a5, .int .i64 a6] 52)).alloc (.cells #[.int .i64 a0, .int .i64 a1, .int .i64 a2, .int .i64 a3, .int .i64 a4, .int .i64 a5, .int .i64 a6] 52) := ⟨_, rfl⟩
  rw [← hW]
  obtain ⟨k1, k2, k3, k4, k5, k6⟩ := named_world w _ _ _ [a0, a1, a2, a3, a4, a5, a6] [b0, b1, b2, b3, b4, b5, b6] zero7 rfl rfl rfl W hW
  rw [← HZ.out] at k4
  have HA := Lib.hid k1
  have HQ := Lib.hid k2
  have HR := Lib.hid k3
  have HG := Lib.hid k4
  clear k1 k2 k3 k4 hW k6
  generalize hB : w.heap.size = B at *
  have HBB := Lib.hid hB
  clear hB
  go_loopw [10] (fun i wr => ∃ k : Nat, k ≤ n ∧ i = .int .i64 k ∧ Hid (Arr wr (B + 1 + 1 + 1) (callK l p k)) ∧ Hid (Arr wr B [a0, a1, a2, a3, a4, a5, a6]) ∧ Hid (Arr wr (B + 1) [b0, b1, b2, b3, b4, b5, b6]) ∧ Hid (Arr wr (B + 1 + 1) zero7) ∧ Below B w wr) (fun i _ => n - (intOf i).toNat)
  case atStart => exact ⟨0, Nat.zero_le _, rfl, HG, HA, HQ, HR, k5⟩
  case round =>
    obtain ⟨k, hk, rfl, hG, hA, hQ, hR, hbl⟩ := hrel
    clear HG HA HQ HR k5
    by_cases hlt : k < n
    · have hca := hA.out.cell (i := k) (by simp; omega)
      rw [HGA.out _ hlt] at hca
      obtain ⟨hx0, hx1⟩ := HIN.out k hlt
      have hcq := hQ.out.cell (i := (l.getD k 0).toNat) (by show (l.getD k 0).toNat < 7; omega)
      rw [HGB.out _ (by omega)] at hcq
      have hG7 := callK_length l p k (by rw [HN.out]; exact hk) (by rw [HN.out]; exact h7)
      have hcg := hG.out.cell (i := k) (by rw [hG7]; omega)
      have hfg := hG.out.frozen k
      have hst := hG.out.set_ k (p.getD (l.getD k 0).toNat 0)
      have hsp := callK_step l p k (by rw [HN.out]; exact hlt) (by rw [HN.out]; exact h7)
      rw [hsp] at hst
      have HST := Lib.hid hst
      clear hst hG7 hsp
      generalize (callK l p k).getD k 0 = old at hcg
      generalize l.getD k 0 = x at *
      generalize p.getD x.toNat 0 = y at *
      go_wp2
      go_roundw
      case rel => exact ⟨k + 1, by omega, by go_num, HST, Lib.hid (hA.out.far (by simp; omega) _), Lib.hid (hQ.out.far (by simp) _), Lib.hid (hR.out.far (by simp) _), hbl.setCell (by simp; omega) _⟩
      case measure => simp [intOf]; omega
    · obtain rfl : k = n := by omega
      have h7k : Hid ((callK l p k).length = 7) := callK_length l p k (by rw [HN.out]; exact hk) (by rw [HN.out]; exact h7)
      generalize callK l p k = PR at *
      have hlr := hR.out.lt
      go_wp2_with (refine load_ring rfl _ rfl (B + 1 + 1 + 1) PR h7k.out rfl hG ?_)
      refine ((HCC.out _).out).mono ?_
      rintro e w3 ⟨rfl, hb3⟩
      have HR3 := Lib.hid (hR.out.below hb3 hlr)
      have hb4 := Lib.hid (hbl.trans (hb3.mono (by omega)))
      have hs3 := hb3.size
      clear hb3
      go_wp2_with (refine store_ring rfl _ _ rfl (B + 1 + 1) zero7 D rfl HD.out rfl rfl HR3 ?_; intro w6 HB6 hg6 _)
      try simp only [Exit.inBlock, Exit.then]
      exact ret_ring rfl (B + 1 + 1) D HD.out rfl HB6 rfl ⟨rfl, by rw [HBB.out]; exact hb4.out.grown hg6 (by omega) (by simp; omega)⟩
end Go.Proofs.Ytbfdbnminjhocaa

namespace Go.Proofs.Ytbfdbnminjhocaa
open Go.ChangeShapes Go.WideShapes Go.ChangeAt Go.RowKit

/-- A ring and as many numbers, each once. -/
def namedB (l p : List Int) : Bool := ringB l && (tell p && decide (p.length = l.length))
def namedR (l p : List Int) : List Int := if namedB l p then cutL (callL l p) 0 else []
theorem namedB_yes {l p : List Int} (h : namedB l p = true) : Ring l ∧ Tell p ∧ p.length = l.length := by
  simpa [namedB, ringB, tell] using h
theorem namedR_length (l p : List Int) : (namedR l p).length ≤ 7 := by
  unfold namedR
  split
  · rename_i h; rw [cutL_length, callL_length]; exact (namedB_yes h).1.1.2.1
  · simp

set_option maxHeartbeats 1000000 in
theorem nmS_any (A : Option Addr) (n c : Nat) (A' : Option Addr) (n' c' H : Nat) (l p : List Int) (w : World) (h : Rd w H A n l) (h' : Rd w H A' n' p) (hH : H ≤ w.heap.size) (hn : n ≤ 1048576) (hn' : n' ≤ 1048576) :
    Calls Try.prog 42 #[.slice A n c, .slice A' n' c'] w fun e w' => ∃ v, e = .returned (.tuple #[v, .bool (namedB l p)]) ∧ Own w' w.heap.size v (namedR l p) ∧ Below w.heap.size w w' := by
  obtain ⟨i0, hi, hz0, hz1, hz2⟩ := info_parts int_info
  have he := fun W hW => Lib.hid (ringS_any A n c H l W hW hn)
  have HE := Lib.hid he
  have hf := fun W hW => Lib.hid (every_any A' n' c' H p W hW hn')
  have HF := Lib.hid hf
  have HL := Lib.hid h.len
  have HL' := Lib.hid h'.len
  clear he hf
  unfold namedR
  cases hb : namedB l p
  · rw [if_neg (by simp)]
    by_cases hr : Ring l
    · rw [ring_yes hr] at HE
      by_cases ht : Tell p
      · rw [tell_yes ht] at HF
        have hne : ((n' : Int) != (n : Int)) = true := by
          have := hb
          simp only [namedB, ring_yes hr, tell_yes ht, Bool.true_and, decide_eq_false_iff_not, HL.out, HL'.out] at this
          rw [bne_iff_ne]; omega
        clear hb hr ht
        go_enter Try.func42, Try.ntmps42
        go_wp2_with (first
          | (go_at_call 53; refine ((HE.out _ h).out).mono ?_; rintro e w' ⟨rfl, rfl⟩)
          | (go_at_call 86; refine ((HF.out _ h').out).mono ?_; rintro e w' ⟨rfl, rfl⟩))
        refine (none_any w).mono ?_
        rintro e w1 ⟨v, rfl, ho, hb⟩
        have HO := Lib.hid ho
        have HB := Lib.hid hb
        clear ho hb
        go_wp2
        go_ret2
        exact ⟨_, rfl, HO.out, HB.out⟩
      · rw [tell_no ht] at HF
        clear hb hr ht
        go_enter Try.func42, Try.ntmps42
        go_wp2_with (first
          | (go_at_call 53; refine ((HE.out _ h).out).mono ?_; rintro e w' ⟨rfl, rfl⟩)
          | (go_at_call 86; refine ((HF.out _ h').out).mono ?_; rintro e w' ⟨rfl, rfl⟩))
        refine (none_any w).mono ?_
        rintro e w1 ⟨v, rfl, ho, hb⟩
        have HO := Lib.hid ho
        have HB := Lib.hid hb
        clear ho hb
        go_wp2
        go_ret2
        exact ⟨_, rfl, HO.out, HB.out⟩
    · rw [ring_no hr] at HE
      clear hb hr
      go_enter Try.func42, Try.ntmps42
      go_wp2_with (go_at_call 53; refine ((HE.out _ h).out).mono ?_; rintro e w' ⟨rfl, rfl⟩)
      refine (none_any w).mono ?_
      rintro e w1 ⟨v, rfl, ho, hb⟩
      have HO := Lib.hid ho
      have HB := Lib.hid hb
      clear ho hb
      go_wp2
      go_ret2
      exact ⟨_, rfl, HO.out, HB.out⟩
  · rw [if_pos rfl]
    obtain ⟨hr, ht, hne⟩ := namedB_yes hb
    have hnn : n' = n := by rw [← HL.out, ← HL'.out]; exact hne
    subst hnn
    have h3 := hr.1.1
    have h7 := hr.1.2.1
    rw [HL.out] at h3 h7
    rw [ring_yes hr] at HE
    rw [tell_yes ht] at HF
    have hcut := fun A1 c1 H1 W hR hH1 => Lib.hid (cutS_any A1 n' c1 H1 (callL l p) 0 W hR hH1 (by omega) h7 (callL_zero l p hr.1 ht hne))
    have HCUT := Lib.hid hcut
    have hget : Hid (∀ k, k < n' → (callL l p).getD k 0 = p.getD (l.getD k 0).toNat 0) := fun k hk => callL_get l p k (by rw [HL.out]; exact hk)
    have HIN : Hid (∀ k, k < n' → 0 ≤ l.getD k 0 ∧ l.getD k 0 < n') := fun k hk => by
      have := hr.1.2.2.1 _ (getD_mem l k (by rw [HL.out]; exact hk))
      rw [HL.out] at this
      exact this
    have HCL : Hid ((callL l p).length = n') := by rw [Hid, callL_length, HL.out]
    have ho0 := own_empty w _ (Nat.le_refl _)
    have hb0 := (Below.refl w.heap.size w).alloc (Nat.le_refl _) (.cells #[] 3)
    have hr0 := h.alloc hH (.cells #[] 3)
    have hq0 := h'.alloc hH (.cells #[] 3)
    clear hb hr ht hcut hne
    generalize callL l p = C at *
    go_enter Try.func42, Try.ntmps42
    go_wp2_with (first
      | (go_at_call 53; refine ((HE.out _ h).out).mono ?_; rintro e w' ⟨rfl, rfl⟩)
      | (go_at_call 86; refine ((HF.out _ h').out).mono ?_; rintro e w' ⟨rfl, rfl⟩))
    obtain ⟨W0, h0⟩ : ∃ W, W = w.alloc (.cells #[] 3) := ⟨_, rfl⟩
    rw [← h0] at ho0 hb0 hr0 hq0 ⊢
    clear h0 h h' HE HF
    go_loopw [6, 7] (fun v i wr => ∃ k : Nat, k ≤ n' ∧ i = .int .i64 k ∧ Hid (wr.ownsRow w.heap.size 3 1 v k (ints (C.take k))) ∧ Rd wr H A n' l ∧ Rd wr H A' n' p ∧ Below w.heap.size w wr) (fun _ i _ => n' - (intOf i).toNat)
    case atStart => exact ⟨0, Nat.zero_le _, rfl, by simpa [Own, Hid, ints] using ho0, hr0, hq0, hb0⟩
    case round =>
      obtain ⟨k, hk, rfl, hown, hrd, hrp, hbl⟩ := hrel
      clear ho0 hb0 hr0 hq0
      by_cases hlt : k < n'
      · obtain ⟨b, o, rfl, hbH, hcs⟩ := hrd.at_ (by omega)
        obtain ⟨b', o', rfl, hbH', hcs'⟩ := hrp.at_ (by omega)
        have hc := hcs k hlt
        obtain ⟨hx0, hx1⟩ := HIN.out k hlt
        have hc' := hcs' (l.getD k 0).toNat (by omega)
        rw [← hget.out k hlt] at hc'
        have hsn := Lib.hid (take_snoc C k (by rw [HCL.out]; exact hlt))
        clear hcs hcs'
        generalize C.getD k 0 = y at hc' hsn
        generalize l.getD k 0 = x at *
        go_wp2_with (at_builtin; refine wpList_append_own _ rfl _ _ 23 rfl w.heap.size 3 i0 (.int .i64 0) 1 8 Try.underlying23 hi hz0 hz1 hz2 rfl (by decide) _ _ _ rfl (hown.out.alloc _) ⟨wr.heap.size, 0, none⟩ 1 1 [.int .i64 y] rfl rfl (one_cell wr _ _) (by simp [Value.oneCell']) (by unfold maxLen; omega) (by omega) (by have := hbl.size; simp; omega) ?_)
        intro v' w1 hown' hgrow _
        rw [hsn.out] at hown'
        have HO := Lib.hid hown'
        have hb1 := own_below hown.out hbl hbl.size hgrow
        have hr1 := (hrd.alloc (Nat.le_trans hH hbl.size) (.cells #[.int .i64 y] 3)).below ((Below.refl H _).grown hgrow (by have := hbl.size; simp; omega) (fun q hq => Nat.le_trans hH (hown.out.lt q hq).1))
        have hq1 := (hrp.alloc (Nat.le_trans hH hbl.size) (.cells #[.int .i64 y] 3)).below ((Below.refl H _).grown hgrow (by have := hbl.size; simp; omega) (fun q hq => Nat.le_trans hH (hown.out.lt q hq).1))
        clear hown' hgrow
        go_wp2
        go_roundw
        case rel => exact ⟨k + 1, by omega, by go_num, HO, hr1, hq1, hb1⟩
        case measure => simp [intOf]; omega
      · obtain rfl : k = n' := by omega
        have hfull : Own wr w.heap.size u6 C := by
          have := hown.out
          rw [List.take_of_length_le (by rw [HCL.out]; omega)] at this
          unfold Own
          rw [HCL.out]
          exact this
        obtain ⟨A1, c1, rfl⟩ := hfull.slice
        have hrC := hfull.rd.2
        rw [HCL.out] at hrC
        have hln := Lib.hid HCL.out
        clear hown hfull
        rw [HCL.out]
        go_wp2_with fail
        refine ((HCUT.out A1 c1 _ _ hrC (Nat.le_refl _)).out).mono ?_
        rintro e w2 ⟨v2, rfl, ho2, hb2⟩
        have HO := Lib.hid (own_less ho2 hbl.size)
        have HB := Lib.hid (hbl.trans (hb2.mono hbl.size))
        clear ho2 hb2
        go_wp2
        go_ret2
        exact ⟨_, rfl, HO.out, HB.out⟩

set_option maxHeartbeats 2000000 in
theorem nmI_any (A : Option Addr) (n c : Nat) (A' : Option Addr) (n' c' H : Nat) (l p : List Int) (w : World) (h : Rd w H A n l) (h' : Rd w H A' n' p) (hH : H ≤ w.heap.size) (hn : n ≤ 1048576) (hn' : n' ≤ 1048576)
    (hnc : n ≤ c) (hcm : c ≤ 9223372036854775807) (hnc' : n' ≤ c') (hcm' : c' ≤ 9223372036854775807) :
    Calls Try.prog 41 #[.slice A n c, .slice A' n' c'] w fun e w' => ∃ v, e = .returned (.tuple #[v, .bool (namedB l p)]) ∧ Own w' w.heap.size v (namedR l p) ∧ Below w.heap.size w w' := by
  have hread := Lib.hid (readR_any A n c H l w h hH hn hnc hcm)
  have ht := fun W H1 hR hH1 => Lib.hid (readT_any A' n' c' H1 p W hR hH1 hn' hnc' hcm')
  have HT := Lib.hid ht
  have H7 := Lib.hid (ringP_length l)
  have HQ7 := Lib.hid (readP_length p)
  have HL := Lib.hid h.len
  have HL' := Lib.hid h'.len
  clear ht
  unfold namedR
  cases hb : namedB l p
  · rw [if_neg (by simp)]
    by_cases hr : Ring l
    · rw [ring_yes hr] at hread
      by_cases ht : Tell p
      · rw [tell_yes ht] at HT
        have hne : ((n : Int) != (n' : Int)) = true := by
          have := hb
          simp only [namedB, ring_yes hr, tell_yes ht, Bool.true_and, decide_eq_false_iff_not, HL.out, HL'.out] at this
          rw [bne_iff_ne]; omega
        clear hb hr ht
        generalize ringP l = P at *
        generalize readP p = Q at *
        go_enter Try.func41, Try.ntmps41
        go_wp2_with fail
        refine hread.out.mono ?_
        rintro e W1 ⟨rfl, hb1⟩
        have HA := Lib.hid (new_ring W1)
        go_wp2_with (refine store_ring rfl _ _ rfl W1.heap.size zero7 P rfl H7.out rfl rfl HA ?_; intro w2 HA2 hg2 hs2)
        have hb2 := Lib.hid ((hb1.alloc hb1.size (.cells #[.int .i64 0, .int .i64 0, .int .i64 0, .int .i64 0, .int .i64 0, .int .i64 0, .int .i64 0] 52)).grown hg2 (by have := hb1.size; simp; omega) (by have := hb1.size; simp; omega))
        have hl2 := HA2.out.lt
        have hp2 := Lib.hid (h'.below (hb2.out.mono hH))
        have hs22 := hb2.out.size
        clear hg2 hs2 hb1
        refine ((HT.out _ _ hp2.out (by omega)).out).mono ?_
        rintro e W3 ⟨rfl, hb3⟩
        have HA3 := Lib.hid (HA2.out.below hb3 hl2)
        have hb4 := Lib.hid (hb2.out.trans (hb3.mono hs22))
        have hl3 := HA3.out.lt
        have hs3 := hb3.size
        clear hb3
        have HC := Lib.hid (new_ring W3)
        have HA4 := Lib.hid (HA3.out.alloc (.cells #[.int .i64 0, .int .i64 0, .int .i64 0, .int .i64 0, .int .i64 0, .int .i64 0, .int .i64 0] 52))
        have hb5 := Lib.hid (hb4.out.alloc hb4.out.size (.cells #[.int .i64 0, .int .i64 0, .int .i64 0, .int .i64 0, .int .i64 0, .int .i64 0, .int .i64 0] 52))
        go_wp2_with (first
          | (refine store_ring rfl _ _ rfl W3.heap.size zero7 Q rfl HQ7.out rfl rfl HC ?_; intro w4 HC4 hg4 hs4; have HA5 := Lib.hid (HA4.out.grown hg4 (by omega)); have hb6 := Lib.hid (hb5.out.grown hg4 (by simp; omega) (by simp; omega)); clear hs4 hg4)
          | (refine load_ring rfl _ rfl W1.heap.size P H7.out rfl HA5 ?_)
          | (refine load_ring rfl _ rfl W3.heap.size Q HQ7.out rfl HC4 ?_))
        go_ret2
        exact ⟨_, rfl, World.ownsRow_nil _ _ _ _, hb6.out⟩
      · rw [tell_no ht] at HT
        clear hb hr ht
        generalize ringP l = P at *
        generalize readP p = Q at *
        go_enter Try.func41, Try.ntmps41
        go_wp2_with fail
        refine hread.out.mono ?_
        rintro e W1 ⟨rfl, hb1⟩
        have HA := Lib.hid (new_ring W1)
        go_wp2_with (refine store_ring rfl _ _ rfl W1.heap.size zero7 P rfl H7.out rfl rfl HA ?_; intro w2 HA2 hg2 hs2)
        have hb2 := Lib.hid ((hb1.alloc hb1.size (.cells #[.int .i64 0, .int .i64 0, .int .i64 0, .int .i64 0, .int .i64 0, .int .i64 0, .int .i64 0] 52)).grown hg2 (by have := hb1.size; simp; omega) (by have := hb1.size; simp; omega))
        have hl2 := HA2.out.lt
        have hp2 := Lib.hid (h'.below (hb2.out.mono hH))
        have hs22 := hb2.out.size
        clear hg2 hs2 hb1
        refine ((HT.out _ _ hp2.out (by omega)).out).mono ?_
        rintro e W3 ⟨rfl, hb3⟩
        have HA3 := Lib.hid (HA2.out.below hb3 hl2)
        have hb4 := Lib.hid (hb2.out.trans (hb3.mono hs22))
        have hl3 := HA3.out.lt
        have hs3 := hb3.size
        clear hb3
        have HC := Lib.hid (new_ring W3)
        have HA4 := Lib.hid (HA3.out.alloc (.cells #[.int .i64 0, .int .i64 0, .int .i64 0, .int .i64 0, .int .i64 0, .int .i64 0, .int .i64 0] 52))
        have hb5 := Lib.hid (hb4.out.alloc hb4.out.size (.cells #[.int .i64 0, .int .i64 0, .int .i64 0, .int .i64 0, .int .i64 0, .int .i64 0, .int .i64 0] 52))
        go_wp2_with (first
          | (refine store_ring rfl _ _ rfl W3.heap.size zero7 Q rfl HQ7.out rfl rfl HC ?_; intro w4 HC4 hg4 hs4; have HA5 := Lib.hid (HA4.out.grown hg4 (by omega)); have hb6 := Lib.hid (hb5.out.grown hg4 (by simp; omega) (by simp; omega)); clear hs4 hg4)
          | (refine load_ring rfl _ rfl W1.heap.size P H7.out rfl HA5 ?_)
          | (refine load_ring rfl _ rfl W3.heap.size Q HQ7.out rfl HC4 ?_))
        go_ret2
        exact ⟨_, rfl, World.ownsRow_nil _ _ _ _, hb6.out⟩
    · rw [ring_no hr] at hread
      clear hb hr
      generalize ringP l = P at *
      generalize readP p = Q at *
      generalize tell p = tp at *
      go_enter Try.func41, Try.ntmps41
      go_wp2_with fail
      refine hread.out.mono ?_
      rintro e W1 ⟨rfl, hb1⟩
      have HA := Lib.hid (new_ring W1)
      go_wp2_with (refine store_ring rfl _ _ rfl W1.heap.size zero7 P rfl H7.out rfl rfl HA ?_; intro w2 HA2 hg2 hs2)
      have hb2 := Lib.hid ((hb1.alloc hb1.size (.cells #[.int .i64 0, .int .i64 0, .int .i64 0, .int .i64 0, .int .i64 0, .int .i64 0, .int .i64 0] 52)).grown hg2 (by have := hb1.size; simp; omega) (by have := hb1.size; simp; omega))
      have hl2 := HA2.out.lt
      have hp2 := Lib.hid (h'.below (hb2.out.mono hH))
      have hs22 := hb2.out.size
      clear hg2 hs2 hb1
      refine ((HT.out _ _ hp2.out (by omega)).out).mono ?_
      rintro e W3 ⟨rfl, hb3⟩
      have HA3 := Lib.hid (HA2.out.below hb3 hl2)
      have hb4 := Lib.hid (hb2.out.trans (hb3.mono hs22))
      have hl3 := HA3.out.lt
      have hs3 := hb3.size
      clear hb3
      have HC := Lib.hid (new_ring W3)
      have HA4 := Lib.hid (HA3.out.alloc (.cells #[.int .i64 0, .int .i64 0, .int .i64 0, .int .i64 0, .int .i64 0, .int .i64 0, .int .i64 0] 52))
      have hb5 := Lib.hid (hb4.out.alloc hb4.out.size (.cells #[.int .i64 0, .int .i64 0, .int .i64 0, .int .i64 0, .int .i64 0, .int .i64 0, .int .i64 0] 52))
      go_wp2_with (first
        | (refine store_ring rfl _ _ rfl W3.heap.size zero7 Q rfl HQ7.out rfl rfl HC ?_; intro w4 HC4 hg4 hs4; have HA5 := Lib.hid (HA4.out.grown hg4 (by omega)); have hb6 := Lib.hid (hb5.out.grown hg4 (by simp; omega) (by simp; omega)); clear hs4 hg4)
        | (refine load_ring rfl _ rfl W1.heap.size P H7.out rfl HA5 ?_)
        | (refine load_ring rfl _ rfl W3.heap.size Q HQ7.out rfl HC4 ?_))
      go_ret2
      exact ⟨_, rfl, World.ownsRow_nil _ _ _ _, hb6.out⟩
  · rw [if_pos rfl]
    obtain ⟨hr, ht, hne⟩ := namedB_yes hb
    have hnn : n' = n := by rw [← HL.out, ← HL'.out]; exact hne
    subst hnn
    have hP : Hid (ringP l = padR l) := by rw [Hid, ringP, if_pos hr]
    have hQ : Hid (readP p = padR p) := by rw [Hid, readP, if_pos ht]
    have hcut := fun W => Lib.hid (named_any l p W hr.1 ht hne)
    have hlen : (cutL (callL l p) 0).length = l.length := by rw [cutL_length, callL_length]
    have hlist := fun W => Lib.hid (list_any (cutL (callL l p) 0) W (by rw [hlen]; have := hr.1.1; omega) (by rw [hlen]; exact hr.1.2.1) (fun x hx => by
      obtain ⟨i, _, rfl⟩ := List.mem_map.1 hx
      exact callL_pos l p hr.1 ht hne _ (getD_mem _ _ (Nat.mod_lt _ (by rw [callL_length]; have := hr.1.1; omega)))))
    have HCC := Lib.hid hcut
    have HLI := Lib.hid hlist
    rw [ring_yes hr] at hread
    rw [tell_yes ht] at HT
    rw [hP.out] at hread H7
    rw [hQ.out] at HT HQ7
    clear hb hr ht hcut hlist hlen hne hP hQ
    unfold agp at HCC HLI
    generalize padR l = P at *
    generalize padR p = Q at *
    generalize cutL (callL l p) 0 = C at *
    generalize padR C = D at *
    go_enter Try.func41, Try.ntmps41
    go_wp2_with fail
    refine hread.out.mono ?_
    rintro e W1 ⟨rfl, hb1⟩
    have HA := Lib.hid (new_ring W1)
    go_wp2_with (refine store_ring rfl _ _ rfl W1.heap.size zero7 P rfl H7.out rfl rfl HA ?_; intro w2 HA2 hg2 hs2)
    have hb2 := Lib.hid ((hb1.alloc hb1.size (.cells #[.int .i64 0, .int .i64 0, .int .i64 0, .int .i64 0, .int .i64 0, .int .i64 0, .int .i64 0] 52)).grown hg2 (by have := hb1.size; simp; omega) (by have := hb1.size; simp; omega))
    have hl2 := HA2.out.lt
    have hp2 := Lib.hid (h'.below (hb2.out.mono hH))
    have hs22 := hb2.out.size
    clear hg2 hs2 hb1
    refine ((HT.out _ _ hp2.out (by omega)).out).mono ?_
    rintro e W3 ⟨rfl, hb3⟩
    have HA3 := Lib.hid (HA2.out.below hb3 hl2)
    have hb4 := Lib.hid (hb2.out.trans (hb3.mono hs22))
    have hl3 := HA3.out.lt
    have hs3 := hb3.size
    clear hb3
    have HC := Lib.hid (new_ring W3)
    have HA4 := Lib.hid (HA3.out.alloc (.cells #[.int .i64 0, .int .i64 0, .int .i64 0, .int .i64 0, .int .i64 0, .int .i64 0, .int .i64 0] 52))
    have hb5 := Lib.hid (hb4.out.alloc hb4.out.size (.cells #[.int .i64 0, .int .i64 0, .int .i64 0, .int .i64 0, .int .i64 0, .int .i64 0, .int .i64 0] 52))
    go_wp2_with (first
      | (refine store_ring rfl _ _ rfl W3.heap.size zero7 Q rfl HQ7.out rfl rfl HC ?_; intro w4 HC4 hg4 hs4; have HA5 := Lib.hid (HA4.out.grown hg4 (by omega)); have hb6 := Lib.hid (hb5.out.grown hg4 (by simp; omega) (by simp; omega)); clear hs4 hg4)
      | (refine load_ring rfl _ rfl W1.heap.size P H7.out rfl HA5 ?_)
      | (refine load_ring rfl _ rfl W3.heap.size Q HQ7.out rfl HC4 ?_))
    refine ((HCC.out _).out).mono ?_
    rintro e w5 ⟨rfl, hb7⟩
    have hb8 := Lib.hid (hb6.out.trans (hb7.mono hb6.out.size))
    clear hb7
    go_wp2_with fail
    refine ((HLI.out _).out).mono ?_
    rintro e w6 ⟨v, rfl, ho, hb9⟩
    have HO := Lib.hid (own_less ho hb8.out.size)
    have hb10 := Lib.hid (hb8.out.trans (hb9.mono hb8.out.size))
    clear ho hb9
    go_wp2
    go_ret2
    exact ⟨_, rfl, HO.out, hb10.out⟩
end Go.Proofs.Ytbfdbnminjhocaa

namespace Go.Proofs.Ytbfdbnminjhocaa
open Go.ChangeShapes Go.WideShapes Go.ChangeAt Go.RowKit

theorem own_keep {w w' : World} {B D : Nat} {v : Value} {l : List Int} (h : Own w B v l) (hb : Below D w w') (hD : ∀ k, v.ownBlock = some k → k < D) : Own w' B v l := by
  refine ⟨h.1, ?_⟩
  rcases h.2 with e | ⟨g, cap, cur, hv, hg, hh, r⟩
  · exact .inl e
  · exact .inr ⟨g, cap, cur, hv, hg, by rw [hb.block g (hD g (by rw [hv]; rfl))]; exact hh, r⟩
theorem own_head {w : World} {B : Nat} {v : Value} {l : List Int} (h : Own w B v l) (hl : 0 < l.length) :
    ∃ g cap, v = .slice (some ⟨g, 0, none⟩) l.length cap ∧ l.length ≤ cap ∧ ∀ k, k < l.length → w.cell? ⟨g, k, none⟩ = some (.int .i64 (l.getD k 0)) := by
  rcases h.2 with ⟨_, h0⟩ | ⟨g, cap, cur, rfl, hg, hh, hnc, hcm, hcs, ht⟩
  · omega
  · refine ⟨g, cap, rfl, hnc, fun k hk => ?_⟩
    rw [h.cellAt k (by omega), ints_get _ _ hk]
theorem ownG_less {w : World} {B B' : Nat} {v : Value} {l : List Int} (h : OwnG w B v l) (hB : B' ≤ B) : OwnG w B' v l := by
  rcases h with h | ⟨g, o, c, cur, hv, hg, r⟩
  · exact .inl h
  · exact .inr ⟨g, o, c, cur, hv, Nat.le_trans hB hg, r⟩

/-- Where the points between x and y end on the list that begins with x. -/
def endN (l : List Int) (x y : Int) : Nat := if x = y then l.length else (stepsI l x y).toNat
def fromL (l : List Int) (x y : Int) : List Int := ((cutL l x).take (endN l x y)).drop 1
def fromR (l : List Int) (x y : Int) : List Int := if hasB2 l x y then fromL l x y else []

theorem steps_zero (l : List Int) (x y : Int) (ht : Tell l) (hx : x ∈ l) (hy : y ∈ l) : (stepsI l x y = 0 ↔ x = y) ∧ 0 ≤ stepsI l x y ∧ stepsI l x y < l.length := by
  have hix := List.idxOf_lt_length_of_mem hx
  have hiy := List.idxOf_lt_length_of_mem hy
  have h3 := ht.1
  unfold stepsI
  refine ⟨⟨fun h => ?_, fun h => by subst h; simp⟩, Int.emod_nonneg _ (by omega), Int.emod_lt_of_pos _ (by omega)⟩
  have hd := Int.dvd_of_emod_eq_zero h
  obtain ⟨k, hk⟩ := hd
  have hk0 : k = 0 := by
    rcases Int.lt_trichotomy k 0 with hlt | h0 | hgt
    · exfalso
      have : (l.length : Int) * k ≤ (l.length : Int) * (-1) := Int.mul_le_mul_of_nonneg_left (by omega) (by omega)
      omega
    · exact h0
    · exfalso
      have : (l.length : Int) * 1 ≤ (l.length : Int) * k := Int.mul_le_mul_of_nonneg_left (by omega) (by omega)
      omega
  rw [hk0] at hk
  have e : l.idxOf x = l.idxOf y := by omega
  rw [← at_idx l x hx, e, at_idx l y hy]

theorem endN_of (l : List Int) (x y : Int) (ht : Tell l) (hx : x ∈ l) (hy : y ∈ l) :
    1 ≤ endN l x y ∧ endN l x y ≤ l.length ∧ (if stepsI l x y = 0 then (endN l x y : Int) = l.length else (endN l x y : Int) = stepsI l x y) := by
  obtain ⟨h1, h2, h3⟩ := steps_zero l x y ht hx hy
  have h4 := ht.1
  unfold endN
  by_cases e : x = y
  · rw [if_pos e, if_pos (h1.2 e)]
    omega
  · have hne : ¬ stepsI l x y = 0 := fun h => e (h1.1 h)
    rw [if_neg e, if_neg hne]
    omega
theorem fromL_length (l : List Int) (x y : Int) (h : endN l x y ≤ (cutL l x).length) : (fromL l x y).length = endN l x y - 1 := by
  unfold fromL
  rw [List.length_drop, List.length_take]
  omega
theorem fromL_get (l : List Int) (x y : Int) (j : Nat) (hj : j < endN l x y - 1) (_ : endN l x y ≤ (cutL l x).length) : (fromL l x y).getD j 0 = (cutL l x).getD (1 + j) 0 := by
  unfold fromL
  simp only [List.getD, List.getElem?_drop, List.getElem?_take]
  rw [if_pos (by omega)]
theorem fromR_length (l : List Int) (x y : Int) : (fromR l x y).length ≤ 7 := by
  unfold fromR
  split
  · rename_i h
    simp only [hasB2, Bool.and_eq_true] at h
    have h3 := hasB_yes h.1
    have := h3.1.1.2.1
    unfold fromL
    rw [List.length_drop, List.length_take, cutL_length]
    omega
  · simp

set_option maxHeartbeats 1000000 in
theorem between_any (l : List Int) (x y : Int) (w : World) (ht : Tell l) (hx : x ∈ l) (hy : y ∈ l) :
    Calls Try.prog 57 #[agp l, .int .i64 x, .int .i64 y] w fun e w' => ∃ v, e = .returned v ∧ OwnG w' w.heap.size v (fromL l x y) ∧ Below w.heap.size w w' := by
  have hl7 := ht.2.1
  have hl3 := ht.1
  obtain ⟨a0, a1, a2, a3, a4, a5, a6, hP⟩ := seven (padR_length l hl7)
  have HS := fun W => Lib.hid (size_any l W hl7 ht.pos)
  have HT := fun W => Lib.hid (steps_any l x y W (by omega) hl7 ht.pos hx hy)
  have HC := fun W => Lib.hid (cut_any l x W (by omega) hl7 ht.pos hx)
  have HLI := fun W => Lib.hid (list_any (cutL l x) W (by rw [cutL_length]; omega) (by rw [cutL_length]; exact hl7) (cutL_pos l x ht))
  obtain ⟨e1, e2, e3⟩ := endN_of l x y ht hx hy
  have hz := (steps_zero l x y ht hx hy).1
  have hCL : Hid ((cutL l x).length = l.length) := cutL_length l x
  have hFL : Hid (∀ j, j < endN l x y - 1 → (fromL l x y).getD j 0 = (cutL l x).getD (1 + j) 0) := fun j hj => fromL_get l x y j hj (by rw [cutL_length]; exact e2)
  have hFN : Hid ((fromL l x y).length = endN l x y - 1) := fromL_length l x y (by rw [cutL_length]; exact e2)
  unfold agp at HS HT HC HLI ⊢
  rw [hP] at HS HT HC ⊢
  have HSS := Lib.hid HS
  have HTT := Lib.hid HT
  have HCC := Lib.hid HC
  have HLL := Lib.hid HLI
  have HE3 := Lib.hid e3
  have HZ := Lib.hid hz
  clear HS HT HC HLI hP hx hy ht e3 hz
  generalize l.length = n at *
  generalize stepsI l x y = st at *
  generalize fromL l x y = R at *
  generalize endN l x y = q at *
  generalize cutL l x = C at *
  generalize padR C = Q at *
  show Calls Try.prog 57 #[ag a0 a1 a2 a3 a4 a5 a6, .int .i64 x, .int .i64 y] w _
  have k0 : Arr (w.alloc (.cells #[.int .i64 a0, .int .i64 a1, .int .i64 a2, .int .i64 a3, .int .i64 a4, .int .i64 a5, .int .i64 a6] 52)) w.heap.size [a0, a1, a2, a3, a4, a5, a6] := heap_alloc_new w _
  have HA0 := Lib.hid k0
  have HB0 := Lib.hid ((Below.refl w.heap.size w).alloc (Nat.le_refl _) (.cells #[.int .i64 a0, .int .i64 a1, .int .i64 a2, .int .i64 a3, .int .i64 a4, .int .i64 a5, .int .i64 a6] 52))
  clear k0
  by_cases hxy : x = y
  · have hst := HZ.out.2 hxy
    obtain rfl : q = n := by have := HE3.out; rw [if_pos hst] at this; omega
    subst hst
    have hb : (x == y) = true := by simp [hxy]
    clear hxy HZ HE3
    go_enter Try.func57, Try.ntmps57
    go_wp2_with (refine load_ring rfl _ rfl w.heap.size [a0, a1, a2, a3, a4, a5, a6] rfl rfl HA0 ?_)
    refine ((HTT.out _).out).mono ?_
    rintro e W1 ⟨rfl, hb1⟩
    have HA1 := Lib.hid (HA0.out.below hb1 (by simp))
    have HB1 := Lib.hid (HB0.out.trans (hb1.mono (by simp)))
    have hs1 := hb1.size
    clear hb1 HA0 HB0
    go_wp2_with (refine load_ring rfl _ rfl w.heap.size [a0, a1, a2, a3, a4, a5, a6] rfl rfl HA1 ?_)
    refine ((HSS.out _).out).mono ?_
    rintro e W2 ⟨rfl, hW2⟩
    have HA2 : Hid (Arr W2 w.heap.size [a0, a1, a2, a3, a4, a5, a6]) := by rw [Hid, hW2]; exact HA1.out.alloc _
    have HB2 : Hid (Below w.heap.size w W2) := by rw [Hid, hW2]; exact HB1.out.alloc (by simp at hs1; omega) _
    have hs2 : w.heap.size < W2.heap.size := HA2.out.lt
    clear hW2 HA1 HB1 hs1
    go_wp2_with (refine load_ring rfl _ rfl w.heap.size [a0, a1, a2, a3, a4, a5, a6] rfl rfl HA2 ?_)
    refine ((HCC.out _).out).mono ?_
    rintro e W3 ⟨rfl, hb3⟩
    have HB3 := Lib.hid (HB2.out.trans (hb3.mono (by omega)))
    have hs3 := hb3.size
    clear hb3 HB2 HA2
    go_wp2_with fail
    refine ((HLL.out _).out).mono ?_
    rintro e W4 ⟨v, rfl, ho, hb4⟩
    have HB4 := Lib.hid (HB3.out.trans (hb4.mono (by omega)))
    clear HB3 hb4
    rcases ho.2 with ⟨_, h0⟩ | ⟨g, cap, cur, rfl, hg, hh, hnc, _, _, htk⟩
    · exfalso
      have := hCL.out
      omega
    · have HG : Hid (OwnG W4 w.heap.size (.slice (some ⟨g, 1, none⟩) (q - 1) (cap - 1)) R) := by
        refine .inr ⟨g, 1, cap - 1, cur, by rw [hFN.out], by omega, hh, fun j hj => ?_⟩
        rw [hFN.out] at hj
        have h1 : (cur.toList.take (C.length * 1))[1 + j]? = (ints C)[1 + j]? := by rw [htk]
        rw [List.getElem?_take, if_pos (by have := hCL.out; omega), ints_get C (1 + j) (by have := hCL.out; omega)] at h1
        rw [hFL.out j hj]
        simpa using h1
      rw [hCL.out] at hnc ⊢
      have hcap : ¬ cap = 1 := by omega
      clear ho hg hh htk
      go_wp2
      go_ret
      exact ⟨_, rfl, HG.out, HB4.out⟩
  · have hst : ¬ st = 0 := fun h => hxy (HZ.out.1 h)
    have hq : st = (q : Int) := by have := HE3.out; rw [if_neg hst] at this; omega
    subst hq
    have hb : (x == y) = false := by simp [hxy]
    clear hxy HZ HE3 hst
    go_enter Try.func57, Try.ntmps57
    go_wp2_with (refine load_ring rfl _ rfl w.heap.size [a0, a1, a2, a3, a4, a5, a6] rfl rfl HA0 ?_)
    refine ((HTT.out _).out).mono ?_
    rintro e W2 ⟨rfl, hb1⟩
    have HA2 := Lib.hid (HA0.out.below hb1 (by simp))
    have HB2 := Lib.hid (HB0.out.trans (hb1.mono (by simp)))
    have hs2 : w.heap.size < W2.heap.size := HA2.out.lt
    clear hb1 HA0 HB0
    go_wp2_with (refine load_ring rfl _ rfl w.heap.size [a0, a1, a2, a3, a4, a5, a6] rfl rfl HA2 ?_)
    refine ((HCC.out _).out).mono ?_
    rintro e W3 ⟨rfl, hb3⟩
    have HB3 := Lib.hid (HB2.out.trans (hb3.mono (by omega)))
    have hs3 := hb3.size
    clear hb3 HB2 HA2
    go_wp2_with fail
    refine ((HLL.out _).out).mono ?_
    rintro e W4 ⟨v, rfl, ho, hb4⟩
    have HB4 := Lib.hid (HB3.out.trans (hb4.mono (by omega)))
    clear HB3 hb4
    rcases ho.2 with ⟨_, h0⟩ | ⟨g, cap, cur, rfl, hg, hh, hnc, _, _, htk⟩
    · exfalso
      have := hCL.out
      omega
    · have HG : Hid (OwnG W4 w.heap.size (.slice (some ⟨g, 1, none⟩) (q - 1) (cap - 1)) R) := by
        refine .inr ⟨g, 1, cap - 1, cur, by rw [hFN.out], by omega, hh, fun j hj => ?_⟩
        rw [hFN.out] at hj
        have h1 : (cur.toList.take (C.length * 1))[1 + j]? = (ints C)[1 + j]? := by rw [htk]
        rw [List.getElem?_take, if_pos (by have := hCL.out; omega), ints_get C (1 + j) (by have := hCL.out; omega)] at h1
        rw [hFL.out j hj]
        simpa using h1
      rw [hCL.out] at hnc ⊢
      have hcap : ¬ cap = 1 := by omega
      clear ho hg hh htk
      go_wp2
      go_ret
      exact ⟨_, rfl, HG.out, HB4.out⟩

set_option maxHeartbeats 2000000 in
theorem frI_any (A : Option Addr) (n c H : Nat) (l : List Int) (x y : Int) (w : World) (h : Rd w H A n l) (hH : H ≤ w.heap.size) (hn : n ≤ 1048576) (hnc : n ≤ c) (hcm : c ≤ 9223372036854775807) :
    Calls Try.prog 15 #[.slice A n c, .int .i64 x, .int .i64 y] w fun e w' => ∃ v, e = .returned (.tuple #[v, .bool (hasB2 l x y)]) ∧ OwnG w' w.heap.size v (fromR l x y) ∧ Below w.heap.size w w' := by
  have hread := Lib.hid (readR_any A n c H l w h hH hn hnc hcm)
  by_cases hr : Ring l
  · have hl7 := hr.1.2.1
    obtain ⟨a0, a1, a2, a3, a4, a5, a6, hP⟩ := seven (padR_length l hl7)
    have hrp : ringP l = [a0, a1, a2, a3, a4, a5, a6] := by rw [ringP, if_pos hr, hP]
    have hhx := fun W => Lib.hid (has_any l x W hl7 hr.1.pos)
    have hhy := fun W => Lib.hid (has_any l y W hl7 hr.1.pos)
    have hix : hasB l x = decide (0 ≤ x ∧ x < l.length) := by rw [hasB, ring_yes hr, Bool.true_and]
    have hiy : hasB l y = decide (0 ≤ y ∧ y < l.length) := by rw [hasB, ring_yes hr, Bool.true_and]
    rw [← hix] at hhx
    rw [← hiy] at hhy
    unfold agp at hhx hhy
    rw [hP] at hhx hhy
    rw [hrp, ring_yes hr] at hread
    simp only [ints, List.map_cons, List.map_nil] at hhx hhy hread
    have HX := Lib.hid hhx
    have HY := Lib.hid hhy
    clear hhx hhy hix hiy hrp
    unfold fromR hasB2
    cases htx : hasB l x
    · rw [htx] at HX
      rw [Bool.false_and, if_neg (by simp)]
      clear htx hr hP hl7 HY
      go_enter Try.func15, Try.ntmps15
      go_wp2_with fail
      refine hread.out.mono ?_
      rintro e W1 ⟨rfl, hb1⟩
      have HA := Lib.hid (new_ring W1)
      go_wp2_with (refine store_ring rfl _ _ rfl W1.heap.size zero7 [a0, a1, a2, a3, a4, a5, a6] rfl rfl rfl rfl HA ?_; intro w2 HA2 hg2 hs2; obtain ⟨c0, c1, c2, c3, c4, c5, c6⟩ := cells7 HA2.out; clear hs2)
      have hb2 := Lib.hid ((hb1.alloc hb1.size (.cells #[.int .i64 0, .int .i64 0, .int .i64 0, .int .i64 0, .int .i64 0, .int .i64 0, .int .i64 0] 52)).grown hg2 (by have := hb1.size; simp; omega) (by have := hb1.size; simp; omega))
      clear hg2 hb1
      refine ((HX.out _).out).mono ?_
      rintro e w3 ⟨rfl, hb3⟩
      have hb4 := Lib.hid (hb2.out.trans (hb3.mono hb2.out.size))
      clear hb3 c0 c1 c2 c3 c4 c5 c6
      go_wp2
      go_ret2
      exact ⟨_, rfl, .inl ⟨rfl, rfl⟩, hb4.out⟩
    · rw [htx] at HX
      cases hty : hasB l y
      · rw [hty] at HY
        rw [Bool.and_false, if_neg (by simp)]
        clear htx hty hr hP hl7
        go_enter Try.func15, Try.ntmps15
        go_wp2_with fail
        refine hread.out.mono ?_
        rintro e W1 ⟨rfl, hb1⟩
        have HA := Lib.hid (new_ring W1)
        go_wp2_with (refine store_ring rfl _ _ rfl W1.heap.size zero7 [a0, a1, a2, a3, a4, a5, a6] rfl rfl rfl rfl HA ?_; intro w2 HA2 hg2 hs2; obtain ⟨c0, c1, c2, c3, c4, c5, c6⟩ := cells7 HA2.out; clear hs2)
        have hb2 := Lib.hid ((hb1.alloc hb1.size (.cells #[.int .i64 0, .int .i64 0, .int .i64 0, .int .i64 0, .int .i64 0, .int .i64 0, .int .i64 0] 52)).grown hg2 (by have := hb1.size; simp; omega) (by have := hb1.size; simp; omega))
        clear hg2 hb1
        refine ((HX.out _).out).mono ?_
        rintro e w3 ⟨rfl, hb3⟩
        have hb4 := Lib.hid (hb2.out.trans (hb3.mono hb2.out.size))
        have HA3 := Lib.hid (HA2.out.below hb3 HA2.out.lt)
        obtain ⟨d0, d1, d2, d3, d4, d5, d6⟩ := cells7 HA3.out
        clear hb3 c0 c1 c2 c3 c4 c5 c6
        go_wp2_with fail
        refine ((HY.out _).out).mono ?_
        rintro e w4 ⟨rfl, hb5⟩
        have hb6 := Lib.hid (hb4.out.trans (hb5.mono hb4.out.size))
        clear hb5 d0 d1 d2 d3 d4 d5 d6
        go_wp2
        go_ret2
        exact ⟨_, rfl, .inl ⟨rfl, rfl⟩, hb6.out⟩
      · rw [hty] at HY
        have hcut := fun W => Lib.hid (between_any l x y W hr.1 (hasB_yes htx).2.2.2 (hasB_yes hty).2.2.2)
        rw [Bool.and_true, if_pos rfl]
        unfold agp at hcut
        rw [hP] at hcut
        have HC := Lib.hid hcut
        clear htx hty hr hP hl7 hcut
        generalize fromL l x y = r at *
        go_enter Try.func15, Try.ntmps15
        go_wp2_with fail
        refine hread.out.mono ?_
        rintro e W1 ⟨rfl, hb1⟩
        have HA := Lib.hid (new_ring W1)
        go_wp2_with (refine store_ring rfl _ _ rfl W1.heap.size zero7 [a0, a1, a2, a3, a4, a5, a6] rfl rfl rfl rfl HA ?_; intro w2 HA2 hg2 hs2; obtain ⟨c0, c1, c2, c3, c4, c5, c6⟩ := cells7 HA2.out; clear hs2)
        have hb2 := Lib.hid ((hb1.alloc hb1.size (.cells #[.int .i64 0, .int .i64 0, .int .i64 0, .int .i64 0, .int .i64 0, .int .i64 0, .int .i64 0] 52)).grown hg2 (by have := hb1.size; simp; omega) (by have := hb1.size; simp; omega))
        clear hg2 hb1
        refine ((HX.out _).out).mono ?_
        rintro e w3 ⟨rfl, hb3⟩
        have hb4 := Lib.hid (hb2.out.trans (hb3.mono hb2.out.size))
        have HA3 := Lib.hid (HA2.out.below hb3 HA2.out.lt)
        obtain ⟨d0, d1, d2, d3, d4, d5, d6⟩ := cells7 HA3.out
        clear hb3 c0 c1 c2 c3 c4 c5 c6
        go_wp2_with fail
        refine ((HY.out _).out).mono ?_
        rintro e w4 ⟨rfl, hb5⟩
        have hb6 := Lib.hid (hb4.out.trans (hb5.mono hb4.out.size))
        have HA4 := Lib.hid (HA3.out.below hb5 HA3.out.lt)
        clear hb5 d0 d1 d2 d3 d4 d5 d6
        go_wp2_with (refine load_ring rfl _ rfl W1.heap.size [a0, a1, a2, a3, a4, a5, a6] rfl rfl HA4 ?_)
        refine ((HC.out _).out).mono ?_
        rintro e w5 ⟨v, rfl, ho, hb7⟩
        have HO := Lib.hid (ownG_less ho hb6.out.size)
        have hb8 := Lib.hid (hb6.out.trans (hb7.mono hb6.out.size))
        clear hb7 ho
        go_wp2
        go_ret2
        exact ⟨_, rfl, HO.out, hb8.out⟩
  · have ht : hasB2 l x y = false := by rw [hasB2, hasB, ring_no hr, Bool.false_and, Bool.false_and]
    have hR : fromR l x y = [] := by rw [fromR, if_neg (by simp [ht])]
    have H7 := Lib.hid (ringP_length l)
    rw [hR, ht]
    rw [ring_no hr] at hread
    clear hR hr ht
    generalize ringP l = P at *
    go_enter Try.func15, Try.ntmps15
    go_wp2_with fail
    refine hread.out.mono ?_
    rintro e W1 ⟨rfl, hb1⟩
    have HA := Lib.hid (new_ring W1)
    go_wp2_with (refine store_ring rfl _ _ rfl W1.heap.size zero7 P rfl H7.out rfl rfl HA ?_; intro w2 HA2 hg2 hs2)
    have hb2 := (hb1.alloc hb1.size (.cells #[.int .i64 0, .int .i64 0, .int .i64 0, .int .i64 0, .int .i64 0, .int .i64 0, .int .i64 0] 52)).grown hg2 (by have := hb1.size; simp; omega) (by have := hb1.size; simp; omega)
    clear hg2 hs2 hb1
    go_ret2
    exact ⟨_, rfl, .inl ⟨rfl, rfl⟩, hb2⟩
end Go.Proofs.Ytbfdbnminjhocaa

namespace Go.Proofs.Ytbfdbnminjhocaa
end Go.Proofs.Ytbfdbnminjhocaa

namespace Go.Proofs.Ytbfdbnminjhocaa
open Go.ChangeShapes Go.WideShapes Go.ChangeAt Go.RowKit

/-- The list with the new greatest point just behind x. -/
def putL (l : List Int) (x : Int) : List Int := l.take (l.idxOf x + 1) ++ ((l.length : Int) :: l.drop (l.idxOf x + 1))
theorem putL_length (l : List Int) (x : Int) (hx : x ∈ l) : (putL l x).length = l.length + 1 := by
  have := List.idxOf_lt_length_of_mem hx
  simp [putL]; omega
theorem putL_pos (l : List Int) (x : Int) (h : ∀ y ∈ l, 0 ≤ y) : ∀ y ∈ putL l x, 0 ≤ y := fun y hy => by
  rcases List.mem_append.1 hy with hy | hy
  · exact h y (List.mem_of_mem_take hy)
  · rcases List.mem_cons.1 hy with rfl | hy
    · omega
    · exact h y (List.mem_of_mem_drop hy)
theorem putL_low (l : List Int) (x : Int) (k : Nat) (hk : k < l.length) (hs : k ≤ l.idxOf x) : (putL l x).getD k 0 = l.getD k 0 := by
  unfold putL
  simp only [List.getD]
  rw [List.getElem?_append_left (by simp; omega), List.getElem?_take, if_pos (by omega)]
theorem putL_mid (l : List Int) (x : Int) (hx : x ∈ l) : (putL l x).getD (l.idxOf x + 1) 0 = l.length := by
  have := List.idxOf_lt_length_of_mem hx
  unfold putL
  simp only [List.getD]
  rw [List.getElem?_append_right (by simp; omega)]
  have e : l.idxOf x + 1 - (l.take (l.idxOf x + 1)).length = 0 := by simp; omega
  rw [e]; simp
theorem putL_high (l : List Int) (x : Int) (k : Nat) (hx : x ∈ l) (_ : k < l.length) (hs : l.idxOf x < k) : (putL l x).getD (k + 1) 0 = l.getD k 0 := by
  have := List.idxOf_lt_length_of_mem hx
  unfold putL
  simp only [List.getD]
  rw [List.getElem?_append_right (by simp; omega)]
  have e : k + 1 - (l.take (l.idxOf x + 1)).length = (k - (l.idxOf x + 1)) + 1 := by simp; omega
  rw [e, List.getElem?_cons_succ, List.getElem?_drop, show l.idxOf x + 1 + (k - (l.idxOf x + 1)) = k by omega]
theorem at_only (l : List Int) (x : Int) (k : Nat) (hd : l.Nodup) (hk : k < l.length) (h : l.getD k 0 = x) : k = l.idxOf x := by
  have e : l[k] = x := by simpa [List.getD, hk] using h
  rw [← e, hd.idxOf_getElem]

theorem pad_put (l : List Int) (x : Int) (hx : x ∈ l) (h7 : l.length < 7) (s : Nat) (hs : s = l.idxOf x + 1) :
    ((padR l).take (s + 1) ++ (((padR l).drop s).take (6 - s) ++ (padR l).drop 7)).set s l.length = padR (putL l x) := by
  have hi := List.idxOf_lt_length_of_mem hx
  have hl := padR_length l (by omega)
  have e1 : ((padR l).drop s).take (6 - s) ++ (padR l).drop 7 = ((padR l).drop s).take (6 - s) := by
    have e0 : (padR l).drop 7 = [] := List.drop_of_length_le (by omega)
    rw [e0, List.append_nil]
  rw [e1]
  have e2 : (padR l).take (s + 1) = (padR l).take s ++ [(padR l).getD s 0] := by
    rw [List.take_succ_eq_append_getElem (by omega)]
    simp [List.getD, show s < (padR l).length by omega]
  rw [e2, List.append_assoc, List.set_append_right _ _ (by simp; omega)]
  have e3 : s - ((padR l).take s).length = 0 := by simp; omega
  rw [e3]
  simp only [List.cons_append, List.nil_append, List.set_cons_zero]
  unfold padR putL
  rw [← hs, List.take_append_of_le_length (by omega), List.drop_append_of_le_length (by omega), List.append_assoc]
  congr 1
  rw [List.cons_append]
  congr 1
  rw [List.take_append]
  have e4 : (l.drop s).take (6 - s) = l.drop s := List.take_of_length_le (by simp; omega)
  rw [e4, List.take_replicate]
  congr 2
  simp
  omega

set_option maxRecDepth 10000 in
set_option maxHeartbeats 1000000 in
theorem put_any (l : List Int) (x : Int) (w : World) (h : Tell l) (hx : x ∈ l) (h6 : l.length < 7) :
    Calls Try.prog 89 #[agp l, .int .i64 x] w fun e w' => e = .returned (agp (putL l x)) ∧ Below w.heap.size w w' := by
  have hl := h.2.1
  have h3 := h.1
  obtain ⟨a0, a1, a2, a3, a4, a5, a6, hP⟩ := seven (padR_length l hl)
  have HS := fun W => Lib.hid (size_any l W hl h.pos)
  have HPL := fun W => Lib.hid (place_any l x W hl hx)
  have hs := List.idxOf_lt_length_of_mem hx
  have hpd := pad_put l x hx h6 _ rfl
  unfold agp at HS HPL ⊢
  rw [hP] at HS HPL hpd ⊢
  simp only [ints, List.map_cons, List.map_nil] at HS HPL ⊢
  have HSS := Lib.hid HS
  have HPP := Lib.hid HPL
  have HPD := Lib.hid hpd
  have hD : (padR (putL l x)).length = 7 := padR_length _ (by rw [putL_length l x hx]; omega)
  have HD := Lib.hid hD
  clear HS HPL hpd hP h hx hD
  generalize l.length = n at *
  generalize l.idxOf x = p at *
  generalize padR (putL l x) = D at *
  have hw0 : IntKind.i64.wrap ((p : Int) + 1) = (p : Int) + 1 := IntWalk.i64_in _ (by omega)
  go_enter Try.func89, Try.ntmps89
  go_wp2
  go_region_with (first
    | (go_at_call 97; refine ((HSS.out _).out).mono ?_; rintro e w' ⟨rfl, rfl⟩)
    | (go_at_call 98; refine ((HPP.out _).out).mono ?_; rintro e w' ⟨rfl, rfl⟩))
  all_goals
    obtain ⟨W, hW⟩ : ∃ W, W = ((((w.alloc (.cells #[.int .i64 a0, .int .i64 a1, .int .i64 a2, .int .i64 a3, .int .i64 a4, .int .i64 a5, .int .i64 a6] 52)).alloc (.cells #[.int .i64 0, .int .i64 0, .int .i64 0, .int .i64 0, .int .i64 0, .int .i64 0, .int .i64 0] 52)).alloc (.cells #[.int .i64 a0, .int .i64 a1, .int .i64 a2, .int .i64 a3, .int .i64 a4, .int .i64 a5, .int .i64 a6] 52)).alloc (.cells #[.int .i64 a0, .int .i64 a1, .int .i64 a2, .int .i64 a3, .int .i64 a4, .int .i64 a5, .int .i64 a6] 52)).drew := ⟨_, rfl⟩
    rw [← hW]
    obtain ⟨k1, k2, k3, k4⟩ := cut_world w _ _ [a0, a1, a2, a3, a4, a5, a6] zero7 rfl rfl W hW
    have HB := Lib.hid k1
    have HR := Lib.hid k2
    have HK := Lib.hid k3
    clear k1 k2 k3 hW HSS HPP
    generalize hB : w.heap.size = B at *
    have HBB := Lib.hid hB
    clear hB
    have hBW : B + 1 < W.heap.size := by omega
    clear k4
    obtain ⟨ad1, had1, hs1⟩ := slice_ring3 W.drew B (p + 1 + 1) (by omega)
    obtain ⟨ad2, had2, hs2⟩ := slice_ring3 W.drew B (p + 1) (by omega)
    rw [show (((p + 1 + 1 : Nat)) : Int) = (p : Int) + 1 + 1 by omega] at hs1
    rw [show (((p + 1 : Nat)) : Int) = (p : Int) + 1 by omega] at hs2
    have HAD1 := Lib.hid had1
    have HAD2 := Lib.hid had2
    have hw1 : IntKind.i64.wrap ((p : Int) + 1 + 1) = (p : Int) + 1 + 1 := IntWalk.i64_in _ (by omega)
    clear had1 had2
    go_wp2
    go_still_tail 5, (by kernel_rfl)
    change wpList _ _ _ _ _ W.drew
    refine copy_ring rfl (.tmp 15) (.tmp 17) rfl B (p + 1 + 1) (p + 1) (5 - p) [a0, a1, a2, a3, a4, a5, a6] rfl ad1 ad2 _ _ _ _ rfl rfl ?_ ?_ (by omega) (by omega) (w := W.drew) (Lib.hid HB.out.drew) ?_
    · show 5 - p = Nat.min (6 - p) (5 - p)
      exact (Nat.min_eq_right (by omega)).symm
    · intro hpos
      exact ⟨HAD1.out (by omega), HAD2.out (by omega)⟩
    · intro w2 HG2 hg2 hs2'
      have HR2 := Lib.hid (HR.out.drew.grown hg2 (by omega))
      have hb2 := Lib.hid (HK.out.drew.grown hg2 (by simp; omega) (by simp))
      rw [show p + 1 + 1 + (5 - p) = 7 by omega] at HG2
      rw [show 6 - (p + 1) = 5 - p by omega] at HPD
      have h7 : (List.take (p + 1 + 1) [a0, a1, a2, a3, a4, a5, a6] ++ (List.take (5 - p) (List.drop (p + 1) [a0, a1, a2, a3, a4, a5, a6]) ++ List.drop 7 [a0, a1, a2, a3, a4, a5, a6])).length = 7 := by simp; omega
      have hc6 := HG2.out.cell (i := p + 1) (by rw [h7]; omega)
      have hf6 := HG2.out.frozen (p + 1)
      have hst := HG2.out.set_ (p + 1) (n : Int)
      rw [HPD.out] at hst
      have HST := Lib.hid hst
      have HR3 := Lib.hid (HR2.out.far (p := ⟨B, p + 1, none⟩) (by simp) (.int .i64 (n : Int)))
      have hb3 := Lib.hid (hb2.out.setCell (p := ⟨B, p + 1, none⟩) (by simp) (.int .i64 (n : Int)))
      have hs3 := HR3.out.lt
      clear hst h7 HG2 HR2 hg2 hs2' hs1 hs2 hw1 hw0
      generalize (List.take (p + 1 + 1) [a0, a1, a2, a3, a4, a5, a6] ++ (List.take (5 - p) (List.drop (p + 1) [a0, a1, a2, a3, a4, a5, a6]) ++ List.drop 7 [a0, a1, a2, a3, a4, a5, a6])).getD (p + 1) 0 = old at *
      go_wp2_with (first
        | (refine load_ring rfl _ rfl B D HD.out rfl HST ?_)
        | (refine store_ring rfl _ _ rfl (B + 1) zero7 D rfl HD.out rfl rfl HR3 ?_; intro w6 HB6 hg6 _))
      try simp only [Exit.inBlock, Exit.then]
      exact ret_ring rfl (B + 1) D HD.out rfl HB6 rfl ⟨rfl, by rw [HBB.out]; exact hb3.out.grown hg6 (by omega) (by simp)⟩
end Go.Proofs.Ytbfdbnminjhocaa

namespace Go.Proofs.Ytbfdbnminjhocaa
open Go.ChangeShapes Go.WideShapes Go.ChangeAt Go.RowKit

/-- A ring of less than seven points, and a point of it. -/
def putB (l : List Int) (x : Int) : Bool := hasB l x && decide (l.length ≠ 7)
def putR (l : List Int) (x : Int) : List Int := if putB l x then putL l x else []
theorem putB_yes {l : List Int} {x : Int} (h : putB l x = true) : hasB l x = true ∧ l.length ≠ 7 := by
  simpa [putB] using h
theorem putR_length (l : List Int) (x : Int) : (putR l x).length ≤ 7 := by
  unfold putR
  split
  · rename_i h
    have hy := hasB_yes (putB_yes h).1
    have := (putB_yes h).2
    have := hy.1.1.2.1
    rw [putL_length l x hy.2.2.2]; omega
  · simp

/-- How much of the new list is made of the first k. -/
def madeN (l : List Int) (x : Int) (k : Nat) : Nat := k + if l.idxOf x < k then 1 else 0

set_option maxHeartbeats 1000000 in
theorem ptS_any (A : Option Addr) (n c H : Nat) (l : List Int) (x : Int) (w : World) (h : Rd w H A n l) (hH : H ≤ w.heap.size) (hn : n ≤ 1048576) :
    Calls Try.prog 45 #[.slice A n c, .int .i64 x] w fun e w' => ∃ v, e = .returned (.tuple #[v, .bool (putB l x)]) ∧ Own w' w.heap.size v (putR l x) ∧ Below w.heap.size w w' := by
  obtain ⟨i0, hi, hz0, hz1, hz2⟩ := info_parts int_info
  have he := fun W hW => Lib.hid (hasS_any A n c H l x W hW hn)
  have HE := Lib.hid he
  have HL := Lib.hid h.len
  clear he
  unfold putR
  cases hd : putB l x
  · rw [if_neg (by simp)]
    cases hr : hasB l x
    · rw [hr] at HE
      clear hd hr
      go_enter Try.func45, Try.ntmps45
      go_wp2_with (go_at_call 90; refine ((HE.out _ h).out).mono ?_; rintro e w' ⟨rfl, rfl⟩)
      refine (none_any w).mono ?_
      rintro e w1 ⟨v, rfl, ho, hb⟩
      have HO := Lib.hid ho
      have HB := Lib.hid hb
      clear ho hb
      go_wp2
      go_ret2
      exact ⟨_, rfl, HO.out, HB.out⟩
    · have h7 : n = 7 := by
        rw [← HL.out]
        have := hd
        simp only [putB, hr, Bool.true_and, decide_eq_false_iff_not] at this
        omega
      rw [hr] at HE
      clear hd hr
      subst h7
      go_enter Try.func45, Try.ntmps45
      go_wp2_with (go_at_call 90; refine ((HE.out _ h).out).mono ?_; rintro e w' ⟨rfl, rfl⟩)
      refine (none_any w).mono ?_
      rintro e w1 ⟨v, rfl, ho, hb⟩
      have HO := Lib.hid ho
      have HB := Lib.hid hb
      clear ho hb
      go_wp2
      go_ret2
      exact ⟨_, rfl, HO.out, HB.out⟩
  · rw [if_pos rfl]
    obtain ⟨hr, hn7⟩ := putB_yes hd
    have hy := hasB_yes hr
    rw [HL.out] at hn7
    have h7 := hy.1.1.2.1
    rw [HL.out] at h7
    have hs := List.idxOf_lt_length_of_mem hy.2.2.2
    rw [HL.out] at hs
    have HLEN : Hid ((putL l x).length = n + 1) := by rw [Hid, putL_length l x hy.2.2.2, HL.out]
    have HLOW : Hid (∀ k, k < n → k ≤ l.idxOf x → (putL l x).getD k 0 = l.getD k 0) := fun k hk hks => putL_low l x k (by rw [HL.out]; exact hk) hks
    have HMID : Hid ((putL l x).getD (l.idxOf x + 1) 0 = n) := by rw [Hid, putL_mid l x hy.2.2.2, HL.out]
    have HHIGH : Hid (∀ k, k < n → l.idxOf x < k → (putL l x).getD (k + 1) 0 = l.getD k 0) := fun k hk hks => putL_high l x k hy.2.2.2 (by rw [HL.out]; exact hk) hks
    have HONLY : Hid (∀ k, k < n → (l.getD k 0 = x ↔ k = l.idxOf x)) := fun k hk =>
      ⟨fun he => at_only l x k hy.1.1.2.2.2 (by rw [HL.out]; exact hk) he, fun he => by rw [he]; exact at_idx l x hy.2.2.2⟩
    rw [hr] at HE
    have hbne : ((n : Int) == 7) = false := by simp; omega
    have ho0 := own_empty w _ (Nat.le_refl _)
    have hb0 := (Below.refl w.heap.size w).alloc (Nat.le_refl _) (.cells #[] 3)
    have hr0 := h.alloc hH (.cells #[] 3)
    clear hd hr hy
    generalize putL l x = C at *
    generalize l.idxOf x = s at *
    go_enter Try.func45, Try.ntmps45
    go_wp2_with (go_at_call 90; refine ((HE.out _ h).out).mono ?_; rintro e w' ⟨rfl, rfl⟩)
    obtain ⟨W0, h0⟩ : ∃ W, W = w.alloc (.cells #[] 3) := ⟨_, rfl⟩
    rw [← h0] at ho0 hb0 hr0 ⊢
    clear h0 hbne h
    go_loopw [6, 7] (fun v i wr => ∃ k m : Nat, k ≤ n ∧ i = .int .i64 k ∧ (m = k ∧ k ≤ s ∨ m = k + 1 ∧ s < k) ∧ Hid (wr.ownsRow w.heap.size 3 1 v m (ints (C.take m))) ∧ Rd wr H A n l ∧ Below w.heap.size w wr) (fun _ i _ => n - (intOf i).toNat)
    case atStart => exact ⟨0, 0, Nat.zero_le _, rfl, .inl ⟨rfl, Nat.zero_le _⟩, by simpa [Own, Hid, ints] using ho0, hr0, hb0⟩
    case round =>
      obtain ⟨k, m, hk, rfl, hm, hown, hrd, hbl⟩ := hrel
      clear ho0 hb0 hr0 HE
      by_cases hlt : k < n
      · obtain ⟨b, o, rfl, hbH, hcs⟩ := hrd.at_ (by omega)
        have hc := hcs k hlt
        have hget : Hid (C.getD m 0 = l.getD k 0) := by
          rcases hm with ⟨rfl, hks⟩ | ⟨rfl, hks⟩
          · exact HLOW.out m hlt hks
          · exact HHIGH.out k hlt hks
        have HON := Lib.hid (HONLY.out k hlt)
        have hsn := Lib.hid (take_snoc C m (by rw [HLEN.out]; omega))
        rw [hget.out] at hsn
        have hmn : m ≤ n := by omega
        clear hcs
        generalize hx : l.getD k 0 = y at *
        have HY := Lib.hid hx
        clear hx
        by_cases hks : k = s
        · have hb : (y == x) = true := by have := HON.out.2 hks; simp [this]
          have hms : m = k := by omega
          have hsn2 := Lib.hid (take_snoc C (m + 1) (by rw [HLEN.out]; omega))
          have hmid : C.getD (m + 1) 0 = n := by rw [hms, hks]; exact HMID.out
          rw [hmid] at hsn2
          have HMS := Lib.hid hms
          have HKS := Lib.hid hks
          clear hm hms hks hmid
          go_wp2_with (at_builtin; refine wpList_append_own _ rfl _ _ 23 rfl w.heap.size 3 i0 (.int .i64 0) 1 8 Try.underlying23 hi hz0 hz1 hz2 rfl (by decide) _ _ _ rfl (hown.out.alloc _) ⟨wr.heap.size, 0, none⟩ 1 1 [.int .i64 y] rfl rfl (one_cell wr _ _) (by simp [Value.oneCell']) (by unfold maxLen; omega) (by omega) (by have := hbl.size; simp; omega) ?_)
          intro v' w1 hown' hgrow _
          rw [hsn.out] at hown'
          have HO1 := Lib.hid hown'
          have hb1 := own_below hown.out hbl hbl.size hgrow
          have hr1 := (hrd.alloc (Nat.le_trans hH hbl.size) (.cells #[.int .i64 y] 3)).below ((Below.refl H _).grown hgrow (by have := hbl.size; simp; omega) (fun q hq => Nat.le_trans hH (hown.out.lt q hq).1))
          clear hown' hgrow
          obtain ⟨b1, o1, e1, _, hcs1⟩ := hr1.at_ (by omega)
          injection e1 with e1
          injection e1 with e1 e2 _
          subst e1; subst e2
          have hc1 := hcs1 k hlt
          rw [HY.out] at hc1
          clear hcs1 hc
          go_wp2_with (at_builtin; refine wpList_append_own _ rfl _ _ 23 rfl w.heap.size 3 i0 (.int .i64 0) 1 8 Try.underlying23 hi hz0 hz1 hz2 rfl (by decide) _ _ _ rfl (HO1.out.alloc _) ⟨w1.heap.size, 0, none⟩ 1 1 [.int .i64 (n : Int)] rfl rfl (one_cell w1 _ _) (by simp [Value.oneCell']) (by unfold maxLen; omega) (by omega) (by have := hb1.size; simp; omega) ?_)
          intro v2 w2 hown2 hgrow2 _
          rw [hsn2.out] at hown2
          have HO2 := Lib.hid hown2
          have hb2 := own_below HO1.out hb1 hb1.size hgrow2
          have hr2 := (hr1.alloc (Nat.le_trans hH hb1.size) (.cells #[.int .i64 (n : Int)] 3)).below ((Below.refl H _).grown hgrow2 (by have := hb1.size; simp; omega) (fun q hq => Nat.le_trans hH (HO1.out.lt q hq).1))
          clear hown2 hgrow2
          go_wp2
          go_roundw
          case rel => exact ⟨k + 1, m + 1 + 1, by omega, by go_num, .inr ⟨by have := HMS.out; omega, by have := HKS.out; omega⟩, HO2, hr2, hb2⟩
          case measure => simp [intOf]; omega
        · have hb : (y == x) = false := by
            rw [beq_eq_false_iff_ne]
            exact fun he => hks (HON.out.1 he)
          have HM : Hid (m + 1 = k + 1 ∧ k + 1 ≤ s ∨ m + 1 = k + 1 + 1 ∧ s < k + 1) := by
            rcases hm with h | h
            · exact .inl ⟨by omega, by omega⟩
            · exact .inr ⟨by omega, by omega⟩
          clear hm hks
          go_wp2_with (at_builtin; refine wpList_append_own _ rfl _ _ 23 rfl w.heap.size 3 i0 (.int .i64 0) 1 8 Try.underlying23 hi hz0 hz1 hz2 rfl (by decide) _ _ _ rfl (hown.out.alloc _) ⟨wr.heap.size, 0, none⟩ 1 1 [.int .i64 y] rfl rfl (one_cell wr _ _) (by simp [Value.oneCell']) (by unfold maxLen; omega) (by omega) (by have := hbl.size; simp; omega) ?_)
          intro v' w1 hown' hgrow _
          rw [hsn.out] at hown'
          have HO1 := Lib.hid hown'
          have hb1 := own_below hown.out hbl hbl.size hgrow
          have hr1 := (hrd.alloc (Nat.le_trans hH hbl.size) (.cells #[.int .i64 y] 3)).below ((Below.refl H _).grown hgrow (by have := hbl.size; simp; omega) (fun q hq => Nat.le_trans hH (hown.out.lt q hq).1))
          clear hown' hgrow
          obtain ⟨b1, o1, e1, _, hcs1⟩ := hr1.at_ (by omega)
          injection e1 with e1
          injection e1 with e1 e2 _
          subst e1; subst e2
          have hc1 := hcs1 k hlt
          rw [HY.out] at hc1
          clear hcs1 hc
          go_wp2
          go_roundw
          case rel => exact ⟨k + 1, m + 1, by omega, by go_num, HM.out, HO1, hr1, hb1⟩
          case measure => simp [intOf]; omega
      · obtain rfl : k = n := by omega
        have hmk : m = k + 1 := by omega
        clear hm
        subst hmk
        have HO : Hid (Own wr w.heap.size u6 C) := by
          have := hown.out
          rw [List.take_of_length_le (by rw [HLEN.out]; omega)] at this
          unfold Hid Own
          rw [HLEN.out]
          exact this
        go_wp2
        go_ret2
        exact ⟨_, rfl, HO.out, hbl⟩

set_option maxHeartbeats 1000000 in
theorem ptI_any (A : Option Addr) (n c H : Nat) (l : List Int) (x : Int) (w : World) (h : Rd w H A n l) (hH : H ≤ w.heap.size) (hn : n ≤ 1048576) (hnc : n ≤ c) (hcm : c ≤ 9223372036854775807) :
    Calls Try.prog 44 #[.slice A n c, .int .i64 x] w fun e w' => ∃ v, e = .returned (.tuple #[v, .bool (putB l x)]) ∧ Own w' w.heap.size v (putR l x) ∧ Below w.heap.size w w' := by
  have hread := Lib.hid (readR_any A n c H l w h hH hn hnc hcm)
  have HL := Lib.hid h.len
  unfold putR
  by_cases hr : Ring l
  · have hl7 := hr.1.2.1
    obtain ⟨a0, a1, a2, a3, a4, a5, a6, hP⟩ := seven (padR_length l hl7)
    have hrp : ringP l = [a0, a1, a2, a3, a4, a5, a6] := by rw [ringP, if_pos hr, hP]
    have hhas := fun W => Lib.hid (has_any l x W hl7 hr.1.pos)
    have hin : hasB l x = decide (0 ≤ x ∧ x < l.length) := by rw [hasB, ring_yes hr, Bool.true_and]
    rw [← hin] at hhas
    unfold agp at hhas
    rw [hP] at hhas
    rw [hrp, ring_yes hr] at hread
    simp only [ints, List.map_cons, List.map_nil] at hhas hread
    have HH := Lib.hid hhas
    have h7 : n ≤ 7 := by rw [← HL.out]; exact hl7
    clear hhas hin hrp
    cases ht : hasB l x
    · have hp : putB l x = false := by rw [putB, ht, Bool.false_and]
      rw [hp, if_neg (by simp)]
      rw [ht] at HH
      clear hp ht hr hP hl7
      go_enter Try.func44, Try.ntmps44
      go_wp2_with fail
      refine hread.out.mono ?_
      rintro e W1 ⟨rfl, hb1⟩
      have HA := Lib.hid (new_ring W1)
      go_wp2_with (refine store_ring rfl _ _ rfl W1.heap.size zero7 [a0, a1, a2, a3, a4, a5, a6] rfl rfl rfl rfl HA ?_; intro w2 HA2 hg2 hs2; obtain ⟨c0, c1, c2, c3, c4, c5, c6⟩ := cells7 HA2.out; clear hs2)
      have hb2 := Lib.hid ((hb1.alloc hb1.size (.cells #[.int .i64 0, .int .i64 0, .int .i64 0, .int .i64 0, .int .i64 0, .int .i64 0, .int .i64 0] 52)).grown hg2 (by have := hb1.size; simp; omega) (by have := hb1.size; simp; omega))
      clear hg2 hb1
      refine ((HH.out _).out).mono ?_
      rintro e w3 ⟨rfl, hb3⟩
      have hb4 := Lib.hid (hb2.out.trans (hb3.mono hb2.out.size))
      clear hb3 c0 c1 c2 c3 c4 c5 c6
      go_wp2
      go_ret2
      exact ⟨_, rfl, World.ownsRow_nil _ _ _ _, hb4.out⟩
    · have hy := hasB_yes ht
      rw [ht] at HH
      by_cases h6 : n = 7
      · have hp : putB l x = false := by rw [putB, ht, Bool.true_and]; simp [HL.out, h6]
        rw [hp, if_neg (by simp)]
        have hb : (decide ((3 : Int) ≤ (n : Int) + 1) && decide ((n : Int) + 1 ≤ 7)) = false := by simp; omega
        clear hp ht hr hP hl7 hy
        go_enter Try.func44, Try.ntmps44
        subst h6
        go_wp2_with fail
        refine hread.out.mono ?_
        rintro e W1 ⟨rfl, hb1⟩
        have HA := Lib.hid (new_ring W1)
        go_wp2_with (refine store_ring rfl _ _ rfl W1.heap.size zero7 [a0, a1, a2, a3, a4, a5, a6] rfl rfl rfl rfl HA ?_; intro w2 HA2 hg2 hs2; obtain ⟨c0, c1, c2, c3, c4, c5, c6⟩ := cells7 HA2.out; clear hs2)
        have hb2 := Lib.hid ((hb1.alloc hb1.size (.cells #[.int .i64 0, .int .i64 0, .int .i64 0, .int .i64 0, .int .i64 0, .int .i64 0, .int .i64 0] 52)).grown hg2 (by have := hb1.size; simp; omega) (by have := hb1.size; simp; omega))
        clear hg2 hb1
        refine ((HH.out _).out).mono ?_
        rintro e w3 ⟨rfl, hb3⟩
        have hb4 := Lib.hid (hb2.out.trans (hb3.mono hb2.out.size))
        clear hb3 c0 c1 c2 c3 c4 c5 c6
        go_wp2_with (go_at_call 67; refine (sizeIn_any _ _).mono ?_; rintro e w' ⟨rfl, rfl⟩)
        go_ret2
        exact ⟨_, rfl, World.ownsRow_nil _ _ _ _, hb4.out⟩
      · have hp : putB l x = true := by rw [putB, ht, Bool.true_and]; simp [HL.out, h6]
        rw [hp, if_pos rfl]
        have hb : (decide ((3 : Int) ≤ (n : Int) + 1) && decide ((n : Int) + 1 ≤ 7)) = true := by
          have := hr.1.1
          rw [HL.out] at this
          simp; omega
        have hput := fun W => Lib.hid (put_any l x W hr.1 hy.2.2.2 (by rw [HL.out]; omega))
        have hlen := putL_length l x hy.2.2.2
        have hlist := fun W => Lib.hid (list_any (putL l x) W (by omega) (by rw [hlen, HL.out]; omega) (putL_pos l x hr.1.pos))
        unfold agp at hput hlist
        rw [hP] at hput
        have HC := Lib.hid hput
        have HLI := Lib.hid hlist
        clear hp ht hr hP hl7 hput hlist hy hlen
        generalize putL l x = C at *
        generalize padR C = Q at *
        go_enter Try.func44, Try.ntmps44
        go_wp2_with fail
        refine hread.out.mono ?_
        rintro e W1 ⟨rfl, hb1⟩
        have HA := Lib.hid (new_ring W1)
        go_wp2_with (refine store_ring rfl _ _ rfl W1.heap.size zero7 [a0, a1, a2, a3, a4, a5, a6] rfl rfl rfl rfl HA ?_; intro w2 HA2 hg2 hs2; obtain ⟨c0, c1, c2, c3, c4, c5, c6⟩ := cells7 HA2.out; clear hs2)
        have hb2 := Lib.hid ((hb1.alloc hb1.size (.cells #[.int .i64 0, .int .i64 0, .int .i64 0, .int .i64 0, .int .i64 0, .int .i64 0, .int .i64 0] 52)).grown hg2 (by have := hb1.size; simp; omega) (by have := hb1.size; simp; omega))
        clear hg2 hb1
        refine ((HH.out _).out).mono ?_
        rintro e w3 ⟨rfl, hb3⟩
        have hb4 := Lib.hid (hb2.out.trans (hb3.mono hb2.out.size))
        have HA3 := Lib.hid (HA2.out.below hb3 HA2.out.lt)
        clear hb3 c0 c1 c2 c3 c4 c5 c6
        go_wp2_with (first
          | (go_at_call 67; refine (sizeIn_any _ _).mono ?_; rintro e w' ⟨rfl, rfl⟩)
          | (refine load_ring rfl _ rfl W1.heap.size [a0, a1, a2, a3, a4, a5, a6] rfl rfl HA3 ?_))
        refine ((HC.out _).out).mono ?_
        rintro e w4 ⟨rfl, hb5⟩
        have hb6 := Lib.hid (hb4.out.trans (hb5.mono hb4.out.size))
        clear hb5
        go_wp2_with fail
        refine ((HLI.out _).out).mono ?_
        rintro e w5 ⟨v, rfl, ho, hb7⟩
        have HO := Lib.hid (own_less ho hb6.out.size)
        have hb8 := Lib.hid (hb6.out.trans (hb7.mono hb6.out.size))
        clear ho hb7
        go_wp2
        go_ret2
        exact ⟨_, rfl, HO.out, hb8.out⟩
  · have ht : putB l x = false := by rw [putB, hasB, ring_no hr, Bool.false_and, Bool.false_and]
    have H7 := Lib.hid (ringP_length l)
    rw [ht, if_neg (by simp)]
    rw [ring_no hr] at hread
    clear hr ht
    generalize ringP l = P at *
    go_enter Try.func44, Try.ntmps44
    go_wp2_with fail
    refine hread.out.mono ?_
    rintro e W1 ⟨rfl, hb1⟩
    have HA := Lib.hid (new_ring W1)
    go_wp2_with (refine store_ring rfl _ _ rfl W1.heap.size zero7 P rfl H7.out rfl rfl HA ?_; intro w2 HA2 hg2 hs2)
    have hb2 := (hb1.alloc hb1.size (.cells #[.int .i64 0, .int .i64 0, .int .i64 0, .int .i64 0, .int .i64 0, .int .i64 0, .int .i64 0] 52)).grown hg2 (by have := hb1.size; simp; omega) (by have := hb1.size; simp; omega)
    clear hg2 hs2 hb1
    go_ret2
    exact ⟨_, rfl, World.ownsRow_nil _ _ _ _, hb2⟩
end Go.Proofs.Ytbfdbnminjhocaa

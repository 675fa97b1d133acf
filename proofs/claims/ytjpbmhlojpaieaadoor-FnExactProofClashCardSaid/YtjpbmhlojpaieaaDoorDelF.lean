/- slices.DeleteFunc over rows of threes and of rings. -/
import Derived.Test.YtjpbmhlojpaieaaDoorIdxF
namespace Go.Proofs.YtjpbmhlojpaieaaDoor
open Go.ChangeShapes Go.WideShapes Go.ChangeAt Go.RowKit

theorem elem_threes : Tryd.prog.elem 62 = 69 := by kernel_rfl
theorem cells_three : Tryd.prog.cellsOf 69 = 3 := by kernel_rfl
theorem cells_ring : Tryd.prog.cellsOf 39 = 7 := by kernel_rfl
theorem zero_three (w : World) : (zeroValue 69).run Tryd.prog w = .ok (.agg #[.int .i64 0, .int .i64 0, .int .i64 0]) w := by kernel_rfl
theorem zero_ring (w : World) : (zeroValue 39).run Tryd.prog w = .ok (.agg #[.int .i64 0, .int .i64 0, .int .i64 0, .int .i64 0, .int .i64 0, .int .i64 0, .int .i64 0]) w := by kernel_rfl

theorem headN (S t : Nat) (he : Tryd.prog.elem S = t) (hu : Tryd.prog.underlying S = some (.slice t)) (i : TypeInfo) (hi : Tryd.prog.info? t = some i) (W : World) (g n c k : Nat) (hk : k ≤ c) :
    (Instr.slice S (.slice (some ⟨g, 0, none⟩) n c) none (some (.int .i64 (k : Int))) none).run Tryd.prog W = .ok (.slice (some ⟨g, 0, none⟩) k c) W := by
  have h := run_slice_h (P := Tryd.prog) W S (some ⟨g, 0, none⟩) n c (by rw [he]; exact hu) .i64 (k : Int) (by omega) (by omega)
  rw [h, he, run_sizeOf W hi, Result.andThen_ok]
  simp [sliced, Addr.add]
theorem tailN (S t m : Nat) (he : Tryd.prog.elem S = t) (hu : Tryd.prog.underlying S = some (.slice t)) (i : TypeInfo) (hi : Tryd.prog.info? t = some i) (hc : Tryd.prog.cellsOf t = m) (W : World) (g n c k : Nat) (hk : k ≤ n) :
    (Instr.slice S (.slice (some ⟨g, 0, none⟩) n c) (some (.int .i64 (k : Int))) none none).run Tryd.prog W = .ok (.slice (some (if c = k then ⟨g, 0, none⟩ else ⟨g, k * m, none⟩)) (n - k) (c - k)) W := by
  have h := run_slice_l (P := Tryd.prog) W S (some ⟨g, 0, none⟩) n c (by rw [he]; exact hu) .i64 (k : Int) (by omega) (by omega)
  rw [h, he, run_sizeOf W hi, Result.andThen_ok, hc]
  by_cases e : c = k
  · simp [sliced, e]
  · simp [sliced, e, Addr.add_lit]

theorem oneCell_zeros (z : Array Value) (h : ∀ v ∈ z.toList, v.oneCell' = true) (hz : 0 < z.size) (n : Nat) : ∀ v ∈ (Builtin.zeroCells z n).toList, v.oneCell' = true := by
  intro v hv
  simp only [Builtin.zeroCells, Array.toList_map, Array.toList_range, List.mem_map, List.mem_range] at hv
  obtain ⟨j, _, rfl⟩ := hv
  have hlt := Nat.mod_lt j hz
  rw [getElem!_pos z _ hlt]
  exact h _ (by simp)

set_option maxRecDepth 10000 in
/-- The tail of a row cleared: what is left ahead of it is a row. -/
theorem wpList_clearN {ops : Array Oper} {rest : List Oper} {o : Oper} {a : Act} {w : World} {Q : Exit → Act → World → Prop} (hgd : o.guard = none) (x : Operand) (S t m : Nat) (ho : o.op = .call { callee := .builtin .clear, args := #[x], argTypes := #[S] })
    (hS : Tryd.prog.underlying S = some (.slice t)) (z : Value) (hz : ∀ w, (zeroValue t).run Tryd.prog w = .ok z w) (hzs : z.cells.size = m) (hm : 0 < m) (hz1 : ∀ v ∈ z.cells.toList, v.oneCell' = true)
    (g n c i D : Nat) (X : List (List Int)) (hX : Hid (RowN w D t m (.slice (some ⟨g, 0, none⟩) n c) X)) (hXn : X.length = n) (hin : i ≤ n)
    (ad : Addr) (had : Hid ((if c = i then ⟨g, 0, none⟩ else ⟨g, i * m, none⟩) = ad)) (hx : a.eval x = .slice (some ad) (n - i) (c - i))
    (h : ∀ w', Hid (RowN w' D t m (.slice (some ⟨g, 0, none⟩) i c) (X.take i)) → w.grownBy w' (some g) → wpList Tryd.prog ops Q rest (a.put o.dst (.tuple #[])) w') : wpList Tryd.prog ops Q (o :: rest) a w :=
  wpList_plain hgd fun _ hK => by
    have h0 := hX.out
    have had := had.out
    subst had
    rcases h0.2.2 with ⟨e, _⟩ | ⟨g', c', cur, e, hB, hg, hc, hcm, hs, ht⟩
    · cases e
    · injection e with e1 e2 e3
      injection e1 with e1
      injection e1 with e1
      subst e1; subst e3; subst hXn
      have hrows : ∀ l ∈ X.take i, l.length = m := fun l hl => h0.1 l (List.mem_of_mem_take hl)
      have hxl : (X.take i).length = i := by simp; omega
      have him : i * m ≤ X.length * m := Nat.mul_le_mul_right _ hin
      have hcm' : X.length * m ≤ c * m := Nat.mul_le_mul_right _ hc
      have hfl : (X.take i).flatten.length = i * m := by rw [flat_length m _ hrows, hxl]
      have hfx : X.flatten.take (i * m) = (X.take i).flatten := by
        conv => lhs; rw [← List.take_append_drop i X, List.flatten_append]
        exact List.take_left' hfl
      have rowOf : ∀ (w' : World) (cur' : Array Value), w'.heap[g]? = some (.cells cur' t (0, 0)) → cur'.size = cur.size → cur'.toList.take (i * m) = cur.toList.take (i * m) → RowN w' D t m (.slice (some ⟨g, 0, none⟩) i c) (X.take i) := fun w' cur' hg' hs' ht' => by
        refine ⟨hrows, by rw [hxl, ints_length, hfl], .inr ⟨g, c, cur', by rw [hxl], hB, hg', by rw [hxl]; omega, hcm, by rw [hs', hs], ?_⟩⟩
        rw [hxl, ht']
        have : cur.toList.take (i * m) = (cur.toList.take (X.length * m)).take (i * m) := by rw [List.take_take, Nat.min_eq_left him]
        rw [this, ht, ← hfx]
        simp [ints]
      by_cases hni : X.length - i = 0
      · have hrun : (Builtin.clear_ #[S] o.type #[.slice (some (if c = i then (⟨g, 0, none⟩ : Addr) else ⟨g, i * m, none⟩)) 0 (c - i)]).run Tryd.prog w = .ok (.tuple #[]) w := by
          simp [Builtin.clear_, run_underlying hS]
        rw [hni] at hx
        unfold Oper.wp execOp
        simp only [ho, resolve, invoke, builtin, Sem.run_bind, Sem.run_pure, Result.andThen_ok, List.map_toArray, List.map_cons, List.map_nil, hx, hrun]
        exact hK _ _ (h w (rowOf w cur hg rfl rfl) (World.grownBy.refl _ _))
      · have hci : ¬ c = i := by omega
        rw [if_neg hci] at hx
        obtain ⟨d, hd⟩ : ∃ d, X.length - i = d + 1 := ⟨X.length - i - 1, by omega⟩
        have hzl : (Builtin.zeroCells z.cells (X.length - i)).toList.length = (X.length - i) * m := by rw [Array.length_toList, size_zeroCells, hzs]
        have hsum : i * m + (X.length - i) * m = X.length * m := by rw [← Nat.add_mul]; congr 1; omega
        have hst := run_storeCells_at Tryd.prog g (i * m) t (Builtin.zeroCells z.cells (X.length - i)).toList 0 cur w hg (by rw [hzl]; omega) (oneCell_zeros z.cells hz1 (by omega) _)
        have hrun : (Builtin.clear_ #[S] o.type #[.slice (some (⟨g, i * m, none⟩ : Addr)) (X.length - i) (c - i)]).run Tryd.prog w = .ok (.tuple #[]) (w.setRow g (cur.toList.take (i * m + 0) ++ (Builtin.zeroCells z.cells (X.length - i)).toList ++ cur.toList.drop (i * m + 0 + (Builtin.zeroCells z.cells (X.length - i)).toList.length)).toArray) := by
          rw [hd] at hst ⊢
          simp [Builtin.clear_, run_underlying hS, hz, hst]
        unfold Oper.wp execOp
        simp only [ho, resolve, invoke, builtin, Sem.run_bind, Sem.run_pure, Result.andThen_ok, List.map_toArray, List.map_cons, List.map_nil, hx, hrun]
        refine hK _ _ (h _ (rowOf _ _ (setRow_heap w g cur _ t _ hg) ?_ ?_) ⟨rfl, rfl, rfl, by simp, fun i _ hi => setRow_other w g i _ (fun e => hi (by simp [e]))⟩)
        · simp only [List.size_toArray, List.length_append, List.length_take, List.length_drop, hzl, Array.length_toList]
          omega
        · simp only [Nat.add_zero]
          rw [List.append_assoc, List.take_append_of_le_length (by rw [List.length_take, Array.length_toList]; omega), List.take_take, Nat.min_self]


set_option maxRecDepth 10000 in
set_option maxHeartbeats 2000000 in
theorem deleteF_three (fid : Nat) (hE : ∀ args w, (callFunc fid args).run Tryd.prog w = .ok (.enter fid args) w) (cap : Value) (p : List Int → Bool) (D : Nat) (v : Value) (M : List (List Int)) (w : World) (h : RowN w D 69 3 v M) (hD : D ≤ w.heap.size) (hM : M.length ≤ 1000)
    (hf : ∀ W, Below D w W → ∀ l ∈ M, Calls Tryd.prog fid #[.agg (ints l).toArray, cap] W fun e w' => e = .returned (.bool (p l)) ∧ Below W.heap.size W w') :
    Calls Tryd.prog 88 #[v, .func (.func fid) #[] #[cap]] w fun e w' => ∃ v', e = .returned v' ∧ RowN w' D 69 3 v' (M.filter fun l => !p l) ∧ Below D w w' := by
  have HI := Lib.hid (indexF_three fid hE cap p D D v M w h hD hM hf)
  have HF := Lib.hid hf
  have HH := Lib.hid h
  by_cases hx : ∃ k, k < M.length ∧ (∀ j, j < k → p (rowK M j) = false) ∧ p (rowK M k) = true
  · obtain ⟨k0, hk0, hpre, hpk⟩ := hx
    rw [(idxR_at hk0 hpre hpk).1] at HI
    obtain ⟨hs1, hs2⟩ := rowAt_start p M hk0 hpre hpk
    obtain ⟨g, c, e0, hBg, hgs, hnc, hcm, _, _⟩ := h.elem hk0
    have hcm' : c ≤ 9223372036854775807 := by unfold maxLen at hcm; omega
    subst e0
    obtain ⟨i0, hi, hz0, hz1, hz2⟩ := info_parts three_info
    obtain ⟨n, hn⟩ : ∃ n, n = M.length := ⟨_, rfl⟩
    have HN := Lib.hid hn
    have HS1 := Lib.hid (show (keptTo p M (k0 + 1)).length = k0 by rw [hs1, List.length_take]; omega)
    have HS2 := Lib.hid hs2
    rw [← hn] at hM HI HH hk0 hnc ⊢
    clear hn hs1 hs2 hpre hpk h hf
    go_enter Tryd.func88, Tryd.ntmps88
    have hk1 : IntKind.i64.wrap ((k0 : Int) + 1) = (k0 : Int) + 1 := by rw [IntKind.wrap_i64]; omega
    go_wp2_with (go_at_call 99; refine HI.out.mono ?_; rintro e w1 ⟨rfl, hb1⟩)
    have HH1 := Lib.hid (HH.out.below hb1 (fun i hi => (HH.out.lt i hi).2))
    have HB1 := Lib.hid (hb1.mono hD)
    clear hb1 HI
    go_loopw [5, 6] (fun i j wr => ∃ q : Nat, ∃ X : List (List Int), k0 + 1 ≤ q ∧ q ≤ n ∧ j = .int .i64 q ∧ i = .int .i64 ((keptTo p M q).length : Nat) ∧ Hid (RowAt p M X q) ∧ Hid (RowN wr D 69 3 (.slice (some ⟨g, 0, none⟩) n c) X) ∧ Hid (Below D w wr)) (fun _ j _ => n - (intOf j).toNat)
    case atStart => exact ⟨k0 + 1, M, Nat.le_refl _, by omega, by go_num, by rw [HS1.out], HS2, HH1, HB1⟩
    case round =>
      obtain ⟨q, X, hq0, hq, rfl, rfl, hat, hrd, hbl⟩ := hrel
      clear HH1 HB1 HS2 HS1
      have hXn : X.length = n := by rw [HN.out]; exact hat.out.1
      have hDw : D ≤ wr.heap.size := Nat.le_trans hD hbl.out.size
      have hgw : g < wr.heap.size := (hrd.out.lt g rfl).2
      have hlq := keptTo_len p M q
      have HXN := Lib.hid hXn
      by_cases hlt : q < n
      · have hqM : q < M.length := by rw [← HN.out]; exact hlt
        have hqX : q < X.length := by rw [hXn]; exact hlt
        have hrow := rowAt_get hat.out (j := q)
        have HROW := Lib.hid hrow
        have H3 := Lib.hid (hrd.out.1 _ (rowK_mem hqX))
        have HQX := Lib.hid hqX
        have HC := Lib.hid (fun W hW => HF.out W hW _ (rowK_mem hqM))
        have HNO := Lib.hid (fun hp => rowAt_no hat.out hqM hp)
        have HYES := Lib.hid (fun hp => rowAt_yes hat.out hqM hp)
        have HL1 := Lib.hid (fun hp => (keptTo_no (p := p) hqM hp))
        have HL2 := Lib.hid (fun hp => (keptTo_yes (p := p) hqM hp))
        have HBX := Lib.hid (Blk.new (t := 69) wr zero3)
        rw [hrow] at H3
        clear hXn hqX hrow hat
        obtain ⟨l, hl⟩ : ∃ l, l = rowK M q := ⟨_, rfl⟩
        rw [← hl] at HROW H3 HC HNO HYES HL1 HL2
        clear hl
        obtain ⟨iq, hiq⟩ : ∃ iq, iq = (keptTo p M q).length := ⟨_, rfl⟩
        rw [← hiq] at hlq HYES ⊢
        have HIQ := Lib.hid hiq
        clear hiq
        have hiX : iq < X.length := by rw [HXN.out]; omega
        have HIX := Lib.hid hiX
        clear hiX
        cases hp : p l with
        | true =>
          have HAT := Lib.hid (HNO.out hp)
          have HLN := Lib.hid (HL1.out hp)
          rw [hp] at HC
          clear HNO HYES HL1 HL2 hp
          go_wp2_with (first
            | (refine load_elem rfl _ 69 rfl _ rfl Tryd.underlying69 g n c D q 3 X hrd HQX.out three_size rfl ?_; rw [HROW.out])
            | (refine store_blk rfl 69 3 three_size _ _ rfl wr.heap.size zero3 l rfl H3.out rfl rfl HBX ?_; intro w6 HB6 hg6 hs6; have h6 : Hid (Below wr.heap.size wr w6) := Lib.hid (((Below.refl _ _).alloc (Nat.le_refl _) _).grown hg6 (by simp) (by simp)); have hd6 := HC.out w6 (hbl.out.trans (h6.out.mono hDw)); have HD6 := Lib.hid hd6; clear hd6)
            | (refine load_blk rfl 69 3 three_size _ rfl Tryd.underlying69 _ rfl wr.heap.size l H3.out rfl HB6 ?_)
            | (refine HD6.out.mono ?_; rintro e w7 ⟨rfl, hb7⟩; have h7 : Hid (Below wr.heap.size wr w7) := Lib.hid (h6.out.trans (hb7.mono h6.out.size))))
          go_roundw
          case rel =>
            (repeat apply Exists.intro)
            refine ⟨⟨q + 1, X, by omega, by omega, ?_, ?_, HAT, Lib.hid (hrd.out.below h7.out (fun i hi => (hrd.out.lt i hi).2)), Lib.hid (hbl.out.trans (h7.out.mono hDw))⟩, rfl⟩
            · go_num
            · rw [HLN.out, ← HIQ.out]
          case measure => simp [intOf]; omega
        | false =>
          have HAT := Lib.hid (HYES.out hp)
          have HLN := Lib.hid (HL2.out hp)
          rw [hp] at HC
          clear HNO HYES HL1 HL2 hp
          go_wp2_with (first
            | (refine load_elem rfl _ 69 rfl _ rfl Tryd.underlying69 g n c D q 3 X hrd HQX.out three_size rfl ?_; rw [HROW.out])
            | (refine store_blk rfl 69 3 three_size _ _ rfl wr.heap.size zero3 l rfl H3.out rfl rfl HBX ?_; intro w6 HB6 hg6 hs6; have h6 : Hid (Below wr.heap.size wr w6) := Lib.hid (((Below.refl _ _).alloc (Nat.le_refl _) _).grown hg6 (by simp) (by simp)); have hd6 := HC.out w6 (hbl.out.trans (h6.out.mono hDw)); have HD6 := Lib.hid hd6; clear hd6)
            | (refine load_blk rfl 69 3 three_size _ rfl Tryd.underlying69 _ rfl wr.heap.size l H3.out rfl HB6 ?_)
            | (refine HD6.out.mono ?_; rintro e w7 ⟨rfl, hb7⟩; have h7 : Hid (Below wr.heap.size wr w7) := Lib.hid (h6.out.trans (hb7.mono h6.out.size)); have HR7 := Lib.hid (hrd.out.below h7.out (fun i hi => (hrd.out.lt i hi).2)); have HB7 := Lib.hid (HB6.out.below hb7 (by rw [hs6]; simp)))
            | (refine load_blk rfl 69 3 three_size _ rfl Tryd.underlying69 _ rfl wr.heap.size l H3.out rfl HB7 ?_)
            | (refine store_elem rfl _ _ 69 rfl g n c D iq 3 X l HR7 HIX.out H3.out three_size rfl rfl ?_; intro w8 HR8 hg8))
          go_roundw
          case rel =>
            (repeat apply Exists.intro)
            refine ⟨⟨q + 1, X.set iq l, by omega, by omega, ?_, ?_, HAT, HR8, Lib.hid ((hbl.out.trans (h7.out.mono hDw)).grown hg8 (by have := h7.out.size; omega) (by simp; omega))⟩, rfl⟩
            · go_num
            · rw [HLN.out, List.length_append, ← HIQ.out]; go_num
          case measure => simp [intOf]; omega
      · obtain rfl : q = n := by omega
        have HTK : Hid (X.take (keptTo p M q).length = M.filter fun l => !p l) := by
          have h1 := hat.out.2.1
          rw [Hid, h1, HN.out, keptTo_full]
        obtain ⟨iq, hiq⟩ : ∃ iq, iq = (keptTo p M q).length := ⟨_, rfl⟩
        rw [← hiq] at hlq HTK ⊢
        clear hiq hXn hat
        have hsA := fun W => tailN 62 69 3 elem_threes Tryd.underlying62 i0 hi cells_three W g q c iq hlq
        obtain ⟨ad, hade⟩ : ∃ ad : Addr, (if c = iq then ⟨g, 0, none⟩ else ⟨g, iq * 3, none⟩) = ad := ⟨_, rfl⟩
        rw [hade] at hsA
        have HADE := Lib.hid hade
        clear hade
        have hsB := fun W => headN 62 69 elem_threes Tryd.underlying62 i0 hi W g q c iq (by omega)
        go_wp2_with (refine wpList_clearN rfl _ 62 69 3 rfl Tryd.underlying62 (.agg #[.int .i64 0, .int .i64 0, .int .i64 0]) zero_three rfl (by decide) (by simp [Value.cells, Value.oneCell']) g q c iq D X hrd HXN.out hlq ad HADE rfl ?_; intro w8 HR8 hg8)
        go_ret
        rw [HTK.out] at HR8
        exact ⟨.slice (some ⟨g, 0, none⟩) iq c, rfl, HR8.out, hbl.out.grown hg8 hDw (by simp; omega)⟩
  · have hall : ∀ j, j < M.length → p (rowK M j) = false := fun j hj => by
      induction j using Nat.strongRecOn with
      | _ j ih =>
        cases hp : p (rowK M j) with
        | false => rfl
        | true => exact absurd ⟨j, hj, fun i hi => ih i hi (by omega), hp⟩ hx
    rw [idxR_none hall] at HI
    rw [keep_all hall]
    clear hx hall HF hf
    go_enter Tryd.func88, Tryd.ntmps88
    go_wp2_with (go_at_call 99; refine HI.out.mono ?_; rintro e w1 ⟨rfl, hb1⟩)
    go_ret
    exact ⟨_, rfl, HH.out.below hb1 (fun i hi => (HH.out.lt i hi).2), hb1.mono hD⟩


end Go.Proofs.YtjpbmhlojpaieaaDoor

/- How many pairs of a list part each other: the program's count. -/
import Derived.Test.YtamnacgclhaggaaChS
import Derived.Test.YtamnacgclhaggaaEach2
namespace Go.Proofs.Ytamnacgclhaggaa
open Go.ChangeShapes Go.WideShapes Go.ChangeAt Go.RowKit

def meetB (x y z u : Int) : Bool := (x == z) || ((x == u) || ((y == z) || (y == u)))
theorem four_meet {n x y z u : Int} (h : Two n [x, y]) (h' : Two n [z, u]) : four n [x, y, z, u] = !meetB x y z u := by
  have a := (twoL2 n x y).1 h
  have b := (twoL2 n z u).1 h'
  rw [four, Bool.eq_iff_iff]
  simp only [decide_eq_true_eq, Bool.not_eq_true', meetB, Bool.or_eq_false_iff, beq_eq_false_iff_ne]
  unfold Four Pts
  simp only [List.mem_cons, List.not_mem_nil, or_false, List.nodup_cons, List.nodup_nil, and_true, forall_eq_or_imp, forall_eq, List.length_cons, List.length_nil]
  constructor
  · rintro ⟨_, _, h1, h2, h3, _⟩
    refine ⟨fun e => h1 (.inr (.inl e)), fun e => h1 (.inr (.inr e)), fun e => h2 (.inl e), fun e => h2 (.inr e)⟩
  · rintro ⟨h1, h2, h3, h4⟩
    refine ⟨trivial, ⟨by omega, by omega, by omega, by omega⟩, ?_, ?_, ?_, by simp⟩
    · rintro (e | e | e)
      · exact a.2.2 e
      · exact h1 e
      · exact h2 e
    · rintro (e | e)
      · exact h3 e
      · exact h4 e
    · exact fun e => b.2.2 e

set_option maxRecDepth 10000 in
set_option maxHeartbeats 1000000 in
theorem meets_any (x y z u : Int) (w : World) :
    Calls Try.prog 114 #[.agg (ints [x, y]).toArray, .agg (ints [z, u]).toArray] w fun e w' => e = .returned (.bool (meetB x y z u)) ∧ Below w.heap.size w w' := by
  simp only [ints, List.map_cons, List.map_nil]
  obtain ⟨W0, hW0⟩ : ∃ W, W = w.alloc (.cells (ints [x, y]).toArray 77) := ⟨_, rfl⟩
  obtain ⟨W, hW⟩ : ∃ W, W = W0.alloc (.cells (ints [z, u]).toArray 77) := ⟨_, rfl⟩
  have k1 : Blk 77 W0 w.heap.size [x, y] := by rw [hW0]; exact heap_alloc_new w _
  have k0 : W0.heap.size = w.heap.size + 1 := by rw [hW0]; simp
  have k2 : Blk 77 W w.heap.size [x, y] := by rw [hW]; exact k1.alloc _
  have k3 : Blk 77 W (w.heap.size + 1) [z, u] := by rw [hW, ← k0]; exact Blk.new W0 _
  have kb : Below w.heap.size w W := by rw [hW, hW0]; exact ((Below.refl _ _).alloc (Nat.le_refl _) _).alloc (by simp) _
  have x0 := k2.cell (i := 0) (by simp)
  have x1 := k2.cell (i := 1) (by simp)
  have y0 := k3.cell (i := 0) (by simp)
  have y1 := k3.cell (i := 1) (by simp)
  simp only [List.getD_cons_zero, List.getD_cons_succ] at x0 x1 y0 y1
  have HB := Lib.hid kb
  simp only [ints, List.map_cons, List.map_nil] at hW0 hW
  unfold meetB
  clear k1 k2 k3 kb k0
  cases h1 : (x == z)
  · cases h2 : (x == u)
    · cases h3 : (y == z)
      all_goals
        go_enter Try.func114, Try.ntmps114
        go_wp2_with fail
        rw [← hW0, ← hW]
        clear hW0 hW
        go_wp2
        go_ret
        exact ⟨rfl, HB.out⟩
    · go_enter Try.func114, Try.ntmps114
      go_wp2_with fail
      rw [← hW0, ← hW]
      clear hW0 hW
      go_wp2
      go_ret
      exact ⟨rfl, HB.out⟩
  · go_enter Try.func114, Try.ntmps114
    go_wp2_with fail
    rw [← hW0, ← hW]
    clear hW0 hW
    go_wp2
    go_ret
    exact ⟨rfl, HB.out⟩

theorem elem_pairs : Try.prog.elem 98 = 77 := by kernel_rfl
theorem head_pairs (W : World) (g n c k : Nat) (hk : k ≤ c) :
    (Instr.slice 98 (.slice (some ⟨g, 0, none⟩) n c) none (some (.int .i64 (k : Int))) none).run Try.prog W = .ok (.slice (some ⟨g, 0, none⟩) k c) W := by
  obtain ⟨i, hi, _⟩ := info_parts readPair_info
  have h := run_slice_h (P := Try.prog) W 98 (some ⟨g, 0, none⟩) n c (by rw [elem_pairs]; exact Try.underlying98) .i64 (k : Int) (by omega) (by omega)
  rw [h, elem_pairs, run_sizeOf W hi, Result.andThen_ok]
  simp [sliced, Addr.add]

set_option maxRecDepth 10000 in
set_option maxHeartbeats 2000000 in
theorem chords_any (l : List Int) (v : Value) (C : Nat) (L : List (List Int)) (w : World) (h : RowN w C 77 2 v L) (ht : Tell l) (hm : L.length ≤ 8) (hM : ∀ t ∈ L, Two (l.length : Int) t) :
    Calls Try.prog 78 #[agp l, v] w fun e w' => e = .returned (.int .i64 (chN l L : Nat)) ∧ Below w.heap.size w w' := by
  obtain ⟨A, c, rfl⟩ := h.slice
  obtain ⟨a0, a1, a2, a3, a4, a5, a6, hP⟩ := seven (padR_length l ht.2.1)
  have HH := Lib.hid (fun x y z u W (hx : x ∈ l) (hy : y ∈ l) (hz : z ∈ l) (hu : u ∈ l) => parts_any l x y z u W (by have := ht.1; omega) ht.2.1 ht.pos hx hy hz hu)
  unfold agp at HH ⊢
  rw [hP] at HH ⊢
  change Calls Try.prog 78 #[ag a0 a1 a2 a3 a4 a5 a6, .slice A L.length c] w _
  obtain ⟨m, hml⟩ : ∃ m, m = L.length := ⟨_, rfl⟩
  have HL := Lib.hid hml
  have HM := Lib.hid hM
  have HT := Lib.hid ht
  have HCN : Hid (chN l L = cout (chkF l L) m) := by rw [Hid, chN, hml]
  have HLT := Lib.hid (fun i hi => (h.lt i hi).2)
  have hw0 : Hid (Arr (w.alloc (.cells (ints [a0, a1, a2, a3, a4, a5, a6]).toArray 53)) w.heap.size [a0, a1, a2, a3, a4, a5, a6]) := heap_alloc_new w _
  have hr0 : Hid (RowN (w.alloc (.cells (ints [a0, a1, a2, a3, a4, a5, a6]).toArray 53)) C 77 2 (.slice A L.length c) L) := h.alloc _
  have hb0 : Below w.heap.size w (w.alloc (.cells (ints [a0, a1, a2, a3, a4, a5, a6]).toArray 53)) := (Below.refl _ _).alloc (Nat.le_refl _) _
  rw [← hml] at hm hr0 HLT ⊢
  rw [HCN.out]
  clear h hM hml hP ht HCN
  simp only [ints, List.map_cons, List.map_nil] at hw0 hr0 hb0
  go_enter Try.func78, Try.ntmps78
  go_wp2
  generalize hW0 : w.alloc (.cells #[.int .i64 a0, .int .i64 a1, .int .i64 a2, .int .i64 a3, .int .i64 a4, .int .i64 a5, .int .i64 a6] 53) = W0 at *
  clear hW0
  generalize hB : w.heap.size = B at *
  have HB := Lib.hid hB
  clear hB
  go_loopw [5, 12] (fun s i wr => ∃ k : Nat, k ≤ m ∧ i = .int .i64 k ∧ s = .int .i64 (cout (chkF l L) k : Nat) ∧ Hid (RowN wr C 77 2 (.slice A m c) L) ∧ Hid (Arr wr B [a0, a1, a2, a3, a4, a5, a6]) ∧ Below B w wr) (fun _ i _ => m - (intOf i).toNat)
  case atStart => exact ⟨0, Nat.zero_le _, rfl, rfl, hr0, hw0, hb0⟩
  case round =>
    obtain ⟨i, hi, rfl, rfl, hrd, harr, hbl⟩ := hrel
    clear hr0 hw0 hb0
    have hcb := cout_le (chkF l L) i (by omega)
    by_cases hlt : i < m
    · have hil : i < L.length := by rw [← HL.out]; exact hlt
      have HCO : Hid (cout (chkF l L) (i + 1) = cout (chkF l L) i + cin (chkF l L) i i) := rfl
      generalize cout (chkF l L) i = s0 at *
      obtain ⟨g, c', e0, _, hgs, hmc, hcm, _, _⟩ := hrd.out.elem hil
      rw [← HL.out] at e0 hmc
      injection e0 with e1 _ e3
      subst e3
      subst e1
      have HIL := Lib.hid hil
      have ti := HM.out _ (rowK_mem hil)
      obtain ⟨x, y, ei⟩ := of_two ti.1
      have HE := Lib.hid ei
      rw [ei] at ti
      have HTI := Lib.hid ti
      have HBL := Lib.hid hbl
      have HNT := Lib.hid (Blk.new (t := 77) wr [0, 0])
      have hBw := harr.out.lt
      have hlt1 := HLT.out g rfl
      have hsl : ∀ W : World, (Instr.slice 98 (.slice (some ⟨g, 0, none⟩) m c) none (some (.int .i64 (i : Int))) none).run Try.prog W = .ok (.slice (some ⟨g, 0, none⟩) i c) W := fun W => head_pairs W g m c i (by omega)
      clear hbl ti ei hil
      go_wp2_with (first
        | (refine load_elem rfl _ 77 rfl _ rfl Try.underlying77 g m c C i 2 L hrd HIL.out readPair_size rfl ?_; rw [HE.out])
        | (refine store_blk rfl 77 2 readPair_size _ _ rfl wr.heap.size [0, 0] [x, y] rfl rfl rfl rfl HNT ?_; intro w6 HB6 hg6 hs6; have h6 : Hid (Below wr.heap.size wr w6) := Lib.hid (((Below.refl _ _).alloc (Nat.le_refl _) _).grown hg6 (by simp) (by simp)); have HA6 := Lib.hid (harr.out.below h6.out hBw); have HR6 := Lib.hid (hrd.out.below h6.out (fun i hi => (hrd.out.lt i hi).2)); have HBL6 := Lib.hid (HBL.out.trans (h6.out.mono (by omega))); clear hs6 hg6))
      generalize hgp : wr.heap.size = gp at *
      clear hgp h6 hrd harr HBL HNT
      go_loopw [5, 21] (fun s j wr => ∃ k : Nat, k ≤ i ∧ j = .int .i64 k ∧ s = .int .i64 ((s0 + cin (chkF l L) i k : Nat) : Int) ∧ Hid (RowN wr C 77 2 (.slice (some ⟨g, 0, none⟩) m c) L) ∧ Hid (Arr wr B [a0, a1, a2, a3, a4, a5, a6]) ∧ Hid (Blk 77 wr gp [x, y]) ∧ Below B w wr) (fun _ j _ => i - (intOf j).toNat)
      case atStart => exact ⟨0, Nat.zero_le _, by go_num, by simp [cin], HR6, HA6, HB6, HBL6.out⟩
      case round =>
        obtain ⟨k, hk, rfl, rfl, hrd, harr, hp, hbl⟩ := hrel
        clear HR6 HA6 HB6 HBL6
        have hcl := cin_le (chkF l L) i k
        by_cases hltk : k < i
        · have hkl : k < L.length := by rw [← HL.out]; omega
          have HCI : Hid (cin (chkF l L) i (k + 1) = cin (chkF l L) i k + if chkB l (rowK L i) (rowK L k) then 1 else 0) := rfl
          generalize cin (chkF l L) i k = s1 at *
          have tk := HM.out _ (rowK_mem hkl)
          obtain ⟨z, u, ek⟩ := of_two tk.1
          have HEK := Lib.hid ek
          rw [ek] at tk HCI
          rw [HE.out] at HCI
          have hmem : ∀ v, (0 ≤ v ∧ v < (l.length : Int)) → v ∈ l := fun v hv => HT.out.has hv.1 hv.2
          have mx := hmem x (HTI.out.2.1 x (by simp))
          have my := hmem y (HTI.out.2.1 y (by simp))
          have mz := hmem z (tk.2.1 z (by simp))
          have mu := hmem u (tk.2.1 u (by simp))
          have HC := Lib.hid (fun W => HH.out x y z u W mx my mz mu)
          have HMT := Lib.hid (fun W => meets_any x y z u W)
          have hck : chkB l [x, y] [z, u] = (!meetB x y z u && partB l [x, y, z, u]) := by
            rw [chkB]
            show (four (l.length : Int) [x, y, z, u] && partB l [x, y, z, u]) = _
            rw [four_meet HTI.out tk]
          rw [hck] at HCI
          have HKL := Lib.hid hkl
          have hBw := harr.out.lt
          have hpw := hp.out.lt
          have HBL := Lib.hid hbl
          have HNT := Lib.hid (Blk.new (t := 77) wr [0, 0])
          clear hck mx my mz mu hmem tk ek hbl hkl
          cases hmt : meetB x y z u with
          | true =>
            rw [hmt] at HCI HMT
            go_wp2_with (first
              | (refine load_elem rfl _ 77 rfl _ rfl Try.underlying77 g m c C k 2 L hrd HKL.out readPair_size rfl ?_; rw [HEK.out])
              | (refine store_blk rfl 77 2 readPair_size _ _ rfl wr.heap.size [0, 0] [z, u] rfl rfl rfl rfl HNT ?_; intro w6 HB6 hg6 hs6; have h6 : Hid (Below wr.heap.size wr w6) := Lib.hid (((Below.refl _ _).alloc (Nat.le_refl _) _).grown hg6 (by simp) (by simp)); have hs6' : wr.heap.size < w6.heap.size := (by rw [hs6]; simp); have HP6 := Lib.hid (hp.out.below h6.out hpw); clear hs6 hg6)
              | (refine load_blk rfl 77 2 readPair_size _ rfl Try.underlying77 _ rfl gp [x, y] rfl rfl HP6 ?_)
              | (refine load_blk rfl 77 2 readPair_size _ rfl Try.underlying77 _ rfl wr.heap.size [z, u] rfl rfl HB6 ?_)
              | (go_at_call 114; refine (HMT.out _).mono ?_; rintro e w7 ⟨rfl, hb7⟩; have h7 : Hid (Below wr.heap.size wr w7) := Lib.hid (h6.out.trans (hb7.mono h6.out.size))))
            go_wp2
            go_roundw
            case rel => exact ⟨k + 1, by omega, by go_num, by rw [HCI.out]; simp, Lib.hid (hrd.out.below h7.out (fun i hi => (hrd.out.lt i hi).2)), Lib.hid (harr.out.below h7.out hBw), Lib.hid (hp.out.below h7.out hpw), HBL.out.trans (h7.out.mono (by omega))⟩
            case measure => simp [intOf]; omega
          | false =>
            rw [hmt] at HCI HMT
            cases hpt : partB l [x, y, z, u] with
            | true =>
              rw [hpt] at HCI HC
              go_wp2_with (first
                | (refine load_elem rfl _ 77 rfl _ rfl Try.underlying77 g m c C k 2 L hrd HKL.out readPair_size rfl ?_; rw [HEK.out])
                | (refine store_blk rfl 77 2 readPair_size _ _ rfl wr.heap.size [0, 0] [z, u] rfl rfl rfl rfl HNT ?_; intro w6 HB6 hg6 hs6; have h6 : Hid (Below wr.heap.size wr w6) := Lib.hid (((Below.refl _ _).alloc (Nat.le_refl _) _).grown hg6 (by simp) (by simp)); have hs6' : wr.heap.size < w6.heap.size := (by rw [hs6]; simp); have HP6 := Lib.hid (hp.out.below h6.out hpw); clear hs6 hg6)
                | (refine load_blk rfl 77 2 readPair_size _ rfl Try.underlying77 _ rfl gp [x, y] rfl rfl HP6 ?_)
                | (refine load_blk rfl 77 2 readPair_size _ rfl Try.underlying77 _ rfl wr.heap.size [z, u] rfl rfl HB6 ?_)
                | (go_at_call 114; refine (HMT.out _).mono ?_; rintro e w7 ⟨rfl, hb7⟩; have h7 : Hid (Below wr.heap.size wr w7) := Lib.hid (h6.out.trans (hb7.mono h6.out.size)); obtain ⟨d0, d1, d2, d3, d4, d5, d6⟩ := cells7 (harr.out.below h7.out hBw); have p0 := (hp.out.below h7.out hpw).cell (i := 0) (by simp); have p1 := (hp.out.below h7.out hpw).cell (i := 1) (by simp); have q0 := (HB6.out.below hb7 hs6').cell (i := 0) (by simp); have q1 := (HB6.out.below hb7 hs6').cell (i := 1) (by simp); simp only [List.getD_cons_zero, List.getD_cons_succ] at p0 p1 q0 q1)
                | (go_at_call 62; refine (HC.out _).mono ?_; rintro e w9 ⟨rfl, hb9⟩; have h9 : Hid (Below wr.heap.size wr w9) := Lib.hid (h7.out.trans (hb9.mono h7.out.size))))
              go_wp2
              go_roundw
              case rel => exact ⟨k + 1, by omega, by go_num, by rw [HCI.out]; go_num, Lib.hid (hrd.out.below h9.out (fun i hi => (hrd.out.lt i hi).2)), Lib.hid (harr.out.below h9.out hBw), Lib.hid (hp.out.below h9.out hpw), HBL.out.trans (h9.out.mono (by omega))⟩
              case measure => simp [intOf]; omega
            | false =>
              rw [hpt] at HCI HC
              go_wp2_with (first
                | (refine load_elem rfl _ 77 rfl _ rfl Try.underlying77 g m c C k 2 L hrd HKL.out readPair_size rfl ?_; rw [HEK.out])
                | (refine store_blk rfl 77 2 readPair_size _ _ rfl wr.heap.size [0, 0] [z, u] rfl rfl rfl rfl HNT ?_; intro w6 HB6 hg6 hs6; have h6 : Hid (Below wr.heap.size wr w6) := Lib.hid (((Below.refl _ _).alloc (Nat.le_refl _) _).grown hg6 (by simp) (by simp)); have hs6' : wr.heap.size < w6.heap.size := (by rw [hs6]; simp); have HP6 := Lib.hid (hp.out.below h6.out hpw); clear hs6 hg6)
                | (refine load_blk rfl 77 2 readPair_size _ rfl Try.underlying77 _ rfl gp [x, y] rfl rfl HP6 ?_)
                | (refine load_blk rfl 77 2 readPair_size _ rfl Try.underlying77 _ rfl wr.heap.size [z, u] rfl rfl HB6 ?_)
                | (go_at_call 114; refine (HMT.out _).mono ?_; rintro e w7 ⟨rfl, hb7⟩; have h7 : Hid (Below wr.heap.size wr w7) := Lib.hid (h6.out.trans (hb7.mono h6.out.size)); obtain ⟨d0, d1, d2, d3, d4, d5, d6⟩ := cells7 (harr.out.below h7.out hBw); have p0 := (hp.out.below h7.out hpw).cell (i := 0) (by simp); have p1 := (hp.out.below h7.out hpw).cell (i := 1) (by simp); have q0 := (HB6.out.below hb7 hs6').cell (i := 0) (by simp); have q1 := (HB6.out.below hb7 hs6').cell (i := 1) (by simp); simp only [List.getD_cons_zero, List.getD_cons_succ] at p0 p1 q0 q1)
                | (go_at_call 62; refine (HC.out _).mono ?_; rintro e w9 ⟨rfl, hb9⟩; have h9 : Hid (Below wr.heap.size wr w9) := Lib.hid (h7.out.trans (hb9.mono h7.out.size))))
              go_wp2
              go_roundw
              case rel => exact ⟨k + 1, by omega, by go_num, by rw [HCI.out]; simp, Lib.hid (hrd.out.below h9.out (fun i hi => (hrd.out.lt i hi).2)), Lib.hid (harr.out.below h9.out hBw), Lib.hid (hp.out.below h9.out hpw), HBL.out.trans (h9.out.mono (by omega))⟩
              case measure => simp [intOf]; omega
        · obtain rfl : k = i := by omega
          go_wp2
          go_roundw
          case rel => exact ⟨k + 1, by omega, by go_num, by rw [HCO.out], hrd, harr, hbl⟩
          case measure => simp [intOf]; omega
    · obtain rfl : i = m := by omega
      go_wp2
      go_ret
      exact ⟨rfl, by rw [HB.out]; exact hbl⟩
end Go.Proofs.Ytamnacgclhaggaa

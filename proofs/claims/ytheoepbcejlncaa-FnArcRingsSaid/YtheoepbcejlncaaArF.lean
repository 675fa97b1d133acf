/- Families of sets: the model's check, the program's reading. -/
import Derived.Test.YtheoepbcejlncaaArI
import Derived.Test.YtheoepbcejlncaaFill
import Derived.Deep.QuietTactic
namespace Go.Proofs.Ytheoepbcejlncaa
open Go.ChangeShapes Go.WideShapes Go.ChangeAt Go.RowKit

theorem st_func {P : Program} {w : World} {a : Addr} {m : Mode} (fn : Fn) (first cap : Array Value) : (store a (.func fn first cap) m).run P w = stored P w a (.func fn first cap) m := run_store P w a _ m rfl
attribute [local go_sem] st_func

/-- Whether a number tells a set of n points that is neither empty nor all points. -/
def okS (n : Nat) (s : Int) : Bool := decide (1 ≤ s) && decide (s ≤ 2 ^ n - 2)
def Fam (n : Int) (L : List Int) : Prop := (3 ≤ n ∧ n ≤ 6) ∧ L.length ≤ 10 ∧ ∀ s ∈ L, okS n.toNat s = true
instance (n : Int) (L : List Int) : Decidable (Fam n L) := inferInstanceAs (Decidable (_ ∧ _))
def famB (n : Int) (L : List Int) : Bool := decide (Fam n L)
theorem fam_yes {n : Int} {L : List Int} (h : Fam n L) : famB n L = true := by simpa [famB] using h
theorem fam_no {n : Int} {L : List Int} (h : ¬ Fam n L) : famB n L = false := by simpa [famB] using h
theorem flip7 {P : Program} {f : FuncId} {args : Array Value} {w : World} {v : Value} (h : Calls P f args w fun e w' => e = .returned v ∧ w = w') : Calls P f args w fun e w' => e = .returned v ∧ w' = w :=
  h.mono fun _ _ ⟨a, b⟩ => ⟨a, b.symm⟩

set_option maxRecDepth 10000 in
set_option maxHeartbeats 2000000 in
theorem famS_any (A : Option Addr) (m c H : Nat) (L : List Int) (n : Int) (w : World) (h : Rd w H A m L) (hm : m ≤ 1048576) :
    Calls Try.prog 23 #[.int .i64 n, .slice A m c] w fun e w' => e = .returned (.bool (famB n L)) ∧ ∃ q, w' = w.drewN q := by
  have HL := Lib.hid h.len
  by_cases h36 : 3 ≤ n ∧ n ≤ 6
  · have HI := Lib.hid (fun W => inQ7 n 3 6 true (by simp; omega) W)
    obtain ⟨z, rfl⟩ : ∃ z : Nat, n = (z : Int) := ⟨n.toNat, by omega⟩
    have HS := Lib.hid (fun (s : Int) W => flip7 (inQ7 s 1 (2 ^ z - 2) (okS z s) rfl W))
    have HOK : Hid (∀ k, k < m → okS z (L.getD k 0) = false → famB (z : Int) L = false) := fun k hk hf => fam_no fun hh => by
      have := hh.2.2 _ (getD_mem L k (by rw [HL.out]; exact hk))
      rw [Int.toNat_natCast, hf] at this
      cases this
    have HYES : Hid ((∀ k, k < m → okS z (L.getD k 0) = true) → decide ((m : Int) ≤ 10) = famB (z : Int) L) := fun hh => by
      rw [famB, decide_eq_decide, Fam, HL.out, Int.toNat_natCast]
      refine ⟨fun h => ⟨h36, by omega, fun s hs => ?_⟩, fun h => by have := h.2.1; omega⟩
      obtain ⟨k, hk, rfl⟩ := List.getElem_of_mem hs
      have := hh k (by rw [← HL.out]; exact hk)
      simpa [List.getD, hk] using this
    have HR := Lib.hid h
    obtain ⟨r, hr⟩ : ∃ r, r = famB (z : Int) L := ⟨_, rfl⟩
    rw [← hr] at HOK HYES ⊢
    clear h hr
    have hz : z = 3 ∨ z = 4 ∨ z = 5 ∨ z = 6 := by omega
    clear h36
    obtain rfl | rfl | rfl | rfl := hz
    all_goals
      simp only [Int.reducePow, Int.reduceSub] at HS
      go_enter Try.func23, Try.ntmps23
      go_wp2_with (go_at_call 58; refine (HI.out _).mono ?_; rintro e w' ⟨rfl, rfl⟩)
      go_loopw [5] (fun i wr => ∃ k : Nat, k ≤ m ∧ i = .int .i64 k ∧ Hid (∀ j, j < k → okS _ (L.getD j 0) = true) ∧ Hid (∃ d, wr = w.drewN d)) (fun i _ => m - (intOf i).toNat)
      case atStart => exact ⟨0, Nat.zero_le _, rfl, fun j hj => absurd hj (by omega), 0, rfl⟩
      case round =>
        obtain ⟨k, hk, rfl, hto, hd⟩ := hrel
        by_cases hlt : k < m
        · have hrd : Rd wr H A m L := by obtain ⟨d, e⟩ := hd.out; rw [e]; exact HR.out.drewN d
          obtain ⟨b, o, rfl, hbB, hcs⟩ := hrd.at_ (by omega)
          have hc := hcs k hlt
          have HK := Lib.hid (HS.out (L.getD k 0))
          have HN := Lib.hid (HOK.out k hlt)
          have HT : Hid (okS _ (L.getD k 0) = true → ∀ j, j < k + 1 → okS _ (L.getD j 0) = true) := fun e j hj => by
            rcases Nat.lt_succ_iff_lt_or_eq.1 hj with hj | rfl
            · exact hto.out j hj
            · exact e
          clear hcs hto hrd
          obtain ⟨x, hx⟩ : ∃ x, x = L.getD k 0 := ⟨_, rfl⟩
          rw [← hx] at hc HK HN HT
          clear hx
          cases hp : okS _ x with
          | true =>
            have HT2 := Lib.hid (HT.out hp)
            rw [hp] at HK
            clear HT HN hp
            go_wp2_with fail
            go_quiet (refine Calls.quiet_of_same (HK.out _))
            go_wp2
            go_roundw
            case rel => exact ⟨k + 1, by omega, by go_num, HT2, by obtain ⟨d, e⟩ := hd.out; exact ⟨d + nq, by rw [e, World.drewN_drewN]⟩⟩
            case measure => simp [intOf]; omega
          | false =>
            have HN2 := Lib.hid (HN.out hp)
            rw [hp] at HK
            clear HT HN hp
            go_wp2_with fail
            go_quiet (refine Calls.quiet_of_same (HK.out _))
            go_wp2
            go_ret
            obtain ⟨d, e⟩ := hd.out
            exact ⟨by rw [HN2.out]; rfl, d + nq, by rw [e, World.drewN_drewN]⟩
        · obtain rfl : k = m := by omega
          have HY := Lib.hid (HYES.out hto.out)
          go_wp2
          go_ret
          exact ⟨by rw [← HY.out]; rfl, hd.out⟩
  · have HI := Lib.hid (fun W => inQ7 n 3 6 false (by simp; omega) W)
    rw [fam_no fun hh => h36 hh.1]
    clear h h36
    go_enter Try.func23, Try.ntmps23
    go_wp2_with (go_at_call 58; refine (HI.out _).mono ?_; rintro e w' ⟨rfl, rfl⟩)
    go_ret
    exact ⟨rfl, 0, rfl⟩

theorem famS_law (A : Option Addr) (m c H : Nat) (n : Int) (L : List Int) (w : World) (h : Rd w H A m L) (_ : H ≤ w.heap.size) (hm : m ≤ 1048576) :
    Calls Try.prog 23 #[.int .i64 n, .slice A m c] w fun e w' => e = .returned (.bool (famB n L)) ∧ Below w.heap.size w w' :=
  (famS_any A m c H L n w h hm).mono fun _ _ ⟨h1, q, h2⟩ => ⟨h1, h2 ▸ below_drewN (Below.refl _ _) q⟩

theorem asking_info : (Try.prog.info? 48).map (fun i => (i.zero, i.size, i.bytes)) = some (some Value.nilFunc, 1, 8) := by kernel_rfl
/-- Sets that are asked: each one with a variable of its own. -/
def FamV (w : World) (B : Nat) (v : Value) (L : List Int) : Prop :=
  ∃ xs : List Value, w.ownsRow B 48 1 v L.length xs ∧ ∀ k, k < L.length → ∃ b s : Nat, xs[k]? = some (askV b) ∧ B ≤ b ∧ L.getD k 0 = (s : Int) ∧ SetC w b s
/-- The first k, nothing behind. -/
def firstF (vs : List Value) (m : Nat) : List Value := vs ++ List.replicate (m - vs.length) Value.nilFunc
theorem firstF_set (vs : List Value) (m : Nat) (v : Value) (h : vs.length < m) : (firstF vs m).set vs.length v = firstF (vs ++ [v]) m := by
  unfold firstF
  rw [List.set_append_right _ _ (by omega), Nat.sub_self]
  obtain ⟨d, hd⟩ : ∃ d, m - vs.length = d + 1 := ⟨m - vs.length - 1, by omega⟩
  rw [hd, List.length_append, List.length_singleton, show m - (vs.length + 1) = d by omega, List.replicate_succ, List.set_cons_zero, List.append_assoc]
  rfl
theorem firstF_get (vs : List Value) (m : Nat) (h : vs.length < m) : (firstF vs m)[vs.length]? = some Value.nilFunc := by
  unfold firstF
  rw [List.getElem?_append_right (by omega)]
  simp [List.getElem?_replicate]
  omega
theorem firstF_full (vs : List Value) : firstF vs vs.length = vs := by simp [firstF]
theorem SetC.grown {w w' : World} {b s R : Nat} (h : SetC w b s) (hg : w.grownBy w' (some R)) (hne : b ≠ R) : SetC w' b s := by
  refine ⟨Nat.lt_of_lt_of_le h.1 hg.size, ?_⟩
  have e := hg.block b h.1 (by simpa using hne)
  rw [← h.2]
  simp only [World.cell?, e]
theorem askI7 (n : Int) (r : Bool) (h : (decide (3 ≤ n) && decide (n ≤ 6)) = r) (w : World) : Calls Try.prog 89 #[.int .i64 n] w fun e w' => e = .returned (.bool r) ∧ w = w' := by
  by_cases h3 : 3 ≤ n
  · have hr : r = decide (n ≤ 6) := by rw [← h]; simp [h3]
    rw [hr]
    clear h hr
    go_enter Try.func89, Try.ntmps89
    go_wp2
    go_ret
    exact ⟨rfl, rfl⟩
  · have hr : r = false := by rw [← h]; simp; omega
    rw [hr]
    clear h hr
    go_enter Try.func89, Try.ntmps89
    go_wp2
    go_ret
    exact ⟨rfl, rfl⟩

set_option maxRecDepth 10000 in
set_option maxHeartbeats 2000000 in
theorem readFam_in (A : Option Addr) (m c H : Nat) (L : List Int) (n : Nat) (w : World) (h : Rd w H A m L) (hH : H ≤ w.heap.size) (hm : m ≤ 10) (h36 : 3 ≤ n ∧ n ≤ 6) :
    Calls Try.prog 57 #[.int .i64 (n : Int), .slice A m c] w fun e w' => ∃ v, e = .returned (.tuple #[v, .bool (famB n L)]) ∧ (famB n L = true → FamV w' w.heap.size v L) ∧ (famB n L = false → v = .slice none 0 0) ∧ Below w.heap.size w w' := by
  obtain ⟨i0, hi, hz0, hz1, hz2⟩ := info_parts asking_info
  have HL := Lib.hid h.len
  have HI := Lib.hid (fun W => askI7 (n : Int) true (by simp; omega) W)
  have HSI := Lib.hid (fun (s : Int) r (hr : (decide (0 ≤ s) && decide (s ≤ 2 ^ n - 1)) = r) W => setI7_any n s r (by omega) hr W)
  have HFU := Lib.hid (fun W => fullSet_any n W (by omega))
  have HAS := Lib.hid (fun (s : Nat) W => asked_any s W)
  have HOK : Hid (∀ k, k < m → okS n (L.getD k 0) = false → famB (n : Int) L = false) := fun k hk hf => fam_no fun hh => by
    have := hh.2.2 _ (getD_mem L k (by rw [HL.out]; exact hk))
    rw [Int.toNat_natCast, hf] at this
    cases this
  have HYES : Hid ((∀ k, k < m → okS n (L.getD k 0) = true) → famB (n : Int) L = true) := fun hh => fam_yes ⟨by omega, by rw [HL.out]; exact hm, fun s hs => by
    rw [Int.toNat_natCast]
    obtain ⟨k, hk, rfl⟩ := List.getElem_of_mem hs
    have := hh k (by rw [← HL.out]; exact hk)
    simpa [List.getD, hk] using this⟩
  have HPW : Hid ((2 : Int) ^ n - 1 = ((2 ^ n - 1 : Nat) : Int) ∧ (2 : Int) ^ n - 2 = ((2 ^ n - 1 : Nat) : Int) - 1) := ⟨pow7 n (by omega), by have := pow7 n (by omega); omega⟩
  obtain ⟨f, hf⟩ : ∃ f : Nat, f = 2 ^ n - 1 := ⟨_, rfl⟩
  rw [← hf] at HFU HPW
  clear hf
  go_enter Try.func57, Try.ntmps57
  go_wp2_with (first
    | (go_at_call 89; refine (HI.out _).mono ?_; rintro e w' ⟨rfl, rfl⟩)
    | (at_make; refine wpList_make_full _ rfl _ _ 64 rfl w.heap.size 48 i0 Value.nilFunc 1 Try.underlying64 hi hz0 hz1 .i64 .i64 _ _ m rfl rfl rfl rfl (by rw [hz2]; omega) (by unfold maxLen; omega) (Nat.le_refl _) ?_))
  intro w1 hown hgrow
  have hb1 : Below w.heap.size w w1 := (Below.refl _ _).grown hgrow (Nat.le_refl _) (by simp)
  have hf1 : Hid (w1.ownsRow w.heap.size 48 1 (.slice (some ⟨w.heap.size, 0, none⟩) m m) m (firstF [] m)) := by
    have e : (madeCells Value.nilFunc.cells m).toList = firstF [] m := by
      rw [show Value.nilFunc.cells = #[Value.nilFunc] from rfl, toList_madeCells_one]; simp [firstF]
    first
      | (rw [Hid, ← e]; exact hown)
      | (rw [Hid]; simpa [firstF, toList_madeCells_one] using hown)
  have hr1 := Lib.hid (h.below (hb1.mono hH))
  have hBs : w.heap.size < w1.heap.size := (hf1.out.lt _ rfl).2
  clear hown hgrow h
  generalize hB : w.heap.size = B at *
  have HB := Lib.hid hB
  clear hB
  go_wp2
  go_loopw [22] (fun i wr => ∃ k : Nat, k ≤ m ∧ i = .int .i64 k ∧ ∃ vs : List Value, Hid (vs.length = k) ∧ Hid (wr.ownsRow B 48 1 (.slice (some ⟨B, 0, none⟩) m m) m (firstF vs m)) ∧ Hid (∀ j, j < k → ∃ b s : Nat, vs[j]? = some (askV b) ∧ B + 1 ≤ b ∧ L.getD j 0 = (s : Int) ∧ SetC wr b s) ∧ Hid (∀ j, j < k → okS n (L.getD j 0) = true) ∧ Hid (Rd wr H A m L) ∧ Hid (Below B w wr) ∧ B < wr.heap.size) (fun i _ => m - (intOf i).toNat)
  case atStart => exact ⟨0, Nat.zero_le _, rfl, [], rfl, hf1, fun j hj => absurd hj (by omega), fun j hj => absurd hj (by omega), hr1, hb1, hBs⟩
  case round =>
    obtain ⟨k, hk, rfl, vs, hvs, hf, hrows, hto, hrd, HBL, hBw⟩ := hrel
    clear hf1 hr1 hb1
    by_cases hlt : k < m
    · obtain ⟨b, o, rfl, hbB, hcs⟩ := hrd.out.at_ (by omega)
      have hc := hcs k hlt
      have HN := Lib.hid (HOK.out k hlt)
      have HT : Hid (okS n (L.getD k 0) = true → ∀ j, j < k + 1 → okS n (L.getD j 0) = true) := fun e j hj => by
        rcases Nat.lt_succ_iff_lt_or_eq.1 hj with hj | rfl
        · exact hto.out j hj
        · exact e
      clear hcs
      obtain ⟨x, hx⟩ : ∃ x, x = L.getD k 0 := ⟨_, rfl⟩
      have HX := Lib.hid hx
      rw [← hx] at hc HN HT
      clear hx hto
      have hokx : okS n x = (decide (1 ≤ x) && decide (x ≤ (f : Int) - 1)) := by rw [okS, HPW.out.2]
      cases hp : okS n x with
      | false =>
        have HN2 := Lib.hid (HN.out hp)
        rw [hp] at hokx
        have hcase : (decide (0 ≤ x) && decide (x ≤ 2 ^ n - 1)) = false ∨ ((decide (0 ≤ x) && decide (x ≤ 2 ^ n - 1)) = true ∧ x = 0) ∨ ((decide (0 ≤ x) && decide (x ≤ 2 ^ n - 1)) = true ∧ x = (f : Int) ∧ 1 ≤ f) := by
          rw [HPW.out.1]
          simp only [Bool.and_eq_false_iff, decide_eq_false_iff_not, Bool.and_eq_true, decide_eq_true_eq]
          have h1 := hokx.symm
          simp only [Bool.and_eq_false_iff, decide_eq_false_iff_not] at h1
          omega
        have HFN : Hid (famB (n : Int) L = false) := HN2
        clear HN HT hp hokx HYES HOK HX hrows hf
        obtain h1 | ⟨h1, rfl⟩ | ⟨h1, rfl, hf1⟩ := hcase
        · have HS1 := Lib.hid (HSI.out x false h1)
          clear h1
          go_wp2_with (go_at_call 78; refine (HS1.out _).mono ?_; rintro e w' ⟨rfl, rfl⟩)
          go_ret2
          exact ⟨.slice none 0 0, by rw [HFN.out]; rfl, fun e => (by rw [HFN.out] at e; cases e), fun _ => rfl, by rw [HB.out]; exact HBL.out⟩
        · have HS1 := Lib.hid (HSI.out 0 true h1)
          clear h1
          go_wp2_with (go_at_call 78; refine (HS1.out _).mono ?_; rintro e w' ⟨rfl, rfl⟩)
          go_ret2
          exact ⟨.slice none 0 0, by rw [HFN.out]; rfl, fun e => (by rw [HFN.out] at e; cases e), fun _ => rfl, by rw [HB.out]; exact HBL.out⟩
        · have HS1 := Lib.hid (HSI.out f true h1)
          have hne : ((f : Int) == 0) = false := by simp; omega
          clear h1
          go_wp2_with (first
            | (go_at_call 78; refine (HS1.out _).mono ?_; rintro e w' ⟨rfl, rfl⟩)
            | (go_at_call 85; refine (HFU.out _).mono ?_; rintro e w' ⟨rfl, rfl⟩))
          go_ret2
          exact ⟨.slice none 0 0, by rw [HFN.out]; rfl, fun e => (by rw [HFN.out] at e; cases e), fun _ => rfl, by rw [HB.out]; exact HBL.out⟩
      | true =>
        have T1 := Lib.hid (HT.out hp)
        rw [hp] at hokx
        have h1 := hokx.symm
        simp only [Bool.and_eq_true, decide_eq_true_eq] at h1
        have h2 : (decide (0 ≤ x) && decide (x ≤ 2 ^ n - 1)) = true := by rw [HPW.out.1]; simp; omega
        have HS1 := Lib.hid (HSI.out x true h2)
        have hne : (x == 0) = false := by simp; omega
        have hne2 : (x == (f : Int)) = false := by simp; omega
        obtain ⟨s, rfl⟩ : ∃ s : Nat, x = (s : Int) := ⟨x.toNat, by omega⟩
        have HAK := Lib.hid (HAS.out s wr)
        have HSC := Lib.hid (SetC.new wr s)
        have HF2 := Lib.hid (World.ownsRow.alloc hf.out (.cells #[.int .i64 (s : Int)] 3))
        have hbn := (Below.refl wr.heap.size wr).alloc (Nat.le_refl _) (.cells #[.int .i64 (s : Int)] 3)
        have HB2 := Lib.hid (HBL.out.alloc (by omega) (.cells #[.int .i64 (s : Int)] 3))
        have HR2 := Lib.hid (hrd.out.below (hbn.mono (by have := HBL.out.size; omega)))
        have HRO2 : Hid (∀ j, j < k + 1 → ∃ b s' : Nat, (vs ++ [askV wr.heap.size])[j]? = some (askV b) ∧ B + 1 ≤ b ∧ L.getD j 0 = (s' : Int) ∧ SetC (wr.alloc (.cells #[.int .i64 (s : Int)] 3)) b s') := fun j hj => by
          rcases Nat.lt_succ_iff_lt_or_eq.1 hj with hj | rfl
          · obtain ⟨b, s', h1, h2, h3, h4⟩ := hrows.out j hj
            exact ⟨b, s', by rw [List.getElem?_append_left (by rw [hvs.out]; exact hj)]; exact h1, h2, h3, h4.below hbn h4.1⟩
          · exact ⟨wr.heap.size, s, by rw [List.getElem?_append_right (by rw [hvs.out]; omega)]; simp [hvs.out], by omega, HX.out.symm, HSC.out⟩
        have hst := HF2.out.stored k (askV wr.heap.size)
        have hvl : vs.length < m := by rw [hvs.out]; exact hlt
        have e1 := firstF_set vs m (askV wr.heap.size) hvl
        have e2 := firstF_get vs m hvl
        rw [hvs.out] at e1 e2
        rw [e1, World.setCell_alloc_past (w := wr) (.cells #[.int .i64 (s : Int)] 3) B k (askV wr.heap.size) hBw] at hst
        have hcell : (wr.alloc (.cells #[.int .i64 (s : Int)] 3)).cell? ⟨B, k, none⟩ = some Value.nilFunc := by
          rw [HF2.out.cellAt k (by omega)]; exact e2
        have hfr : (wr.alloc (.cells #[.int .i64 (s : Int)] 3)).frozen? ⟨B, k, none⟩ = false := HF2.out.frozenAt _
        have HST := Lib.hid hst
        clear hst e1 e2 HF2 HN HT hp hokx h1 h2 hrows hf hrd hbn HSC
        go_wp2_with (first
          | (go_at_call 78; refine (HS1.out _).mono ?_; rintro e w' ⟨rfl, rfl⟩)
          | (go_at_call 85; refine (HFU.out _).mono ?_; rintro e w' ⟨rfl, rfl⟩)
          | (go_at_call 79; refine HAK.out.mono ?_; rintro e w2 ⟨rfl, rfl⟩))
        go_roundw
        case rel =>
          refine ⟨k + 1, by omega, by go_num, vs ++ [askV wr.heap.size], by simp [Hid, hvs.out], Lib.hid HST.out.1, ?_, T1, ?_, ?_, ?_⟩
          · intro j hj
            obtain ⟨b, s', h1, h2, h3, h4⟩ := HRO2.out j hj
            exact ⟨b, s', h1, h2, h3, h4.grown HST.out.2 (by omega)⟩
          · exact Lib.hid (HR2.out.below ((Below.refl H _).grown HST.out.2 (by simp; omega) (by simp; omega)))
          · exact HB2.out.grown HST.out.2 (by simp; omega) (by simp)
          · have h1 := HST.out.2.size
            have h2 : (wr.alloc (.cells #[.int .i64 (s : Int)] 3)).heap.size = wr.heap.size + 1 := by simp
            rw [h2] at h1
            exact Nat.lt_of_lt_of_le (Nat.lt_succ_of_lt hBw) h1
        case measure => simp [intOf]; omega
    · obtain rfl : k = m := by omega
      have HY := Lib.hid (HYES.out hto.out)
      go_wp2
      go_ret2
      refine ⟨_, by rw [HY.out]; rfl, fun _ => ?_, fun e => (by rw [HY.out] at e; cases e), by rw [HB.out]; exact HBL.out⟩
      refine ⟨vs, ?_, fun j hj => ?_⟩
      · have := hf.out
        rw [← hvs.out, firstF_full] at this
        rw [HL.out, ← hvs.out, HB.out]; exact this
      · obtain ⟨b, s, h1, h2, h3, h4⟩ := hrows.out j (by rw [← HL.out]; exact hj)
        exact ⟨b, s, h1, by have := HB.out; omega, h3, h4⟩

theorem readFam_out (A : Option Addr) (m c : Nat) (L : List Int) (n : Int) (w : World) (hL : L.length = m) (hm : m ≤ 1048576) (h : ¬ (3 ≤ n ∧ n ≤ 6) ∨ 10 < m) :
    Calls Try.prog 57 #[.int .i64 n, .slice A m c] w fun e w' => e = .returned (.tuple #[.slice none 0 0, .bool (famB n L)]) ∧ w = w' := by
  rw [fam_no fun hh => by
    rcases h with h | h
    · exact h hh.1
    · have := hh.2.1; omega]
  by_cases h36 : 3 ≤ n ∧ n ≤ 6
  · have HI := Lib.hid (fun W => askI7 n true (by simp; omega) W)
    have hm10 : 10 < m := by rcases h with h | h; exact absurd h36 h; exact h
    clear h h36 hL
    go_enter Try.func57, Try.ntmps57
    go_wp2_with (go_at_call 89; refine (HI.out _).mono ?_; rintro e w' ⟨rfl, rfl⟩)
    go_ret2
    exact ⟨rfl, rfl⟩
  · have HI := Lib.hid (fun W => askI7 n false (by simp; omega) W)
    clear h h36 hL
    go_enter Try.func57, Try.ntmps57
    go_wp2_with (go_at_call 89; refine (HI.out _).mono ?_; rintro e w' ⟨rfl, rfl⟩)
    go_ret2
    exact ⟨rfl, rfl⟩

theorem readFam_any (A : Option Addr) (m c H : Nat) (L : List Int) (n : Int) (w : World) (h : Rd w H A m L) (hH : H ≤ w.heap.size) (hm : m ≤ 1048576) :
    Calls Try.prog 57 #[.int .i64 n, .slice A m c] w fun e w' => ∃ v, e = .returned (.tuple #[v, .bool (famB n L)]) ∧ (famB n L = true → FamV w' w.heap.size v L) ∧ (famB n L = false → v = .slice none 0 0) ∧ Below w.heap.size w w' := by
  by_cases hc : (3 ≤ n ∧ n ≤ 6) ∧ m ≤ 10
  · obtain ⟨z, rfl⟩ : ∃ z : Nat, n = (z : Int) := ⟨n.toNat, by omega⟩
    exact readFam_in A m c H L z w h hH hc.2 (by omega)
  · have hc' : ¬ (3 ≤ n ∧ n ≤ 6) ∨ 10 < m := by omega
    refine (readFam_out A m c L n w h.len hm hc').mono ?_
    rintro e w' ⟨rfl, rfl⟩
    have hf : famB n L = false := fam_no fun hh => by
      rcases hc' with h1 | h1
      · exact h1 hh.1
      · have := hh.2.1; rw [h.len] at this; omega
    exact ⟨_, rfl, fun e => (by rw [hf] at e; cases e), fun _ => rfl, Below.refl _ _⟩

theorem FamV.slice {w : World} {B : Nat} {v : Value} {L : List Int} (h : FamV w B v L) : ∃ A c, v = .slice A L.length c := by
  obtain ⟨xs, h1, _⟩ := h
  rcases h1.2 with ⟨e, h0⟩ | ⟨g, cap, cur, e, _⟩
  · exact ⟨none, 0, by rw [e, h0]⟩
  · exact ⟨_, cap, e⟩
theorem famI_any (A : Option Addr) (m c H : Nat) (n : Int) (L : List Int) (w : World) (h : Rd w H A m L) (hH : H ≤ w.heap.size) (hm : m ≤ 1048576) (_ : m ≤ c) (_ : c ≤ 9223372036854775807) :
    Calls Try.prog 22 #[.int .i64 n, .slice A m c] w fun e w' => e = .returned (.bool (famB n L)) ∧ Below w.heap.size w w' := by
  have HR := Lib.hid (readFam_any A m c H L n w h hH hm)
  clear h
  go_enter Try.func22, Try.ntmps22
  go_wp2_with fail
  refine HR.out.mono ?_
  rintro e w1 ⟨v, rfl, h1, h2, hb⟩
  obtain ⟨A1, n1, c1, rfl⟩ : ∃ A1 n1 c1, v = .slice A1 n1 c1 := by
    cases hf : famB n L with
    | true =>
      obtain ⟨A1, c1, e⟩ := (h1 hf).slice
      exact ⟨A1, _, c1, e⟩
    | false => exact ⟨none, 0, 0, h2 hf⟩
  clear h1 h2
  go_wp2
  go_ret
  exact ⟨rfl, hb⟩
end Go.Proofs.Ytheoepbcejlncaa

/- merged -/
import Derived.Test.YthfbllgfcidhkaaClo
import Derived.Test.YthfbllgfcidhkaaSure
import Derived.Deep.LoopGhost
import Derived.Test.YthfbllgfcidhkaaMWork
import Derived.Test.YthfbllgfcidhkaaShared
import Derived.Test.YthfbllgfcidhkaaRingT
namespace Go.Proofs.Ythfbllgfcidhkaa
open Go.ChangeShapes Go.WideShapes Go.ChangeAt Go.RowKit

def codeN (a b c : Nat) : Nat := 36 * a + 6 * b + c
theorem codeN_lt {a b c : Nat} (ha : a < 6) (hb : b < 6) (hc : c < 6) : codeN a b c < 216 := by unfold codeN; omega

set_option maxRecDepth 10000 in
theorem code_any (a b c : Nat) (w : World) (ha : a < 6) (hb : b < 6) (hc : c < 6) :
    Calls Try.prog 52 #[.int .i64 (a : Int), .int .i64 (b : Int), .int .i64 (c : Int)] w fun e w' => e = .returned (.int .i64 ((codeN a b c : Nat) : Int)) ∧ w' = w := by
  have hw1 : IntKind.i64.wrap (36 * (a : Int)) = 36 * (a : Int) := IntWalk.i64_in _ (by omega)
  have hw2 : IntKind.i64.wrap (6 * (b : Int)) = 6 * (b : Int) := IntWalk.i64_in _ (by omega)
  have hw3 : IntKind.i64.wrap (36 * (a : Int) + 6 * (b : Int)) = 36 * (a : Int) + 6 * (b : Int) := IntWalk.i64_in _ (by omega)
  have hw4 : IntKind.i64.wrap (36 * (a : Int) + 6 * (b : Int) + (c : Int)) = 36 * (a : Int) + 6 * (b : Int) + (c : Int) := IntWalk.i64_in _ (by omega)
  have HE : Hid (((codeN a b c : Nat) : Int) = 36 * (a : Int) + 6 * (b : Int) + (c : Int)) := by simp [Hid, codeN]
  go_enter Try.func52, Try.ntmps52
  go_wp2
  go_ret
  exact ⟨by rw [HE.out]; rfl, rfl⟩

/-- Block g holds 216 bools: those are true whose three is in K. -/
def Mk (w : World) (g : Nat) (K : List (List Int)) : Prop :=
  ∃ P : List Bool, P.length = 216 ∧ w.heap[g]? = some (.cells (P.map Value.bool).toArray 4 (0, 0)) ∧ ∀ a b c : Nat, a < 6 → b < 6 → c < 6 → P[codeN a b c]? = some (decide ([(a : Int), (b : Int), (c : Int)] ∈ K))
section
variable {w w' : World} {g D : Nat} {K : List (List Int)}
theorem Mk.lt (h : Mk w g K) : g < w.heap.size := by
  obtain ⟨P, _, hg, _⟩ := h
  exact (Array.getElem?_eq_some_iff.1 hg).1
theorem Mk.same (h : Mk w g K) (hk : w'.heap[g]? = w.heap[g]?) : Mk w' g K := by
  obtain ⟨P, hl, hg, hP⟩ := h
  exact ⟨P, hl, hk.trans hg, hP⟩
theorem Mk.below (h : Mk w g K) (hb : Below D w w') (hD : g < D) : Mk w' g K := h.same (hb.block g hD)
theorem Mk.drewN (h : Mk w g K) (n : Nat) : Mk (w.drewN n) g K := h
theorem Mk.drew (h : Mk w g K) : Mk w.drew g K := h
theorem Mk.congr {K' : List (List Int)} (h : Mk w g K) (hK : ∀ t, t ∈ K ↔ t ∈ K') : Mk w g K' := by
  obtain ⟨P, hl, hg, hP⟩ := h
  refine ⟨P, hl, hg, fun a b c ha hb hc => ?_⟩
  rw [hP a b c ha hb hc]
  congr 1
  rw [Bool.eq_iff_iff]
  simp [hK]
theorem Mk.cell (h : Mk w g K) {a b c : Nat} (ha : a < 6) (hb : b < 6) (hc : c < 6) : w.cell? ⟨g, codeN a b c, none⟩ = some (.bool (decide ([(a : Int), (b : Int), (c : Int)] ∈ K))) := by
  obtain ⟨P, hl, hg, hP⟩ := h
  rw [cell_of_row w g _ _ _ (0, 0) hg, List.getElem?_toArray, List.getElem?_map, hP a b c ha hb hc]
  rfl
theorem Mk.frozen (h : Mk w g K) (i : Nat) : w.frozen? ⟨g, i, none⟩ = false := by
  obtain ⟨P, hl, hg, hP⟩ := h
  exact frozen_of_row w g i _ _ hg
theorem Mk.set (h : Mk w g K) {a b c : Nat} (ha : a < 6) (hb : b < 6) (hc : c < 6) : Mk (w.setCell ⟨g, codeN a b c, none⟩ (.bool true)) g ([(a : Int), (b : Int), (c : Int)] :: K) := by
  obtain ⟨P, hl, hg, hP⟩ := h
  refine ⟨P.set (codeN a b c) true, by simp [hl], ?_, fun a' b' c' ha' hb' hc' => ?_⟩
  · rw [List.map_set, ← List.setIfInBounds_toArray]
    simp [World.setCell, Array.getElem?_modify, hg]
  · rw [List.getElem?_set]
    by_cases e : codeN a b c = codeN a' b' c'
    · have e3 : a = a' ∧ b = b' ∧ c = c' := by unfold codeN at e; omega
      obtain ⟨rfl, rfl, rfl⟩ := e3
      have := codeN_lt ha hb hc
      simp [hl, this]
    · rw [if_neg e, hP a' b' c' ha' hb' hc']
      congr 1
      rw [Bool.eq_iff_iff]
      simp only [decide_eq_true_eq, List.mem_cons]
      constructor
      · exact .inr
      · rintro (e2 | e2)
        · exfalso
          injection e2 with e4 e5
          injection e5 with e5 e6
          injection e6 with e6 _
          have f1 : a' = a := by omega
          have f2 : b' = b := by omega
          have f3 : c' = c := by omega
          exact e (by rw [f1, f2, f3])
        · exact e2
theorem Mk.made (h : w.ownsRow D 4 1 (.slice (some ⟨g, 0, none⟩) 216 216) 216 (List.replicate 216 (.bool false))) : Mk w g [] := by
  rcases h.2 with ⟨e, _⟩ | ⟨g', cap, cur, e, hB, hg, hc, hm, hs, ht⟩
  · cases e
  · injection e with e1 e2 e3
    injection e1 with e1
    injection e1 with e1
    subst e1; subst e3
    have hcur : cur.toList = List.replicate 216 (.bool false) := by
      rw [← ht, List.take_of_length_le (by simp [hs])]
    refine ⟨List.replicate 216 false, List.length_replicate, ?_, fun a b c ha hb hc => ?_⟩
    · rw [hg]
      have : cur = ((List.replicate 216 false).map Value.bool).toArray := by
        rw [List.map_replicate, ← hcur]
      rw [this]
    · have := codeN_lt ha hb hc
      rw [List.getElem?_replicate, if_pos this]
      simp
theorem GrowS.set {v : Value} {L : List (List Int)} {B : Nat} (h : GrowS w B v L) (hg : g < B) (i : Nat) (u : Value) : GrowS (w.setCell ⟨g, i, none⟩ u) B v L :=
  h.keep fun k hk _ => Below.heap_setCell w _ u k (by simp; omega)
end

/-- What holds of one three when nothing is to be added for it, asked up to a point. -/
def Clo1 (K : List (List Int)) (t : List Int) (k : Nat) : Prop :=
  ∀ x y z : Int, t = [x, y, z] → t ∈ K → [y, z, x] ∈ K ∧ ∀ u : Nat, u < k → (u : Int) ≠ x → (u : Int) ≠ y → (u : Int) ≠ z → [x, z, (u : Int)] ∈ K → [x, y, (u : Int)] ∈ K
theorem clo_done {n : Nat} {L K : List (List Int)} (hL : ∀ t ∈ L, Thr (n : Int) t) (hin : ∀ t ∈ L, t ∈ K) (hs : ∀ t ∈ K, Cl L t) (hc : ∀ t ∈ everyL n, Clo1 K t n) (t : List Int) : t ∈ K ↔ Cl L t := by
  have hev : ∀ t ∈ K, t ∈ everyL n := fun t ht => (every_thr n t).2 ((hs t ht).thr hL)
  refine ⟨hs t, fun h => h.least (S := fun t => t ∈ K) ⟨fun a b c h => (hc _ (hev _ h) a b c rfl h).1, fun a b c d h1 h2 hne => ?_⟩ hin⟩
  have hd := (thr3 _ _ _ _).1 ((hs _ h2).thr hL)
  have h3 := (hc _ (hev _ h1) a b c rfl h1).2 d.toNat (by omega) (by omega) (by omega) (by omega)
  have e : ((d.toNat : Nat) : Int) = d := by omega
  rw [e] at h3
  exact h3 h2
theorem clo_mem {K : List (List Int)} {x y z : Int} (h : [y, z, x] ∈ K) : Clo1 K [x, y, z] 0 := fun x' y' z' e _ => by
  injection e with e1 e2
  injection e2 with e2 e3
  injection e3 with e3 _
  subst e1; subst e2; subst e3
  exact ⟨h, fun u hu => absurd hu (by omega)⟩
theorem clo_not {K : List (List Int)} {t : List Int} (h : t ∉ K) (k : Nat) : Clo1 K t k := fun _ _ _ _ ht => absurd ht h
theorem clo_step {K : List (List Int)} {x y z : Int} {k : Nat} (h : Clo1 K [x, y, z] k) (hk : (k : Int) ≠ x → (k : Int) ≠ y → (k : Int) ≠ z → [x, z, (k : Int)] ∈ K → [x, y, (k : Int)] ∈ K) : Clo1 K [x, y, z] (k + 1) := fun x' y' z' e ht => by
  obtain ⟨h1, h2⟩ := h x' y' z' e ht
  injection e with e1 e2
  injection e2 with e2 e3
  injection e3 with e3 _
  subst e1; subst e2; subst e3
  refine ⟨h1, fun u hu => ?_⟩
  rcases Nat.lt_succ_iff_lt_or_eq.1 hu with hu | rfl
  · exact h2 u hu
  · exact hk
theorem thr_nat {n : Nat} {t : List Int} (h : Thr (n : Int) t) : ∃ a b c : Nat, t = [(a : Int), (b : Int), (c : Int)] ∧ a < n ∧ b < n ∧ c < n ∧ a ≠ b ∧ b ≠ c ∧ a ≠ c := by
  obtain ⟨x, y, z, rfl⟩ := of_three h.1
  rw [thr3] at h
  refine ⟨x.toNat, y.toNat, z.toNat, ?_, by omega, by omega, by omega, by omega, by omega, by omega⟩
  rw [show ((x.toNat : Nat) : Int) = x by omega, show ((y.toNat : Nat) : Int) = y by omega, show ((z.toNat : Nat) : Int) = z by omega]
end Go.Proofs.Ythfbllgfcidhkaa

namespace Go.Proofs.Ythfbllgfcidhkaa
open Go.ChangeShapes Go.WideShapes Go.ChangeAt Go.RowKit

theorem made_bools : (madeCells #[Value.bool false] 216).toList = List.replicate 216 (.bool false) := by kernel_rfl
theorem bool_info : (Try.prog.info? 4).map (fun i => (i.zero, i.size, i.bytes)) = some (some (.bool false), 1, 1) := by kernel_rfl

set_option maxRecDepth 10000 in
set_option maxHeartbeats 8000000 in
theorem closedS_any (A : Option Addr) (n c H m : Nat) (L : List (List Int)) (w : World) (h : RdS w H A n L) (hH : H ≤ w.heap.size) (h3 : 3 ≤ m) (h6 : m ≤ 6) (hn : n ≤ 40) (hL : ∀ t ∈ L, Thr (m : Int) t) :
    Calls Try.prog 34 #[.int .i64 (m : Int), .slice A n c] w fun e w' => e = .returned (.slice (some ⟨w.heap.size, 0, none⟩) 216 216) ∧ (∃ K, Mk w' w.heap.size K ∧ ∀ t, t ∈ K ↔ Cl L t) ∧ Below w.heap.size w w' := by
  obtain ⟨i0, hi, hz0, hz1, hz2⟩ := info_parts bool_info
  have HN := Lib.hid h.len
  have HR0 := Lib.hid h
  have HL := Lib.hid hL
  have HCOD := Lib.hid (fun (a b c : Nat) (ha : a < 6) (hb : b < 6) (hc : c < 6) W => code_any a b c W ha hb hc)
  clear h hL
  go_enter Try.func34, Try.ntmps34
  go_wp2_with (at_make; refine wpList_make_full _ rfl _ _ 43 rfl w.heap.size 4 i0 (.bool false) 1 Try.underlying43 hi hz0 hz1 .i64 .i64 _ _ 216 rfl rfl rfl rfl (by rw [hz2]; omega) (by unfold maxLen; omega) (Nat.le_refl _) ?_)
  intro w1 hown hgrow
  rw [made_bools] at hown
  have HB1 : Hid (Below w.heap.size w w1) := Lib.hid ((Below.refl _ _).grown hgrow (Nat.le_refl _) (by simp))
  have HM1 : Hid (Mk w1 w.heap.size (L.take 0)) := Lib.hid (Mk.made hown)
  have HR1 := Lib.hid (HR0.out.below (HB1.out.mono hH))
  clear hown hgrow HR0
  generalize hB : w.heap.size = B at *
  have HB := Lib.hid hB
  clear hB
  go_wp2
  go_loopw [6] (fun i wr => ∃ k : Nat, k ≤ n ∧ i = .int .i64 k ∧ Hid (Mk wr B (L.take k)) ∧ Hid (RdS wr H A n L) ∧ Hid (Below B w wr)) (fun i _ => n - (intOf i).toNat)
  case atStart => exact ⟨0, Nat.zero_le _, rfl, HM1, HR1, HB1⟩
  case round =>
    obtain ⟨k, hk, rfl, hmk, hrd, hbl⟩ := hrel
    clear HR1 HM1 HB1
    have hBw := hmk.out.lt
    by_cases hlt : k < n
    · have hkl : k < L.length := by rw [HN.out]; exact hlt
      obtain ⟨lb, lo, e, hbB, hcs⟩ := hrd.out.at_ (by omega)
      subst e
      obtain ⟨Ak, ck, hc, hr, hcz, hcm⟩ := hcs k hlt
      have hthr := HL.out _ (rowK_mem hkl)
      obtain ⟨x, y, z, ex, hx, hy, hz, _⟩ := thr_nat hthr
      rw [ex] at hr hc hcz
      obtain ⟨b', o', e, hbH, c0, c1, c2⟩ := rd3 hr
      subst e
      obtain ⟨q, hq⟩ : ∃ q, q = codeN x y z := ⟨_, rfl⟩
      have q1 : q < 216 := by rw [hq]; exact codeN_lt (by omega) (by omega) (by omega)
      have HC := Lib.hid (fun W => HCOD.out x y z (by omega) (by omega) (by omega) W)
      have HST := Lib.hid (hmk.out.drew.set (a := x) (b := y) (c := z) (by omega) (by omega) (by omega))
      have HMEM : Hid (∀ t, t ∈ [(x : Int), (y : Int), (z : Int)] :: L.take k ↔ t ∈ L.take (k + 1)) := by
        intro t
        rw [List.take_succ_eq_append_getElem hkl, List.mem_append, List.mem_singleton, List.mem_cons]
        have e : L[k] = [(x : Int), (y : Int), (z : Int)] := by rw [← ex]; simp [rowK, List.getD, hkl]
        rw [e]
        constructor
        · rintro (h | h)
          · exact .inr h
          · exact .inl h
        · rintro (h | h)
          · exact .inr h
          · exact .inl h
      have m1 := hmk.out.cell (a := x) (b := y) (c := z) (by omega) (by omega) (by omega)
      have f1 := hmk.out.frozen (codeN x y z)
      rw [← hq] at HC HST m1 f1
      obtain ⟨r, hr1⟩ : ∃ r, r = decide ([(x : Int), (y : Int), (z : Int)] ∈ L.take k) := ⟨_, rfl⟩
      rw [← hr1] at m1
      have hcc : wr.cell? ⟨lb, lo + k, none⟩ = some (.slice (some ⟨b', o', none⟩) 3 ck) := hc
      have m1' : wr.drew.cell? ⟨B, q, none⟩ = some (.bool r) := m1
      have f1' : wr.drew.frozen? ⟨B, q, none⟩ = false := f1
      have q1' : (q : Int) < 216 := by omega
      have q0' : (0 : Int) ≤ (q : Int) := by omega
      have HK := Lib.hid (fun (V : World) (hV : Below H wr V) => (⟨(hV.cell (p := ⟨lb, lo + k, none⟩) (by simp; omega)).trans hcc, (hV.cell (p := ⟨b', o', none⟩) (by simp; omega)).trans c0, (hV.cell (p := ⟨b', o' + 1, none⟩) (by simp; omega)).trans c1, (hV.cell (p := ⟨b', o' + 2, none⟩) (by simp; omega)).trans c2⟩ :
        V.cell? ⟨lb, lo + k, none⟩ = some (.slice (some ⟨b', o', none⟩) 3 ck) ∧ V.cell? ⟨b', o', none⟩ = some (.int .i64 (x : Int)) ∧ V.cell? ⟨b', o' + 1, none⟩ = some (.int .i64 (y : Int)) ∧ V.cell? ⟨b', o' + 2, none⟩ = some (.int .i64 (z : Int))))
      clear hcs hr hthr ex hq hr1 hkl hc m1 f1 hcc c0 c1 c2
      go_wp2
      go_region_held3 (fun V => V.cell? ⟨lb, lo + k, none⟩ = some (.slice (some ⟨b', o', none⟩) 3 ck) ∧ V.cell? ⟨b', o', none⟩ = some (.int .i64 (x : Int)) ∧ V.cell? ⟨b', o' + 1, none⟩ = some (.int .i64 (y : Int)) ∧ V.cell? ⟨b', o' + 2, none⟩ = some (.int .i64 (z : Int)))
        (first
          | exact HK.out _ (Below.refl _ _).drew
          | exact HK.out _ ((Below.refl H wr).drew.setCell (by simp; omega) _)
          | exact HK.out _ (((Below.refl H wr).setCell (by simp; omega) _).drew))
        (first
          | (go_at_call 52; refine Calls.mono (HC.out _) ?_; rintro e w' ⟨rfl, rfl⟩))
      all_goals
        clear m1' f1'
        go_wp2
        go_roundw
        case rel => exact ⟨k + 1, by omega, by go_num, Lib.hid ((HST.out.same rfl).congr HMEM.out), Lib.hid (hrd.out.below (by first | exact (Below.refl H wr).drew.setCell (by simp; omega) _ | exact ((Below.refl H wr).setCell (by simp; omega) _).drew)), Lib.hid (by first | exact hbl.out.drew.setCell (Nat.le_refl _) _ | exact (hbl.out.setCell (Nat.le_refl _) _).drew)⟩
        case measure => simp [intOf]; omega
    · obtain rfl : k = n := by omega
      have HIN : Hid (∀ t ∈ L, t ∈ L.take k) := by rw [Hid, List.take_of_length_le (by rw [HN.out]; omega)]; exact fun t ht => ht
      have HSO : Hid (∀ t ∈ L.take k, Cl L t) := fun t ht => .base (List.mem_of_mem_take ht)
      obtain ⟨K0, hK0⟩ : ∃ K0, K0 = L.take k := ⟨_, rfl⟩
      rw [← hK0] at hmk HIN HSO
      clear hK0 hrd hlt hk
      go_wp2
      go_loopg [7] (2 * untold m K0 + 1) (fun q v wo => ∃ gr K, v = .bool gr ∧ Hid (q = 2 * untold m K + (if gr = true then 1 else 0)) ∧ Hid (Mk wo B K) ∧ Hid (∀ t ∈ L, t ∈ K) ∧ Hid (∀ t ∈ K, Cl L t) ∧ Hid (gr = false → ∀ t ∈ everyL m, Clo1 K t m) ∧ Hid (Below B w wo))
      case atStart => exact ⟨true, K0, rfl, Lib.hid (by simp), hmk, HIN, HSO, Lib.hid (fun e => by cases e), hbl⟩
      case round =>
        obtain ⟨gr, K1, rfl, hq, hmo, hin, hso, hcl, hbo⟩ := hrel
        clear hmk HIN HSO hbl hBw
        cases gr with
        | false =>
          have HD := Lib.hid (clo_done HL.out hin.out hso.out (hcl.out rfl))
          go_wp2
          go_ret
          exact ⟨by rw [HB.out]; rfl, ⟨K1, by rw [HB.out]; exact hmo.out, HD.out⟩, by rw [HB.out]; exact hbo.out⟩
        | true =>
          have hBo := hmo.out.lt
          have HEV := Lib.hid (l2Every_any m wr (by omega))
          clear hcl
          go_wp2_with fail
          refine HEV.out.mono ?_
          rintro e w3 ⟨ve, rfl, hge, hb3⟩
          obtain ⟨Ae, ce, e, hce0, _⟩ := hge.slice
          subst e
          have HE3 : Hid (GrowS w3 (B + 1) (.slice Ae (everyL m).length ce) (everyL m)) := by
            obtain ⟨xs, p1, p2⟩ := hge
            refine ⟨xs, own_rowLess p1 (by omega), fun k hk => ?_⟩
            obtain ⟨vk, q1, q2⟩ := p2 k hk
            exact ⟨vk, q1, q2.less (by omega)⟩
          have HM3 := Lib.hid (hmo.out.below hb3 hBo)
          have HB3 := Lib.hid (hbo.out.trans (hb3.mono (by omega)))
          have HEL := Lib.hid (everyL_len m (by omega))
          obtain ⟨E, hE⟩ : ∃ E, E = everyL m := ⟨_, rfl⟩
          have HEE := Lib.hid hE
          rw [← hE] at HE3 HEL ⊢
          obtain ⟨z, hz⟩ : ∃ z, z = E.length := ⟨_, rfl⟩
          have HZ := Lib.hid hz
          rw [← hz] at HE3 HEL ⊢
          have hz343 : z ≤ 343 := HEL.out
          obtain ⟨u0, hu0⟩ : ∃ u0, u0 = untold m K1 := ⟨_, rfl⟩
          have HU0 : Hid (untold m K1 ≤ u0) := by rw [hu0]; exact Nat.le_refl _
          rw [← hu0] at hq
          clear hE hz hge hb3 hu0 HEV hbo hmo hce0 hBo
          go_wp2_with fail
          go_loopw [7, 9] (fun v i wj => ∃ (j : Nat) (gr : Bool) (K : List (List Int)), j ≤ z ∧ i = .int .i64 j ∧ v = .bool gr ∧ Hid (Mk wj B K) ∧ Hid (∀ t ∈ L, t ∈ K) ∧ Hid (∀ t ∈ K, Cl L t) ∧ Hid (gr = false → ∀ p, p < j → Clo1 K (rowK E p) m) ∧ Hid (gr = true → untold m K < u0) ∧ Hid (untold m K ≤ u0) ∧ Hid (GrowS wj (B + 1) (.slice Ae z ce) E) ∧ Hid (Below B w wj)) (fun _ i _ => z - (intOf i).toNat)
          case atStart => exact ⟨0, false, K1, Nat.zero_le _, rfl, rfl, HM3, hin, hso, Lib.hid (fun _ p hp => absurd hp (by omega)), Lib.hid (fun e => by cases e), HU0, HE3, HB3⟩
          case round =>
            obtain ⟨j, gr, K, hj, rfl, rfl, hmk, hin2, hso2, hcl, hut, hul, hge, hbl⟩ := hrel
            clear HM3 hin hso HU0 HE3 HB3
            have hBw := hmk.out.lt
            by_cases hlt : j < z
            · have hjl : j < E.length := by rw [← HZ.out]; exact hlt
              have hthr : Thr (m : Int) (rowK E j) := by
                have := rowK_mem hjl
                rw [HEE.out] at this ⊢
                exact (every_thr m _).1 this
              obtain ⟨a, b, c', et, ha, hb, hc, hab, hbc, hac⟩ := thr_nat hthr
              obtain ⟨g, cg, A', d', e0, hcr, hrow⟩ := hge.out.row hjl
              rw [← HZ.out] at e0
              injection e0 with e1 _ e3
              subst e3
              subst e1
              rw [et] at hcr hrow
              have HET := Lib.hid et
              obtain ⟨b', o', e, hbH, c0, c1, c2⟩ := rd3 hrow.1.rd.2
              subst e
              change wr.cell? ⟨g, j, none⟩ = some (.slice (some ⟨b', o', none⟩) 3 d') at hcr
              obtain ⟨q1, hq1⟩ : ∃ q, q = codeN a b c' := ⟨_, rfl⟩
              obtain ⟨q2, hq2⟩ : ∃ q, q = codeN b c' a := ⟨_, rfl⟩
              have l1 : q1 < 216 := by rw [hq1]; exact codeN_lt (by omega) (by omega) (by omega)
              have l2 : q2 < 216 := by rw [hq2]; exact codeN_lt (by omega) (by omega) (by omega)
              have HC1 := Lib.hid (fun W => HCOD.out a b c' (by omega) (by omega) (by omega) W)
              have HC2 := Lib.hid (fun W => HCOD.out b c' a (by omega) (by omega) (by omega) W)
              have HS2 := Lib.hid (hmk.out.set (a := b) (b := c') (c := a) (by omega) (by omega) (by omega))
              have m1 := hmk.out.cell (a := a) (b := b) (c := c') (by omega) (by omega) (by omega)
              have m2 := hmk.out.cell (a := b) (b := c') (c := a) (by omega) (by omega) (by omega)
              have f2 := hmk.out.frozen (codeN b c' a)
              rw [← hq1] at HC1 m1
              rw [← hq2] at HC2 HS2 m2 f2
              have hTH : Thr (m : Int) [(a : Int), (b : Int), (c' : Int)] := by rw [← et]; exact hthr
              have hTT : Thr (m : Int) [(b : Int), (c' : Int), (a : Int)] := by
                rw [thr3] at hTH ⊢
                obtain ⟨h1, h2, h3, h4, h5, h6⟩ := hTH
                exact ⟨h2, h3, h1, h6, Ne.symm h4, Ne.symm h5⟩
              have HTT := Lib.hid hTT
              clear hrow hjl hthr et hq1 hq2 hTH hTT
              by_cases hy1 : [(a : Int), (b : Int), (c' : Int)] ∈ K
              · have HCT := Lib.hid (hso2.out _ hy1)
                rw [decide_eq_true hy1] at m1
                have HY1 := Lib.hid hy1
                clear hy1
                by_cases hy2 : [(b : Int), (c' : Int), (a : Int)] ∈ K
                · rw [decide_eq_true hy2] at m2
                  have HY2 := Lib.hid hy2
                  clear hy2
                  go_wp2_with fail
                  refine Calls.mono (HC1.out _) ?_
                  rintro e w' ⟨rfl, rfl⟩
                  go_wp2_with fail
                  refine Calls.mono (HC2.out _) ?_
                  rintro e w' ⟨rfl, rfl⟩
                  go_wp2_with fail
                  have HCL2 : Hid (gr = false → (∀ p, p < j → Clo1 K (rowK E p) m) ∧ Clo1 K [(a : Int), (b : Int), (c' : Int)] 0) := fun e => ⟨hcl.out e, clo_mem HY2.out⟩
                  clear m1 m2 f2 c0 c1 c2 hcr hcl hBw HS2
                  go_loopw [7, 13] (fun v i wl => ∃ (u : Nat) (gr : Bool) (K : List (List Int)), u ≤ m ∧ i = .int .i64 u ∧ v = .bool gr ∧ Hid (Mk wl B K) ∧ Hid (∀ t ∈ L, t ∈ K) ∧ Hid (∀ t ∈ K, Cl L t) ∧ Hid (gr = false → (∀ p, p < j → Clo1 K (rowK E p) m) ∧ Clo1 K [(a : Int), (b : Int), (c' : Int)] u) ∧ Hid (gr = true → untold m K < u0) ∧ Hid (untold m K ≤ u0) ∧ Hid (GrowS wl (B + 1) (.slice (some ⟨g, 0, none⟩) z ce) E) ∧ Hid (Below B w wl)) (fun _ i _ => m - (intOf i).toNat)
                  case atStart => exact ⟨0, gr, K, Nat.zero_le _, rfl, rfl, hmk, hin2, hso2, HCL2, hut, hul, hge, hbl⟩
                  case round =>
                    obtain ⟨u, gr, K, hu, rfl, rfl, hmk, hin2, hso2, hcl, hut, hul, hge, hbl⟩ := hrel
                    clear HCL2
                    have hBw := hmk.out.lt
                    by_cases hlu : u < m
                    · by_cases ea : u = a
                      · have b1 : ((u : Int) != (a : Int)) = false := by simp; omega
                        have HEA : Hid ((u : Int) = (a : Int)) := by rw [ea]; rfl
                        clear ea
                        have HST : Hid (gr = false → (∀ p, p < j → Clo1 K (rowK E p) m) ∧ Clo1 K [(a : Int), (b : Int), (c' : Int)] (u + 1)) := fun e => ⟨(hcl.out e).1, clo_step (hcl.out e).2 (fun h => absurd HEA.out h)⟩
                        go_wp2
                        go_roundw
                        case rel => exact ⟨u + 1, gr, K, by omega, by go_num, rfl, hmk, hin2, hso2, HST, hut, hul, hge, hbl⟩
                        case measure => simp [intOf]; omega
                      have b1 : ((u : Int) != (a : Int)) = true := by simp; omega
                      clear ea
                      by_cases eb : u = b
                      · have b2 : ((u : Int) != (b : Int)) = false := by simp; omega
                        have HEA : Hid ((u : Int) = (b : Int)) := by rw [eb]; rfl
                        clear eb
                        have HST : Hid (gr = false → (∀ p, p < j → Clo1 K (rowK E p) m) ∧ Clo1 K [(a : Int), (b : Int), (c' : Int)] (u + 1)) := fun e => ⟨(hcl.out e).1, clo_step (hcl.out e).2 (fun _ h => absurd HEA.out h)⟩
                        go_wp2
                        go_roundw
                        case rel => exact ⟨u + 1, gr, K, by omega, by go_num, rfl, hmk, hin2, hso2, HST, hut, hul, hge, hbl⟩
                        case measure => simp [intOf]; omega
                      have b2 : ((u : Int) != (b : Int)) = true := by simp; omega
                      have HUB : Hid (u ≠ b) := eb
                      clear eb
                      by_cases ec : u = c'
                      · have b3 : ((u : Int) != (c' : Int)) = false := by simp; omega
                        have HEA : Hid ((u : Int) = (c' : Int)) := by rw [ec]; rfl
                        clear ec
                        have HST : Hid (gr = false → (∀ p, p < j → Clo1 K (rowK E p) m) ∧ Clo1 K [(a : Int), (b : Int), (c' : Int)] (u + 1)) := fun e => ⟨(hcl.out e).1, clo_step (hcl.out e).2 (fun _ _ h => absurd HEA.out h)⟩
                        go_wp2
                        go_roundw
                        case rel => exact ⟨u + 1, gr, K, by omega, by go_num, rfl, hmk, hin2, hso2, HST, hut, hul, hge, hbl⟩
                        case measure => simp [intOf]; omega
                      have b3 : ((u : Int) != (c' : Int)) = true := by simp; omega
                      clear ec
                      obtain ⟨q3, hq3⟩ : ∃ q, q = codeN a c' u := ⟨_, rfl⟩
                      obtain ⟨q4, hq4⟩ : ∃ q, q = codeN a b u := ⟨_, rfl⟩
                      have l3 : q3 < 216 := by rw [hq3]; exact codeN_lt (by omega) (by omega) (by omega)
                      have l4 : q4 < 216 := by rw [hq4]; exact codeN_lt (by omega) (by omega) (by omega)
                      have HC3 := Lib.hid (fun W => HCOD.out a c' u (by omega) (by omega) (by omega) W)
                      have HC4 := Lib.hid (fun W => HCOD.out a b u (by omega) (by omega) (by omega) W)
                      have HS4 := Lib.hid (hmk.out.set (a := a) (b := b) (c := u) (by omega) (by omega) (by omega))
                      have m3 := hmk.out.cell (a := a) (b := c') (c := u) (by omega) (by omega) (by omega)
                      have m4 := hmk.out.cell (a := a) (b := b) (c := u) (by omega) (by omega) (by omega)
                      have f4 := hmk.out.frozen (codeN a b u)
                      rw [← hq3] at HC3 m3
                      rw [← hq4] at HC4 HS4 m4 f4
                      clear hq3 hq4
                      by_cases hy3 : [(a : Int), (c' : Int), (u : Int)] ∈ K
                      · rw [decide_eq_true hy3] at m3
                        by_cases hy4 : [(a : Int), (b : Int), (u : Int)] ∈ K
                        · rw [decide_eq_true hy4] at m4
                          have HY4 := Lib.hid hy4
                          clear hy3 hy4
                          have HST : Hid (gr = false → (∀ p, p < j → Clo1 K (rowK E p) m) ∧ Clo1 K [(a : Int), (b : Int), (c' : Int)] (u + 1)) := fun e => ⟨(hcl.out e).1, clo_step (hcl.out e).2 (fun _ _ _ _ => HY4.out)⟩
                          go_wp2_with fail
                          refine Calls.mono (HC3.out _) ?_
                          rintro e w' ⟨rfl, rfl⟩
                          go_wp2_with fail
                          refine Calls.mono (HC4.out _) ?_
                          rintro e w' ⟨rfl, rfl⟩
                          go_wp2
                          go_roundw
                          case rel => exact ⟨u + 1, gr, K, by omega, by go_num, rfl, hmk, hin2, hso2, HST, hut, hul, hge, hbl⟩
                          case measure => simp [intOf]; omega
                        · rw [decide_eq_false hy4] at m4
                          have HCN : Hid (Cl L [(a : Int), (b : Int), (u : Int)]) := HCT.out.join (hso2.out _ hy3) (by have := HUB.out; omega)
                          have hlt2 := untold_cons m K _ (HCN.out.thr HL.out) hy4
                          have HUT2 : Hid (true = true → untold m ([(a : Int), (b : Int), (u : Int)] :: K) < u0) := fun _ => by have := hul.out; omega
                          have HUL2 : Hid (untold m ([(a : Int), (b : Int), (u : Int)] :: K) ≤ u0) := by have := hul.out; simp only [Hid]; omega
                          have HIN3 : Hid (∀ t ∈ L, t ∈ [(a : Int), (b : Int), (u : Int)] :: K) := fun t ht => List.mem_cons_of_mem _ (hin2.out t ht)
                          have HSO3 : Hid (∀ t ∈ [(a : Int), (b : Int), (u : Int)] :: K, Cl L t) := fun t ht => by
                            rcases List.mem_cons.1 ht with rfl | ht
                            · exact HCN.out
                            · exact hso2.out t ht
                          clear hy3 hy4 hlt2
                          go_wp2_with fail
                          refine Calls.mono (HC3.out _) ?_
                          rintro e w' ⟨rfl, rfl⟩
                          go_wp2_with fail
                          refine Calls.mono (HC4.out _) ?_
                          rintro e w' ⟨rfl, rfl⟩
                          go_wp2_with fail
                          refine Calls.mono (HC4.out _) ?_
                          rintro e w' ⟨rfl, rfl⟩
                          go_wp2
                          go_roundw
                          case rel => exact ⟨u + 1, true, [(a : Int), (b : Int), (u : Int)] :: K, by omega, by go_num, rfl, HS4, HIN3, HSO3, Lib.hid (fun e => by cases e), Lib.hid (fun _ => by first | exact HUT2.out rfl | exact HUT2.out trivial), HUL2, Lib.hid (hge.out.set (by omega) _ _), Lib.hid (hbl.out.setCell (Nat.le_refl _) _)⟩
                          case measure => simp [intOf]; omega
                      · rw [decide_eq_false hy3] at m3
                        have HY3 := Lib.hid hy3
                        clear hy3
                        have HST : Hid (gr = false → (∀ p, p < j → Clo1 K (rowK E p) m) ∧ Clo1 K [(a : Int), (b : Int), (c' : Int)] (u + 1)) := fun e => ⟨(hcl.out e).1, clo_step (hcl.out e).2 (fun _ _ _ h => absurd h HY3.out)⟩
                        go_wp2_with fail
                        refine Calls.mono (HC3.out _) ?_
                        rintro e w' ⟨rfl, rfl⟩
                        go_wp2
                        go_roundw
                        case rel => exact ⟨u + 1, gr, K, by omega, by go_num, rfl, hmk, hin2, hso2, HST, hut, hul, hge, hbl⟩
                        case measure => simp [intOf]; omega
                    · obtain rfl : u = m := by omega
                      have HST : Hid (gr = false → ∀ p, p < j + 1 → Clo1 K (rowK E p) u) := fun e p hp => by
                        rcases Nat.lt_succ_iff_lt_or_eq.1 hp with hp | rfl
                        · exact (hcl.out e).1 p hp
                        · rw [HET.out]; exact (hcl.out e).2
                      clear hcl
                      go_wp2
                      go_roundw
                      case rel => exact ⟨j + 1, gr, K, by omega, by go_num, rfl, hmk, hin2, hso2, HST, hut, hul, hge, hbl⟩
                      case measure => simp [intOf]; omega
                · rw [decide_eq_false hy2] at m2
                  have HY2 := Lib.hid hy2
                  clear hy2
                  go_wp2_with fail
                  refine Calls.mono (HC1.out _) ?_
                  rintro e w' ⟨rfl, rfl⟩
                  go_wp2_with fail
                  refine Calls.mono (HC2.out _) ?_
                  rintro e w' ⟨rfl, rfl⟩
                  go_wp2_with fail
                  refine Calls.mono (HC2.out _) ?_
                  rintro e w' ⟨rfl, rfl⟩
                  go_wp2_with fail
                  have HGE := Lib.hid (hge.out.set (g := B) (by omega) q2 (.bool true))
                  have HBL := Lib.hid (hbl.out.setCell (p := ⟨B, q2, none⟩) (Nat.le_refl _) (.bool true))
                  clear hge hbl hmk m1 m2 f2 c0 c1 c2 hcr hcl hut hBw
                  generalize wr.setCell ⟨B, q2, none⟩ (.bool true) = wk at *
                  obtain ⟨K2, hK2⟩ : ∃ K2, K2 = [(b : Int), (c' : Int), (a : Int)] :: K := ⟨_, rfl⟩
                  have HCL2 : Hid (true = false → (∀ p, p < j → Clo1 K2 (rowK E p) m) ∧ Clo1 K2 [(a : Int), (b : Int), (c' : Int)] 0) := fun e => by cases e
                  have HIN2 : Hid (∀ t ∈ L, t ∈ K2) := fun t ht => by rw [hK2]; exact List.mem_cons_of_mem _ (hin2.out t ht)
                  have HSO2 : Hid (∀ t ∈ K2, Cl L t) := fun t ht => by
                    rw [hK2] at ht
                    rcases List.mem_cons.1 ht with rfl | ht
                    · exact HCT.out.turn
                    · exact hso2.out t ht
                  have hlt2 : untold m K2 < untold m K := by rw [hK2]; exact untold_cons m K _ HTT.out HY2.out
                  have HUT2 : Hid (true = true → untold m K2 < u0) := fun _ => by have := hul.out; omega
                  have HUL2 : Hid (untold m K2 ≤ u0) := by have := hul.out; simp only [Hid]; omega
                  rw [← hK2] at HS2
                  clear hin2 hso2 hul hlt2 hK2 HY2
                  go_loopw [7, 13] (fun v i wl => ∃ (u : Nat) (gr : Bool) (K : List (List Int)), u ≤ m ∧ i = .int .i64 u ∧ v = .bool gr ∧ Hid (Mk wl B K) ∧ Hid (∀ t ∈ L, t ∈ K) ∧ Hid (∀ t ∈ K, Cl L t) ∧ Hid (gr = false → (∀ p, p < j → Clo1 K (rowK E p) m) ∧ Clo1 K [(a : Int), (b : Int), (c' : Int)] u) ∧ Hid (gr = true → untold m K < u0) ∧ Hid (untold m K ≤ u0) ∧ Hid (GrowS wl (B + 1) (.slice (some ⟨g, 0, none⟩) z ce) E) ∧ Hid (Below B w wl)) (fun _ i _ => m - (intOf i).toNat)
                  case atStart => exact ⟨0, true, K2, Nat.zero_le _, rfl, rfl, HS2, HIN2, HSO2, HCL2, HUT2, HUL2, HGE, HBL⟩
                  case round =>
                    obtain ⟨u, gr, K, hu, rfl, rfl, hmk, hin2, hso2, hcl, hut, hul, hge, hbl⟩ := hrel
                    clear HS2 HIN2 HSO2 HUT2 HUL2 HGE HBL HCL2
                    have hBw := hmk.out.lt
                    by_cases hlu : u < m
                    · by_cases ea : u = a
                      · have b1 : ((u : Int) != (a : Int)) = false := by simp; omega
                        have HEA : Hid ((u : Int) = (a : Int)) := by rw [ea]; rfl
                        clear ea
                        have HST : Hid (gr = false → (∀ p, p < j → Clo1 K (rowK E p) m) ∧ Clo1 K [(a : Int), (b : Int), (c' : Int)] (u + 1)) := fun e => ⟨(hcl.out e).1, clo_step (hcl.out e).2 (fun h => absurd HEA.out h)⟩
                        go_wp2
                        go_roundw
                        case rel => exact ⟨u + 1, gr, K, by omega, by go_num, rfl, hmk, hin2, hso2, HST, hut, hul, hge, hbl⟩
                        case measure => simp [intOf]; omega
                      have b1 : ((u : Int) != (a : Int)) = true := by simp; omega
                      clear ea
                      by_cases eb : u = b
                      · have b2 : ((u : Int) != (b : Int)) = false := by simp; omega
                        have HEA : Hid ((u : Int) = (b : Int)) := by rw [eb]; rfl
                        clear eb
                        have HST : Hid (gr = false → (∀ p, p < j → Clo1 K (rowK E p) m) ∧ Clo1 K [(a : Int), (b : Int), (c' : Int)] (u + 1)) := fun e => ⟨(hcl.out e).1, clo_step (hcl.out e).2 (fun _ h => absurd HEA.out h)⟩
                        go_wp2
                        go_roundw
                        case rel => exact ⟨u + 1, gr, K, by omega, by go_num, rfl, hmk, hin2, hso2, HST, hut, hul, hge, hbl⟩
                        case measure => simp [intOf]; omega
                      have b2 : ((u : Int) != (b : Int)) = true := by simp; omega
                      have HUB : Hid (u ≠ b) := eb
                      clear eb
                      by_cases ec : u = c'
                      · have b3 : ((u : Int) != (c' : Int)) = false := by simp; omega
                        have HEA : Hid ((u : Int) = (c' : Int)) := by rw [ec]; rfl
                        clear ec
                        have HST : Hid (gr = false → (∀ p, p < j → Clo1 K (rowK E p) m) ∧ Clo1 K [(a : Int), (b : Int), (c' : Int)] (u + 1)) := fun e => ⟨(hcl.out e).1, clo_step (hcl.out e).2 (fun _ _ h => absurd HEA.out h)⟩
                        go_wp2
                        go_roundw
                        case rel => exact ⟨u + 1, gr, K, by omega, by go_num, rfl, hmk, hin2, hso2, HST, hut, hul, hge, hbl⟩
                        case measure => simp [intOf]; omega
                      have b3 : ((u : Int) != (c' : Int)) = true := by simp; omega
                      clear ec
                      obtain ⟨q3, hq3⟩ : ∃ q, q = codeN a c' u := ⟨_, rfl⟩
                      obtain ⟨q4, hq4⟩ : ∃ q, q = codeN a b u := ⟨_, rfl⟩
                      have l3 : q3 < 216 := by rw [hq3]; exact codeN_lt (by omega) (by omega) (by omega)
                      have l4 : q4 < 216 := by rw [hq4]; exact codeN_lt (by omega) (by omega) (by omega)
                      have HC3 := Lib.hid (fun W => HCOD.out a c' u (by omega) (by omega) (by omega) W)
                      have HC4 := Lib.hid (fun W => HCOD.out a b u (by omega) (by omega) (by omega) W)
                      have HS4 := Lib.hid (hmk.out.set (a := a) (b := b) (c := u) (by omega) (by omega) (by omega))
                      have m3 := hmk.out.cell (a := a) (b := c') (c := u) (by omega) (by omega) (by omega)
                      have m4 := hmk.out.cell (a := a) (b := b) (c := u) (by omega) (by omega) (by omega)
                      have f4 := hmk.out.frozen (codeN a b u)
                      rw [← hq3] at HC3 m3
                      rw [← hq4] at HC4 HS4 m4 f4
                      clear hq3 hq4
                      by_cases hy3 : [(a : Int), (c' : Int), (u : Int)] ∈ K
                      · rw [decide_eq_true hy3] at m3
                        by_cases hy4 : [(a : Int), (b : Int), (u : Int)] ∈ K
                        · rw [decide_eq_true hy4] at m4
                          have HY4 := Lib.hid hy4
                          clear hy3 hy4
                          have HST : Hid (gr = false → (∀ p, p < j → Clo1 K (rowK E p) m) ∧ Clo1 K [(a : Int), (b : Int), (c' : Int)] (u + 1)) := fun e => ⟨(hcl.out e).1, clo_step (hcl.out e).2 (fun _ _ _ _ => HY4.out)⟩
                          go_wp2_with fail
                          refine Calls.mono (HC3.out _) ?_
                          rintro e w' ⟨rfl, rfl⟩
                          go_wp2_with fail
                          refine Calls.mono (HC4.out _) ?_
                          rintro e w' ⟨rfl, rfl⟩
                          go_wp2
                          go_roundw
                          case rel => exact ⟨u + 1, gr, K, by omega, by go_num, rfl, hmk, hin2, hso2, HST, hut, hul, hge, hbl⟩
                          case measure => simp [intOf]; omega
                        · rw [decide_eq_false hy4] at m4
                          have HCN : Hid (Cl L [(a : Int), (b : Int), (u : Int)]) := HCT.out.join (hso2.out _ hy3) (by have := HUB.out; omega)
                          have hlt2 := untold_cons m K _ (HCN.out.thr HL.out) hy4
                          have HUT2 : Hid (true = true → untold m ([(a : Int), (b : Int), (u : Int)] :: K) < u0) := fun _ => by have := hul.out; omega
                          have HUL2 : Hid (untold m ([(a : Int), (b : Int), (u : Int)] :: K) ≤ u0) := by have := hul.out; simp only [Hid]; omega
                          have HIN3 : Hid (∀ t ∈ L, t ∈ [(a : Int), (b : Int), (u : Int)] :: K) := fun t ht => List.mem_cons_of_mem _ (hin2.out t ht)
                          have HSO3 : Hid (∀ t ∈ [(a : Int), (b : Int), (u : Int)] :: K, Cl L t) := fun t ht => by
                            rcases List.mem_cons.1 ht with rfl | ht
                            · exact HCN.out
                            · exact hso2.out t ht
                          clear hy3 hy4 hlt2
                          go_wp2_with fail
                          refine Calls.mono (HC3.out _) ?_
                          rintro e w' ⟨rfl, rfl⟩
                          go_wp2_with fail
                          refine Calls.mono (HC4.out _) ?_
                          rintro e w' ⟨rfl, rfl⟩
                          go_wp2_with fail
                          refine Calls.mono (HC4.out _) ?_
                          rintro e w' ⟨rfl, rfl⟩
                          go_wp2
                          go_roundw
                          case rel => exact ⟨u + 1, true, [(a : Int), (b : Int), (u : Int)] :: K, by omega, by go_num, rfl, HS4, HIN3, HSO3, Lib.hid (fun e => by cases e), Lib.hid (fun _ => by first | exact HUT2.out rfl | exact HUT2.out trivial), HUL2, Lib.hid (hge.out.set (by omega) _ _), Lib.hid (hbl.out.setCell (Nat.le_refl _) _)⟩
                          case measure => simp [intOf]; omega
                      · rw [decide_eq_false hy3] at m3
                        have HY3 := Lib.hid hy3
                        clear hy3
                        have HST : Hid (gr = false → (∀ p, p < j → Clo1 K (rowK E p) m) ∧ Clo1 K [(a : Int), (b : Int), (c' : Int)] (u + 1)) := fun e => ⟨(hcl.out e).1, clo_step (hcl.out e).2 (fun _ _ _ h => absurd h HY3.out)⟩
                        go_wp2_with fail
                        refine Calls.mono (HC3.out _) ?_
                        rintro e w' ⟨rfl, rfl⟩
                        go_wp2
                        go_roundw
                        case rel => exact ⟨u + 1, gr, K, by omega, by go_num, rfl, hmk, hin2, hso2, HST, hut, hul, hge, hbl⟩
                        case measure => simp [intOf]; omega
                    · obtain rfl : u = m := by omega
                      have HST : Hid (gr = false → ∀ p, p < j + 1 → Clo1 K (rowK E p) u) := fun e p hp => by
                        rcases Nat.lt_succ_iff_lt_or_eq.1 hp with hp | rfl
                        · exact (hcl.out e).1 p hp
                        · rw [HET.out]; exact (hcl.out e).2
                      clear hcl
                      go_wp2
                      go_roundw
                      case rel => exact ⟨j + 1, gr, K, by omega, by go_num, rfl, hmk, hin2, hso2, HST, hut, hul, hge, hbl⟩
                      case measure => simp [intOf]; omega
              · rw [decide_eq_false hy1] at m1
                have HY1 := Lib.hid hy1
                clear hy1 m2 f2 HS2
                have HST : Hid (gr = false → ∀ p, p < j + 1 → Clo1 K (rowK E p) m) := fun e p hp => by
                  rcases Nat.lt_succ_iff_lt_or_eq.1 hp with hp | rfl
                  · exact hcl.out e p hp
                  · rw [HET.out]; exact clo_not HY1.out m
                clear hcl
                go_wp2_with fail
                refine Calls.mono (HC1.out _) ?_
                rintro e w' ⟨rfl, rfl⟩
                go_wp2
                go_roundw
                case rel => exact ⟨j + 1, gr, K, by omega, by go_num, rfl, hmk, hin2, hso2, HST, hut, hul, hge, hbl⟩
                case measure => simp [intOf]; omega
            · obtain rfl : j = z := by omega
              have HALL : Hid (gr = false → ∀ t ∈ everyL m, Clo1 K t m) := fun e t ht => by
                rw [← HEE.out] at ht
                obtain ⟨p, hp, ep⟩ := List.getElem_of_mem ht
                have := hcl.out e p (by rw [HZ.out]; exact hp)
                rw [← ep]
                have e2 : rowK E p = E[p] := by simp [rowK, List.getD, hp]
                rw [← e2]; exact this
              go_wp2
              go_roundg (2 * untold m K + (if gr = true then 1 else 0))
              case measure =>
                have h1 := hq.out
                have h2 := hut.out
                have h3 := hul.out
                simp only [if_true] at h1
                cases gr with
                | true => have := h2 rfl; simp; omega
                | false => simp; omega
              case rel => exact ⟨gr, K, rfl, Lib.hid rfl, hmk, hin2, hso2, HALL, hbl⟩
end Go.Proofs.Ythfbllgfcidhkaa

namespace Go.Proofs.Ythfbllgfcidhkaa
open Go.ChangeShapes Go.WideShapes Go.ChangeAt Go.RowKit

noncomputable def clR (q : Int) (L : List (List Int)) : List (List Int) := if Tel q L then cloL q.toNat L else []
open Classical in
noncomputable def clashB (n : Nat) (L : List (List Int)) : Bool := (cloL n L).any fun t => decide (Cl L (turn3 t))
noncomputable def chB (q : Int) (L : List (List Int)) : Bool := if Tel q L then clashB q.toNat L else false

theorem cloL_of {n : Nat} {L K : List (List Int)} (h : ∀ t, t ∈ K ↔ Cl L t) : ((everyL n).filter fun t => decide (t ∈ K)) = cloL n L := by
  unfold cloL
  refine List.filter_congr fun t _ => ?_
  rw [Bool.eq_iff_iff]
  simp [h t]
theorem clashB_of {n : Nat} {L K : List (List Int)} (h : ∀ t, t ∈ K ↔ Cl L t) : (((everyL n).filter fun t => decide (t ∈ K)).any fun t => decide (turn3 t ∈ K)) = clashB n L := by
  rw [cloL_of h, clashB]
  congr 1
  funext t
  rw [Bool.eq_iff_iff]
  simp [h (turn3 t)]
theorem cloL_len (n : Nat) (L : List (List Int)) (h : n ≤ 7) : (cloL n L).length ≤ 343 := by
  unfold cloL
  exact Nat.le_trans (List.length_filter_le _ _) (everyL_len n h)
theorem cloL_row (n : Nat) (L : List (List Int)) : ∀ l ∈ cloL n L, l.length = 3 := fun l hl => ((every_thr n l).1 (List.mem_filter.1 hl).1).1
theorem any_step (p : List Int → Bool) (R : List (List Int)) (k : Nat) (h : k < R.length) : (R.take (k + 1)).any p = ((R.take k).any p || p (rowK R k)) := by
  rw [List.take_succ_eq_append_getElem h, List.any_append]
  simp [rowK, List.getD, h]
theorem any_yes (p : List Int → Bool) (R : List (List Int)) (k : Nat) (h : k < R.length) (hp : p (rowK R k) = true) : R.any p = true := List.any_eq_true.2 ⟨_, rowK_mem h, hp⟩

set_option maxHeartbeats 1000000 in
theorem clI_any (A : Option Addr) (n c H : Nat) (q : Int) (L : List (List Int)) (w : World) (h : RdS w H A n L) (hH : H ≤ w.heap.size) (_ : tot L ≤ 1048576) :
    Calls Try.prog 24 #[.int .i64 q, .slice A n c] w fun e w' => ∃ v, e = .returned (.tuple #[v, .bool (tel q L)]) ∧ OwnS w' w.heap.size w'.heap.size v (clR q L) ∧ Below w.heap.size w w' := by
  have HC := Lib.hid (readThrees_any A n c H L q w h hH)
  by_cases ht : Tel q L
  · obtain ⟨k, rfl, h3, h6⟩ := tel_nat ht
    have HTY := Lib.hid (tel_yes ht).1
    have HT := Lib.hid ht
    have HSU : Hid (clR (k : Int) L = cloL k L) := by rw [Hid, clR, if_pos ht, Int.toNat_natCast]
    have HSLEN : Hid ((cloL k L).length ≤ 1000) := by have := cloL_len k L (by omega); simp only [Hid]; omega
    rw [(tel_yes ht).1, (tel_yes ht).2] at HC
    rw [HTY.out]
    clear h hH ht
    go_enter Try.func24, Try.ntmps24
    go_wp2_with fail
    refine HC.out.mono ?_
    rintro e w1 ⟨v1, rfl, hr1, hb1⟩
    have HG := Lib.hid (closed_any k v1 w.heap.size L w1 hr1 HT.out.2.2.2 (by have := HT.out.2.2.1; omega) h6)
    clear hr1 HC
    go_wp2_with fail
    refine HG.out.mono ?_
    rintro e w2 ⟨K, rfl, hm2, hk2, hb2⟩
    have hs2 := Nat.le_trans hb1.size hb2.size
    have HSH := Lib.hid (sorted_any k w1.heap.size K w2 (by omega) hm2)
    rw [cloL_of hk2] at HSH
    clear hm2 hk2
    go_wp2_with fail
    refine HSH.out.mono ?_
    rintro e w3 ⟨v3, rfl, hr3, hb3⟩
    have HTL := Lib.hid (threeLists_any v3 _ (cloL k L) w3 hr3 HSLEN.out)
    have hs3 := Nat.le_trans hs2 hb3.size
    clear hr3
    go_wp2_with fail
    refine HTL.out.mono ?_
    rintro e w6 ⟨rfl, ho6, hb6⟩
    go_wp2
    go_ret2
    refine ⟨.slice (some ⟨w3.heap.size, 0, none⟩) (cloL k L).length (cloL k L).length, rfl, ?_, ((hb1.trans (hb2.mono hb1.size)).trans (hb3.mono hs2)).trans (hb6.mono hs3)⟩
    rw [HSU.out]
    exact ho6.more hs3 (Nat.le_refl _)
  · have HTY := Lib.hid (tel_no ht).1
    have HSU : Hid (clR q L = []) := by rw [Hid, clR, if_neg ht]
    rw [(tel_no ht).1] at HC
    rw [HTY.out]
    clear h hH ht
    go_enter Try.func24, Try.ntmps24
    go_wp2_with (go_at_call 35; refine HC.out.mono ?_; rintro e w1 ⟨v1, rfl, _, hb1⟩)
    go_ret2
    exact ⟨.slice none 0 0, rfl, by rw [HSU.out]; exact .inl ⟨rfl, rfl⟩, hb1⟩

end Go.Proofs.Ythfbllgfcidhkaa

namespace Go.Proofs.Ythfbllgfcidhkaa
open Go.ChangeShapes Go.WideShapes Go.ChangeAt Go.RowKit

theorem Mk.far {w w5 : World} {g D n : Nat} {K : List (List Int)} {v : Value} {xs : List Value} {o : Obj} (h : Mk w g K) (ho : w.ownsRow D 27 1 v n xs) (hg : (w.alloc o).grownBy w5 v.ownBlock) : Mk w5 g K := by
  refine h.same ?_
  rw [hg.block g (by have := h.lt; simp; omega) ?_, Below.heap_alloc w o g h.lt]
  intro e
  obtain ⟨P, _, hb, _⟩ := h
  rcases ho.2 with ⟨rfl, _⟩ | ⟨g', cap, cur, rfl, _, hgg, _⟩
  · cases e
  · have e1 : g = g' := Option.some.inj e
    subst e1
    rw [hb] at hgg
    simp at hgg
theorem clR_tot (q : Int) (L : List (List Int)) : tot (clR q L) ≤ 1048576 := by
  unfold clR
  split
  · rename_i h
    have h6 := h.2.1
    have h1 := cloL_len q.toNat L (by omega)
    have h2 := sumTo_small (cloL q.toNat L) (fun l hl => by rw [cloL_row _ _ l hl]; omega) (cloL q.toNat L).length (Nat.le_refl _)
    unfold tot; omega
  · simp [tot, sumTo]

set_option maxRecDepth 10000 in
set_option maxHeartbeats 4000000 in
theorem clS_any (A : Option Addr) (n c H : Nat) (q : Int) (L : List (List Int)) (w : World) (h : RdS w H A n L) (hH : H ≤ w.heap.size) (hn : tot L ≤ 1048576) :
    Calls Try.prog 23 #[.int .i64 q, .slice A n c] w fun e w' => ∃ v, e = .returned (.tuple #[v, .bool (tel q L)]) ∧ (∃ A c, v = .slice A (clR q L).length c ∧ RdS w' w'.heap.size A (clR q L).length (clR q L)) ∧ Below w.heap.size w w' := by
  obtain ⟨i0, hi, hz0, hz1, hz2⟩ := info_parts row_info
  have hnb : n ≤ 1048576 := by have := h.len; unfold tot at hn; omega
  have HN := Lib.hid h.len
  have HC := Lib.hid (fun W (hR : RdS W H A n L) => telS_any A n c H L q W hR hnb)
  have hg0 : Hid (GrowS (w.alloc (.cells #[] 27)) w.heap.size (.slice (some ⟨w.heap.size, 0, none⟩) 0 0) []) := GrowS.empty w (Nat.le_refl _)
  have hb0 : Below w.heap.size w (w.alloc (.cells #[] 27)) := (Below.refl _ _).alloc (Nat.le_refl _) _
  have hr0 := Lib.hid (h.below (hb0.mono hH))
  clear h hn
  go_enter Try.func23, Try.ntmps23
  go_wp2_with fail
  generalize w.alloc (.cells #[] 27) = W0 at *
  refine (HC.out W0 hr0.out).mono ?_
  rintro e w1 ⟨rfl, p0, rfl⟩
  by_cases ht : Tel q L
  · obtain ⟨m, rfl, h3, h6⟩ := tel_nat ht
    have HTY := Lib.hid (tel_yes ht).1
    have HSU : Hid (clR (m : Int) L = cloL m L) := by rw [Hid, clR, if_pos ht, Int.toNat_natCast]
    have HT := Lib.hid ht
    have HEL := everyL_len m (by omega)
    rw [(tel_yes ht).1]
    clear ht HC
    have hg1 := Lib.hid (hg0.out.drewN p0)
    have hr1 := Lib.hid (hr0.out.drewN p0)
    have hb1 := below_drewN hb0 p0
    clear hg0 hr0 hb0
    generalize W0.drewN p0 = W1 at *
    go_wp2_with fail
    refine (closedS_any A n c H m L W1 hr1.out (by have := hb1.size; omega) h3 h6 (by rw [← HN.out]; exact HT.out.2.2.1) HT.out.2.2.2).mono ?_
    rintro e w2 ⟨rfl, ⟨K, hmk, hK⟩, hb2⟩
    obtain ⟨G, hG⟩ : ∃ G, G = W1.heap.size := ⟨_, rfl⟩
    rw [← hG] at hmk hb2 ⊢
    have HM2 := Lib.hid hmk
    have HKK := Lib.hid hK
    have HG2 := Lib.hid (hg1.out.below hb2 (by omega))
    have HB2 := Lib.hid (hb1.trans (hb2.mono (by have := hb1.size; omega)))
    clear hmk hK hb2 hg1 hr1 hb1 hG
    have HSF := Lib.hid (cloL_of (n := m) HKK.out)
    go_wp2_with fail
    refine (l2Every_any m w2 (by omega)).mono ?_
    rintro e w3 ⟨ve, rfl, hge, hb3⟩
    obtain ⟨Ae, ce, rfl, _⟩ := hge.slice
    have HG3 := Lib.hid (HG2.out.below hb3 (Nat.le_refl _))
    have HM3 := Lib.hid (HM2.out.below hb3 HM2.out.lt)
    have HE3 := Lib.hid (hge.less HB2.out.size)
    have HAPE : Hid (Apart (.slice Ae (everyL m).length ce) (.slice (some ⟨w.heap.size, 0, none⟩) 0 0)) := fun i hi e => by
      have h1 := (hge.blk i hi).1
      have h2 := (HG2.out.blk w.heap.size rfl).2
      simp [Value.ownBlock] at e
      omega
    have HB3 := Lib.hid (HB2.out.trans (hb3.mono HB2.out.size))
    clear hge hb3 HG2 HM2 HB2
    obtain ⟨z, hz⟩ : ∃ z, z = (everyL m).length := ⟨_, rfl⟩
    have HZ := Lib.hid hz
    rw [← hz] at HE3 HAPE HEL ⊢
    clear hz
    generalize hB : w.heap.size = B at *
    have HB := Lib.hid hB
    clear hB
    go_wp2_with fail
    go_loopw [6, 9] (fun v i wr => ∃ k : Nat, k ≤ z ∧ i = .int .i64 k ∧ Hid (GrowS wr B v (pickTo (fun t => decide (t ∈ K)) (everyL m) k)) ∧ Hid (GrowS wr B (.slice Ae z ce) (everyL m)) ∧ Hid (Apart (.slice Ae z ce) v) ∧ Hid (Mk wr G K) ∧ Below B w wr) (fun _ i _ => z - (intOf i).toNat)
    case atStart => exact ⟨0, Nat.zero_le _, rfl, HG3, HE3, HAPE, HM3, HB3.out⟩
    case round =>
      obtain ⟨k, hk, rfl, hgs, hge, hap, hmk, hbl⟩ := hrel
      clear HG3 HE3 HAPE HM3 HB3
      have HBL := Lib.hid hbl
      have hBw : B ≤ wr.heap.size := by rw [← HB.out]; exact hbl.size
      clear hbl
      by_cases hlt : k < z
      · have hkl : k < (everyL m).length := by rw [← HZ.out]; exact hlt
        obtain ⟨g, c', A', d', e0, hc, hrow⟩ := hge.out.row hkl
        rw [← HZ.out] at e0
        injection e0 with e1 _ e3
        subst e3
        subst e1
        have hthr := (every_thr m _).1 (rowK_mem hkl)
        have HYES := Lib.hid (pickTo_yes (p := fun t => decide (t ∈ K)) hkl)
        have HNO := Lib.hid (pickTo_no (p := fun t => decide (t ∈ K)) hkl)
        have HROW := Lib.hid hrow
        have hpl := pickTo_len (fun t => decide (t ∈ K)) (everyL m) k
        obtain ⟨x, y, u, e, hx, hy, hu, _⟩ := thr_nat hthr
        rw [e] at HROW HYES HNO hc
        obtain ⟨b', o', eA, hbH, c0, c1, c2⟩ := rd3 HROW.out.1.rd.2
        subst eA
        change wr.cell? ⟨g, k, none⟩ = some (.slice (some ⟨b', o', none⟩) 3 d') at hc
        obtain ⟨q1, hq1⟩ : ∃ q, q = codeN x y u := ⟨_, rfl⟩
        have l1 : q1 < 216 := by rw [hq1]; exact codeN_lt (by omega) (by omega) (by omega)
        have HC1 := Lib.hid (fun W => code_any x y u W (by omega) (by omega) (by omega))
        have m1 := hmk.out.cell (a := x) (b := y) (c := u) (by omega) (by omega) (by omega)
        rw [← hq1] at HC1 m1
        have HCE := Lib.hid hc
        clear hkl hrow hthr e hq1
        cases hr : decide ([(x : Int), (y : Int), (u : Int)] ∈ K) with
        | true =>
          rw [hr] at m1
          have HST := Lib.hid (HYES.out hr)
          clear hr HYES HNO
          go_wp2
          go_quiet (refine Calls.quiet_of_same (HC1.out _))
          have hce : (wr.drewN nq).cell? ⟨g, k, none⟩ = some (.slice (some ⟨b', o', none⟩) 3 d') := HCE.out
          have hG2 := Lib.hid (hgs.out.drewN nq)
          have hE2 := Lib.hid (hge.out.drewN nq)
          have hV2 : Hid (RowV (wr.drewN nq) B (.slice (some ⟨b', o', none⟩) 3 d') [(x : Int), (y : Int), (u : Int)]) := Lib.hid (HROW.out.same fun _ _ => rfl)
          have hM2 := Lib.hid (hmk.out.drewN nq)
          have hB2 := Lib.hid (below_drewN HBL.out nq)
          have hBw2 : B ≤ (wr.drewN nq).heap.size := hBw
          clear hgs hge hmk HROW HBL hBw hc HCE c0 c1 c2 m1
          generalize wr.drewN nq = w2 at *
          obtain ⟨xs, hx1, hx2⟩ := hG2.out
          have HX1 := Lib.hid hx1
          have HX2 := Lib.hid hx2
          clear hx1 hx2 hG2
          go_wp2_with (at_builtin; refine wpList_append_own_at _ rfl _ _ 22 rfl B 27 i0 (.slice none 0 0) 1 24 Try.underlying22 hi hz0 hz1 hz2 rfl (by decide) _ _ _ rfl (HX1.out.alloc _) ⟨w2.heap.size, 0, none⟩ 1 1 [.slice (some ⟨b', o', none⟩) 3 d'] rfl rfl (one_cell w2 _ _) (by simp [Value.oneCell']) (by unfold maxLen; omega) (by omega) (by simp; omega) ?_)
          intro v' w5 hown5 hgr5 _ hat5
          have HG5 := Lib.hid (grow_row rfl HX1.out HX2.out hV2.out _ hown5 hgr5)
          rw [HST.out] at HG5
          have HE5 := Lib.hid (hE2.out.far HX1.out hgr5 hap.out)
          have HM5 := Lib.hid (hM2.out.far HX1.out hgr5)
          have HAP5 := Lib.hid (hap.out.next hE2.out hat5)
          have HB5 := Lib.hid ((hB2.out.alloc hBw2 _).grown hgr5 (by simp; omega) (fun i hi => (HX1.out.lt i hi).1))
          clear hown5 hgr5 hat5
          go_wp2
          go_roundw
          case rel => exact ⟨k + 1, by omega, by go_num, HG5, HE5, HAP5, HM5, HB5.out⟩
          case measure => simp [intOf]; omega
        | false =>
          rw [hr] at m1
          have HST := Lib.hid (HNO.out hr)
          rw [HST.out] at hgs
          clear hr HYES HNO
          go_wp2
          go_quiet (refine Calls.quiet_of_same (HC1.out _))
          go_wp2
          go_roundw
          case rel => exact ⟨k + 1, by omega, by go_num, Lib.hid (hgs.out.drewN nq), Lib.hid (hge.out.drewN nq), hap, Lib.hid (hmk.out.drewN nq), below_drewN HBL.out nq⟩
          case measure => simp [intOf]; omega
      · obtain rfl : k = z := by omega
        have hgs' := hgs.out
        rw [HZ.out, pickTo_full, HSF.out] at hgs'
        obtain ⟨A', d', e', _⟩ := hgs'.slice
        subst e'
        have HGS := Lib.hid hgs'
        clear hgs hgs'
        go_wp2
        go_ret2
        refine ⟨.slice A' (cloL m L).length d', by rw [HTY.out]; rfl, ?_, by rw [HB.out]; exact HBL.out⟩
        rw [HSU.out]
        exact ⟨A', d', rfl, HGS.out.rd.2⟩
  · have HTY := Lib.hid (tel_no ht).1
    have HSU : Hid (clR q L = []) := by rw [Hid, clR, if_neg ht]
    rw [(tel_no ht).1]
    clear ht HC
    go_wp2_with fail
    go_ret2
    refine ⟨.slice (some ⟨w.heap.size, 0, none⟩) 0 0, by rw [HTY.out]; rfl, ?_, below_drewN hb0 p0⟩
    rw [HSU.out]
    exact ⟨_, _, rfl, RdS.nil⟩

end Go.Proofs.Ythfbllgfcidhkaa

/- merged -/
import Derived.Test.YthefnanhikjddaaDoorClo
import Derived.Test.YthefnanhikjddaaDoorMWork
import Derived.Test.YthefnanhikjddaaDoorCC
import Derived.Deep.LoopGhost

namespace Go.Proofs.YthefnanhikjddaaDoor
open Go.ChangeShapes Go.WideShapes Go.ChangeAt Go.RowKit

theorem own_rowLess {w : World} {B B' : Nat} {e : TypeId} {m n : Nat} {v : Value} {xs : List Value} (h : w.ownsRow B e m v n xs) (hB : B' ≤ B) : w.ownsRow B' e m v n xs := by
  refine ⟨h.1, ?_⟩
  rcases h.2 with e | ⟨g, cap, cur, e, hb, rest⟩
  · exact .inl e
  · exact .inr ⟨g, cap, cur, e, by omega, rest⟩

def codeN (a b c : Nat) : Nat := 36 * a + 6 * b + c
theorem codeN_lt {a b c : Nat} (ha : a < 6) (hb : b < 6) (hc : c < 6) : codeN a b c < 216 := by unfold codeN; omega

set_option maxRecDepth 10000 in
theorem code_any (a b c : Nat) (w : World) (ha : a < 6) (hb : b < 6) (hc : c < 6) :
    Calls Tryd.prog 33 #[.int .i64 (a : Int), .int .i64 (b : Int), .int .i64 (c : Int)] w fun e w' => e = .returned (.int .i64 ((codeN a b c : Nat) : Int)) ∧ w' = w := by
  have hw1 : IntKind.i64.wrap (36 * (a : Int)) = 36 * (a : Int) := IntWalk.i64_in _ (by omega)
  have hw2 : IntKind.i64.wrap (6 * (b : Int)) = 6 * (b : Int) := IntWalk.i64_in _ (by omega)
  have hw3 : IntKind.i64.wrap (36 * (a : Int) + 6 * (b : Int)) = 36 * (a : Int) + 6 * (b : Int) := IntWalk.i64_in _ (by omega)
  have hw4 : IntKind.i64.wrap (36 * (a : Int) + 6 * (b : Int) + (c : Int)) = 36 * (a : Int) + 6 * (b : Int) + (c : Int) := IntWalk.i64_in _ (by omega)
  have HE : Hid (((codeN a b c : Nat) : Int) = 36 * (a : Int) + 6 * (b : Int) + (c : Int)) := by simp [Hid, codeN]
  go_enter Tryd.func33, Tryd.ntmps33
  go_wp2
  go_ret
  exact ⟨by rw [HE.out]; rfl, rfl⟩

/-- Block g holds 216 bools: those are true whose three is in K. -/
def Mk (w : World) (g : Nat) (K : List (List Int)) : Prop :=
  ∃ P : List Bool, P.length = 216 ∧ w.heap[g]? = some (.cells (P.map Value.bool).toArray 4 (0, 0)) ∧ ∀ a b c : Nat, a < 6 → b < 6 → c < 6 → P[codeN a b c]? = some (decide ([(a : Int), (b : Int), (c : Int)] ∈ K))
section
variable {w w' : World} {g D : Nat} {K : List (List Int)}
theorem Mk.lt (h : Mk w g K) : g < w.heap.size := by
  obtain ⟨P, _, hg, _⟩ := h
  exact (Array.getElem?_eq_some_iff.1 hg).1
theorem Mk.same (h : Mk w g K) (hk : w'.heap[g]? = w.heap[g]?) : Mk w' g K := by
  obtain ⟨P, hl, hg, hP⟩ := h
  exact ⟨P, hl, hk.trans hg, hP⟩
theorem Mk.below (h : Mk w g K) (hb : Below D w w') (hD : g < D) : Mk w' g K := h.same (hb.block g hD)
theorem Mk.drewN (h : Mk w g K) (n : Nat) : Mk (w.drewN n) g K := h
theorem Mk.drew (h : Mk w g K) : Mk w.drew g K := h
theorem Mk.congr {K' : List (List Int)} (h : Mk w g K) (hK : ∀ t, t ∈ K ↔ t ∈ K') : Mk w g K' := by
  obtain ⟨P, hl, hg, hP⟩ := h
  refine ⟨P, hl, hg, fun a b c ha hb hc => ?_⟩
  rw [hP a b c ha hb hc]
  congr 1
  rw [Bool.eq_iff_iff]
  simp [hK]
theorem Mk.cell (h : Mk w g K) {a b c : Nat} (ha : a < 6) (hb : b < 6) (hc : c < 6) : w.cell? ⟨g, codeN a b c, none⟩ = some (.bool (decide ([(a : Int), (b : Int), (c : Int)] ∈ K))) := by
  obtain ⟨P, hl, hg, hP⟩ := h
  rw [cell_of_row w g _ _ _ (0, 0) hg, List.getElem?_toArray, List.getElem?_map, hP a b c ha hb hc]
  rfl
theorem Mk.frozen (h : Mk w g K) (i : Nat) : w.frozen? ⟨g, i, none⟩ = false := by
  obtain ⟨P, hl, hg, hP⟩ := h
  exact frozen_of_row w g i _ _ hg
theorem Mk.set (h : Mk w g K) {a b c : Nat} (ha : a < 6) (hb : b < 6) (hc : c < 6) : Mk (w.setCell ⟨g, codeN a b c, none⟩ (.bool true)) g ([(a : Int), (b : Int), (c : Int)] :: K) := by
  obtain ⟨P, hl, hg, hP⟩ := h
  refine ⟨P.set (codeN a b c) true, by simp [hl], ?_, fun a' b' c' ha' hb' hc' => ?_⟩
  · rw [List.map_set, ← List.setIfInBounds_toArray]
    simp [World.setCell, Array.getElem?_modify, hg]
  · rw [List.getElem?_set]
    by_cases e : codeN a b c = codeN a' b' c'
    · have e3 : a = a' ∧ b = b' ∧ c = c' := by unfold codeN at e; omega
      obtain ⟨rfl, rfl, rfl⟩ := e3
      have := codeN_lt ha hb hc
      simp [hl, this]
    · rw [if_neg e, hP a' b' c' ha' hb' hc']
      congr 1
      rw [Bool.eq_iff_iff]
      simp only [decide_eq_true_eq, List.mem_cons]
      constructor
      · exact .inr
      · rintro (e2 | e2)
        · exfalso
          injection e2 with e4 e5
          injection e5 with e5 e6
          injection e6 with e6 _
          have f1 : a' = a := by omega
          have f2 : b' = b := by omega
          have f3 : c' = c := by omega
          exact e (by rw [f1, f2, f3])
        · exact e2
theorem Mk.made (h : w.ownsRow D 4 1 (.slice (some ⟨g, 0, none⟩) 216 216) 216 (List.replicate 216 (.bool false))) : Mk w g [] := by
  rcases h.2 with ⟨e, _⟩ | ⟨g', cap, cur, e, hB, hg, hc, hm, hs, ht⟩
  · cases e
  · injection e with e1 e2 e3
    injection e1 with e1
    injection e1 with e1
    subst e1; subst e3
    have hcur : cur.toList = List.replicate 216 (.bool false) := by
      rw [← ht, List.take_of_length_le (by simp [hs])]
    refine ⟨List.replicate 216 false, List.length_replicate, ?_, fun a b c ha hb hc => ?_⟩
    · rw [hg]
      have : cur = ((List.replicate 216 false).map Value.bool).toArray := by
        rw [List.map_replicate, ← hcur]
      rw [this]
    · have := codeN_lt ha hb hc
      rw [List.getElem?_replicate, if_pos this]
      simp
theorem GrowS.set {v : Value} {L : List (List Int)} {B : Nat} (h : GrowS w B v L) (hg : g < B) (i : Nat) (u : Value) : GrowS (w.setCell ⟨g, i, none⟩ u) B v L :=
  h.keep fun k hk _ => Below.heap_setCell w _ u k (by simp; omega)
end

/-- What holds of one three when nothing is to be added for it, asked up to a point. -/
def Clo1 (K : List (List Int)) (t : List Int) (k : Nat) : Prop :=
  ∀ x y z : Int, t = [x, y, z] → t ∈ K → [y, z, x] ∈ K ∧ ∀ u : Nat, u < k → (u : Int) ≠ x → (u : Int) ≠ y → (u : Int) ≠ z → [x, z, (u : Int)] ∈ K → [x, y, (u : Int)] ∈ K
theorem clo_done {n : Nat} {L K : List (List Int)} (hL : ∀ t ∈ L, Thr (n : Int) t) (hin : ∀ t ∈ L, t ∈ K) (hs : ∀ t ∈ K, Cl L t) (hc : ∀ t ∈ everyL n, Clo1 K t n) (t : List Int) : t ∈ K ↔ Cl L t := by
  have hev : ∀ t ∈ K, t ∈ everyL n := fun t ht => (every_thr n t).2 ((hs t ht).thr hL)
  refine ⟨hs t, fun h => h.least (S := fun t => t ∈ K) ⟨fun a b c h => (hc _ (hev _ h) a b c rfl h).1, fun a b c d h1 h2 hne => ?_⟩ hin⟩
  have hd := (thr3 _ _ _ _).1 ((hs _ h2).thr hL)
  have h3 := (hc _ (hev _ h1) a b c rfl h1).2 d.toNat (by omega) (by omega) (by omega) (by omega)
  have e : ((d.toNat : Nat) : Int) = d := by omega
  rw [e] at h3
  exact h3 h2
theorem clo_mem {K : List (List Int)} {x y z : Int} (h : [y, z, x] ∈ K) : Clo1 K [x, y, z] 0 := fun x' y' z' e _ => by
  injection e with e1 e2
  injection e2 with e2 e3
  injection e3 with e3 _
  subst e1; subst e2; subst e3
  exact ⟨h, fun u hu => absurd hu (by omega)⟩
theorem clo_not {K : List (List Int)} {t : List Int} (h : t ∉ K) (k : Nat) : Clo1 K t k := fun _ _ _ _ ht => absurd ht h
theorem clo_step {K : List (List Int)} {x y z : Int} {k : Nat} (h : Clo1 K [x, y, z] k) (hk : (k : Int) ≠ x → (k : Int) ≠ y → (k : Int) ≠ z → [x, z, (k : Int)] ∈ K → [x, y, (k : Int)] ∈ K) : Clo1 K [x, y, z] (k + 1) := fun x' y' z' e ht => by
  obtain ⟨h1, h2⟩ := h x' y' z' e ht
  injection e with e1 e2
  injection e2 with e2 e3
  injection e3 with e3 _
  subst e1; subst e2; subst e3
  refine ⟨h1, fun u hu => ?_⟩
  rcases Nat.lt_succ_iff_lt_or_eq.1 hu with hu | rfl
  · exact h2 u hu
  · exact hk
theorem thr_nat {n : Nat} {t : List Int} (h : Thr (n : Int) t) : ∃ a b c : Nat, t = [(a : Int), (b : Int), (c : Int)] ∧ a < n ∧ b < n ∧ c < n ∧ a ≠ b ∧ b ≠ c ∧ a ≠ c := by
  obtain ⟨x, y, z, rfl⟩ := of_three h.1
  rw [thr3] at h
  refine ⟨x.toNat, y.toNat, z.toNat, ?_, by omega, by omega, by omega, by omega, by omega, by omega⟩
  rw [show ((x.toNat : Nat) : Int) = x by omega, show ((y.toNat : Nat) : Int) = y by omega, show ((z.toNat : Nat) : Int) = z by omega]
end Go.Proofs.YthefnanhikjddaaDoor

namespace Go.Proofs.YthefnanhikjddaaDoor
open Go.ChangeShapes Go.WideShapes Go.ChangeAt Go.RowKit

theorem made_bools : (madeCells #[Value.bool false] 216).toList = List.replicate 216 (.bool false) := by kernel_rfl
theorem bool_info : (Tryd.prog.info? 4).map (fun i => (i.zero, i.size, i.bytes)) = some (some (.bool false), 1, 1) := by kernel_rfl

set_option maxRecDepth 10000 in
set_option maxHeartbeats 8000000 in
theorem closedS_any (A : Option Addr) (n c H m : Nat) (L : List (List Int)) (w : World) (h : RdS w H A n L) (hH : H ≤ w.heap.size) (h3 : 3 ≤ m) (h6 : m ≤ 6) (hn : n ≤ 40) (hL : ∀ t ∈ L, Thr (m : Int) t) :
    Calls Tryd.prog 25 #[.int .i64 (m : Int), .slice A n c] w fun e w' => e = .returned (.slice (some ⟨w.heap.size, 0, none⟩) 216 216) ∧ (∃ K, Mk w' w.heap.size K ∧ ∀ t, t ∈ K ↔ Cl L t) ∧ Below w.heap.size w w' := by
  obtain ⟨i0, hi, hz0, hz1, hz2⟩ := info_parts bool_info
  have HN := Lib.hid h.len
  have HR0 := Lib.hid h
  have HL := Lib.hid hL
  have HCOD := Lib.hid (fun (a b c : Nat) (ha : a < 6) (hb : b < 6) (hc : c < 6) W => code_any a b c W ha hb hc)
  clear h hL
  go_enter Tryd.func25, Tryd.ntmps25
  go_wp2_with (at_make; refine wpList_make_full _ rfl _ _ 54 rfl w.heap.size 4 i0 (.bool false) 1 Tryd.underlying54 hi hz0 hz1 .i64 .i64 _ _ 216 rfl rfl rfl rfl (by rw [hz2]; omega) (by unfold maxLen; omega) (Nat.le_refl _) ?_)
  intro w1 hown hgrow
  rw [made_bools] at hown
  have HB1 : Hid (Below w.heap.size w w1) := Lib.hid ((Below.refl _ _).grown hgrow (Nat.le_refl _) (by simp))
  have HM1 : Hid (Mk w1 w.heap.size (L.take 0)) := Lib.hid (Mk.made hown)
  have HR1 := Lib.hid (HR0.out.below (HB1.out.mono hH))
  clear hown hgrow HR0
  generalize hB : w.heap.size = B at *
  have HB := Lib.hid hB
  clear hB
  go_wp2
  go_loopw [6] (fun i wr => ∃ k : Nat, k ≤ n ∧ i = .int .i64 k ∧ Hid (Mk wr B (L.take k)) ∧ Hid (RdS wr H A n L) ∧ Hid (Below B w wr)) (fun i _ => n - (intOf i).toNat)
  case atStart => exact ⟨0, Nat.zero_le _, rfl, HM1, HR1, HB1⟩
  case round =>
    obtain ⟨k, hk, rfl, hmk, hrd, hbl⟩ := hrel
    clear HR1 HM1 HB1
    have hBw := hmk.out.lt
    by_cases hlt : k < n
    · have hkl : k < L.length := by rw [HN.out]; exact hlt
      obtain ⟨lb, lo, e, hbB, hcs⟩ := hrd.out.at_ (by omega)
      subst e
      obtain ⟨Ak, ck, hc, hr, hcz, hcm⟩ := hcs k hlt
      have hthr := HL.out _ (rowK_mem hkl)
      obtain ⟨x, y, z, ex, hx, hy, hz, _⟩ := thr_nat hthr
      rw [ex] at hr hc hcz
      obtain ⟨b', o', e, hbH, c0, c1, c2⟩ := rd3 hr
      subst e
      obtain ⟨q, hq⟩ : ∃ q, q = codeN x y z := ⟨_, rfl⟩
      have q1 : q < 216 := by rw [hq]; exact codeN_lt (by omega) (by omega) (by omega)
      have HC := Lib.hid (fun W => HCOD.out x y z (by omega) (by omega) (by omega) W)
      have HST := Lib.hid (hmk.out.drew.set (a := x) (b := y) (c := z) (by omega) (by omega) (by omega))
      have HMEM : Hid (∀ t, t ∈ [(x : Int), (y : Int), (z : Int)] :: L.take k ↔ t ∈ L.take (k + 1)) := by
        intro t
        rw [List.take_succ_eq_append_getElem hkl, List.mem_append, List.mem_singleton, List.mem_cons]
        have e : L[k] = [(x : Int), (y : Int), (z : Int)] := by rw [← ex]; simp [rowK, List.getD, hkl]
        rw [e]
        constructor
        · rintro (h | h)
          · exact .inr h
          · exact .inl h
        · rintro (h | h)
          · exact .inr h
          · exact .inl h
      have m1 := hmk.out.cell (a := x) (b := y) (c := z) (by omega) (by omega) (by omega)
      have f1 := hmk.out.frozen (codeN x y z)
      rw [← hq] at HC HST m1 f1
      obtain ⟨r, hr1⟩ : ∃ r, r = decide ([(x : Int), (y : Int), (z : Int)] ∈ L.take k) := ⟨_, rfl⟩
      rw [← hr1] at m1
      have hcc : wr.cell? ⟨lb, lo + k, none⟩ = some (.slice (some ⟨b', o', none⟩) 3 ck) := hc
      have m1' : wr.drew.cell? ⟨B, q, none⟩ = some (.bool r) := m1
      have f1' : wr.drew.frozen? ⟨B, q, none⟩ = false := f1
      have q1' : (q : Int) < 216 := by omega
      have q0' : (0 : Int) ≤ (q : Int) := by omega
      have HK := Lib.hid (fun (V : World) (hV : Below H wr V) => (⟨(hV.cell (p := ⟨lb, lo + k, none⟩) (by simp; omega)).trans hcc, (hV.cell (p := ⟨b', o', none⟩) (by simp; omega)).trans c0, (hV.cell (p := ⟨b', o' + 1, none⟩) (by simp; omega)).trans c1, (hV.cell (p := ⟨b', o' + 2, none⟩) (by simp; omega)).trans c2⟩ :
        V.cell? ⟨lb, lo + k, none⟩ = some (.slice (some ⟨b', o', none⟩) 3 ck) ∧ V.cell? ⟨b', o', none⟩ = some (.int .i64 (x : Int)) ∧ V.cell? ⟨b', o' + 1, none⟩ = some (.int .i64 (y : Int)) ∧ V.cell? ⟨b', o' + 2, none⟩ = some (.int .i64 (z : Int))))
      clear hcs hr hthr ex hq hr1 hkl hc m1 f1 hcc c0 c1 c2
      go_wp2
      go_region_held3 (fun V => V.cell? ⟨lb, lo + k, none⟩ = some (.slice (some ⟨b', o', none⟩) 3 ck) ∧ V.cell? ⟨b', o', none⟩ = some (.int .i64 (x : Int)) ∧ V.cell? ⟨b', o' + 1, none⟩ = some (.int .i64 (y : Int)) ∧ V.cell? ⟨b', o' + 2, none⟩ = some (.int .i64 (z : Int)))
        (first
          | exact HK.out _ (Below.refl _ _).drew
          | exact HK.out _ ((Below.refl H wr).drew.setCell (by simp; omega) _)
          | exact HK.out _ (((Below.refl H wr).setCell (by simp; omega) _).drew))
        (first
          | (go_at_call 33; refine Calls.mono (HC.out _) ?_; rintro e w' ⟨rfl, rfl⟩))
      all_goals
        clear m1' f1'
        go_wp2
        go_roundw
        case rel => exact ⟨k + 1, by omega, by go_num, Lib.hid ((HST.out.same rfl).congr HMEM.out), Lib.hid (hrd.out.below (by first | exact (Below.refl H wr).drew.setCell (by simp; omega) _ | exact ((Below.refl H wr).setCell (by simp; omega) _).drew)), Lib.hid (by first | exact hbl.out.drew.setCell (Nat.le_refl _) _ | exact (hbl.out.setCell (Nat.le_refl _) _).drew)⟩
        case measure => simp [intOf]; omega
    · obtain rfl : k = n := by omega
      have HIN : Hid (∀ t ∈ L, t ∈ L.take k) := by rw [Hid, List.take_of_length_le (by rw [HN.out]; omega)]; exact fun t ht => ht
      have HSO : Hid (∀ t ∈ L.take k, Cl L t) := fun t ht => .base (List.mem_of_mem_take ht)
      obtain ⟨K0, hK0⟩ : ∃ K0, K0 = L.take k := ⟨_, rfl⟩
      rw [← hK0] at hmk HIN HSO
      clear hK0 hrd hlt hk
      go_wp2
      go_loopg [7] (2 * untold m K0 + 1) (fun q v wo => ∃ gr K, v = .bool gr ∧ Hid (q = 2 * untold m K + (if gr = true then 1 else 0)) ∧ Hid (Mk wo B K) ∧ Hid (∀ t ∈ L, t ∈ K) ∧ Hid (∀ t ∈ K, Cl L t) ∧ Hid (gr = false → ∀ t ∈ everyL m, Clo1 K t m) ∧ Hid (Below B w wo))
      case atStart => exact ⟨true, K0, rfl, Lib.hid (by simp), hmk, HIN, HSO, Lib.hid (fun e => by cases e), hbl⟩
      case round =>
        obtain ⟨gr, K1, rfl, hq, hmo, hin, hso, hcl, hbo⟩ := hrel
        clear hmk HIN HSO hbl hBw
        cases gr with
        | false =>
          have HD := Lib.hid (clo_done HL.out hin.out hso.out (hcl.out rfl))
          go_wp2
          go_ret
          exact ⟨by rw [HB.out]; rfl, ⟨K1, by rw [HB.out]; exact hmo.out, HD.out⟩, by rw [HB.out]; exact hbo.out⟩
        | true =>
          have hBo := hmo.out.lt
          have HEV := Lib.hid (l2Every_any m wr (by omega))
          clear hcl
          go_wp2_with fail
          refine HEV.out.mono ?_
          rintro e w3 ⟨ve, rfl, hge, hb3⟩
          obtain ⟨Ae, ce, e, hce0, _⟩ := hge.slice
          subst e
          have HE3 : Hid (GrowS w3 (B + 1) (.slice Ae (everyL m).length ce) (everyL m)) := by
            obtain ⟨xs, p1, p2⟩ := hge
            refine ⟨xs, own_rowLess p1 (by omega), fun k hk => ?_⟩
            obtain ⟨vk, q1, q2⟩ := p2 k hk
            exact ⟨vk, q1, q2.less (by omega)⟩
          have HM3 := Lib.hid (hmo.out.below hb3 hBo)
          have HB3 := Lib.hid (hbo.out.trans (hb3.mono (by omega)))
          have HEL := Lib.hid (everyL_len m (by omega))
          obtain ⟨E, hE⟩ : ∃ E, E = everyL m := ⟨_, rfl⟩
          have HEE := Lib.hid hE
          rw [← hE] at HE3 HEL ⊢
          obtain ⟨z, hz⟩ : ∃ z, z = E.length := ⟨_, rfl⟩
          have HZ := Lib.hid hz
          rw [← hz] at HE3 HEL ⊢
          have hz343 : z ≤ 343 := HEL.out
          obtain ⟨u0, hu0⟩ : ∃ u0, u0 = untold m K1 := ⟨_, rfl⟩
          have HU0 : Hid (untold m K1 ≤ u0) := by rw [hu0]; exact Nat.le_refl _
          rw [← hu0] at hq
          clear hE hz hge hb3 hu0 HEV hbo hmo hce0 hBo
          go_wp2_with fail
          go_loopw [7, 9] (fun v i wj => ∃ (j : Nat) (gr : Bool) (K : List (List Int)), j ≤ z ∧ i = .int .i64 j ∧ v = .bool gr ∧ Hid (Mk wj B K) ∧ Hid (∀ t ∈ L, t ∈ K) ∧ Hid (∀ t ∈ K, Cl L t) ∧ Hid (gr = false → ∀ p, p < j → Clo1 K (rowK E p) m) ∧ Hid (gr = true → untold m K < u0) ∧ Hid (untold m K ≤ u0) ∧ Hid (GrowS wj (B + 1) (.slice Ae z ce) E) ∧ Hid (Below B w wj)) (fun _ i _ => z - (intOf i).toNat)
          case atStart => exact ⟨0, false, K1, Nat.zero_le _, rfl, rfl, HM3, hin, hso, Lib.hid (fun _ p hp => absurd hp (by omega)), Lib.hid (fun e => by cases e), HU0, HE3, HB3⟩
          case round =>
            obtain ⟨j, gr, K, hj, rfl, rfl, hmk, hin2, hso2, hcl, hut, hul, hge, hbl⟩ := hrel
            clear HM3 hin hso HU0 HE3 HB3
            have hBw := hmk.out.lt
            by_cases hlt : j < z
            · have hjl : j < E.length := by rw [← HZ.out]; exact hlt
              have hthr : Thr (m : Int) (rowK E j) := by
                have := rowK_mem hjl
                rw [HEE.out] at this ⊢
                exact (every_thr m _).1 this
              obtain ⟨a, b, c', et, ha, hb, hc, hab, hbc, hac⟩ := thr_nat hthr
              obtain ⟨g, cg, A', d', e0, hcr, hrow⟩ := hge.out.row hjl
              rw [← HZ.out] at e0
              injection e0 with e1 _ e3
              subst e3
              subst e1
              rw [et] at hcr hrow
              have HET := Lib.hid et
              obtain ⟨b', o', e, hbH, c0, c1, c2⟩ := rd3 hrow.1.rd.2
              subst e
              change wr.cell? ⟨g, j, none⟩ = some (.slice (some ⟨b', o', none⟩) 3 d') at hcr
              obtain ⟨q1, hq1⟩ : ∃ q, q = codeN a b c' := ⟨_, rfl⟩
              obtain ⟨q2, hq2⟩ : ∃ q, q = codeN b c' a := ⟨_, rfl⟩
              have l1 : q1 < 216 := by rw [hq1]; exact codeN_lt (by omega) (by omega) (by omega)
              have l2 : q2 < 216 := by rw [hq2]; exact codeN_lt (by omega) (by omega) (by omega)
              have HC1 := Lib.hid (fun W => HCOD.out a b c' (by omega) (by omega) (by omega) W)
              have HC2 := Lib.hid (fun W => HCOD.out b c' a (by omega) (by omega) (by omega) W)
              have HS2 := Lib.hid (hmk.out.set (a := b) (b := c') (c := a) (by omega) (by omega) (by omega))
              have m1 := hmk.out.cell (a := a) (b := b) (c := c') (by omega) (by omega) (by omega)
              have m2 := hmk.out.cell (a := b) (b := c') (c := a) (by omega) (by omega) (by omega)
              have f2 := hmk.out.frozen (codeN b c' a)
              rw [← hq1] at HC1 m1
              rw [← hq2] at HC2 HS2 m2 f2
              have hTH : Thr (m : Int) [(a : Int), (b : Int), (c' : Int)] := by rw [← et]; exact hthr
              have hTT : Thr (m : Int) [(b : Int), (c' : Int), (a : Int)] := by
                rw [thr3] at hTH ⊢
                obtain ⟨h1, h2, h3, h4, h5, h6⟩ := hTH
                exact ⟨h2, h3, h1, h6, Ne.symm h4, Ne.symm h5⟩
              have HTT := Lib.hid hTT
              clear hrow hjl hthr et hq1 hq2 hTH hTT
              by_cases hy1 : [(a : Int), (b : Int), (c' : Int)] ∈ K
              · have HCT := Lib.hid (hso2.out _ hy1)
                rw [decide_eq_true hy1] at m1
                have HY1 := Lib.hid hy1
                clear hy1
                by_cases hy2 : [(b : Int), (c' : Int), (a : Int)] ∈ K
                · rw [decide_eq_true hy2] at m2
                  have HY2 := Lib.hid hy2
                  clear hy2
                  go_wp2_with fail
                  refine Calls.mono (HC1.out _) ?_
                  rintro e w' ⟨rfl, rfl⟩
                  go_wp2_with fail
                  refine Calls.mono (HC2.out _) ?_
                  rintro e w' ⟨rfl, rfl⟩
                  go_wp2_with fail
                  have HCL2 : Hid (gr = false → (∀ p, p < j → Clo1 K (rowK E p) m) ∧ Clo1 K [(a : Int), (b : Int), (c' : Int)] 0) := fun e => ⟨hcl.out e, clo_mem HY2.out⟩
                  clear m1 m2 f2 c0 c1 c2 hcr hcl hBw HS2
                  go_loopw [7, 13] (fun v i wl => ∃ (u : Nat) (gr : Bool) (K : List (List Int)), u ≤ m ∧ i = .int .i64 u ∧ v = .bool gr ∧ Hid (Mk wl B K) ∧ Hid (∀ t ∈ L, t ∈ K) ∧ Hid (∀ t ∈ K, Cl L t) ∧ Hid (gr = false → (∀ p, p < j → Clo1 K (rowK E p) m) ∧ Clo1 K [(a : Int), (b : Int), (c' : Int)] u) ∧ Hid (gr = true → untold m K < u0) ∧ Hid (untold m K ≤ u0) ∧ Hid (GrowS wl (B + 1) (.slice (some ⟨g, 0, none⟩) z ce) E) ∧ Hid (Below B w wl)) (fun _ i _ => m - (intOf i).toNat)
                  case atStart => exact ⟨0, gr, K, Nat.zero_le _, rfl, rfl, hmk, hin2, hso2, HCL2, hut, hul, hge, hbl⟩
                  case round =>
                    obtain ⟨u, gr, K, hu, rfl, rfl, hmk, hin2, hso2, hcl, hut, hul, hge, hbl⟩ := hrel
                    clear HCL2
                    have hBw := hmk.out.lt
                    by_cases hlu : u < m
                    · by_cases ea : u = a
                      · have b1 : ((u : Int) != (a : Int)) = false := by simp; omega
                        have HEA : Hid ((u : Int) = (a : Int)) := by rw [ea]; rfl
                        clear ea
                        have HST : Hid (gr = false → (∀ p, p < j → Clo1 K (rowK E p) m) ∧ Clo1 K [(a : Int), (b : Int), (c' : Int)] (u + 1)) := fun e => ⟨(hcl.out e).1, clo_step (hcl.out e).2 (fun h => absurd HEA.out h)⟩
                        go_wp2
                        go_roundw
                        case rel => exact ⟨u + 1, gr, K, by omega, by go_num, rfl, hmk, hin2, hso2, HST, hut, hul, hge, hbl⟩
                        case measure => simp [intOf]; omega
                      have b1 : ((u : Int) != (a : Int)) = true := by simp; omega
                      clear ea
                      by_cases eb : u = b
                      · have b2 : ((u : Int) != (b : Int)) = false := by simp; omega
                        have HEA : Hid ((u : Int) = (b : Int)) := by rw [eb]; rfl
                        clear eb
                        have HST : Hid (gr = false → (∀ p, p < j → Clo1 K (rowK E p) m) ∧ Clo1 K [(a : Int), (b : Int), (c' : Int)] (u + 1)) := fun e => ⟨(hcl.out e).1, clo_step (hcl.out e).2 (fun _ h => absurd HEA.out h)⟩
                        go_wp2
                        go_roundw
                        case rel => exact ⟨u + 1, gr, K, by omega, by go_num, rfl, hmk, hin2, hso2, HST, hut, hul, hge, hbl⟩
                        case measure => simp [intOf]; omega
                      have b2 : ((u : Int) != (b : Int)) = true := by simp; omega
                      have HUB : Hid (u ≠ b) := eb
                      clear eb
                      by_cases ec : u = c'
                      · have b3 : ((u : Int) != (c' : Int)) = false := by simp; omega
                        have HEA : Hid ((u : Int) = (c' : Int)) := by rw [ec]; rfl
                        clear ec
                        have HST : Hid (gr = false → (∀ p, p < j → Clo1 K (rowK E p) m) ∧ Clo1 K [(a : Int), (b : Int), (c' : Int)] (u + 1)) := fun e => ⟨(hcl.out e).1, clo_step (hcl.out e).2 (fun _ _ h => absurd HEA.out h)⟩
                        go_wp2
                        go_roundw
                        case rel => exact ⟨u + 1, gr, K, by omega, by go_num, rfl, hmk, hin2, hso2, HST, hut, hul, hge, hbl⟩
                        case measure => simp [intOf]; omega
                      have b3 : ((u : Int) != (c' : Int)) = true := by simp; omega
                      clear ec
                      obtain ⟨q3, hq3⟩ : ∃ q, q = codeN a c' u := ⟨_, rfl⟩
                      obtain ⟨q4, hq4⟩ : ∃ q, q = codeN a b u := ⟨_, rfl⟩
                      have l3 : q3 < 216 := by rw [hq3]; exact codeN_lt (by omega) (by omega) (by omega)
                      have l4 : q4 < 216 := by rw [hq4]; exact codeN_lt (by omega) (by omega) (by omega)
                      have HC3 := Lib.hid (fun W => HCOD.out a c' u (by omega) (by omega) (by omega) W)
                      have HC4 := Lib.hid (fun W => HCOD.out a b u (by omega) (by omega) (by omega) W)
                      have HS4 := Lib.hid (hmk.out.set (a := a) (b := b) (c := u) (by omega) (by omega) (by omega))
                      have m3 := hmk.out.cell (a := a) (b := c') (c := u) (by omega) (by omega) (by omega)
                      have m4 := hmk.out.cell (a := a) (b := b) (c := u) (by omega) (by omega) (by omega)
                      have f4 := hmk.out.frozen (codeN a b u)
                      rw [← hq3] at HC3 m3
                      rw [← hq4] at HC4 HS4 m4 f4
                      clear hq3 hq4
                      by_cases hy3 : [(a : Int), (c' : Int), (u : Int)] ∈ K
                      · rw [decide_eq_true hy3] at m3
                        by_cases hy4 : [(a : Int), (b : Int), (u : Int)] ∈ K
                        · rw [decide_eq_true hy4] at m4
                          have HY4 := Lib.hid hy4
                          clear hy3 hy4
                          have HST : Hid (gr = false → (∀ p, p < j → Clo1 K (rowK E p) m) ∧ Clo1 K [(a : Int), (b : Int), (c' : Int)] (u + 1)) := fun e => ⟨(hcl.out e).1, clo_step (hcl.out e).2 (fun _ _ _ _ => HY4.out)⟩
                          go_wp2_with fail
                          refine Calls.mono (HC3.out _) ?_
                          rintro e w' ⟨rfl, rfl⟩
                          go_wp2_with fail
                          refine Calls.mono (HC4.out _) ?_
                          rintro e w' ⟨rfl, rfl⟩
                          go_wp2
                          go_roundw
                          case rel => exact ⟨u + 1, gr, K, by omega, by go_num, rfl, hmk, hin2, hso2, HST, hut, hul, hge, hbl⟩
                          case measure => simp [intOf]; omega
                        · rw [decide_eq_false hy4] at m4
                          have HCN : Hid (Cl L [(a : Int), (b : Int), (u : Int)]) := HCT.out.join (hso2.out _ hy3) (by have := HUB.out; omega)
                          have hlt2 := untold_cons m K _ (HCN.out.thr HL.out) hy4
                          have HUT2 : Hid (true = true → untold m ([(a : Int), (b : Int), (u : Int)] :: K) < u0) := fun _ => by have := hul.out; omega
                          have HUL2 : Hid (untold m ([(a : Int), (b : Int), (u : Int)] :: K) ≤ u0) := by have := hul.out; simp only [Hid]; omega
                          have HIN3 : Hid (∀ t ∈ L, t ∈ [(a : Int), (b : Int), (u : Int)] :: K) := fun t ht => List.mem_cons_of_mem _ (hin2.out t ht)
                          have HSO3 : Hid (∀ t ∈ [(a : Int), (b : Int), (u : Int)] :: K, Cl L t) := fun t ht => by
                            rcases List.mem_cons.1 ht with rfl | ht
                            · exact HCN.out
                            · exact hso2.out t ht
                          clear hy3 hy4 hlt2
                          go_wp2_with fail
                          refine Calls.mono (HC3.out _) ?_
                          rintro e w' ⟨rfl, rfl⟩
                          go_wp2_with fail
                          refine Calls.mono (HC4.out _) ?_
                          rintro e w' ⟨rfl, rfl⟩
                          go_wp2_with fail
                          refine Calls.mono (HC4.out _) ?_
                          rintro e w' ⟨rfl, rfl⟩
                          go_wp2
                          go_roundw
                          case rel => exact ⟨u + 1, true, [(a : Int), (b : Int), (u : Int)] :: K, by omega, by go_num, rfl, HS4, HIN3, HSO3, Lib.hid (fun e => by cases e), Lib.hid (fun _ => by first | exact HUT2.out rfl | exact HUT2.out trivial), HUL2, Lib.hid (hge.out.set (by omega) _ _), Lib.hid (hbl.out.setCell (Nat.le_refl _) _)⟩
                          case measure => simp [intOf]; omega
                      · rw [decide_eq_false hy3] at m3
                        have HY3 := Lib.hid hy3
                        clear hy3
                        have HST : Hid (gr = false → (∀ p, p < j → Clo1 K (rowK E p) m) ∧ Clo1 K [(a : Int), (b : Int), (c' : Int)] (u + 1)) := fun e => ⟨(hcl.out e).1, clo_step (hcl.out e).2 (fun _ _ _ h => absurd h HY3.out)⟩
                        go_wp2_with fail
                        refine Calls.mono (HC3.out _) ?_
                        rintro e w' ⟨rfl, rfl⟩
                        go_wp2
                        go_roundw
                        case rel => exact ⟨u + 1, gr, K, by omega, by go_num, rfl, hmk, hin2, hso2, HST, hut, hul, hge, hbl⟩
                        case measure => simp [intOf]; omega
                    · obtain rfl : u = m := by omega
                      have HST : Hid (gr = false → ∀ p, p < j + 1 → Clo1 K (rowK E p) u) := fun e p hp => by
                        rcases Nat.lt_succ_iff_lt_or_eq.1 hp with hp | rfl
                        · exact (hcl.out e).1 p hp
                        · rw [HET.out]; exact (hcl.out e).2
                      clear hcl
                      go_wp2
                      go_roundw
                      case rel => exact ⟨j + 1, gr, K, by omega, by go_num, rfl, hmk, hin2, hso2, HST, hut, hul, hge, hbl⟩
                      case measure => simp [intOf]; omega
                · rw [decide_eq_false hy2] at m2
                  have HY2 := Lib.hid hy2
                  clear hy2
                  go_wp2_with fail
                  refine Calls.mono (HC1.out _) ?_
                  rintro e w' ⟨rfl, rfl⟩
                  go_wp2_with fail
                  refine Calls.mono (HC2.out _) ?_
                  rintro e w' ⟨rfl, rfl⟩
                  go_wp2_with fail
                  refine Calls.mono (HC2.out _) ?_
                  rintro e w' ⟨rfl, rfl⟩
                  go_wp2_with fail
                  have HGE := Lib.hid (hge.out.set (g := B) (by omega) q2 (.bool true))
                  have HBL := Lib.hid (hbl.out.setCell (p := ⟨B, q2, none⟩) (Nat.le_refl _) (.bool true))
                  clear hge hbl hmk m1 m2 f2 c0 c1 c2 hcr hcl hut hBw
                  generalize wr.setCell ⟨B, q2, none⟩ (.bool true) = wk at *
                  obtain ⟨K2, hK2⟩ : ∃ K2, K2 = [(b : Int), (c' : Int), (a : Int)] :: K := ⟨_, rfl⟩
                  have HCL2 : Hid (true = false → (∀ p, p < j → Clo1 K2 (rowK E p) m) ∧ Clo1 K2 [(a : Int), (b : Int), (c' : Int)] 0) := fun e => by cases e
                  have HIN2 : Hid (∀ t ∈ L, t ∈ K2) := fun t ht => by rw [hK2]; exact List.mem_cons_of_mem _ (hin2.out t ht)
                  have HSO2 : Hid (∀ t ∈ K2, Cl L t) := fun t ht => by
                    rw [hK2] at ht
                    rcases List.mem_cons.1 ht with rfl | ht
                    · exact HCT.out.turn
                    · exact hso2.out t ht
                  have hlt2 : untold m K2 < untold m K := by rw [hK2]; exact untold_cons m K _ HTT.out HY2.out
                  have HUT2 : Hid (true = true → untold m K2 < u0) := fun _ => by have := hul.out; omega
                  have HUL2 : Hid (untold m K2 ≤ u0) := by have := hul.out; simp only [Hid]; omega
                  rw [← hK2] at HS2
                  clear hin2 hso2 hul hlt2 hK2 HY2
                  go_loopw [7, 13] (fun v i wl => ∃ (u : Nat) (gr : Bool) (K : List (List Int)), u ≤ m ∧ i = .int .i64 u ∧ v = .bool gr ∧ Hid (Mk wl B K) ∧ Hid (∀ t ∈ L, t ∈ K) ∧ Hid (∀ t ∈ K, Cl L t) ∧ Hid (gr = false → (∀ p, p < j → Clo1 K (rowK E p) m) ∧ Clo1 K [(a : Int), (b : Int), (c' : Int)] u) ∧ Hid (gr = true → untold m K < u0) ∧ Hid (untold m K ≤ u0) ∧ Hid (GrowS wl (B + 1) (.slice (some ⟨g, 0, none⟩) z ce) E) ∧ Hid (Below B w wl)) (fun _ i _ => m - (intOf i).toNat)
                  case atStart => exact ⟨0, true, K2, Nat.zero_le _, rfl, rfl, HS2, HIN2, HSO2, HCL2, HUT2, HUL2, HGE, HBL⟩
                  case round =>
                    obtain ⟨u, gr, K, hu, rfl, rfl, hmk, hin2, hso2, hcl, hut, hul, hge, hbl⟩ := hrel
                    clear HS2 HIN2 HSO2 HUT2 HUL2 HGE HBL HCL2
                    have hBw := hmk.out.lt
                    by_cases hlu : u < m
                    · by_cases ea : u = a
                      · have b1 : ((u : Int) != (a : Int)) = false := by simp; omega
                        have HEA : Hid ((u : Int) = (a : Int)) := by rw [ea]; rfl
                        clear ea
                        have HST : Hid (gr = false → (∀ p, p < j → Clo1 K (rowK E p) m) ∧ Clo1 K [(a : Int), (b : Int), (c' : Int)] (u + 1)) := fun e => ⟨(hcl.out e).1, clo_step (hcl.out e).2 (fun h => absurd HEA.out h)⟩
                        go_wp2
                        go_roundw
                        case rel => exact ⟨u + 1, gr, K, by omega, by go_num, rfl, hmk, hin2, hso2, HST, hut, hul, hge, hbl⟩
                        case measure => simp [intOf]; omega
                      have b1 : ((u : Int) != (a : Int)) = true := by simp; omega
                      clear ea
                      by_cases eb : u = b
                      · have b2 : ((u : Int) != (b : Int)) = false := by simp; omega
                        have HEA : Hid ((u : Int) = (b : Int)) := by rw [eb]; rfl
                        clear eb
                        have HST : Hid (gr = false → (∀ p, p < j → Clo1 K (rowK E p) m) ∧ Clo1 K [(a : Int), (b : Int), (c' : Int)] (u + 1)) := fun e => ⟨(hcl.out e).1, clo_step (hcl.out e).2 (fun _ h => absurd HEA.out h)⟩
                        go_wp2
                        go_roundw
                        case rel => exact ⟨u + 1, gr, K, by omega, by go_num, rfl, hmk, hin2, hso2, HST, hut, hul, hge, hbl⟩
                        case measure => simp [intOf]; omega
                      have b2 : ((u : Int) != (b : Int)) = true := by simp; omega
                      have HUB : Hid (u ≠ b) := eb
                      clear eb
                      by_cases ec : u = c'
                      · have b3 : ((u : Int) != (c' : Int)) = false := by simp; omega
                        have HEA : Hid ((u : Int) = (c' : Int)) := by rw [ec]; rfl
                        clear ec
                        have HST : Hid (gr = false → (∀ p, p < j → Clo1 K (rowK E p) m) ∧ Clo1 K [(a : Int), (b : Int), (c' : Int)] (u + 1)) := fun e => ⟨(hcl.out e).1, clo_step (hcl.out e).2 (fun _ _ h => absurd HEA.out h)⟩
                        go_wp2
                        go_roundw
                        case rel => exact ⟨u + 1, gr, K, by omega, by go_num, rfl, hmk, hin2, hso2, HST, hut, hul, hge, hbl⟩
                        case measure => simp [intOf]; omega
                      have b3 : ((u : Int) != (c' : Int)) = true := by simp; omega
                      clear ec
                      obtain ⟨q3, hq3⟩ : ∃ q, q = codeN a c' u := ⟨_, rfl⟩
                      obtain ⟨q4, hq4⟩ : ∃ q, q = codeN a b u := ⟨_, rfl⟩
                      have l3 : q3 < 216 := by rw [hq3]; exact codeN_lt (by omega) (by omega) (by omega)
                      have l4 : q4 < 216 := by rw [hq4]; exact codeN_lt (by omega) (by omega) (by omega)
                      have HC3 := Lib.hid (fun W => HCOD.out a c' u (by omega) (by omega) (by omega) W)
                      have HC4 := Lib.hid (fun W => HCOD.out a b u (by omega) (by omega) (by omega) W)
                      have HS4 := Lib.hid (hmk.out.set (a := a) (b := b) (c := u) (by omega) (by omega) (by omega))
                      have m3 := hmk.out.cell (a := a) (b := c') (c := u) (by omega) (by omega) (by omega)
                      have m4 := hmk.out.cell (a := a) (b := b) (c := u) (by omega) (by omega) (by omega)
                      have f4 := hmk.out.frozen (codeN a b u)
                      rw [← hq3] at HC3 m3
                      rw [← hq4] at HC4 HS4 m4 f4
                      clear hq3 hq4
                      by_cases hy3 : [(a : Int), (c' : Int), (u : Int)] ∈ K
                      · rw [decide_eq_true hy3] at m3
                        by_cases hy4 : [(a : Int), (b : Int), (u : Int)] ∈ K
                        · rw [decide_eq_true hy4] at m4
                          have HY4 := Lib.hid hy4
                          clear hy3 hy4
                          have HST : Hid (gr = false → (∀ p, p < j → Clo1 K (rowK E p) m) ∧ Clo1 K [(a : Int), (b : Int), (c' : Int)] (u + 1)) := fun e => ⟨(hcl.out e).1, clo_step (hcl.out e).2 (fun _ _ _ _ => HY4.out)⟩
                          go_wp2_with fail
                          refine Calls.mono (HC3.out _) ?_
                          rintro e w' ⟨rfl, rfl⟩
                          go_wp2_with fail
                          refine Calls.mono (HC4.out _) ?_
                          rintro e w' ⟨rfl, rfl⟩
                          go_wp2
                          go_roundw
                          case rel => exact ⟨u + 1, gr, K, by omega, by go_num, rfl, hmk, hin2, hso2, HST, hut, hul, hge, hbl⟩
                          case measure => simp [intOf]; omega
                        · rw [decide_eq_false hy4] at m4
                          have HCN : Hid (Cl L [(a : Int), (b : Int), (u : Int)]) := HCT.out.join (hso2.out _ hy3) (by have := HUB.out; omega)
                          have hlt2 := untold_cons m K _ (HCN.out.thr HL.out) hy4
                          have HUT2 : Hid (true = true → untold m ([(a : Int), (b : Int), (u : Int)] :: K) < u0) := fun _ => by have := hul.out; omega
                          have HUL2 : Hid (untold m ([(a : Int), (b : Int), (u : Int)] :: K) ≤ u0) := by have := hul.out; simp only [Hid]; omega
                          have HIN3 : Hid (∀ t ∈ L, t ∈ [(a : Int), (b : Int), (u : Int)] :: K) := fun t ht => List.mem_cons_of_mem _ (hin2.out t ht)
                          have HSO3 : Hid (∀ t ∈ [(a : Int), (b : Int), (u : Int)] :: K, Cl L t) := fun t ht => by
                            rcases List.mem_cons.1 ht with rfl | ht
                            · exact HCN.out
                            · exact hso2.out t ht
                          clear hy3 hy4 hlt2
                          go_wp2_with fail
                          refine Calls.mono (HC3.out _) ?_
                          rintro e w' ⟨rfl, rfl⟩
                          go_wp2_with fail
                          refine Calls.mono (HC4.out _) ?_
                          rintro e w' ⟨rfl, rfl⟩
                          go_wp2_with fail
                          refine Calls.mono (HC4.out _) ?_
                          rintro e w' ⟨rfl, rfl⟩
                          go_wp2
                          go_roundw
                          case rel => exact ⟨u + 1, true, [(a : Int), (b : Int), (u : Int)] :: K, by omega, by go_num, rfl, HS4, HIN3, HSO3, Lib.hid (fun e => by cases e), Lib.hid (fun _ => by first | exact HUT2.out rfl | exact HUT2.out trivial), HUL2, Lib.hid (hge.out.set (by omega) _ _), Lib.hid (hbl.out.setCell (Nat.le_refl _) _)⟩
                          case measure => simp [intOf]; omega
                      · rw [decide_eq_false hy3] at m3
                        have HY3 := Lib.hid hy3
                        clear hy3
                        have HST : Hid (gr = false → (∀ p, p < j → Clo1 K (rowK E p) m) ∧ Clo1 K [(a : Int), (b : Int), (c' : Int)] (u + 1)) := fun e => ⟨(hcl.out e).1, clo_step (hcl.out e).2 (fun _ _ _ h => absurd h HY3.out)⟩
                        go_wp2_with fail
                        refine Calls.mono (HC3.out _) ?_
                        rintro e w' ⟨rfl, rfl⟩
                        go_wp2
                        go_roundw
                        case rel => exact ⟨u + 1, gr, K, by omega, by go_num, rfl, hmk, hin2, hso2, HST, hut, hul, hge, hbl⟩
                        case measure => simp [intOf]; omega
                    · obtain rfl : u = m := by omega
                      have HST : Hid (gr = false → ∀ p, p < j + 1 → Clo1 K (rowK E p) u) := fun e p hp => by
                        rcases Nat.lt_succ_iff_lt_or_eq.1 hp with hp | rfl
                        · exact (hcl.out e).1 p hp
                        · rw [HET.out]; exact (hcl.out e).2
                      clear hcl
                      go_wp2
                      go_roundw
                      case rel => exact ⟨j + 1, gr, K, by omega, by go_num, rfl, hmk, hin2, hso2, HST, hut, hul, hge, hbl⟩
                      case measure => simp [intOf]; omega
              · rw [decide_eq_false hy1] at m1
                have HY1 := Lib.hid hy1
                clear hy1 m2 f2 HS2
                have HST : Hid (gr = false → ∀ p, p < j + 1 → Clo1 K (rowK E p) m) := fun e p hp => by
                  rcases Nat.lt_succ_iff_lt_or_eq.1 hp with hp | rfl
                  · exact hcl.out e p hp
                  · rw [HET.out]; exact clo_not HY1.out m
                clear hcl
                go_wp2_with fail
                refine Calls.mono (HC1.out _) ?_
                rintro e w' ⟨rfl, rfl⟩
                go_wp2
                go_roundw
                case rel => exact ⟨j + 1, gr, K, by omega, by go_num, rfl, hmk, hin2, hso2, HST, hut, hul, hge, hbl⟩
                case measure => simp [intOf]; omega
            · obtain rfl : j = z := by omega
              have HALL : Hid (gr = false → ∀ t ∈ everyL m, Clo1 K t m) := fun e t ht => by
                rw [← HEE.out] at ht
                obtain ⟨p, hp, ep⟩ := List.getElem_of_mem ht
                have := hcl.out e p (by rw [HZ.out]; exact hp)
                rw [← ep]
                have e2 : rowK E p = E[p] := by simp [rowK, List.getD, hp]
                rw [← e2]; exact this
              go_wp2
              go_roundg (2 * untold m K + (if gr = true then 1 else 0))
              case measure =>
                have h1 := hq.out
                have h2 := hut.out
                have h3 := hul.out
                simp only [if_true] at h1
                cases gr with
                | true => have := h2 rfl; simp; omega
                | false => simp; omega
              case rel => exact ⟨gr, K, rfl, Lib.hid rfl, hmk, hin2, hso2, HALL, hbl⟩
end Go.Proofs.YthefnanhikjddaaDoor

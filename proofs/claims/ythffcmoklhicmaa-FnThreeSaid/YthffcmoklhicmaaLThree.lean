/- Threes go round, and not the other way: the law FnThree. -/
import Derived.Test.YthffcmoklhicmaaDraw3
import Derived.Test.YthffcmoklhicmaaThreeM
import Derived.Deep.RegionHeld3
namespace Go.Proofs.Ythffcmoklhicmaa
open Go.ChangeShapes Go.WideShapes Go.ChangeAt Go.RowKit

theorem u8_in {v : Int} (h : (Lit.int .u8 v).wf = true) : 0 ≤ v ∧ v < 256 := by
  have e : IntKind.u8.min ≤ v ∧ v ≤ IntKind.u8.max := by simpa [Lit.wf] using h
  simp [IntKind.min, IntKind.max, IntKind.signed, IntKind.bits] at e
  omega
theorem byt_of_row {w : World} {a : Option Addr} {len cap : Nat} {zs : List Int} (h : IsRow .u8 w a len cap zs) : Byt w w.heap.size a len ∧ len ≤ cap ∧ cap ≤ 9223372036854775807 := by
  rcases h with ⟨rfl, rfl, rfl, rfl⟩ | ⟨x, rfl, hl, hm, hz, hcell, hwf⟩
  · exact ⟨fun h => absurd h (by omega), by omega, by omega⟩
  · unfold maxLen at hm
    refine ⟨fun hp => ?_, hl, hm⟩
    obtain ⟨b, off, spot⟩ := x
    have hc := hcell 0 (by omega)
    have hspot : spot = none := by simpa [Addr.add] using World.cell?_spot hc
    subst hspot
    refine ⟨b, off, rfl, World.block_lt_of_cell? w ⟨b, off, none⟩ (by simpa [Addr.add] using hc), fun k hk => ?_⟩
    have h1 := hcell k (by omega)
    have h2 := u8_in (hwf _ (getD_mem zs k (by omega)))
    rw [Addr.add_lit] at h1
    exact ⟨(zs.getD k 0).toNat, by omega, by rw [h1, Int.toNat_of_nonneg h2.1]⟩

theorem Own.rowV {w : World} {B : Nat} {v : Value} {l : List Int} (h : Own w B v l) : RowV w B v l := by
  refine ⟨h.gen, ?_⟩
  rcases h.2 with ⟨e, h0⟩ | ⟨g, cap, cur, e, _, _, h3, h4, _⟩
  · exact ⟨none, 0, by rw [e, h0], by omega, by omega⟩
  · exact ⟨_, cap, e, h3, h4⟩

theorem inB_parts {l t : List Int} (h : inB l t = true) : Ring l ∧ ∃ x y z, t = [x, y, z] ∧ x ∈ l ∧ y ∈ l ∧ z ∈ l ∧ x ≠ y ∧ y ≠ z ∧ x ≠ z ∧ has3 l [x, y, z] = true := by
  unfold inB at h
  simp only [Bool.and_eq_true] at h
  obtain ⟨⟨h1, h2⟩, h3⟩ := h
  have hr : Ring l := by simpa [ringB] using h1
  have ht : Thr (l.length : Int) t := by simpa [thr] using h2
  obtain ⟨x, y, z, rfl, hx, hy, hz⟩ := thr_mem hr.1 ht
  have := (thr3 _ x y z).1 ht
  exact ⟨hr, x, y, z, rfl, hx, hy, hz, this.2.2.2.1, this.2.2.2.2.2, this.2.2.2.2.1, h3⟩
theorem inB_of {l : List Int} {x y z : Int} (hr : Ring l) (hx : x ∈ l) (hy : y ∈ l) (hz : z ∈ l) (h1 : x ≠ y) (h2 : y ≠ z) (h3 : x ≠ z) : inB l [x, y, z] = has3 l [x, y, z] := by
  have ht : Thr (l.length : Int) [x, y, z] := (thr3 _ x y z).2 (by
    have a := hr.1.2.2.1 x hx
    have b := hr.1.2.2.1 y hy
    have c := hr.1.2.2.1 z hz
    exact ⟨by omega, by omega, by omega, h1, h3, h2⟩)
  unfold inB
  rw [ring_yes hr, (thr_yes ht).1]
  simp
theorem backL_mem {l : List Int} {x : Int} (hx : x ∈ l) : x ∈ backL l := by
  have hi := List.idxOf_lt_length_of_mem hx
  have hn : 0 < l.length := by omega
  have m1 : (l.length - l.idxOf x) % l.length < l.length := Nat.mod_lt _ hn
  have hg := backL_get l _ m1
  have e : (l.length - (l.length - l.idxOf x) % l.length) % l.length = l.idxOf x := by
    by_cases h0 : l.idxOf x = 0
    · rw [h0, Nat.sub_zero, Nat.mod_self, Nat.sub_zero, Nat.mod_self]
    · rw [Nat.mod_eq_of_lt (show l.length - l.idxOf x < l.length by omega), show l.length - (l.length - l.idxOf x) = l.idxOf x by omega, Nat.mod_eq_of_lt hi]
  rw [e, at_idx l x hx] at hg
  rw [← hg]
  exact getD_mem _ _ (by rw [backL_length]; exact m1)

set_option maxRecDepth 10000 in
set_option maxHeartbeats 4000000 in
theorem law_Three (a0 : Option Addr) (len0 cap0 : Nat) (z0 : List Int) (w : World) (w0 : IsRow .u8 w a0 len0 cap0 z0) :
    Calls Try.prog 3 #[.slice a0 len0 cap0] w fun e w' => e = .returned (.bool true) ∧ Below w.heap.size w w' := by
  obtain ⟨h, hlc, hcm⟩ := byt_of_row w0
  have HD := Lib.hid (drawThree_any len0 cap0 w.heap.size a0 w h (Nat.le_refl _) hlc hcm)
  clear w0 h
  by_cases hn : len0 ≤ 1048576
  rotate_left
  · go_enter Try.func3, Try.ntmps3
    go_wp2_with fail
    go_ret
    exact ⟨rfl, Below.refl _ _⟩
  go_enter Try.func3, Try.ntmps3
  go_wp2_with fail
  refine HD.out.mono ?_
  rintro e w1 ⟨v, v', l, t, rfl, hv, hv', ⟨hl, ht⟩, hb1⟩
  obtain ⟨A, c, e, hnc, hcm1⟩ := hv.2
  subst e
  obtain ⟨A', c', e, hnc', hcm1'⟩ := hv'.2
  rw [ht] at e hnc'
  subst e
  have hr := hv.1.rd.2
  have hr' := hv'.1.rd.2
  clear ht
  have HB1 := Lib.hid hb1
  have hs1 := hb1.size
  have HCI := Lib.hid (tiI_any A l.length c A' 3 c' w1.heap.size l t w1 hr hr' (Nat.le_refl _) (by omega) (by omega) hnc hcm1 hnc' hcm1')
  have HCS := Lib.hid (fun W (hb : Below w1.heap.size w1 W) => tiS_any A l.length c A' 3 c' w1.heap.size l t W (hr.below hb) (hr'.below hb) hb.size (by omega) (by omega))
  have HRB := Lib.hid (fun W (hb : Below w1.heap.size w1 W) => bkI_any A l.length c w1.heap.size l W (hr.below hb) hb.size (by omega) hnc hcm1)
  have HR := Lib.hid (fun W (hb : Below w1.heap.size w1 W) => hr.below hb)
  have HR' := Lib.hid (fun W (hb : Below w1.heap.size w1 W) => hr'.below hb)
  clear hv hv' hr hr' hb1 HD
  go_wp2_with fail
  refine HCI.out.mono ?_
  rintro e w2 ⟨rfl, hb2⟩
  have HB2 := Lib.hid hb2
  clear hb2 HCI
  go_wp2_with fail
  refine (HCS.out w2 HB2.out).mono ?_
  rintro e w3 ⟨rfl, hb3⟩
  have HB3 := Lib.hid (HB2.out.trans (hb3.mono HB2.out.size))
  clear hb3 HB2 HCS
  by_cases hin : inB l t = true
  rotate_left
  · have hf : inB l t = false := by simpa using hin
    rw [hf]
    clear hin hf
    go_wp2
    go_ret
    exact ⟨rfl, HB1.out.trans (HB3.out.mono (by omega))⟩
  obtain ⟨hring, x, y, z, rfl, hx, hy, hz, n1, n2, n3, hh⟩ := inB_parts hin
  rw [hin]
  have E1 : Hid (inB l [y, z, x] = true) := by
    rw [Hid, inB_of hring hy hz hx n2 (fun e => n3 e.symm) (fun e => n1 e.symm)]; exact has3_turn hx hy hz n1 n2 n3 hh
  have E2 : Hid (inB l [x, z, y] = false) := by
    rw [Hid, inB_of hring hx hz hy n3 (fun e => n2 e.symm) n1]; exact has3_not hh
  have E3 : Hid (inB (backL l) [x, z, y] = true) := by
    rw [Hid, inB_of (backL_ring hring) (backL_mem hx) (backL_mem hz) (backL_mem hy) n3 (fun e => n2 e.symm) n1]; exact has3_back hring.1.2.2.2 hx hy hz n1 n2 n3 hh
  have E4 : Hid (ringB l = true ∧ backR l = backL l) := ⟨ring_yes hring, by rw [backR, if_pos hring]⟩
  have EL : Hid ((backL l).length ≤ 7) := by rw [Hid, backL_length]; exact hl
  clear hin hring hx hy hz n1 n2 n3 hh
  rw [E4.out.1, E4.out.2] at HRB
  go_wp2_with fail
  refine (HRB.out w3 HB3.out).mono ?_
  rintro e w4 ⟨vb, rfl, ho, hb4⟩
  have HB4 := Lib.hid (HB3.out.trans (hb4.mono HB3.out.size))
  obtain ⟨hog, Ab, cb, e, hnb, hcb⟩ := ho.rowV
  rw [backL_length] at e hnb
  subst e
  have hrb := hog.rd.2
  have hsz4 := HB4.out.size
  obtain ⟨b, o, e, hbG, c0, c1, c2⟩ := rd3 (HR'.out w4 HB4.out)
  subst e
  clear ho hb4 HB3 HRB HR'
  have HC := Lib.hid (fun (V : World) (p q r : Int) (hV : Below w4.heap.size w4 V) => tiI_any A l.length c (some ⟨V.heap.size, 0, none⟩) 3 3 (V.heap.size + 1) l [p, q, r] (V.alloc (.cells #[.int .i64 p, .int .i64 q, .int .i64 r] 3))
    (((HR.out w4 HB4.out).below (hV.mono (by omega))).alloc (by have := hV.size; omega) _ |>.more (by have := hV.size; omega)) ⟨rfl, fun _ => ⟨V.heap.size, 0, rfl, by omega, fun k hk => by
      have h := heap_alloc_new V (.cells #[.int .i64 p, .int .i64 q, .int .i64 r] 3)
      rw [Nat.zero_add, cell_of_row _ _ _ _ _ (0, 0) h]
      obtain rfl | rfl | rfl : k = 0 ∨ k = 1 ∨ k = 2 := by omega
      all_goals rfl⟩⟩ (by simp) (by omega) (by omega) hnc hcm1 (by omega) (by omega))
  have HCb := Lib.hid (fun (V : World) (p q r : Int) (hV : Below w4.heap.size w4 V) => tiI_any Ab l.length cb (some ⟨V.heap.size, 0, none⟩) 3 3 (V.heap.size + 1) (backL l) [p, q, r] (V.alloc (.cells #[.int .i64 p, .int .i64 q, .int .i64 r] 3))
    ((hrb.below hV).alloc (by have := hV.size; omega) _ |>.more (by have := hV.size; omega)) ⟨rfl, fun _ => ⟨V.heap.size, 0, rfl, by omega, fun k hk => by
      have h := heap_alloc_new V (.cells #[.int .i64 p, .int .i64 q, .int .i64 r] 3)
      rw [Nat.zero_add, cell_of_row _ _ _ _ _ (0, 0) h]
      obtain rfl | rfl | rfl : k = 0 ∨ k = 1 ∨ k = 2 := by omega
      all_goals rfl⟩⟩ (by simp) (by omega) (by omega) hnb hcb (by omega) (by omega))
  have HK := Lib.hid (fun (V : World) (hV : Below w4.heap.size w4 V) => (⟨(hV.cell (p := ⟨b, o, none⟩) (by show b < _; omega)).trans c0, (hV.cell (p := ⟨b, o + 1, none⟩) (by show b < _; omega)).trans c1, (hV.cell (p := ⟨b, o + 2, none⟩) (by show b < _; omega)).trans c2⟩ : _ ∧ _ ∧ _))
  have HST := Lib.hid (fun (V V' : World) (p q r : Int) (h1 : Below w4.heap.size w4 V) (h2 : Below (V.alloc (.cells #[.int .i64 p, .int .i64 q, .int .i64 r] 3)).heap.size (V.alloc (.cells #[.int .i64 p, .int .i64 q, .int .i64 r] 3)) V') => (h1.alloc h1.size (.cells #[.int .i64 p, .int .i64 q, .int .i64 r] 3)).trans (h2.mono (by have := h1.size; simp; omega)))
  have HBB := Lib.hid (HB1.out.trans (HB4.out.mono hs1))
  clear c0 c1 c2 hrb hog HR HB1 HB4
  have HZ := Lib.hid (Below.refl w4.heap.size w4).drew
  go_wp2_with fail
  go_region_held3 (fun V => V.cell? ⟨b, o, none⟩ = some (.int .i64 x) ∧ V.cell? ⟨b, o + 1, none⟩ = some (.int .i64 y) ∧ V.cell? ⟨b, o + 2, none⟩ = some (.int .i64 z))
    (first
      | exact HK.out _ HZ.out
      | exact HK.out _ (HZ.out.alloc (Nat.le_refl _) _)
      | exact HK.out _ H1.out
      | exact HK.out _ (H1.out.alloc H1.out.size _)
      | exact HK.out _ H2.out
      | exact HK.out _ (H2.out.alloc H2.out.size _)
      | exact HK.out _ H3.out)
    (first
      | (go_at_call_of 15 (Value.slice A l.length c); refine (HC.out _ _ _ _ (by first | exact HZ.out | exact H1.out)).mono ?_; rintro e w5 ⟨rfl, hb⟩; first | (have H2 := Lib.hid (HST.out _ _ _ _ _ H1.out hb); clear hb; rw [E2.out]) | (have H1 := Lib.hid (HST.out _ _ _ _ _ HZ.out hb); clear hb; rw [E1.out]))
      | (go_at_call_of 15 (Value.slice Ab l.length cb); refine (HCb.out _ _ _ _ (by exact H2.out)).mono ?_; rintro e w5 ⟨rfl, hb⟩; have H3 := Lib.hid (HST.out _ _ _ _ _ H2.out hb); clear hb; rw [E3.out]))
  all_goals
    go_wp2
    go_ret
    exact ⟨rfl, HBB.out.trans (H3.out.mono (by have := HBB.out.size; omega))⟩
end Go.Proofs.Ythffcmoklhicmaa

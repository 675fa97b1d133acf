/- A ring beginning with another point: the program's array and the model's list. -/
import Derived.Test.YtjpbmhlojpaieaaDoorRead
import Derived.Deep.RegionWith
import Derived.Deep.RegionHeld3
namespace Go.Proofs.YtjpbmhlojpaieaaDoor
open Go.ChangeShapes Go.WideShapes Go.ChangeAt Go.RowKit

/-- The list that goes round from x on. -/
def cutL (l : List Int) (x : Int) : List Int := (List.range l.length).map fun i => l.getD ((l.idxOf x + i) % l.length) 0
@[simp] theorem cutL_length (l : List Int) (x : Int) : (cutL l x).length = l.length := by simp [cutL]
theorem cutL_get (l : List Int) (x : Int) (k : Nat) (hk : k < l.length) : (cutL l x).getD k 0 = l.getD ((l.idxOf x + k) % l.length) 0 := by
  simp [cutL, List.getD, hk]

/-- The array half turned. -/
def turnK (l : List Int) (x : Int) (k : Nat) : List Int := (cutL l x).take k ++ (padR l).drop k
theorem turnK_length (l : List Int) (x : Int) (k : Nat) (hk : k ≤ l.length) (h7 : l.length ≤ 7) : (turnK l x k).length = 7 := by
  have := padR_length l h7
  simp [turnK]; omega
theorem turnK_zero (l : List Int) (x : Int) : turnK l x 0 = padR l := by simp [turnK]
theorem turnK_step (l : List Int) (x : Int) (k : Nat) (hk : k < l.length) (h7 : l.length ≤ 7) : (turnK l x k).set k (l.getD ((l.idxOf x + k) % l.length) 0) = turnK l x (k + 1) := by
  rw [← cutL_get l x k hk]
  unfold turnK
  have hl : ((cutL l x).take k).length = k := by simp; omega
  have hp := padR_length l h7
  rw [List.set_append_right _ _ (by omega), hl, Nat.sub_self, List.drop_eq_getElem_cons (by omega : k < (padR l).length), List.set_cons_zero]
  rw [List.take_succ_eq_append_getElem (by simpa using hk), List.append_assoc]
  simp [List.getD, hk]
theorem turnK_full (l : List Int) (x : Int) : turnK l x l.length = padR (cutL l x) := by
  unfold turnK padR
  rw [List.take_of_length_le (by simp), List.drop_append, cutL_length]
  simp

/-- The world of cut before its copy: the box, the room for the result, two boxes of callees. -/
theorem cut_world (w : World) (c z : Array Value) (P Z : List Int) (hc : c = (ints P).toArray) (hz : z = (ints Z).toArray) (W : World)
    (hW : W = ((((w.alloc (.cells c 39)).alloc (.cells z 39)).alloc (.cells c 39)).alloc (.cells c 39)).drew) :
    Arr W w.heap.size P ∧ Arr W (w.heap.size + 1) Z ∧ Below w.heap.size w W ∧ W.heap.size = w.heap.size + 4 := by
  subst hc; subst hz; subst hW
  refine ⟨?_, ?_, ?_, by simp⟩
  · have h : Arr (w.alloc (.cells (ints P).toArray 39)) w.heap.size P := heap_alloc_new w _
    exact (((h.alloc _).alloc _).alloc _).drew
  · have h : Arr ((w.alloc (.cells (ints P).toArray 39)).alloc (.cells (ints Z).toArray 39)) (w.heap.size + 1) Z := heap_alloc2_new w _ _
    exact ((h.alloc _).alloc _).drew
  · exact (((((Below.refl _ _).alloc (Nat.le_refl _) _).alloc (by simp) _).alloc (by simp; omega) _).alloc (by simp; omega) _).drew

set_option maxHeartbeats 1000000 in
theorem cut_any (l : List Int) (x : Int) (w : World) (h1 : 1 ≤ l.length) (hl : l.length ≤ 7) (hp : ∀ x ∈ l, 0 ≤ x) (hm : x ∈ l) :
    Calls Tryd.prog 47 #[agp l, .int .i64 x] w fun e w' => e = .returned (agp (cutL l x)) ∧ Below w.heap.size w w' := by
  obtain ⟨a0, a1, a2, a3, a4, a5, a6, hP⟩ := seven (padR_length l hl)
  have HS := fun W => Lib.hid (size_any l W hl hp)
  have HPL := fun W => Lib.hid (place_any l x W hl hm)
  have hz : turnK l x 0 = [a0, a1, a2, a3, a4, a5, a6] := by rw [turnK_zero, hP]
  have hidx : l.idxOf x < l.length := List.idxOf_lt_length_of_mem hm
  have hga : ∀ k, k < l.length → ([a0, a1, a2, a3, a4, a5, a6] : List Int).getD k 0 = l.getD k 0 := fun k hk => by rw [← hP]; exact padR_get l k hk
  have HGA := Lib.hid hga
  unfold agp at HS HPL ⊢
  rw [hP] at HS HPL ⊢
  simp only [ints, List.map_cons, List.map_nil] at HS HPL ⊢
  have hzz : (List.map (Value.int IntKind.i64) (padR (cutL l x))) = ints (turnK l x l.length) := by rw [turnK_full]; rfl
  rw [hzz]
  clear hzz hP hp hga
  generalize hn : l.length = n at *
  have HN := Lib.hid hn
  generalize hs : l.idxOf x = s at *
  have HSI := Lib.hid hs
  clear hn hm hs
  go_enter Tryd.func47, Tryd.ntmps47
  go_wp2
  go_region_with (first
    | (go_at_call 49; refine (HS _).out.mono ?_; rintro e w' ⟨rfl, rfl⟩)
    | (go_at_call 77; refine (HPL _).out.mono ?_; rintro e w' ⟨rfl, rfl⟩))
  all_goals
    obtain ⟨W, hW⟩ : ∃ W, W = ((((w.alloc (.cells #[.int .i64 a0, .int .i64 a1, .int .i64 a2, .int .i64 a3, .int .i64 a4, .int .i64 a5, .int .i64 a6] 39)).alloc (.cells #[.int .i64 0, .int .i64 0, .int .i64 0, .int .i64 0, .int .i64 0, .int .i64 0, .int .i64 0] 39)).alloc (.cells #[.int .i64 a0, .int .i64 a1, .int .i64 a2, .int .i64 a3, .int .i64 a4, .int .i64 a5, .int .i64 a6] 39)).alloc (.cells #[.int .i64 a0, .int .i64 a1, .int .i64 a2, .int .i64 a3, .int .i64 a4, .int .i64 a5, .int .i64 a6] 39)).drew := ⟨_, rfl⟩
    rw [← hW]
    obtain ⟨k1, k2, k3, k4⟩ := cut_world w _ _ [a0, a1, a2, a3, a4, a5, a6] zero7 rfl rfl W hW
    have HB := Lib.hid k1
    have HR := Lib.hid k2
    clear k1 k2 hW HS HPL
    generalize hB : w.heap.size = B at *
    have HBB := Lib.hid hB
    clear hB
    have hn4 := new_ring W
    have HG := Lib.hid hn4
    have HR2 := Lib.hid (HR.out.alloc (.cells #[.int .i64 0, .int .i64 0, .int .i64 0, .int .i64 0, .int .i64 0, .int .i64 0, .int .i64 0] 39))
    have HB2 := Lib.hid (HB.out.alloc (.cells #[.int .i64 0, .int .i64 0, .int .i64 0, .int .i64 0, .int .i64 0, .int .i64 0, .int .i64 0] 39))
    have k5 := k3.alloc (by omega) (.cells #[.int .i64 0, .int .i64 0, .int .i64 0, .int .i64 0, .int .i64 0, .int .i64 0, .int .i64 0] 39)
    clear hn4
    have hBG : B + 2 ≤ W.heap.size := by omega
    clear k4 k3
    go_wp2_with (first
      | (refine load_ring rfl _ rfl B [a0, a1, a2, a3, a4, a5, a6] rfl rfl HB ?_)
      | (refine store_ring rfl _ _ rfl W.heap.size zero7 [a0, a1, a2, a3, a4, a5, a6] rfl rfl rfl rfl HG ?_; intro w2 HG2 hg2 hs2))
    have HB3 := Lib.hid (HB2.out.grown hg2 (by omega))
    have HR3 := Lib.hid (HR2.out.grown hg2 (by omega))
    have k6 := k5.grown hg2 (by simp; omega) (by simp; omega)
    rw [← hz] at HG2
    clear HB2 HR2 HB HR HG hg2 hs2 k5
    generalize W.heap.size = G at *
    go_loopw [16] (fun i wr => ∃ k : Nat, k ≤ n ∧ i = .int .i64 k ∧ Hid (Arr wr G (turnK l x k)) ∧ Hid (Arr wr B [a0, a1, a2, a3, a4, a5, a6]) ∧ Hid (Arr wr (B + 1) zero7) ∧ Below B w wr) (fun i _ => n - (intOf i).toNat)
    case atStart => exact ⟨0, Nat.zero_le _, rfl, HG2, HB3, HR3, k6⟩
    case round =>
      obtain ⟨k, hk, rfl, hG, hB, hR, hbl⟩ := hrel
      clear HG2 HB3 HR3 k6 hz
      by_cases hlt : k < n
      · have hmod : (s + k) % n < n := Nat.mod_lt _ (by omega)
        have hcb := hB.out.cell (i := (s + k) % n) (by simp; omega)
        rw [HGA.out _ hmod] at hcb
        have hG7 := turnK_length l x k (by rw [HN.out]; exact hk) (by rw [HN.out]; exact hl)
        have hcg := hG.out.cell (i := k) (by rw [hG7]; omega)
        have hfg := hG.out.frozen k
        have hst := hG.out.set_ k (l.getD ((s + k) % n) 0)
        have hsp := turnK_step l x k (by rw [HN.out]; exact hlt) (by rw [HN.out]; exact hl)
        rw [HSI.out, HN.out] at hsp
        rw [hsp] at hst
        have HST := Lib.hid hst
        clear hst hG7 hsp
        generalize (turnK l x k).getD k 0 = old at hcg
        generalize l.getD ((s + k) % n) 0 = y at hcb HST
        have hmi : ((s : Int) + (k : Int)) % (n : Int) < 7 := by
          have e : ((s : Int) + (k : Int)) % (n : Int) = (((s + k) % n : Nat) : Int) := by simp
          rw [e]; omega
        have hmo : 0 ≤ ((s : Int) + (k : Int)) % (n : Int) := Int.emod_nonneg _ (by omega)
        go_wp2
        go_roundw
        case rel => exact ⟨k + 1, by omega, by go_num, HST, Lib.hid (hB.out.far (by simp; omega) _), Lib.hid (hR.out.far (by simp; omega) _), hbl.setCell (by simp; omega) _⟩
        case measure => simp [intOf]; omega
      · obtain rfl : k = n := by omega
        have h7 : Hid ((turnK l x k).length = 7) := turnK_length l x k (by rw [HN.out]; exact hk) (by rw [HN.out]; exact hl)
        generalize hPR : turnK l x k = PR at *
        have HPR := Lib.hid hPR
        clear hPR
        go_wp2_with (first
          | (refine load_ring rfl _ rfl G PR h7.out rfl hG ?_)
          | (refine store_ring rfl _ _ rfl (B + 1) zero7 PR rfl h7.out rfl rfl hR ?_; intro w6 HB6 hg6 _))
        try simp only [Exit.inBlock, Exit.then]
        exact ret_ring rfl (B + 1) PR h7.out rfl HB6 rfl ⟨by rw [HPR.out], by rw [HBB.out]; exact hbl.grown hg6 (by have := hbl.size; have := HBB.out; omega) (by simp)⟩
end Go.Proofs.YtjpbmhlojpaieaaDoor

/- Bytes: a string's bytes, turned round, and a string again. -/
import Derived.Test.YtoifdfbhhdedbaaDoorBase
import Derived.Sort.WalkB12
import Derived.Lib.SlicesMore
import Derived.RegionTactic
import Derived.Deep.LoopGhost
import Derived.Laws.IdiomStrings
namespace Go.Proofs.YtoifdfbhhdedbaaDoor
open Go.ChangeShapes Go.WideShapes Go.ChangeAt Go.RowKit Go.Sort Go.Lib

/-- The string of bytes. -/
def bs (l : List UInt8) : ByteArray := ⟨l.toArray⟩
theorem bs_list (l : List UInt8) : (bs l).data.toList = l := by simp [bs]
theorem bs_size (l : List UInt8) : (bs l).size = l.length := by simp [bs, ByteArray.size]
theorem bs_of (s : ByteArray) : bs s.data.toList = s := by cases s; simp [bs]
theorem bs_inj {l m : List UInt8} (h : bs l = bs m) : l = m := by rw [← bs_list l, h, bs_list]

/-- A byte as a cell. -/
def e8 (b : UInt8) : Value := .int .u8 (b.toNat : Int)
theorem Holds.below {w : World} {B blk off n : Nat} {d : Array UInt8} (hB : B ≤ blk) : Below B w (putRow e8 (Sort.ahead w n) blk off d) := by
  refine ⟨rfl, rfl, rfl, by simp [putRow, mapBlock, Sort.ahead], fun k hk => ?_⟩
  simp [putRow, mapBlock, Sort.ahead, Array.getElem?_modify]
  omega

set_option maxHeartbeats 1000000 in
theorem rev8_any (g off c : Nat) (d : Array UInt8) (w : World) (hH : Holds e8 w g off d) (hsz : d.size ≤ 1048576) :
    Calls Tryd.prog 99 #[.slice (some ⟨g, off, none⟩) d.size c] w fun e w' => e = .returned (.tuple #[]) ∧ ∃ n, w' = putRow e8 (Sort.ahead w n) g off d.reverse := by
  go_enter Tryd.func99, Tryd.ntmps99
  go_wp2
  go_loopg [2, 3] d.size (fun k a b wr => ∃ (i jn : Nat) (jz : Int) (dk : Array UInt8) (n : Nat), a = .int .i64 i ∧ b = .int .i64 jz ∧ ((i : Int) < jz → jz = jn ∧ jn < d.size) ∧ (¬ (i : Int) < jz → ¬ i < jn) ∧ jn - i ≤ k ∧
    dk.size = d.size ∧ Hid (wr = putRow e8 (Sort.ahead w n) g off dk) ∧ Hid (reverseLoop i jn dk = reverseLoop 0 (d.size - 1) d))
  case atStart => exact ⟨0, d.size - 1, (d.size : Int) - 1, d, 0, rfl, rfl, fun h => ⟨by omega, by omega⟩, fun h => by omega, by omega, rfl, (putRow_self e8 w g off d hH).symm, rfl⟩
  case round =>
    obtain ⟨i, jn, jz, dk, n, rfl, rfl, h1, h2, hk, hds, hwr, heq⟩ := hrel
    by_cases hlt : (i : Int) < jz
    · obtain ⟨rfl, hjn⟩ := h1 hlt
      have hij : i < jn := by omega
      have hHk : Holds e8 wr g off dk := by rw [hwr.out]; exact holds_putRow e8 _ g off d dk (holds_ahead e8 w n g off d hH) hds
      obtain ⟨ci, fi⟩ := hHk i (by omega)
      obtain ⟨cj, fj⟩ := hHk jn (by omega)
      clear hHk hH h1 h2
      simp only [e8] at ci cj
      go_wp2_with fail
      go_region
      go_wp2
      go_roundg (jn - 1 - (i + 1))
      case measure => omega
      case rel =>
        have heq' := heq.out
        rw [reverseLoop, if_pos hij] at heq'
        exact ⟨i + 1, jn - 1, (jn : Int) - 1, swp dk i jn, n + 1, by simp, rfl, fun h => ⟨by omega, by omega⟩, fun h => by omega, Nat.le_refl _, by rw [size_swp]; exact hds, swap_world e8 (by omega) (by omega) hwr.out (by first | rfl | simp [e8, getElem!_pos, show jn < dk.size by omega]) (by first | rfl | simp [e8, getElem!_pos, show i < dk.size by omega]), heq'⟩
    · have hnot := h2 hlt
      go_wp2
      go_end0
      refine ⟨rfl, n, ?_⟩
      have heq' := heq.out
      rw [reverseLoop, if_neg hnot] at heq'
      rw [← Lib.reverseLoop_reverse, ← heq', hwr.out]

/-- The bytes of l lie at a block's head, and may be written. -/
def H8 (w : World) (g : Nat) (l : List UInt8) : Prop := g < w.heap.size ∧ Holds e8 w g 0 l.toArray
theorem rev8_list (g c : Nat) (l : List UInt8) (w : World) (h : H8 w g l) (hl : l.length ≤ 1048576) :
    Calls Tryd.prog 99 #[.slice (some ⟨g, 0, none⟩) l.length c] w fun e w' => e = .returned (.tuple #[]) ∧ H8 w' g l.reverse ∧ Below g w w' := by
  have := rev8_any g 0 c l.toArray w h.2 (by simpa using hl)
  rw [List.size_toArray] at this
  refine this.mono fun e w' ⟨he, n, hw⟩ => ⟨he, ?_, hw ▸ Holds.below (Nat.le_refl _)⟩
  subst hw
  refine ⟨by simpa [putRow, mapBlock, Sort.ahead] using h.1, ?_⟩
  rw [← List.reverse_toArray]
  exact holds_putRow e8 _ g 0 l.toArray _ (holds_ahead e8 w n g 0 _ h.2) (by simp)
theorem to8 (w : World) (l : List UInt8) : ∃ C W, (convert 9 22 (.string (bs l))).run Tryd.prog w = .ok (.slice (some ⟨w.heap.size, 0, none⟩) l.length C) W ∧ H8 W w.heap.size l ∧ Below w.heap.size w W := by
  have h := run_bytes_of_string (P := Tryd.prog) w 9 22 5 (bs l) Tryd.underlying9 Tryd.underlying22 Tryd.underlying5
  rw [bs_size] at h
  refine ⟨_, _, h, ⟨by simp, ?_⟩, (Below.refl _ _).drew.alloc (Nat.le_refl _) _⟩
  intro j hj
  have hj' : j < l.length := by simpa using hj
  rw [Nat.zero_add]
  constructor
  · have h1 := World.cell?_alloc_mark w.drew (bytesRow (bs l) (grownCap w l.length 0 5)) 5 ((bytesRow (bs l) (grownCap w l.length 0 5)).size, (bytesRow (bs l) (grownCap w l.length 0 5)).size + 1) j
    have h2 := bytesRow_at (bs l) (grownCap w l.length 0 5) j (by simpa [bs] using hj')
    rw [h2] at h1
    rw [show w.drew.heap.size = w.heap.size from rfl] at h1
    rw [h1]
    simp [e8, bs, getElem!_pos, hj']
  · have h1 := World.frozen?_alloc_mark w.drew (bytesRow (bs l) (grownCap w l.length 0 5)) 5 (bytesRow (bs l) (grownCap w l.length 0 5)).size ((bytesRow (bs l) (grownCap w l.length 0 5)).size + 1) j
    rw [show w.drew.heap.size = w.heap.size from rfl] at h1
    rw [h1]
    have : j < (bytesRow (bs l) (grownCap w l.length 0 5)).size := by simp [bytesRow, bs]; omega
    simp; omega
theorem of8 {w : World} {g : Nat} {l : List UInt8} (h : H8 w g l) (c : Nat) : (convert 22 9 (.slice (some ⟨g, 0, none⟩) l.length c)).run Tryd.prog w = .ok (.string (bs l)) w := by
  refine run_convert_bytes_back (P := Tryd.prog) w 22 9 5 ⟨g, 0, none⟩ c l Tryd.underlying22 Tryd.underlying5 Tryd.underlying9 fun j hj => ?_
  rw [Addr.add_lit]
  have := (h.2 j (by simpa using hj)).1
  rw [this]
  simp [e8, getElem!_pos, hj]
end Go.Proofs.YtoifdfbhhdedbaaDoor

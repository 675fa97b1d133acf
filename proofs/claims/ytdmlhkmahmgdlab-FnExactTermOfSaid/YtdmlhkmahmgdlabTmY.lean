/- Bytes: a string's bytes, turned round, and a string again. -/
import Derived.Test.YtdmlhkmahmgdlabBase
import Derived.Sort.WalkB12
import Derived.Lib.SlicesMore
import Derived.RegionTactic
import Derived.Deep.LoopGhost
import Derived.Laws.IdiomStrings
namespace Go.Proofs.Ytdmlhkmahmgdlab
open Go.ChangeShapes Go.WideShapes Go.ChangeAt Go.RowKit Go.Sort Go.Lib

/-- The string of bytes. -/
def bs (l : List UInt8) : ByteArray := ⟨l.toArray⟩
theorem bs_list (l : List UInt8) : (bs l).data.toList = l := by simp [bs]
theorem bs_size (l : List UInt8) : (bs l).size = l.length := by simp [bs, ByteArray.size]
theorem bs_of (s : ByteArray) : bs s.data.toList = s := by cases s; simp [bs]
theorem bs_inj {l m : List UInt8} (h : bs l = bs m) : l = m := by rw [← bs_list l, h, bs_list]

/-- A byte as a cell. -/
def e8 (b : UInt8) : Value := .int .u8 (b.toNat : Int)
theorem Holds.below {w : World} {B blk off n : Nat} {d : Array UInt8} (hB : B ≤ blk) : Below B w (putRow e8 (Sort.ahead w n) blk off d) := by
  refine ⟨rfl, rfl, rfl, by simp [putRow, mapBlock, Sort.ahead], fun k hk => ?_⟩
  simp [putRow, mapBlock, Sort.ahead, Array.getElem?_modify]
  omega

/-- The bytes of l lie at a block's head, and may be written. -/
def H8 (w : World) (g : Nat) (l : List UInt8) : Prop := g < w.heap.size ∧ Holds e8 w g 0 l.toArray
theorem to8 (w : World) (l : List UInt8) : ∃ C W, (convert 9 28 (.string (bs l))).run Try.prog w = .ok (.slice (some ⟨w.heap.size, 0, none⟩) l.length C) W ∧ H8 W w.heap.size l ∧ Below w.heap.size w W := by
  have h := run_bytes_of_string (P := Try.prog) w 9 28 5 (bs l) Try.underlying9 Try.underlying28 Try.underlying5
  rw [bs_size] at h
  refine ⟨_, _, h, ⟨by simp, ?_⟩, (Below.refl _ _).drew.alloc (Nat.le_refl _) _⟩
  intro j hj
  have hj' : j < l.length := by simpa using hj
  rw [Nat.zero_add]
  constructor
  · have h1 := World.cell?_alloc_mark w.drew (bytesRow (bs l) (grownCap w l.length 0 5)) 5 ((bytesRow (bs l) (grownCap w l.length 0 5)).size, (bytesRow (bs l) (grownCap w l.length 0 5)).size + 1) j
    have h2 := bytesRow_at (bs l) (grownCap w l.length 0 5) j (by simpa [bs] using hj')
    rw [h2] at h1
    rw [show w.drew.heap.size = w.heap.size from rfl] at h1
    rw [h1]
    simp [e8, bs, getElem!_pos, hj']
  · have h1 := World.frozen?_alloc_mark w.drew (bytesRow (bs l) (grownCap w l.length 0 5)) 5 (bytesRow (bs l) (grownCap w l.length 0 5)).size ((bytesRow (bs l) (grownCap w l.length 0 5)).size + 1) j
    rw [show w.drew.heap.size = w.heap.size from rfl] at h1
    rw [h1]
    have : j < (bytesRow (bs l) (grownCap w l.length 0 5)).size := by simp [bytesRow, bs]; omega
    simp; omega
theorem of8 {w : World} {g : Nat} {l : List UInt8} (h : H8 w g l) (c : Nat) : (convert 28 9 (.slice (some ⟨g, 0, none⟩) l.length c)).run Try.prog w = .ok (.string (bs l)) w := by
  refine run_convert_bytes_back (P := Try.prog) w 28 9 5 ⟨g, 0, none⟩ c l Try.underlying28 Try.underlying5 Try.underlying9 fun j hj => ?_
  rw [Addr.add_lit]
  have := (h.2 j (by simpa using hj)).1
  rw [this]
  simp [e8, getElem!_pos, hj]
end Go.Proofs.Ytdmlhkmahmgdlab

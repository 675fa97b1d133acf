/- The rows of letters that the program's terms tell. -/
import Derived.Test.YtehadbpbkenccaaGreatDoorTmI
import Derived.Test.YtehadbpbkenccaaGreatDoorDR
import Derived.Test.YtehadbpbkenccaaGreatDoorTmJ
namespace Go.Proofs.YtehadbpbkenccaaGreatDoor
open Go.ChangeShapes Go.WideShapes Go.ChangeAt Go.RowKit

theorem m_let (x : Int) (w : World) : (Go.method 458 154 (.int .u8 x) "loop.example/ringorders/impl.row").run Tryz.prog w = .ok (345, .int .u8 x) w := by kernel_rfl
theorem m_sgn (u : Value) (w : World) : (Go.method 458 74 (.agg #[u]) "loop.example/ringorders/impl.row").run Tryz.prog w = .ok (340, .agg #[u]) w := by kernel_rfl
theorem m_brk (a : Option Addr) (n c : Nat) (w : World) : (Go.method 458 76 (.slice a n c) "loop.example/ringorders/impl.row").run Tryz.prog w = .ok (242, .slice a n c) w := by kernel_rfl

/-- A row is handed back. -/
def RowQ (l : List UInt8) (w : World) (e : Ending) (w' : World) : Prop := e = .returned (.string (bs l)) ∧ Below w.heap.size w w'
/-- The three methods at a value that is a term with this row. -/
structure RowC (w : World) (l : List UInt8) (v : Value) : Prop where
  let_ : ∀ x, v = .iface 154 (.int .u8 x) → Calls Tryz.prog 345 #[.int .u8 x] w (RowQ l w)
  sgn_ : ∀ u, v = .iface 74 (.agg #[u]) → Calls Tryz.prog 340 #[.agg #[u]] w (RowQ l w)
  brk_ : ∀ a n c, v = .iface 76 (.slice a n c) → Calls Tryz.prog 242 #[.slice a n c] w (RowQ l w)
theorem TR.cases {w : World} {D : Nat → Prop} {t : Tm} {v : Value} (h : TR w D t v) :
    (∃ x, v = .iface 154 (.int .u8 x)) ∨ (∃ u, v = .iface 74 (.agg #[u])) ∨ (∃ a n c, v = .iface 76 (.slice a n c)) := by
  cases t with
  | L c => rw [TR] at h; exact .inl ⟨_, h⟩
  | S t => rw [TR] at h; obtain ⟨u, e, _⟩ := h; exact .inr (.inl ⟨u, e⟩)
  | B ts => rw [TR] at h; obtain ⟨g, c, cur, e, _⟩ := h; exact .inr (.inr ⟨_, _, _, e⟩)

theorem rune_97 (w : World) : (convert 21 9 (.int .i32 97)).run Tryz.prog w = .ok (.string ⟨#[97]⟩) w := by kernel_rfl
theorem rune_98 (w : World) : (convert 21 9 (.int .i32 98)).run Tryz.prog w = .ok (.string ⟨#[98]⟩) w := by kernel_rfl
theorem rune_99 (w : World) : (convert 21 9 (.int .i32 99)).run Tryz.prog w = .ok (.string ⟨#[99]⟩) w := by kernel_rfl
theorem rune_100 (w : World) : (convert 21 9 (.int .i32 100)).run Tryz.prog w = .ok (.string ⟨#[100]⟩) w := by kernel_rfl
theorem rune_101 (w : World) : (convert 21 9 (.int .i32 101)).run Tryz.prog w = .ok (.string ⟨#[101]⟩) w := by kernel_rfl
theorem rune_102 (w : World) : (convert 21 9 (.int .i32 102)).run Tryz.prog w = .ok (.string ⟨#[102]⟩) w := by kernel_rfl
theorem rune_103 (w : World) : (convert 21 9 (.int .i32 103)).run Tryz.prog w = .ok (.string ⟨#[103]⟩) w := by kernel_rfl
theorem rune_str (c : UInt8) (h : isL c = true) (w : World) : (convert 21 9 (.int .i32 (c.toNat : Int))).run Tryz.prog w = .ok (.string (bs [c])) w := by
  obtain ⟨h1, h2⟩ : 97 ≤ c.toNat ∧ c.toNat ≤ 103 := by simpa [isL] using h
  have : c.toNat = 97 ∨ c.toNat = 98 ∨ c.toNat = 99 ∨ c.toNat = 100 ∨ c.toNat = 101 ∨ c.toNat = 102 ∨ c.toNat = 103 := by omega
  have hc : ∀ d : UInt8, c.toNat = d.toNat → c = d := fun d h => UInt8.toNat_inj.1 h
  rcases this with e | e | e | e | e | e | e
  · obtain rfl := hc 97 e; exact rune_97 w
  · obtain rfl := hc 98 e; exact rune_98 w
  · obtain rfl := hc 99 e; exact rune_99 w
  · obtain rfl := hc 100 e; exact rune_100 w
  · obtain rfl := hc 101 e; exact rune_101 w
  · obtain rfl := hc 102 e; exact rune_102 w
  · obtain rfl := hc 103 e; exact rune_103 w
theorem row_let (c : UInt8) (h : isL c = true) (w : World) : Calls Tryz.prog 345 #[.int .u8 (c.toNat : Int)] w (RowQ [c] w) := by
  have hr := rune_str c h w
  obtain ⟨h1, h2⟩ : 97 ≤ c.toNat ∧ c.toNat ≤ 103 := by simpa [isL] using h
  go_enter Tryz.func345, Tryz.ntmps345
  go_wp2
  go_ret
  exact ⟨rfl, Below.refl _ _⟩
theorem row_sgn (u : Value) (l : List UInt8) (hl : l.length ≤ 1048576) (w : World) (hu : (∃ x, u = .iface 154 (.int .u8 x)) ∨ (∃ y, u = .iface 74 (.agg #[y])) ∨ (∃ a n c, u = .iface 76 (.slice a n c)))
    (HC : Hid (RowC (w.alloc (.cells #[u] 74)) l u)) : Calls Tryz.prog 340 #[.agg #[u]] w (RowQ l.reverse w) := by
  have x1 := m_let
  have x2 := m_sgn
  have x3 := m_brk
  rcases hu with ⟨x, rfl⟩ | ⟨y, rfl⟩ | ⟨a, n, c, rfl⟩
  · have HD := Lib.hid (HC.out.let_ _ rfl)
    clear HC
    go_enter Tryz.func340, Tryz.ntmps340
    go_wp2_with (first
      | (go_at_call 345; refine HD.out.mono ?_; rintro e w1 ⟨rfl, hb1⟩; obtain ⟨C, w2, hr2, h2, hb2⟩ := to8 w1 l)
      | (go_at_call 341; refine (rev8_list _ C l w2 h2 hl).mono ?_; rintro e w3 ⟨rfl, h3, hb3⟩; have h4 := of8 h3 C; rw [List.length_reverse] at h4))
    go_ret
    have hs1 := hb1.size
    simp at hs1
    exact ⟨rfl, ((((Below.refl w.heap.size w).alloc (Nat.le_refl _) _).trans (hb1.mono (by simp))).trans (hb2.mono (by omega))).trans (hb3.mono (by omega))⟩
  · have HD := Lib.hid (HC.out.sgn_ _ rfl)
    clear HC
    go_enter Tryz.func340, Tryz.ntmps340
    go_wp2_with (first
      | (go_at_call 340; refine HD.out.mono ?_; rintro e w1 ⟨rfl, hb1⟩; obtain ⟨C, w2, hr2, h2, hb2⟩ := to8 w1 l)
      | (go_at_call 341; refine (rev8_list _ C l w2 h2 hl).mono ?_; rintro e w3 ⟨rfl, h3, hb3⟩; have h4 := of8 h3 C; rw [List.length_reverse] at h4))
    go_ret
    have hs1 := hb1.size
    simp at hs1
    exact ⟨rfl, ((((Below.refl w.heap.size w).alloc (Nat.le_refl _) _).trans (hb1.mono (by simp))).trans (hb2.mono (by omega))).trans (hb3.mono (by omega))⟩
  · have HD := Lib.hid (HC.out.brk_ _ _ _ rfl)
    clear HC
    go_enter Tryz.func340, Tryz.ntmps340
    go_wp2_with (first
      | (go_at_call 242; refine HD.out.mono ?_; rintro e w1 ⟨rfl, hb1⟩; obtain ⟨C, w2, hr2, h2, hb2⟩ := to8 w1 l)
      | (go_at_call 341; refine (rev8_list _ C l w2 h2 hl).mono ?_; rintro e w3 ⟨rfl, h3, hb3⟩; have h4 := of8 h3 C; rw [List.length_reverse] at h4))
    go_ret
    have hs1 := hb1.size
    simp at hs1
    exact ⟨rfl, ((((Below.refl w.heap.size w).alloc (Nat.le_refl _) _).trans (hb1.mono (by simp))).trans (hb2.mono (by omega))).trans (hb3.mono (by omega))⟩
end Go.Proofs.YtehadbpbkenccaaGreatDoor

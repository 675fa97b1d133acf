/- The program's reading of a term, and of the terms in brackets. -/
import Derived.Test.YtehadbpbkenccaaGreatDoorTmR
import Derived.Test.YtehadbpbkenccaaGreatDoorFold
import Derived.WalkSpells
namespace Go.Proofs.YtehadbpbkenccaaGreatDoor
open Go.ChangeShapes Go.WideShapes Go.ChangeAt Go.RowKit

/-- What stands from a place of a text on. -/
def sf (s : ByteArray) (k : Nat) : List UInt8 := s.data.toList.drop k
theorem sf_cons (s : ByteArray) (k : Nat) (h : k < s.size) : sf s k = s[k] :: sf s (k + 1) := by
  unfold sf
  rw [List.drop_eq_getElem_cons (by simpa using h)]
  rfl
theorem sf_end (s : ByteArray) : sf s s.size = [] := by unfold sf; exact List.drop_eq_nil_of_le (by simp)
theorem sf_drop (s : ByteArray) (k n : Nat) : (sf s k).drop n = sf s (k + n) := by simp [sf]
theorem sf_len (s : ByteArray) (k : Nat) : (sf s k).length = s.size - k := by simp [sf]

/-- No term: nil, 0 and an error. -/
def TNo (w : World) (e : Ending) (w' : World) : Prop := ∃ n : Int, e = .returned (.tuple #[.nilIface, .int .i64 0, .iface 65 (.agg #[.int .i64 n])]) ∧ Below w.heap.size w w'
/-- A term, the place behind it, and no error. -/
def TYes (t : Tm) (k : Nat) (w : World) (e : Ending) (w' : World) : Prop := ∃ v, e = .returned (.tuple #[v, .int .i64 (k : Int), .nilIface]) ∧ TR w' (Btw w.heap.size w'.heap.size) t v ∧ Below w.heap.size w w'

theorem t_end (s : ByteArray) (w : World) : Calls Tryz.prog 82 #[.string s, .int .i64 (s.size : Int)] w (TNo w) := by
  go_enter Tryz.func82, Tryz.ntmps82
  go_wp2
  go_ret3
  exact ⟨_, rfl, Below.refl _ _⟩
theorem t_let (s : ByteArray) (k : Nat) (w : World) (h : k < s.size) (h63 : s.size ≤ 1048576) (hL : isL s[k] = true) : Calls Tryz.prog 82 #[.string s, .int .i64 (k : Int)] w (TYes (.L s[k]) (k + 1) w) := by
  obtain ⟨h1, h2⟩ : 97 ≤ s[k].toNat ∧ s[k].toNat ≤ 103 := by simpa [isL] using hL
  go_enter Tryz.func82, Tryz.ntmps82
  go_wp2
  go_ret3
  exact ⟨_, rfl, by rw [TR]; rfl, Below.refl _ _⟩
theorem t_bad (s : ByteArray) (k : Nat) (w : World) (h : k < s.size) (hL : isL s[k] = false) (h1 : s[k] ≠ 45) (h2 : s[k] ≠ 40) : Calls Tryz.prog 82 #[.string s, .int .i64 (k : Int)] w (TNo w) := by
  have e1 : ((s[k].toNat : Int) == 45) = false := by
    simp; intro e; exact h1 (UInt8.toNat_inj.1 (by simp; omega))
  have e2 : ((s[k].toNat : Int) == 40) = false := by
    simp; intro e; exact h2 (UInt8.toNat_inj.1 (by simp; omega))
  have hc : s[k].toNat < 97 ∨ (97 ≤ s[k].toNat ∧ 103 < s[k].toNat) := by
    simp [isL] at hL; omega
  rcases hc with hc | ⟨hc, hc'⟩
  all_goals
    go_enter Tryz.func82, Tryz.ntmps82
    go_wp2
    go_ret3
    exact ⟨_, rfl, Below.refl _ _⟩
theorem byte_eq {c d : UInt8} (h : c = d) : ((c.toNat : Int) == (d.toNat : Int)) = true := by subst h; simp
theorem byte_ne {c d : UInt8} (h : c ≠ d) : ((c.toNat : Int) == (d.toNat : Int)) = false := by
  simp; intro e; exact h (UInt8.toNat_inj.1 (by omega))

theorem t_sign0 (s : ByteArray) (k : Nat) (w : World) (h : k < s.size) (h63 : s.size ≤ 1048576) (hc : s[k].toNat = 45) (HC : Hid (Calls Tryz.prog 82 #[.string s, .int .i64 ((k : Int) + 1)] w (TNo w))) :
    Calls Tryz.prog 82 #[.string s, .int .i64 (k : Int)] w (TNo w) := by
  go_enter Tryz.func82, Tryz.ntmps82
  go_wp2_with (go_at_call 82; refine HC.out.mono ?_; rintro e w' ⟨n, rfl, hb⟩)
  go_ret3
  exact ⟨_, rfl, hb⟩
theorem t_sign1 (s : ByteArray) (k : Nat) (w : World) (h : k < s.size) (h63 : s.size ≤ 1048576) (hc : s[k].toNat = 45) (t : Tm) (m : Nat) (HC : Hid (Calls Tryz.prog 82 #[.string s, .int .i64 ((k : Int) + 1)] w (TYes t m w))) :
    Calls Tryz.prog 82 #[.string s, .int .i64 (k : Int)] w (TYes (.S t) m w) := by
  go_enter Tryz.func82, Tryz.ntmps82
  go_wp2_with (go_at_call 82; refine HC.out.mono ?_; rintro e w' ⟨v, rfl, ht, hb⟩; obtain ⟨T, x, rfl⟩ := ht.iface)
  go_ret3
  exact ⟨_, rfl, by rw [TR]; exact ⟨_, rfl, ht⟩, hb⟩
theorem t_open0 (s : ByteArray) (k : Nat) (w : World) (h : k < s.size) (h63 : s.size ≤ 1048576) (hc : s[k].toNat = 40) (HC : Hid (Calls Tryz.prog 145 #[.string s, .int .i64 ((k : Int) + 1)] w (TNo w))) :
    Calls Tryz.prog 82 #[.string s, .int .i64 (k : Int)] w (TNo w) := by
  go_enter Tryz.func82, Tryz.ntmps82
  go_wp2_with (go_at_call 145; refine HC.out.mono ?_; rintro e w' ⟨n, rfl, hb⟩)
  go_ret3
  exact ⟨_, rfl, hb⟩
theorem t_open1 (s : ByteArray) (k : Nat) (w : World) (h : k < s.size) (h63 : s.size ≤ 1048576) (hc : s[k].toNat = 40) (t : Tm) (m : Nat) (HC : Hid (Calls Tryz.prog 145 #[.string s, .int .i64 ((k : Int) + 1)] w (TYes t m w))) :
    Calls Tryz.prog 82 #[.string s, .int .i64 (k : Int)] w (TYes t m w) := by
  go_enter Tryz.func82, Tryz.ntmps82
  go_wp2_with (go_at_call 145; refine HC.out.mono ?_; rintro e w' ⟨v, rfl, ht, hb⟩)
  go_ret3
  exact ⟨_, rfl, ht, hb⟩

/-- The call's own row of terms, read so far: the cells, and the terms that they are. -/
def RowT (w : World) (B : Nat) (v : Value) (ts : List Tm) : Prop :=
  ∃ vs, w.ownsRow B 29 1 v ts.length vs ∧ TRs w (fun k => Btw B w.heap.size k ∧ some k ≠ v.ownBlock) ts vs
theorem term_info : (Tryz.prog.info? 29).map (fun i => (i.zero, i.size, i.bytes)) = some (some .nilIface, 1, 16) := by kernel_rfl
theorem RowT.empty (w : World) {B : Nat} (hB : B ≤ w.heap.size) : RowT (w.alloc (.cells #[] 29)) B (.slice (some ⟨w.heap.size, 0, none⟩) 0 0) [] :=
  ⟨[], ⟨by simp, .inr ⟨w.heap.size, 0, #[], rfl, hB, heap_alloc_new w _, Nat.le_refl _, by decide, by simp, by simp⟩⟩, TRs.nil⟩
/-- A term more: its cell, and the append. -/
def apT (ts : Array TypeId) (ty : TypeId) (args : Array Value) : Sem Value := Builtin.append_ ts ty args
theorem apT_fold (ts : Array TypeId) (ty : TypeId) (args : Array Value) : Builtin.append_ ts ty args = apT ts ty args := rfl
theorem RowT.snoc {w w1 : World} {B : Nat} {v u : Value} {ts : List Tm} {t : Tm} (h : RowT w B v ts) (hB : B ≤ w.heap.size) (hb : Below w.heap.size w w1) (ht : TR w1 (Btw w.heap.size w1.heap.size) t u) (hl : ts.length ≤ 3000) :
    ∃ v' w', (∀ ty, (apT #[76, 76] ty #[v, .slice (some ⟨w1.heap.size, 0, none⟩) 1 1]).run Tryz.prog (w1.alloc (.cells #[u] 29)) = .ok v' w') ∧ RowT w' B v' (ts ++ [t]) ∧ Below B w w' := by
  obtain ⟨vs, ho, hr⟩ := h
  obtain ⟨i0, hi, hz0, hz1, hz2⟩ := info_parts term_info
  have hs := hb.size
  have ho1 : (w1.alloc (.cells #[u] 29)).ownsRow B 29 1 v ts.length vs := by
    refine World.ownsRow.alloc ?_ _
    refine ⟨ho.1, ?_⟩
    rcases ho.2 with e | ⟨g, cap, cur, e, hbb, hg, rest⟩
    · exact .inl e
    · exact .inr ⟨g, cap, cur, e, hbb, (hb.block g (Array.getElem?_eq_some_iff.1 hg).1).trans hg, rest⟩
  have hlt := fun k hk => World.ownsRow.lt ho k hk
  obtain ⟨v', w', hrun, hown, hgr, _, hob⟩ := run_append_own_at (P := Tryz.prog) (w := w1.alloc (.cells #[u] 29)) B 76 76 29 i0 .nilIface 1 16 Tryz.underlying76 hi hz0 hz1 hz2 rfl (by decide) v ts.length vs ho1 ⟨w1.heap.size, 0, none⟩ 1 1 [u] rfl (one_cell w1 _ _) (by simpa using ht.one) (by unfold maxLen; omega) (by omega) (by simp; omega)
  have hsz : w1.heap.size + 1 ≤ w'.heap.size := by have := hgr.size; simpa using this
  have hk : ∀ k, k < w1.heap.size → some k ≠ v.ownBlock → w'.heap[k]? = w1.heap[k]? := fun k hk hne =>
    (hgr.block k (by simp; omega) hne).trans (Below.heap_alloc w1 _ k hk)
  refine ⟨v', w', fun _ => hrun, ⟨vs ++ [u], by simpa using hown, ?_⟩, ?_⟩
  · have hne' : ∀ k, k < w1.heap.size → some k ≠ v.ownBlock → some k ≠ v'.ownBlock := fun k hk hne => by
      rcases hob with e | e
      · rw [e]; exact hne
      · rw [e]; simp; omega
    refine TRs.snoc (TRs.keep (w := w) (fun k hk' => ?_) (fun k hk' => ?_) _ _ hr) (TR.keep (w := w1) (fun k hk' => ?_) (fun k hk' => ?_) _ _ ht)
    · rw [hk k (by have := hk'.1.2; omega) hk'.2]; exact hb.block k hk'.1.2
    · exact ⟨⟨hk'.1.1, by have := hk'.1.2; omega⟩, hne' k (by have := hk'.1.2; omega) hk'.2⟩
    · exact hk k hk'.2 fun e => by have := (hlt k e.symm).2; have := hk'.1; omega
    · exact ⟨⟨by have := hk'.1; omega, by have := hk'.2; omega⟩, hne' k hk'.2 fun e => by have := (hlt k e.symm).2; have := hk'.1; omega⟩
  · refine ((hb.mono hB).alloc (by omega) _).grown hgr (by simp; omega) fun k hk' => (hlt k hk').1
end Go.Proofs.YtehadbpbkenccaaGreatDoor

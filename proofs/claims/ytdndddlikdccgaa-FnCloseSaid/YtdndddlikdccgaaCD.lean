/- Several texts as one: Clo Map Join Told Work Code ClosS CloI CloS. -/
import Derived.Test.YtdndddlikdccgaaPE
import Derived.Maps.Own
import Derived.ChangeMaps5
import Derived.DeepKeys4
import Derived.Test.YtdndddlikdccgaaCC
import Derived.Deep.LoopGhost
namespace Go.Proofs.Ytdndddlikdccgaa

inductive Cl (L : List (List Int)) : List Int → Prop
  | base {t : List Int} : t ∈ L → Cl L t
  | turn {a b c : Int} : Cl L [a, b, c] → Cl L [b, c, a]
  | join {a b c d : Int} : Cl L [a, b, c] → Cl L [a, c, d] → b ≠ d → Cl L [a, b, d]

theorem Cl.thr {n : Int} {L : List (List Int)} (hL : ∀ t ∈ L, Thr n t) {t : List Int} (h : Cl L t) : Thr n t := by
  induction h with
  | base h => exact hL _ h
  | turn _ ih =>
    rw [thr3] at ih ⊢
    obtain ⟨h1, h2, h3, h4, h5, h6⟩ := ih
    exact ⟨h2, h3, h1, h6, Ne.symm h4, Ne.symm h5⟩
  | join _ _ hne ih1 ih2 =>
    rw [thr3] at ih1 ih2 ⊢
    exact ⟨ih1.1, ih1.2.1, ih2.2.2.1, ih1.2.2.2.1, ih2.2.2.2.2.1, hne⟩

/-- A set of threes that is closed. -/
structure Shut3 (S : List Int → Prop) : Prop where
  turn : ∀ a b c, S [a, b, c] → S [b, c, a]
  join : ∀ a b c d, S [a, b, c] → S [a, c, d] → b ≠ d → S [a, b, d]
theorem Cl.least {L : List (List Int)} {S : List Int → Prop} (hS : Shut3 S) (hL : ∀ t ∈ L, S t) {t : List Int} (h : Cl L t) : S t := by
  induction h with
  | base h => exact hL _ h
  | turn _ ih => exact hS.turn _ _ _ ih
  | join _ _ hne ih1 ih2 => exact hS.join _ _ _ _ ih1 ih2 hne

/-- What is told and what waits, in the midst of the work. -/
structure Inv3 (L K W : List (List Int)) : Prop where
  has : ∀ t ∈ L, t ∈ K ∨ t ∈ W
  sound : ∀ t, t ∈ K ∨ t ∈ W → Cl L t
  turn : ∀ a b c, [a, b, c] ∈ K → [b, c, a] ∈ K ∨ [b, c, a] ∈ W
  join : ∀ a b c d, [a, b, c] ∈ K → [a, c, d] ∈ K → b ≠ d → [a, b, d] ∈ K ∨ [a, b, d] ∈ W

theorem Inv3.start (L : List (List Int)) : Inv3 L [] L :=
  ⟨fun t h => .inr h, fun t h => .base (by simpa using h), fun a b c h => by simp at h, fun a b c d h => by simp at h⟩
theorem Inv3.done {L K : List (List Int)} (h : Inv3 L K []) (t : List Int) : t ∈ K ↔ Cl L t :=
  ⟨fun ht => h.sound t (.inl ht), fun ht => ht.least (S := fun t => t ∈ K) ⟨fun a b c ha => by simpa using h.turn a b c ha, fun a b c d h1 h2 hne => by simpa using h.join a b c d h1 h2 hne⟩ (fun t ht => by simpa using h.has t ht)⟩
theorem Inv3.skip {L K W : List (List Int)} {t : List Int} (h : Inv3 L K (W ++ [t])) (ht : t ∈ K) : Inv3 L K W := by
  have key : ∀ u, u ∈ K ∨ u ∈ W ++ [t] → u ∈ K ∨ u ∈ W := fun u hu => by
    rcases hu with hu | hu
    · exact .inl hu
    · rcases List.mem_append.1 hu with hu | hu
      · exact .inr hu
      · rw [List.mem_singleton.1 hu]; exact .inl ht
  exact ⟨fun u hu => key u (h.has u hu), fun u hu => h.sound u (hu.imp id fun x => List.mem_append.2 (.inl x)), fun a b c hu => key _ (h.turn a b c hu), fun a b c d h1 h2 hne => key _ (h.join a b c d h1 h2 hne)⟩

/-- The threes that follow from a b c and one more. -/
def joinX (K : List (List Int)) (a b c x : Int) : List (List Int) :=
  (if x ≠ b ∧ [a, c, x] ∈ K then [[a, b, x]] else []) ++ (if x ≠ c ∧ [a, x, b] ∈ K then [[a, x, c]] else [])
def joinTo (K : List (List Int)) (a b c : Int) (k : Nat) : List (List Int) := (List.range k).flatMap fun x : Nat => joinX K a b c (x : Int)
theorem joinTo_succ (K : List (List Int)) (a b c : Int) (k : Nat) : joinTo K a b c (k + 1) = joinTo K a b c k ++ joinX K a b c (k : Int) := by simp [joinTo, List.range_succ]
theorem joinX_len (K : List (List Int)) (a b c x : Int) : (joinX K a b c x).length ≤ 2 := by
  unfold joinX
  rw [List.length_append]
  have h1 : (if x ≠ b ∧ [a, c, x] ∈ K then [[a, b, x]] else []).length ≤ 1 := by split <;> simp
  have h2 : (if x ≠ c ∧ [a, x, b] ∈ K then [[a, x, c]] else []).length ≤ 1 := by split <;> simp
  omega
theorem joinTo_len (K : List (List Int)) (a b c : Int) : ∀ k, (joinTo K a b c k).length ≤ 2 * k
  | 0 => by simp [joinTo]
  | k + 1 => by rw [joinTo_succ, List.length_append]; have := joinTo_len K a b c k; have := joinX_len K a b c (k : Int); omega
theorem mem_joinTo {K : List (List Int)} {a b c : Int} {n : Nat} {u : List Int} : u ∈ joinTo K a b c n ↔ ∃ x : Nat, x < n ∧ (((x : Int) ≠ b ∧ [a, c, (x : Int)] ∈ K ∧ u = [a, b, (x : Int)]) ∨ ((x : Int) ≠ c ∧ [a, (x : Int), b] ∈ K ∧ u = [a, (x : Int), c])) := by
  simp only [joinTo, joinX, List.mem_flatMap, List.mem_range, List.mem_append]
  constructor
  · rintro ⟨x, hx, h⟩
    refine ⟨x, hx, ?_⟩
    rcases h with h | h
    · split at h
      · rename_i hc; exact .inl ⟨hc.1, hc.2, by simpa using h⟩
      · simp at h
    · split at h
      · rename_i hc; exact .inr ⟨hc.1, hc.2, by simpa using h⟩
      · simp at h
  · rintro ⟨x, hx, h⟩
    refine ⟨x, hx, ?_⟩
    rcases h with ⟨h1, h2, rfl⟩ | ⟨h1, h2, rfl⟩
    · left; rw [if_pos ⟨h1, h2⟩]; simp
    · right; rw [if_pos ⟨h1, h2⟩]; simp

theorem Inv3.push {n : Nat} {L K W : List (List Int)} {a b c : Int} (hL : ∀ t ∈ L, Thr (n : Int) t) (h : Inv3 L K (W ++ [[a, b, c]])) :
    Inv3 L ([a, b, c] :: K) (W ++ [[b, c, a]] ++ joinTo ([a, b, c] :: K) a b c n) := by
  have hcl : Cl L [a, b, c] := h.sound _ (.inr (by simp))
  have inK : ∀ u, u ∈ [a, b, c] :: K → Cl L u := fun u hu => by
    rcases List.mem_cons.1 hu with rfl | hu
    · exact hcl
    · exact h.sound u (.inl hu)
  have key : ∀ u, u ∈ K ∨ u ∈ W ++ [[a, b, c]] → u ∈ [a, b, c] :: K ∨ u ∈ W ++ [[b, c, a]] ++ joinTo ([a, b, c] :: K) a b c n := fun u hu => by
    rcases hu with hu | hu
    · exact .inl (List.mem_cons.2 (.inr hu))
    · rcases List.mem_append.1 hu with hu | hu
      · exact .inr (by simp [hu])
      · exact .inl (List.mem_cons.2 (.inl (List.mem_singleton.1 hu)))
  have small : ∀ u v x : Int, Cl L [u, v, x] → ∃ k : Nat, k < n ∧ (k : Int) = x ∧ True := fun u v x hx => by
    have := (thr3 _ _ _ _).1 (hx.thr hL)
    exact ⟨x.toNat, by omega, by omega, trivial⟩
  have smallm : ∀ u v x : Int, Cl L [u, x, v] → ∃ k : Nat, k < n ∧ (k : Int) = x ∧ True := fun u v x hx => by
    have := (thr3 _ _ _ _).1 (hx.thr hL)
    exact ⟨x.toNat, by omega, by omega, trivial⟩
  refine ⟨fun u hu => key u (h.has u hu), fun u hu => ?_, fun x y z hu => ?_, fun x y z d h1 h2 hne => ?_⟩
  · rcases hu with hu | hu
    · exact inK u hu
    · rcases List.mem_append.1 hu with hu | hu
      · rcases List.mem_append.1 hu with hu | hu
        · exact h.sound u (.inr (by simp [hu]))
        · rw [List.mem_singleton.1 hu]; exact hcl.turn
      · obtain ⟨x, hx, hh | hh⟩ := mem_joinTo.1 hu
        · obtain ⟨h1, h2, rfl⟩ := hh
          exact hcl.join (inK _ h2) (Ne.symm h1)
        · obtain ⟨h1, h2, rfl⟩ := hh
          exact (inK _ h2).join hcl h1
  · rcases List.mem_cons.1 hu with e | hu
    · injection e with e1 e2
      injection e2 with e2 e3
      injection e3 with e3 _
      subst e1; subst e2; subst e3
      exact .inr (by simp)
    · exact key _ (h.turn x y z hu)
  · rcases List.mem_cons.1 h1 with e | k1
    · injection e with e1 e2
      injection e2 with e2 e3
      injection e3 with e3 _
      subst e1; subst e2; subst e3
      obtain ⟨k, hk, rfl, _⟩ := small _ _ _ (inK _ h2)
      exact .inr (List.mem_append.2 (.inr (mem_joinTo.2 ⟨k, hk, .inl ⟨Ne.symm hne, h2, rfl⟩⟩)))
    · rcases List.mem_cons.1 h2 with e | k2
      · injection e with e1 e2
        injection e2 with e2 e3
        injection e3 with e3 _
        subst e1; subst e2; subst e3
        obtain ⟨k, hk, rfl, _⟩ := smallm _ _ _ (inK _ h1)
        exact .inr (List.mem_append.2 (.inr (mem_joinTo.2 ⟨k, hk, .inr ⟨hne, h1, rfl⟩⟩)))
      · exact key _ (h.join x y z d k1 k2 hne)

/-- How many threes are not told yet. -/
def untold (n : Nat) (K : List (List Int)) : Nat := ((everyL n).filter fun t => decide (t ∉ K)).length
theorem untold_le (n : Nat) (K : List (List Int)) (h : n ≤ 7) : untold n K ≤ 343 := by
  have h1 := List.length_filter_le (fun t => decide (t ∉ K)) (everyL n)
  have h2 := everyL_len n h
  unfold untold; omega
theorem filter_less {α : Type} (p q : α → Bool) (l : List α) (x : α) (hx : x ∈ l) (hpx : p x = true) (hqx : q x = false) (himp : ∀ y, q y = true → p y = true) : (l.filter q).length < (l.filter p).length := by
  induction l with
  | nil => simp at hx
  | cons y l ih =>
    have hle : ∀ l : List α, (l.filter q).length ≤ (l.filter p).length := fun l => by
      induction l with
      | nil => simp
      | cons z l ih2 =>
        simp only [List.filter_cons]
        cases hq : q z with
        | true => rw [himp z hq]; simp; exact ih2
        | false =>
          cases hp : p z with
          | true => simp; omega
          | false => simpa using ih2
    simp only [List.filter_cons]
    rcases List.mem_cons.1 hx with rfl | hx
    · rw [hpx, hqx]
      have := hle l
      simp; omega
    · have := ih hx
      cases hq : q y with
      | true => rw [himp y hq]; simpa using this
      | false =>
        cases hp : p y with
        | true => simp; omega
        | false => simpa using this
theorem untold_cons (n : Nat) (K : List (List Int)) (t : List Int) (ht : Thr (n : Int) t) (hK : t ∉ K) : untold n (t :: K) < untold n K := by
  unfold untold
  refine filter_less _ _ _ t ((every_thr n t).2 ht) (by simpa using hK) (by simp) (fun y hy => ?_)
  simp only [decide_eq_true_eq, List.mem_cons, not_or] at hy ⊢
  exact hy.2
end Go.Proofs.Ytdndddlikdccgaa

namespace Go.Proofs.Ytdndddlikdccgaa
open Go.ChangeShapes Go.WideShapes Go.ChangeAt Go.RowKit

/-- A three of small numbers; as a value. -/
def Sm (t : List Int) : Prop := ∃ x y z : Int, t = [x, y, z] ∧ 0 ≤ x ∧ x < 10 ∧ 0 ≤ y ∧ y < 10 ∧ 0 ≤ z ∧ z < 10
abbrev tv (t : List Int) : Value := .agg (ints t).toArray
theorem tv_inj {t u : List Int} (h : tv t = tv u) : t = u := by
  have h1 : (ints t).toArray = (ints u).toArray := by injection h
  have h2 : ints t = ints u := by simpa using congrArg Array.toList h1
  have : ∀ (t u : List Int), ints t = ints u → t = u := by
    intro t
    induction t with
    | nil => intro u hu; cases u with
      | nil => rfl
      | cons y u => simp [ints] at hu
    | cons x t ih => intro u hu; cases u with
      | nil => simp [ints] at hu
      | cons y u =>
        simp only [ints, List.map_cons, List.cons.injEq, Value.int.injEq, true_and] at hu
        rw [hu.1, ih u hu.2]
  exact this t u h2

theorem laidOutT : laidOutB Try.prog = true := by kernel_rfl
theorem three_row : (47 : TypeId) < Try.prog.types.size := of_decide_eq_true (by kernel_rfl)
theorem three_law : WideMaps.KeyLaw Try.prog 47 := deep_law_laid laidOutT (m := 2) (by omega) three_row (by kernel_rfl) (by rw [Try.underlying47])
theorem cells_three' : Try.prog.cellsOf 47 = 3 := by kernel_rfl
theorem three_key {t : List Int} (h : Sm t) : ∃ l, keyOf Try.prog 47 (tv t) = some l := by
  obtain ⟨x, y, z, rfl, hx0, hx1, hy0, hy1, hz0, hz1⟩ := h
  have hw : ∀ n : Int, 0 ≤ n → n < 10 → (Lit.int .i64 n).wf = true := fun n h0 h1 => WalkArith.wf_i64 (by constructor <;> omega)
  have hx := hw x hx0 hx1
  have hy := hw y hy0 hy1
  have hz := hw z hz0 hz1
  have hkt : Try.prog.keyType 47 = true := by kernel_rfl
  obtain ⟨d, hd⟩ : ∃ d, Try.prog.types.size = d + 1 := ⟨Try.prog.types.size - 1, by have h := three_row; have h2 : 0 < Try.prog.types.size := Nat.lt_of_le_of_lt (Nat.zero_le _) h; omega⟩
  have hi : ∀ n : Int, (Lit.int .i64 n).wf = true → Try.prog.keyLits (d + 1) 3 [.int .i64 n] = some [.int .i64 n] := fun n hn => by
    simp [Program.keyLits, Try.underlying3, hn]
  have hk : Try.prog.keyLits (d + 1 + 1) 47 [.int .i64 x, .int .i64 y, .int .i64 z] = some [.int .i64 x, .int .i64 y, .int .i64 z] := by
    unfold Program.keyLits
    simp only [Try.underlying47]
    rw [if_pos ⟨by rw [cells_three']; rfl, by simp⟩]
    simp [List.mapM_cons, cells_int, hi x hx, hi y hy, hi z hz]
  refine ⟨.string (keyBytes [.int .i64 x, .int .i64 y, .int .i64 z]), ?_⟩
  unfold keyOf
  simp only [Try.underlying47]
  have hf : (tv [x, y, z]).formed Try.prog 47 = true := by
    simp [Value.formed, Try.underlying47, cells_three', ints]
  rw [if_pos (by rw [hkt, hf]; rfl)]
  have e : (tv [x, y, z]).cells.toList = [.int .i64 x, .int .i64 y, .int .i64 z] := by simp [Value.cells, ints]
  rw [e, hd, hk]
  rfl

/-- Block b is a map; the threes that it has are those of K, all of them true. -/
def MapK (w : World) (b : Nat) (K : List (List Int)) : Prop :=
  ∃ es clock, w.heap[b]? = some (.map es clock) ∧ (∀ e ∈ es.toList, e.val = .bool true ∧ ∃ t, Sm t ∧ e.key = tv t) ∧ ∀ t, Sm t → (t ∈ K ↔ ∃ e ∈ es.toList, e.key = tv t)

section
variable {w w' : World} {b D : Nat} {K : List (List Int)}
theorem MapK.lt (h : MapK w b K) : b < w.heap.size := by
  obtain ⟨es, clock, hb, _⟩ := h
  exact (Array.getElem?_eq_some_iff.1 hb).1
theorem MapK.same (h : MapK w b K) (hk : w'.heap[b]? = w.heap[b]?) : MapK w' b K := by
  obtain ⟨es, clock, hb, rest⟩ := h
  exact ⟨es, clock, hk.trans hb, rest⟩
theorem MapK.below (h : MapK w b K) (hb : Below D w w') (hD : b < D) : MapK w' b K := h.same (hb.block b hD)
theorem MapK.grown {row : Option Nat} (h : MapK w b K) (hg : w.grownBy w' row) (hr : some b ≠ row) : MapK w' b K := h.same (hg.block b h.lt hr)
theorem MapK.alloc (h : MapK w b K) (o : Obj) : MapK (w.alloc o) b K := h.same (Below.heap_alloc w o b h.lt)
theorem MapK.made (w : World) : MapK (w.alloc (.map #[] 0)) w.heap.size [] :=
  ⟨#[], 0, heap_alloc_new w _, by simp, by simp⟩
theorem MapK.look (h : MapK w b K) {t : List Int} (ht : Sm t) : (Instr.lookup 51 (.map (some b)) (tv t) false).run Try.prog w = .ok (.bool (decide (t ∈ K))) w := by
  obtain ⟨es, clock, hb, hes, hK⟩ := h
  obtain ⟨l, hl⟩ := three_key ht
  have hch := three_law.check w es.isEmpty hl
  have hkeys : ∀ e ∈ es.toList, ∃ l, keyOf Try.prog 47 e.key = some l := fun e he => by
    obtain ⟨_, u, hu, e2⟩ := hes e he
    rw [e2]; exact three_key hu
  have hz : (zeroValue 4).run Try.prog w = .ok (.bool false) w := by kernel_rfl
  have hu : Try.prog.underlying 51 = some (.map 47 4) := Try.underlying51
  rcases three_law.find w hl es.toList hkeys with ⟨hf, hno⟩ | ⟨j, e, hf, he, hkey⟩
  · have hn : ¬ t ∈ K := fun hin => by
      obtain ⟨e, he, e2⟩ := (hK t ht).1 hin
      exact hno e he e2
    have hd : decide (t ∈ K) = false := by simpa using hn
    rw [hd]
    simp [Instr.lookup, run_underlying hu, MapKept.run_getObj_map hb, hch, hf, hz, Result.andThen]
  · have hmem : e ∈ es.toList := List.mem_of_getElem? he
    have hy : t ∈ K := (hK t ht).2 ⟨e, hmem, hkey⟩
    have hd : decide (t ∈ K) = true := by simpa using hy
    have hv := (hes e hmem).1
    rw [hd]
    simp [Instr.lookup, run_underlying hu, MapKept.run_getObj_map hb, hch, hf, hv, Result.andThen]
theorem MapK.store (h : MapK w b K) {t : List Int} (ht : Sm t) (hn : t ∉ K) : ∃ w', (Instr.mapUpdate 51 (.map (some b)) (tv t) (.bool true)).run Try.prog w = .ok () w' ∧ MapK w' b (t :: K) ∧ w.grownBy w' (some b) ∧ w'.heap.size = w.heap.size := by
  obtain ⟨es, clock, hb, hes, hK⟩ := h
  obtain ⟨l, hl⟩ := three_key ht
  have hch := three_law.check w false hl
  have hkeys : ∀ e ∈ es.toList, ∃ l, keyOf Try.prog 47 e.key = some l := fun e he => by
    obtain ⟨_, u, hu, e2⟩ := hes e he
    rw [e2]; exact three_key hu
  have hu : Try.prog.underlying 51 = some (.map 47 4) := Try.underlying51
  rcases three_law.find w hl es.toList hkeys with ⟨hf, hno⟩ | ⟨j, e, hf, he, hkey⟩
  · refine ⟨ChangeMaps.setBlock w b (.map (es.push { key := tv t, val := .bool true, born := clock }) (clock + 1)), ?_, ⟨_, _, ChangeMaps.heap_setBlock_same hb _, fun e he => ?_, fun u hu' => ?_⟩, ⟨rfl, rfl, rfl, by simp [ChangeMaps.setBlock], fun i _ hi => ChangeMaps.heap_setBlock_other hb _ (fun e => hi (by rw [e]))⟩, by simp [ChangeMaps.setBlock]⟩
    · simp [Instr.mapUpdate, run_underlying hu, MapKept.run_getObj_map hb, hch, hf, MapKept.run_setObj_map _ hb, Result.andThen, ChangeMaps.setBlock]
    · simp only [Array.toList_push, List.mem_append, List.mem_singleton] at he
      rcases he with he | rfl
      · exact hes e he
      · exact ⟨rfl, t, ht, rfl⟩
    · simp only [List.mem_cons, Array.toList_push, List.mem_append, List.not_mem_nil, or_false]
      constructor
      · rintro (rfl | hin)
        · exact ⟨_, .inr rfl, rfl⟩
        · obtain ⟨e, he, e2⟩ := (hK u hu').1 hin
          exact ⟨e, .inl he, e2⟩
      · rintro ⟨e, he | rfl, e2⟩
        · exact .inr ((hK u hu').2 ⟨e, he, e2⟩)
        · exact .inl (tv_inj e2).symm
  · exact absurd ((hK t ht).2 ⟨e, List.mem_of_getElem? he, hkey⟩) hn
end

/-- A look-up and a store at the operation. -/
theorem look_op {ops : Array Oper} {rest : List Oper} {o : Oper} {a : Act} {w : World} {Q : Exit → Act → World → Prop} (hgd : o.guard = none) (m x : Operand) (ho : o.op = .lookup 51 m x false)
    (b : Nat) (K : List (List Int)) (t : List Int) (ht : Sm t) (hm : a.eval m = .map (some b)) (hx : a.eval x = tv t) (h : Hid (MapK w b K))
    (next : wpList Try.prog ops Q rest (a.put o.dst (.bool (decide (t ∈ K)))) w) : wpList Try.prog ops Q (o :: rest) a w :=
  wpList_plain hgd fun _ hK => by
    unfold Oper.wp
    simp only [execOp, ho, hm, hx, Sem.run_bind, h.out.look ht, Result.andThen_ok, Sem.run_pure]
    exact hK _ _ next
theorem store_op {ops : Array Oper} {rest : List Oper} {o : Oper} {a : Act} {w : World} {Q : Exit → Act → World → Prop} (hgd : o.guard = none) (m x v : Operand) (ho : o.op = .mapUpdate 51 m x v)
    (b : Nat) (K : List (List Int)) (t : List Int) (ht : Sm t) (hn : t ∉ K) (hm : a.eval m = .map (some b)) (hx : a.eval x = tv t) (hv : a.eval v = .bool true) (h : Hid (MapK w b K))
    (next : ∀ w', Hid (MapK w' b (t :: K)) → w.grownBy w' (some b) → w'.heap.size = w.heap.size → wpList Try.prog ops Q rest (a.put o.dst undef) w') : wpList Try.prog ops Q (o :: rest) a w :=
  wpList_plain hgd fun _ hK => by
    obtain ⟨w', hrun, h1, h2, h3⟩ := h.out.store ht hn
    unfold Oper.wp
    simp only [execOp, ho, hm, hx, hv, Sem.run_bind, hrun, Result.andThen_ok, Sem.run_pure]
    exact hK _ _ (next w' h1 h2 h3)
end Go.Proofs.Ytdndddlikdccgaa

namespace Go.Proofs.Ytdndddlikdccgaa
open Go.ChangeShapes Go.WideShapes Go.ChangeAt Go.RowKit

theorem RowN.live {w : World} {B m : Nat} {t : TypeId} {v : Value} {M : List (List Int)} (h : RowN w B t m v M) (hne : v ≠ .slice none 0 0) : ∃ g c, v = .slice (some ⟨g, 0, none⟩) M.length c := by
  rcases h.2.2 with ⟨e, _⟩ | ⟨g, cap, cur, e, _⟩
  · exact absurd e hne
  · exact ⟨g, cap, e⟩
theorem joinX1 (K : List (List Int)) (a b c x : Int) (r1 r2 : Bool) (h1 : r1 = decide (x ≠ b ∧ [a, c, x] ∈ K)) (h2 : r2 = decide (x ≠ c ∧ [a, x, b] ∈ K)) :
    joinX K a b c x = (if r1 = true then [[a, b, x]] else []) ++ (if r2 = true then [[a, x, c]] else []) := by
  subst h1; subst h2; simp [joinX]

set_option maxRecDepth 10000 in
set_option maxHeartbeats 4000000 in
theorem joined_any (n mb : Nat) (K : List (List Int)) (a b c : Int) (w : World) (hn : n ≤ 7) (hm : MapK w mb K) (ha0 : 0 ≤ a) (ha : a < 10) (hb0 : 0 ≤ b) (hb : b < 10) (hc0 : 0 ≤ c) (hc : c < 10) :
    Calls Try.prog 114 #[.map (some mb), .int .i64 (n : Int), .agg (ints [a, b, c]).toArray] w fun e w' => ∃ g d, e = .returned (.slice (some ⟨g, 0, none⟩) (joinTo K a b c n).length d) ∧ RowN w' w.heap.size 47 3 (.slice (some ⟨g, 0, none⟩) (joinTo K a b c n).length d) (joinTo K a b c n) ∧ Below w.heap.size w w' := by
  obtain ⟨i0, hi, hz0, hz1, hz2⟩ := info_parts three_info
  obtain ⟨W1, hW1⟩ : ∃ W, W = w.alloc (.cells (ints [a, b, c]).toArray 47) := ⟨_, rfl⟩
  obtain ⟨W0, hW0⟩ : ∃ W, W = W1.alloc (.cells #[] 47) := ⟨_, rfl⟩
  have s1 : W1.heap.size = w.heap.size + 1 := by rw [hW1]; simp
  have ht0 : Hid (Tri W0 w.heap.size [a, b, c]) := by rw [hW0, hW1]; exact Lib.hid ((Blk.new w [a, b, c]).alloc _)
  have hm0 : Hid (MapK W0 mb K) := by rw [hW0, hW1]; exact Lib.hid ((hm.alloc _).alloc _)
  have hr0 : Hid (RowN W0 (w.heap.size + 1) 47 3 (.slice (some ⟨w.heap.size + 1, 0, none⟩) 0 0) (joinTo K a b c 0)) := by rw [hW0, ← s1]; exact Lib.hid (RowN.empty W1 (by omega))
  have hb0' : Below w.heap.size w W0 := by rw [hW0, hW1]; exact ((Below.refl _ _).alloc (Nat.le_refl _) _).alloc (by simp) _
  have hmb := hm.lt
  simp only [ints, List.map_cons, List.map_nil] at hW1
  change Calls Try.prog 114 #[.map (some mb), .int .i64 (n : Int), .agg #[.int .i64 a, .int .i64 b, .int .i64 c]] w _
  clear hm
  go_enter Try.func114, Try.ntmps114
  go_wp2
  rw [← hW1, ← hW0]
  clear hW0 hW1 s1
  generalize hB : w.heap.size = B at *
  have HB := Lib.hid hB
  clear hB
  go_loopw [7, 11] (fun v i wr => ∃ k : Nat, k ≤ n ∧ i = .int .i64 k ∧ Hid (RowN wr (B + 1) 47 3 v (joinTo K a b c k)) ∧ Hid (v ≠ .slice none 0 0) ∧ Hid (Tri wr B [a, b, c]) ∧ Hid (MapK wr mb K) ∧ Below B w wr) (fun _ i _ => n - (intOf i).toNat)
  case atStart => exact ⟨0, Nat.zero_le _, rfl, hr0, Lib.hid (by simp), ht0, hm0, hb0'⟩
  case round =>
    obtain ⟨k, hk, rfl, hrd, hne, htr, hmk, hbl⟩ := hrel
    clear hr0 ht0 hm0 hb0'
    have HBL := Lib.hid hbl
    have hBw : B ≤ wr.heap.size := by rw [← HB.out]; exact hbl.size
    clear hbl
    by_cases hlt : k < n
    · have hlen := joinTo_len K a b c k
      obtain ⟨r1, hr1⟩ : ∃ r : Bool, r = decide ((k : Int) ≠ b ∧ [a, c, (k : Int)] ∈ K) := ⟨_, rfl⟩
      obtain ⟨r2, hr2⟩ : ∃ r : Bool, r = decide ((k : Int) ≠ c ∧ [a, (k : Int), b] ∈ K) := ⟨_, rfl⟩
      have HJX := Lib.hid (joinX1 K a b c (k : Int) r1 r2 hr1 hr2)
      have HJ := Lib.hid (joinTo_succ K a b c k)
      have HL1 := Lib.hid (fun W (h : MapK W mb K) => h.look (t := [a, c, (k : Int)]) ⟨a, c, k, rfl, ha0, ha, hc0, hc, by omega, by omega⟩)
      have HL2 := Lib.hid (fun W (h : MapK W mb K) => h.look (t := [a, (k : Int), b]) ⟨a, k, b, rfl, ha0, ha, by omega, by omega, hb0, hb⟩)
      have HR1 := Lib.hid hr1
      have HR2 := Lib.hid hr2
      clear hr1 hr2
      obtain ⟨M, hM⟩ : ∃ M, M = joinTo K a b c k := ⟨_, rfl⟩
      rw [← hM] at hrd HJ hlen
      clear hM
      have c0 : wr.cell? ⟨B, 0, none⟩ = some (.int .i64 a) := htr.out.cell (i := 0) (by simp)
      have c1 : wr.cell? ⟨B, 1, none⟩ = some (.int .i64 b) := htr.out.cell (i := 1) (by simp)
      have c2 : wr.cell? ⟨B, 2, none⟩ = some (.int .i64 c) := htr.out.cell (i := 2) (by simp)
      by_cases hxb : (k : Int) = b
      · have hbb : ((k : Int) != b) = false := by simp; omega
        have HNO1 : Hid (¬ ((k : Int) ≠ b ∧ [a, c, (k : Int)] ∈ K)) := fun h => h.1 hxb
        clear hxb
        by_cases hxc : (k : Int) = c
        · have hbc : ((k : Int) != c) = false := by simp; omega
          have HC2 : Hid (r2 = false) := by rw [Hid, HR2.out]; simp [hxc]
          clear hxc
          have HST : Hid (M = joinTo K a b c (k + 1)) := by rw [Hid, HJ.out, HJX.out, show r1 = false from by rw [HR1.out]; simpa using HNO1.out, HC2.out]; simp
          have HRR := hrd
          rw [HST.out] at HRR
          go_wp2
          go_roundw
          case rel => exact ⟨k + 1, by omega, by go_num, HRR, hne, htr, hmk, HBL.out⟩
          case measure => simp [intOf]; omega
        · have hbc : ((k : Int) != c) = true := by simp; omega
          have hl2 := HL2.out wr hmk.out
          have HC2 : Hid (r2 = decide ([a, (k : Int), b] ∈ K)) := by rw [Hid, HR2.out]; simp [hxc]
          rw [← HC2.out] at hl2
          simp only [tv, ints, List.map_cons, List.map_nil] at hl2
          clear hxc
          cases hq2 : r2 with
          | false =>
            rw [hq2] at hl2
            have HC3 := Lib.hid hq2
            clear hq2 HC2
            have HST : Hid (M = joinTo K a b c (k + 1)) := by rw [Hid, HJ.out, HJX.out, show r1 = false from by rw [HR1.out]; simpa using HNO1.out, HC3.out]; simp
            have HRR := hrd
            rw [HST.out] at HRR
            go_wp2
            go_roundw
            case rel => exact ⟨k + 1, by omega, by go_num, HRR, hne, htr, hmk, HBL.out⟩
            case measure => simp [intOf]; omega
          | true =>
            rw [hq2] at hl2
            have HC3 := Lib.hid hq2
            clear hq2 HC2
            go_wp2_with (at_builtin; refine wpList_append_own _ rfl _ _ 41 rfl (B + 1) 47 i0 (.agg #[.int .i64 0, .int .i64 0, .int .i64 0]) 3 24 Try.underlying41 hi hz0 hz1 hz2 rfl (by decide) _ _ _ rfl (hrd.out.2.alloc _) ⟨wr.heap.size, 0, none⟩ 1 1 (ints [a, (k : Int), c]) rfl rfl (World.news_of_block (heap_alloc_new wr _)) (ints_oneCell _) (by unfold maxLen; omega) (by omega) (by simp; omega) ?_)
            intro v7 w7 hown7 hgr7 hnil7
            have HR7 := Lib.hid (hrd.out.snoc (l := [a, (k : Int), c]) rfl hown7)
            have HNE7 : Hid (v7 ≠ .slice none 0 0) := Lib.hid hnil7
            have HT7 := Lib.hid ((htr.out.alloc (.cells (ints [a, (k : Int), c]).toArray 47)).grown hgr7 (by intro e; have := (hrd.out.lt _ e.symm).1; omega))
            have HM7 := Lib.hid ((hmk.out.alloc (.cells (ints [a, (k : Int), c]).toArray 47)).grown hgr7 (by intro e; have := (hrd.out.lt _ e.symm).1; omega))
            have HB7 := Lib.hid ((HBL.out.alloc hBw _).grown hgr7 (by simp; omega) (fun i hi => by have := (hrd.out.lt i hi).1; omega))
            clear hown7 hgr7 hnil7
            have HST : Hid ((M ++ [[a, (k : Int), c]]) = joinTo K a b c (k + 1)) := by rw [Hid, HJ.out, HJX.out, show r1 = false from by rw [HR1.out]; simpa using HNO1.out, HC3.out]; simp
            have HRR := HR7
            rw [HST.out] at HRR
            go_wp2
            go_roundw
            case rel => exact ⟨k + 1, by omega, by go_num, HRR, HNE7, HT7, HM7, HB7.out⟩
            case measure => simp [intOf]; omega
      · have hbb : ((k : Int) != b) = true := by simp; omega
        have hl1 := HL1.out wr hmk.out
        have HC1 : Hid (r1 = decide ([a, c, (k : Int)] ∈ K)) := by rw [Hid, HR1.out]; simp [hxb]
        rw [← HC1.out] at hl1
        simp only [tv, ints, List.map_cons, List.map_nil] at hl1
        clear hxb
        cases hq1 : r1 with
        | false =>
          rw [hq1] at hl1
          have HNO1 : Hid (¬ ((k : Int) ≠ b ∧ [a, c, (k : Int)] ∈ K)) := by have := HR1.out; rw [hq1] at this; simpa [Hid] using this.symm
          clear hq1 HC1
          by_cases hxc : (k : Int) = c
          · have hbc : ((k : Int) != c) = false := by simp; omega
            have HC2 : Hid (r2 = false) := by rw [Hid, HR2.out]; simp [hxc]
            clear hxc
            have HST : Hid (M = joinTo K a b c (k + 1)) := by rw [Hid, HJ.out, HJX.out, show r1 = false from by rw [HR1.out]; simpa using HNO1.out, HC2.out]; simp
            have HRR := hrd
            rw [HST.out] at HRR
            go_wp2
            go_roundw
            case rel => exact ⟨k + 1, by omega, by go_num, HRR, hne, htr, hmk, HBL.out⟩
            case measure => simp [intOf]; omega
          · have hbc : ((k : Int) != c) = true := by simp; omega
            have hl2 := HL2.out wr hmk.out
            have HC2 : Hid (r2 = decide ([a, (k : Int), b] ∈ K)) := by rw [Hid, HR2.out]; simp [hxc]
            rw [← HC2.out] at hl2
            simp only [tv, ints, List.map_cons, List.map_nil] at hl2
            clear hxc
            cases hq2 : r2 with
            | false =>
              rw [hq2] at hl2
              have HC3 := Lib.hid hq2
              clear hq2 HC2
              have HST : Hid (M = joinTo K a b c (k + 1)) := by rw [Hid, HJ.out, HJX.out, show r1 = false from by rw [HR1.out]; simpa using HNO1.out, HC3.out]; simp
              have HRR := hrd
              rw [HST.out] at HRR
              go_wp2
              go_roundw
              case rel => exact ⟨k + 1, by omega, by go_num, HRR, hne, htr, hmk, HBL.out⟩
              case measure => simp [intOf]; omega
            | true =>
              rw [hq2] at hl2
              have HC3 := Lib.hid hq2
              clear hq2 HC2
              go_wp2_with (at_builtin; refine wpList_append_own _ rfl _ _ 41 rfl (B + 1) 47 i0 (.agg #[.int .i64 0, .int .i64 0, .int .i64 0]) 3 24 Try.underlying41 hi hz0 hz1 hz2 rfl (by decide) _ _ _ rfl (hrd.out.2.alloc _) ⟨wr.heap.size, 0, none⟩ 1 1 (ints [a, (k : Int), c]) rfl rfl (World.news_of_block (heap_alloc_new wr _)) (ints_oneCell _) (by unfold maxLen; omega) (by omega) (by simp; omega) ?_)
              intro v7 w7 hown7 hgr7 hnil7
              have HR7 := Lib.hid (hrd.out.snoc (l := [a, (k : Int), c]) rfl hown7)
              have HNE7 : Hid (v7 ≠ .slice none 0 0) := Lib.hid hnil7
              have HT7 := Lib.hid ((htr.out.alloc (.cells (ints [a, (k : Int), c]).toArray 47)).grown hgr7 (by intro e; have := (hrd.out.lt _ e.symm).1; omega))
              have HM7 := Lib.hid ((hmk.out.alloc (.cells (ints [a, (k : Int), c]).toArray 47)).grown hgr7 (by intro e; have := (hrd.out.lt _ e.symm).1; omega))
              have HB7 := Lib.hid ((HBL.out.alloc hBw _).grown hgr7 (by simp; omega) (fun i hi => by have := (hrd.out.lt i hi).1; omega))
              clear hown7 hgr7 hnil7
              have HST : Hid ((M ++ [[a, (k : Int), c]]) = joinTo K a b c (k + 1)) := by rw [Hid, HJ.out, HJX.out, show r1 = false from by rw [HR1.out]; simpa using HNO1.out, HC3.out]; simp
              have HRR := HR7
              rw [HST.out] at HRR
              go_wp2
              go_roundw
              case rel => exact ⟨k + 1, by omega, by go_num, HRR, HNE7, HT7, HM7, HB7.out⟩
              case measure => simp [intOf]; omega
        | true =>
          rw [hq1] at hl1
          have HIN1 : Hid ((k : Int) ≠ b ∧ [a, c, (k : Int)] ∈ K) := by have := HR1.out; rw [hq1] at this; simpa [Hid] using this.symm
          clear hq1 HC1
          go_wp2_with (at_builtin; refine wpList_append_own _ rfl _ _ 41 rfl (B + 1) 47 i0 (.agg #[.int .i64 0, .int .i64 0, .int .i64 0]) 3 24 Try.underlying41 hi hz0 hz1 hz2 rfl (by decide) _ _ _ rfl (hrd.out.2.alloc _) ⟨wr.heap.size, 0, none⟩ 1 1 (ints [a, b, (k : Int)]) rfl rfl (World.news_of_block (heap_alloc_new wr _)) (ints_oneCell _) (by unfold maxLen; omega) (by omega) (by simp; omega) ?_)
          intro v5 w5 hown5 hgr5 hnil5
          have HR5 := Lib.hid (hrd.out.snoc (l := [a, b, (k : Int)]) rfl hown5)
          have HNE5 : Hid (v5 ≠ .slice none 0 0) := Lib.hid hnil5
          have HT5 := Lib.hid ((htr.out.alloc (.cells (ints [a, b, (k : Int)]).toArray 47)).grown hgr5 (by intro e; have := (hrd.out.lt _ e.symm).1; omega))
          have HM5 := Lib.hid ((hmk.out.alloc (.cells (ints [a, b, (k : Int)]).toArray 47)).grown hgr5 (by intro e; have := (hrd.out.lt _ e.symm).1; omega))
          have HB5 := Lib.hid ((HBL.out.alloc hBw _).grown hgr5 (by simp; omega) (fun i hi => by have := (hrd.out.lt i hi).1; omega))
          have hBw5 : B ≤ w5.heap.size := by rw [← HB.out]; exact HB5.out.size
          obtain ⟨M5, hM5⟩ : ∃ M5, M5 = M ++ [[a, b, (k : Int)]] := ⟨_, rfl⟩
          have HME := Lib.hid hM5
          have hlen5 : M5.length ≤ 2 * k + 1 := by rw [hM5]; simp; omega
          rw [← hM5] at HR5
          clear hown5 hgr5 hnil5 c0 c1 c2 hM5
          have c0 : w5.cell? ⟨B, 0, none⟩ = some (.int .i64 a) := HT5.out.cell (i := 0) (by simp)
          have c1 : w5.cell? ⟨B, 1, none⟩ = some (.int .i64 b) := HT5.out.cell (i := 1) (by simp)
          have c2 : w5.cell? ⟨B, 2, none⟩ = some (.int .i64 c) := HT5.out.cell (i := 2) (by simp)
          by_cases hxc : (k : Int) = c
          · have hbc : ((k : Int) != c) = false := by simp; omega
            have HC2 : Hid (r2 = false) := by rw [Hid, HR2.out]; simp [hxc]
            clear hxc
            have HST : Hid (M5 = joinTo K a b c (k + 1)) := by rw [Hid, HJ.out, HJX.out, HME.out, show r1 = true from by rw [HR1.out]; simpa using HIN1.out, HC2.out]; simp
            have HRR := HR5
            rw [HST.out] at HRR
            go_wp2
            go_roundw
            case rel => exact ⟨k + 1, by omega, by go_num, HRR, HNE5, HT5, HM5, HB5.out⟩
            case measure => simp [intOf]; omega
          · have hbc : ((k : Int) != c) = true := by simp; omega
            have hl2 := HL2.out w5 HM5.out
            have HC2 : Hid (r2 = decide ([a, (k : Int), b] ∈ K)) := by rw [Hid, HR2.out]; simp [hxc]
            rw [← HC2.out] at hl2
            simp only [tv, ints, List.map_cons, List.map_nil] at hl2
            clear hxc
            cases hq2 : r2 with
            | false =>
              rw [hq2] at hl2
              have HC3 := Lib.hid hq2
              clear hq2 HC2
              have HST : Hid (M5 = joinTo K a b c (k + 1)) := by rw [Hid, HJ.out, HJX.out, HME.out, show r1 = true from by rw [HR1.out]; simpa using HIN1.out, HC3.out]; simp
              have HRR := HR5
              rw [HST.out] at HRR
              go_wp2
              go_roundw
              case rel => exact ⟨k + 1, by omega, by go_num, HRR, HNE5, HT5, HM5, HB5.out⟩
              case measure => simp [intOf]; omega
            | true =>
              rw [hq2] at hl2
              have HC3 := Lib.hid hq2
              clear hq2 HC2
              go_wp2_with (at_builtin; refine wpList_append_own _ rfl _ _ 41 rfl (B + 1) 47 i0 (.agg #[.int .i64 0, .int .i64 0, .int .i64 0]) 3 24 Try.underlying41 hi hz0 hz1 hz2 rfl (by decide) _ _ _ rfl (HR5.out.2.alloc _) ⟨w5.heap.size, 0, none⟩ 1 1 (ints [a, (k : Int), c]) rfl rfl (World.news_of_block (heap_alloc_new w5 _)) (ints_oneCell _) (by unfold maxLen; omega) (by omega) (by simp; omega) ?_)
              intro v7 w7 hown7 hgr7 hnil7
              have HR7 := Lib.hid (HR5.out.snoc (l := [a, (k : Int), c]) rfl hown7)
              have HNE7 : Hid (v7 ≠ .slice none 0 0) := Lib.hid hnil7
              have HT7 := Lib.hid ((HT5.out.alloc (.cells (ints [a, (k : Int), c]).toArray 47)).grown hgr7 (by intro e; have := (HR5.out.lt _ e.symm).1; omega))
              have HM7 := Lib.hid ((HM5.out.alloc (.cells (ints [a, (k : Int), c]).toArray 47)).grown hgr7 (by intro e; have := (HR5.out.lt _ e.symm).1; omega))
              have HB7 := Lib.hid ((HB5.out.alloc hBw5 _).grown hgr7 (by simp; omega) (fun i hi => by have := (HR5.out.lt i hi).1; omega))
              clear hown7 hgr7 hnil7
              have HST : Hid ((M5 ++ [[a, (k : Int), c]]) = joinTo K a b c (k + 1)) := by rw [Hid, HJ.out, HJX.out, HME.out, show r1 = true from by rw [HR1.out]; simpa using HIN1.out, HC3.out]; simp
              have HRR := HR7
              rw [HST.out] at HRR
              go_wp2
              go_roundw
              case rel => exact ⟨k + 1, by omega, by go_num, HRR, HNE7, HT7, HM7, HB7.out⟩
              case measure => simp [intOf]; omega
    · obtain rfl : k = n := by omega
      obtain ⟨g, d, e⟩ := hrd.out.live hne.out
      subst e
      go_wp2
      go_ret
      exact ⟨g, d, rfl, by rw [HB.out]; exact hrd.out.less (by omega), by rw [HB.out]; exact HBL.out⟩
end Go.Proofs.Ytdndddlikdccgaa

namespace Go.Proofs.Ytdndddlikdccgaa
open Go.ChangeShapes Go.WideShapes Go.ChangeAt Go.RowKit

open Classical in
noncomputable def cloL (n : Nat) (L : List (List Int)) : List (List Int) := (everyL n).filter fun t => decide (Cl L t)

theorem thr_sm {n : Nat} {t : List Int} (h : Thr (n : Int) t) (hn : n ≤ 7) : Sm t := by
  obtain ⟨x, y, z, rfl⟩ := of_three h.1
  rw [thr3] at h
  exact ⟨x, y, z, rfl, by omega, by omega, by omega, by omega, by omega, by omega⟩

section
variable {w w' : World} {D m : Nat} {t : TypeId}
theorem RowN.take {g n c : Nat} {X : List (List Int)} (h : RowN w D t m (.slice (some ⟨g, 0, none⟩) n c) X) {i : Nat} (hi : i ≤ X.length) : RowN w D t m (.slice (some ⟨g, 0, none⟩) i c) (X.take i) := by
  rcases h.2.2 with ⟨e, _⟩ | ⟨g', c', cur, e, hB, hg, hc, hcm, hs, ht⟩
  · cases e
  · injection e with e1 e2 e3
    injection e1 with e1
    injection e1 with e1
    subst e1; subst e3; subst e2
    have hrows : ∀ l ∈ X.take i, l.length = m := fun l hl => h.1 l (List.mem_of_mem_take hl)
    have hxl : (X.take i).length = i := by simp; omega
    have him : i * m ≤ X.length * m := Nat.mul_le_mul_right _ hi
    have hfl : (X.take i).flatten.length = i * m := by rw [flat_length m _ hrows, hxl]
    have hfx : X.flatten.take (i * m) = (X.take i).flatten := by
      conv => lhs; rw [← List.take_append_drop i X, List.flatten_append]
      exact List.take_left' hfl
    refine ⟨hrows, by rw [hxl, ints_length, hfl], .inr ⟨g, c, cur, by rw [hxl], hB, hg, by rw [hxl]; omega, hcm, hs, ?_⟩⟩
    rw [hxl]
    have : cur.toList.take (i * m) = (cur.toList.take (X.length * m)).take (i * m) := by rw [List.take_take, Nat.min_eq_left him]
    rw [this, ht, ← hfx]
    simp [ints]
theorem RowN.cells {g n c : Nat} {M : List (List Int)} (h : RowN w D t m (.slice (some ⟨g, 0, none⟩) n c) M) : ∀ j u, (ints M.flatten)[j]? = some u → w.cell? ((⟨g, 0, none⟩ : Addr).add j) = some u := by
  intro j u hu
  rcases h.2.2 with ⟨e, _⟩ | ⟨g', c', cur, e, hB, hg, hc, hcm, hs, ht⟩
  · cases e
  · injection e with e1 e2 e3
    injection e1 with e1
    injection e1 with e1
    subst e1
    rw [Addr.add_lit, Nat.zero_add, cell_of_row w g j _ _ (0, 0) hg]
    rw [← ht, List.getElem?_take] at hu
    split at hu
    · rw [← Array.getElem?_toList]; exact hu
    · cases hu
theorem RowN.cat {B : Nat} {v v' : Value} {M N : List (List Int)} (h : RowN w B t m v M) (hN : ∀ l ∈ N, l.length = m) (ho : w'.ownsRow B t m v' (M.length + N.length) (ints M.flatten ++ ints N.flatten)) : RowN w' B t m v' (M ++ N) := by
  refine ⟨fun r hr => ?_, ?_⟩
  · rcases List.mem_append.1 hr with h1 | h1
    · exact h.1 r h1
    · exact hN r h1
  · rw [List.length_append, List.flatten_append]
    have e : ints (M.flatten ++ N.flatten) = ints M.flatten ++ ints N.flatten := by simp [ints]
    rw [e]; exact ho
end

set_option maxRecDepth 10000 in
theorem turned_any (x y z : Int) (w : World) :
    Calls Try.prog 113 #[.agg (ints [x, y, z]).toArray] w fun e w' => e = .returned (.agg (ints [y, z, x]).toArray) ∧ Below w.heap.size w w' := by
  change Calls Try.prog 113 #[.agg #[.int .i64 x, .int .i64 y, .int .i64 z]] w _
  have hn := Blk.new (t := 47) (w.alloc (.cells (ints [x, y, z]).toArray 47)) [y, z, x]
  rw [show (w.alloc (.cells (ints [x, y, z]).toArray 47)).heap.size = w.heap.size + 1 by simp] at hn
  have HN := Lib.hid hn
  clear hn
  go_enter Try.func113, Try.ntmps113
  go_wp2
  exact ret_tri rfl (w.heap.size + 1) [y, z, x] rfl rfl HN rfl ⟨rfl, ((Below.refl _ _).alloc (Nat.le_refl _) _).alloc (by simp) _⟩

set_option maxRecDepth 10000 in
theorem sorted1_any (bx mb : Nat) (K : List (List Int)) (t : List Int) (w : World) (hbx : w.cell? ⟨bx, 0, none⟩ = some (.map (some mb))) (hm : MapK w mb K) (ht : Sm t) :
    Calls Try.prog 89 #[.agg (ints t).toArray, .pointer (some ⟨bx, 0, none⟩)] w fun e w' => e = .returned (.bool (!decide (t ∈ K))) ∧ Below w.heap.size w w' := by
  have ht' := ht
  obtain ⟨x, y, z, rfl, _⟩ := ht'
  have hbw : bx < w.heap.size := World.block_lt_of_cell? w _ hbx
  have kb : Below w.heap.size w (w.alloc (.cells (ints [x, y, z]).toArray 47)) := (Below.refl _ _).alloc (Nat.le_refl _) _
  have hl := (hm.alloc (.cells (ints [x, y, z]).toArray 47)).look ht
  have k3 := (kb.cell (p := ⟨bx, 0, none⟩) hbw).trans hbx
  have HT : Hid (Tri (w.alloc (.cells (ints [x, y, z]).toArray 47)) w.heap.size [x, y, z]) := Blk.new w _
  obtain ⟨r, hr⟩ : ∃ r, r = decide ([x, y, z] ∈ K) := ⟨_, rfl⟩
  rw [← hr] at hl ⊢
  clear hr hm ht
  have KB := Lib.hid kb
  clear kb
  simp only [tv, ints, List.map_cons, List.map_nil] at hl k3 HT KB
  have hl2 : (Instr.lookup 51 (.map (some mb)) (.agg (ints [x, y, z]).toArray) false).run Try.prog (w.alloc (.cells #[.int .i64 x, .int .i64 y, .int .i64 z] 47)) = .ok (.bool r) (w.alloc (.cells #[.int .i64 x, .int .i64 y, .int .i64 z] 47)) := hl
  clear hl
  change Calls Try.prog 89 #[.agg #[.int .i64 x, .int .i64 y, .int .i64 z], .pointer (some ⟨bx, 0, none⟩)] w _
  go_enter Try.func89, Try.ntmps89
  go_wp2_with (refine load_tri rfl _ rfl w.heap.size [x, y, z] rfl rfl HT ?_)
  go_ret
  exact ⟨rfl, KB.out⟩

set_option maxRecDepth 10000 in
set_option maxHeartbeats 1000000 in
theorem sorted_any (n mb : Nat) (K : List (List Int)) (w : World) (h7 : n ≤ 7) (hm : MapK w mb K) :
    Calls Try.prog 54 #[.map (some mb), .int .i64 (n : Int)] w fun e w' => ∃ v', e = .returned v' ∧ RowN w' w.heap.size 47 3 v' ((everyL n).filter fun t => decide (t ∈ K)) ∧ Below w.heap.size w w' := by
  obtain ⟨W, hW⟩ : ∃ W, W = w.alloc (.cells #[.map (some mb)] 51) := ⟨_, rfl⟩
  have kb : Below w.heap.size w W := by rw [hW]; exact (Below.refl _ _).alloc (Nat.le_refl _) _
  have k2 : W.heap.size = w.heap.size + 1 := by rw [hW]; simp
  have k3 : W.cell? ⟨w.heap.size, 0, none⟩ = some (.map (some mb)) := by rw [hW]; simp
  have k4 := hm.below kb hm.lt
  have HF : Hid (∀ V, Below W.heap.size W V → ∀ t ∈ everyL n, Calls Try.prog 89 #[.agg (ints t).toArray, .pointer (some ⟨w.heap.size, 0, none⟩)] V fun e w' => e = .returned (.bool (!decide (t ∈ K))) ∧ Below V.heap.size V w') := fun V hV t ht =>
    sorted1_any w.heap.size mb K t V ((hV.cell (p := ⟨w.heap.size, 0, none⟩) (by simp; omega)).trans k3) (k4.below hV k4.lt) (thr_sm ((every_thr n t).1 ht) h7)
  have HEL := Lib.hid (everyL_len n h7)
  have HR : Hid ((everyL n).filter (fun t => !(!decide (t ∈ K))) = (everyL n).filter fun t => decide (t ∈ K)) := by simp [Hid]
  have hE := Lib.hid (enters_fn Try.func89 (by decide) rfl)
  clear hm k3 k4
  have HB := Lib.hid kb
  have hBW : w.heap.size ≤ W.heap.size := by omega
  clear kb k2
  go_enter Try.func54, Try.ntmps54
  go_wp2_with fail
  rw [← hW]
  clear hW
  generalize hBB : w.heap.size = B at *
  have HBB := Lib.hid hBB
  clear hBB
  refine (allThrees_any n W h7).mono ?_
  rintro e w1 ⟨v1, rfl, hr1, hb1⟩
  have HR1 := Lib.hid hr1
  have HB1 := Lib.hid hb1
  have hs1 := hb1.size
  clear hr1 hb1
  go_wp2_with fail
  refine (deleteF_three 89 hE.out (.pointer (some ⟨B, 0, none⟩)) (fun t => !decide (t ∈ K)) W.heap.size v1 _ w1 HR1.out hs1 (by have := HEL.out; omega) (fun V hV => HF.out V (HB1.out.trans hV))).mono ?_
  rintro e w2 ⟨v2, rfl, hr2, hb2⟩
  rw [HR.out] at hr2
  go_wp2
  go_ret
  exact ⟨_, rfl, by rw [HBB.out]; exact hr2.less hBW, by rw [HBB.out]; exact (HB.out.trans (HB1.out.mono hBW)).trans (hb2.mono hBW)⟩

set_option maxRecDepth 10000 in
set_option maxHeartbeats 1000000 in
theorem cloneT_any (v : Value) (C : Nat) (L : List (List Int)) (w : World) (h : RowN w C 47 3 v L) (hn : L.length ≤ 1000) :
    Calls Try.prog 112 #[v] w fun e w' => ∃ v', e = .returned v' ∧ RowN w' w.heap.size 47 3 v' L ∧ Below w.heap.size w w' := by
  obtain ⟨i0, hi, hz0, hz1, hz2⟩ := info_parts three_info
  by_cases hv : v = .slice none 0 0
  · subst hv
    have hnil := fun (w : World) => Lib.run_eql_slice_nil (P := Try.prog) w 41 _ none 0 0 0 0 Try.underlying41
    have HR : Hid (RowN w w.heap.size 47 3 (.slice none 0 0) L) := by
      rcases h.2.2 with ⟨e, h0⟩ | ⟨g, cap, cur, e, _⟩
      · exact ⟨h.1, h.2.1, .inl ⟨rfl, h0⟩⟩
      · cases e
    clear h
    go_enter Try.func112, Try.ntmps112
    go_wp2
    go_ret
    exact ⟨_, rfl, HR.out, Below.refl _ _⟩
  · obtain ⟨g, c, rfl⟩ := h.live hv
    have hnil := fun (w : World) => Lib.run_eql_slice_nil (P := Try.prog) w 41 _ (some ⟨g, 0, none⟩) L.length c 0 0 Try.underlying41
    have HR := Lib.hid (h.alloc (.cells #[] 47))
    have ho0 := Lib.hid (RowN.empty (m := 3) (t := 47) w (Nat.le_refl _))
    have HFL := Lib.hid (flat_length 3 L h.1)
    have HL3 := Lib.hid h.1
    clear h hv
    go_enter Try.func112, Try.ntmps112
    go_wp2_with (at_builtin; refine wpList_append_own _ rfl _ _ 41 rfl w.heap.size 47 i0 (.agg #[.int .i64 0, .int .i64 0, .int .i64 0]) 3 24 Try.underlying41 hi hz0 hz1 hz2 rfl (by decide) _ _ _ rfl ho0.out.2 ⟨g, 0, none⟩ L.length c (ints L.flatten) rfl (by rw [ints_length, HFL.out]) HR.out.cells (ints_oneCell _) (by unfold maxLen; simp; omega) (by simp; omega) (by simp) ?_)
    intro v' w1 hown' hgrow _
    have hb : Below w.heap.size w w1 := ((Below.refl _ _).alloc (Nat.le_refl _) _).grown hgrow (by simp) (by simp [Value.ownBlock])
    have HO : Hid (RowN w1 w.heap.size 47 3 v' ([] ++ L)) := ho0.out.cat HL3.out (by rw [List.length_nil, Nat.zero_add]; exact hown')
    rw [List.nil_append] at HO
    clear hown' hgrow
    go_wp2
    go_ret
    exact ⟨_, rfl, HO.out, hb⟩

theorem clear_op {ops : Array Oper} {rest : List Oper} {o : Oper} {a : Act} {w : World} {Q : Exit → Act → World → Prop} (hgd : o.guard = none) (m : Operand) (ho : o.op = .call { callee := .builtin .clear, args := #[m], argTypes := #[51] })
    (b : Nat) (K : List (List Int)) (hm : a.eval m = .map (some b)) (h : Hid (MapK w b K))
    (next : ∀ w', Hid (MapK w' b []) → w.grownBy w' (some b) → w'.heap.size = w.heap.size → wpList Try.prog ops Q rest (a.put o.dst (.tuple #[])) w') : wpList Try.prog ops Q (o :: rest) a w :=
  wpList_plain hgd fun _ hK => by
    obtain ⟨es, clock, hb, _⟩ := h.out
    have hu : Try.prog.underlying 51 = some (.map 47 4) := Try.underlying51
    have hrun : (Builtin.clear_ #[51] o.type #[.map (some b)]).run Try.prog w = .ok (.tuple #[]) (ChangeMaps.setBlock w b (.map #[] clock)) := by
      simp [Builtin.clear_, run_underlying hu, MapKept.run_getObj_map hb, MapKept.run_setObj_map _ hb, Result.andThen, ChangeMaps.setBlock]
    unfold Oper.wp execOp
    simp only [ho, resolve, invoke, builtin, Sem.run_bind, Sem.run_pure, Result.andThen_ok, List.map_toArray, List.map_cons, List.map_nil, hm, hrun]
    exact hK _ _ (next _ ⟨_, _, ChangeMaps.heap_setBlock_same hb _, by simp, by simp⟩ ⟨rfl, rfl, rfl, by simp [ChangeMaps.setBlock], fun i _ hi => ChangeMaps.heap_setBlock_other hb _ (fun e => hi (by rw [e]))⟩ (by simp [ChangeMaps.setBlock]))
end Go.Proofs.Ytdndddlikdccgaa

namespace Go.Proofs.Ytdndddlikdccgaa
open Go.ChangeShapes Go.WideShapes Go.ChangeAt Go.RowKit

theorem turned_lit (x y z : Int) (w : World) :
    Calls Try.prog 113 #[.agg (ints [x, y, z]).toArray] w fun e w' => e = .returned (.agg #[.int .i64 y, .int .i64 z, .int .i64 x]) ∧ Below w.heap.size w w' := turned_any x y z w

set_option maxRecDepth 10000 in
set_option maxHeartbeats 4000000 in
theorem tell_any (n mb : Nat) (K0 : List (List Int)) (v : Value) (C : Nat) (L : List (List Int)) (w : World) (hm : MapK w mb K0) (h : RowN w C 47 3 v L) (hL : ∀ t ∈ L, Thr (n : Int) t) (hlen : L.length ≤ 1000) (hn : n ≤ 6) :
    Calls Try.prog 86 #[.map (some mb), .int .i64 (n : Int), v] w fun e w' => e = .returned (.tuple #[]) ∧ (∃ K, MapK w' mb K ∧ ∀ t, t ∈ K ↔ Cl L t) ∧ Below mb w w' := by
  obtain ⟨i0, hi, hz0, hz1, hz2⟩ := info_parts three_info
  obtain ⟨A, c, rfl⟩ := h.slice
  have HM0 := Lib.hid hm
  have hmb := hm.lt
  have hvm : ∀ k, (Value.slice A L.length c).ownBlock = some k → some mb ≠ some k := fun k hk e => by
    rcases h.2.2 with ⟨e0, _⟩ | ⟨g, cap, cur, e0, hB, hg, _⟩
    · rw [e0] at hk; cases hk
    · rw [e0] at hk
      obtain ⟨es, clock, hb, _⟩ := hm
      injection hk with hk
      injection e with e
      have hk' : g = mb := by rw [e]; exact hk
      rw [hk', hb] at hg
      cases hg
  have HV := Lib.hid hvm
  have HR0 := Lib.hid h
  have HL := Lib.hid hL
  clear hm h hvm hL
  go_enter Try.func86, Try.ntmps86
  go_wp2_with (refine clear_op rfl _ rfl mb K0 rfl HM0 ?_; intro w1 HM1 hg1 hs1)
  have HR1 := Lib.hid (HR0.out.grown hg1 HV.out)
  have HB1 : Hid (Below mb w w1) := Lib.hid ((Below.refl mb w).grown hg1 (by omega) (fun k hk => by injection hk; omega))
  clear hg1
  refine (cloneT_any _ C L w1 HR1.out hlen).mono ?_
  rintro e w2 ⟨v2, rfl, hr2, hb2⟩
  have HM2 := Lib.hid (HM1.out.below hb2 (by omega))
  have HB2 := Lib.hid (HB1.out.trans (hb2.mono (by omega)))
  have HR2 := Lib.hid (hr2.less (show mb + 1 ≤ w1.heap.size by omega))
  clear hr2 hb2 HM0 HM1 HR0 HR1 HB1 HV hs1
  go_wp2_with fail
  go_loopg [6] (16 * untold n [] + L.length) (fun q v wr => ∃ W K, Hid (q = 16 * untold n K + W.length) ∧ Hid (16 * untold n K + W.length ≤ 7000) ∧ Hid (RowN wr (mb + 1) 47 3 v W) ∧ Hid (MapK wr mb K) ∧ Hid (Inv3 L K W) ∧ Hid (Below mb w wr))
  case atStart => exact ⟨L, [], Lib.hid rfl, Lib.hid (by have := untold_le n [] (by omega); omega), HR2, HM2, Lib.hid (Inv3.start L), HB2⟩
  case round =>
    obtain ⟨W, K, hq, hqb, hrw, hmk, hinv, hbl⟩ := hrel
    clear HR2 HM2 HB2
    obtain ⟨A2, c2, e⟩ := hrw.out.slice
    subst e
    by_cases hW : W = []
    · subst hW
      have HK := Lib.hid hinv.out.done
      go_wp2
      go_end0
      exact ⟨rfl, ⟨K, hmk.out, HK.out⟩, hbl.out⟩
    · obtain ⟨U, t, e⟩ : ∃ U t, W = U ++ [t] := ⟨W.dropLast, W.getLast hW, (List.dropLast_concat_getLast hW).symm⟩
      subst e
      have hthr := (hinv.out.sound t (.inr (by simp))).thr HL.out
      obtain ⟨a, b, c, e⟩ := of_three hthr.1
      subst e
      have HSM := Lib.hid (thr_sm hthr (by omega))
      have HTH := Lib.hid hthr
      have hrg := (thr3 _ _ _ _).1 hthr
      have hlenW : (U ++ [[a, b, c]]).length = U.length + 1 := by simp
      have HKL : Hid (U.length < (U ++ [[a, b, c]]).length) := by rw [Hid, hlenW]; omega
      obtain ⟨g, d, e0, hgB, hgs, hcap, _, _, _⟩ := hrw.out.elem HKL.out
      injection e0 with e1 _ e3
      subst e3
      subst e1
      have HROW : Hid (rowK (U ++ [[a, b, c]]) U.length = [a, b, c]) := by simp [Hid, rowK]
      have HU : Hid (RowN wr (mb + 1) 47 3 (.slice (some ⟨g, 0, none⟩) U.length c2) U) := by
        have := hrw.out.take (Nat.le_of_lt HKL.out)
        rw [List.take_left' rfl] at this
        exact this
      rw [hlenW] at hq hqb hcap hrw ⊢
      have hql := hqb.out
      clear hthr hW hlenW
      have hmlt := hmk.out.lt
      have hsl := fun V => headN 41 47 elem_threes Try.underlying41 i0 hi V g (U.length + 1) c2 U.length (by omega)
      have HNT := Lib.hid (Blk.new (t := 47) wr [0, 0, 0])
      have hul : U.length ≤ 7000 := by omega
      clear hql
      by_cases hin : [a, b, c] ∈ K
      · have HDEC : Hid (decide ([a, b, c] ∈ K) = true) := by simpa [Hid] using hin
        have HIN := Lib.hid hin
        clear hin
        go_wp2_with (first
          | (refine load_elem rfl _ 47 rfl _ rfl Try.underlying47 g (U.length + 1) c2 (mb + 1) U.length 3 (U ++ [[a, b, c]]) hrw HKL.out three_size rfl ?_; rw [HROW.out])
          | (refine store_tri rfl _ _ rfl wr.heap.size zero3 [a, b, c] rfl rfl rfl rfl HNT ?_; intro w6 HB6 hg6 hs6; have h6 : Hid (Below wr.heap.size wr w6) := Lib.hid (((Below.refl _ _).alloc (Nat.le_refl _) _).grown hg6 (by simp) (by simp)); have HM6 := Lib.hid (hmk.out.below h6.out hmlt))
          | (refine load_tri rfl _ rfl wr.heap.size [a, b, c] rfl rfl HB6 ?_)
          | (refine look_op rfl _ _ rfl mb K [a, b, c] HSM.out rfl rfl HM6 ?_; rw [HDEC.out]))
        go_wp2
        go_roundg (16 * untold n K + U.length)
        case measure => have := hq.out; omega
        case rel => exact ⟨U, K, Lib.hid rfl, Lib.hid (by have := hqb.out; omega), Lib.hid (HU.out.below h6.out (fun i hi => (HU.out.lt i hi).2)), HM6, Lib.hid (hinv.out.skip HIN.out), Lib.hid (hbl.out.trans (h6.out.mono (by omega)))⟩
      · have HDEC : Hid (decide ([a, b, c] ∈ K) = false) := by simpa [Hid] using hin
        have HIN := Lib.hid hin
        clear hin
        obtain ⟨J, hJ⟩ : ∃ J, J = joinTo ([a, b, c] :: K) a b c n := ⟨_, rfl⟩
        have HPU := Lib.hid (hinv.out.push HL.out)
        have hJl := joinTo_len ([a, b, c] :: K) a b c n
        have HCJ := Lib.hid (fun V (hV : MapK V mb ([a, b, c] :: K)) => joined_any n mb ([a, b, c] :: K) a b c V (by omega) hV (by omega) (by omega) (by omega) (by omega) (by omega) (by omega))
        rw [← hJ] at HPU hJl HCJ
        clear hJ
        have HUC := Lib.hid (untold_cons n K _ HTH.out HIN.out)
        have HLE := Lib.hid hJl
        go_wp2_with (first
          | (refine load_elem rfl _ 47 rfl _ rfl Try.underlying47 g (U.length + 1) c2 (mb + 1) U.length 3 (U ++ [[a, b, c]]) hrw HKL.out three_size rfl ?_; rw [HROW.out])
          | (refine store_tri rfl _ _ rfl wr.heap.size zero3 [a, b, c] rfl rfl rfl rfl HNT ?_; intro w6 HB6 hg6 hs6; have h6 : Hid (Below wr.heap.size wr w6) := Lib.hid (((Below.refl _ _).alloc (Nat.le_refl _) _).grown hg6 (by simp) (by simp)); have HM6 := Lib.hid (hmk.out.below h6.out hmlt))
          | (refine load_tri rfl _ rfl wr.heap.size [a, b, c] rfl rfl HB6 ?_)
          | (refine look_op rfl _ _ rfl mb K [a, b, c] HSM.out rfl rfl HM6 ?_; rw [HDEC.out])
          | (refine store_op rfl _ _ _ rfl mb K [a, b, c] HSM.out HIN.out rfl rfl rfl HM6 ?_; intro w7 HM7 hg7 hs7; have HB7 := Lib.hid (HB6.out.grown hg7 (by simp; omega)))
          | (refine load_tri rfl _ rfl wr.heap.size [a, b, c] rfl rfl HB7 ?_))
        have ht6 := HB6.out.lt
        have hz6 := h6.out.size
        have HU7 := Lib.hid ((HU.out.below h6.out (fun i hi => (HU.out.lt i hi).2)).grown hg7 (fun k hk e => by have := (HU.out.lt k hk).1; injection e; omega))
        have HW7 := Lib.hid ((hbl.out.trans (h6.out.mono (Nat.le_of_lt hmlt))).grown hg7 (by omega) (fun k hk => by injection hk; omega))
        clear hg7
        refine (turned_lit a b c w7).mono ?_
        rintro e w8 ⟨rfl, hb8⟩
        have hz8 := hb8.size
        have HU8 := Lib.hid (HU7.out.below hb8 (fun i hi => (HU7.out.lt i hi).2))
        have HM8 := Lib.hid (HM7.out.below hb8 (by omega))
        have HT8 := Lib.hid (HB7.out.below hb8 (by omega))
        have HW8 := Lib.hid (HW7.out.trans (hb8.mono (by omega)))
        clear hb8 HU7 HM7 HB7 HW7 HU HM6 HB6 hg6
        go_wp2_with (at_builtin; refine wpList_append_own _ rfl _ _ 41 rfl (mb + 1) 47 i0 (.agg #[.int .i64 0, .int .i64 0, .int .i64 0]) 3 24 Try.underlying41 hi hz0 hz1 hz2 rfl (by decide) _ _ _ rfl (HU8.out.2.alloc _) ⟨w8.heap.size, 0, none⟩ 1 1 (ints [b, c, a]) rfl rfl (World.news_of_block (heap_alloc_new w8 _)) (ints_oneCell _) (by unfold maxLen; omega) (by omega) (by simp; omega) ?_)
        intro v9 w9 hown9 hgr9 _
        have HR9 := Lib.hid (HU8.out.snoc (l := [b, c, a]) rfl hown9)
        have hz9 := hgr9.size
        have HM9 := Lib.hid ((HM8.out.alloc (.cells (ints [b, c, a]).toArray 47)).grown hgr9 (by intro e; have := (HU8.out.lt _ e.symm).1; omega))
        have HT9 := Lib.hid ((HT8.out.alloc (.cells (ints [b, c, a]).toArray 47)).grown hgr9 (fun e => by have h1 : wr.heap.size = g := Option.some.inj e; omega))
        have HW9 := Lib.hid ((HW8.out.alloc (by omega) _).grown hgr9 (by simp; omega) (fun i hi => by have := (HU8.out.lt i hi).1; omega))
        simp only [World.size_alloc] at hz9
        clear hown9 hgr9 HU8 HM8 HT8 HW8
        obtain ⟨U9, hU9⟩ : ∃ U9, U9 = U ++ [[b, c, a]] := ⟨_, rfl⟩
        have HU9 := Lib.hid hU9
        have HLN : Hid (U9.length = U.length + 1) := by rw [Hid, hU9]; simp
        rw [← hU9] at HR9 HPU
        clear hU9
        have HCC := Lib.hid (HCJ.out w9 HM9.out)
        go_wp2_with (first
          | (refine load_tri rfl _ rfl wr.heap.size [a, b, c] rfl rfl HT9 ?_))
        refine HCC.out.mono ?_
        rintro e w10 ⟨g', d', rfl, hrj, hbj⟩
        have hzj := hbj.size
        have HRJ := Lib.hid hrj
        have HR10 := Lib.hid (HR9.out.below hbj (fun i hi => (HR9.out.lt i hi).2))
        have HM10 := Lib.hid (HM9.out.below hbj (by omega))
        have HW10 := Lib.hid (HW9.out.trans (hbj.mono (by omega)))
        have HFL := Lib.hid (flat_length 3 J hrj.1)
        clear hrj hbj HR9 HM9 HW9 HT9 HCC
        go_wp2_with (at_builtin; refine wpList_append_own _ rfl _ _ 41 rfl (mb + 1) 47 i0 (.agg #[.int .i64 0, .int .i64 0, .int .i64 0]) 3 24 Try.underlying41 hi hz0 hz1 hz2 rfl (by decide) _ _ _ rfl HR10.out.2 ⟨g', 0, none⟩ J.length d' (ints J.flatten) rfl (by rw [ints_length, HFL.out]) HRJ.out.cells (ints_oneCell _) (by have := HLN.out; unfold maxLen; omega) (by have := HLN.out; omega) (by omega) ?_)
        intro v11 w11 hown11 hgr11 _
        have HR11 := Lib.hid (HR10.out.cat HRJ.out.1 hown11)
        have HM11 := Lib.hid (HM10.out.grown hgr11 (by intro e; have := (HR10.out.lt _ e.symm).1; omega))
        have HW11 := Lib.hid (HW10.out.grown hgr11 (by omega) (fun i hi => by have := (HR10.out.lt i hi).1; omega))
        clear hown11 hgr11 HR10 HM10 HW10
        go_wp2
        go_roundg (16 * untold n ([a, b, c] :: K) + (U9 ++ J).length)
        case measure =>
          have h1 := hq.out
          have h2 := HUC.out
          have h3 := HLN.out
          rw [List.length_append]
          omega
        case rel =>
          exact ⟨U9 ++ J, [a, b, c] :: K, Lib.hid rfl, Lib.hid (by have h1 := hqb.out; have h2 := HUC.out; have h3 := HLN.out; rw [List.length_append]; omega), HR11, HM11, HPU, HW11⟩

set_option maxRecDepth 10000 in
theorem closed_any (n : Nat) (v : Value) (C : Nat) (L : List (List Int)) (w : World) (h : RowN w C 47 3 v L) (hL : ∀ t ∈ L, Thr (n : Int) t) (hlen : L.length ≤ 1000) (hn : n ≤ 6) :
    Calls Try.prog 53 #[.int .i64 (n : Int), v] w fun e w' => ∃ K, e = .returned (.map (some w.heap.size)) ∧ MapK w' w.heap.size K ∧ (∀ t, t ∈ K ↔ Cl L t) ∧ Below w.heap.size w w' := by
  have HT := Lib.hid (tell_any n w.heap.size [] v C L (w.alloc (.map #[] 0)) (MapK.made w) (h.alloc _) hL hlen hn)
  have hb0 : Below w.heap.size w (w.alloc (.map #[] 0)) := (Below.refl _ _).alloc (Nat.le_refl _) _
  have hmk := fun W => run_makeMap (P := Try.prog) 51 W
  clear h hL
  go_enter Try.func53, Try.ntmps53
  go_wp2_with fail
  refine HT.out.mono ?_
  rintro e w1 ⟨rfl, ⟨K, hK1, hK2⟩, hb1⟩
  have HK1 := Lib.hid hK1
  have HK2 := Lib.hid hK2
  clear hK1 hK2
  go_wp2
  go_ret
  exact ⟨K, rfl, HK1.out, HK2.out, hb0.trans hb1⟩
end Go.Proofs.Ytdndddlikdccgaa

namespace Go.Proofs.Ytdndddlikdccgaa
open Go.ChangeShapes Go.WideShapes Go.ChangeAt Go.RowKit

def codeN (a b c : Nat) : Nat := 36 * a + 6 * b + c
theorem codeN_lt {a b c : Nat} (ha : a < 6) (hb : b < 6) (hc : c < 6) : codeN a b c < 216 := by unfold codeN; omega

set_option maxRecDepth 10000 in
theorem code_any (a b c : Nat) (w : World) (ha : a < 6) (hb : b < 6) (hc : c < 6) :
    Calls Try.prog 57 #[.int .i64 (a : Int), .int .i64 (b : Int), .int .i64 (c : Int)] w fun e w' => e = .returned (.int .i64 ((codeN a b c : Nat) : Int)) ∧ w' = w := by
  have hw1 : IntKind.i64.wrap (36 * (a : Int)) = 36 * (a : Int) := IntWalk.i64_in _ (by omega)
  have hw2 : IntKind.i64.wrap (6 * (b : Int)) = 6 * (b : Int) := IntWalk.i64_in _ (by omega)
  have hw3 : IntKind.i64.wrap (36 * (a : Int) + 6 * (b : Int)) = 36 * (a : Int) + 6 * (b : Int) := IntWalk.i64_in _ (by omega)
  have hw4 : IntKind.i64.wrap (36 * (a : Int) + 6 * (b : Int) + (c : Int)) = 36 * (a : Int) + 6 * (b : Int) + (c : Int) := IntWalk.i64_in _ (by omega)
  have HE : Hid (((codeN a b c : Nat) : Int) = 36 * (a : Int) + 6 * (b : Int) + (c : Int)) := by simp [Hid, codeN]
  go_enter Try.func57, Try.ntmps57
  go_wp2
  go_ret
  exact ⟨by rw [HE.out]; rfl, rfl⟩

/-- Block g holds 216 bools: those are true whose three is in K. -/
def Mk (w : World) (g : Nat) (K : List (List Int)) : Prop :=
  ∃ P : List Bool, P.length = 216 ∧ w.heap[g]? = some (.cells (P.map Value.bool).toArray 4 (0, 0)) ∧ ∀ a b c : Nat, a < 6 → b < 6 → c < 6 → P[codeN a b c]? = some (decide ([(a : Int), (b : Int), (c : Int)] ∈ K))
section
variable {w w' : World} {g D : Nat} {K : List (List Int)}
theorem Mk.lt (h : Mk w g K) : g < w.heap.size := by
  obtain ⟨P, _, hg, _⟩ := h
  exact (Array.getElem?_eq_some_iff.1 hg).1
theorem Mk.same (h : Mk w g K) (hk : w'.heap[g]? = w.heap[g]?) : Mk w' g K := by
  obtain ⟨P, hl, hg, hP⟩ := h
  exact ⟨P, hl, hk.trans hg, hP⟩
theorem Mk.below (h : Mk w g K) (hb : Below D w w') (hD : g < D) : Mk w' g K := h.same (hb.block g hD)
theorem Mk.drewN (h : Mk w g K) (n : Nat) : Mk (w.drewN n) g K := h
theorem Mk.drew (h : Mk w g K) : Mk w.drew g K := h
theorem Mk.congr {K' : List (List Int)} (h : Mk w g K) (hK : ∀ t, t ∈ K ↔ t ∈ K') : Mk w g K' := by
  obtain ⟨P, hl, hg, hP⟩ := h
  refine ⟨P, hl, hg, fun a b c ha hb hc => ?_⟩
  rw [hP a b c ha hb hc]
  congr 1
  rw [Bool.eq_iff_iff]
  simp [hK]
theorem Mk.cell (h : Mk w g K) {a b c : Nat} (ha : a < 6) (hb : b < 6) (hc : c < 6) : w.cell? ⟨g, codeN a b c, none⟩ = some (.bool (decide ([(a : Int), (b : Int), (c : Int)] ∈ K))) := by
  obtain ⟨P, hl, hg, hP⟩ := h
  rw [cell_of_row w g _ _ _ (0, 0) hg, List.getElem?_toArray, List.getElem?_map, hP a b c ha hb hc]
  rfl
theorem Mk.frozen (h : Mk w g K) (i : Nat) : w.frozen? ⟨g, i, none⟩ = false := by
  obtain ⟨P, hl, hg, hP⟩ := h
  exact frozen_of_row w g i _ _ hg
theorem Mk.set (h : Mk w g K) {a b c : Nat} (ha : a < 6) (hb : b < 6) (hc : c < 6) : Mk (w.setCell ⟨g, codeN a b c, none⟩ (.bool true)) g ([(a : Int), (b : Int), (c : Int)] :: K) := by
  obtain ⟨P, hl, hg, hP⟩ := h
  refine ⟨P.set (codeN a b c) true, by simp [hl], ?_, fun a' b' c' ha' hb' hc' => ?_⟩
  · rw [List.map_set, ← List.setIfInBounds_toArray]
    simp [World.setCell, Array.getElem?_modify, hg]
  · rw [List.getElem?_set]
    by_cases e : codeN a b c = codeN a' b' c'
    · have e3 : a = a' ∧ b = b' ∧ c = c' := by unfold codeN at e; omega
      obtain ⟨rfl, rfl, rfl⟩ := e3
      have := codeN_lt ha hb hc
      simp [hl, this]
    · rw [if_neg e, hP a' b' c' ha' hb' hc']
      congr 1
      rw [Bool.eq_iff_iff]
      simp only [decide_eq_true_eq, List.mem_cons]
      constructor
      · exact .inr
      · rintro (e2 | e2)
        · exfalso
          injection e2 with e4 e5
          injection e5 with e5 e6
          injection e6 with e6 _
          have f1 : a' = a := by omega
          have f2 : b' = b := by omega
          have f3 : c' = c := by omega
          exact e (by rw [f1, f2, f3])
        · exact e2
theorem Mk.made (h : w.ownsRow D 4 1 (.slice (some ⟨g, 0, none⟩) 216 216) 216 (List.replicate 216 (.bool false))) : Mk w g [] := by
  rcases h.2 with ⟨e, _⟩ | ⟨g', cap, cur, e, hB, hg, hc, hm, hs, ht⟩
  · cases e
  · injection e with e1 e2 e3
    injection e1 with e1
    injection e1 with e1
    subst e1; subst e3
    have hcur : cur.toList = List.replicate 216 (.bool false) := by
      rw [← ht, List.take_of_length_le (by simp [hs])]
    refine ⟨List.replicate 216 false, List.length_replicate, ?_, fun a b c ha hb hc => ?_⟩
    · rw [hg]
      have : cur = ((List.replicate 216 false).map Value.bool).toArray := by
        rw [List.map_replicate, ← hcur]
      rw [this]
    · have := codeN_lt ha hb hc
      rw [List.getElem?_replicate, if_pos this]
      simp
theorem GrowS.set {v : Value} {L : List (List Int)} {B : Nat} (h : GrowS w B v L) (hg : g < B) (i : Nat) (u : Value) : GrowS (w.setCell ⟨g, i, none⟩ u) B v L :=
  h.keep fun k hk _ => Below.heap_setCell w _ u k (by simp; omega)
end

/-- What holds of one three when nothing is to be added for it, asked up to a point. -/
def Clo1 (K : List (List Int)) (t : List Int) (k : Nat) : Prop :=
  ∀ x y z : Int, t = [x, y, z] → t ∈ K → [y, z, x] ∈ K ∧ ∀ u : Nat, u < k → (u : Int) ≠ x → (u : Int) ≠ y → (u : Int) ≠ z → [x, z, (u : Int)] ∈ K → [x, y, (u : Int)] ∈ K
theorem clo_done {n : Nat} {L K : List (List Int)} (hL : ∀ t ∈ L, Thr (n : Int) t) (hin : ∀ t ∈ L, t ∈ K) (hs : ∀ t ∈ K, Cl L t) (hc : ∀ t ∈ everyL n, Clo1 K t n) (t : List Int) : t ∈ K ↔ Cl L t := by
  have hev : ∀ t ∈ K, t ∈ everyL n := fun t ht => (every_thr n t).2 ((hs t ht).thr hL)
  refine ⟨hs t, fun h => h.least (S := fun t => t ∈ K) ⟨fun a b c h => (hc _ (hev _ h) a b c rfl h).1, fun a b c d h1 h2 hne => ?_⟩ hin⟩
  have hd := (thr3 _ _ _ _).1 ((hs _ h2).thr hL)
  have h3 := (hc _ (hev _ h1) a b c rfl h1).2 d.toNat (by omega) (by omega) (by omega) (by omega)
  have e : ((d.toNat : Nat) : Int) = d := by omega
  rw [e] at h3
  exact h3 h2
theorem clo_mem {K : List (List Int)} {x y z : Int} (h : [y, z, x] ∈ K) : Clo1 K [x, y, z] 0 := fun x' y' z' e _ => by
  injection e with e1 e2
  injection e2 with e2 e3
  injection e3 with e3 _
  subst e1; subst e2; subst e3
  exact ⟨h, fun u hu => absurd hu (by omega)⟩
theorem clo_not {K : List (List Int)} {t : List Int} (h : t ∉ K) (k : Nat) : Clo1 K t k := fun _ _ _ _ ht => absurd ht h
theorem clo_step {K : List (List Int)} {x y z : Int} {k : Nat} (h : Clo1 K [x, y, z] k) (hk : (k : Int) ≠ x → (k : Int) ≠ y → (k : Int) ≠ z → [x, z, (k : Int)] ∈ K → [x, y, (k : Int)] ∈ K) : Clo1 K [x, y, z] (k + 1) := fun x' y' z' e ht => by
  obtain ⟨h1, h2⟩ := h x' y' z' e ht
  injection e with e1 e2
  injection e2 with e2 e3
  injection e3 with e3 _
  subst e1; subst e2; subst e3
  refine ⟨h1, fun u hu => ?_⟩
  rcases Nat.lt_succ_iff_lt_or_eq.1 hu with hu | rfl
  · exact h2 u hu
  · exact hk
theorem thr_nat {n : Nat} {t : List Int} (h : Thr (n : Int) t) : ∃ a b c : Nat, t = [(a : Int), (b : Int), (c : Int)] ∧ a < n ∧ b < n ∧ c < n ∧ a ≠ b ∧ b ≠ c ∧ a ≠ c := by
  obtain ⟨x, y, z, rfl⟩ := of_three h.1
  rw [thr3] at h
  refine ⟨x.toNat, y.toNat, z.toNat, ?_, by omega, by omega, by omega, by omega, by omega, by omega⟩
  rw [show ((x.toNat : Nat) : Int) = x by omega, show ((y.toNat : Nat) : Int) = y by omega, show ((z.toNat : Nat) : Int) = z by omega]
end Go.Proofs.Ytdndddlikdccgaa

namespace Go.Proofs.Ytdndddlikdccgaa
open Go.ChangeShapes Go.WideShapes Go.ChangeAt Go.RowKit

theorem made_bools : (madeCells #[Value.bool false] 216).toList = List.replicate 216 (.bool false) := by kernel_rfl
theorem bool_info : (Try.prog.info? 4).map (fun i => (i.zero, i.size, i.bytes)) = some (some (.bool false), 1, 1) := by kernel_rfl

set_option maxRecDepth 10000 in
set_option maxHeartbeats 8000000 in
theorem closedS_any (A : Option Addr) (n c H m : Nat) (L : List (List Int)) (w : World) (h : RdS w H A n L) (hH : H ≤ w.heap.size) (h3 : 3 ≤ m) (h6 : m ≤ 6) (hn : n ≤ 40) (hL : ∀ t ∈ L, Thr (m : Int) t) :
    Calls Try.prog 55 #[.int .i64 (m : Int), .slice A n c] w fun e w' => e = .returned (.slice (some ⟨w.heap.size, 0, none⟩) 216 216) ∧ (∃ K, Mk w' w.heap.size K ∧ ∀ t, t ∈ K ↔ Cl L t) ∧ Below w.heap.size w w' := by
  obtain ⟨i0, hi, hz0, hz1, hz2⟩ := info_parts bool_info
  have HN := Lib.hid h.len
  have HR0 := Lib.hid h
  have HL := Lib.hid hL
  have HCOD := Lib.hid (fun (a b c : Nat) (ha : a < 6) (hb : b < 6) (hc : c < 6) W => code_any a b c W ha hb hc)
  clear h hL
  go_enter Try.func55, Try.ntmps55
  go_wp2_with (at_make; refine wpList_make_full _ rfl _ _ 54 rfl w.heap.size 4 i0 (.bool false) 1 Try.underlying54 hi hz0 hz1 .i64 .i64 _ _ 216 rfl rfl rfl rfl (by rw [hz2]; omega) (by unfold maxLen; omega) (Nat.le_refl _) ?_)
  intro w1 hown hgrow
  rw [made_bools] at hown
  have HB1 : Hid (Below w.heap.size w w1) := Lib.hid ((Below.refl _ _).grown hgrow (Nat.le_refl _) (by simp))
  have HM1 : Hid (Mk w1 w.heap.size (L.take 0)) := Lib.hid (Mk.made hown)
  have HR1 := Lib.hid (HR0.out.below (HB1.out.mono hH))
  clear hown hgrow HR0
  generalize hB : w.heap.size = B at *
  have HB := Lib.hid hB
  clear hB
  go_wp2
  go_loopw [6] (fun i wr => ∃ k : Nat, k ≤ n ∧ i = .int .i64 k ∧ Hid (Mk wr B (L.take k)) ∧ Hid (RdS wr H A n L) ∧ Hid (Below B w wr)) (fun i _ => n - (intOf i).toNat)
  case atStart => exact ⟨0, Nat.zero_le _, rfl, HM1, HR1, HB1⟩
  case round =>
    obtain ⟨k, hk, rfl, hmk, hrd, hbl⟩ := hrel
    clear HR1 HM1 HB1
    have hBw := hmk.out.lt
    by_cases hlt : k < n
    · have hkl : k < L.length := by rw [HN.out]; exact hlt
      obtain ⟨lb, lo, e, hbB, hcs⟩ := hrd.out.at_ (by omega)
      subst e
      obtain ⟨Ak, ck, hc, hr, hcz, hcm⟩ := hcs k hlt
      have hthr := HL.out _ (rowK_mem hkl)
      obtain ⟨x, y, z, ex, hx, hy, hz, _⟩ := thr_nat hthr
      rw [ex] at hr hc hcz
      obtain ⟨b', o', e, hbH, c0, c1, c2⟩ := rd3 hr
      subst e
      obtain ⟨q, hq⟩ : ∃ q, q = codeN x y z := ⟨_, rfl⟩
      have q1 : q < 216 := by rw [hq]; exact codeN_lt (by omega) (by omega) (by omega)
      have HC := Lib.hid (fun W => HCOD.out x y z (by omega) (by omega) (by omega) W)
      have HST := Lib.hid (hmk.out.drew.set (a := x) (b := y) (c := z) (by omega) (by omega) (by omega))
      have HMEM : Hid (∀ t, t ∈ [(x : Int), (y : Int), (z : Int)] :: L.take k ↔ t ∈ L.take (k + 1)) := by
        intro t
        rw [List.take_succ_eq_append_getElem hkl, List.mem_append, List.mem_singleton, List.mem_cons]
        have e : L[k] = [(x : Int), (y : Int), (z : Int)] := by rw [← ex]; simp [rowK, List.getD, hkl]
        rw [e]
        constructor
        · rintro (h | h)
          · exact .inr h
          · exact .inl h
        · rintro (h | h)
          · exact .inr h
          · exact .inl h
      have m1 := hmk.out.cell (a := x) (b := y) (c := z) (by omega) (by omega) (by omega)
      have f1 := hmk.out.frozen (codeN x y z)
      rw [← hq] at HC HST m1 f1
      obtain ⟨r, hr1⟩ : ∃ r, r = decide ([(x : Int), (y : Int), (z : Int)] ∈ L.take k) := ⟨_, rfl⟩
      rw [← hr1] at m1
      have hcc : wr.cell? ⟨lb, lo + k, none⟩ = some (.slice (some ⟨b', o', none⟩) 3 ck) := hc
      have m1' : wr.drew.cell? ⟨B, q, none⟩ = some (.bool r) := m1
      have f1' : wr.drew.frozen? ⟨B, q, none⟩ = false := f1
      have q1' : (q : Int) < 216 := by omega
      have q0' : (0 : Int) ≤ (q : Int) := by omega
      have HK := Lib.hid (fun (V : World) (hV : Below H wr V) => (⟨(hV.cell (p := ⟨lb, lo + k, none⟩) (by simp; omega)).trans hcc, (hV.cell (p := ⟨b', o', none⟩) (by simp; omega)).trans c0, (hV.cell (p := ⟨b', o' + 1, none⟩) (by simp; omega)).trans c1, (hV.cell (p := ⟨b', o' + 2, none⟩) (by simp; omega)).trans c2⟩ :
        V.cell? ⟨lb, lo + k, none⟩ = some (.slice (some ⟨b', o', none⟩) 3 ck) ∧ V.cell? ⟨b', o', none⟩ = some (.int .i64 (x : Int)) ∧ V.cell? ⟨b', o' + 1, none⟩ = some (.int .i64 (y : Int)) ∧ V.cell? ⟨b', o' + 2, none⟩ = some (.int .i64 (z : Int))))
      clear hcs hr hthr ex hq hr1 hkl hc m1 f1 hcc c0 c1 c2
      go_wp2
      go_region_held3 (fun V => V.cell? ⟨lb, lo + k, none⟩ = some (.slice (some ⟨b', o', none⟩) 3 ck) ∧ V.cell? ⟨b', o', none⟩ = some (.int .i64 (x : Int)) ∧ V.cell? ⟨b', o' + 1, none⟩ = some (.int .i64 (y : Int)) ∧ V.cell? ⟨b', o' + 2, none⟩ = some (.int .i64 (z : Int)))
        (first
          | exact HK.out _ (Below.refl _ _).drew
          | exact HK.out _ ((Below.refl H wr).drew.setCell (by simp; omega) _)
          | exact HK.out _ (((Below.refl H wr).setCell (by simp; omega) _).drew))
        (first
          | (go_at_call 57; refine Calls.mono (HC.out _) ?_; rintro e w' ⟨rfl, rfl⟩))
      all_goals
        clear m1' f1'
        go_wp2
        go_roundw
        case rel => exact ⟨k + 1, by omega, by go_num, Lib.hid ((HST.out.same rfl).congr HMEM.out), Lib.hid (hrd.out.below (by first | exact (Below.refl H wr).drew.setCell (by simp; omega) _ | exact ((Below.refl H wr).setCell (by simp; omega) _).drew)), Lib.hid (by first | exact hbl.out.drew.setCell (Nat.le_refl _) _ | exact (hbl.out.setCell (Nat.le_refl _) _).drew)⟩
        case measure => simp [intOf]; omega
    · obtain rfl : k = n := by omega
      have HIN : Hid (∀ t ∈ L, t ∈ L.take k) := by rw [Hid, List.take_of_length_le (by rw [HN.out]; omega)]; exact fun t ht => ht
      have HSO : Hid (∀ t ∈ L.take k, Cl L t) := fun t ht => .base (List.mem_of_mem_take ht)
      obtain ⟨K0, hK0⟩ : ∃ K0, K0 = L.take k := ⟨_, rfl⟩
      rw [← hK0] at hmk HIN HSO
      clear hK0 hrd hlt hk
      go_wp2
      go_loopg [7] (2 * untold m K0 + 1) (fun q v wo => ∃ gr K, v = .bool gr ∧ Hid (q = 2 * untold m K + (if gr = true then 1 else 0)) ∧ Hid (Mk wo B K) ∧ Hid (∀ t ∈ L, t ∈ K) ∧ Hid (∀ t ∈ K, Cl L t) ∧ Hid (gr = false → ∀ t ∈ everyL m, Clo1 K t m) ∧ Hid (Below B w wo))
      case atStart => exact ⟨true, K0, rfl, Lib.hid (by simp), hmk, HIN, HSO, Lib.hid (fun e => by cases e), hbl⟩
      case round =>
        obtain ⟨gr, K1, rfl, hq, hmo, hin, hso, hcl, hbo⟩ := hrel
        clear hmk HIN HSO hbl hBw
        cases gr with
        | false =>
          have HD := Lib.hid (clo_done HL.out hin.out hso.out (hcl.out rfl))
          go_wp2
          go_ret
          exact ⟨by rw [HB.out]; rfl, ⟨K1, by rw [HB.out]; exact hmo.out, HD.out⟩, by rw [HB.out]; exact hbo.out⟩
        | true =>
          have hBo := hmo.out.lt
          have HEV := Lib.hid (l2Every_any m wr (by omega))
          clear hcl
          go_wp2_with fail
          refine HEV.out.mono ?_
          rintro e w3 ⟨ve, rfl, hge, hb3⟩
          obtain ⟨Ae, ce, e, hce0, _⟩ := hge.slice
          subst e
          have HE3 : Hid (GrowS w3 (B + 1) (.slice Ae (everyL m).length ce) (everyL m)) := by
            obtain ⟨xs, p1, p2⟩ := hge
            refine ⟨xs, own_rowLess p1 (by omega), fun k hk => ?_⟩
            obtain ⟨vk, q1, q2⟩ := p2 k hk
            exact ⟨vk, q1, q2.less (by omega)⟩
          have HM3 := Lib.hid (hmo.out.below hb3 hBo)
          have HB3 := Lib.hid (hbo.out.trans (hb3.mono (by omega)))
          have HEL := Lib.hid (everyL_len m (by omega))
          obtain ⟨E, hE⟩ : ∃ E, E = everyL m := ⟨_, rfl⟩
          have HEE := Lib.hid hE
          rw [← hE] at HE3 HEL ⊢
          obtain ⟨z, hz⟩ : ∃ z, z = E.length := ⟨_, rfl⟩
          have HZ := Lib.hid hz
          rw [← hz] at HE3 HEL ⊢
          have hz343 : z ≤ 343 := HEL.out
          obtain ⟨u0, hu0⟩ : ∃ u0, u0 = untold m K1 := ⟨_, rfl⟩
          have HU0 : Hid (untold m K1 ≤ u0) := by rw [hu0]; exact Nat.le_refl _
          rw [← hu0] at hq
          clear hE hz hge hb3 hu0 HEV hbo hmo hce0 hBo
          go_wp2_with fail
          go_loopw [7, 9] (fun v i wj => ∃ (j : Nat) (gr : Bool) (K : List (List Int)), j ≤ z ∧ i = .int .i64 j ∧ v = .bool gr ∧ Hid (Mk wj B K) ∧ Hid (∀ t ∈ L, t ∈ K) ∧ Hid (∀ t ∈ K, Cl L t) ∧ Hid (gr = false → ∀ p, p < j → Clo1 K (rowK E p) m) ∧ Hid (gr = true → untold m K < u0) ∧ Hid (untold m K ≤ u0) ∧ Hid (GrowS wj (B + 1) (.slice Ae z ce) E) ∧ Hid (Below B w wj)) (fun _ i _ => z - (intOf i).toNat)
          case atStart => exact ⟨0, false, K1, Nat.zero_le _, rfl, rfl, HM3, hin, hso, Lib.hid (fun _ p hp => absurd hp (by omega)), Lib.hid (fun e => by cases e), HU0, HE3, HB3⟩
          case round =>
            obtain ⟨j, gr, K, hj, rfl, rfl, hmk, hin2, hso2, hcl, hut, hul, hge, hbl⟩ := hrel
            clear HM3 hin hso HU0 HE3 HB3
            have hBw := hmk.out.lt
            by_cases hlt : j < z
            · have hjl : j < E.length := by rw [← HZ.out]; exact hlt
              have hthr : Thr (m : Int) (rowK E j) := by
                have := rowK_mem hjl
                rw [HEE.out] at this ⊢
                exact (every_thr m _).1 this
              obtain ⟨a, b, c', et, ha, hb, hc, hab, hbc, hac⟩ := thr_nat hthr
              obtain ⟨g, cg, A', d', e0, hcr, hrow⟩ := hge.out.row hjl
              rw [← HZ.out] at e0
              injection e0 with e1 _ e3
              subst e3
              subst e1
              rw [et] at hcr hrow
              have HET := Lib.hid et
              obtain ⟨b', o', e, hbH, c0, c1, c2⟩ := rd3 hrow.1.rd.2
              subst e
              change wr.cell? ⟨g, j, none⟩ = some (.slice (some ⟨b', o', none⟩) 3 d') at hcr
              obtain ⟨q1, hq1⟩ : ∃ q, q = codeN a b c' := ⟨_, rfl⟩
              obtain ⟨q2, hq2⟩ : ∃ q, q = codeN b c' a := ⟨_, rfl⟩
              have l1 : q1 < 216 := by rw [hq1]; exact codeN_lt (by omega) (by omega) (by omega)
              have l2 : q2 < 216 := by rw [hq2]; exact codeN_lt (by omega) (by omega) (by omega)
              have HC1 := Lib.hid (fun W => HCOD.out a b c' (by omega) (by omega) (by omega) W)
              have HC2 := Lib.hid (fun W => HCOD.out b c' a (by omega) (by omega) (by omega) W)
              have HS2 := Lib.hid (hmk.out.set (a := b) (b := c') (c := a) (by omega) (by omega) (by omega))
              have m1 := hmk.out.cell (a := a) (b := b) (c := c') (by omega) (by omega) (by omega)
              have m2 := hmk.out.cell (a := b) (b := c') (c := a) (by omega) (by omega) (by omega)
              have f2 := hmk.out.frozen (codeN b c' a)
              rw [← hq1] at HC1 m1
              rw [← hq2] at HC2 HS2 m2 f2
              have hTH : Thr (m : Int) [(a : Int), (b : Int), (c' : Int)] := by rw [← et]; exact hthr
              have hTT : Thr (m : Int) [(b : Int), (c' : Int), (a : Int)] := by
                rw [thr3] at hTH ⊢
                obtain ⟨h1, h2, h3, h4, h5, h6⟩ := hTH
                exact ⟨h2, h3, h1, h6, Ne.symm h4, Ne.symm h5⟩
              have HTT := Lib.hid hTT
              clear hrow hjl hthr et hq1 hq2 hTH hTT
              by_cases hy1 : [(a : Int), (b : Int), (c' : Int)] ∈ K
              · have HCT := Lib.hid (hso2.out _ hy1)
                rw [decide_eq_true hy1] at m1
                have HY1 := Lib.hid hy1
                clear hy1
                by_cases hy2 : [(b : Int), (c' : Int), (a : Int)] ∈ K
                · rw [decide_eq_true hy2] at m2
                  have HY2 := Lib.hid hy2
                  clear hy2
                  go_wp2_with fail
                  refine Calls.mono (HC1.out _) ?_
                  rintro e w' ⟨rfl, rfl⟩
                  go_wp2_with fail
                  refine Calls.mono (HC2.out _) ?_
                  rintro e w' ⟨rfl, rfl⟩
                  go_wp2_with fail
                  have HCL2 : Hid (gr = false → (∀ p, p < j → Clo1 K (rowK E p) m) ∧ Clo1 K [(a : Int), (b : Int), (c' : Int)] 0) := fun e => ⟨hcl.out e, clo_mem HY2.out⟩
                  clear m1 m2 f2 c0 c1 c2 hcr hcl hBw HS2
                  go_loopw [7, 13] (fun v i wl => ∃ (u : Nat) (gr : Bool) (K : List (List Int)), u ≤ m ∧ i = .int .i64 u ∧ v = .bool gr ∧ Hid (Mk wl B K) ∧ Hid (∀ t ∈ L, t ∈ K) ∧ Hid (∀ t ∈ K, Cl L t) ∧ Hid (gr = false → (∀ p, p < j → Clo1 K (rowK E p) m) ∧ Clo1 K [(a : Int), (b : Int), (c' : Int)] u) ∧ Hid (gr = true → untold m K < u0) ∧ Hid (untold m K ≤ u0) ∧ Hid (GrowS wl (B + 1) (.slice (some ⟨g, 0, none⟩) z ce) E) ∧ Hid (Below B w wl)) (fun _ i _ => m - (intOf i).toNat)
                  case atStart => exact ⟨0, gr, K, Nat.zero_le _, rfl, rfl, hmk, hin2, hso2, HCL2, hut, hul, hge, hbl⟩
                  case round =>
                    obtain ⟨u, gr, K, hu, rfl, rfl, hmk, hin2, hso2, hcl, hut, hul, hge, hbl⟩ := hrel
                    clear HCL2
                    have hBw := hmk.out.lt
                    by_cases hlu : u < m
                    · by_cases ea : u = a
                      · have b1 : ((u : Int) != (a : Int)) = false := by simp; omega
                        have HEA : Hid ((u : Int) = (a : Int)) := by rw [ea]; rfl
                        clear ea
                        have HST : Hid (gr = false → (∀ p, p < j → Clo1 K (rowK E p) m) ∧ Clo1 K [(a : Int), (b : Int), (c' : Int)] (u + 1)) := fun e => ⟨(hcl.out e).1, clo_step (hcl.out e).2 (fun h => absurd HEA.out h)⟩
                        go_wp2
                        go_roundw
                        case rel => exact ⟨u + 1, gr, K, by omega, by go_num, rfl, hmk, hin2, hso2, HST, hut, hul, hge, hbl⟩
                        case measure => simp [intOf]; omega
                      have b1 : ((u : Int) != (a : Int)) = true := by simp; omega
                      clear ea
                      by_cases eb : u = b
                      · have b2 : ((u : Int) != (b : Int)) = false := by simp; omega
                        have HEA : Hid ((u : Int) = (b : Int)) := by rw [eb]; rfl
                        clear eb
                        have HST : Hid (gr = false → (∀ p, p < j → Clo1 K (rowK E p) m) ∧ Clo1 K [(a : Int), (b : Int), (c' : Int)] (u + 1)) := fun e => ⟨(hcl.out e).1, clo_step (hcl.out e).2 (fun _ h => absurd HEA.out h)⟩
                        go_wp2
                        go_roundw
                        case rel => exact ⟨u + 1, gr, K, by omega, by go_num, rfl, hmk, hin2, hso2, HST, hut, hul, hge, hbl⟩
                        case measure => simp [intOf]; omega
                      have b2 : ((u : Int) != (b : Int)) = true := by simp; omega
                      have HUB : Hid (u ≠ b) := eb
                      clear eb
                      by_cases ec : u = c'
                      · have b3 : ((u : Int) != (c' : Int)) = false := by simp; omega
                        have HEA : Hid ((u : Int) = (c' : Int)) := by rw [ec]; rfl
                        clear ec
                        have HST : Hid (gr = false → (∀ p, p < j → Clo1 K (rowK E p) m) ∧ Clo1 K [(a : Int), (b : Int), (c' : Int)] (u + 1)) := fun e => ⟨(hcl.out e).1, clo_step (hcl.out e).2 (fun _ _ h => absurd HEA.out h)⟩
                        go_wp2
                        go_roundw
                        case rel => exact ⟨u + 1, gr, K, by omega, by go_num, rfl, hmk, hin2, hso2, HST, hut, hul, hge, hbl⟩
                        case measure => simp [intOf]; omega
                      have b3 : ((u : Int) != (c' : Int)) = true := by simp; omega
                      clear ec
                      obtain ⟨q3, hq3⟩ : ∃ q, q = codeN a c' u := ⟨_, rfl⟩
                      obtain ⟨q4, hq4⟩ : ∃ q, q = codeN a b u := ⟨_, rfl⟩
                      have l3 : q3 < 216 := by rw [hq3]; exact codeN_lt (by omega) (by omega) (by omega)
                      have l4 : q4 < 216 := by rw [hq4]; exact codeN_lt (by omega) (by omega) (by omega)
                      have HC3 := Lib.hid (fun W => HCOD.out a c' u (by omega) (by omega) (by omega) W)
                      have HC4 := Lib.hid (fun W => HCOD.out a b u (by omega) (by omega) (by omega) W)
                      have HS4 := Lib.hid (hmk.out.set (a := a) (b := b) (c := u) (by omega) (by omega) (by omega))
                      have m3 := hmk.out.cell (a := a) (b := c') (c := u) (by omega) (by omega) (by omega)
                      have m4 := hmk.out.cell (a := a) (b := b) (c := u) (by omega) (by omega) (by omega)
                      have f4 := hmk.out.frozen (codeN a b u)
                      rw [← hq3] at HC3 m3
                      rw [← hq4] at HC4 HS4 m4 f4
                      clear hq3 hq4
                      by_cases hy3 : [(a : Int), (c' : Int), (u : Int)] ∈ K
                      · rw [decide_eq_true hy3] at m3
                        by_cases hy4 : [(a : Int), (b : Int), (u : Int)] ∈ K
                        · rw [decide_eq_true hy4] at m4
                          have HY4 := Lib.hid hy4
                          clear hy3 hy4
                          have HST : Hid (gr = false → (∀ p, p < j → Clo1 K (rowK E p) m) ∧ Clo1 K [(a : Int), (b : Int), (c' : Int)] (u + 1)) := fun e => ⟨(hcl.out e).1, clo_step (hcl.out e).2 (fun _ _ _ _ => HY4.out)⟩
                          go_wp2_with fail
                          refine Calls.mono (HC3.out _) ?_
                          rintro e w' ⟨rfl, rfl⟩
                          go_wp2_with fail
                          refine Calls.mono (HC4.out _) ?_
                          rintro e w' ⟨rfl, rfl⟩
                          go_wp2
                          go_roundw
                          case rel => exact ⟨u + 1, gr, K, by omega, by go_num, rfl, hmk, hin2, hso2, HST, hut, hul, hge, hbl⟩
                          case measure => simp [intOf]; omega
                        · rw [decide_eq_false hy4] at m4
                          have HCN : Hid (Cl L [(a : Int), (b : Int), (u : Int)]) := HCT.out.join (hso2.out _ hy3) (by have := HUB.out; omega)
                          have hlt2 := untold_cons m K _ (HCN.out.thr HL.out) hy4
                          have HUT2 : Hid (true = true → untold m ([(a : Int), (b : Int), (u : Int)] :: K) < u0) := fun _ => by have := hul.out; omega
                          have HUL2 : Hid (untold m ([(a : Int), (b : Int), (u : Int)] :: K) ≤ u0) := by have := hul.out; simp only [Hid]; omega
                          have HIN3 : Hid (∀ t ∈ L, t ∈ [(a : Int), (b : Int), (u : Int)] :: K) := fun t ht => List.mem_cons_of_mem _ (hin2.out t ht)
                          have HSO3 : Hid (∀ t ∈ [(a : Int), (b : Int), (u : Int)] :: K, Cl L t) := fun t ht => by
                            rcases List.mem_cons.1 ht with rfl | ht
                            · exact HCN.out
                            · exact hso2.out t ht
                          clear hy3 hy4 hlt2
                          go_wp2_with fail
                          refine Calls.mono (HC3.out _) ?_
                          rintro e w' ⟨rfl, rfl⟩
                          go_wp2_with fail
                          refine Calls.mono (HC4.out _) ?_
                          rintro e w' ⟨rfl, rfl⟩
                          go_wp2_with fail
                          refine Calls.mono (HC4.out _) ?_
                          rintro e w' ⟨rfl, rfl⟩
                          go_wp2
                          go_roundw
                          case rel => exact ⟨u + 1, true, [(a : Int), (b : Int), (u : Int)] :: K, by omega, by go_num, rfl, HS4, HIN3, HSO3, Lib.hid (fun e => by cases e), Lib.hid (fun _ => by first | exact HUT2.out rfl | exact HUT2.out trivial), HUL2, Lib.hid (hge.out.set (by omega) _ _), Lib.hid (hbl.out.setCell (Nat.le_refl _) _)⟩
                          case measure => simp [intOf]; omega
                      · rw [decide_eq_false hy3] at m3
                        have HY3 := Lib.hid hy3
                        clear hy3
                        have HST : Hid (gr = false → (∀ p, p < j → Clo1 K (rowK E p) m) ∧ Clo1 K [(a : Int), (b : Int), (c' : Int)] (u + 1)) := fun e => ⟨(hcl.out e).1, clo_step (hcl.out e).2 (fun _ _ _ h => absurd h HY3.out)⟩
                        go_wp2_with fail
                        refine Calls.mono (HC3.out _) ?_
                        rintro e w' ⟨rfl, rfl⟩
                        go_wp2
                        go_roundw
                        case rel => exact ⟨u + 1, gr, K, by omega, by go_num, rfl, hmk, hin2, hso2, HST, hut, hul, hge, hbl⟩
                        case measure => simp [intOf]; omega
                    · obtain rfl : u = m := by omega
                      have HST : Hid (gr = false → ∀ p, p < j + 1 → Clo1 K (rowK E p) u) := fun e p hp => by
                        rcases Nat.lt_succ_iff_lt_or_eq.1 hp with hp | rfl
                        · exact (hcl.out e).1 p hp
                        · rw [HET.out]; exact (hcl.out e).2
                      clear hcl
                      go_wp2
                      go_roundw
                      case rel => exact ⟨j + 1, gr, K, by omega, by go_num, rfl, hmk, hin2, hso2, HST, hut, hul, hge, hbl⟩
                      case measure => simp [intOf]; omega
                · rw [decide_eq_false hy2] at m2
                  have HY2 := Lib.hid hy2
                  clear hy2
                  go_wp2_with fail
                  refine Calls.mono (HC1.out _) ?_
                  rintro e w' ⟨rfl, rfl⟩
                  go_wp2_with fail
                  refine Calls.mono (HC2.out _) ?_
                  rintro e w' ⟨rfl, rfl⟩
                  go_wp2_with fail
                  refine Calls.mono (HC2.out _) ?_
                  rintro e w' ⟨rfl, rfl⟩
                  go_wp2_with fail
                  have HGE := Lib.hid (hge.out.set (g := B) (by omega) q2 (.bool true))
                  have HBL := Lib.hid (hbl.out.setCell (p := ⟨B, q2, none⟩) (Nat.le_refl _) (.bool true))
                  clear hge hbl hmk m1 m2 f2 c0 c1 c2 hcr hcl hut hBw
                  generalize wr.setCell ⟨B, q2, none⟩ (.bool true) = wk at *
                  obtain ⟨K2, hK2⟩ : ∃ K2, K2 = [(b : Int), (c' : Int), (a : Int)] :: K := ⟨_, rfl⟩
                  have HCL2 : Hid (true = false → (∀ p, p < j → Clo1 K2 (rowK E p) m) ∧ Clo1 K2 [(a : Int), (b : Int), (c' : Int)] 0) := fun e => by cases e
                  have HIN2 : Hid (∀ t ∈ L, t ∈ K2) := fun t ht => by rw [hK2]; exact List.mem_cons_of_mem _ (hin2.out t ht)
                  have HSO2 : Hid (∀ t ∈ K2, Cl L t) := fun t ht => by
                    rw [hK2] at ht
                    rcases List.mem_cons.1 ht with rfl | ht
                    · exact HCT.out.turn
                    · exact hso2.out t ht
                  have hlt2 : untold m K2 < untold m K := by rw [hK2]; exact untold_cons m K _ HTT.out HY2.out
                  have HUT2 : Hid (true = true → untold m K2 < u0) := fun _ => by have := hul.out; omega
                  have HUL2 : Hid (untold m K2 ≤ u0) := by have := hul.out; simp only [Hid]; omega
                  rw [← hK2] at HS2
                  clear hin2 hso2 hul hlt2 hK2 HY2
                  go_loopw [7, 13] (fun v i wl => ∃ (u : Nat) (gr : Bool) (K : List (List Int)), u ≤ m ∧ i = .int .i64 u ∧ v = .bool gr ∧ Hid (Mk wl B K) ∧ Hid (∀ t ∈ L, t ∈ K) ∧ Hid (∀ t ∈ K, Cl L t) ∧ Hid (gr = false → (∀ p, p < j → Clo1 K (rowK E p) m) ∧ Clo1 K [(a : Int), (b : Int), (c' : Int)] u) ∧ Hid (gr = true → untold m K < u0) ∧ Hid (untold m K ≤ u0) ∧ Hid (GrowS wl (B + 1) (.slice (some ⟨g, 0, none⟩) z ce) E) ∧ Hid (Below B w wl)) (fun _ i _ => m - (intOf i).toNat)
                  case atStart => exact ⟨0, true, K2, Nat.zero_le _, rfl, rfl, HS2, HIN2, HSO2, HCL2, HUT2, HUL2, HGE, HBL⟩
                  case round =>
                    obtain ⟨u, gr, K, hu, rfl, rfl, hmk, hin2, hso2, hcl, hut, hul, hge, hbl⟩ := hrel
                    clear HS2 HIN2 HSO2 HUT2 HUL2 HGE HBL HCL2
                    have hBw := hmk.out.lt
                    by_cases hlu : u < m
                    · by_cases ea : u = a
                      · have b1 : ((u : Int) != (a : Int)) = false := by simp; omega
                        have HEA : Hid ((u : Int) = (a : Int)) := by rw [ea]; rfl
                        clear ea
                        have HST : Hid (gr = false → (∀ p, p < j → Clo1 K (rowK E p) m) ∧ Clo1 K [(a : Int), (b : Int), (c' : Int)] (u + 1)) := fun e => ⟨(hcl.out e).1, clo_step (hcl.out e).2 (fun h => absurd HEA.out h)⟩
                        go_wp2
                        go_roundw
                        case rel => exact ⟨u + 1, gr, K, by omega, by go_num, rfl, hmk, hin2, hso2, HST, hut, hul, hge, hbl⟩
                        case measure => simp [intOf]; omega
                      have b1 : ((u : Int) != (a : Int)) = true := by simp; omega
                      clear ea
                      by_cases eb : u = b
                      · have b2 : ((u : Int) != (b : Int)) = false := by simp; omega
                        have HEA : Hid ((u : Int) = (b : Int)) := by rw [eb]; rfl
                        clear eb
                        have HST : Hid (gr = false → (∀ p, p < j → Clo1 K (rowK E p) m) ∧ Clo1 K [(a : Int), (b : Int), (c' : Int)] (u + 1)) := fun e => ⟨(hcl.out e).1, clo_step (hcl.out e).2 (fun _ h => absurd HEA.out h)⟩
                        go_wp2
                        go_roundw
                        case rel => exact ⟨u + 1, gr, K, by omega, by go_num, rfl, hmk, hin2, hso2, HST, hut, hul, hge, hbl⟩
                        case measure => simp [intOf]; omega
                      have b2 : ((u : Int) != (b : Int)) = true := by simp; omega
                      have HUB : Hid (u ≠ b) := eb
                      clear eb
                      by_cases ec : u = c'
                      · have b3 : ((u : Int) != (c' : Int)) = false := by simp; omega
                        have HEA : Hid ((u : Int) = (c' : Int)) := by rw [ec]; rfl
                        clear ec
                        have HST : Hid (gr = false → (∀ p, p < j → Clo1 K (rowK E p) m) ∧ Clo1 K [(a : Int), (b : Int), (c' : Int)] (u + 1)) := fun e => ⟨(hcl.out e).1, clo_step (hcl.out e).2 (fun _ _ h => absurd HEA.out h)⟩
                        go_wp2
                        go_roundw
                        case rel => exact ⟨u + 1, gr, K, by omega, by go_num, rfl, hmk, hin2, hso2, HST, hut, hul, hge, hbl⟩
                        case measure => simp [intOf]; omega
                      have b3 : ((u : Int) != (c' : Int)) = true := by simp; omega
                      clear ec
                      obtain ⟨q3, hq3⟩ : ∃ q, q = codeN a c' u := ⟨_, rfl⟩
                      obtain ⟨q4, hq4⟩ : ∃ q, q = codeN a b u := ⟨_, rfl⟩
                      have l3 : q3 < 216 := by rw [hq3]; exact codeN_lt (by omega) (by omega) (by omega)
                      have l4 : q4 < 216 := by rw [hq4]; exact codeN_lt (by omega) (by omega) (by omega)
                      have HC3 := Lib.hid (fun W => HCOD.out a c' u (by omega) (by omega) (by omega) W)
                      have HC4 := Lib.hid (fun W => HCOD.out a b u (by omega) (by omega) (by omega) W)
                      have HS4 := Lib.hid (hmk.out.set (a := a) (b := b) (c := u) (by omega) (by omega) (by omega))
                      have m3 := hmk.out.cell (a := a) (b := c') (c := u) (by omega) (by omega) (by omega)
                      have m4 := hmk.out.cell (a := a) (b := b) (c := u) (by omega) (by omega) (by omega)
                      have f4 := hmk.out.frozen (codeN a b u)
                      rw [← hq3] at HC3 m3
                      rw [← hq4] at HC4 HS4 m4 f4
                      clear hq3 hq4
                      by_cases hy3 : [(a : Int), (c' : Int), (u : Int)] ∈ K
                      · rw [decide_eq_true hy3] at m3
                        by_cases hy4 : [(a : Int), (b : Int), (u : Int)] ∈ K
                        · rw [decide_eq_true hy4] at m4
                          have HY4 := Lib.hid hy4
                          clear hy3 hy4
                          have HST : Hid (gr = false → (∀ p, p < j → Clo1 K (rowK E p) m) ∧ Clo1 K [(a : Int), (b : Int), (c' : Int)] (u + 1)) := fun e => ⟨(hcl.out e).1, clo_step (hcl.out e).2 (fun _ _ _ _ => HY4.out)⟩
                          go_wp2_with fail
                          refine Calls.mono (HC3.out _) ?_
                          rintro e w' ⟨rfl, rfl⟩
                          go_wp2_with fail
                          refine Calls.mono (HC4.out _) ?_
                          rintro e w' ⟨rfl, rfl⟩
                          go_wp2
                          go_roundw
                          case rel => exact ⟨u + 1, gr, K, by omega, by go_num, rfl, hmk, hin2, hso2, HST, hut, hul, hge, hbl⟩
                          case measure => simp [intOf]; omega
                        · rw [decide_eq_false hy4] at m4
                          have HCN : Hid (Cl L [(a : Int), (b : Int), (u : Int)]) := HCT.out.join (hso2.out _ hy3) (by have := HUB.out; omega)
                          have hlt2 := untold_cons m K _ (HCN.out.thr HL.out) hy4
                          have HUT2 : Hid (true = true → untold m ([(a : Int), (b : Int), (u : Int)] :: K) < u0) := fun _ => by have := hul.out; omega
                          have HUL2 : Hid (untold m ([(a : Int), (b : Int), (u : Int)] :: K) ≤ u0) := by have := hul.out; simp only [Hid]; omega
                          have HIN3 : Hid (∀ t ∈ L, t ∈ [(a : Int), (b : Int), (u : Int)] :: K) := fun t ht => List.mem_cons_of_mem _ (hin2.out t ht)
                          have HSO3 : Hid (∀ t ∈ [(a : Int), (b : Int), (u : Int)] :: K, Cl L t) := fun t ht => by
                            rcases List.mem_cons.1 ht with rfl | ht
                            · exact HCN.out
                            · exact hso2.out t ht
                          clear hy3 hy4 hlt2
                          go_wp2_with fail
                          refine Calls.mono (HC3.out _) ?_
                          rintro e w' ⟨rfl, rfl⟩
                          go_wp2_with fail
                          refine Calls.mono (HC4.out _) ?_
                          rintro e w' ⟨rfl, rfl⟩
                          go_wp2_with fail
                          refine Calls.mono (HC4.out _) ?_
                          rintro e w' ⟨rfl, rfl⟩
                          go_wp2
                          go_roundw
                          case rel => exact ⟨u + 1, true, [(a : Int), (b : Int), (u : Int)] :: K, by omega, by go_num, rfl, HS4, HIN3, HSO3, Lib.hid (fun e => by cases e), Lib.hid (fun _ => by first | exact HUT2.out rfl | exact HUT2.out trivial), HUL2, Lib.hid (hge.out.set (by omega) _ _), Lib.hid (hbl.out.setCell (Nat.le_refl _) _)⟩
                          case measure => simp [intOf]; omega
                      · rw [decide_eq_false hy3] at m3
                        have HY3 := Lib.hid hy3
                        clear hy3
                        have HST : Hid (gr = false → (∀ p, p < j → Clo1 K (rowK E p) m) ∧ Clo1 K [(a : Int), (b : Int), (c' : Int)] (u + 1)) := fun e => ⟨(hcl.out e).1, clo_step (hcl.out e).2 (fun _ _ _ h => absurd h HY3.out)⟩
                        go_wp2_with fail
                        refine Calls.mono (HC3.out _) ?_
                        rintro e w' ⟨rfl, rfl⟩
                        go_wp2
                        go_roundw
                        case rel => exact ⟨u + 1, gr, K, by omega, by go_num, rfl, hmk, hin2, hso2, HST, hut, hul, hge, hbl⟩
                        case measure => simp [intOf]; omega
                    · obtain rfl : u = m := by omega
                      have HST : Hid (gr = false → ∀ p, p < j + 1 → Clo1 K (rowK E p) u) := fun e p hp => by
                        rcases Nat.lt_succ_iff_lt_or_eq.1 hp with hp | rfl
                        · exact (hcl.out e).1 p hp
                        · rw [HET.out]; exact (hcl.out e).2
                      clear hcl
                      go_wp2
                      go_roundw
                      case rel => exact ⟨j + 1, gr, K, by omega, by go_num, rfl, hmk, hin2, hso2, HST, hut, hul, hge, hbl⟩
                      case measure => simp [intOf]; omega
              · rw [decide_eq_false hy1] at m1
                have HY1 := Lib.hid hy1
                clear hy1 m2 f2 HS2
                have HST : Hid (gr = false → ∀ p, p < j + 1 → Clo1 K (rowK E p) m) := fun e p hp => by
                  rcases Nat.lt_succ_iff_lt_or_eq.1 hp with hp | rfl
                  · exact hcl.out e p hp
                  · rw [HET.out]; exact clo_not HY1.out m
                clear hcl
                go_wp2_with fail
                refine Calls.mono (HC1.out _) ?_
                rintro e w' ⟨rfl, rfl⟩
                go_wp2
                go_roundw
                case rel => exact ⟨j + 1, gr, K, by omega, by go_num, rfl, hmk, hin2, hso2, HST, hut, hul, hge, hbl⟩
                case measure => simp [intOf]; omega
            · obtain rfl : j = z := by omega
              have HALL : Hid (gr = false → ∀ t ∈ everyL m, Clo1 K t m) := fun e t ht => by
                rw [← HEE.out] at ht
                obtain ⟨p, hp, ep⟩ := List.getElem_of_mem ht
                have := hcl.out e p (by rw [HZ.out]; exact hp)
                rw [← ep]
                have e2 : rowK E p = E[p] := by simp [rowK, List.getD, hp]
                rw [← e2]; exact this
              go_wp2
              go_roundg (2 * untold m K + (if gr = true then 1 else 0))
              case measure =>
                have h1 := hq.out
                have h2 := hut.out
                have h3 := hul.out
                simp only [if_true] at h1
                cases gr with
                | true => have := h2 rfl; simp; omega
                | false => simp; omega
              case rel => exact ⟨gr, K, rfl, Lib.hid rfl, hmk, hin2, hso2, HALL, hbl⟩
end Go.Proofs.Ytdndddlikdccgaa

namespace Go.Proofs.Ytdndddlikdccgaa
open Go.ChangeShapes Go.WideShapes Go.ChangeAt Go.RowKit

noncomputable def clR (q : Int) (L : List (List Int)) : List (List Int) := if Tel q L then cloL q.toNat L else []
open Classical in
noncomputable def clashB (n : Nat) (L : List (List Int)) : Bool := (cloL n L).any fun t => decide (Cl L (turn3 t))
noncomputable def chB (q : Int) (L : List (List Int)) : Bool := if Tel q L then clashB q.toNat L else false

theorem cloL_of {n : Nat} {L K : List (List Int)} (h : ∀ t, t ∈ K ↔ Cl L t) : ((everyL n).filter fun t => decide (t ∈ K)) = cloL n L := by
  unfold cloL
  refine List.filter_congr fun t _ => ?_
  rw [Bool.eq_iff_iff]
  simp [h t]
theorem clashB_of {n : Nat} {L K : List (List Int)} (h : ∀ t, t ∈ K ↔ Cl L t) : (((everyL n).filter fun t => decide (t ∈ K)).any fun t => decide (turn3 t ∈ K)) = clashB n L := by
  rw [cloL_of h, clashB]
  congr 1
  funext t
  rw [Bool.eq_iff_iff]
  simp [h (turn3 t)]
theorem cloL_len (n : Nat) (L : List (List Int)) (h : n ≤ 7) : (cloL n L).length ≤ 343 := by
  unfold cloL
  exact Nat.le_trans (List.length_filter_le _ _) (everyL_len n h)
theorem cloL_row (n : Nat) (L : List (List Int)) : ∀ l ∈ cloL n L, l.length = 3 := fun l hl => ((every_thr n l).1 (List.mem_filter.1 hl).1).1
theorem any_step (p : List Int → Bool) (R : List (List Int)) (k : Nat) (h : k < R.length) : (R.take (k + 1)).any p = ((R.take k).any p || p (rowK R k)) := by
  rw [List.take_succ_eq_append_getElem h, List.any_append]
  simp [rowK, List.getD, h]
theorem any_yes (p : List Int → Bool) (R : List (List Int)) (k : Nat) (h : k < R.length) (hp : p (rowK R k) = true) : R.any p = true := List.any_eq_true.2 ⟨_, rowK_mem h, hp⟩

set_option maxRecDepth 10000 in
set_option maxHeartbeats 2000000 in
theorem clash_any (n mb : Nat) (K : List (List Int)) (w : World) (h7 : n ≤ 7) (hm : MapK w mb K) :
    Calls Try.prog 62 #[.map (some mb), .int .i64 (n : Int)] w fun e w' => ∃ P : List Int, P.length = 3 ∧ e = .returned (.tuple #[.agg (ints P).toArray, .bool (((everyL n).filter fun t => decide (t ∈ K)).any fun t => decide (turn3 t ∈ K))]) ∧ Below w.heap.size w w' := by
  obtain ⟨W0, hW0⟩ : ∃ W, W = w.alloc (.cells (ints zero3).toArray 47) := ⟨_, rfl⟩
  have ht0 : Hid (Tri W0 w.heap.size zero3) := by rw [hW0]; exact Blk.new w _
  have hm0 : MapK W0 mb K := by rw [hW0]; exact hm.alloc _
  have hb0 : Hid (Below w.heap.size w W0) := by rw [hW0]; exact (Below.refl _ _).alloc (Nat.le_refl _) _
  have hmb := hm.lt
  have hs0 : W0.heap.size = w.heap.size + 1 := by rw [hW0]; simp
  have HSO := Lib.hid (sorted_any n mb K W0 h7 hm0)
  have HM0 := Lib.hid hm0
  obtain ⟨S, hS⟩ : ∃ S, S = (everyL n).filter fun t => decide (t ∈ K) := ⟨_, rfl⟩
  have HSL : Hid (S.length ≤ 343) := by
    rw [Hid, hS]
    have h1 := List.length_filter_le (fun t => decide (t ∈ K)) (everyL n)
    have h2 := everyL_len n h7
    omega
  have HST : Hid (∀ t ∈ S, Thr (n : Int) t) := by rw [Hid, hS]; intro t ht; exact (every_thr n t).1 (List.mem_filter.1 ht).1
  rw [← hS] at HSO ⊢
  clear hS hm hm0
  obtain ⟨r, hrr⟩ : ∃ r, r = S.any fun t => decide (turn3 t ∈ K) := ⟨_, rfl⟩
  have HRB := Lib.hid hrr
  rw [← hrr]
  clear hrr
  simp only [zero3, ints, List.map_cons, List.map_nil] at hW0
  go_enter Try.func62, Try.ntmps62
  go_wp2_with fail
  rw [← hW0]
  clear hW0
  refine HSO.out.mono ?_
  rintro e w1 ⟨v1, rfl, hr1, hb1⟩
  obtain ⟨A, c, rfl⟩ := hr1.slice
  have HT1 := Lib.hid (ht0.out.below hb1 (by omega))
  have HM1 := Lib.hid (HM0.out.below hb1 (by omega))
  have HB1 := Lib.hid (hb0.out.trans (hb1.mono (by omega)))
  have HR1 : Hid (RowN w1 (w.heap.size + 1) 47 3 (.slice A S.length c) S) := by rw [← hs0]; exact hr1
  clear hr1 hb1 ht0 HM0 hb0 HSO hs0
  obtain ⟨z, hz⟩ : ∃ z, z = S.length := ⟨_, rfl⟩
  have HZ := Lib.hid hz
  have HZ2 : Hid (z ≤ 343) := by rw [Hid, hz]; exact HSL.out
  rw [← hz] at HR1 ⊢
  clear hz
  have hz343 := HZ2.out
  generalize hB : w.heap.size = B at *
  have HB := Lib.hid hB
  clear hB
  go_wp2_with fail
  go_loopw [12] (fun i wr => ∃ k : Nat, k ≤ z ∧ i = .int .i64 k ∧ Hid ((S.take k).any (fun t => decide (turn3 t ∈ K)) = false) ∧ Hid (RowN wr (B + 1) 47 3 (.slice A z c) S) ∧ Hid (MapK wr mb K) ∧ Hid (Tri wr B zero3) ∧ Hid (Below B w wr)) (fun i _ => z - (intOf i).toNat)
  case atStart => exact ⟨0, Nat.zero_le _, rfl, Lib.hid (by simp), HR1, HM1, HT1, HB1⟩
  case round =>
    obtain ⟨k, hk, rfl, hno, hrw, hmk, htr, hbl⟩ := hrel
    clear HR1 HM1 HT1 HB1
    have hBw := htr.out.lt
    have hmw := hmk.out.lt
    by_cases hlt : k < z
    · have hkl : k < S.length := by rw [← HZ.out]; exact hlt
      have HKL := Lib.hid hkl
      obtain ⟨g, c', e0, hgB, hgs, _, _, _, _⟩ := hrw.out.elem hkl
      rw [← HZ.out] at e0
      injection e0 with e1 _ e3
      subst e3
      subst e1
      have hth := HST.out _ (rowK_mem hkl)
      obtain ⟨x, y, u, e⟩ := of_three hth.1
      have HE := Lib.hid e
      rw [e] at hth
      have hth2 : Thr (n : Int) [x, u, y] := by
        rw [thr3] at hth ⊢
        obtain ⟨h1, h2, h3, h4, h5, h6⟩ := hth
        exact ⟨h1, h3, h2, h5, h4, Ne.symm h6⟩
      have HSM := Lib.hid (thr_sm hth2 h7)
      have HAS := Lib.hid (any_step (fun t => decide (turn3 t ∈ K)) S k hkl)
      have HAY := Lib.hid (any_yes (fun t => decide (turn3 t ∈ K)) S k hkl)
      rw [e] at HAS HAY
      have e3 : turn3 [x, y, u] = [x, u, y] := rfl
      rw [e3] at HAS HAY
      clear e e3 hth hth2 hkl
      have HNT := Lib.hid (Blk.new (t := 47) wr [0, 0, 0])
      cases hr : decide ([x, u, y] ∈ K) with
      | true =>
        have HDEC : Hid (decide ([x, u, y] ∈ K) = true) := hr
        have HY := Lib.hid (HAY.out hr)
        clear hr HAY HAS
        go_wp2_with (first
          | (refine load_elem rfl _ 47 rfl _ rfl Try.underlying47 g z c (B + 1) k 3 S hrw HKL.out three_size rfl ?_; rw [HE.out])
          | (refine store_tri rfl _ _ rfl wr.heap.size zero3 [x, y, u] rfl rfl rfl rfl HNT ?_; intro w6 HB6 hg6 hs6; have h6 : Hid (Below wr.heap.size wr w6) := Lib.hid (((Below.refl _ _).alloc (Nat.le_refl _) _).grown hg6 (by simp) (by simp)))
          | (refine load_tri rfl _ rfl wr.heap.size [x, y, u] rfl rfl HB6 ?_)
          | (go_at_call 51; refine (tback_any x y u _).mono ?_; rintro e w7 ⟨rfl, hb7⟩; have h7' : Hid (Below wr.heap.size wr w7) := Lib.hid (h6.out.trans (hb7.mono h6.out.size)); have HM7 := Lib.hid (hmk.out.below h7'.out hmw); have HT7 := Lib.hid (HB6.out.below hb7 HB6.out.lt); have HR7 := Lib.hid (htr.out.below h7'.out hBw))
          | (refine look_op rfl _ _ rfl mb K [x, u, y] HSM.out rfl rfl HM7 ?_; rw [HDEC.out])
          | (refine load_tri rfl _ rfl wr.heap.size [x, y, u] rfl rfl HT7 ?_)
          | (refine store_tri rfl _ _ rfl B zero3 [x, y, u] rfl rfl rfl rfl HR7 ?_; intro w9 HB9 hg9 hs9))
        have HW7 := Lib.hid (hbl.out.trans (h7'.out.mono (Nat.le_of_lt hBw)))
        have hz7 := h7'.out.size
        exact ret_tri2 rfl B [x, y, u] rfl rfl HB9 rfl ⟨[x, y, u], rfl, by rw [HRB.out, HY.out]; rfl, by rw [HB.out]; exact HW7.out.grown hg9 (by omega) (fun k hk => by injection hk; omega)⟩
      | false =>
        have HDEC : Hid (decide ([x, u, y] ∈ K) = false) := hr
        have HN : Hid ((S.take (k + 1)).any (fun t => decide (turn3 t ∈ K)) = false) := by rw [Hid, HAS.out, hno.out, hr]; rfl
        clear hr HAY HAS
        go_wp2_with (first
          | (refine load_elem rfl _ 47 rfl _ rfl Try.underlying47 g z c (B + 1) k 3 S hrw HKL.out three_size rfl ?_; rw [HE.out])
          | (refine store_tri rfl _ _ rfl wr.heap.size zero3 [x, y, u] rfl rfl rfl rfl HNT ?_; intro w6 HB6 hg6 hs6; have h6 : Hid (Below wr.heap.size wr w6) := Lib.hid (((Below.refl _ _).alloc (Nat.le_refl _) _).grown hg6 (by simp) (by simp)))
          | (refine load_tri rfl _ rfl wr.heap.size [x, y, u] rfl rfl HB6 ?_)
          | (go_at_call 51; refine (tback_any x y u _).mono ?_; rintro e w7 ⟨rfl, hb7⟩; have h7' : Hid (Below wr.heap.size wr w7) := Lib.hid (h6.out.trans (hb7.mono h6.out.size)); have HM7 := Lib.hid (hmk.out.below h7'.out hmw); have HT7 := Lib.hid (HB6.out.below hb7 HB6.out.lt); have HR7 := Lib.hid (htr.out.below h7'.out hBw))
          | (refine look_op rfl _ _ rfl mb K [x, u, y] HSM.out rfl rfl HM7 ?_; rw [HDEC.out]))
        have HW7 := Lib.hid (hbl.out.trans (h7'.out.mono (Nat.le_of_lt hBw)))
        have HRW7 := Lib.hid (hrw.out.below h7'.out (fun i hi => (hrw.out.lt i hi).2))
        go_wp2
        go_roundw
        case rel => exact ⟨k + 1, by omega, by go_num, HN, HRW7, HM7, HR7, HW7⟩
        case measure => simp [intOf]; omega
    · obtain rfl : k = z := by omega
      have e : S.take k = S := List.take_of_length_le (by rw [HZ.out]; omega)
      have hno' := hno.out
      rw [e] at hno'
      have HN := Lib.hid hno'
      clear e hno' hno
      go_wp2_with (refine store_tri rfl _ _ rfl B zero3 zero3 rfl rfl rfl rfl htr ?_; intro w9 HB9 hg9 hs9)
      exact ret_tri2 rfl B zero3 rfl rfl HB9 rfl ⟨zero3, rfl, by rw [HRB.out, HN.out]; rfl, by rw [HB.out]; exact hbl.out.grown hg9 (by omega) (fun k hk => by injection hk; omega)⟩

set_option maxHeartbeats 1000000 in
theorem clI_any (A : Option Addr) (n c H : Nat) (q : Int) (L : List (List Int)) (w : World) (h : RdS w H A n L) (hH : H ≤ w.heap.size) (_ : tot L ≤ 1048576) :
    Calls Try.prog 18 #[.int .i64 q, .slice A n c] w fun e w' => ∃ v, e = .returned (.tuple #[v, .bool (tel q L)]) ∧ OwnS w' w.heap.size w'.heap.size v (clR q L) ∧ Below w.heap.size w w' := by
  have HC := Lib.hid (readThrees_any A n c H L q w h hH)
  by_cases ht : Tel q L
  · obtain ⟨k, rfl, h3, h6⟩ := tel_nat ht
    have HTY := Lib.hid (tel_yes ht).1
    have HT := Lib.hid ht
    have HSU : Hid (clR (k : Int) L = cloL k L) := by rw [Hid, clR, if_pos ht, Int.toNat_natCast]
    have HSLEN : Hid ((cloL k L).length ≤ 1000) := by have := cloL_len k L (by omega); simp only [Hid]; omega
    rw [(tel_yes ht).1, (tel_yes ht).2] at HC
    rw [HTY.out]
    clear h hH ht
    go_enter Try.func18, Try.ntmps18
    go_wp2_with fail
    refine HC.out.mono ?_
    rintro e w1 ⟨v1, rfl, hr1, hb1⟩
    have HG := Lib.hid (closed_any k v1 w.heap.size L w1 hr1 HT.out.2.2.2 (by have := HT.out.2.2.1; omega) h6)
    clear hr1 HC
    go_wp2_with fail
    refine HG.out.mono ?_
    rintro e w2 ⟨K, rfl, hm2, hk2, hb2⟩
    have hs2 := Nat.le_trans hb1.size hb2.size
    have HSH := Lib.hid (sorted_any k w1.heap.size K w2 (by omega) hm2)
    rw [cloL_of hk2] at HSH
    clear hm2 hk2
    go_wp2_with fail
    refine HSH.out.mono ?_
    rintro e w3 ⟨v3, rfl, hr3, hb3⟩
    have HTL := Lib.hid (threeLists_any v3 _ (cloL k L) w3 hr3 HSLEN.out)
    have hs3 := Nat.le_trans hs2 hb3.size
    clear hr3
    go_wp2_with fail
    refine HTL.out.mono ?_
    rintro e w6 ⟨rfl, ho6, hb6⟩
    go_wp2
    go_ret2
    refine ⟨.slice (some ⟨w3.heap.size, 0, none⟩) (cloL k L).length (cloL k L).length, rfl, ?_, ((hb1.trans (hb2.mono hb1.size)).trans (hb3.mono hs2)).trans (hb6.mono hs3)⟩
    rw [HSU.out]
    exact ho6.more hs3 (Nat.le_refl _)
  · have HTY := Lib.hid (tel_no ht).1
    have HSU : Hid (clR q L = []) := by rw [Hid, clR, if_neg ht]
    rw [(tel_no ht).1] at HC
    rw [HTY.out]
    clear h hH ht
    go_enter Try.func18, Try.ntmps18
    go_wp2_with (go_at_call 48; refine HC.out.mono ?_; rintro e w1 ⟨v1, rfl, _, hb1⟩)
    go_ret2
    exact ⟨.slice none 0 0, rfl, by rw [HSU.out]; exact .inl ⟨rfl, rfl⟩, hb1⟩

set_option maxRecDepth 10000 in
set_option maxHeartbeats 1000000 in
theorem chI_any (A : Option Addr) (n c H : Nat) (q : Int) (L : List (List Int)) (w : World) (h : RdS w H A n L) (hH : H ≤ w.heap.size) (_ : tot L ≤ 1048576) :
    Calls Try.prog 25 #[.int .i64 q, .slice A n c] w fun e w' => e = .returned (.bool (chB q L)) ∧ Below w.heap.size w w' := by
  have HC := Lib.hid (readThrees_any A n c H L q w h hH)
  by_cases ht : Tel q L
  · obtain ⟨k, rfl, h3, h6⟩ := tel_nat ht
    have HT := Lib.hid ht
    have HSU : Hid (chB (k : Int) L = clashB k L) := by rw [Hid, chB, if_pos ht, Int.toNat_natCast]
    rw [(tel_yes ht).1, (tel_yes ht).2] at HC
    rw [HSU.out]
    obtain ⟨r, hr⟩ : ∃ r, r = clashB k L := ⟨_, rfl⟩
    have HRC := Lib.hid hr
    rw [← hr]
    clear h hH ht hr
    go_enter Try.func25, Try.ntmps25
    go_wp2_with fail
    refine HC.out.mono ?_
    rintro e w1 ⟨v1, rfl, hr1, hb1⟩
    have HG := Lib.hid (closed_any k v1 w.heap.size L w1 hr1 HT.out.2.2.2 (by have := HT.out.2.2.1; omega) h6)
    clear hr1 HC
    go_wp2_with fail
    refine HG.out.mono ?_
    rintro e w2 ⟨K, rfl, hm2, hk2, hb2⟩
    have hs2 := Nat.le_trans hb1.size hb2.size
    have HSH := Lib.hid (clash_any k w1.heap.size K w2 (by omega) hm2)
    rw [clashB_of hk2, ← HRC.out] at HSH
    clear hm2 hk2
    go_wp2_with fail
    refine HSH.out.mono ?_
    rintro e w3 ⟨P, hP, rfl, hb3⟩
    have HP := Lib.hid hP
    have hs3 := Nat.le_trans hs2 hb3.size
    have HNT := Lib.hid (Blk.new (t := 47) w3 [0, 0, 0])
    clear hP
    go_wp2_with (refine store_tri rfl _ _ rfl w3.heap.size zero3 P rfl HP.out rfl rfl HNT ?_; intro w6 HB6 hg6 hs6)
    go_ret
    exact ⟨rfl, (((hb1.trans (hb2.mono hb1.size)).trans (hb3.mono hs2)).alloc (by omega) _).grown hg6 (by simp; omega) (fun k hk => by injection hk; omega)⟩
  · have HSU : Hid (chB q L = false) := by rw [Hid, chB, if_neg ht]
    rw [(tel_no ht).1] at HC
    rw [HSU.out]
    clear h hH ht
    go_enter Try.func25, Try.ntmps25
    go_wp2_with (go_at_call 48; refine HC.out.mono ?_; rintro e w1 ⟨v1, rfl, _, hb1⟩)
    go_ret
    exact ⟨rfl, hb1⟩
end Go.Proofs.Ytdndddlikdccgaa

namespace Go.Proofs.Ytdndddlikdccgaa
open Go.ChangeShapes Go.WideShapes Go.ChangeAt Go.RowKit

theorem Mk.far {w w5 : World} {g D n : Nat} {K : List (List Int)} {v : Value} {xs : List Value} {o : Obj} (h : Mk w g K) (ho : w.ownsRow D 32 1 v n xs) (hg : (w.alloc o).grownBy w5 v.ownBlock) : Mk w5 g K := by
  refine h.same ?_
  rw [hg.block g (by have := h.lt; simp; omega) ?_, Below.heap_alloc w o g h.lt]
  intro e
  obtain ⟨P, _, hb, _⟩ := h
  rcases ho.2 with ⟨rfl, _⟩ | ⟨g', cap, cur, rfl, _, hgg, _⟩
  · cases e
  · have e1 : g = g' := Option.some.inj e
    subst e1
    rw [hb] at hgg
    simp at hgg
theorem clR_tot (q : Int) (L : List (List Int)) : tot (clR q L) ≤ 1048576 := by
  unfold clR
  split
  · rename_i h
    have h6 := h.2.1
    have h1 := cloL_len q.toNat L (by omega)
    have h2 := sumTo_small (cloL q.toNat L) (fun l hl => by rw [cloL_row _ _ l hl]; omega) (cloL q.toNat L).length (Nat.le_refl _)
    unfold tot; omega
  · simp [tot, sumTo]

set_option maxRecDepth 10000 in
set_option maxHeartbeats 4000000 in
theorem clS_any (A : Option Addr) (n c H : Nat) (q : Int) (L : List (List Int)) (w : World) (h : RdS w H A n L) (hH : H ≤ w.heap.size) (hn : tot L ≤ 1048576) :
    Calls Try.prog 19 #[.int .i64 q, .slice A n c] w fun e w' => ∃ v, e = .returned (.tuple #[v, .bool (tel q L)]) ∧ (∃ A c, v = .slice A (clR q L).length c ∧ RdS w' w'.heap.size A (clR q L).length (clR q L)) ∧ Below w.heap.size w w' := by
  obtain ⟨i0, hi, hz0, hz1, hz2⟩ := info_parts row_info
  have hnb : n ≤ 1048576 := by have := h.len; unfold tot at hn; omega
  have HN := Lib.hid h.len
  have HC := Lib.hid (fun W (hR : RdS W H A n L) => telS_any A n c H L q W hR hnb)
  have hg0 : Hid (GrowS (w.alloc (.cells #[] 32)) w.heap.size (.slice (some ⟨w.heap.size, 0, none⟩) 0 0) []) := GrowS.empty w (Nat.le_refl _)
  have hb0 : Below w.heap.size w (w.alloc (.cells #[] 32)) := (Below.refl _ _).alloc (Nat.le_refl _) _
  have hr0 := Lib.hid (h.below (hb0.mono hH))
  clear h hn
  go_enter Try.func19, Try.ntmps19
  go_wp2_with fail
  generalize w.alloc (.cells #[] 32) = W0 at *
  refine (HC.out W0 hr0.out).mono ?_
  rintro e w1 ⟨rfl, p0, rfl⟩
  by_cases ht : Tel q L
  · obtain ⟨m, rfl, h3, h6⟩ := tel_nat ht
    have HTY := Lib.hid (tel_yes ht).1
    have HSU : Hid (clR (m : Int) L = cloL m L) := by rw [Hid, clR, if_pos ht, Int.toNat_natCast]
    have HT := Lib.hid ht
    have HEL := everyL_len m (by omega)
    rw [(tel_yes ht).1]
    clear ht HC
    have hg1 := Lib.hid (hg0.out.drewN p0)
    have hr1 := Lib.hid (hr0.out.drewN p0)
    have hb1 := below_drewN hb0 p0
    clear hg0 hr0 hb0
    generalize W0.drewN p0 = W1 at *
    go_wp2_with fail
    refine (closedS_any A n c H m L W1 hr1.out (by have := hb1.size; omega) h3 h6 (by rw [← HN.out]; exact HT.out.2.2.1) HT.out.2.2.2).mono ?_
    rintro e w2 ⟨rfl, ⟨K, hmk, hK⟩, hb2⟩
    obtain ⟨G, hG⟩ : ∃ G, G = W1.heap.size := ⟨_, rfl⟩
    rw [← hG] at hmk hb2 ⊢
    have HM2 := Lib.hid hmk
    have HKK := Lib.hid hK
    have HG2 := Lib.hid (hg1.out.below hb2 (by omega))
    have HB2 := Lib.hid (hb1.trans (hb2.mono (by have := hb1.size; omega)))
    clear hmk hK hb2 hg1 hr1 hb1 hG
    have HSF := Lib.hid (cloL_of (n := m) HKK.out)
    go_wp2_with fail
    refine (l2Every_any m w2 (by omega)).mono ?_
    rintro e w3 ⟨ve, rfl, hge, hb3⟩
    obtain ⟨Ae, ce, rfl, _⟩ := hge.slice
    have HG3 := Lib.hid (HG2.out.below hb3 (Nat.le_refl _))
    have HM3 := Lib.hid (HM2.out.below hb3 HM2.out.lt)
    have HE3 := Lib.hid (hge.less HB2.out.size)
    have HAPE : Hid (Apart (.slice Ae (everyL m).length ce) (.slice (some ⟨w.heap.size, 0, none⟩) 0 0)) := fun i hi e => by
      have h1 := (hge.blk i hi).1
      have h2 := (HG2.out.blk w.heap.size rfl).2
      simp [Value.ownBlock] at e
      omega
    have HB3 := Lib.hid (HB2.out.trans (hb3.mono HB2.out.size))
    clear hge hb3 HG2 HM2 HB2
    obtain ⟨z, hz⟩ : ∃ z, z = (everyL m).length := ⟨_, rfl⟩
    have HZ := Lib.hid hz
    rw [← hz] at HE3 HAPE HEL ⊢
    clear hz
    generalize hB : w.heap.size = B at *
    have HB := Lib.hid hB
    clear hB
    go_wp2_with fail
    go_loopw [6, 9] (fun v i wr => ∃ k : Nat, k ≤ z ∧ i = .int .i64 k ∧ Hid (GrowS wr B v (pickTo (fun t => decide (t ∈ K)) (everyL m) k)) ∧ Hid (GrowS wr B (.slice Ae z ce) (everyL m)) ∧ Hid (Apart (.slice Ae z ce) v) ∧ Hid (Mk wr G K) ∧ Below B w wr) (fun _ i _ => z - (intOf i).toNat)
    case atStart => exact ⟨0, Nat.zero_le _, rfl, HG3, HE3, HAPE, HM3, HB3.out⟩
    case round =>
      obtain ⟨k, hk, rfl, hgs, hge, hap, hmk, hbl⟩ := hrel
      clear HG3 HE3 HAPE HM3 HB3
      have HBL := Lib.hid hbl
      have hBw : B ≤ wr.heap.size := by rw [← HB.out]; exact hbl.size
      clear hbl
      by_cases hlt : k < z
      · have hkl : k < (everyL m).length := by rw [← HZ.out]; exact hlt
        obtain ⟨g, c', A', d', e0, hc, hrow⟩ := hge.out.row hkl
        rw [← HZ.out] at e0
        injection e0 with e1 _ e3
        subst e3
        subst e1
        have hthr := (every_thr m _).1 (rowK_mem hkl)
        have HYES := Lib.hid (pickTo_yes (p := fun t => decide (t ∈ K)) hkl)
        have HNO := Lib.hid (pickTo_no (p := fun t => decide (t ∈ K)) hkl)
        have HROW := Lib.hid hrow
        have hpl := pickTo_len (fun t => decide (t ∈ K)) (everyL m) k
        obtain ⟨x, y, u, e, hx, hy, hu, _⟩ := thr_nat hthr
        rw [e] at HROW HYES HNO hc
        obtain ⟨b', o', eA, hbH, c0, c1, c2⟩ := rd3 HROW.out.1.rd.2
        subst eA
        change wr.cell? ⟨g, k, none⟩ = some (.slice (some ⟨b', o', none⟩) 3 d') at hc
        obtain ⟨q1, hq1⟩ : ∃ q, q = codeN x y u := ⟨_, rfl⟩
        have l1 : q1 < 216 := by rw [hq1]; exact codeN_lt (by omega) (by omega) (by omega)
        have HC1 := Lib.hid (fun W => code_any x y u W (by omega) (by omega) (by omega))
        have m1 := hmk.out.cell (a := x) (b := y) (c := u) (by omega) (by omega) (by omega)
        rw [← hq1] at HC1 m1
        have HCE := Lib.hid hc
        clear hkl hrow hthr e hq1
        cases hr : decide ([(x : Int), (y : Int), (u : Int)] ∈ K) with
        | true =>
          rw [hr] at m1
          have HST := Lib.hid (HYES.out hr)
          clear hr HYES HNO
          go_wp2
          go_quiet (refine Calls.quiet_of_same (HC1.out _))
          have hce : (wr.drewN nq).cell? ⟨g, k, none⟩ = some (.slice (some ⟨b', o', none⟩) 3 d') := HCE.out
          have hG2 := Lib.hid (hgs.out.drewN nq)
          have hE2 := Lib.hid (hge.out.drewN nq)
          have hV2 : Hid (RowV (wr.drewN nq) B (.slice (some ⟨b', o', none⟩) 3 d') [(x : Int), (y : Int), (u : Int)]) := Lib.hid (HROW.out.same fun _ _ => rfl)
          have hM2 := Lib.hid (hmk.out.drewN nq)
          have hB2 := Lib.hid (below_drewN HBL.out nq)
          have hBw2 : B ≤ (wr.drewN nq).heap.size := hBw
          clear hgs hge hmk HROW HBL hBw hc HCE c0 c1 c2 m1
          generalize wr.drewN nq = w2 at *
          obtain ⟨xs, hx1, hx2⟩ := hG2.out
          have HX1 := Lib.hid hx1
          have HX2 := Lib.hid hx2
          clear hx1 hx2 hG2
          go_wp2_with (at_builtin; refine wpList_append_own_at _ rfl _ _ 23 rfl B 32 i0 (.slice none 0 0) 1 24 Try.underlying23 hi hz0 hz1 hz2 rfl (by decide) _ _ _ rfl (HX1.out.alloc _) ⟨w2.heap.size, 0, none⟩ 1 1 [.slice (some ⟨b', o', none⟩) 3 d'] rfl rfl (one_cell w2 _ _) (by simp [Value.oneCell']) (by unfold maxLen; omega) (by omega) (by simp; omega) ?_)
          intro v' w5 hown5 hgr5 _ hat5
          have HG5 := Lib.hid (grow_row rfl HX1.out HX2.out hV2.out _ hown5 hgr5)
          rw [HST.out] at HG5
          have HE5 := Lib.hid (hE2.out.far HX1.out hgr5 hap.out)
          have HM5 := Lib.hid (hM2.out.far HX1.out hgr5)
          have HAP5 := Lib.hid (hap.out.next hE2.out hat5)
          have HB5 := Lib.hid ((hB2.out.alloc hBw2 _).grown hgr5 (by simp; omega) (fun i hi => (HX1.out.lt i hi).1))
          clear hown5 hgr5 hat5
          go_wp2
          go_roundw
          case rel => exact ⟨k + 1, by omega, by go_num, HG5, HE5, HAP5, HM5, HB5.out⟩
          case measure => simp [intOf]; omega
        | false =>
          rw [hr] at m1
          have HST := Lib.hid (HNO.out hr)
          rw [HST.out] at hgs
          clear hr HYES HNO
          go_wp2
          go_quiet (refine Calls.quiet_of_same (HC1.out _))
          go_wp2
          go_roundw
          case rel => exact ⟨k + 1, by omega, by go_num, Lib.hid (hgs.out.drewN nq), Lib.hid (hge.out.drewN nq), hap, Lib.hid (hmk.out.drewN nq), below_drewN HBL.out nq⟩
          case measure => simp [intOf]; omega
      · obtain rfl : k = z := by omega
        have hgs' := hgs.out
        rw [HZ.out, pickTo_full, HSF.out] at hgs'
        obtain ⟨A', d', e', _⟩ := hgs'.slice
        subst e'
        have HGS := Lib.hid hgs'
        clear hgs hgs'
        go_wp2
        go_ret2
        refine ⟨.slice A' (cloL m L).length d', by rw [HTY.out]; rfl, ?_, by rw [HB.out]; exact HBL.out⟩
        rw [HSU.out]
        exact ⟨A', d', rfl, HGS.out.rd.2⟩
  · have HTY := Lib.hid (tel_no ht).1
    have HSU : Hid (clR q L = []) := by rw [Hid, clR, if_neg ht]
    rw [(tel_no ht).1]
    clear ht HC
    go_wp2_with fail
    go_ret2
    refine ⟨.slice (some ⟨w.heap.size, 0, none⟩) 0 0, by rw [HTY.out]; rfl, ?_, below_drewN hb0 p0⟩
    rw [HSU.out]
    exact ⟨_, _, rfl, RdS.nil⟩

set_option maxRecDepth 10000 in
set_option maxHeartbeats 4000000 in
theorem chS_any (A : Option Addr) (n c H : Nat) (q : Int) (L : List (List Int)) (w : World) (h : RdS w H A n L) (hH : H ≤ w.heap.size) (hn : tot L ≤ 1048576) :
    Calls Try.prog 26 #[.int .i64 q, .slice A n c] w fun e w' => e = .returned (.bool (chB q L)) ∧ Below w.heap.size w w' := by
  have hnb : n ≤ 1048576 := by have := h.len; unfold tot at hn; omega
  have HN := Lib.hid h.len
  have HC := Lib.hid (fun W (hR : RdS W H A n L) => telS_any A n c H L q W hR hnb)
  have hr0 := Lib.hid h
  clear h hn
  obtain ⟨r0, hr00⟩ : ∃ r, r = chB q L := ⟨_, rfl⟩
  have HRR := Lib.hid hr00
  rw [← hr00]
  clear hr00
  go_enter Try.func26, Try.ntmps26
  go_wp2_with fail
  refine (HC.out w hr0.out).mono ?_
  rintro e w1 ⟨rfl, p0, rfl⟩
  by_cases ht : Tel q L
  · obtain ⟨m, rfl, h3, h6⟩ := tel_nat ht
    have HSU : Hid (r0 = clashB m L) := by rw [Hid, HRR.out, chB, if_pos ht, Int.toNat_natCast]
    have HT := Lib.hid ht
    have HEL := everyL_len m (by omega)
    rw [(tel_yes ht).1]
    clear ht HC HRR
    have hr1 := Lib.hid (hr0.out.drewN p0)
    have hb1 : Below w.heap.size w (w.drewN p0) := below_drewN (Below.refl _ _) p0
    have hs1 : (w.drewN p0).heap.size = w.heap.size := rfl
    clear hr0
    generalize w.drewN p0 = W1 at *
    go_wp2_with fail
    refine (closedS_any A n c H m L W1 hr1.out (by omega) h3 h6 (by rw [← HN.out]; exact HT.out.2.2.1) HT.out.2.2.2).mono ?_
    rintro e w2 ⟨rfl, ⟨K, hmk, hK⟩, hb2⟩
    rw [hs1] at hmk hb2 ⊢
    have HM2 := Lib.hid hmk
    have HB2 := Lib.hid (hb1.trans hb2)
    have HSF : Hid (r0 = (everyL m).any fun t => decide (t ∈ K) && decide (turn3 t ∈ K)) := by rw [Hid, HSU.out, ← clashB_of hK, List.any_filter]
    clear hmk hK hb2 hr1 hb1 hs1 HSU
    go_wp2_with fail
    refine (l2Every_any m w2 (by omega)).mono ?_
    rintro e w3 ⟨ve, rfl, hge, hb3⟩
    obtain ⟨Ae, ce, rfl, _⟩ := hge.slice
    have HM3 := Lib.hid (HM2.out.below hb3 HM2.out.lt)
    have HE3 := Lib.hid hge
    have HB3 := Lib.hid (HB2.out.trans (hb3.mono HB2.out.size))
    clear hge hb3 HM2
    obtain ⟨z, hz⟩ : ∃ z, z = (everyL m).length := ⟨_, rfl⟩
    have HZ := Lib.hid hz
    rw [← hz] at HE3 HEL ⊢
    clear hz
    generalize hB : w.heap.size = B at *
    have HB := Lib.hid hB
    clear hB
    go_wp2_with fail
    go_loopw [7] (fun i wr => ∃ k : Nat, k ≤ z ∧ i = .int .i64 k ∧ Hid (((everyL m).take k).any (fun t => decide (t ∈ K) && decide (turn3 t ∈ K)) = false) ∧ Hid (GrowS wr w2.heap.size (.slice Ae z ce) (everyL m)) ∧ Hid (Mk wr B K) ∧ Below B w wr) (fun i _ => z - (intOf i).toNat)
    case atStart => exact ⟨0, Nat.zero_le _, rfl, Lib.hid (by simp), HE3, HM3, HB3.out⟩
    case round =>
      obtain ⟨k, hk, rfl, hno, hge, hmk, hbl⟩ := hrel
      clear HE3 HM3 HB3
      have HBL := Lib.hid hbl
      clear hbl
      by_cases hlt : k < z
      · have hkl : k < (everyL m).length := by rw [← HZ.out]; exact hlt
        obtain ⟨g, c', A', d', e0, hc, hrow⟩ := hge.out.row hkl
        rw [← HZ.out] at e0
        injection e0 with e1 _ e3
        subst e3
        subst e1
        have hthr := (every_thr m _).1 (rowK_mem hkl)
        have HAS := Lib.hid (any_step (fun t => decide (t ∈ K) && decide (turn3 t ∈ K)) (everyL m) k hkl)
        have HAY := Lib.hid (any_yes (fun t => decide (t ∈ K) && decide (turn3 t ∈ K)) (everyL m) k hkl)
        obtain ⟨x, y, u, e, hx, hy, hu, _⟩ := thr_nat hthr
        rw [e] at HAS HAY hc hrow
        have e3 : turn3 [(x : Int), (y : Int), (u : Int)] = [(x : Int), (u : Int), (y : Int)] := rfl
        rw [e3] at HAS HAY
        obtain ⟨b', o', eA, hbH, c0, c1, c2⟩ := rd3 hrow.1.rd.2
        subst eA
        change wr.cell? ⟨g, k, none⟩ = some (.slice (some ⟨b', o', none⟩) 3 d') at hc
        have l1 : codeN x y u < 216 := codeN_lt (by omega) (by omega) (by omega)
        have l2 : codeN x u y < 216 := codeN_lt (by omega) (by omega) (by omega)
        have m1 := hmk.out.cell (a := x) (b := y) (c := u) (by omega) (by omega) (by omega)
        have m2 := hmk.out.cell (a := x) (b := u) (c := y) (by omega) (by omega) (by omega)
        clear hkl hrow hthr e e3
        cases hd1 : decide ([(x : Int), (y : Int), (u : Int)] ∈ K) with
        | false =>
          rw [hd1] at m1 HAS
          have HNN : Hid (((everyL m).take (k + 1)).any (fun t => decide (t ∈ K) && decide (turn3 t ∈ K)) = false) := by rw [Hid, HAS.out, hno.out]; rfl
          clear hd1 HAS HAY m2
          go_wp2
          go_quiet (refine Calls.quiet_of_same (code_any _ _ _ _ (by omega) (by omega) (by omega)))
          go_wp2
          go_roundw
          case rel => exact ⟨k + 1, by omega, by go_num, HNN, Lib.hid (hge.out.drewN nq), Lib.hid (hmk.out.drewN nq), below_drewN HBL.out nq⟩
          case measure => simp [intOf]; omega
        | true =>
          cases hd2 : decide ([(x : Int), (u : Int), (y : Int)] ∈ K) with
          | false =>
            rw [hd1] at m1 HAS
            rw [hd2] at m2 HAS
            have HNN : Hid (((everyL m).take (k + 1)).any (fun t => decide (t ∈ K) && decide (turn3 t ∈ K)) = false) := by rw [Hid, HAS.out, hno.out]; rfl
            clear hd1 hd2 HAS HAY
            go_wp2
            go_quiet (refine Calls.quiet_of_same (code_any _ _ _ _ (by omega) (by omega) (by omega)))
            go_wp2
            go_roundw
            case rel => exact ⟨k + 1, by omega, by go_num, HNN, Lib.hid (hge.out.drewN nq), Lib.hid (hmk.out.drewN nq), below_drewN HBL.out nq⟩
            case measure => simp [intOf]; omega
          | true =>
            rw [hd1] at m1
            rw [hd2] at m2
            have HYY : Hid (r0 = true) := by rw [Hid, HSF.out]; exact HAY.out (by rw [hd1, hd2]; rfl)
            clear hd1 hd2 HAS HAY
            go_wp2
            go_quiet (refine Calls.quiet_of_same (code_any _ _ _ _ (by omega) (by omega) (by omega)))
            go_wp2
            go_ret
            exact ⟨by rw [HYY.out]; rfl, by rw [HB.out]; exact below_drewN HBL.out nq⟩
      · obtain rfl : k = z := by omega
        have HNN : Hid (r0 = false) := by
          have := hno.out
          rw [List.take_of_length_le (by rw [← HZ.out]; omega)] at this
          rw [Hid, HSF.out, this]
        clear hno
        go_wp2
        go_ret
        exact ⟨by rw [HNN.out]; rfl, by rw [HB.out]; exact HBL.out⟩
  · have HSU : Hid (r0 = false) := by rw [Hid, HRR.out, chB, if_neg ht]
    rw [(tel_no ht).1]
    clear ht HC HRR
    go_wp2_with fail
    go_ret
    exact ⟨by rw [HSU.out]; rfl, below_drewN (Below.refl _ _) p0⟩
end Go.Proofs.Ytdndddlikdccgaa

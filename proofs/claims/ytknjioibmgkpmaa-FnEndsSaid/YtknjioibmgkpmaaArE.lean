/- The first and the last point of an arc: the model. -/
import Derived.Test.YtknjioibmgkpmaaArS
namespace Go.Proofs.Ytknjioibmgkpmaa
open Go.ChangeShapes Go.WideShapes Go.ChangeAt Go.RowKit

def firR (l : List Int) (s : Int) : Int := if arcB l s then firstA (hasN s.toNat) l else 0
def finR (l : List Int) (s : Int) : Int := if arcB l s then finA (hasN s.toNat) l else 0
theorem arc_set {l : List Int} {s : Int} (h : arcB l s = true) : SetL l s ∧ runN (hasN s.toNat) l = 1 := by
  simpa [arcB, setB] using h

set_option maxRecDepth 10000 in
set_option maxHeartbeats 2000000 in
theorem endsS_any (A : Option Addr) (n c H : Nat) (l : List Int) (s : Int) (w : World) (h : Rd w H A n l) (hn : n ≤ 1048576) :
    Calls Try.prog 15 #[.slice A n c, .int .i64 s] w fun e w' => e = .returned (.tuple #[.int .i64 (firR l s), .int .i64 (finR l s), .bool (arcB l s)]) ∧ w = w' := by
  have HS := Lib.hid (isS_any A n c H l s w h hn)
  cases ha : arcB l s with
  | false =>
    have E1 : Hid (firR l s = 0 ∧ finR l s = 0) := ⟨by rw [firR, ha]; rfl, by rw [finR, ha]; rfl⟩
    rw [E1.out.1, E1.out.2]
    rw [ha] at HS
    clear h ha E1
    go_enter Try.func15, Try.ntmps15
    go_wp2_with (go_at_call 17; refine HS.out.mono ?_; rintro e w' ⟨rfl, rfl⟩)
    go_ret3
    exact ⟨rfl, rfl⟩
  | true =>
    have hset := (arc_set ha).1
    obtain ⟨k0, rfl, hk0, h128⟩ := hset.nat
    have E1 : Hid (firR l (k0 : Int) = lastV (begs (hasN k0) l) (fun i => l.getD ((i + 1) % l.length) 0) n ∧ finR l (k0 : Int) = lastV (fins (hasN k0) l) (fun i => l.getD i 0) n) := ⟨by rw [firR, if_pos ha, firstA, Int.toNat_natCast, h.len], by rw [finR, if_pos ha, finA, Int.toNat_natCast, h.len]⟩
    rw [E1.out.1, E1.out.2]
    have HL := Lib.hid h.len
    have h1 : 1 ≤ n := by have := hset.1.1.1; rw [HL.out] at this; omega
    have h7 : n ≤ 7 := by have := hset.1.1.2.1; rw [HL.out] at this; omega
    have hbd := hset.bd
    have HP := Lib.hid (fun k (hk : k < n) => hbd _ (getD_mem l k (by rw [HL.out]; exact hk)))
    have HB := Lib.hid (fun x : Int => shr_bit k0 x h128)
    have HBG : Hid (∀ k, begs (hasN k0) l k = (!hasN k0 (l.getD k 0) && hasN k0 (l.getD ((k + 1) % n) 0))) := fun k => by rw [begs, HL.out]
    have HFN : Hid (∀ k, fins (hasN k0) l k = (hasN k0 (l.getD k 0) && !hasN k0 (l.getD ((k + 1) % n) 0))) := fun k => by rw [fins, HL.out]
    obtain ⟨F, hF⟩ : ∃ F, F = lastV (begs (hasN k0) l) (fun i => l.getD ((i + 1) % l.length) 0) := ⟨_, rfl⟩
    obtain ⟨G, hG⟩ : ∃ G, G = lastV (fins (hasN k0) l) (fun i => l.getD i 0) := ⟨_, rfl⟩
    have HF : Hid (∀ k, F (k + 1) = if begs (hasN k0) l k then l.getD ((k + 1) % n) 0 else F k) := fun k => by rw [hF, lastV, HL.out]
    have HG : Hid (∀ k, G (k + 1) = if fins (hasN k0) l k then l.getD k 0 else G k) := fun k => by rw [hG, lastV]
    have HF0 : Hid (F 0 = 0) := by rw [hF]; rfl
    have HG0 : Hid (G 0 = 0) := by rw [hG]; rfl
    rw [← hF, ← hG]
    rw [ha] at HS
    obtain ⟨b, o, rfl, hbH, hcs⟩ := h.at_ (by omega)
    have HCS := Lib.hid hcs
    clear h ha E1 hset hbd hk0 hF hG hcs
    go_enter Try.func15, Try.ntmps15
    go_wp2_with (go_at_call 17; refine HS.out.mono ?_; rintro e w' ⟨rfl, rfl⟩)
    go_loop [7, 8, 9] (fun u v i => ∃ k : Nat, k ≤ n ∧ u = .int .i64 (F k) ∧ v = .int .i64 (G k) ∧ i = .int .i64 k) (fun _ _ i => n - (intOf i).toNat)
    case atStart => exact ⟨0, Nat.zero_le _, by rw [HF0.out], by rw [HG0.out], rfl⟩
    case round =>
      obtain ⟨k, hk, rfl, rfl, rfl⟩ := hrel
      by_cases hlt : k < n
      · have hc := HCS.out k hlt
        have hmod : (k + 1) % n < n := Nat.mod_lt _ (by omega)
        have hc1 := HCS.out ((k + 1) % n) hmod
        have hx := HP.out k hlt
        have hy := HP.out ((k + 1) % n) hmod
        have hf := HF.out k
        have hg := HG.out k
        rw [HBG.out] at hf
        rw [HFN.out] at hg
        obtain ⟨hw1, htm, htn, hmo, hmi, hw2⟩ := next_place n k h1 h7 hlt
        have hnz : ¬ n = 0 := by omega
        generalize l.getD k 0 = x at *
        generalize l.getD ((k + 1) % n) 0 = y at *
        obtain ⟨hbx1, hbx0⟩ := HB.out x
        obtain ⟨hby1, hby0⟩ := HB.out y
        have hx0 := hx.1
        have hy0 := hy.1
        have hx7 := hx.2
        have hy7 := hy.2
        clear hx hy
        obtain ⟨f1, hf1⟩ : ∃ f1, f1 = F (k + 1) := ⟨_, rfl⟩
        obtain ⟨g1, hg1⟩ : ∃ g1, g1 = G (k + 1) := ⟨_, rfl⟩
        rw [← hf1] at hf
        rw [← hg1] at hg
        have HF1 := Lib.hid hf1
        have HG1 := Lib.hid hg1
        generalize F k = f at *
        generalize G k = g at *
        clear hf1 hg1
        cases hX : hasN k0 x <;> cases hY : hasN k0 y
        all_goals
          rw [hX] at hbx1 hbx0 hf hg
          rw [hY] at hby1 hby0 hf hg
          simp only [Bool.not_true, Bool.not_false, Bool.and_true, Bool.and_false, if_true, Bool.false_eq_true, if_false] at hbx1 hbx0 hby1 hby0 hf hg
          have HS1 := Lib.hid hf
          have HS2 := Lib.hid hg
          clear hf hg hX hY
          go_wp2_with fail
          go_round
          case rel => exact ⟨k + 1, by omega, by rw [← HF1.out, HS1.out], by rw [← HG1.out, HS2.out], by go_num⟩
          case measure => simp [intOf]; omega
      · obtain rfl : k = n := by omega
        go_wp2
        go_ret3
        exact ⟨rfl, rfl⟩
end Go.Proofs.Ytknjioibmgkpmaa

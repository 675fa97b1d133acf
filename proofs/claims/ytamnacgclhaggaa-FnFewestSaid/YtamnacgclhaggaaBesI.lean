/- PairBeside of the program. -/
import Derived.Test.YtamnacgclhaggaaBesT
namespace Go.Proofs.Ytamnacgclhaggaa
open Go.ChangeShapes Go.WideShapes Go.ChangeAt Go.RowKit

theorem lit2_rd (V : World) (x y : Int) : Rd (V.alloc (.cells #[.int .i64 x, .int .i64 y] 3)) (V.heap.size + 1) (some ⟨V.heap.size, 0, none⟩) 2 [x, y] := ⟨rfl, fun _ => ⟨V.heap.size, 0, rfl, by omega, fun k hk => by
  have h := heap_alloc_new V (.cells #[.int .i64 x, .int .i64 y] 3)
  rw [Nat.zero_add, cell_of_row _ _ _ _ _ (0, 0) h]
  obtain rfl | rfl : k = 0 ∨ k = 1 := by omega
  all_goals rfl⟩⟩

set_option maxRecDepth 10000 in
set_option maxHeartbeats 2000000 in
theorem bsI_any (A : Option Addr) (n c H : Nat) (l : List Int) (x y : Int) (w : World) (h : Rd w H A n l) (hH : H ≤ w.heap.size) (hn : n ≤ 1048576) (hnc : n ≤ c) (hcm : c ≤ 9223372036854775807) :
    Calls Try.prog 32 #[.slice A n c, .int .i64 x, .int .i64 y] w fun e w' => e = .returned (.bool (bsB l x y)) ∧ Below w.heap.size w w' := by
  have HL := Lib.hid h.len
  have HR := Lib.hid (readR_any A n c H l w h hH hn hnc hcm)
  have H7 := Lib.hid (ringP_length l)
  have HQ2 := Lib.hid (twoL_length (n : Int) [x, y])
  obtain ⟨P, hP⟩ : ∃ P, P = ringP l := ⟨_, rfl⟩
  obtain ⟨T, hT⟩ : ∃ T, T = twoL (n : Int) [x, y] := ⟨_, rfl⟩
  have HT := Lib.hid (fun V => readPair_any (some ⟨V.heap.size, 0, none⟩) 2 2 (V.heap.size + 1) [x, y] (n : Int) (V.alloc (.cells #[.int .i64 x, .int .i64 y] 3)) (lit2_rd V x y) (by simp) (by omega) (by omega))
  rw [← hP] at HR H7
  rw [← hT] at HT HQ2
  obtain ⟨rb, hrb⟩ : ∃ rb, rb = ringB l := ⟨_, rfl⟩
  obtain ⟨tb, htb⟩ : ∃ tb, tb = two (n : Int) [x, y] := ⟨_, rfl⟩
  rw [← hrb] at HR
  rw [← htb] at HT
  have HX : Hid (bsB l x y = (rb && (tb && besB l x y))) := by rw [hrb, htb, ← HL.out]; simp [Hid, bsB, Bool.and_assoc]
  have HG : Hid (rb = true → tb = true → P = padR l ∧ T = [x, y] ∧ l.Nodup ∧ 2 ≤ l.length ∧ l.length ≤ 7 ∧ (∀ x ∈ l, 0 ≤ x) ∧ x ∈ l ∧ y ∈ l) := by
    intro e1 e2
    have hr : Ring l := by rw [e1] at hrb; simpa [ringB] using hrb.symm
    have ht : Two (n : Int) [x, y] := by rw [e2] at htb; simpa [two] using htb.symm
    have ht2 := (two2 _ _ _).1 ht
    have h3 := hr.1.1
    exact ⟨by rw [hP, ringP, if_pos hr], by rw [hT, (two_yes ht).2], hr.1.2.2.2, by omega, hr.1.2.1, hr.1.pos, hr.1.has ht2.1.1 (by rw [HL.out]; exact ht2.1.2), hr.1.has ht2.2.1.1 (by rw [HL.out]; exact ht2.2.1.2)⟩
  rw [HX.out]
  clear hP hT hrb htb h HL HX
  go_enter Try.func32, Try.ntmps32
  go_wp2_with fail
  refine HR.out.mono ?_
  rintro e W1 ⟨rfl, hb1⟩
  have HA := Lib.hid (new_ring W1)
  have hs1 := hb1.size
  clear HR
  go_wp2_with (first
    | (refine store_ring rfl _ _ rfl W1.heap.size zero7 P rfl H7.out rfl rfl HA ?_; intro w2 HA2 hg2 hs2; clear hs2; have hb2 : Hid (Below W1.heap.size W1 w2) := Lib.hid (((Below.refl _ _).alloc (Nat.le_refl _) _).grown hg2 (by simp) (by simp))))
  have hs2' := hb2.out.size
  have HB2 := Lib.hid (hb1.trans (hb2.out.mono hs1))
  have hlt2 := HA2.out.lt
  clear hb2 hg2 HA hb1
  refine (HT.out w2).mono ?_
  rintro e W3 ⟨rfl, hb3⟩
  have hbs := hb3.size
  have hba : Below w2.heap.size w2 W3 := ((Below.refl w2.heap.size w2).alloc (Nat.le_refl _) (.cells #[.int .i64 x, .int .i64 y] 3)).trans (hb3.mono (by simp))
  have HA3 := Lib.hid (HA2.out.below hba hlt2)
  have HN := Lib.hid (heap_alloc_new W3 _ : Blk 77 (W3.alloc (.cells #[.int .i64 0, .int .i64 0] 77)) W3.heap.size [0, 0])
  have hs3 := hba.size
  have HB3 := Lib.hid (HB2.out.trans (hba.mono (by omega)))
  clear HT HA2 HB2 hb3 hba hbs
  obtain ⟨a0, a1, a2, a3, a4, a5, a6, rfl⟩ := seven H7.out
  obtain ⟨t0, t1, rfl⟩ := of_two HQ2.out
  generalize hG : W1.heap.size = G at *
  cases rb with
  | false =>
    go_wp2_with (refine store_blk rfl 77 2 readPair_size _ _ rfl W3.heap.size [0, 0] [t0, t1] rfl rfl rfl rfl HN ?_; intro w4 HT4 hg4 hs4)
    go_ret
    exact ⟨rfl, (HB3.out.alloc (by omega) _).grown hg4 (by simp; omega) (by simp; omega)⟩
  | true =>
    cases tb with
    | false =>
      go_wp2_with (refine store_blk rfl 77 2 readPair_size _ _ rfl W3.heap.size [0, 0] [t0, t1] rfl rfl rfl rfl HN ?_; intro w4 HT4 hg4 hs4)
      go_ret
      exact ⟨rfl, (HB3.out.alloc (by omega) _).grown hg4 (by simp; omega) (by simp; omega)⟩
    | true =>
      obtain ⟨e2, e3, gd, g1, g7, gp, gx, gy⟩ := HG.out rfl rfl
      injection e3 with e4 e5
      injection e5 with e5 _
      subst e4; subst e5
      have HH := Lib.hid (fun W => beside_any l t0 t1 W gd g1 g7 gp gx gy)
      unfold agp at HH
      rw [← e2] at HH
      obtain ⟨r, hr⟩ : ∃ r, r = besB l t0 t1 := ⟨_, rfl⟩
      rw [← hr] at HH
      have HRR := Lib.hid hr
      clear hr e2 gp gx gy gd HG
      go_wp2_with (first
        | (refine store_blk rfl 77 2 readPair_size _ _ rfl W3.heap.size [0, 0] [t0, t1] rfl rfl rfl rfl HN ?_; intro w4 HT4 hg4 hs4; have HA4 := (HA3.out.alloc (.cells #[.int .i64 0, .int .i64 0] 77)).grown hg4 (by have := HA3.out.lt; omega); obtain ⟨d0, d1, d2, d3, d4, d5, d6⟩ := cells7 HA4; have t0 := HT4.out.cell (i := 0) (by simp); have t1 := HT4.out.cell (i := 1) (by simp); simp only [List.getD_cons_zero, List.getD_cons_succ] at t0 t1; clear HA4)
        | (go_at_call 74; refine (HH.out _).mono ?_; rintro e w5 ⟨rfl, hb5⟩))
      go_ret
      exact ⟨by rw [← HRR.out]; rfl, ((HB3.out.alloc (by omega) _).grown hg4 (by simp; omega) (by simp; omega)).trans (hb5.mono (by rw [hs4]; simp; omega))⟩
end Go.Proofs.Ytamnacgclhaggaa

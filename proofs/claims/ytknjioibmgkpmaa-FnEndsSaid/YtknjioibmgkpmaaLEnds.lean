/- Arcs go from their first point to their last one: the law FnEnds. -/
import Derived.Test.YtknjioibmgkpmaaDraw15
import Derived.Test.YtknjioibmgkpmaaEndM
namespace Go.Proofs.Ytknjioibmgkpmaa
open Go.ChangeShapes Go.WideShapes Go.ChangeAt Go.RowKit

set_option maxRecDepth 10000 in
set_option maxHeartbeats 4000000 in
theorem law_Ends (a0 : Option Addr) (len0 cap0 : Nat) (z0 : List Int) (w : World) (w0 : IsRow .u8 w a0 len0 cap0 z0) :
    Calls Try.prog 3 #[.slice a0 len0 cap0] w fun e w' => e = .returned (.bool true) ∧ Below w.heap.size w w' := by
  obtain ⟨h, hlc, hcm⟩ := byt_of_row w0
  have HD := Lib.hid (drawArcEnds_any len0 cap0 w.heap.size a0 w h (Nat.le_refl _) hlc hcm)
  clear w0 h
  by_cases hn : len0 ≤ 1048576
  rotate_left
  · go_enter Try.func3, Try.ntmps3
    go_wp2_with fail
    go_ret
    exact ⟨rfl, Below.refl _ _⟩
  go_enter Try.func3, Try.ntmps3
  go_wp2_with fail
  refine HD.out.mono ?_
  rintro e w1 ⟨v, l, s, rfl, ⟨A1, n1, c1, rfl, hr1⟩, hl, hb⟩
  have HB := Lib.hid hb
  have HR1 := Lib.hid hr1
  clear hb hr1 HD
  have HC := Lib.hid (cI_ArcEnds HR1.out s)
  go_wp2_with fail
  refine HC.out.mono ?_
  rintro e w2 ⟨rfl, hb⟩
  replace HB := Lib.hid (bl_step HB.out hb)
  replace HR1 := Lib.hid (HR1.out.step hb)
  clear hb HC
  have HC := Lib.hid (cS_ArcEnds HR1.out s)
  go_wp2_with fail
  refine HC.out.mono ?_
  rintro e w3 ⟨rfl, hb⟩
  replace HB := Lib.hid (bl_step HB.out hb)
  replace HR1 := Lib.hid (HR1.out.step hb)
  clear hb HC
  cases hk : arcB l s with
  | false =>
    generalize firR l s = F
    generalize finR l s = G
    have h1 : (F != F) = false := by simp
    have h2 : (G != G) = false := by simp
    have h3 : (F == F) = true := by simp
    have h4 : (G == G) = true := by simp
    clear hk HR1
    go_wp2
    go_ret
    exact ⟨rfl, HB.out⟩
  | true =>
    obtain ⟨x, y, ex, ey, hx0, hx7, hy0, hy7, hhas, hbd, hmask⟩ := ends_told hk
    rw [ex, ey]
    have h1 : (x != x) = false := by simp
    have h2 : (y != y) = false := by simp
    have HM := Lib.hid hmask
    have HBD := Lib.hid hbd
    have h2f := two_first x y (if x = y then [] else fromL l x y) hx0 hx7
    clear hk ex ey hbd hmask
    by_cases hxy : x = y
    · subst hxy
      have e1 : maskI (endsL l x x) = bits BinOp.or IntKind.i64 (wrap64 (2 ^ min x.toNat 64)) (wrap64 (2 ^ min x.toNat 64)) := by
        rw [← h2f, endsL, if_pos rfl]; rfl
      have HE : Hid (bits BinOp.or IntKind.i64 (wrap64 (2 ^ min x.toNat 64)) (wrap64 (2 ^ min x.toNat 64)) = s) := by rw [Hid, ← e1]; exact HM.out
      have he := HE.out
      rw [show min x.toNat 64 = x.toNat by omega] at he
      have hss : (bits BinOp.or IntKind.i64 (wrap64 (2 ^ x.toNat)) (wrap64 (2 ^ x.toNat)) == s) = true := by rw [he]; simp
      clear e1 h2f hhas HM HBD HR1 HE he
      go_wp2_with fail
      go_quiet (fail)
      go_wp2
      go_ret
      exact ⟨rfl, below_drewN HB.out _⟩
    · have hh := hhas hxy
      have hne : (x != y) = true := by simpa using hxy
      obtain ⟨F, hF⟩ : ∃ F, F = fromL l x y := ⟨_, rfl⟩
      have eR : fromR l x y = F := by rw [fromR, if_pos hh, hF]
      rw [if_neg hxy, ← hF, show min x.toNat 64 = x.toNat by omega, show min y.toNat 64 = y.toNat by omega] at h2f
      have eM : endsL l x y = x :: y :: F := by rw [endsL, if_neg hxy, hF]
      rw [eM] at HM HBD
      have HT := Lib.hid (fun k (hk : k < F.length) => maskI_step (x :: y :: F) (k + 2) (by simp; omega))
      have HD := Lib.hid (fun k : Nat => (show (x :: y :: F).getD (k + 2) 0 = F.getD k 0 from rfl))
      have HC := Lib.hid (fun (W : World) (hb : Below w3.heap.size w3 W) => cI_From7 (HR1.out.step hb) x y)
      rw [hh, eR] at HC
      have HB0 := Lib.hid HB.out
      have H2 := Lib.hid h2f
      clear hhas hh hF eR eM hxy HR1 HB
      go_wp2_with fail
      go_quiet (fail)
      have HZ := Lib.hid (below_drewN (Below.refl w3.heap.size w3) nq)
      go_wp2_with fail
      refine (HC.out _ HZ.out).mono ?_
      rintro e w4 ⟨v, rfl, ⟨A4, n4, c4, rfl, hr⟩, hb⟩
      have HR4 := Lib.hid hr
      have HB4 := Lib.hid (bl_step HB0.out (bl_step HZ.out hb))
      have HL4 := Lib.hid hr.len
      rw [← h2f]
      clear hr hb HZ HC h2f
      go_wp2_with fail
      go_loop [11, 14] (fun q i => ∃ k : Nat, k ≤ n4 ∧ i = .int .i64 k ∧ ∃ z : Int, q = .int .i64 z ∧ Hid (z = maskI ((x :: y :: F).take (k + 2)))) (fun _ i => n4 - (intOf i).toNat)
      case atStart => exact ⟨0, Nat.zero_le _, rfl, _, rfl, rfl⟩
      case round =>
        obtain ⟨k, hk, rfl, z, rfl, hz⟩ := hrel
        by_cases hlt : k < n4
        · obtain ⟨b, o, rfl, hbH, hcs⟩ := HR4.out.at_ (by omega)
          have hc := hcs k hlt
          have hn7 := HR4.out.2.2.2
          clear hcs
          have hbd := HBD.out (F.getD k 0) (by
            have := getD_mem F k (by rw [HL4.out]; exact hlt)
            exact List.mem_cons_of_mem _ (List.mem_cons_of_mem _ this))
          have T3 := Lib.hid (HT.out k (by rw [HL4.out]; exact hlt))
          rw [HD.out, ← hz.out] at T3
          obtain ⟨u, hu⟩ : ∃ u, u = F.getD k 0 := ⟨_, rfl⟩
          rw [← hu] at hc hbd T3
          have hu0 := hbd.1
          clear hu hbd
          have T4 : Hid (bits BinOp.or IntKind.i64 z (wrap64 (2 ^ min u.toNat 64)) = maskI ((x :: y :: F).take (k + 1 + 2))) := T3.out.symm
          go_wp2_with fail
          go_round
          case rel => exact ⟨k + 1, by omega, by go_num, _, rfl, T4⟩
          case measure => simp [intOf]; omega
        · obtain rfl : k = n4 := by omega
          have e := hz.out
          rw [List.take_of_length_le (by simp; rw [HL4.out]; omega), HM.out] at e
          subst e
          have hss : (z == z) = true := by simp
          go_wp2
          go_ret
          exact ⟨rfl, HB4.out⟩
end Go.Proofs.Ytknjioibmgkpmaa

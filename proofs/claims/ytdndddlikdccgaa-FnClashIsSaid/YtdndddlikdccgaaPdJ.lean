/- ProofClashIs of the model. -/
import Derived.Test.YtdndddlikdccgaaPdS
import Derived.Test.YtdndddlikdccgaaPdI
import Derived.Test.YtdndddlikdccgaaCodS
import Derived.BigQuiet
import Derived.Deep.QuietTactic
namespace Go.Proofs.Ytdndddlikdccgaa
open Go.ChangeShapes Go.WideShapes Go.ChangeAt Go.RowKit

set_option maxRecDepth 10000 in
set_option maxHeartbeats 1000000 in
theorem clash10_any (g : Nat) (K : List (List Int)) (A : Option Addr) (c : Nat) (a b d : Nat) (w : World) (hm : Mk w g K) (h : Rd w w.heap.size A 3 [(a : Int), (b : Int), (d : Int)]) (ha : a < 6) (hb : b < 6) (hd : d < 6) :
    Calls Try.prog 79 #[.slice (some ⟨g, 0, none⟩) 216 216, .slice A 3 c] w fun e w' => e = .returned (.bool (decide ([(a : Int), (b : Int), (d : Int)] ∈ K) && decide ([(a : Int), (d : Int), (b : Int)] ∈ K))) ∧ Below w.heap.size w w' := by
  obtain ⟨bb, o, rfl, hbH, c0, c1, c2⟩ := rd3 h
  have m1 := hm.cell ha hb hd
  have m2 := hm.cell ha hd hb
  have n1 := codeN_lt ha hb hd
  have n2 := codeN_lt ha hd hb
  generalize decide ([(a : Int), (d : Int), (b : Int)] ∈ K) = s2 at *
  clear hm h
  cases hs1 : decide ([(a : Int), (b : Int), (d : Int)] ∈ K) with
  | false =>
    rw [hs1] at m1
    go_enter Try.func79, Try.ntmps79
    go_wp2
    go_quiet (refine Calls.quiet_of_same (code_any _ _ _ _ (by assumption) (by assumption) (by assumption)))
    go_wp2
    go_ret
    exact ⟨rfl, below_drewN (Below.refl _ _) _⟩
  | true =>
    rw [hs1] at m1
    go_enter Try.func79, Try.ntmps79
    go_wp2
    go_quiet (refine Calls.quiet_of_same (code_any _ _ _ _ (by assumption) (by assumption) (by assumption)))
    go_wp2
    go_ret
    exact ⟨rfl, below_drewN (Below.refl _ _) _⟩

theorem ckL_no {n : Int} {L : List (List Int)} (hL : ∀ t ∈ L, Thr n t) {t : List Int} (h : ¬ Thr n t) : ckL L t = false := by
  have : ¬ Cl L t := fun hc => h (hc.thr hL)
  simp [ckL, this]

set_option maxRecDepth 10000 in
set_option maxHeartbeats 1000000 in
theorem pcS_any (A : Option Addr) (n c H : Nat) (q : Int) (L : List (List Int)) (s : ByteArray) (w : World) (h : RdS w H A n L) (hH : H ≤ w.heap.size) (hn : tot L ≤ 1048576) (hs : s.size ≤ 1048576) :
    Calls Try.prog 46 #[.int .i64 q, .slice A n c, .string s] w fun e w' => e = .returned (.bool (pcB q L s)) ∧ Below w.heap.size w w' := by
  have hnb : n ≤ 1048576 := by have := h.len; unfold tot at hn; omega
  have HN := Lib.hid h.len
  have HR := Lib.hid (rdpS_any s clW w hs (by decide))
  have HBD : Hid (∀ l, rdW clW.data.toList s.data.toList = some l → ∀ x ∈ l, 0 ≤ x ∧ x ≤ 9) := Lib.hid (fun l hl => rdW_bd hl)
  have HLE : Hid (∀ l, rdW clW.data.toList s.data.toList = some l → 2 * l.length ≤ s.data.toList.length) := Lib.hid (fun l hl => rdW_len hl)
  have hsl : s.data.toList.length = s.size := by simp
  rw [hsl] at HLE
  obtain ⟨r, hr⟩ : ∃ r, r = rdW clW.data.toList s.data.toList := ⟨_, rfl⟩
  have HPB : Hid (pcB q L s = if Tel q L then (r.filter (ckL L)).isSome else false) := by rw [Hid, hr, pcB]
  rw [← hr] at HR HBD HLE
  have HT := Lib.hid (fun W (hb : Below w.heap.size w W) => telS_any A n c H L q W (h.below (hb.mono hH)) hnb)
  clear hr hsl
  cases r with
  | none =>
    have e : pcB q L s = false := by rw [HPB.out]; split <;> rfl
    rw [e]
    clear e
    go_enter Try.func46, Try.ntmps46
    go_wp2_with (go_at_call 78; refine HR.out.mono ?_; rintro e w1 ⟨v, rfl, _, hb1⟩)
    go_ret
    exact ⟨rfl, hb1⟩
  | some l =>
    by_cases ht : Tel q L
    rotate_left
    · have e : pcB q L s = false := by rw [HPB.out, if_neg ht]
      rw [e]
      rw [(tel_no ht).1] at HT
      clear e ht
      go_enter Try.func46, Try.ntmps46
      go_wp2_with (first
        | (go_at_call 78; refine HR.out.mono ?_; rintro e w1 ⟨v, rfl, _, hb1⟩)
        | (go_at_call 15; refine (HT.out _ hb1).mono ?_; rintro e w2 ⟨rfl, p2, rfl⟩))
      go_ret
      exact ⟨rfl, below_drewN hb1 _⟩
    have e : pcB q L s = ckL L l := by rw [HPB.out, if_pos ht]; cases h : ckL L l <;> simp [Option.filter, h]
    rw [e]
    clear e HPB
    obtain ⟨m, rfl, h3, h6⟩ := tel_nat ht
    rw [(tel_yes ht).1] at HT
    have HT2 := Lib.hid (fun (A : Option Addr) (k : Nat) (c : Nat) (W : World) (hk : k ≤ 1048576) (hR : Rd W W.heap.size A k l) => l2Three_any A k c W.heap.size l (m : Int) W hR (by omega) (by omega) (by omega))
    have hl9 : l.length ≤ 1048576 := by have := HLE.out l rfl; omega
    by_cases hth : Thr (m : Int) l
    rotate_left
    · rw [ckL_no ht.2.2.2 hth]
      rw [(thr_no hth).1] at HT2
      clear ht hth
      go_enter Try.func46, Try.ntmps46
      go_wp2_with (first
        | (go_at_call 78; refine HR.out.mono ?_; rintro e w1 ⟨v, rfl, ho, hb1⟩; obtain ⟨A1, c1, rfl⟩ := ho.slice)
        | (go_at_call 15; refine (HT.out _ hb1).mono ?_; rintro e w2 ⟨rfl, p2, rfl⟩; have hR2 := ho.rd.2.drewN p2)
        | (go_at_call 50; refine (HT2.out A1 l.length c1 _ hl9 hR2).mono ?_; rintro e w3 ⟨rfl, p3, rfl⟩))
      go_ret
      exact ⟨rfl, below_drewN hb1 _⟩
    rw [(thr_yes hth).1] at HT2
    obtain ⟨a, b, d, rfl, ha, hb, hd, _⟩ := thr_nat hth
    have HCL := Lib.hid (fun W (hb : Below w.heap.size w W) => closedS_any A n c H m L W (h.below (hb.mono hH)) (Nat.le_trans hH hb.size) h3 h6 (by rw [← HN.out]; exact ht.2.2.1) ht.2.2.2)
    have HCK := Lib.hid (fun (K : List (List Int)) (hk : ∀ t, t ∈ K ↔ Cl L t) => ck_of hk [(a : Int), (b : Int), (d : Int)])
    have HFI := Lib.hid (fun (K : List (List Int)) (g : Nat) (A : Option Addr) (c : Nat) (W : World) (hm : Mk W g K) (hR : Rd W W.heap.size A 3 [(a : Int), (b : Int), (d : Int)]) => clash10_any g K A c a b d W hm hR (by omega) (by omega) (by omega))
    clear ht hth h
    go_enter Try.func46, Try.ntmps46
    go_wp2_with (first
      | (go_at_call 78; refine HR.out.mono ?_; rintro e w1 ⟨v, rfl, ho, hb1⟩; obtain ⟨A1, c1, rfl⟩ := ho.slice)
      | (go_at_call 15; refine (HT.out _ hb1).mono ?_; rintro e w2 ⟨rfl, p2, rfl⟩; have hR2 := ho.rd.2.drewN p2)
      | (go_at_call 50; refine (HT2.out A1 3 c1 _ hl9 hR2).mono ?_; rintro e w3 ⟨rfl, p3, rfl⟩; have hb3 := below_drewN hb1 (p2 + p3); have hR3 := ho.rd.2.drewN (p2 + p3))
      | (go_at_call 55; refine (HCL.out _ hb3).mono ?_; rintro e w4 ⟨rfl, ⟨K, hmk, hK⟩, hb4⟩; have hR4 := (hR3.below hb4).more hb4.size; have hb5 := hb3.trans (hb4.mono hb3.size))
      | (go_at_call 79; refine (HFI.out K _ A1 c1 _ hmk hR4).mono ?_; rintro e w5 ⟨rfl, hb6⟩))
    go_ret
    refine ⟨?_, hb5.trans (hb6.mono hb5.size)⟩
    rw [← HCK.out K hK]
    simp [ckC, turn3]
end Go.Proofs.Ytdndddlikdccgaa

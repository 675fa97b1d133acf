/- WeavePart with its result's capacity told, over rows at hand. -/
import Derived.Test.YtpfdlgofkcpglaaDoorLaw6
import Derived.Test.YtpfdlgofkcpglaaDoorWC
namespace Go.Proofs.YtpfdlgofkcpglaaDoor
open Go.ChangeShapes Go.WideShapes Go.ChangeAt Go.RowKit

theorem nil_row (w : World) (B : Nat) : RowV w B (.slice none 0 0) [] := ⟨.inl ⟨rfl, rfl⟩, none, 0, rfl, Nat.le_refl _, by omega⟩

set_option maxRecDepth 10000 in
set_option maxHeartbeats 1000000 in
theorem wpI_row (A : Option Addr) (n c H : Nat) (l : List Int) (s : Int) (w : World) (h : Rd w H A n l) (hH : H ≤ w.heap.size) (hn : n ≤ 1048576) (hnc : n ≤ c) (hcm : c ≤ 9223372036854775807) (hT : Tab w) :
    Calls Tryd.prog 23 #[.slice A n c, .int .i64 s] w fun e w' => ∃ v, e = .returned (.tuple #[v, .bool (wpB l s)]) ∧ RowV w' w.heap.size v (wpR l s) ∧ Below w.heap.size w w' := by
  have HL := Lib.hid h.len
  have HRR := Lib.hid (readR_any A n c H l w h hH hn hnc hcm)
  have H7 := Lib.hid (ringP_length l)
  by_cases hr : Ring l
  · have hn3 : 3 ≤ n := by rw [← HL.out]; exact hr.1.1
    have hP : ringP l = padR l := by rw [ringP, if_pos hr]
    rw [ring_yes hr] at HRR
    by_cases h6 : n ≤ 6
    · have HA := Lib.hid (askQ (n : Int) true (by simp [asked]; omega))
      by_cases hs : 1 ≤ s ∧ s ≤ 2 ^ n - 1
      · have HI := Lib.hid (setInQ n s true h6 (by simp; omega))
        have HW : WP l s := ⟨hr, by rw [HL.out]; exact h6, hs.1, by rw [HL.out]; exact hs.2⟩
        obtain ⟨k, rfl, hk0, hk⟩ := wp_nat HW
        have T := Lib.hid (wp_yes HW)
        rw [Int.toNat_natCast] at T
        have HP := Lib.hid (fun W (hW : Tab W) => part_any l k W hr.1 hk0 hk hW)
        rw [T.out.1, T.out.2]
        have HT := Lib.hid hT
        have e0 : ((k : Int) == 0) = false := by simp; omega
        unfold agp at HP
        rw [← hP] at HP
        clear h hr HW hk0 hk hs T hT hP
        generalize partL l k = R at *
        generalize ringP l = P at *
        go_enter Tryd.func23, Tryd.ntmps23
        go_wp2_with fail
        refine HRR.out.mono ?_
        rintro e w1 ⟨rfl, hb1⟩
        have HA1 := Lib.hid (new_ring w1)
        have HB1 := Lib.hid hb1
        have HT1 := Lib.hid (HT.out.on hb1)
        have hs1 := hb1.size
        clear hb1
        go_wp2_with (first
          | (refine store_ring rfl _ _ rfl w1.heap.size zero7 P rfl H7.out rfl rfl HA1 ?_; intro w2 HA2 hg2 hs2
             have HB2 := Lib.hid ((HB1.out.alloc (by omega) (.cells #[.int .i64 0, .int .i64 0, .int .i64 0, .int .i64 0, .int .i64 0, .int .i64 0, .int .i64 0] 71)).grown hg2 (by simp; omega) (by simp; omega))
             have HT2 := Lib.hid (HT.out.on HB2.out)
             clear HA1 HB1 HT1 hg2)
          | (go_at_call 64; refine (HA.out _).mono ?_; rintro e w' ⟨rfl, rfl⟩)
          | (go_at_call 65; refine (HI.out _).mono ?_; rintro e w' ⟨rfl, rfl⟩)
          | (refine load_ring rfl _ rfl w1.heap.size P H7.out rfl HA2 ?_)
          | (go_at_call 66; refine (HP.out _ HT2.out).mono ?_; rintro e w3 ⟨v3, rfl, hr3, hb3⟩
             have HR3 := Lib.hid (hr3.less HB2.out.size)
             obtain ⟨A3, c3, ev, _⟩ := hr3.2
             subst ev
             have HB3 := Lib.hid (HB2.out.trans (hb3.mono HB2.out.size))
             clear hr3 hb3))
        go_ret2
        exact ⟨_, rfl, HR3.out, HB3.out⟩
      · have T := Lib.hid (wp_no (l := l) (s := s) (fun hh => hs (by have := hh.2.2; rw [HL.out] at this; exact this)))
        rw [T.out.1, T.out.2]
        generalize ringP l = P at *
        by_cases h0 : s = 0
        · subst h0
          have HI := Lib.hid (setInQ n 0 true h6 (by rw [pow6 n h6]; simp))
          clear h hr hs T hT hP
          go_enter Tryd.func23, Tryd.ntmps23
          go_wp2_with fail
          refine HRR.out.mono ?_
          rintro e w1 ⟨rfl, hb1⟩
          have HA1 := Lib.hid (new_ring w1)
          have HB1 := Lib.hid hb1
          have hs1 := hb1.size
          clear hb1
          go_wp2_with (first
            | (refine store_ring rfl _ _ rfl w1.heap.size zero7 P rfl H7.out rfl rfl HA1 ?_; intro w2 HA2 hg2 hs2
               have HB2 := Lib.hid ((HB1.out.alloc (by omega) (.cells #[.int .i64 0, .int .i64 0, .int .i64 0, .int .i64 0, .int .i64 0, .int .i64 0, .int .i64 0] 71)).grown hg2 (by simp; omega) (by simp; omega))
               clear HA1 HB1 hg2)
            | (go_at_call 64; refine (HA.out _).mono ?_; rintro e w' ⟨rfl, rfl⟩)
            | (go_at_call 65; refine (HI.out _).mono ?_; rintro e w' ⟨rfl, rfl⟩))
          go_ret2
          exact ⟨_, rfl, nil_row _ _, HB2.out⟩
        · have HI := Lib.hid (setInQ n s false h6 (by simp; omega))
          clear h hr hs T hT hP h0
          go_enter Tryd.func23, Tryd.ntmps23
          go_wp2_with fail
          refine HRR.out.mono ?_
          rintro e w1 ⟨rfl, hb1⟩
          have HA1 := Lib.hid (new_ring w1)
          have HB1 := Lib.hid hb1
          have hs1 := hb1.size
          clear hb1
          go_wp2_with (first
            | (refine store_ring rfl _ _ rfl w1.heap.size zero7 P rfl H7.out rfl rfl HA1 ?_; intro w2 HA2 hg2 hs2
               have HB2 := Lib.hid ((HB1.out.alloc (by omega) (.cells #[.int .i64 0, .int .i64 0, .int .i64 0, .int .i64 0, .int .i64 0, .int .i64 0, .int .i64 0] 71)).grown hg2 (by simp; omega) (by simp; omega))
               clear HA1 HB1 hg2)
            | (go_at_call 64; refine (HA.out _).mono ?_; rintro e w' ⟨rfl, rfl⟩)
            | (go_at_call 65; refine (HI.out _).mono ?_; rintro e w' ⟨rfl, rfl⟩))
          go_ret2
          exact ⟨_, rfl, nil_row _ _, HB2.out⟩
    · have HA := Lib.hid (askQ (n : Int) false (by simp [asked]; omega))
      have T := Lib.hid (wp_no (l := l) (s := s) (fun hh => h6 (by have := hh.2.1; rw [HL.out] at this; exact this)))
      rw [T.out.1, T.out.2]
      generalize ringP l = P at *
      clear h hr T hT hP
      go_enter Tryd.func23, Tryd.ntmps23
      go_wp2_with fail
      refine HRR.out.mono ?_
      rintro e w1 ⟨rfl, hb1⟩
      have HA1 := Lib.hid (new_ring w1)
      have HB1 := Lib.hid hb1
      have hs1 := hb1.size
      clear hb1
      go_wp2_with (first
        | (refine store_ring rfl _ _ rfl w1.heap.size zero7 P rfl H7.out rfl rfl HA1 ?_; intro w2 HA2 hg2 hs2
           have HB2 := Lib.hid ((HB1.out.alloc (by omega) (.cells #[.int .i64 0, .int .i64 0, .int .i64 0, .int .i64 0, .int .i64 0, .int .i64 0, .int .i64 0] 71)).grown hg2 (by simp; omega) (by simp; omega))
           clear HA1 HB1 hg2)
        | (go_at_call 64; refine (HA.out _).mono ?_; rintro e w' ⟨rfl, rfl⟩))
      go_ret2
      exact ⟨_, rfl, nil_row _ _, HB2.out⟩
  · have T := Lib.hid (wp_no (l := l) (s := s) (fun hh => hr hh.1))
    rw [ring_no hr] at HRR
    rw [T.out.1, T.out.2]
    generalize ringP l = P at *
    clear h hr T hT
    go_enter Tryd.func23, Tryd.ntmps23
    go_wp2_with fail
    refine HRR.out.mono ?_
    rintro e w1 ⟨rfl, hb1⟩
    have HA1 := Lib.hid (new_ring w1)
    have HB1 := Lib.hid hb1
    have hs1 := hb1.size
    clear hb1
    go_wp2_with (first
      | (refine store_ring rfl _ _ rfl w1.heap.size zero7 P rfl H7.out rfl rfl HA1 ?_; intro w2 HA2 hg2 hs2
         have HB2 := Lib.hid ((HB1.out.alloc (by omega) (.cells #[.int .i64 0, .int .i64 0, .int .i64 0, .int .i64 0, .int .i64 0, .int .i64 0, .int .i64 0] 71)).grown hg2 (by simp; omega) (by simp; omega))
         clear HA1 HB1 hg2))
    go_ret2
    exact ⟨_, rfl, nil_row _ _, HB2.out⟩

theorem cI_WeavePartR {w : World} {A : Option Addr} {n c : Nat} {l : List Int} (h : Rw w A n c l) (x : Int) (hT : Tab w) : Calls Tryd.prog 23 #[.slice A n c, .int .i64 x] w fun e w' => ∃ v, e = .returned (.tuple #[v, .bool (wpB l x)]) ∧ NewR w' v (wpR l x) ∧ Below w.heap.size w w' :=
  (wpI_row A n c w.heap.size l x w h.rd (Nat.le_refl _) h.big h.2.1 h.2.2.1 hT).mono fun _ _ ⟨v, e1, ho, hb⟩ => ⟨v, e1, ho.newR (wpR_length l x), hb⟩
end Go.Proofs.YtpfdlgofkcpglaaDoor

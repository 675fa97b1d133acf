/- WeavePart and WeaveHas of the model and of the program. -/
import Derived.Test.YtpfdlgofkcpglaaDoorWvH
import Derived.Test.YtpfdlgofkcpglaaDoorWvX
import Derived.Test.YtpfdlgofkcpglaaDoorIn
namespace Go.Proofs.YtpfdlgofkcpglaaDoor
open Go.ChangeShapes Go.WideShapes Go.ChangeAt Go.RowKit

/-- Whether a list is a ring of at most six points and a number a set of some of them. -/
def WP (l : List Int) (s : Int) : Prop := Ring l ∧ l.length ≤ 6 ∧ 1 ≤ s ∧ s ≤ 2 ^ l.length - 1
instance (l : List Int) (s : Int) : Decidable (WP l s) := by unfold WP; infer_instance
def wpB (l : List Int) (s : Int) : Bool := decide (WP l s)
def wpR (l : List Int) (s : Int) : List Int := if WP l s then partL l s.toNat else []
theorem wp_yes {l : List Int} {s : Int} (h : WP l s) : wpB l s = true ∧ wpR l s = partL l s.toNat := ⟨by simpa [wpB] using h, by rw [wpR, if_pos h]⟩
theorem wp_no {l : List Int} {s : Int} (h : ¬ WP l s) : wpB l s = false ∧ wpR l s = [] := ⟨by simpa [wpB] using h, by rw [wpR, if_neg h]⟩
theorem wpR_length (l : List Int) (s : Int) : (wpR l s).length ≤ 7 := by
  unfold wpR
  split
  · rename_i h; exact part_short l _ h.1.1.2.1
  · simp
theorem pow6 (n : Nat) (h : n ≤ 6) : (2 : Int) ^ n - 1 = ((2 ^ n - 1 : Nat) : Int) := by
  obtain rfl | rfl | rfl | rfl | rfl | rfl | rfl : n = 0 ∨ n = 1 ∨ n = 2 ∨ n = 3 ∨ n = 4 ∨ n = 5 ∨ n = 6 := by omega
  all_goals decide

theorem setIn_any (n : Nat) (s : Int) (w : World) (hn : n ≤ 6) :
    Calls Tryd.prog 65 #[.int .i64 (n : Int), .int .i64 s] w fun e w' => e = .returned (.bool (decide (0 ≤ s) && decide (s ≤ 2 ^ n - 1))) ∧ w = w' := by
  have HF := Lib.hid (fun W => fullSet_any n W (by omega))
  rw [pow6 n hn]
  generalize 2 ^ n - 1 = f at *
  by_cases h0 : 0 ≤ s
  · go_enter Tryd.func65, Tryd.ntmps65
    go_wp2_with (go_at_call 99; refine (HF.out _).mono ?_; rintro e w' ⟨rfl, rfl⟩)
    go_ret
    exact ⟨by simp [h0], rfl⟩
  · have hd : decide (0 ≤ s) = false := by simp; omega
    rw [hd, Bool.false_and]
    go_enter Tryd.func65, Tryd.ntmps65
    go_wp2_with (go_at_call 99; refine (HF.out _).mono ?_; rintro e w' ⟨rfl, rfl⟩)
    go_ret
    exact ⟨rfl, rfl⟩

theorem wp_nat {l : List Int} {s : Int} (h : WP l s) : ∃ k : Nat, s = (k : Int) ∧ 0 < k ∧ k < 2 ^ l.length := by
  refine ⟨s.toNat, by have := h.2.2.1; omega, by have := h.2.2.1; omega, ?_⟩
  have h1 := h.2.2.2
  have h2 := h.2.2.1
  have e : ((2 ^ l.length : Nat) : Int) = 2 ^ l.length := by simp
  omega

set_option maxRecDepth 10000 in
set_option maxHeartbeats 1000000 in
theorem wpS_any (A : Option Addr) (n c H : Nat) (l : List Int) (s : Int) (w : World) (h : Rd w H A n l) (hH : H ≤ w.heap.size) (hn : n ≤ 1048576) :
    Calls Tryd.prog 24 #[.slice A n c, .int .i64 s] w fun e w' => ∃ v, e = .returned (.tuple #[v, .bool (wpB l s)]) ∧ Own w' w.heap.size v (wpR l s) ∧ Below w.heap.size w w' := by
  have HL := Lib.hid h.len
  have HRI := Lib.hid (fun k => flipW (ringS_any A n c H l (w.drewN k) (h.drewN k) hn))
  by_cases hr : Ring l
  · rw [ring_yes hr] at HRI
    have hn3 : 3 ≤ n := by rw [← HL.out]; exact hr.1.1
    by_cases h6 : n ≤ 6
    · by_cases hs : 1 ≤ s ∧ s ≤ 2 ^ n - 1
      · have HI := Lib.hid (inQ s 1 (2 ^ n - 1) true (by simp; omega))
        have HW : WP l s := ⟨hr, by rw [HL.out]; exact h6, hs.1, by rw [HL.out]; exact hs.2⟩
        obtain ⟨k, rfl, hk0, hk⟩ := wp_nat HW
        have T := Lib.hid (wp_yes HW)
        rw [Int.toNat_natCast] at T
        have HP := Lib.hid (fun W (hW : Rd W H A n l) (hHW : H ≤ W.heap.size) => partS_any A n c H l k W hW hHW hr.1 hk0 hk)
        rw [T.out.1, T.out.2]
        have HR := Lib.hid h
        clear h hr HW hk0 hk hs T
        generalize partL l k = R at *
        obtain rfl | rfl | rfl | rfl : n = 3 ∨ n = 4 ∨ n = 5 ∨ n = 6 := by omega
        all_goals
          simp only [Int.reducePow, Int.reduceSub] at HI
          go_enter Tryd.func24, Tryd.ntmps24
          go_wp2_with (first
            | (go_at_call 67; refine (HRI.out 0).mono ?_; rintro e w' ⟨rfl, rfl⟩)
            | (go_at_call 68; refine (HI.out _).mono ?_; rintro e w' ⟨rfl, rfl⟩)
            | (go_at_call 70; refine (HP.out _ HR.out hH).mono ?_; rintro e w1 ⟨v1, rfl, ho1, hb1⟩; have HO1 := Lib.hid ho1; obtain ⟨A1, c1, ev⟩ := ho1.slice; subst ev; clear ho1))
          go_ret2
          exact ⟨_, rfl, HO1.out, hb1⟩
      · have HI := Lib.hid (inQ s 1 (2 ^ n - 1) false (by simp; omega))
        have T := Lib.hid (wp_no (l := l) (s := s) (fun hh => hs (by have := hh.2.2; rw [HL.out] at this; exact this)))
        rw [T.out.1, T.out.2]
        have HN := Lib.hid (fun W => none_any W)
        clear h hr hs T
        obtain rfl | rfl | rfl | rfl : n = 3 ∨ n = 4 ∨ n = 5 ∨ n = 6 := by omega
        all_goals
          simp only [Int.reducePow, Int.reduceSub] at HI
          go_enter Tryd.func24, Tryd.ntmps24
          go_wp2_with (first
            | (go_at_call 67; refine (HRI.out 0).mono ?_; rintro e w' ⟨rfl, rfl⟩)
            | (go_at_call 68; refine (HI.out _).mono ?_; rintro e w' ⟨rfl, rfl⟩)
            | (go_at_call 69; refine (HN.out _).mono ?_; rintro e w1 ⟨v1, rfl, ho1, hb1⟩; have HO1 := Lib.hid ho1; obtain ⟨A1, c1, ev⟩ := ho1.slice; subst ev; clear ho1))
          go_ret2
          exact ⟨_, rfl, HO1.out, hb1⟩
    · have T := Lib.hid (wp_no (l := l) (s := s) (fun hh => h6 (by have := hh.2.1; rw [HL.out] at this; exact this)))
      rw [T.out.1, T.out.2]
      have HN := Lib.hid (fun W => none_any W)
      have hg : decide ((n : Int) > 6) = true := by simp; omega
      clear h hr T
      go_enter Tryd.func24, Tryd.ntmps24
      go_wp2_with (first
        | (go_at_call 67; refine (HRI.out 0).mono ?_; rintro e w' ⟨rfl, rfl⟩)
        | (go_at_call 69; refine (HN.out _).mono ?_; rintro e w1 ⟨v1, rfl, ho1, hb1⟩; have HO1 := Lib.hid ho1; obtain ⟨A1, c1, ev⟩ := ho1.slice; subst ev; clear ho1))
      go_ret2
      exact ⟨_, rfl, HO1.out, hb1⟩
  · have T := Lib.hid (wp_no (l := l) (s := s) (fun hh => hr hh.1))
    rw [ring_no hr] at HRI
    rw [T.out.1, T.out.2]
    have HN := Lib.hid (fun W => none_any W)
    clear h hr T
    go_enter Tryd.func24, Tryd.ntmps24
    go_wp2_with (first
      | (go_at_call 67; refine (HRI.out 0).mono ?_; rintro e w' ⟨rfl, rfl⟩)
      | (go_at_call 69; refine (HN.out _).mono ?_; rintro e w1 ⟨v1, rfl, ho1, hb1⟩; have HO1 := Lib.hid ho1; obtain ⟨A1, c1, ev⟩ := ho1.slice; subst ev; clear ho1))
    go_ret2
    exact ⟨_, rfl, HO1.out, hb1⟩

theorem setInQ (n : Nat) (s : Int) (r : Bool) (hn : n ≤ 6) (h : (decide (0 ≤ s) && decide (s ≤ 2 ^ n - 1)) = r) (w : World) :
    Calls Tryd.prog 65 #[.int .i64 (n : Int), .int .i64 s] w fun e w' => e = .returned (.bool r) ∧ w = w' := by
  subst h
  exact setIn_any n s w hn
theorem askQ (n : Int) (r : Bool) (h : asked n = r) (w : World) : Calls Tryd.prog 64 #[.int .i64 n] w fun e w' => e = .returned (.bool r) ∧ w = w' := by
  subst h
  exact askI_any n w
theorem nil_own (w : World) (B : Nat) : OwnG w B (.slice none 0 0) [] := .inl ⟨rfl, rfl⟩

set_option maxRecDepth 10000 in
set_option maxHeartbeats 1000000 in
theorem wpI_any (A : Option Addr) (n c H : Nat) (l : List Int) (s : Int) (w : World) (h : Rd w H A n l) (hH : H ≤ w.heap.size) (hn : n ≤ 1048576) (hnc : n ≤ c) (hcm : c ≤ 9223372036854775807) (hT : Tab w) :
    Calls Tryd.prog 23 #[.slice A n c, .int .i64 s] w fun e w' => ∃ v, e = .returned (.tuple #[v, .bool (wpB l s)]) ∧ OwnG w' w.heap.size v (wpR l s) ∧ Below w.heap.size w w' := by
  have HL := Lib.hid h.len
  have HRR := Lib.hid (readR_any A n c H l w h hH hn hnc hcm)
  have H7 := Lib.hid (ringP_length l)
  by_cases hr : Ring l
  · have hn3 : 3 ≤ n := by rw [← HL.out]; exact hr.1.1
    have hP : ringP l = padR l := by rw [ringP, if_pos hr]
    rw [ring_yes hr] at HRR
    by_cases h6 : n ≤ 6
    · have HA := Lib.hid (askQ (n : Int) true (by simp [asked]; omega))
      by_cases hs : 1 ≤ s ∧ s ≤ 2 ^ n - 1
      · have HI := Lib.hid (setInQ n s true h6 (by simp; omega))
        have HW : WP l s := ⟨hr, by rw [HL.out]; exact h6, hs.1, by rw [HL.out]; exact hs.2⟩
        obtain ⟨k, rfl, hk0, hk⟩ := wp_nat HW
        have T := Lib.hid (wp_yes HW)
        rw [Int.toNat_natCast] at T
        have HP := Lib.hid (fun W (hW : Tab W) => part_any l k W hr.1 hk0 hk hW)
        rw [T.out.1, T.out.2]
        have HT := Lib.hid hT
        have e0 : ((k : Int) == 0) = false := by simp; omega
        unfold agp at HP
        rw [← hP] at HP
        clear h hr HW hk0 hk hs T hT hP
        generalize partL l k = R at *
        generalize ringP l = P at *
        go_enter Tryd.func23, Tryd.ntmps23
        go_wp2_with fail
        refine HRR.out.mono ?_
        rintro e w1 ⟨rfl, hb1⟩
        have HA1 := Lib.hid (new_ring w1)
        have HB1 := Lib.hid hb1
        have HT1 := Lib.hid (HT.out.on hb1)
        have hs1 := hb1.size
        clear hb1
        go_wp2_with (first
          | (refine store_ring rfl _ _ rfl w1.heap.size zero7 P rfl H7.out rfl rfl HA1 ?_; intro w2 HA2 hg2 hs2
             have HB2 := Lib.hid ((HB1.out.alloc (by omega) (.cells #[.int .i64 0, .int .i64 0, .int .i64 0, .int .i64 0, .int .i64 0, .int .i64 0, .int .i64 0] 71)).grown hg2 (by simp; omega) (by simp; omega))
             have HT2 := Lib.hid (HT.out.on HB2.out)
             clear HA1 HB1 HT1 hg2)
          | (go_at_call 64; refine (HA.out _).mono ?_; rintro e w' ⟨rfl, rfl⟩)
          | (go_at_call 65; refine (HI.out _).mono ?_; rintro e w' ⟨rfl, rfl⟩)
          | (refine load_ring rfl _ rfl w1.heap.size P H7.out rfl HA2 ?_)
          | (go_at_call 66; refine (HP.out _ HT2.out).mono ?_; rintro e w3 ⟨v3, rfl, hr3, hb3⟩
             have HR3 := Lib.hid (hr3.less HB2.out.size)
             obtain ⟨A3, c3, ev, _⟩ := hr3.2
             subst ev
             have HB3 := Lib.hid (HB2.out.trans (hb3.mono HB2.out.size))
             clear hr3 hb3))
        go_ret2
        exact ⟨_, rfl, HR3.out.1, HB3.out⟩
      · have T := Lib.hid (wp_no (l := l) (s := s) (fun hh => hs (by have := hh.2.2; rw [HL.out] at this; exact this)))
        rw [T.out.1, T.out.2]
        generalize ringP l = P at *
        by_cases h0 : s = 0
        · subst h0
          have HI := Lib.hid (setInQ n 0 true h6 (by rw [pow6 n h6]; simp))
          clear h hr hs T hT hP
          go_enter Tryd.func23, Tryd.ntmps23
          go_wp2_with fail
          refine HRR.out.mono ?_
          rintro e w1 ⟨rfl, hb1⟩
          have HA1 := Lib.hid (new_ring w1)
          have HB1 := Lib.hid hb1
          have hs1 := hb1.size
          clear hb1
          go_wp2_with (first
            | (refine store_ring rfl _ _ rfl w1.heap.size zero7 P rfl H7.out rfl rfl HA1 ?_; intro w2 HA2 hg2 hs2
               have HB2 := Lib.hid ((HB1.out.alloc (by omega) (.cells #[.int .i64 0, .int .i64 0, .int .i64 0, .int .i64 0, .int .i64 0, .int .i64 0, .int .i64 0] 71)).grown hg2 (by simp; omega) (by simp; omega))
               clear HA1 HB1 hg2)
            | (go_at_call 64; refine (HA.out _).mono ?_; rintro e w' ⟨rfl, rfl⟩)
            | (go_at_call 65; refine (HI.out _).mono ?_; rintro e w' ⟨rfl, rfl⟩))
          go_ret2
          exact ⟨_, rfl, nil_own _ _, HB2.out⟩
        · have HI := Lib.hid (setInQ n s false h6 (by simp; omega))
          clear h hr hs T hT hP h0
          go_enter Tryd.func23, Tryd.ntmps23
          go_wp2_with fail
          refine HRR.out.mono ?_
          rintro e w1 ⟨rfl, hb1⟩
          have HA1 := Lib.hid (new_ring w1)
          have HB1 := Lib.hid hb1
          have hs1 := hb1.size
          clear hb1
          go_wp2_with (first
            | (refine store_ring rfl _ _ rfl w1.heap.size zero7 P rfl H7.out rfl rfl HA1 ?_; intro w2 HA2 hg2 hs2
               have HB2 := Lib.hid ((HB1.out.alloc (by omega) (.cells #[.int .i64 0, .int .i64 0, .int .i64 0, .int .i64 0, .int .i64 0, .int .i64 0, .int .i64 0] 71)).grown hg2 (by simp; omega) (by simp; omega))
               clear HA1 HB1 hg2)
            | (go_at_call 64; refine (HA.out _).mono ?_; rintro e w' ⟨rfl, rfl⟩)
            | (go_at_call 65; refine (HI.out _).mono ?_; rintro e w' ⟨rfl, rfl⟩))
          go_ret2
          exact ⟨_, rfl, nil_own _ _, HB2.out⟩
    · have HA := Lib.hid (askQ (n : Int) false (by simp [asked]; omega))
      have T := Lib.hid (wp_no (l := l) (s := s) (fun hh => h6 (by have := hh.2.1; rw [HL.out] at this; exact this)))
      rw [T.out.1, T.out.2]
      generalize ringP l = P at *
      clear h hr T hT hP
      go_enter Tryd.func23, Tryd.ntmps23
      go_wp2_with fail
      refine HRR.out.mono ?_
      rintro e w1 ⟨rfl, hb1⟩
      have HA1 := Lib.hid (new_ring w1)
      have HB1 := Lib.hid hb1
      have hs1 := hb1.size
      clear hb1
      go_wp2_with (first
        | (refine store_ring rfl _ _ rfl w1.heap.size zero7 P rfl H7.out rfl rfl HA1 ?_; intro w2 HA2 hg2 hs2
           have HB2 := Lib.hid ((HB1.out.alloc (by omega) (.cells #[.int .i64 0, .int .i64 0, .int .i64 0, .int .i64 0, .int .i64 0, .int .i64 0, .int .i64 0] 71)).grown hg2 (by simp; omega) (by simp; omega))
           clear HA1 HB1 hg2)
        | (go_at_call 64; refine (HA.out _).mono ?_; rintro e w' ⟨rfl, rfl⟩))
      go_ret2
      exact ⟨_, rfl, nil_own _ _, HB2.out⟩
  · have T := Lib.hid (wp_no (l := l) (s := s) (fun hh => hr hh.1))
    rw [ring_no hr] at HRR
    rw [T.out.1, T.out.2]
    generalize ringP l = P at *
    clear h hr T hT
    go_enter Tryd.func23, Tryd.ntmps23
    go_wp2_with fail
    refine HRR.out.mono ?_
    rintro e w1 ⟨rfl, hb1⟩
    have HA1 := Lib.hid (new_ring w1)
    have HB1 := Lib.hid hb1
    have hs1 := hb1.size
    clear hb1
    go_wp2_with (first
      | (refine store_ring rfl _ _ rfl w1.heap.size zero7 P rfl H7.out rfl rfl HA1 ?_; intro w2 HA2 hg2 hs2
         have HB2 := Lib.hid ((HB1.out.alloc (by omega) (.cells #[.int .i64 0, .int .i64 0, .int .i64 0, .int .i64 0, .int .i64 0, .int .i64 0, .int .i64 0] 71)).grown hg2 (by simp; omega) (by simp; omega))
         clear HA1 HB1 hg2))
    go_ret2
    exact ⟨_, rfl, nil_own _ _, HB2.out⟩

/-- Whether a list is a ring of at most six points that has a part. -/
def whB (l p : List Int) : Bool := decide (Ring l ∧ Prt (l.length : Int) p ∧ hasL l p = true)
theorem wh_all {l p : List Int} (hr : Ring l) (hp : Prt (l.length : Int) p) : whB l p = hasL l p := by
  cases h : hasL l p with
  | true => simpa [whB] using ⟨hr, hp, h⟩
  | false => simp [whB, h]
theorem wh_ring {l p : List Int} (hr : ¬ Ring l) : whB l p = false := by simp [whB, hr]
theorem wh_prt {l p : List Int} (hp : ¬ Prt (l.length : Int) p) : whB l p = false := by simp [whB, hp]

set_option maxRecDepth 10000 in
set_option maxHeartbeats 1000000 in
theorem whS_any (A : Option Addr) (n c : Nat) (B : Option Addr) (m d H : Nat) (l p : List Int) (w : World) (h : Rd w H A n l) (k : Rd w H B m p) (hH : H ≤ w.heap.size) (hn : n ≤ 1048576) (hm : m ≤ 1048576) :
    Calls Tryd.prog 28 #[.slice A n c, .slice B m d] w fun e w' => e = .returned (.bool (whB l p)) ∧ Below w.heap.size w w' := by
  have HL := Lib.hid h.len
  have HRI := Lib.hid (flipW (ringS_any A n c H l w h hn))
  by_cases hr : Ring l
  · rw [ring_yes hr] at HRI
    by_cases h6 : n ≤ 6
    · have HIN := Lib.hid (l6wIn_any B m d H p (n : Int) w k hm)
      have hg : decide ((n : Int) ≤ 6) = true := by simp; omega
      by_cases hp : Prt (l.length : Int) p
      · have HH := Lib.hid (fun q => hasLS_any A B n c m d H l p (w.drewN q) (h.drewN q) (k.drewN q) hH hr.1 hp)
        rw [wh_all hr hp]
        rw [HL.out] at hp
        rw [prt_yes hp] at HIN
        clear h k hr hp
        generalize hasL l p = r at *
        go_enter Tryd.func28, Tryd.ntmps28
        go_wp2_with (first
          | (go_at_call 67; refine HRI.out.mono ?_; rintro e w' ⟨rfl, rfl⟩)
          | (go_at_call 59; refine HIN.out.mono ?_; rintro e w1 ⟨rfl, q, rfl⟩)
          | (go_at_call 72; refine (HH.out _).mono ?_; rintro e w2 ⟨rfl, hb⟩))
        go_ret
        exact ⟨rfl, (below_drewN (Below.refl _ _) _).trans hb⟩
      · rw [wh_prt hp]
        rw [HL.out] at hp
        rw [prt_no hp] at HIN
        clear h k hr hp
        go_enter Tryd.func28, Tryd.ntmps28
        go_wp2_with (first
          | (go_at_call 67; refine HRI.out.mono ?_; rintro e w' ⟨rfl, rfl⟩)
          | (go_at_call 59; refine HIN.out.mono ?_; rintro e w1 ⟨rfl, q, rfl⟩))
        go_ret
        exact ⟨rfl, below_drewN (Below.refl _ _) _⟩
    · have hg : decide ((n : Int) ≤ 6) = false := by simp; omega
      rw [wh_prt (fun hp => h6 (by have := hp.1.2; rw [HL.out] at this; omega))]
      clear h k hr
      go_enter Tryd.func28, Tryd.ntmps28
      go_wp2_with (first
        | (go_at_call 67; refine HRI.out.mono ?_; rintro e w' ⟨rfl, rfl⟩))
      go_ret
      exact ⟨rfl, Below.refl _ _⟩
  · rw [ring_no hr] at HRI
    rw [wh_ring hr]
    clear h k hr
    go_enter Tryd.func28, Tryd.ntmps28
    go_wp2_with (first
      | (go_at_call 67; refine HRI.out.mono ?_; rintro e w' ⟨rfl, rfl⟩))
    go_ret
    exact ⟨rfl, Below.refl _ _⟩

set_option maxRecDepth 10000 in
set_option maxHeartbeats 1000000 in
theorem whI_any (A : Option Addr) (n c : Nat) (B : Option Addr) (m d H : Nat) (l p : List Int) (w : World) (h : Rd w H A n l) (k : Rd w H B m p) (hH : H ≤ w.heap.size) (hn : n ≤ 1048576) (hm : m ≤ 1048576) (hnc : n ≤ c) (hcm : c ≤ 9223372036854775807) (hmd : m ≤ d) (hdm : d ≤ 9223372036854775807) (hT : Tab w) :
    Calls Tryd.prog 26 #[.slice A n c, .slice B m d] w fun e w' => e = .returned (.bool (whB l p)) ∧ Below w.heap.size w w' := by
  have HL := Lib.hid h.len
  have HRR := Lib.hid (readR_any A n c H l w h hH hn hnc hcm)
  have H7 := Lib.hid (ringP_length l)
  have HRP := Lib.hid (fun W (hW : Below w.heap.size w W) => readPart_any B m d H p (n : Int) W (k.below (hW.mono hH)) (Nat.le_trans hH hW.size) hm hmd hdm)
  have HT := Lib.hid hT
  have key : ∀ (b1 b2 : Bool) (R : List Int), ringB l = b1 → prt (n : Int) p = b2 → prtL (n : Int) p = R → (b1 = true → b2 = true → ∀ (W : World) (A' : Option Addr) (c' : Nat), Rd W W.heap.size A' R.length R → Tab W → Calls Tryd.prog 71 #[.agg (ints (ringP l)).toArray, .slice A' R.length c'] W fun e w' => e = .returned (.bool (whB l p)) ∧ Below W.heap.size W w') → (b1 && b2) = false ∨ (b1 && b2) = true → ((b1 && b2) = false → whB l p = false) →
      Calls Tryd.prog 26 #[.slice A n c, .slice B m d] w fun e w' => e = .returned (.bool (whB l p)) ∧ Below w.heap.size w w' := by
    intro b1 b2 R e1 e2 e3 hh hb hf
    rw [e1] at HRR
    rw [e2, e3] at HRP
    have HH := Lib.hid hh
    have HF := Lib.hid hf
    clear h k hT e1 e2 e3 hh hf
    generalize whB l p = r at *
    generalize ringP l = P at *
    have start : ∀ (Q : Prop), Q → Q := fun _ q => q
    cases b1 <;> cases b2
    case true.true =>
      obtain ⟨p0, p1, p2, p3, p4, p5, p6, eP⟩ := seven H7.out
      subst eP
      have HH' := Lib.hid (HH.out rfl rfl)
      simp only [ints, List.map_cons, List.map_nil] at HH' HRR
      go_enter Tryd.func26, Tryd.ntmps26
      go_wp2_with fail
      refine HRR.out.mono ?_
      rintro e w1 ⟨rfl, hb1⟩
      have HA1 := Lib.hid (new_ring w1)
      have HB1 := Lib.hid hb1
      have hs1 := hb1.size
      clear hb1
      go_wp2_with (first
        | (refine store_ring rfl _ _ rfl w1.heap.size zero7 [p0, p1, p2, p3, p4, p5, p6] rfl H7.out rfl rfl HA1 ?_; intro w2 HA2 hg2 hs2
           have HB2 := Lib.hid ((HB1.out.alloc (by omega) (.cells #[.int .i64 0, .int .i64 0, .int .i64 0, .int .i64 0, .int .i64 0, .int .i64 0, .int .i64 0] 71)).grown hg2 (by simp; omega) (by simp; omega))
           clear HA1 HB1 hg2)
        | (go_at_call 58; refine (HRP.out _ HB2.out).mono ?_; rintro e w3 ⟨v3, rfl, hr3, hb3⟩
           obtain ⟨A3, c3, ev, _⟩ := hr3.2
           subst ev
           have HB3 := Lib.hid (HB2.out.trans (hb3.mono HB2.out.size))
           have HC3 := Lib.hid (HH'.out w3 A3 c3 hr3.1.rd.2 (HT.out.on HB3.out))
           obtain ⟨k0, k1, k2, k3, k4, k5, k6⟩ := cells7 (HA2.out.below hb3 HA2.out.lt)
           clear hr3 hb3 HA2)
        | (go_at_call 71; refine HC3.out.mono ?_; rintro e w4 ⟨rfl, hb4⟩))
      go_ret
      exact ⟨rfl, HB3.out.trans (hb4.mono HB3.out.size)⟩
    all_goals
      have HF' := Lib.hid (HF.out rfl)
      rw [HF'.out]
      go_enter Tryd.func26, Tryd.ntmps26
      go_wp2_with fail
      refine HRR.out.mono ?_
      rintro e w1 ⟨rfl, hb1⟩
      have HA1 := Lib.hid (new_ring w1)
      have HB1 := Lib.hid hb1
      have hs1 := hb1.size
      clear hb1
      go_wp2_with (first
        | (refine store_ring rfl _ _ rfl w1.heap.size zero7 P rfl H7.out rfl rfl HA1 ?_; intro w2 HA2 hg2 hs2
           have HB2 := Lib.hid ((HB1.out.alloc (by omega) (.cells #[.int .i64 0, .int .i64 0, .int .i64 0, .int .i64 0, .int .i64 0, .int .i64 0, .int .i64 0] 71)).grown hg2 (by simp; omega) (by simp; omega))
           clear HA1 HB1 hg2)
        | (go_at_call 58; refine (HRP.out _ HB2.out).mono ?_; rintro e w3 ⟨v3, rfl, hr3, hb3⟩
           obtain ⟨A3, c3, ev, _⟩ := hr3.2
           subst ev
           have HB3 := Lib.hid (HB2.out.trans (hb3.mono HB2.out.size))
           clear hr3 hb3 HA2))
      go_ret
      exact ⟨rfl, HB3.out⟩
  refine key (ringB l) (prt (n : Int) p) (prtL (n : Int) p) rfl rfl rfl ?_ (by cases (ringB l && prt (n : Int) p) <;> simp) ?_
  · intro h1 h2 W A' c' hR hTW
    have hr : Ring l := by simpa [ringB] using h1
    have hp : Prt (n : Int) p := by simpa [prt] using h2
    rw [prtL_yes hp] at hR ⊢
    rw [← HL.out] at hp
    rw [wh_all hr hp, show ringP l = padR l by rw [ringP, if_pos hr]]
    exact hasLI_any A' p.length c' W.heap.size l p W hR (Nat.le_refl _) hr.1 hp hTW
  · intro hf
    by_cases hr : Ring l
    · refine wh_prt fun hp => ?_
      rw [HL.out] at hp
      rw [ring_yes hr, prt_yes hp] at hf
      cases hf
    · exact wh_ring hr
end Go.Proofs.YtpfdlgofkcpglaaDoor

/- The program's reading of a list into its array. -/
import Derived.Test.YtdlgabefbomleaaTell
namespace Go.Proofs.Ytdlgabefbomleaa
open Go.ChangeShapes Go.WideShapes Go.ChangeAt Go.RowKit

theorem results_ring2 {fn : Func} {p t : Tmp} (h : fn.results = #[.cell p 48, .tmp t]) (tmps : Array Value) (w : World) (g : Nat) (P : List Int) (hP : P.length = 7)
    (hp : tmps.getD p undef = .pointer (some ⟨g, 0, none⟩)) (hg : Arr w g P) :
    (results fn tmps).run Try.prog w = .ok (.tuple #[.agg (ints P).toArray, tmps.getD t undef]) w := by
  have hp' : tmps[p]?.getD undef = .pointer (some ⟨g, 0, none⟩) := by simpa using hp
  simp [results, h, hp', asAddr, run_loadVar_row (P := Try.prog) w g 48 48 _ (0, 0) _ hg Try.underlying48 rfl (by rw [ring_size]; simp [hP])]

theorem ret_ring2 {fn : Func} {R : Ending → World → Prop} {a : Act} {w : World} {p t : Tmp} (h : fn.results = #[.cell p 48, .tmp t]) (g : Nat) (P : List Int) (hP : P.length = 7) (hp : a.tmps.getD p undef = .pointer (some ⟨g, 0, none⟩))
    (hg : Hid (Arr w g P)) (hd : a.defers = []) (hR : R (.returned (.tuple #[.agg (ints P).toArray, a.tmps.getD t undef])) w) : bodyPost Try.prog fn R .ret a w :=
  bodyPost_ret (results_ring2 h _ _ g P hP hp hg.out) hd hR

abbrev neg7 : List Int := [-1, -1, -1, -1, -1, -1, -1]
abbrev zero7 : List Int := [0, 0, 0, 0, 0, 0, 0]

theorem new_ring (w : World) : Arr (w.alloc (.cells #[.int .i64 0, .int .i64 0, .int .i64 0, .int .i64 0, .int .i64 0, .int .i64 0, .int .i64 0] 48)) w.heap.size zero7 := heap_alloc_new w _

/-- What readTelling hands back: the array of the list, or an array without points. -/
def readP (l : List Int) : List Int := if Tell l then padR l else neg7

theorem Arr.grown {w w' : World} {g g' : Nat} {P : List Int} (h : Arr w g P) (hg : w.grownBy w' (some g')) (hne : g ≠ g') : Arr w' g P :=
  (hg.block g h.lt (by simpa using hne)).trans h

/-- The array half read: the first k numbers, -1 behind. -/
def padK (l : List Int) (k : Nat) : List Int := l.take k ++ List.replicate (7 - k) (-1)
theorem padK_length (l : List Int) (k : Nat) (hk : k ≤ l.length) (h7 : k ≤ 7) : (padK l k).length = 7 := by simp [padK]; omega
theorem padK_step (l : List Int) (k : Nat) (hk : k < l.length) (h7 : k < 7) : (padK l k).set k (l.getD k 0) = padK l (k + 1) := by
  unfold padK
  have hl : (l.take k).length = k := by simp; omega
  rw [List.set_append_right _ _ (by omega), hl, Nat.sub_self]
  obtain ⟨m, hm⟩ : ∃ m, 7 - k = m + 1 := ⟨7 - k - 1, by omega⟩
  rw [hm, show 7 - (k + 1) = m by omega, List.replicate_succ, List.set_cons_zero]
  rw [List.take_succ_eq_append_getElem hk, List.append_assoc]
  simp [List.getD, hk]
theorem padK_full (l : List Int) : padK l l.length = padR l := by simp [padK, padR]

theorem tell_step (l : List Int) (n k : Nat) (hl : l.length = n) (hk : k < n) (h : (∀ j, j < k → 0 ≤ l.getD j 0 ∧ l.getD j 0 < n) ∧ (l.take k).Nodup) :
    (0 ≤ l.getD k 0 ∧ l.getD k 0 < n ∧ l.getD k 0 ∉ l.take k → (∀ j, j < k + 1 → 0 ≤ l.getD j 0 ∧ l.getD j 0 < n) ∧ (l.take (k + 1)).Nodup) ∧
    (¬ (0 ≤ l.getD k 0 ∧ l.getD k 0 < n ∧ l.getD k 0 ∉ l.take k) → ¬ Tell l) := by
  have hkl : k < l.length := by omega
  have e : l.take (k + 1) = l.take k ++ [l.getD k 0] := by
    rw [List.take_succ_eq_append_getElem hkl]; simp [List.getD, hkl]
  refine ⟨fun hx => ⟨fun j hj => ?_, ?_⟩, fun hx ht => hx ?_⟩
  · rcases Nat.lt_succ_iff_lt_or_eq.1 hj with hj | rfl
    · exact h.1 j hj
    · exact ⟨hx.1, hx.2.1⟩
  · rw [e, List.nodup_append]
    refine ⟨h.2, by simp, ?_⟩
    intro a ha b hb
    simp only [List.mem_singleton] at hb
    subst hb
    rintro rfl
    exact hx.2.2 ha
  · have hm := ht.2.2.1 _ (getD_mem l k hkl)
    refine ⟨hm.1, by omega, ?_⟩
    have hd := ht.2.2.2
    rw [← List.take_append_drop (k + 1) l, e] at hd
    have := (List.nodup_append.1 (List.nodup_append.1 hd).1).2.2
    intro hmem
    exact this _ hmem _ (by simp) rfl

theorem tell_yes {l : List Int} (h : Tell l) : tell l = true := by simpa [tell] using h
theorem tell_no {l : List Int} (h : ¬ Tell l) : tell l = false := by simpa [tell] using h
theorem tell_end (l : List Int) (n : Nat) (hl : l.length = n) (h3 : 3 ≤ n) (h7 : n ≤ 7) (h : (∀ j, j < n → 0 ≤ l.getD j 0 ∧ l.getD j 0 < n) ∧ (l.take n).Nodup) : Tell l := by
  have e : l.take n = l := List.take_of_length_le (by omega)
  rw [e] at h
  refine ⟨by omega, by omega, fun x hx => ?_, h.2⟩
  obtain ⟨j, hj, rfl⟩ := List.getElem_of_mem hx
  have := h.1 j (by omega)
  simp only [List.getD, List.getElem?_eq_getElem hj, Option.getD_some] at this
  rw [hl]
  exact this

set_option maxHeartbeats 1000000 in
theorem readT_any (A : Option Addr) (n c H : Nat) (l : List Int) (w : World) (h : Rd w H A n l) (hH : H ≤ w.heap.size) (hn : n ≤ 1048576) (hnc : n ≤ c) (hcm : c ≤ 9223372036854775807) :
    Calls Try.prog 80 #[.slice A n c] w fun e w' => e = .returned (.tuple #[.agg (ints (readP l)).toArray, .bool (tell l)]) ∧ Below w.heap.size w w' := by
  have HL := Lib.hid h.len
  go_enter Try.func80, Try.ntmps80
  go_wp2_with fail
  obtain ⟨W0, h0⟩ : ∃ W, W = w.alloc (.cells #[.int .i64 0, .int .i64 0, .int .i64 0, .int .i64 0, .int .i64 0, .int .i64 0, .int .i64 0] 48) := ⟨_, rfl⟩
  rw [← h0]
  have hs0 : W0.heap.size = w.heap.size + 1 := by rw [h0]; simp
  have hb0 : Below w.heap.size w W0 := by rw [h0]; exact (Below.refl _ _).alloc (Nat.le_refl _) _
  have ha0 : Arr W0 w.heap.size zero7 := by rw [h0]; exact new_ring w
  have hr0 : Rd W0 H A n l := h.below (hb0.mono hH)
  clear h h0
  generalize hB : w.heap.size = B at *
  have HB := Lib.hid hB
  clear hB
  refine (empty_any W0).mono ?_
  rintro e W1 ⟨rfl, hb⟩
  have hb1 : Below B w W1 := hb0.trans (hb.mono (by omega))
  have ha1 := ha0.below hb (by omega)
  have hr1 := hr0.below (hb.mono (by omega))
  have hs1 : B < W1.heap.size := by have := hb.size; omega
  clear hb hb0 ha0 hr0 hs0
  have ha2 := new_ring W1
  have ha3 := ha1.alloc (.cells #[.int .i64 0, .int .i64 0, .int .i64 0, .int .i64 0, .int .i64 0, .int .i64 0, .int .i64 0] 48)
  have hb2 := hb1.alloc (by omega) (.cells #[.int .i64 0, .int .i64 0, .int .i64 0, .int .i64 0, .int .i64 0, .int .i64 0, .int .i64 0] 48)
  have hr2 := hr1.alloc (by omega) (.cells #[.int .i64 0, .int .i64 0, .int .i64 0, .int .i64 0, .int .i64 0, .int .i64 0, .int .i64 0] 48)
  have HA2 := Lib.hid ha2
  have HA3 := Lib.hid ha3
  clear ha1 hb1 hr1 ha2 ha3
  generalize hG : W1.heap.size = G at *
  go_wp2_with (refine store_ring rfl _ _ rfl G zero7 neg7 rfl rfl (by first | rfl | (rw [← hG]; rfl)) rfl HA2 ?_; intro w2 HA4 hg2 hs2)
  have HA5 := Lib.hid (HA3.out.grown hg2 (by omega))
  have hb3 : Below B w w2 := hb2.grown hg2 (by simp; omega) (by simp; omega)
  have hr3 := hr2.below ((Below.refl H _).grown hg2 (by simp; omega) (by simp; omega))
  have HB3 := Lib.hid (show B < w2.heap.size by rw [hs2]; simp; omega)
  clear HA2 HA3 hg2 hs2 hr2 hb2 hG
  by_cases hs : 3 ≤ n ∧ n ≤ 7
  · have hb : (decide ((3 : Int) ≤ (n : Int)) && decide ((n : Int) ≤ 7)) = true := by simp; omega
    obtain ⟨h3, h7⟩ := hs
    go_wp2_with (go_at_call 105; refine (sizeIn_any _ _).mono ?_; rintro e w' ⟨rfl, rfl⟩)
    clear hb
    go_loopw [15] (fun i wr => ∃ k : Nat, k ≤ n ∧ i = .int .i64 k ∧ Hid ((∀ j, j < k → 0 ≤ l.getD j 0 ∧ l.getD j 0 < n) ∧ (l.take k).Nodup) ∧ Hid (Arr wr G (padK l k)) ∧ Hid (Arr wr B zero7) ∧ Rd wr H A n l ∧ Below B w wr) (fun i _ => n - (intOf i).toNat)
    case atStart => exact ⟨0, Nat.zero_le _, rfl, ⟨fun j hj => absurd hj (by omega), by simp⟩, HA4, HA5, hr3, hb3⟩
    case round =>
      obtain ⟨k, hk, rfl, hin, HG1, HB1, hrd, hbl⟩ := hrel
      clear hr3 hb3 HA4 HA5
      by_cases hlt : k < n
      · obtain ⟨b, o, rfl, hbH, hcs⟩ := hrd.at_ (by omega)
        have hc := hcs k hlt
        have hsub : Rd wr H (some ⟨b, o, none⟩) k (l.take k) := ⟨by rw [List.length_take, HL.out]; omega, fun _ => ⟨b, o, rfl, hbH, fun j hj => by
          rw [hcs j (by omega)]; simp [List.getD, hj]⟩⟩
        have T1 := Lib.hid (tell_step l n k HL.out hlt hin.out)
        have hG7 : (padK l k).length = 7 := padK_length l k (by rw [HL.out]; omega) (by omega)
        have hcg := HG1.out.cell (i := k) (by rw [hG7]; omega)
        have hfg := HG1.out.frozen k
        have hst := HG1.out.set_ k (l.getD k 0)
        rw [padK_step l k (by rw [HL.out]; exact hlt) (by omega)] at hst
        have HST := Lib.hid hst
        clear hcs hst hG7
        generalize (padK l k).getD k 0 = old at hcg
        generalize hx : l.getD k 0 = x at hc T1 HST
        have HX := Lib.hid hx
        clear hx
        have HC := fun W => Lib.hid (fun (hsub : Rd W H (some ⟨b, o, none⟩) k (l.take k)) => contains_any (some ⟨b, o, none⟩) k c H (l.take k) x W hsub (by omega))
        generalize hmk : decide (x ∈ l.take k) = mem at HC
        have HM := Lib.hid hmk
        clear hmk
        by_cases h0 : x < 0
        · have TF := Lib.hid (T1.out.2 (fun hh => by omega))
          clear T1 HC
          go_wp2_with (first
            | (go_at_call 82; refine (empty_any _).mono ?_; rintro e w5 ⟨rfl, hb5⟩; have HB5 := Lib.hid (HB1.out.below hb5 (by have := hbl.size; have := HB3.out; have := HB1.out.lt; omega)))
            | (refine store_ring rfl _ _ rfl B zero7 neg7 rfl rfl rfl rfl HB5 ?_; intro w6 HB6 hg6 _))
          exact ret_ring2 rfl B neg7 rfl rfl HB6 rfl ⟨by rw [readP, if_neg TF.out, tell_no TF.out]; rfl, by rw [HB.out]; exact (hbl.trans (hb5.mono (by have := hbl.size; have := HB.out; omega))).grown hg6 (by have := hb5.size; have := hbl.size; have := HB.out; omega) (by simp)⟩
        · by_cases h1 : (n : Int) ≤ x
          · have TF := Lib.hid (T1.out.2 (fun hh => by omega))
            clear T1 HC
            go_wp2_with (first
              | (go_at_call 82; refine (empty_any _).mono ?_; rintro e w5 ⟨rfl, hb5⟩; have HB5 := Lib.hid (HB1.out.below hb5 (by have := hbl.size; have := HB3.out; have := HB1.out.lt; omega)))
              | (refine store_ring rfl _ _ rfl B zero7 neg7 rfl rfl rfl rfl HB5 ?_; intro w6 HB6 hg6 _))
            exact ret_ring2 rfl B neg7 rfl rfl HB6 rfl ⟨by rw [readP, if_neg TF.out, tell_no TF.out]; rfl, by rw [HB.out]; exact (hbl.trans (hb5.mono (by have := hbl.size; have := HB.out; omega))).grown hg6 (by have := hb5.size; have := hbl.size; have := HB.out; omega) (by simp)⟩
          · have h0' : 0 ≤ x := by omega
            have h1' : x < n := by omega
            have g0 : decide (x < 0) = false := by simpa using h0'
            cases hmem : mem
            · subst hmem
              have TT := Lib.hid (T1.out.1 ⟨h0', h1', by have := HM.out; simpa using this⟩)
              have HC1 := fun W H1 => ((HC W).out H1)
              have HC2 := Lib.hid HC1
              clear T1 HC HC1
              go_wp2_with (go_at_call 83; refine (HC2.out _ hsub).mono ?_; rintro e w' ⟨rfl, rfl⟩)
              go_roundw
              case rel => exact ⟨k + 1, by omega, by go_num, TT, HST, Lib.hid (HB1.out.far (by simp; omega) _), hrd.below ((Below.refl _ _).setCell (by simp; omega) _), hbl.setCell (by simp; omega) _⟩
              case measure => simp [intOf]; omega
            · subst hmem
              have TF := Lib.hid (T1.out.2 (fun hh => by have := HM.out; simp at this; exact hh.2.2 this))
              have HC1 := fun W H1 => ((HC W).out H1)
              have HC2 := Lib.hid HC1
              clear T1 HC HC1
              go_wp2_with (first
                | (go_at_call 83; refine (HC2.out _ hsub).mono ?_; rintro e w' ⟨rfl, rfl⟩)
                | (go_at_call 82; refine (empty_any _).mono ?_; rintro e w5 ⟨rfl, hb5⟩; have HB5 := Lib.hid (HB1.out.below hb5 (by have := hbl.size; have := HB3.out; have := HB1.out.lt; omega)))
                | (refine store_ring rfl _ _ rfl B zero7 neg7 rfl rfl rfl rfl HB5 ?_; intro w6 HB6 hg6 _))
              exact ret_ring2 rfl B neg7 rfl rfl HB6 rfl ⟨by rw [readP, if_neg TF.out, tell_no TF.out]; rfl, by rw [HB.out]; exact (hbl.trans (hb5.mono (by have := hbl.size; have := HB.out; omega))).grown hg6 (by have := hb5.size; have := hbl.size; have := HB.out; omega) (by simp)⟩
      · obtain rfl : k = n := by omega
        have ht : Tell l := tell_end l k HL.out h3 h7 hin.out
        have HT := Lib.hid ht
        have e7 : padK l k = padR l := by rw [← HL.out]; exact padK_full l
        rw [e7] at HG1
        have hR7 : (padR l).length = 7 := padR_length l (by rw [HL.out]; exact h7)
        have H7 := Lib.hid hR7
        have hrp : readP l = padR l := by rw [readP, if_pos ht]
        have HRP := Lib.hid hrp
        clear ht e7 hrp hR7
        generalize padR l = PR at *
        go_wp2_with (first
          | (refine load_ring rfl _ rfl G PR H7.out rfl HG1 ?_)
          | (refine store_ring rfl _ _ rfl B zero7 PR rfl H7.out rfl rfl HB1 ?_; intro w6 HB6 hg6 _))
        exact ret_ring2 rfl B PR H7.out rfl HB6 rfl ⟨by rw [HRP.out, tell_yes HT.out]; rfl, by rw [HB.out]; exact hbl.grown hg6 (by have := hbl.size; have := HB.out; omega) (by simp)⟩
  · have hb : (decide ((3 : Int) ≤ (n : Int)) && decide ((n : Int) ≤ 7)) = false := by simp; omega
    have TF : Hid (¬ Tell l) := fun ht => hs ⟨by rw [← HL.out]; exact ht.1, by rw [← HL.out]; exact ht.2.1⟩
    clear hs
    go_wp2_with (first
      | (go_at_call 105; refine (sizeIn_any _ _).mono ?_; rintro e w' ⟨rfl, rfl⟩)
      | (refine load_ring rfl _ rfl G neg7 rfl rfl HA4 ?_)
      | (refine store_ring rfl _ _ rfl B zero7 neg7 rfl rfl rfl rfl HA5 ?_; intro w6 HB6 hg6 _))
    exact ret_ring2 rfl B neg7 rfl rfl HB6 rfl ⟨by rw [readP, if_neg TF.out, tell_no TF.out]; rfl, by rw [HB.out]; exact hb3.grown hg6 (by have := HB3.out; have := hb3.size; have := HB.out; omega) (by simp)⟩
end Go.Proofs.Ytdlgabefbomleaa

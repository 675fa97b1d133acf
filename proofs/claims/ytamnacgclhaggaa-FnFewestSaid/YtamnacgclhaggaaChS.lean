/- How many pairs of a list part each other: the model's count. -/
import Derived.Test.YtamnacgclhaggaaCho
namespace Go.Proofs.Ytamnacgclhaggaa
open Go.ChangeShapes Go.WideShapes Go.ChangeAt Go.RowKit

/-- Whether two pairs have four different points and part each other. -/
def chkB (l e o : List Int) : Bool := four l.length (e ++ o) && partB l (e ++ o)
def cin (f : Nat → Nat → Bool) (i : Nat) : Nat → Nat
  | 0 => 0
  | k + 1 => cin f i k + if f i k then 1 else 0
def cout (f : Nat → Nat → Bool) : Nat → Nat
  | 0 => 0
  | i + 1 => cout f i + cin f i i
theorem cin_le (f : Nat → Nat → Bool) (i : Nat) : ∀ k, cin f i k ≤ k
  | 0 => Nat.le_refl _
  | k + 1 => by
    have := cin_le f i k
    unfold cin
    split <;> omega
theorem cout_le (f : Nat → Nat → Bool) : ∀ i, i ≤ 8 → cout f i ≤ i * 8
  | 0, _ => Nat.le_refl _
  | i + 1, h => by
    have h1 := cout_le f i (by omega)
    have h2 := cin_le f i i
    unfold cout
    omega
def chkF (l : List Int) (L : List (List Int)) (i k : Nat) : Bool := chkB l (rowK L i) (rowK L k)
def chN (l : List Int) (L : List (List Int)) : Nat := cout (chkF l L) L.length

theorem lit4_rd (V : World) (x y z u : Int) : Rd (V.alloc (.cells #[.int .i64 x, .int .i64 y, .int .i64 z, .int .i64 u] 3)) (V.heap.size + 1) (some ⟨V.heap.size, 0, none⟩) 4 [x, y, z, u] := ⟨rfl, fun _ => ⟨V.heap.size, 0, rfl, by omega, fun k hk => by
  have h := heap_alloc_new V (.cells #[.int .i64 x, .int .i64 y, .int .i64 z, .int .i64 u] 3)
  rw [Nat.zero_add, cell_of_row _ _ _ _ _ (0, 0) h]
  obtain rfl | rfl | rfl | rfl : k = 0 ∨ k = 1 ∨ k = 2 ∨ k = 3 := by omega
  all_goals rfl⟩⟩

set_option maxRecDepth 10000 in
set_option maxHeartbeats 2000000 in
theorem l3Count_any (A : Option Addr) (n c H : Nat) (l : List Int) (A' : Option Addr) (m d : Nat) (L : List (List Int)) (w : World) (h : Rd w H A n l) (h' : RdS w H A' m L) (hH : H ≤ w.heap.size) (ht : Tell l) (hm : m ≤ 8) (hM : ∀ t ∈ L, Two (n : Int) t) :
    Calls Try.prog 80 #[.slice A n c, .slice A' m d] w fun e w' => e = .returned (.int .i64 (chN l L : Nat)) ∧ Below w.heap.size w w' := by
  have HL := Lib.hid h'.len
  have HLl := Lib.hid h.len
  have HM := Lib.hid hM
  have HT := Lib.hid ht
  have h3 : 3 ≤ n := by have := ht.1; rw [HLl.out] at this; exact this
  have h7 : n ≤ 7 := by have := ht.2.1; rw [HLl.out] at this; exact this
  have HRD := Lib.hid (fun W (hb : Below w.heap.size w W) => h.below (hb.mono hH))
  have HRS := Lib.hid (fun W (hb : Below w.heap.size w W) => h'.below (hb.mono hH))
  have HCN : Hid (chN l L = cout (chkF l L) m) := by rw [Hid, chN, HL.out]
  clear hM ht h h'
  go_enter Try.func80, Try.ntmps80
  go_wp2
  go_loopw [5, 6] (fun s i wr => ∃ k : Nat, k ≤ m ∧ i = .int .i64 k ∧ s = .int .i64 (cout (chkF l L) k : Nat) ∧ Below w.heap.size w wr) (fun _ i _ => m - (intOf i).toNat)
  case atStart => exact ⟨0, Nat.zero_le _, rfl, rfl, Below.refl _ _⟩
  case round =>
    obtain ⟨i, hi, rfl, rfl, hbl⟩ := hrel
    have hcb := cout_le (chkF l L) i (by omega)
    by_cases hlt : i < m
    · have HCO : Hid (cout (chkF l L) (i + 1) = cout (chkF l L) i + cin (chkF l L) i i) := rfl
      generalize cout (chkF l L) i = s0 at *
      go_wp2
      go_loopw [5, 7] (fun s j wr => ∃ k : Nat, k ≤ i ∧ j = .int .i64 k ∧ s = .int .i64 ((s0 + cin (chkF l L) i k : Nat) : Int) ∧ Below w.heap.size w wr) (fun _ j _ => i - (intOf j).toNat)
      case atStart => exact ⟨0, Nat.zero_le _, by go_num, by simp [cin], hbl⟩
      case round =>
        obtain ⟨k, hk, rfl, rfl, hbk⟩ := hrel
        clear hbl
        have hcl := cin_le (chkF l L) i k
        by_cases hltk : k < i
        · have hkm : k < m := by omega
          have HCI : Hid (cin (chkF l L) i (k + 1) = cin (chkF l L) i k + if chkB l (rowK L i) (rowK L k) then 1 else 0) := rfl
          generalize cin (chkF l L) i k = s1 at *
          have hrs := HRS.out wr hbk
          obtain ⟨b, o, e, hbB, hcs⟩ := hrs.at_ (by omega)
          subst e
          obtain ⟨Ai, ci, hci, hri, hzi, hcmi⟩ := hcs i (by omega)
          obtain ⟨Ak, ck, hck, hrk, hzk, hcmk⟩ := hcs k (by omega)
          have ti := HM.out _ (rowK_mem (M := L) (k := i) (by rw [HL.out]; omega))
          have tk := HM.out _ (rowK_mem (M := L) (k := k) (by rw [HL.out]; omega))
          obtain ⟨x, y, ei⟩ := of_two ti.1
          obtain ⟨z, u, ek⟩ := of_two tk.1
          rw [ei] at ti hci hri HCI
          rw [ek] at tk hck hrk HCI
          have hci' : wr.cell? ⟨b, o + i, none⟩ = some (.slice Ai 2 ci) := hci
          have hck' : wr.cell? ⟨b, o + k, none⟩ = some (.slice Ak 2 ck) := hck
          have hri' : Rd wr H Ai 2 [x, y] := hri
          have hrk' : Rd wr H Ak 2 [z, u] := hrk
          obtain ⟨bi, oi, e, _, x0, x1⟩ := rd2 hri'
          subst e
          obtain ⟨bk, ok, e, _, y0, y1⟩ := rd2 hrk'
          subst e
          have hmem : ∀ v, (0 ≤ v ∧ v < (n : Int)) → v ∈ l := fun v hv => HT.out.has hv.1 (by rw [HLl.out]; exact hv.2)
          have mx := hmem x (ti.2.1 x (by simp))
          have my := hmem y (ti.2.1 y (by simp))
          have mz := hmem z (tk.2.1 z (by simp))
          have mu := hmem u (tk.2.1 u (by simp))
          obtain ⟨V, hV⟩ : ∃ V, V = wr.drew := ⟨_, rfl⟩
          have hbV : Below w.heap.size w V := by rw [hV]; exact hbk.drew
          have hVs : w.heap.size ≤ V.heap.size := hbV.size
          have HF := Lib.hid (l3Four_any (some ⟨V.heap.size, 0, none⟩) 4 4 (V.heap.size + 1) [x, y, z, u] (n : Int) (V.alloc (.cells #[.int .i64 x, .int .i64 y, .int .i64 z, .int .i64 u] 3)) (lit4_rd V x y z u) (by omega) (by omega) (by omega))
          have HP := Lib.hid (l3Parts_any A n c H l (some ⟨V.heap.size, 0, none⟩) 4 (V.heap.size + 1) x y z u (V.alloc (.cells #[.int .i64 x, .int .i64 y, .int .i64 z, .int .i64 u] 3)) ((HRD.out V hbV).alloc (by omega) _) (lit4_rd V x y z u) (by omega) h7 mx my mz mu)
          have HBV := Lib.hid (hbV.alloc hVs (.cells #[.int .i64 x, .int .i64 y, .int .i64 z, .int .i64 u] 3))
          have hck : chkB l [x, y] [z, u] = (four (n : Int) [x, y, z, u] && partB l [x, y, z, u]) := by rw [chkB, HLl.out]; rfl
          rw [hck] at HCI
          clear hcs hci hck hri hrk hri' hrk' ti tk ei ek hzi hzk hcmi hcmk hmem mx my mz mu hrs
          cases hf : four (n : Int) [x, y, z, u] with
          | false =>
            rw [hf] at HF HCI
            clear HP hf
            go_wp2
            go_still_tail 24, (by kernel_rfl)
            change wpList _ _ _ _ _ wr.drew
            rw [← hV]
            clear hV hci' hck' x0 x1 y0 y1
            go_wp2_with (go_at_call 63; refine HF.out.mono ?_; rintro e w' ⟨rfl, rfl⟩)
            go_roundw
            case rel => exact ⟨k + 1, by omega, by go_num, by rw [HCI.out]; simp, HBV.out⟩
            case measure => simp [intOf]; omega
          | true =>
            rw [hf] at HF HCI
            clear hf
            cases hp : partB l [x, y, z, u] with
            | false =>
              rw [hp] at HP HCI
              clear hp
              go_wp2
              go_still_tail 24, (by kernel_rfl)
              change wpList _ _ _ _ _ wr.drew
              rw [← hV]
              clear hV hci' hck' x0 x1 y0 y1
              go_wp2_with (first
                | (go_at_call 63; refine HF.out.mono ?_; rintro e w' ⟨rfl, rfl⟩)
                | (go_at_call 64; refine HP.out.mono ?_; rintro e w' ⟨rfl, p, rfl⟩))
              go_roundw
              case rel => exact ⟨k + 1, by omega, by go_num, by rw [HCI.out]; simp, below_drewN HBV.out _⟩
              case measure => simp [intOf]; omega
            | true =>
              rw [hp] at HP HCI
              clear hp
              go_wp2
              go_still_tail 24, (by kernel_rfl)
              change wpList _ _ _ _ _ wr.drew
              rw [← hV]
              clear hV hci' hck' x0 x1 y0 y1
              go_wp2_with (first
                | (go_at_call 63; refine HF.out.mono ?_; rintro e w' ⟨rfl, rfl⟩)
                | (go_at_call 64; refine HP.out.mono ?_; rintro e w' ⟨rfl, p, rfl⟩))
              go_roundw
              case rel => exact ⟨k + 1, by omega, by go_num, by rw [HCI.out]; go_num, below_drewN HBV.out _⟩
              case measure => simp [intOf]; omega
        · obtain rfl : k = i := by omega
          go_wp2
          go_roundw
          case rel => exact ⟨k + 1, by omega, by go_num, by rw [HCO.out], hbk⟩
          case measure => simp [intOf]; omega
    · obtain rfl : i = m := by omega
      go_wp2
      go_ret
      exact ⟨by rw [HCN.out]; rfl, hbl⟩
end Go.Proofs.Ytamnacgclhaggaa

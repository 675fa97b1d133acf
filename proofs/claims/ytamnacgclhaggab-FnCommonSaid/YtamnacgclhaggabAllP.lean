/- All partings that part on a ring: what they are. -/
import Derived.Test.YtamnacgclhaggabChS
import Derived.Test.YtamnacgclhaggabPE
namespace Go.Proofs.Ytamnacgclhaggab
open Go.ChangeShapes Go.WideShapes Go.ChangeAt Go.RowKit

def p4 (a b c d : Nat) : List Int := [(a : Int), (b : Int), (c : Int), (d : Int)]
/-- The numbers from a + 1 on, ahead of b. -/
def upto (a b : Nat) : List Nat := List.range' (a + 1) (b - (a + 1))
theorem upto_self (a : Nat) : upto a (a + 1) = [] := by simp [upto]
theorem upto_succ (a b : Nat) (h : a < b) : upto a (b + 1) = upto a b ++ [b] := by
  unfold upto
  rw [show b + 1 - (a + 1) = (b - (a + 1)) + 1 by omega, List.range'_concat]
  rw [show a + 1 + 1 * (b - (a + 1)) = b by omega]
theorem upto_mem {a b x : Nat} (h : x ∈ upto a b) : a < x ∧ x < b := by
  unfold upto at h
  rw [List.mem_range'_1] at h
  omega
/-- One parting, if it parts. -/
def pk (l : List Int) (a b c d : Nat) : List (List Int) := if four l.length (p4 a b c d) && partB l (p4 a b c d) then [p4 a b c d] else []
def sz (l : List Int) (a b c d : Nat) : List (List Int) := (upto c d).flatMap fun j => pk l a b c j
def sy (l : List Int) (n a b c : Nat) : List (List Int) := (upto a c).flatMap fun j => sz l a b j n
def sx (l : List Int) (n a b : Nat) : List (List Int) := (upto a b).flatMap fun j => sy l n a j n
def sw (l : List Int) (n a : Nat) : List (List Int) := (List.range a).flatMap fun j => sx l n j n
def allP (l : List Int) : List (List Int) := sw l l.length l.length
theorem sz_self (l : List Int) (a b c : Nat) : sz l a b c (c + 1) = [] := by simp [sz, upto_self]
theorem sz_succ (l : List Int) (a b c d : Nat) (h : c < d) : sz l a b c (d + 1) = sz l a b c d ++ pk l a b c d := by simp [sz, upto_succ c d h]
theorem sy_self (l : List Int) (n a b : Nat) : sy l n a b (a + 1) = [] := by simp [sy, upto_self]
theorem sy_succ (l : List Int) (n a b c : Nat) (h : a < c) : sy l n a b (c + 1) = sy l n a b c ++ sz l a b c n := by simp [sy, upto_succ a c h]
theorem sx_self (l : List Int) (n a : Nat) : sx l n a (a + 1) = [] := by simp [sx, upto_self]
theorem sx_succ (l : List Int) (n a b : Nat) (h : a < b) : sx l n a (b + 1) = sx l n a b ++ sy l n a b n := by simp [sx, upto_succ a b h]
theorem sw_zero (l : List Int) (n : Nat) : sw l n 0 = [] := rfl
theorem sw_succ (l : List Int) (n a : Nat) : sw l n (a + 1) = sw l n a ++ sx l n a n := by simp [sw, List.range_succ]

theorem flatMap_le {α β : Type} (L : List α) (f : α → List β) (m : Nat) (h : ∀ x ∈ L, (f x).length ≤ m) : (L.flatMap f).length ≤ L.length * m := by
  induction L with
  | nil => simp
  | cons x L ih =>
    have h1 := h x (by simp)
    have h2 := ih (fun y hy => h y (by simp [hy]))
    rw [List.flatMap_cons, List.length_append, List.length_cons, Nat.succ_mul]
    omega
theorem upto_len (a b : Nat) : (upto a b).length ≤ b := by simp [upto]
theorem pk_len (l : List Int) (a b c d : Nat) : (pk l a b c d).length ≤ 1 := by unfold pk; split <;> simp
theorem sz_len (l : List Int) (a b c d : Nat) (h : d ≤ 7) : (sz l a b c d).length ≤ 7 := by
  have h1 := flatMap_le (upto c d) (fun j => pk l a b c j) 1 (fun x _ => pk_len _ _ _ _ _)
  have h2 := upto_len c d
  unfold sz; omega
theorem sy_len (l : List Int) (n a b c : Nat) (hn : n ≤ 7) (h : c ≤ 7) : (sy l n a b c).length ≤ 49 := by
  have h1 := flatMap_le (upto a c) (fun j => sz l a b j n) 7 (fun x _ => sz_len _ _ _ _ _ hn)
  have h2 := upto_len a c
  unfold sy; omega
theorem sx_len (l : List Int) (n a b : Nat) (hn : n ≤ 7) (h : b ≤ 7) : (sx l n a b).length ≤ 343 := by
  have h1 := flatMap_le (upto a b) (fun j => sy l n a j n) 49 (fun x _ => sy_len _ _ _ _ _ hn hn)
  have h2 := upto_len a b
  unfold sx; omega
theorem sw_len (l : List Int) (n a : Nat) (hn : n ≤ 7) (h : a ≤ 7) : (sw l n a).length ≤ 2401 := by
  have h1 := flatMap_le (List.range a) (fun j => sx l n j n) 343 (fun x _ => sx_len _ _ _ _ hn hn)
  rw [List.length_range] at h1
  unfold sw; omega
theorem allP_len (l : List Int) (h : l.length ≤ 7) : (allP l).length ≤ 2401 := sw_len l _ _ h h
theorem pk_row (l : List Int) (a b c d : Nat) : ∀ p ∈ pk l a b c d, p.length = 4 := fun p hp => by
  unfold pk at hp
  split at hp
  · rw [List.mem_singleton.1 hp]; rfl
  · simp at hp
theorem allP_row (l : List Int) : ∀ p ∈ allP l, p.length = 4 := fun p hp => by
  unfold allP sw sx sy sz at hp
  simp only [List.mem_flatMap] at hp
  obtain ⟨_, _, _, _, _, _, _, _, h⟩ := hp
  exact pk_row _ _ _ _ _ p h

set_option maxRecDepth 10000 in
set_option maxHeartbeats 4000000 in
theorem l3All_any (A : Option Addr) (n c H : Nat) (l : List Int) (w : World) (h : Rd w H A n l) (hH : H ≤ w.heap.size) (ht : Tell l) :
    Calls Try.prog 53 #[.slice A n c] w fun e w' => ∃ v, e = .returned v ∧ GrowS w' w.heap.size v (allP l) ∧ Below w.heap.size w w' := by
  obtain ⟨i0, hi, hz0, hz1, hz2⟩ := info_parts row_info
  have hg0 : Hid (GrowS (w.alloc (.cells #[] 23)) w.heap.size (.slice (some ⟨w.heap.size, 0, none⟩) 0 0) []) := GrowS.empty w (Nat.le_refl _)
  have hb0 : Below w.heap.size w (w.alloc (.cells #[] 23)) := (Below.refl _ _).alloc (Nat.le_refl _) _
  have HLl := Lib.hid h.len
  have HT := Lib.hid ht
  have h3 : 3 ≤ n := by have := ht.1; rw [HLl.out] at this; exact this
  have h7 : n ≤ 7 := by have := ht.2.1; rw [HLl.out] at this; exact this
  have HRD := Lib.hid (fun W (hb : Below w.heap.size w W) => h.below (hb.mono hH))
  have HAP : Hid (allP l = sw l n n) := by rw [Hid, allP, HLl.out]
  clear h ht
  go_enter Try.func53, Try.ntmps53
  go_wp2
  generalize (w.alloc (.cells #[] 23)) = W0 at *
  go_loopw [3, 5] (fun v i wr => ∃ a : Nat, a ≤ n ∧ i = .int .i64 a ∧ Hid (GrowS wr w.heap.size v (sw l n a)) ∧ Below w.heap.size w wr) (fun _ i _ => n - (intOf i).toNat)
  case atStart => exact ⟨0, Nat.zero_le _, rfl, by simpa [sw_zero, Hid] using hg0, hb0⟩
  case round =>
    obtain ⟨a, ha, rfl, hga, hbla⟩ := hrel
    clear hg0 hb0
    by_cases hlta : a < n
    · go_wp2
      go_loopw [3, 6] (fun v i wr => ∃ b : Nat, b ≤ n ∧ a < b ∧ i = .int .i64 b ∧ Hid (GrowS wr w.heap.size v (sw l n a ++ sx l n a b)) ∧ Below w.heap.size w wr) (fun _ i _ => n - (intOf i).toNat)
      case atStart => exact ⟨a + 1, by omega, by omega, by go_num, by simpa [sx_self, Hid] using hga, hbla⟩
      case round =>
        obtain ⟨b, hb, hab, rfl, hgb, hblb⟩ := hrel
        clear hga hbla
        by_cases hltb : b < n
        · go_wp2
          go_loopw [3, 7] (fun v i wr => ∃ c : Nat, c ≤ n ∧ a < c ∧ i = .int .i64 c ∧ Hid (GrowS wr w.heap.size v (sw l n a ++ sx l n a b ++ sy l n a b c)) ∧ Below w.heap.size w wr) (fun _ i _ => n - (intOf i).toNat)
          case atStart => exact ⟨a + 1, by omega, by omega, by go_num, by simpa [sy_self, Hid] using hgb, hblb⟩
          case round =>
            obtain ⟨y, hy, hay, rfl, hgy, hbly⟩ := hrel
            clear hgb hblb
            by_cases hlty : y < n
            · go_wp2
              go_loopw [3, 8] (fun v i wr => ∃ d : Nat, d ≤ n ∧ y < d ∧ i = .int .i64 d ∧ Hid (GrowS wr w.heap.size v (sw l n a ++ sx l n a b ++ sy l n a b y ++ sz l a b y d)) ∧ Below w.heap.size w wr) (fun _ i _ => n - (intOf i).toNat)
              case atStart => exact ⟨y + 1, by omega, by omega, by go_num, by simpa [sz_self, Hid] using hgy, hbly⟩
              case round =>
                obtain ⟨z, hz, hyz, rfl, hgz, hblz⟩ := hrel
                clear hgy hbly
                by_cases hltz : z < n
                · have hnx : Hid (sw l n a ++ sx l n a b ++ sy l n a b y ++ sz l a b y z ++ pk l a b y z = sw l n a ++ sx l n a b ++ sy l n a b y ++ sz l a b y (z + 1)) := by rw [Hid, sz_succ _ _ _ _ _ hyz]; simp only [List.append_assoc]
                  have HML : Hid ((sw l n a ++ sx l n a b ++ sy l n a b y ++ sz l a b y z).length ≤ 3000) := by
                    have h1 := sw_len l n a h7 (by omega)
                    have h2 := sx_len l n a b h7 (by omega)
                    have h4 := sy_len l n a b y h7 (by omega)
                    have h5 := sz_len l a b y z (by omega)
                    simp only [Hid, List.length_append]; omega
                  obtain ⟨M, hM⟩ : ∃ M, M = sw l n a ++ sx l n a b ++ sy l n a b y ++ sz l a b y z := ⟨_, rfl⟩
                  rw [← hM] at hgz hnx HML
                  clear hM
                  have hmem : ∀ v : Nat, v < n → (v : Int) ∈ l := fun v hv => HT.out.has (by omega) (by rw [HLl.out]; omega)
                  have hBs : w.heap.size ≤ wr.heap.size := hblz.size
                  have HF := Lib.hid (l3Four_any (some ⟨wr.heap.size, 0, none⟩) 4 4 (wr.heap.size + 1) [(a : Int), (b : Int), (y : Int), (z : Int)] (n : Int) (wr.alloc (.cells #[.int .i64 (a : Int), .int .i64 (b : Int), .int .i64 (y : Int), .int .i64 (z : Int)] 3)) (lit4_rd wr _ _ _ _) (by omega) (by omega) (by omega))
                  have HP := Lib.hid (l3Parts_any A n c H l (some ⟨wr.heap.size, 0, none⟩) 4 (wr.heap.size + 1) (a : Int) (b : Int) (y : Int) (z : Int) (wr.alloc (.cells #[.int .i64 (a : Int), .int .i64 (b : Int), .int .i64 (y : Int), .int .i64 (z : Int)] 3)) ((HRD.out wr hblz).alloc (by omega) _) (lit4_rd wr _ _ _ _) (by omega) h7 (hmem a hlta) (hmem b hltb) (hmem y hlty) (hmem z hltz))
                  have HPK : Hid (pk l a b y z = if four (n : Int) [(a : Int), (b : Int), (y : Int), (z : Int)] && partB l [(a : Int), (b : Int), (y : Int), (z : Int)] then [[(a : Int), (b : Int), (y : Int), (z : Int)]] else []) := by rw [Hid, pk, HLl.out]; rfl
                  have HBA := Lib.hid (hblz.alloc hBs (.cells #[.int .i64 (a : Int), .int .i64 (b : Int), .int .i64 (y : Int), .int .i64 (z : Int)] 3))
                  have HGA := Lib.hid (hgz.out.alloc (.cells #[.int .i64 (a : Int), .int .i64 (b : Int), .int .i64 (y : Int), .int .i64 (z : Int)] 3))
                  have HRV := Lib.hid (RowV.lit wr hBs [(a : Int), (b : Int), (y : Int), (z : Int)] (by simp))
                  clear hgz hblz hmem
                  cases hf : four (n : Int) [(a : Int), (b : Int), (y : Int), (z : Int)] with
                  | false =>
                    rw [hf] at HF HPK
                    have HZ : Hid (GrowS (wr.alloc (.cells #[.int .i64 (a : Int), .int .i64 (b : Int), .int .i64 (y : Int), .int .i64 (z : Int)] 3)) w.heap.size u3 (sw l n a ++ sx l n a b ++ sy l n a b y ++ sz l a b y (z + 1))) := by
                      rw [Hid, ← hnx.out, HPK.out]; simpa using HGA.out
                    clear hf HP HPK HGA HRV
                    go_wp2_with (go_at_call 108; refine HF.out.mono ?_; rintro e w' ⟨rfl, rfl⟩)
                    go_roundw
                    case rel => exact ⟨z + 1, by omega, by omega, by go_num, HZ, HBA.out⟩
                    case measure => simp [intOf]; omega
                  | true =>
                    rw [hf] at HF HPK
                    clear hf
                    cases hp : partB l [(a : Int), (b : Int), (y : Int), (z : Int)] with
                    | false =>
                      rw [hp] at HP HPK
                      have HZ : Hid (GrowS (wr.alloc (.cells #[.int .i64 (a : Int), .int .i64 (b : Int), .int .i64 (y : Int), .int .i64 (z : Int)] 3)) w.heap.size u3 (sw l n a ++ sx l n a b ++ sy l n a b y ++ sz l a b y (z + 1))) := by
                        rw [Hid, ← hnx.out, HPK.out]; simpa using HGA.out
                      clear hp HPK HGA HRV
                      go_wp2_with (first
                        | (go_at_call 108; refine HF.out.mono ?_; rintro e w' ⟨rfl, rfl⟩)
                        | (go_at_call 109; refine HP.out.mono ?_; rintro e w' ⟨rfl, p, rfl⟩))
                      go_roundw
                      case rel => exact ⟨z + 1, by omega, by omega, by go_num, Lib.hid (HZ.out.drewN _), below_drewN HBA.out _⟩
                      case measure => simp [intOf]; omega
                    | true =>
                      rw [hp] at HP HPK
                      clear hp
                      go_wp2_with (go_at_call 108; refine HF.out.mono ?_; rintro e w' ⟨rfl, rfl⟩)
                      refine HP.out.mono ?_
                      rintro e w2 ⟨rfl, p, rfl⟩
                      have HG3 := Lib.hid (HGA.out.drewN p)
                      have HRV3 : Hid (RowV ((wr.alloc (.cells #[.int .i64 (a : Int), .int .i64 (b : Int), .int .i64 (y : Int), .int .i64 (z : Int)] 3)).drewN p) w.heap.size (.slice (some ⟨wr.heap.size, 0, none⟩) 4 4) [(a : Int), (b : Int), (y : Int), (z : Int)]) := Lib.hid (HRV.out.same fun _ _ => rfl)
                      have HBL3 := Lib.hid (below_drewN HBA.out p)
                      have hs3 : w.heap.size ≤ ((wr.alloc (.cells #[.int .i64 (a : Int), .int .i64 (b : Int), .int .i64 (y : Int), .int .i64 (z : Int)] 3)).drewN p).heap.size := HBL3.out.size
                      clear HGA HRV HBA HP HF
                      generalize hq : wr.heap.size = q at *
                      generalize (wr.alloc (.cells #[.int .i64 (a : Int), .int .i64 (b : Int), .int .i64 (y : Int), .int .i64 (z : Int)] 3)).drewN p = w3 at *
                      clear hq
                      obtain ⟨xs, hx1, hx2⟩ := HG3.out
                      have HX1 := Lib.hid hx1
                      have HX2 := Lib.hid hx2
                      have hkl : M.length ≤ 3000 := HML.out
                      clear hx1 hx2
                      go_wp2_with (at_builtin; refine wpList_append_own _ rfl _ _ 25 rfl w.heap.size 23 i0 (.slice none 0 0) 1 24 Try.underlying25 hi hz0 hz1 hz2 rfl (by decide) _ _ _ rfl (HX1.out.alloc _) ⟨w3.heap.size, 0, none⟩ 1 1 [.slice (some ⟨q, 0, none⟩) 4 4] rfl rfl (one_cell w3 _ _) (by simp [Value.oneCell']) (by unfold maxLen; omega) (by omega) (by simp; omega) ?_)
                      intro v' w5 hown5 hgr5 _
                      have HG5 := Lib.hid (grow_row rfl HX1.out HX2.out HRV3.out _ hown5 hgr5)
                      have HB5 := Lib.hid ((HBL3.out.alloc hs3 _).grown hgr5 (by simp; omega) (fun i hi => (HX1.out.lt i hi).1))
                      have HZ : Hid (GrowS w5 w.heap.size v' (sw l n a ++ sx l n a b ++ sy l n a b y ++ sz l a b y (z + 1))) := by
                        rw [Hid, ← hnx.out, HPK.out]; exact HG5.out
                      clear hown5 hgr5 HG5 HPK
                      go_wp2
                      go_roundw
                      case rel => exact ⟨z + 1, by omega, by omega, by go_num, HZ, HB5.out⟩
                      case measure => simp [intOf]; omega
                · obtain rfl : z = n := by omega
                  have HZ := hgz
                  rw [List.append_assoc, ← sy_succ _ _ _ _ _ hay] at HZ
                  clear hgz
                  go_wp2
                  go_roundw
                  case rel => exact ⟨y + 1, by omega, by omega, by go_num, HZ, hblz⟩
                  case measure => simp [intOf]; omega
            · obtain rfl : y = n := by omega
              have HZ := hgy
              rw [List.append_assoc, ← sx_succ _ _ _ _ hab] at HZ
              clear hgy
              go_wp2
              go_roundw
              case rel => exact ⟨b + 1, by omega, by omega, by go_num, HZ, hbly⟩
              case measure => simp [intOf]; omega
        · obtain rfl : b = n := by omega
          have HZ := hgb
          rw [← sw_succ] at HZ
          clear hgb
          go_wp2
          go_roundw
          case rel => exact ⟨a + 1, by omega, by go_num, HZ, hblb⟩
          case measure => simp [intOf]; omega
    · obtain rfl : a = n := by omega
      rw [← HAP.out] at hga
      go_wp2
      go_ret
      exact ⟨_, rfl, hga.out, hbla⟩
end Go.Proofs.Ytamnacgclhaggab

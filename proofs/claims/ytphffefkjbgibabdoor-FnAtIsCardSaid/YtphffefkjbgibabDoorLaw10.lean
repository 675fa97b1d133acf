/- Contracts of chapter 10's patterns over rows at hand; what is told is read. -/
import Derived.Test.YtphffefkjbgibabDoorPaT
import Derived.Test.YtphffefkjbgibabDoorDR
namespace Go.Proofs.YtphffefkjbgibabDoor
open Go.ChangeShapes Go.WideShapes Go.ChangeAt Go.RowKit

theorem Tab.step {w w' : World} (h : Tab w) (hb : Below w.heap.size w w') : Tab w' := h.on hb
theorem dgs_told (l : List Int) (h : ∀ x ∈ l, 0 ≤ x ∧ x ≤ 9) : dgs (l.flatMap fun x => [32, UInt8.ofNat (48 + x.toNat)]) = some l := by
  induction l with
  | nil => rfl
  | cons x l ih =>
    have hx := h x (by simp)
    have e : (UInt8.ofNat (48 + x.toNat)).toNat = 48 + x.toNat := by simp; omega
    rw [List.flatMap_cons]
    show dgs (32 :: UInt8.ofNat (48 + x.toNat) :: (l.flatMap fun x => [32, UInt8.ofNat (48 + x.toNat)])) = _
    rw [dgs_yes _ _ _ ⟨rfl, by omega, by omega⟩, ih fun y hy => h y (by simp [hy]), Option.map_some, e]
    congr 2
    omega
theorem rd_told (p : ByteArray) (l : List Int) (h : ∀ x ∈ l, 0 ≤ x ∧ x ≤ 9) : rdW p.data.toList (tld p l).data.toList = some l := by
  have e : (tld p l).data.toList = told p.data.toList l := by simp [tld]
  rw [e]
  unfold rdW told
  have hp : Lib.hasPrefix (p.data.toList ++ l.flatMap fun x => [32, UInt8.ofNat (48 + x.toNat)]) p.data.toList = true := by
    unfold Lib.hasPrefix
    rw [List.isPrefixOf_iff_prefix]
    exact List.prefix_append _ _
  rw [hp, if_pos rfl, List.drop_left]
  exact dgs_told l h
theorem at_told {l p : List Int} (h : pfB l p = true) : paB10 l p (paT l p) = true := by
  obtain ⟨ht, h0, hs, _⟩ := fir_mem h
  have hpp := part_pts ht.1.1 h0 hs
  have h7 := ht.1.1.2.1
  have e : paT l p = tld atW (partL l (firN l p)) := by rw [paT, h]; rfl
  rw [paB10, if_pos ht, e, rd_told _ _ fun x hx => by have := hpp.1 x hx; omega]
  simp [Option.filter, ckA_fir h]
theorem at_many {l p : List Int} {s : ByteArray} (h : paB10 l p s = true) : Two8 l p ∧ 0 < mnyN l p := by
  unfold paB10 at h
  split at h
  · rename_i ht
    refine ⟨ht, ?_⟩
    rcases hr : rdW atW.data.toList s.data.toList with _ | q
    · rw [hr] at h; cases h
    · rw [hr] at h
      have hck : ckA l p q = true := by
        cases hc : ckA l p q with
        | true => rfl
        | false => simp [Option.filter, hc] at h
      unfold ckA at hck
      simp only [Bool.and_eq_true] at hck
      obtain ⟨⟨⟨_, h2⟩, _⟩, h4⟩ := hck
      have hpt : Pts (l.length : Int) q := by simpa [pts] using h2
      have hs := maskN_lt2 l.length q hpt.1
      have hm : maskN q ∈ setsL l p := by
        unfold setsL
        exact List.mem_filter.2 ⟨List.mem_range.2 hs, h4⟩
      rw [← sets_len]
      exact List.length_pos_of_mem hm
  · cases h
theorem paT_size (l p : List Int) : (paT l p).size ≤ 100 := by
  unfold paT
  split
  · rename_i h
    obtain ⟨ht, h0, hs, _⟩ := fir_mem h
    have := part_siz ht.1.1 hs
    have := siz_le (firN l p)
    rw [tld_size]
    show 2 + 2 * _ ≤ 100
    omega
  · exact Nat.zero_le _

theorem cI_ProofAt {w : World} {A : Option Addr} {n c : Nat} {l : List Int} (h : Rw w A n c l) {A' : Option Addr} {n' c' : Nat} {p : List Int} (h' : Rw w A' n' c' p) (hT : Tab w) : Calls Tryd.prog 6 #[.slice A n c, .slice A' n' c'] w fun e w' => e = .returned (.tuple #[.string (paT l p), .bool (pfB l p)]) ∧ Below w.heap.size w w' :=
  paI_told A n c A' n' c' w.heap.size l p w h.rd h'.rd (Nat.le_refl _) h.big h'.big h.2.1 h.2.2.1 h'.2.1 h'.2.2.1 hT
theorem cS_ProofAt {w : World} {A : Option Addr} {n c : Nat} {l : List Int} (h : Rw w A n c l) {A' : Option Addr} {n' c' : Nat} {p : List Int} (h' : Rw w A' n' c' p) : Calls Tryd.prog 7 #[.slice A n c, .slice A' n' c'] w fun e w' => e = .returned (.tuple #[.string (paT l p), .bool (pfB l p)]) ∧ Below w.heap.size w w' :=
  paS_told A n c A' n' c' w.heap.size l p w h.rd h'.rd (Nat.le_refl _) h.big h'.big
theorem cI_ProofAtIs {w : World} {A : Option Addr} {n c : Nat} {l : List Int} (h : Rw w A n c l) {A' : Option Addr} {n' c' : Nat} {p : List Int} (h' : Rw w A' n' c' p) (s : ByteArray) (hs : s.size ≤ 1048576) (hT : Tab w) : Calls Tryd.prog 9 #[.slice A n c, .slice A' n' c', .string s] w fun e w' => e = .returned (.bool (paB10 l p s)) ∧ Below w.heap.size w w' :=
  paI10_any A n c A' n' c' w.heap.size l p s w h.rd h'.rd (Nat.le_refl _) h.big h'.big hs h.2.1 h.2.2.1 h'.2.1 h'.2.2.1 hT
theorem cS_ProofAtIs {w : World} {A : Option Addr} {n c : Nat} {l : List Int} (h : Rw w A n c l) {A' : Option Addr} {n' c' : Nat} {p : List Int} (h' : Rw w A' n' c' p) (s : ByteArray) (hs : s.size ≤ 1048576) : Calls Tryd.prog 11 #[.slice A n c, .slice A' n' c', .string s] w fun e w' => e = .returned (.bool (paB10 l p s)) ∧ Below w.heap.size w w' :=
  paS10_any A n c A' n' c' w.heap.size l p s w h.rd h'.rd (Nat.le_refl _) h.big h'.big hs
end Go.Proofs.YtphffefkjbgibabDoor

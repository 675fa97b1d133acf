/- Rings of tellings asked three by three: contracts and words for the laws' loops. -/
import Derived.Test.YtamnacgclhaggaaRwS
import Derived.Test.YtamnacgclhaggaaTgA
import Derived.Test.YtamnacgclhaggaaFirV
import Derived.Test.YtamnacgclhaggaaCC
import Derived.Test.YtamnacgclhaggaaMA
namespace Go.Proofs.Ytamnacgclhaggaa
open Go.ChangeShapes Go.WideShapes Go.ChangeAt Go.RowKit

theorem tg_key3 : ∀ n : Fin 7, 3 ≤ n.val → (ringsL n.val).all (fun l => ringB l) = true := by decide +kernel
theorem ring_of {n : Nat} {l : List Int} (h3 : 3 ≤ n) (h6 : n ≤ 6) (hl : l ∈ ringsL n) : ringB l = true := by
  have k := tg_key3 ⟨n, by omega⟩ h3
  rw [List.all_eq_true] at k
  exact k l hl
theorem in_has {n : Nat} {l t : List Int} (h3 : 3 ≤ n) (h6 : n ≤ 6) (hl : l ∈ ringsL n) (ht : Thr (n : Int) t) : inB l t = has3 l t := by
  have hI := ringsL_is n h3 h6 l hl
  unfold inB
  rw [ring_of h3 h6 hl, hI.1, (thr_yes ht).1]
  simp
section
variable {w : World} {A A' : Option Addr} {n c m d : Nat} {l t : List Int}
theorem cI_ThreeInR (h : Rw w A n c l) (h' : Rd w w.heap.size A' m t) (hm : m ≤ 1048576) (hmd : m ≤ d) (hdm : d ≤ 9223372036854775807) : Calls Try.prog 16 #[.slice A n c, .slice A' m d] w fun e w' => e = .returned (.bool (inB l t)) ∧ Below w.heap.size w w' :=
  tiI_any A n c A' m d w.heap.size l t w h.rd h' (Nat.le_refl _) h.big hm h.2.1 h.2.2.1 hmd hdm
end
section
variable {w : World} {A : Option Addr} {n c : Nat} {L : List (List Int)} (h : RwS w A n c L) (q : Int)
include h
theorem cI_ThreeMostRingV : Calls Try.prog 18 #[.int .i64 q, .slice A n c] w fun e w' => ∃ v, e = .returned (.tuple #[v, .bool (tel q L)]) ∧ NewR w' v (mrR q L) ∧ Below w.heap.size w w' :=
  (mrIv_any A n c w.heap.size q L w h.rd (Nat.le_refl _) h.1.2).mono fun _ _ ⟨v, e1, ho, hb⟩ => ⟨v, e1, ho.newR (mrR_length q L), hb⟩
end
theorem cN_ThreeMostRing {w : World} {A : Option Addr} {n c : Nat} {L : List (List Int)} (h : RwS w A n c L) (q : Int) : Calls Try.prog 19 #[.int .i64 q, .slice A n c] w fun e w' => ∃ v, e = .returned (.tuple #[v, .bool (tel q L)]) ∧ NewG w' v (mrR q L) ∧ Below w.heap.size w w' :=
  (mrS_any A n c w.heap.size q L w h.rd (Nat.le_refl _) h.1.2).mono fun _ _ ⟨v, e1, ho, hb⟩ => ⟨v, e1, ho.newG (mrR_length q L), hb⟩
/-- The first ring that agrees. -/
theorem first_told {q : Int} {L : List (List Int)} (h : fsB q L = true) : Tel q L ∧ fsR q L ∈ ringsL q.toNat ∧ (∀ t ∈ L, inB (fsR q L) t = true) ∧ ((fsR q L).length : Int) = q ∧ 0 < (agreeL q.toNat L).length := by
  unfold fsB at h
  split at h
  · rename_i ht
    obtain ⟨k, rfl, h3, h6⟩ := tel_nat ht
    have e : fsR (k : Int) L = rowK (agreeL k L) 0 := by rw [fsR, if_pos ht, Int.toNat_natCast]
    rw [Int.toNat_natCast] at h ⊢
    have hp : 0 < (agreeL k L).length := by simpa using h
    have hm := rowK_mem hp
    rw [← e] at hm
    obtain ⟨h1, h2⟩ := mem_agree.1 hm
    exact ⟨ht, h1, fun t htt => by rw [in_has h3 h6 h1 (ht.2.2.2 t htt)]; exact h2 t htt, by rw [(ringsL_is k h3 h6 _ h1).1], hp⟩
  · cases h
theorem rows_thr {q : Int} {L : List (List Int)} (h : Tel q L) (k : Nat) (hk : k < L.length) : (rowK L k).length = 3 := (h.2.2.2 _ (rowK_mem hk)).1
end Go.Proofs.Ytamnacgclhaggaa

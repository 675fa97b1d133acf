/- The laws' drawer of a ring and a three: two lists in new memory. -/
import Derived.Test.YtbfdbnminjhocaaDraw1
import Derived.Test.YtbfdbnminjhocaaDrawR
namespace Go.Proofs.Ytbfdbnminjhocaa
open Go.ChangeShapes Go.WideShapes Go.ChangeAt Go.RowKit

set_option maxRecDepth 10000 in
set_option maxHeartbeats 2000000 in
theorem drawThree_any (n c H : Nat) (A : Option Addr) (w : World) (hb : Byt w H A n) (hH : H ≤ w.heap.size) (hnc : n ≤ c) (hc : c ≤ 9223372036854775807) :
    Calls Try.prog 12 #[.slice A n c] w fun e w' => ∃ v v' l t, e = .returned (.tuple #[v, v']) ∧ RowV w' w.heap.size v l ∧ RowV w' w.heap.size v' t ∧ (l.length ≤ 7 ∧ t.length = 3) ∧ Below w.heap.size w w' := by
  have HOP := Lib.hid (openS_any n c H A w hb hH hnc hc)
  clear hb
  go_enter Try.func12, Try.ntmps12
  go_wp2_with fail
  refine HOP.out.mono ?_
  rintro e w1 ⟨rfl, ⟨n', hn', h1, h2⟩, hb1⟩
  generalize hR : w.heap.size = R at *
  have HR := Lib.hid hR
  have HB1 := Lib.hid h2
  have HRG := Lib.hid (ring91_any R n' c H 0 7 A w1 h1 h2 hH (by omega) hn' (by omega) (by omega))
  have HBL := Lib.hid hb1
  have hlt := h1.lt
  clear hR h1 h2 hb1 HOP
  go_wp2_with fail
  refine HRG.out.mono ?_
  rintro e w2 ⟨v, l, q, rfl, hv, ⟨hl, h1, hq⟩, hg⟩
  have HB2 := Lib.hid (HB1.out.grown hg hH)
  have HBL2 : Hid (Below R w w2) := HBL.out.grown hg (by omega) (by intro k hk; have e : R = k := Option.some.inj hk; omega)
  have hvs : ∀ k, v.ownBlock = some k → k ≠ R := fun k hk => by have := (hv.1.lt k hk).1; omega
  obtain ⟨Av, cv, e, hcv1, hcv2⟩ := hv.2
  subst e
  have HX : Hid (¬ (Value.slice Av l.length cv).ownBlock = some R) := fun hk => hvs R hk rfl
  have hv : RowV w2 R (.slice Av l.length cv) l := hv.less (by omega)
  have HV2 := Lib.hid hv
  clear hvs
  have HT := Lib.hid (fun m (h3 : 3 ≤ m) (h9 : m ≤ 100) => three91_any R n' c H q m A w2 h1 HB2.out hH (by omega) hn' h3 h9)
  have hs2 := hg.size
  have hlt2 : R < w2.heap.size := by omega
  clear hv h1 hg HRG HB1 HBL
  obtain ⟨ml, hml, hml7⟩ : ∃ ml : Nat, max 3 (l.length : Int) = (ml : Int) ∧ 3 ≤ ml ∧ ml ≤ 7 := ⟨max 3 l.length, by omega, by omega, by omega⟩
  have H3 := Lib.hid (HT.out ml (by omega) (by omega))
  clear HT
  go_wp2_with fail
  refine H3.out.mono ?_
  rintro e w3 ⟨⟨t, ht, rfl, hblk⟩, hg⟩
  have HG := Lib.hid hg
  have HK := Lib.hid hblk
  have HV3 : Hid (RowV w3 R (.slice Av l.length cv) l) := HV2.out.same (fun k hk => hg.block k ((HV2.out.1.lt k hk).2) (fun e => by have e1 : k = R := Option.some.inj e; subst e1; exact HX.out hk))
  clear hg hblk
  go_wp2
  go_ret2
  rw [HR.out]
  exact ⟨.slice Av l.length cv, .slice (some ⟨w2.heap.size, 0, none⟩) 3 3, l, t, rfl, HV3.out, ⟨.inr ⟨w2.heap.size, 0, 3, _, by rw [ht], by omega, HK.out, fun j hj => by rw [Nat.zero_add, List.getElem?_toArray, ints_get _ _ hj]⟩, some ⟨w2.heap.size, 0, none⟩, 3, by rw [ht], by omega, by omega⟩, ⟨hl, ht⟩, HBL2.out.grown HG.out (by omega) (by intro k hk; have e : R = k := Option.some.inj hk; omega)⟩
end Go.Proofs.Ytbfdbnminjhocaa

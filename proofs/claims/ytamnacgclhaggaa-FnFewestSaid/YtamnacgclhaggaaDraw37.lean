/- The laws' drawer of a scheme: some number, some lists of four. -/
import Derived.Test.YtamnacgclhaggaaDraw36
import Derived.StillTailTactics
namespace Go.Proofs.Ytamnacgclhaggaa
open Go.ChangeShapes Go.WideShapes Go.ChangeAt Go.RowKit

/-- An append to a slice of rows, by another name. -/
def apS (ts : Array TypeId) (ty : TypeId) (args : Array Value) : Sem Value := Builtin.append_ ts ty args
theorem apS_fold (ts : Array TypeId) (ty : TypeId) (args : Array Value) : Builtin.append_ ts ty args = apS ts ty args := rfl
theorem rowS_one {w : World} {B : Nat} {u : Value} {l : List Int} (h : RowV w B u l) : u.oneCell' = true := by
  obtain ⟨A, d, rfl, _⟩ := h.2
  rfl
theorem apS_run {V : World} {B : Nat} {v u : Value} {L : List (List Int)} {l : List Int} (h : GrowS V B v L) (hB : B ≤ V.heap.size) (hu : RowV V B u l) (hl : L.length ≤ 3000) :
    ∃ v' w', (∀ ty, (apS #[25, 25] ty #[v, .slice (some ⟨V.heap.size, 0, none⟩) 1 1]).run Try.prog (V.alloc (.cells #[u] 23)) = .ok v' w') ∧ GrowS w' B v' (L ++ [l]) ∧ (V.alloc (.cells #[u] 23)).grownBy w' v.ownBlock ∧ (∀ k, v.ownBlock = some k → B ≤ k) := by
  obtain ⟨xs, h1, h2⟩ := h
  obtain ⟨i0, hi, hz0, hz1, hz2⟩ := info_parts row_info
  obtain ⟨v', w', hrun, hown, hgr, _⟩ := run_append_own (P := Try.prog) (V.alloc (.cells #[u] 23)) B 25 25 23 i0 (.slice none 0 0) 1 24 Try.underlying25 hi hz0 hz1 hz2 rfl (by decide) v L.length xs (h1.alloc _) ⟨V.heap.size, 0, none⟩ 1 1 [u] rfl (one_cell V _ _) (by simpa using rowS_one hu) (by unfold maxLen; omega) (by omega) (by simp; omega)
  exact ⟨v', w', fun _ => hrun, grow_row rfl h1 h2 hu _ hown hgr, hgr, fun k hk => (h1.lt k hk).1⟩
theorem growS_dn {w : World} {B B' : Nat} {v : Value} {L : List (List Int)} (h : GrowS w B v L) (hB : B' ≤ B) : GrowS w B' v L := by
  obtain ⟨xs, h1, h2⟩ := h
  refine ⟨xs, ⟨h1.1, ?_⟩, fun k hk => ?_⟩
  · rcases h1.2 with e | ⟨g, cap, cur, e, hb, rest⟩
    · exact .inl e
    · exact .inr ⟨g, cap, cur, e, by omega, rest⟩
  · obtain ⟨vk, h3, h4⟩ := h2 k hk
    exact ⟨vk, h3, h4.less hB⟩
theorem rwS_of {w : World} {B : Nat} {v : Value} {L : List (List Int)} (h : GrowS w B v L) (ht : tot L ≤ 1048576) : ∃ A n c, v = .slice A n c ∧ RwS w A n c L ∧ n ≤ c ∧ c ≤ 9223372036854775807 := by
  obtain ⟨A, c, rfl, h1, h2⟩ := h.slice
  exact ⟨A, _, c, rfl, ⟨⟨h.rd.2, ht⟩, Nat.zero_le _⟩, h1, h2⟩
theorem tot_rows {k : Nat} {L : List (List Int)} (h : ∀ l ∈ L, l.length = k) (hk : k ≤ 7) (hl : L.length ≤ 100) : tot L ≤ 1048576 := by
  have key : ∀ k, k ≤ L.length → sumTo L k ≤ 7 * k := fun k => by
    induction k with
    | zero => intro _; simp [sumTo]
    | succ k ih =>
      intro hk
      have h1 := ih (by omega)
      have h2 := h _ (rowK_mem (show k < L.length by omega))
      simp only [sumTo]
      omega
  have := key L.length (Nat.le_refl _)
  unfold tot
  omega
/-- What stands in the midst of the drawing: the rows so far, the reader, the bytes. -/
structure ScB (w3 : World) (R H n c q : Nat) (A : Option Addr) (V : World) (v : Value) (L : List (List Int)) : Prop where
  g : GrowS V w3.heap.size v L
  r : RdAt V R A n c q
  y : Byt V H A n
  t : w3.grownBy V (some R)
section
variable {w3 V V' : World} {R H n c q q' : Nat} {A : Option Addr} {v : Value} {L : List (List Int)}
theorem ScB.grow (h : ScB w3 R H n c q A V v L) (hR : R < w3.heap.size) (hH : H ≤ R) (hg : V.grownBy V' (some R)) (hr : RdAt V' R A n c q') : ScB w3 R H n c q' A V' v L :=
  ⟨h.g.keep fun j hj1 hj2 => hg.block j hj2 (fun e => by have := Option.some.inj e; omega), hr, h.y.grown hg hH, grown_trans h.t hg⟩
theorem ScB.drewN (h : ScB w3 R H n c q A V v L) (k : Nat) : ScB w3 R H n c q A (V.drewN k) v L := ⟨h.g.drewN k, h.r, h.y.keep (fun _ _ _ => rfl), ⟨h.t.os, h.t.tape, h.t.output, h.t.size, h.t.block⟩⟩
theorem ScB.drew (h : ScB w3 R H n c q A V v L) : ScB w3 R H n c q A V.drew v L := ⟨h.g.drew, h.r, h.y.keep (fun _ _ _ => rfl), ⟨h.t.os, h.t.tape, h.t.output, h.t.size, h.t.block⟩⟩
theorem ScB.alloc (h : ScB w3 R H n c q A V v L) (hR : R < w3.heap.size) (hH : H ≤ R) (o : Obj) : ScB w3 R H n c q A (V.alloc o) v L :=
  h.grow hR hH (World.grownBy_alloc V o (some R)) (h.r.same (Below.heap_alloc V o R h.r.lt))
theorem ScB.size (h : ScB w3 R H n c q A V v L) : w3.heap.size ≤ V.heap.size := h.t.size
theorem ScB.app {w7 : World} {v7 : Value} {L' : List (List Int)} {o : Obj} (h : ScB w3 R H n c q A V v L) (hR : R < w3.heap.size) (hH : H ≤ R) (g7 : GrowS w7 w3.heap.size v7 L') (b7 : (V.alloc o).grownBy w7 v.ownBlock) (d7 : ∀ k, v.ownBlock = some k → w3.heap.size ≤ k) : ScB w3 R H n c q A w7 v7 L' := by
  have hs := h.size
  have hk : ∀ j, j < w3.heap.size → w7.heap[j]? = V.heap[j]? := fun j hj => (b7.block j (by simp; omega) (fun e => by have := d7 j e.symm; omega)).trans (Below.heap_alloc V o j (by omega))
  exact ⟨g7, h.r.same (hk R hR), h.y.keep (fun b o hb => World.cell?_of_block (hk b (by omega))), ⟨b7.os.trans h.t.os, b7.tape.trans h.t.tape, b7.output.trans h.t.output, by have := b7.size; simp at this; omega, fun j hj hjR => (hk j hj).trans (h.t.block j hj hjR)⟩⟩
end
def SchN (w : World) (e : Ending) (w' : World) : Prop := ∃ (m : Nat) (A : Option Addr) (n c : Nat) (L : List (List Int)), e = .returned (.tuple #[.int .i64 (m : Int), .slice A n c]) ∧ RwS w' A n c L ∧ (n ≤ c ∧ c ≤ 9223372036854775807 ∧ n ≤ 9 ∧ 3 ≤ m ∧ m ≤ 10) ∧ Below w.heap.size w w'
attribute [local go_sem ↓] apS_fold in
set_option maxRecDepth 10000 in
set_option maxHeartbeats 4000000 in
theorem scheme91_any (n c H : Nat) (A : Option Addr) (w : World) (hb : Byt w H A n) (hH : H ≤ w.heap.size) (hnc : n ≤ c) (hc : c ≤ 9223372036854775807) :
    Calls Try.prog 65 #[.slice A n c] w (SchN w) := by
  have HOP := Lib.hid (openS_any n c H A w hb hH hnc hc)
  clear hb
  go_enter Try.func65, Try.ntmps65
  go_wp2_with fail
  refine HOP.out.mono ?_
  rintro e w1 ⟨rfl, ⟨n', hn', h1, h2⟩, hb1⟩
  have HPK := Lib.hid (pick_any w.heap.size n' c H 0 3 A w1 h1 h2 hH (by omega) (by omega) (by omega) (by omega))
  have HB1 := Lib.hid hb1
  have HY1 := Lib.hid h2
  have hlt := h1.lt
  clear h1 h2 hb1 HOP
  go_wp2_with fail
  refine HPK.out.mono ?_
  rintro e w2 ⟨⟨v, hv, rfl⟩, h1, hg, hz⟩
  clear hz
  have HB2 := Lib.hid (below_grown HB1.out hg hlt)
  have HY2 := Lib.hid (HY1.out.grown hg hH)
  obtain ⟨m, hm⟩ : ∃ m : Nat, m = 4 + v := ⟨_, rfl⟩
  have hw1 : IntKind.i64.wrap (4 + (v : Int)) = (m : Int) := by rw [IntWalk.i64_in _ (by omega)]; omega
  have lm4 : 4 ≤ m := by omega
  have lm6 : m ≤ 6 := by omega
  clear hv hm
  have HOF := Lib.hid (of91t_any w.heap.size n' c H (0 + 1) m A w2 h1 HY2.out hH (by omega) (by omega) (by omega) (by omega))
  have hlt2 := h1.lt
  clear h1 hg HPK HB1 HY1
  go_wp2_with fail
  refine HOF.out.mono ?_
  rintro e w3 ⟨av, l, q, rfl, hown, ⟨hll, hof, h1, hq⟩, hg⟩
  have hring := ofL_ring hll hof (by omega) (by omega)
  obtain ⟨Aa, ca, rfl⟩ := hown.slice
  have HRG := Lib.hid hring
  have HLL := Lib.hid hll
  have HOWN := Lib.hid hown.rowV5
  have HB3 := Lib.hid (below_grown HB2.out hg hlt2)
  have HY3 := Lib.hid (HY2.out.grown hg hH)
  rw [hll]
  have hlt3 := h1.lt
  have HRA : Hid (∀ V : World, w3.grownBy V (some w.heap.size) → Rd V V.heap.size Aa m l) := fun V hV => by
    have h := (HOWN.out.same (w' := V) fun j hj => hV.block j (HOWN.out.1.lt j hj).2 (fun e => by have := Option.some.inj e; have := (HOWN.out.1.lt j hj).1; omega)).1.rd.2
    rwa [HLL.out] at h
  have HC4 : Hid (ScB w3 w.heap.size H n' c q A (w3.alloc (.cells #[] 23)) (.slice (some ⟨w3.heap.size, 0, none⟩) 0 0) []) := by
    refine ⟨GrowS.empty w3 (Nat.le_refl _), h1.same (Below.heap_alloc w3 _ _ h1.lt), HY3.out.grown (World.grownBy_alloc w3 _ _) hH, World.grownBy_alloc w3 _ _⟩
  have HPK := Lib.hid (pick_any w.heap.size n' c H q 6 A (w3.alloc (.cells #[] 23)) HC4.out.r HC4.out.y hH (by omega) (by omega) (by omega) (by omega))
  clear h1 hg HOF HB2 HY2 hown hof hll hring
  go_wp2_with fail
  refine HPK.out.mono ?_
  rintro e w5 ⟨⟨mm, hmm, rfl⟩, h1, hg, hz⟩
  clear hz
  have HC5 := Lib.hid (HC4.out.grow hlt3 hH hg h1)
  clear h1 hg HPK HC4
  generalize hR : w.heap.size = R at *
  have HRq := Lib.hid hR
  clear hR
  go_wp2
  go_loopw [7, 9] (fun v i wr => ∃ (k : Nat) (L : List (List Int)) (q' : Nat), k ≤ mm ∧ i = .int .i64 k ∧ Hid (L.length = k ∧ ∀ l ∈ L, l.length = 4) ∧ Hid (ScB w3 R H n' c q' A wr v L) ∧ q' ≤ 60 + 10 * k) (fun _ i _ => mm - (intOf i).toNat)
  case atStart => exact ⟨0, [], _, Nat.zero_le _, rfl, Lib.hid ⟨rfl, fun l hl => by simp at hl⟩, HC5, by omega⟩
  case round =>
    obtain ⟨k, L, q', hk, rfl, hL, hsc, hq'⟩ := hrel
    clear HC5
    by_cases hltk : k < mm
    · have HF4 := Lib.hid (four91_any R n' c H q' m A wr hsc.out.r hsc.out.y hH (by omega) (by omega) lm4 (by omega))
      go_wp2_with fail
      refine HF4.out.mono ?_
      rintro e w6 ⟨v6, t6, rfl, hrv, ⟨ht4, htb⟩, hr6, hg6⟩
      obtain ⟨A6, c6, rfl, hc4, hcm6⟩ := hrv.2
      rw [ht4] at hrv hc4 ⊢
      have hwz : w3.heap.size ≤ wr.heap.size := hsc.out.size
      have HRV := Lib.hid (hrv.less hwz)
      have HSC := Lib.hid (hsc.out.grow hlt3 hH hg6 hr6)
      have hrd4 := hrv.1.rd.2
      have H3F := Lib.hid (l3Four_any A6 4 c6 w6.heap.size t6 (m : Int) w6 hrd4 (by omega) (by omega) (by omega))
      have HT4 := Lib.hid ht4
      clear hg6 hr6 hsc HF4
      by_cases h4 : Four (m : Int) t6
      rotate_left
      · have hf4 := (four_no h4).1
        rw [hf4] at H3F
        clear h4 hf4 hrd4 hrv
        go_wp2_with fail
        refine H3F.out.mono ?_
        rintro e wz ⟨rfl, rfl⟩
        clear H3F
        have HSZ := HSC.out.size
        obtain ⟨v7, w7, r7, g7, b7, d7⟩ := apS_run (V := wz) HSC.out.g HSZ HRV.out (by have := hL.out.1; omega)
        have r8 : ∀ ty, (apS #[25, 25] ty #[u7, .slice (some ⟨wz.heap.size, 0, none⟩) 1 1]).run Try.prog (wz.alloc (.cells #[.slice A6 4 c6] 23)) = .ok v7 w7 := by simpa using r7
        clear r7
        have HS7 := Lib.hid (HSC.out.app hlt3 hH g7 b7 d7)
        clear g7 b7 d7
        go_wp2
        go_roundw
        case rel => exact ⟨k + 1, L ++ [t6], q' + 5, by omega, by go_num, Lib.hid ⟨by rw [List.length_append, hL.out.1]; rfl, fun t ht => by
          rcases List.mem_append.1 ht with ht | ht
          · exact hL.out.2 t ht
          · rw [List.mem_singleton.1 ht]; exact HT4.out⟩, HS7, by omega⟩
        case measure => simp [intOf]; omega
      have hf4 := (four_yes h4).1
      rw [hf4] at H3F
      rw [← HLL.out] at h4
      obtain ⟨x, y, z, u, rfl, f⟩ := four_f4 HRG.out.1 h4
      obtain ⟨b6, o6, e, hb6, hcs⟩ := hrd4.at_ (by omega)
      subst e
      have hmx := f.mx
      have hmy := f.my
      have hmz := f.mz
      have hmu := f.mu
      have HPA := Lib.hid (l3Parts_any Aa m ca w6.heap.size l (some ⟨b6, o6, none⟩) c6 w6.heap.size x y z u w6 (HRA.out w6 HSC.out.t) hrd4 (by omega) (by omega) hmx hmy hmz hmu)
      have c0 := hcs 0 (by omega)
      have c1 := hcs 1 (by omega)
      have c2 := hcs 2 (by omega)
      have c3 := hcs 3 (by omega)
      simp only [Nat.add_zero, List.getD_cons_zero, List.getD_cons_succ] at c0 c1 c2 c3
      have HLIT := Lib.hid (fun (V : World) (hV : w3.heap.size ≤ V.heap.size) (a b c d : Int) => RowV.lit V hV [a, b, c, d] (by simp))
      simp only [ints, List.map_cons, List.map_nil, List.length_cons, List.length_nil] at HLIT
      have HPQ := Lib.hid (fun (V : World) (A' : Option Addr) (c' : Nat) (a b c d : Int) (hs : w3.grownBy V (some R)) (hr : Rd V V.heap.size A' 4 [a, b, c, d]) (ha : a ∈ l) (hb : b ∈ l) (hc : c ∈ l) (hd : d ∈ l) => l3Parts_any Aa m ca V.heap.size l A' c' V.heap.size a b c d V (HRA.out V hs) hr (by omega) (by omega) ha hb hc hd)
      clear hcs h4 hf4 hrv hrd4 f
      by_cases hp : partB l [x, y, z, u] = true
      · rw [hp] at HPA
        clear hp hmx hmy hmz hmu c0 c1 c2 c3
        go_wp2_with (first
          | (go_at_call 63; refine H3F.out.mono ?_; rintro e wz ⟨rfl, rfl⟩)
          | (go_at_call 64; refine HPA.out.mono ?_; rintro e wy ⟨rfl, qy, rfl⟩
             have HSC2 := Lib.hid (HSC.out.drewN qy)
             have HRV2 : Hid (RowV (wz.drewN qy) w3.heap.size (.slice (some ⟨b6, o6, none⟩) 4 c6) [x, y, z, u]) := HRV.out.same fun _ _ => rfl
             have HSZ := HSC2.out.size
             obtain ⟨v7, w7, r7, g7, b7, d7⟩ := apS_run (V := wz.drewN qy) HSC2.out.g HSZ HRV2.out (by have := hL.out.1; omega)
             have r8 : ∀ ty, (apS #[25, 25] ty #[u7, .slice (some ⟨wz.heap.size, 0, none⟩) 1 1]).run Try.prog ((wz.drewN qy).alloc (.cells #[.slice (some ⟨b6, o6, none⟩) 4 c6] 23)) = .ok v7 w7 := by simpa using r7
             clear r7
             have HS7 := Lib.hid (HSC2.out.app hlt3 hH g7 b7 d7)
             clear g7 b7 d7))
        go_roundw
        case rel => exact ⟨k + 1, L ++ [[x, y, z, u]], q' + 5, by omega, by go_num, Lib.hid ⟨by rw [List.length_append, hL.out.1]; rfl, fun t ht => by
          rcases List.mem_append.1 ht with ht | ht
          · exact hL.out.2 t ht
          · rw [List.mem_singleton.1 ht]; rfl⟩, HS7, by omega⟩
        case measure => simp [intOf]; omega
      · have hp0 : partB l [x, y, z, u] = false := by simpa using hp
        rw [hp0] at HPA
        have HM := Lib.hid (⟨hmx, hmy, hmz, hmu⟩ : x ∈ l ∧ y ∈ l ∧ z ∈ l ∧ u ∈ l)
        have hb6w := (HRV.out.1.lt b6 rfl).1
        have HCE := Lib.hid (fun (V : World) (hV : V.heap[b6]? = w6.heap[b6]?) => (⟨(World.cell?_of_block hV).trans c0, (World.cell?_of_block hV).trans c1, (World.cell?_of_block hV).trans c2, (World.cell?_of_block hV).trans c3⟩ : V.cell? ⟨b6, o6, none⟩ = some (.int .i64 x) ∧ V.cell? ⟨b6, o6 + 1, none⟩ = some (.int .i64 y) ∧ V.cell? ⟨b6, o6 + 2, none⟩ = some (.int .i64 z) ∧ V.cell? ⟨b6, o6 + 3, none⟩ = some (.int .i64 u)))
        clear hp hp0 hmx hmy hmz hmu c0 c1 c2 c3
        go_wp2_with (first
          | (go_at_call 63; refine H3F.out.mono ?_; rintro e wz ⟨rfl, rfl⟩)
          | (go_at_call 64; refine HPA.out.mono ?_; rintro e wy ⟨rfl, qy, hwy⟩
             have HSC2 : Hid (ScB w3 R H n' c (q' + 5) A wy u7 L) := by rw [hwy]; exact HSC.out.drewN qy
             have HRV2 : Hid (RowV wy w3.heap.size (.slice (some ⟨b6, o6, none⟩) 4 c6) [x, y, z, u]) := by rw [hwy]; exact HRV.out.same fun _ _ => rfl
             have HBK : Hid (wy.heap[b6]? = wz.heap[b6]?) := by rw [hwy]; rfl
             obtain ⟨c0, c1, c2, c3⟩ := HCE.out wy HBK.out
             clear hwy HSC HRV H3F HPA))
        go_still_tail 12, (by kernel_rfl)
        change wpList _ _ _ _ _ wy.drew
        have HSC3 : Hid (ScB w3 R H n' c (q' + 5) A wy.drew u7 L) := HSC2.out.drew
        have HRV3 : Hid (RowV wy.drew w3.heap.size (.slice (some ⟨b6, o6, none⟩) 4 c6) [x, y, z, u]) := HRV2.out
        have HBK3 : Hid (wy.drew.heap[b6]? = wz.heap[b6]?) := HBK.out
        obtain ⟨wq, hwq⟩ : ∃ wq, wq = wy.drew := ⟨_, rfl⟩
        rw [← hwq] at HSC3 HRV3 HBK3 ⊢
        clear hwq c0 c1 c2 c3 HSC2 HRV2 HBK
        have hszq := HSC3.out.size
        have HRQ := Lib.hid (HLIT.out wq hszq x z y u)
        have HSC4 := Lib.hid (HSC3.out.alloc hlt3 hH (.cells #[.int .i64 x, .int .i64 z, .int .i64 y, .int .i64 u] 3))
        have HRV4 := Lib.hid (HRV3.out.alloc (.cells #[.int .i64 x, .int .i64 z, .int .i64 y, .int .i64 u] 3))
        have hbq : b6 < wq.heap.size := (HRV3.out.1.lt b6 rfl).2
        have HBK4 : Hid ((wq.alloc (.cells #[.int .i64 x, .int .i64 z, .int .i64 y, .int .i64 u] 3)).heap[b6]? = wz.heap[b6]?) := (Below.heap_alloc wq _ b6 hbq).trans HBK3.out
        have HPB := Lib.hid (HPQ.out (wq.alloc (.cells #[.int .i64 x, .int .i64 z, .int .i64 y, .int .i64 u] 3)) (some ⟨wq.heap.size, 0, none⟩) 4 x z y u HSC4.out.t HRQ.out.1.rd.2 HM.out.1 HM.out.2.2.1 HM.out.2.1 HM.out.2.2.2)
        clear HSC3 HRV3 HBK3
        by_cases hpq : partB l [x, z, y, u] = true
        · rw [hpq] at HPB
          clear hpq
          go_wp2_with fail
          refine HPB.out.mono ?_
          rintro e w8 ⟨rfl, q8, hw8⟩
          have HSC5 : Hid (ScB w3 R H n' c (q' + 5) A w8 u7 L) := by rw [hw8]; exact HSC4.out.drewN q8
          have HRV5 : Hid (RowV w8 w3.heap.size (.slice (some ⟨b6, o6, none⟩) 4 c6) [x, y, z, u]) := by rw [hw8]; exact HRV4.out.same fun _ _ => rfl
          have HRQ5 : Hid (RowV w8 w3.heap.size (.slice (some ⟨wq.heap.size, 0, none⟩) 4 4) [x, z, y, u]) := by rw [hw8]; exact HRQ.out.same fun _ _ => rfl
          clear hw8 HSC4 HRV4 HBK4 HRQ HPB
          have HPK := Lib.hid (pick_any R n' c H (q' + 5) 6 A w8 HSC5.out.r HSC5.out.y hH (by omega) hn' (by omega) (by omega))
          go_wp2_with fail
          refine HPK.out.mono ?_
          rintro e wp ⟨⟨vp, hvp, rfl⟩, hp1, hpg, hpz⟩
          have HSP := Lib.hid (HSC5.out.grow hlt3 hH hpg hp1)
          have HVP := Lib.hid (HRV5.out.grown5 hpg hlt3)
          have HVQ := Lib.hid (HRQ5.out.grown5 hpg hlt3)
          clear hp1 hpg hpz HPK HSC5 HRV5 HRQ5
          obtain rfl | ⟨vq, rfl⟩ : vp = 0 ∨ ∃ vq, vp = vq + 1 := by
            rcases vp with _ | vq
            · exact .inl rfl
            · exact .inr ⟨vq, rfl⟩
          · have HSZ := HSP.out.size
            obtain ⟨v7, w7, r7, g7, b7, d7⟩ := apS_run (V := wp) HSP.out.g HSZ HVP.out (by have := hL.out.1; omega)
            have r8 : ∀ ty, (apS #[25, 25] ty #[u7, .slice (some ⟨wp.heap.size, 0, none⟩) 1 1]).run Try.prog (wp.alloc (.cells #[.slice (some ⟨b6, o6, none⟩) 4 c6] 23)) = .ok v7 w7 := by simpa using r7
            clear r7
            have HS7 := Lib.hid (HSP.out.app hlt3 hH g7 b7 d7)
            clear g7 b7 d7
            go_wp2
            go_roundw
            case rel => exact ⟨k + 1, L ++ [[x, y, z, u]], q' + 5 + 1, by omega, by go_num, Lib.hid ⟨by rw [List.length_append, hL.out.1]; rfl, fun t ht => by
              rcases List.mem_append.1 ht with ht | ht
              · exact hL.out.2 t ht
              · rw [List.mem_singleton.1 ht]; exact rfl⟩, HS7, by omega⟩
            case measure => simp [intOf]; omega
          · have HSZ := HSP.out.size
            obtain ⟨v7, w7, r7, g7, b7, d7⟩ := apS_run (V := wp) HSP.out.g HSZ HVQ.out (by have := hL.out.1; omega)
            have r8 : ∀ ty, (apS #[25, 25] ty #[u7, .slice (some ⟨wp.heap.size, 0, none⟩) 1 1]).run Try.prog (wp.alloc (.cells #[.slice (some ⟨wq.heap.size, 0, none⟩) 4 4] 23)) = .ok v7 w7 := by simpa using r7
            clear r7
            have HS7 := Lib.hid (HSP.out.app hlt3 hH g7 b7 d7)
            clear g7 b7 d7
            go_wp2
            go_roundw
            case rel => exact ⟨k + 1, L ++ [[x, z, y, u]], q' + 5 + 1, by omega, by go_num, Lib.hid ⟨by rw [List.length_append, hL.out.1]; rfl, fun t ht => by
              rcases List.mem_append.1 ht with ht | ht
              · exact hL.out.2 t ht
              · rw [List.mem_singleton.1 ht]; exact rfl⟩, HS7, by omega⟩
            case measure => simp [intOf]; omega
        · have hpq0 : partB l [x, z, y, u] = false := by simpa using hpq
          rw [hpq0] at HPB
          clear hpq hpq0
          go_wp2_with fail
          refine HPB.out.mono ?_
          rintro e w8 ⟨rfl, q8, hw8⟩
          have HSC5 : Hid (ScB w3 R H n' c (q' + 5) A w8 u7 L) := by rw [hw8]; exact HSC4.out.drewN q8
          have HRV5 : Hid (RowV w8 w3.heap.size (.slice (some ⟨b6, o6, none⟩) 4 c6) [x, y, z, u]) := by rw [hw8]; exact HRV4.out.same fun _ _ => rfl
          have HBK5 : Hid (w8.heap[b6]? = wz.heap[b6]?) := by rw [hw8]; exact HBK4.out
          obtain ⟨c0, c1, c2, c3⟩ := HCE.out w8 HBK5.out
          clear hw8 HSC4 HRV4 HBK4 HBK5 HRQ HPB
          go_wp2
          go_still_tail 12, (by kernel_rfl)
          change wpList _ _ _ _ _ w8.drew
          have HSC6 : Hid (ScB w3 R H n' c (q' + 5) A w8.drew u7 L) := HSC5.out.drew
          have HRV6 : Hid (RowV w8.drew w3.heap.size (.slice (some ⟨b6, o6, none⟩) 4 c6) [x, y, z, u]) := HRV5.out
          obtain ⟨wr2, hwr⟩ : ∃ wr2, wr2 = w8.drew := ⟨_, rfl⟩
          rw [← hwr] at HSC6 HRV6 ⊢
          clear hwr c0 c1 c2 c3 HSC5 HRV5
          have hszr := HSC6.out.size
          have HRQ7 := Lib.hid (HLIT.out wr2 hszr x u y z)
          have HSC7 := Lib.hid (HSC6.out.alloc hlt3 hH (.cells #[.int .i64 x, .int .i64 u, .int .i64 y, .int .i64 z] 3))
          have HRV7 := Lib.hid (HRV6.out.alloc (.cells #[.int .i64 x, .int .i64 u, .int .i64 y, .int .i64 z] 3))
          clear HSC6 HRV6
          have HPK := Lib.hid (pick_any R n' c H (q' + 5) 6 A (wr2.alloc (.cells #[.int .i64 x, .int .i64 u, .int .i64 y, .int .i64 z] 3)) HSC7.out.r HSC7.out.y hH (by omega) hn' (by omega) (by omega))
          go_wp2_with fail
          refine HPK.out.mono ?_
          rintro e wp ⟨⟨vp, hvp, rfl⟩, hp1, hpg, hpz⟩
          have HSP := Lib.hid (HSC7.out.grow hlt3 hH hpg hp1)
          have HVP := Lib.hid (HRV7.out.grown5 hpg hlt3)
          have HVQ := Lib.hid (HRQ7.out.grown5 hpg hlt3)
          clear hp1 hpg hpz HPK HSC7 HRV7 HRQ7
          obtain rfl | ⟨vq, rfl⟩ : vp = 0 ∨ ∃ vq, vp = vq + 1 := by
            rcases vp with _ | vq
            · exact .inl rfl
            · exact .inr ⟨vq, rfl⟩
          · have HSZ := HSP.out.size
            obtain ⟨v7, w7, r7, g7, b7, d7⟩ := apS_run (V := wp) HSP.out.g HSZ HVP.out (by have := hL.out.1; omega)
            have r8 : ∀ ty, (apS #[25, 25] ty #[u7, .slice (some ⟨wp.heap.size, 0, none⟩) 1 1]).run Try.prog (wp.alloc (.cells #[.slice (some ⟨b6, o6, none⟩) 4 c6] 23)) = .ok v7 w7 := by simpa using r7
            clear r7
            have HS7 := Lib.hid (HSP.out.app hlt3 hH g7 b7 d7)
            clear g7 b7 d7
            go_wp2
            go_roundw
            case rel => exact ⟨k + 1, L ++ [[x, y, z, u]], q' + 5 + 1, by omega, by go_num, Lib.hid ⟨by rw [List.length_append, hL.out.1]; rfl, fun t ht => by
              rcases List.mem_append.1 ht with ht | ht
              · exact hL.out.2 t ht
              · rw [List.mem_singleton.1 ht]; exact rfl⟩, HS7, by omega⟩
            case measure => simp [intOf]; omega
          · have HSZ := HSP.out.size
            obtain ⟨v7, w7, r7, g7, b7, d7⟩ := apS_run (V := wp) HSP.out.g HSZ HVQ.out (by have := hL.out.1; omega)
            have r8 : ∀ ty, (apS #[25, 25] ty #[u7, .slice (some ⟨wp.heap.size, 0, none⟩) 1 1]).run Try.prog (wp.alloc (.cells #[.slice (some ⟨wr2.heap.size, 0, none⟩) 4 4] 23)) = .ok v7 w7 := by simpa using r7
            clear r7
            have HS7 := Lib.hid (HSP.out.app hlt3 hH g7 b7 d7)
            clear g7 b7 d7
            go_wp2
            go_roundw
            case rel => exact ⟨k + 1, L ++ [[x, u, y, z]], q' + 5 + 1, by omega, by go_num, Lib.hid ⟨by rw [List.length_append, hL.out.1]; rfl, fun t ht => by
              rcases List.mem_append.1 ht with ht | ht
              · exact hL.out.2 t ht
              · rw [List.mem_singleton.1 ht]; exact rfl⟩, HS7, by omega⟩
            case measure => simp [intOf]; omega
    · obtain rfl : mm = k := by omega
      have ht := tot_rows hL.out.2 (by omega) (by have := hL.out.1; omega)
      obtain ⟨A8, n8, c8, e8, hrw, hlc8, hcm8⟩ := rwS_of hsc.out.g ht
      subst e8
      have HPK := Lib.hid (pick_any R n' c H q' 60 A wr hsc.out.r hsc.out.y hH (by omega) hn' (by omega) (by omega))
      have HRW := Lib.hid hrw
      have hn8 : n8 ≤ 9 := by have := hrw.len; have := hL.out.1; omega
      have hwlt := hsc.out.r.lt
      have HBW : Hid (Below R w wr) := below_grown HB3.out hsc.out.t hlt3
      have HSCK := Lib.hid hsc.out
      have HTT := Lib.hid ht
      clear hrw hsc ht HRW
      go_wp2_with fail
      refine HPK.out.mono ?_
      rintro e w5 ⟨⟨v5, hv5, rfl⟩, h1, hg, h3⟩
      obtain ⟨q5, hq5⟩ : ∃ q5, q5 = v5 / 59 := ⟨_, rfl⟩
      have t5 : Int.tdiv (v5 : Int) 59 = (q5 : Int) := by rw [Int.tdiv_eq_ediv_of_nonneg (by omega), hq5]; simp
      have k5 : q5 ≤ 1 := by omega
      have x5 : IntKind.i64.wrap (q5 : Int) = (q5 : Int) := IntWalk.i64_in _ (by omega)
      have y5 : IntKind.i64.wrap ((q5 : Int) * 4) = (q5 : Int) * 4 := IntWalk.i64_in _ (by omega)
      have z5 : IntKind.i64.wrap ((m : Int) + (q5 : Int) * 4) = (m : Int) + (q5 : Int) * 4 := IntWalk.i64_in _ (by omega)
      have HE : Hid ((m : Int) + (q5 : Int) * 4 = ((m + q5 * 4 : Nat) : Int)) := by rw [Hid]; omega
      have HBF := Lib.hid (below_grown HBW.out hg hwlt)
      have HRF : Hid (RwS w5 A8 n8 c8 L) := ⟨⟨((HSCK.out.grow hlt3 hH hg h1).g.rd).2, HTT.out⟩, Nat.zero_le _⟩
      clear h1 hg h3 hq5 hv5 HPK HBW HSCK HTT
      go_wp2
      go_ret2
      exact ⟨m + q5 * 4, _, _, _, L, by rw [← HE.out]; rfl, HRF.out, ⟨hlc8, hcm8, hn8, by omega, by omega⟩, by rw [HRq.out]; exact HBF.out⟩
theorem drawPairScheme_any (n c H : Nat) (A : Option Addr) (w : World) (hb : Byt w H A n) (hH : H ≤ w.heap.size) (hnc : n ≤ c) (hc : c ≤ 9223372036854775807) :
    Calls Try.prog 25 #[.slice A n c] w (SchN w) := by
  have HT := Lib.hid (scheme91_any n c H A w hb hH hnc hc)
  clear hb
  go_enter Try.func25, Try.ntmps25
  go_wp2_with fail
  refine HT.out.mono ?_
  rintro e w1 ⟨m, A1, n1, c1, L, rfl, hr, hx, hb⟩
  clear HT
  have HR := Lib.hid hr
  have HX := Lib.hid hx
  have HB := Lib.hid hb
  clear hr hx hb
  go_wp2
  go_ret2
  exact ⟨m, A1, n1, c1, L, rfl, HR.out, HX.out, HB.out⟩
end Go.Proofs.Ytamnacgclhaggaa

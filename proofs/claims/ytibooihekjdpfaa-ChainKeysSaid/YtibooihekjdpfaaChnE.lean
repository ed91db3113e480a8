/- Chains: Places; Near. -/
import Derived.Test.YtibooihekjdpfaaChnD
namespace Go.Proofs.Ytibooihekjdpfaa.Cur
open Go.RowKit Go.Shelf Mem
attribute [local go_sem] Oper.semAt_some
set_option linter.unusedVariables false
set_option maxRecDepth 100000

def PlacesPost (U : Nat) (i : Int) (L : List Nat) (w : World) (e : Ending) (w' : World) : Prop :=
  ∃ c g o k, e = .returned (.func (.func 22) #[] #[.pointer (some ⟨w.heap.size + 2, 0, none⟩), .pointer (some ⟨w.heap.size + 1, 0, none⟩), .pointer (some ⟨w.heap.size, 0, none⟩)]) ∧ Below w.heap.size w w' ∧ w'.heap.size = w.heap.size + 3 ∧
    Pls w' (w.heap.size + 2) (w.heap.size + 1) w.heap.size c g o k i L ∧ k ≤ 100000 ∧ ((c < U ∧ g < U) ∨ (c = w.heap.size ∧ g = w.heap.size))
set_option maxHeartbeats 2000000 in
theorem places_any {w0 w : World} {B c mb : Nat} {r : Option Nat} {A : Option Addr} {n m : Nat} {z : List Int} {a : Nat} (i : Int) (h0 : Chn w0 B c mb r A n m z a) (hb : Below w0.heap.size w0 w) (hby : ∀ x ∈ z, 0 ≤ x ∧ x < 256) (hn : n ≤ 60000) :
    Calls Try.prog 18 #[.pointer (some ⟨c, 0, none⟩), .int .i64 i] w (PlacesPost w0.heap.size i (nrs z a i) w) := by
  have h := h0.below hb
  have hX := (Blk.new w #[.pointer (some ⟨c, 0, none⟩)] 29).alloc (.cells #[.int .i64 i] 3)
  have hY := Blk.new (w.alloc (.cells #[.pointer (some ⟨c, 0, none⟩)] 29)) #[.int .i64 i] 3
  rw [show (w.alloc (.cells #[.pointer (some ⟨c, 0, none⟩)] 29)).heap.size = w.heap.size + 1 by simp] at hY
  have h2 := below_two w (.cells #[.pointer (some ⟨c, 0, none⟩)] 29) (.cells #[.int .i64 i] 3)
  have hs2 : ((w.alloc (.cells #[.pointer (some ⟨c, 0, none⟩)] 29)).alloc (.cells #[.int .i64 i] 3)).heap.size = w.heap.size + 2 := by simp
  have hN := chnearest_any i (h.below h2) hby (by omega)
  unfold NearestPost at hN
  have x0 := hX.c1
  have y0 := hY.c1
  have hzl := h.bs.1.1
  have hla := h.le
  have HH := Lib.hid h0
  have HB := Lib.hid hb
  have HX := Lib.hid hX
  have HY := Lib.hid hY
  have H2 := Lib.hid h2
  have HS := Lib.hid hs2
  have HZL := Lib.hid hzl
  obtain ⟨L, hL⟩ : ∃ L, nrs z a i = L := ⟨_, rfl⟩
  rw [hL] at hN
  have HL := Lib.hid hL
  rw [hL]
  clear h h0 hb hX hY h2 hs2 hby hzl hL
  go_enter Try.func18, Try.ntmps18
  go_wp2_with fail
  refine hN.mono ?_
  rintro e w3 ⟨rfl, k1, rfl⟩
  clear hN
  generalize hW : (w.alloc (.cells #[.pointer (some ⟨c, 0, none⟩)] 29)).alloc (.cells #[.int .i64 i] 3) = W2 at *
  have hsz : (W2.drewN k1).heap.size = w.heap.size + 2 := by rw [← HS.out]; exact (show (W2.drewN k1).heap.size = W2.heap.size by simp)
  have HD := Lib.hid (below_drewN (Below.refl W2.heap.size W2) k1)
  generalize W2.drewN k1 = W3 at *
  have HSZ := Lib.hid hsz
  clear hsz hW x0 y0
  go_wp2
  go_ret
  have hd := HD.out
  have hd2 := H2.out.trans (hd.mono H2.out.size)
  have hA := below_one W3 (.cells #[.int .i64 (nh L)] 3)
  have hA2 := hd2.trans (hA.mono hd2.size)
  have hF := Blk.new W3 #[.int .i64 (nh L)] 3
  rw [HSZ.out] at hF
  have q1 := (HY.out.below hd).below hA
  have q2 := (HX.out.below hd).below hA
  have hsz3 : (W3.alloc (.cells #[.int .i64 (nh L)] 3)).heap.size = w.heap.size + 3 := by rw [World.size_alloc, HSZ.out]
  have hb0 := HB.out
  by_cases hne : L = []
  · subst hne
    exact ⟨w.heap.size, w.heap.size, 0, 0, by rw [HSZ.out]; rfl, hA2, hsz3, ⟨hF.c1, q1.c1, fun h => absurd rfl h, trivial⟩, by omega, .inr ⟨rfl, rfl⟩⟩
  · have hlt := HH.out.lt
    obtain ⟨Av, cv, c0, c1, c2, hc⟩ := HH.out.cells
    obtain ⟨p, s, hps⟩ : ∃ p s, L = p :: s := by cases L with
      | nil => exact absurd rfl hne
      | cons p s => exact ⟨p, s, rfl⟩
    have hcons := nrs_cons (show nrs z a i = p :: s by rw [HL.out, hps])
    obtain ⟨kk, hik, hkz⟩ := hk_pos hcons.2.2.2.1
    obtain ⟨g, o, hAv, hg0⟩ := hc p (by omega)
    have hcc : ∀ j, j < a → w0.cell? ⟨g, o + j, none⟩ = some (.int .i64 (nh (nrs z j j))) := fun j hj => by
      obtain ⟨g', o', e, h⟩ := hc j hj
      rw [hAv] at e
      injection e with e
      injection e with e1 e2
      subst e1 e2
      exact h
    have hgl : g < w0.heap.size := lt_of_cell (hcc p (by omega))
    have hln := Chn.lnk (B := B) (c := c) (mb := mb) (r := r) (A := A) (n := n) (m := m) hcc (by rw [HZL.out]; omega) (i := i) (by rw [HZL.out] at hkz; omega) L a i (Nat.le_refl _) (Int.le_refl _) HL.out.symm
    have hb3 := hb0.trans (hA2.mono hb0.size)
    exact ⟨c, g, o, a, by rw [HSZ.out]; rfl, hA2, hsz3, ⟨hF.c1, q1.c1, fun _ => ⟨cv, q2.c1, (hb3.cell (p := ⟨c, 2, none⟩) hlt).trans (by rw [c2, hAv])⟩, hln.keep (hb3.block g hgl)⟩, by omega, .inl ⟨hlt, hgl⟩⟩
set_option maxHeartbeats 1000000 in
theorem places_none (i : Int) (w : World) : Calls Try.prog 18 #[.pointer none, .int .i64 i] w (PlacesPost 0 i [] w) := by
  have hX := (Blk.new w #[.pointer none] 29).alloc (.cells #[.int .i64 i] 3)
  have hY := Blk.new (w.alloc (.cells #[.pointer none] 29)) #[.int .i64 i] 3
  rw [show (w.alloc (.cells #[.pointer none] 29)).heap.size = w.heap.size + 1 by simp] at hY
  have h2 := below_two w (.cells #[.pointer none] 29) (.cells #[.int .i64 i] 3)
  have hs2 : ((w.alloc (.cells #[.pointer none] 29)).alloc (.cells #[.int .i64 i] 3)).heap.size = w.heap.size + 2 := by simp
  have hN := fun w => chnearest_none i w (by omega)
  have x0 := hX.c1
  have y0 := hY.c1
  have HX := Lib.hid hX
  have HY := Lib.hid hY
  have H2 := Lib.hid h2
  have HS := Lib.hid hs2
  clear hX hY h2 hs2
  go_enter Try.func18, Try.ntmps18
  go_wp2_with fail
  refine (hN _).mono ?_
  rintro e w3 ⟨rfl, rfl⟩
  clear hN
  generalize hW : (w.alloc (.cells #[.pointer none] 29)).alloc (.cells #[.int .i64 i] 3) = W2 at *
  clear hW x0 y0
  go_wp2
  go_ret
  have hA := below_one W2 (.cells #[.int .i64 (-1)] 3)
  have hA2 := H2.out.trans (hA.mono H2.out.size)
  have hF := Blk.new W2 #[.int .i64 (-1)] 3
  rw [HS.out] at hF
  have hsz3 : (W2.alloc (.cells #[.int .i64 (-1)] 3)).heap.size = w.heap.size + 3 := by rw [World.size_alloc, HS.out]
  exact ⟨w.heap.size, w.heap.size, 0, 0, by rw [HS.out]; rfl, hA2, hsz3, ⟨hF.c1, (HY.out.below hA).c1, fun h => absurd rfl h, trivial⟩, by omega, .inr ⟨rfl, rfl⟩⟩

/-! ### Near -/
abbrev nv' (l : List Nat) : List Value := l.map fun x : Nat => Value.int .i64 (x : Int)
/-- A variable's slice is appended to and stored back: what is as it was. -/
theorem boxed_app {W w1 : World} {D0 Bl : Nat} {t e : TypeId} {size k m : Nat} {v v' : Value} {xs ys : List Value} {tmp : Obj} (hv : Boxed W Bl t v) (hte : t ≠ e) (hrow : W.ownsRow D0 e size v k xs) (hD : D0 ≤ W.heap.size) (hBl : Bl < D0)
    (hown' : w1.ownsRow D0 e size v' m ys) (hgrow : (W.alloc tmp).grownBy w1 v.ownBlock) :
    Boxed w1 Bl t v ∧ Boxed (w1.setCell ⟨Bl, 0, none⟩ v') Bl t v' ∧ (w1.setCell ⟨Bl, 0, none⟩ v').ownsRow D0 e size v' m ys ∧ KeepsOthers W (w1.setCell ⟨Bl, 0, none⟩ v') ∧
      (∀ j, j < D0 → j ≠ Bl → (w1.setCell ⟨Bl, 0, none⟩ v').heap[j]? = W.heap[j]?) ∧ ∀ B, B ≤ Bl → Below B W (w1.setCell ⟨Bl, 0, none⟩ v') := by
  have hv1 : Boxed w1 Bl t v := (hv.alloc tmp).kept hgrow (hv.not_row hte hrow)
  have hge : ∀ j, v.ownBlock = some j → D0 ≤ j := own_geg hrow
  refine ⟨hv1, hv1.set v', hown'.kept (grownBy_setCell' w1 Bl v') (.inr (hv1.not_row hte hown').symm), ?_, fun j hj hne => ?_, fun B hB => ?_⟩
  · refine ((KeepsOthers.alloc W tmp).trans (KeepsOthers.of_grownBy hgrow fun j o ej hj => ?_)).trans (KeepsOthers.setCell _ _ _)
    rcases (hrow.alloc tmp).2 with ⟨rfl, _⟩ | ⟨g, cap, cur, rfl, _, hgb, _⟩
    · simp [Value.ownBlock] at ej
    · obtain rfl : g = j := by simpa [Value.ownBlock] using ej
      rw [hgb] at hj; cases hj; rfl
  · have h1 := Below.heap_setCell w1 ⟨Bl, 0, none⟩ v' j hne
    have h2 := hgrow.block j (by simp; omega) (fun e => by have := hge j e.symm; omega)
    have h3 := Below.heap_alloc W tmp j (by omega)
    exact h1.trans (h2.trans h3)
  · exact (((Below.refl B W).alloc (by omega) tmp).grown hgrow (by simp; omega) (fun j ej => by have := hge j ej; omega)).setCell (p := ⟨Bl, 0, none⟩) hB v'
/-- Between two rounds. -/
def NrI (w w3 : World) (most : Int) (pre : List Nat) (W : World) : Prop :=
  ((∃ v, Boxed W (w.heap.size + 1) 35 v ∧ W.ownsRow w3.heap.size 3 1 v pre.length (nv' pre) ∧ (pre.length : Int) ≤ max most 0) ∧ Boxed W w.heap.size 3 (.int .i64 most)) ∧ Below w.heap.size w W ∧ w3.heap.size ≤ W.heap.size
theorem NrI.own (w w3 : World) (most : Int) (h : w.heap.size ≤ w3.heap.size) : OwnFrom w3.heap.size (NrI w w3 most) :=
  OwnFrom.and (OwnFrom.and (Own.from (holdsRow_own w3.heap.size (w.heap.size + 1) 35 3 1 (fun pre : List Nat => pre.length) (fun pre => nv' pre) (fun pre v => (pre.length : Int) ≤ max most 0)) _) (Own.from (boxed_own w.heap.size 3 (fun _ : List Nat => .int .i64 most)) _)) (OwnFrom.and (ownFrom_below (Nat.le_refl _) h) (fun s X Y row hs hg hr => Nat.le_trans hs hg.size))
def NrX (w w3 : World) (most : Int) (cd : Code) (pre : List Nat) (W : World) : Prop := (cd = .exit 0 ∧ pre ≠ [] ∧ most ≤ (pre.dropLast.length : Int)) ∧ NrI w w3 most pre.dropLast W
theorem NrX.own (w w3 : World) (most : Int) (cd : Code) (h : w.heap.size ≤ w3.heap.size) : OwnFrom w3.heap.size (NrX w w3 most cd) :=
  OwnFrom.and (ownFrom_pure _ _) (fun s X Y row hs hg hr => NrI.own w w3 most h s.dropLast X Y row hs hg hr)
def NearPost (L : List Nat) (most : Int) (w : World) (e : Ending) (w' : World) : Prop :=
  ∃ v, e = .returned v ∧ OwnG w' w.heap.size v ((L.take most.toNat).map fun x : Nat => (x : Int)) ∧ Below w.heap.size w w'
set_option maxHeartbeats 4000000 in
/-- Near, whatever Places gives. -/
theorem near_of {w : World} {pc : Option Addr} {U : Nat} {L : List Nat} (i most : Int) (hU : U ≤ w.heap.size) (hP : ∀ w', Below w.heap.size w w' → Calls Try.prog 18 #[.pointer pc, .int .i64 i] w' (PlacesPost U i L w')) (hi : -9223372036854775808 ≤ i ∧ i ≤ 9223372036854775807) (hL : L.length ≤ 100000) :
    Calls Try.prog 16 #[.pointer pc, .int .i64 i, .int .i64 most] w (NearPost L most w) := by
  refine (callsIn_wide (n := 3)).1 ?_
  refine callsIn_of_wp_marks Try.func16 rfl trivial ?_ rfl
  simp only [Try.ntmps16, List.size_toArray, List.length_cons, List.length_nil, Nat.reduceAdd, Nat.reduceSub, Array.replicate_succ, Array.replicate_zero, List.push_toArray, List.append_toArray, List.nil_append, List.cons_append]
  have h2 := below_two w (.cells #[.int .i64 most] 3) (.cells #[.slice none 0 0] 35)
  have bM := (Boxed.new w 3 (.int .i64 most)).alloc (.cells #[.slice none 0 0] 35)
  have bL := Boxed.new (w.alloc (.cells #[.int .i64 most] 3)) 35 (.slice none 0 0)
  rw [World.size_alloc] at bL
  have hP2 := hP _ h2
  have hs2 : ((w.alloc (.cells #[.int .i64 most] 3)).alloc (.cells #[.slice none 0 0] 35)).heap.size = w.heap.size + 2 := by simp
  unfold PlacesPost at hP2
  rw [hs2] at hP2
  clear hP
  gi_wp2_with (refine ⟨trivial, ?_⟩; gi_at_call 18; refine (callsIn_wide.2 hP2).mono ?_; rintro e w3 ⟨c, g, o, k, rfl, hb3, hs3, hpl, hk, hcg⟩)
  have bM3 : Boxed w3 w.heap.size 3 (.int .i64 most) := (hb3.block _ (by omega)).trans bM
  have bL3 : Boxed w3 (w.heap.size + 1) 35 (.slice none 0 0) := (hb3.block _ (by omega)).trans bL
  have hB3 : Below w.heap.size w w3 := h2.trans (hb3.mono (by omega))
  obtain ⟨i0, hi0, hz0, hz1, hz2⟩ := info_parts (P := Try.prog) (e := 3) (z := .int .i64 0) (size := 1) (bytes := 8) (by kernel_rfl)
  have hPT : ∀ b, PT (w.heap.size + 2 + 1) (w.heap.size + 2) c g b → b < w3.heap.size ∧ b ≠ w.heap.size + 1 := by
    rintro b (rfl | rfl | rfl | rfl) <;> omega
  clear h2 bM bL hP2 hb3 hs2
  refine wpIn_rangeFunc_ownG rfl (by omega) (gf := 22) (lb := #[.pointer (some ⟨w.heap.size + 2 + 2, 0, none⟩), .pointer (some ⟨w.heap.size + 2 + 1, 0, none⟩), .pointer (some ⟨w.heap.size + 2, 0, none⟩)]) rfl trivial (enters_of Try.func22 (by kernel_rfl) rfl)
    (places_stops Fence.wide (3 - 1) trivial rfl (by omega) _ _ _ c g o k i L w3 hpl hi hk ⟨by omega, by omega, by omega, fun _ => by omega⟩) (fun h k => h.trans k)
    (fun W l o o' hl _ _ _ b hb => World.putObj_heap_other (by have := (hPT b hb).1; omega)) (Below.refl _ _) (fun _ => rfl) (NrI w w3 most) (NrX w w3 most) (NrI.own w w3 most (by omega)) (fun cd => NrX.own w w3 most cd (by omega))
    ⟨⟨⟨_, bL3, World.ownsRow_nil _ _ _ _, by simp; omega⟩, bM3⟩, hB3, Nat.le_refl _⟩
    (fun x => { tmps := #[.pointer pc, .int .i64 i, .int .i64 most, undef, undef, .pointer (some ⟨w.heap.size, 0, none⟩), .slice none 0 0, .pointer (some ⟨w.heap.size + 1, 0, none⟩), .int .i64 (x : Int), .pointer pc, .int .i64 i, .func (.func 22) #[] #[.pointer (some ⟨w.heap.size + 2 + 2, 0, none⟩), .pointer (some ⟨w.heap.size + 2 + 1, 0, none⟩), .pointer (some ⟨w.heap.size + 2, 0, none⟩)], .int .i64 (x : Int), undef, undef, undef, undef, undef, undef, undef, undef, undef], defers := [] }) ?assign ?body ?done ?stop
  case assign =>
    intro l x W K hK
    gi_wp2
    exact hK
  case body =>
    rintro l pre x W ⟨⟨⟨v, hv, hrow, hlen⟩, hm⟩, hB, hD⟩ hlt
    obtain ⟨A, cv, rfl, _⟩ := own_slice hrow
    have hc := hv.cell
    have hmc := hm.cell
    have hpl : pre.length ≤ 100000 := by omega
    by_cases hge : most ≤ (pre.length : Int)
    · gi_wp2
      exact ⟨KeepsFrom.refl _ _, ⟨rfl, by simp, by simpa using hge⟩, ⟨⟨_, hv, by simpa using hrow, by simpa using hlen⟩, hm⟩, hB, hD⟩
    · have hge' : ¬ most ≤ (pre.length : Int) := hge
      gi_wp2_with (gi_at_builtin; refine wpListIn_append_own _ rfl _ _ 35 rfl w3.heap.size 3 i0 (.int .i64 0) 1 8 Try.underlying35 hi0 hz0 hz1 hz2 rfl (by decide) _ _ _ rfl (hrow.alloc _) ⟨W.heap.size, 0, none⟩ 1 1 [.int .i64 (x : Int)] rfl rfl (cell_one_new _ _ _) (by simp [Value.oneCell']) (by unfold maxLen; omega) (by omega) (by simp; omega) ?_; intro v' w1 hown' hgrow _; obtain ⟨g', cap', rfl⟩ := ownsRow_succ hown'; obtain ⟨hv1, hv2, hr2, hk2, hb2, hbb⟩ := boxed_app hv (by decide) hrow hD (by omega) hown' hgrow; have hc1 := hv1.cell; have hf1 := hv1.frozen)
      refine ⟨hk2.from _, fun b hb => hb2 b (by have := (hPT b hb).1; omega) (hPT b hb).2, ⟨⟨_, hv2, ?_, ?_⟩, ?_⟩, hB.trans (hbb _ (by omega)), Nat.le_trans hD (hk2.size)⟩
      · unfold nv'
        rw [List.length_append, List.map_append]
        exact hr2
      · rw [List.length_append]
        simp
        omega
      · have e := hb2 w.heap.size (by omega) (by omega)
        exact e.trans hm
  case done =>
    rintro D ys W hD rfl ⟨⟨⟨v, hv, hrow, hlen⟩, hm⟩, hB, hDW⟩ hK
    have hc := hv.cell
    gi_wp2
    refine ⟨by simp, .inl ⟨_, _, rfl, run_takeDeferred hK, ?_⟩⟩
    refine ⟨_, results_tmp rfl _ _ _, v, rfl, ?_, hB.trans (belowK_b (w := w) (Nat.le_refl _) W D _ _ (by omega) hK rfl rfl)⟩
    have hr := ownsRow_putObj hrow (.deferred none) hK rfl
    rw [List.take_of_length_le (by omega)]
    unfold OwnG gv
    rw [List.length_map, List.map_map]
    exact own_base hr (fun g hg => by have := own_geg hr g hg; omega)
  case stop =>
    rintro D cd pre W hD hpre ⟨⟨rfl, hne, hmo⟩, ⟨⟨v, hv, hrow, hlen⟩, hm⟩, hB, hDW⟩ hK
    have hc := hv.cell
    have htk : L.take most.toNat = pre.dropLast := by
      obtain ⟨s, hs⟩ := hpre
      have e : most.toNat = pre.dropLast.length := by omega
      have hpd : pre = pre.dropLast ++ [pre.getLast hne] := (List.dropLast_concat_getLast hne).symm
      rw [← hs, e, hpd, List.append_assoc]
      simp
    have HTK := Lib.hid htk
    clear htk
    gi_wp2
    refine ⟨by simp, .inl ⟨_, _, rfl, run_takeDeferred hK, ?_⟩⟩
    refine ⟨_, results_tmp rfl _ _ _, v, rfl, ?_, hB.trans (belowK_b (w := w) (Nat.le_refl _) W D _ _ (by omega) hK rfl rfl)⟩
    have hr := ownsRow_putObj hrow (.deferred none) hK rfl
    rw [HTK.out]
    unfold OwnG gv
    rw [List.length_map, List.map_map]
    exact own_base hr (fun g hg => by have := own_geg hr g hg; omega)
theorem near_any {w : World} {B c mb : Nat} {r : Option Nat} {A : Option Addr} {n m : Nat} {z : List Int} {a : Nat} (i most : Int) (h : Chn w B c mb r A n m z a) (hby : ∀ x ∈ z, 0 ≤ x ∧ x < 256) (hn : n ≤ 60000) (hi : -9223372036854775808 ≤ i ∧ i ≤ 9223372036854775807) :
    Calls Try.prog 16 #[.pointer (some ⟨c, 0, none⟩), .int .i64 i, .int .i64 most] w (NearPost (nrs z a i) most w) :=
  near_of i most (Nat.le_refl _) (fun w' hb => places_any i h hb hby hn) hi (by have := nrs_len (z := z) (a := a) (i := i); have := h.le; omega)
theorem near_none (i most : Int) (w : World) (hi : -9223372036854775808 ≤ i ∧ i ≤ 9223372036854775807) : Calls Try.prog 16 #[.pointer none, .int .i64 i, .int .i64 most] w (NearPost [] most w) :=
  near_of i most (Nat.zero_le _) (fun w' _ => places_none i w') hi (by simp)
end Go.Proofs.Ytibooihekjdpfaa.Cur

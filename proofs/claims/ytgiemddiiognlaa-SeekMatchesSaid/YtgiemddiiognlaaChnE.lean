/- Chains: Places; Near. -/
import Derived.Test.YtgiemddiiognlaaChnD
namespace Go.Proofs.Ytgiemddiiognlaa.Cur
open Go.RowKit Go.Shelf Mem
attribute [local go_sem] Oper.semAt_some
set_option linter.unusedVariables false
set_option maxRecDepth 100000

def PlacesPost (U : Nat) (i : Int) (L : List Nat) (w : World) (e : Ending) (w' : World) : Prop :=
  ∃ c g o k, e = .returned (.func (.func 27) #[] #[.pointer (some ⟨w.heap.size + 2, 0, none⟩), .pointer (some ⟨w.heap.size + 1, 0, none⟩), .pointer (some ⟨w.heap.size, 0, none⟩)]) ∧ Below w.heap.size w w' ∧ w'.heap.size = w.heap.size + 3 ∧
    Pls w' (w.heap.size + 2) (w.heap.size + 1) w.heap.size c g o k i L ∧ k ≤ 100000 ∧ ((c < U ∧ g < U) ∨ (c = w.heap.size ∧ g = w.heap.size))
set_option maxHeartbeats 2000000 in
theorem places_any {w0 w : World} {B c mb : Nat} {r : Option Nat} {A : Option Addr} {n m : Nat} {z : List Int} {a : Nat} (i : Int) (h0 : Chn w0 B c mb r A n m z a) (hb : Below w0.heap.size w0 w) (hby : ∀ x ∈ z, 0 ≤ x ∧ x < 256) (hn : n ≤ 60000) :
    Calls Try.prog 19 #[.pointer (some ⟨c, 0, none⟩), .int .i64 i] w (PlacesPost w0.heap.size i (nrs z a i) w) := by
  have h := h0.below hb
  have hX := (Blk.new w #[.pointer (some ⟨c, 0, none⟩)] 43).alloc (.cells #[.int .i64 i] 3)
  have hY := Blk.new (w.alloc (.cells #[.pointer (some ⟨c, 0, none⟩)] 43)) #[.int .i64 i] 3
  rw [show (w.alloc (.cells #[.pointer (some ⟨c, 0, none⟩)] 43)).heap.size = w.heap.size + 1 by simp] at hY
  have h2 := below_two w (.cells #[.pointer (some ⟨c, 0, none⟩)] 43) (.cells #[.int .i64 i] 3)
  have hs2 : ((w.alloc (.cells #[.pointer (some ⟨c, 0, none⟩)] 43)).alloc (.cells #[.int .i64 i] 3)).heap.size = w.heap.size + 2 := by simp
  have hN := chnearest_any i (h.below h2) hby (by omega)
  unfold NearestPost at hN
  have x0 := hX.c1
  have y0 := hY.c1
  have hzl := h.bs.1.1
  have hla := h.le
  have HH := Lib.hid h0
  have HB := Lib.hid hb
  have HX := Lib.hid hX
  have HY := Lib.hid hY
  have H2 := Lib.hid h2
  have HS := Lib.hid hs2
  have HZL := Lib.hid hzl
  obtain ⟨L, hL⟩ : ∃ L, nrs z a i = L := ⟨_, rfl⟩
  rw [hL] at hN
  have HL := Lib.hid hL
  rw [hL]
  clear h h0 hb hX hY h2 hs2 hby hzl hL
  go_enter Try.func19, Try.ntmps19
  go_wp2_with fail
  refine hN.mono ?_
  rintro e w3 ⟨rfl, k1, rfl⟩
  clear hN
  generalize hW : (w.alloc (.cells #[.pointer (some ⟨c, 0, none⟩)] 43)).alloc (.cells #[.int .i64 i] 3) = W2 at *
  have hsz : (W2.drewN k1).heap.size = w.heap.size + 2 := by rw [← HS.out]; exact (show (W2.drewN k1).heap.size = W2.heap.size by simp)
  have HD := Lib.hid (below_drewN (Below.refl W2.heap.size W2) k1)
  generalize W2.drewN k1 = W3 at *
  have HSZ := Lib.hid hsz
  clear hsz hW x0 y0
  go_wp2
  go_ret
  have hd := HD.out
  have hd2 := H2.out.trans (hd.mono H2.out.size)
  have hA := below_one W3 (.cells #[.int .i64 (nh L)] 3)
  have hA2 := hd2.trans (hA.mono hd2.size)
  have hF := Blk.new W3 #[.int .i64 (nh L)] 3
  rw [HSZ.out] at hF
  have q1 := (HY.out.below hd).below hA
  have q2 := (HX.out.below hd).below hA
  have hsz3 : (W3.alloc (.cells #[.int .i64 (nh L)] 3)).heap.size = w.heap.size + 3 := by rw [World.size_alloc, HSZ.out]
  have hb0 := HB.out
  by_cases hne : L = []
  · subst hne
    exact ⟨w.heap.size, w.heap.size, 0, 0, by rw [HSZ.out]; rfl, hA2, hsz3, ⟨hF.c1, q1.c1, fun h => absurd rfl h, trivial⟩, by omega, .inr ⟨rfl, rfl⟩⟩
  · have hlt := HH.out.lt
    obtain ⟨Av, cv, c0, c1, c2, hc⟩ := HH.out.cells
    obtain ⟨p, s, hps⟩ : ∃ p s, L = p :: s := by cases L with
      | nil => exact absurd rfl hne
      | cons p s => exact ⟨p, s, rfl⟩
    have hcons := nrs_cons (show nrs z a i = p :: s by rw [HL.out, hps])
    obtain ⟨kk, hik, hkz⟩ := hk_pos hcons.2.2.2.1
    obtain ⟨g, o, hAv, hg0⟩ := hc p (by omega)
    have hcc : ∀ j, j < a → w0.cell? ⟨g, o + j, none⟩ = some (.int .i64 (nh (nrs z j j))) := fun j hj => by
      obtain ⟨g', o', e, h⟩ := hc j hj
      rw [hAv] at e
      injection e with e
      injection e with e1 e2
      subst e1 e2
      exact h
    have hgl : g < w0.heap.size := lt_of_cell (hcc p (by omega))
    have hln := Chn.lnk (B := B) (c := c) (mb := mb) (r := r) (A := A) (n := n) (m := m) hcc (by rw [HZL.out]; omega) (i := i) (by rw [HZL.out] at hkz; omega) L a i (Nat.le_refl _) (Int.le_refl _) HL.out.symm
    have hb3 := hb0.trans (hA2.mono hb0.size)
    exact ⟨c, g, o, a, by rw [HSZ.out]; rfl, hA2, hsz3, ⟨hF.c1, q1.c1, fun _ => ⟨cv, q2.c1, (hb3.cell (p := ⟨c, 2, none⟩) hlt).trans (by rw [c2, hAv])⟩, hln.keep (hb3.block g hgl)⟩, by omega, .inl ⟨hlt, hgl⟩⟩
set_option maxHeartbeats 1000000 in
theorem places_none (i : Int) (w : World) : Calls Try.prog 19 #[.pointer none, .int .i64 i] w (PlacesPost 0 i [] w) := by
  have hX := (Blk.new w #[.pointer none] 43).alloc (.cells #[.int .i64 i] 3)
  have hY := Blk.new (w.alloc (.cells #[.pointer none] 43)) #[.int .i64 i] 3
  rw [show (w.alloc (.cells #[.pointer none] 43)).heap.size = w.heap.size + 1 by simp] at hY
  have h2 := below_two w (.cells #[.pointer none] 43) (.cells #[.int .i64 i] 3)
  have hs2 : ((w.alloc (.cells #[.pointer none] 43)).alloc (.cells #[.int .i64 i] 3)).heap.size = w.heap.size + 2 := by simp
  have hN := fun w => chnearest_none i w (by omega)
  have x0 := hX.c1
  have y0 := hY.c1
  have HX := Lib.hid hX
  have HY := Lib.hid hY
  have H2 := Lib.hid h2
  have HS := Lib.hid hs2
  clear hX hY h2 hs2
  go_enter Try.func19, Try.ntmps19
  go_wp2_with fail
  refine (hN _).mono ?_
  rintro e w3 ⟨rfl, rfl⟩
  clear hN
  generalize hW : (w.alloc (.cells #[.pointer none] 43)).alloc (.cells #[.int .i64 i] 3) = W2 at *
  clear hW x0 y0
  go_wp2
  go_ret
  have hA := below_one W2 (.cells #[.int .i64 (-1)] 3)
  have hA2 := H2.out.trans (hA.mono H2.out.size)
  have hF := Blk.new W2 #[.int .i64 (-1)] 3
  rw [HS.out] at hF
  have hsz3 : (W2.alloc (.cells #[.int .i64 (-1)] 3)).heap.size = w.heap.size + 3 := by rw [World.size_alloc, HS.out]
  exact ⟨w.heap.size, w.heap.size, 0, 0, by rw [HS.out]; rfl, hA2, hsz3, ⟨hF.c1, (HY.out.below hA).c1, fun h => absurd rfl h, trivial⟩, by omega, .inr ⟨rfl, rfl⟩⟩

/-! ### Near -/
abbrev nv' (l : List Nat) : List Value := l.map fun x : Nat => Value.int .i64 (x : Int)
/-- A variable's slice is appended to and stored back: what is as it was. -/
theorem boxed_app {W w1 : World} {D0 Bl : Nat} {t e : TypeId} {size k m : Nat} {v v' : Value} {xs ys : List Value} {tmp : Obj} (hv : Boxed W Bl t v) (hte : t ≠ e) (hrow : W.ownsRow D0 e size v k xs) (hD : D0 ≤ W.heap.size) (hBl : Bl < D0)
    (hown' : w1.ownsRow D0 e size v' m ys) (hgrow : (W.alloc tmp).grownBy w1 v.ownBlock) :
    Boxed w1 Bl t v ∧ Boxed (w1.setCell ⟨Bl, 0, none⟩ v') Bl t v' ∧ (w1.setCell ⟨Bl, 0, none⟩ v').ownsRow D0 e size v' m ys ∧ KeepsOthers W (w1.setCell ⟨Bl, 0, none⟩ v') ∧
      (∀ j, j < D0 → j ≠ Bl → (w1.setCell ⟨Bl, 0, none⟩ v').heap[j]? = W.heap[j]?) ∧ ∀ B, B ≤ Bl → Below B W (w1.setCell ⟨Bl, 0, none⟩ v') := by
  have hv1 : Boxed w1 Bl t v := (hv.alloc tmp).kept hgrow (hv.not_row hte hrow)
  have hge : ∀ j, v.ownBlock = some j → D0 ≤ j := own_geg hrow
  refine ⟨hv1, hv1.set v', hown'.kept (grownBy_setCell' w1 Bl v') (.inr (hv1.not_row hte hown').symm), ?_, fun j hj hne => ?_, fun B hB => ?_⟩
  · refine ((KeepsOthers.alloc W tmp).trans (KeepsOthers.of_grownBy hgrow fun j o ej hj => ?_)).trans (KeepsOthers.setCell _ _ _)
    rcases (hrow.alloc tmp).2 with ⟨rfl, _⟩ | ⟨g, cap, cur, rfl, _, hgb, _⟩
    · simp [Value.ownBlock] at ej
    · obtain rfl : g = j := by simpa [Value.ownBlock] using ej
      rw [hgb] at hj; cases hj; rfl
  · have h1 := Below.heap_setCell w1 ⟨Bl, 0, none⟩ v' j hne
    have h2 := hgrow.block j (by simp; omega) (fun e => by have := hge j e.symm; omega)
    have h3 := Below.heap_alloc W tmp j (by omega)
    exact h1.trans (h2.trans h3)
  · exact (((Below.refl B W).alloc (by omega) tmp).grown hgrow (by simp; omega) (fun j ej => by have := hge j ej; omega)).setCell (p := ⟨Bl, 0, none⟩) hB v'
/-- Between two rounds. -/
def NrI (w w3 : World) (most : Int) (pre : List Nat) (W : World) : Prop :=
  ((∃ v, Boxed W (w.heap.size + 1) 52 v ∧ W.ownsRow w3.heap.size 3 1 v pre.length (nv' pre) ∧ (pre.length : Int) ≤ max most 0) ∧ Boxed W w.heap.size 3 (.int .i64 most)) ∧ Below w.heap.size w W ∧ w3.heap.size ≤ W.heap.size
theorem NrI.own (w w3 : World) (most : Int) (h : w.heap.size ≤ w3.heap.size) : OwnFrom w3.heap.size (NrI w w3 most) :=
  OwnFrom.and (OwnFrom.and (Own.from (holdsRow_own w3.heap.size (w.heap.size + 1) 52 3 1 (fun pre : List Nat => pre.length) (fun pre => nv' pre) (fun pre v => (pre.length : Int) ≤ max most 0)) _) (Own.from (boxed_own w.heap.size 3 (fun _ : List Nat => .int .i64 most)) _)) (OwnFrom.and (ownFrom_below (Nat.le_refl _) h) (fun s X Y row hs hg hr => Nat.le_trans hs hg.size))
def NrX (w w3 : World) (most : Int) (cd : Code) (pre : List Nat) (W : World) : Prop := (cd = .exit 0 ∧ pre ≠ [] ∧ most ≤ (pre.dropLast.length : Int)) ∧ NrI w w3 most pre.dropLast W
theorem NrX.own (w w3 : World) (most : Int) (cd : Code) (h : w.heap.size ≤ w3.heap.size) : OwnFrom w3.heap.size (NrX w w3 most cd) :=
  OwnFrom.and (ownFrom_pure _ _) (fun s X Y row hs hg hr => NrI.own w w3 most h s.dropLast X Y row hs hg hr)
def NearPost (L : List Nat) (most : Int) (w : World) (e : Ending) (w' : World) : Prop :=
  ∃ v, e = .returned v ∧ OwnG w' w.heap.size v ((L.take most.toNat).map fun x : Nat => (x : Int)) ∧ Below w.heap.size w w'
end Go.Proofs.Ytgiemddiiognlaa.Cur

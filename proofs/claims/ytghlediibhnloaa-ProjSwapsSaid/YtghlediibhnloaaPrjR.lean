/- Projections that grow: the document's Grow. -/
import Derived.Test.YtghlediibhnloaaPrjP
import Derived.Test.YtghlediibhnloaaPrjQ
namespace Go.Proofs.Ytghlediibhnloaa.Cur
open Go.RowKit Mem
set_option linter.unusedVariables false
set_option maxRecDepth 100000


theorem OwnR.snoc {R : Nat → Prop} {w w' : World} {W : Nat} {v v' : Value} {L : List Stp} {cs : List (List Value)} {c : List Value} {x : Stp}
    (h1 : Ch StE w (fun b => R b ∧ v.ownBlock ≠ some b) cs L) (h3 : ∀ g, v.ownBlock = some g → ¬ (fun b => R b ∧ v.ownBlock ≠ some b) g)
    (hx : StE.R w (fun b => R b ∧ v.ownBlock ≠ some b) c x) (ho : w'.ownsRow W 60 3 v' (L.length + 1) (cs.flatten ++ c)) (hg : w.grownBy w' v.ownBlock) (hgr : Gr v.ownBlock v'.ownBlock w) : OwnQ StE 60 w' W (fun b => R b ∧ v'.ownBlock ≠ some b) v' (L ++ [x]) := by
  have h := OwnQ.snoc (E := StE) (e := 60) h1 h3 hx ho hg hgr
  refine h.mono (fun b hb _ => ⟨hb.1.1, fun e => ?_⟩) (fun g hg2 hh => hh.2 hg2)
  rcases hgr with e2 | ⟨g', e2, hg'⟩
  · exact hb.1.2 (by rw [← e2]; exact e)
  · rw [e2] at e
    injection e with e
    have := hb.2
    omega
theorem OwnR.keep {R : Nat → Prop} {w w' : World} {W : Nat} {v : Value} {L : List Stp} (h : OwnQ StE 60 w W (fun b => R b ∧ v.ownBlock ≠ some b) v L) (hk : ∀ b, b < w.heap.size → (R b ∨ v.ownBlock = some b) → w'.heap[b]? = w.heap[b]?) : OwnQ StE 60 w' W (fun b => R b ∧ v.ownBlock ≠ some b) v L := by
  obtain ⟨cs, h1, h2, h3⟩ := h
  exact ⟨cs, h1.keep fun b hb hlt => hk b hlt (.inl hb.1), own_block h2 fun k hk' => hk k (World.ownsRow.lt h2 k hk').2 (.inr hk'), h3⟩

/-- What comes of a projection that was changed. -/
def endsv (e : Int) (L : List Stp) : Int × Prj := if epk e = false then (18, prj0) else if prok (e, L) then (0, (e, L)) else (3, prj0)
theorem endsv_next {e : Int} (L : List Stp) (h : epk e = true) : endsv (e + 1) L = endv e L := by
  have hb := epk_bd h
  have : nxk e = epk (e + 1) := by
    unfold nxk epk
    rw [decide_eq_decide]
    omega
  unfold endsv endv
  rw [this]
  cases epk (e + 1) <;> simp
theorem PePost.mk {P Q : Nat → Prop} {e c : Int} {A : Option Addr} {N m : Nat} {L : List Stp} {w w' w1 : World} (hp : Pts w P A N L) (hk : ∀ b, P b → b < w.heap.size → w'.heap[b]? = w.heap[b]?) (hq : ∀ b, P b → Q b) (hb : Below w1.heap.size w1 w') (hm : N ≤ m) (hn : A = none → m = 0) :
    PePost Q (c, (e, L)) w1 (.returned (.tuple #[pragg e A N m, .int .i64 c])) w' := ⟨A, N, m, rfl, hb, (hp.keep hk).mono fun b h _ => hq b h, hm, hn⟩
set_option maxHeartbeats 2000000 in
theorem rends_any (P : Nat → Prop) (e : Int) (A : Option Addr) (n m : Nat) (L : List Stp) (w : World) (hz : Pts w P A n L) (hm : n ≤ m) (hnil : A = none → m = 0) (hn : n ≤ 1000000) (hlen : plen 1000000 L) (e0 : 0 ≤ e) :
    Calls Try.prog 66 #[pragg e A n m] w (PePost P (endsv e L) w) := by
  have hX := (Blk.new w (prc e A n m) 25).alloc (.cells (prc 0 none 0 0) 25)
  have hY := Blk.new (w.alloc (.cells (prc e A n m) 25)) (prc 0 none 0 0) 25
  rw [show (w.alloc (.cells (prc e A n m) 25)).heap.size = w.heap.size + 1 by simp] at hY
  have hb := below_two w (.cells (prc e A n m) 25) (.cells (prc 0 none 0 0) 25)
  have HZ := Lib.hid hz
  have HLEN := Lib.hid hlen
  obtain ⟨R, hR⟩ : ∃ R, R = endsv e L := ⟨_, rfl⟩
  rw [← hR]
  have HR := Lib.hid hR
  obtain ⟨x0, x1⟩ := hX.c2
  clear hz hlen hR
  go_enter Try.func66, Try.ntmps66
  go_wp2_with fail
  generalize (w.alloc (.cells (prc e A n m) 25)).alloc (.cells (prc 0 none 0 0) 25) = w0 at *
  refine (rright17_any e e0 _).mono ?_
  rintro en w' ⟨rfl, rfl⟩
  by_cases hk : epk e = true
  case neg =>
    have hk' : epk e = false := by simpa using hk
    have HV : Hid (endsv e L = (18, prj0)) := Lib.hid (by unfold endsv; rw [if_pos hk'])
    rw [hk']
    clear hk hk'
    obtain ⟨y0, y1⟩ := hY.c2
    obtain ⟨f0, f1⟩ := hY.f2
    go_wp2
    refine bodyPost_ret (v := .tuple #[pragg 0 none 0 0, .int .i64 18]) (by simp [results, Try.results66, go_sem, y0, y1]) rfl ?_
    rw [HR.out, HV.out]
    refine PePost.zero ?_
    iterate 2 (refine Below.setCell ?_ (by simp) _)
    exact hb
  have HK := Lib.hid hk
  rw [hk]
  clear hk
  go_wp2_with fail
  refine (rprright_any P e A n m L w0 (HZ.out.below hb) hn HLEN.out e0).mono ?_
  rintro en w1 ⟨rfl, hb1⟩
  replace hX := hX.below hb1
  replace hY := hY.below hb1
  have hbw := hb.trans (hb1.mono hb.size)
  clear x0 x1 hb1 hb
  obtain ⟨x0, x1⟩ := hX.c2
  obtain ⟨y0, y1⟩ := hY.c2
  obtain ⟨f0, f1⟩ := hY.f2
  have HBW := Lib.hid hbw
  by_cases hok : prok (e, L) = true
  · have HV : Hid (endsv e L = (0, (e, L))) := Lib.hid (by unfold endsv; rw [if_neg (by simp [HK.out]), if_pos hok])
    rw [hok]
    clear hok
    go_wp2
    refine bodyPost_ret (v := .tuple #[pragg e A n m, .int .i64 0]) (by simp [results, Try.results66, go_sem, y0, y1]) rfl ?_
    rw [HR.out, HV.out]
    refine PePost.mk HZ.out (fun b hb9 hl => ?_) (fun b h => h) ?_ hm hnil
    · rw [Below.heap_setCell _ _ _ _ (by simp; omega), Below.heap_setCell _ _ _ _ (by simp; omega)]
      exact HBW.out.block b hl
    · iterate 2 (refine Below.setCell ?_ (by simp) _)
      exact hbw
  · have hok' : prok (e, L) = false := by simpa using hok
    have HV : Hid (endsv e L = (3, prj0)) := Lib.hid (by unfold endsv; rw [if_neg (by simp [HK.out]), if_neg hok])
    rw [hok']
    clear hok hok'
    go_wp2
    refine bodyPost_ret (v := .tuple #[pragg 0 none 0 0, .int .i64 3]) (by simp [results, Try.results66, go_sem, y0, y1]) rfl ?_
    rw [HR.out, HV.out]
    refine PePost.zero ?_
    iterate 2 (refine Below.setCell ?_ (by simp) _)
    exact hbw
end Go.Proofs.Ytghlediibhnloaa.Cur

/- slices.Sort at numbers of 64 digits: the choice of the pivot. -/
import Derived.Test.YtpoicagalmhfdaaSrtD
namespace Go.Proofs.Ytpoicagalmhfdaa.Cur
open Go.RowKit Mem Go.Sort
set_option linter.unusedVariables false
set_option maxRecDepth 100000


def SwS (B g n cap : Nat) (d : Array Int) (sb s : Nat) (w : World) : Prop := OwnA w B g n cap d ∧ Blk w sb #[.int .i64 (s : Int)] 3
theorem SwS.drew {B g n cap : Nat} {d : Array Int} {sb s : Nat} {w : World} (h : SwS B g n cap d sb s w) : SwS B g n cap d sb s w.drew := h
theorem OwnA.ne {w : World} {B g n cap : Nat} {d : Array Int} (h : OwnA w B g n cap d) {b : Nat} {c : Array Value} {t : Nat} (hb : Blk w b c t) (ht : t ≠ 22) : g ≠ b := fun e => by
  subst e
  rcases h.2.2 with ⟨e, _⟩ | ⟨g', _, cur, e, _, hh, _⟩
  · cases e
  · injection e with e
    injection e with e
    injection e with e
    subst e
    have h2 : some (Obj.cells cur 22 (0, 0)) = some (Obj.cells c t (0, 0)) := (show w.heap[g]? = _ from hh).symm.trans hb
    injection h2 with h2
    injection h2 with _ h2 _
    exact ht h2.symm
def O2P (B g n cap : Nat) (d : Array Int) (sb s : Nat) (v : Value) (w : World) (e : Ending) (w' : World) : Prop := e = .returned v ∧ SwS B g n cap d sb s w' ∧ Ks (fun x => x = sb) w w'
set_option maxHeartbeats 2000000 in
theorem sorder_any (B g n cap a b sb s : Nat) (d : Array Int) (w : World) (h : SwS B g n cap d sb s w) (hn : n ≤ 1000) (ha : a < n) (hb : b < n) (hs : s ≤ 100) :
    Calls Try.prog 103 #[.slice (some ⟨g, 0, none⟩) n cap, .int .i64 a, .int .i64 b, .pointer (some ⟨sb, 0, none⟩)] w (O2P B g n cap d sb (order2 ltInt d a b s).2.2 (.tuple #[.int .i64 (order2 ltInt d a b s).1, .int .i64 (order2 ltInt d a b s).2.1]) w) := by
  have l0 : (a : Int) < n := by omega
  have l1 : (b : Int) < n := by omega
  have e1 : IntKind.i64.wrap ((s : Int) + 1) = ((s + 1 : Nat) : Int) := IntWalk.i64_in _ (by omega)
  have L : ∀ w', SwS B g n cap d sb s w' → w'.cell? ⟨g, b, none⟩ = some (.int .u64 d[b]!) ∧ w'.cell? ⟨g, a, none⟩ = some (.int .u64 d[a]!) := fun w' h => ⟨h.1.cell hb, h.1.cell ha⟩
  have hO : order2 ltInt d a b s = if ltInt d[b]! d[a]! = true then (b, a, s + 1) else (a, b, s) := rfl
  rw [hO]
  obtain ⟨x, hx⟩ : ∃ x, x = d[b]! := ⟨_, rfl⟩
  obtain ⟨y, hy⟩ : ∃ y, y = d[a]! := ⟨_, rfl⟩
  rw [← hx, ← hy] at L ⊢
  clear hx hy hO
  have hS := h.drew
  have HK := Lib.hid (Ks.of_below (S := fun x => x = sb) (below_one' w))
  clear h
  by_cases hq : ltInt x y = true
  · rw [if_pos hq]
    go_enter Try.func103, Try.ntmps103
    go_wp2
    refine Seq.wp_region_seq (SwS B g n cap d sb s) (by kernel_rfl) (by kernel_rfl) hS ?_
    generalize w.drew = w1 at *
    repeat (first | (refine Seq.Seq.skip (by rfl) ?_; (try simp only [Act.put, List.setIfInBounds_toArray, List.set_cons_zero, List.set_cons_succ])) | (refine Seq.Seq.det ?_ (by rfl) (fun w hS => ?_) ?_; rotate_left; ((try dsimp only at hS); go_simp; (try rw [if_pos (by omega)]); with_reducible rfl); (try simp only [Act.put, List.setIfInBounds_toArray, List.set_cons_zero, List.set_cons_succ])))
    refine Seq.Seq.make (by rfl) (by rfl) (fun K Q' hK => ?_)
    go_simp
    go_at_call 88
    refine (lessu_any _ _ _).mono ?_
    rintro e w' ⟨rfl, rfl⟩
    rw [hq]
    refine hK.out _ _ (hS) ?_
    clear hK K
    try simp only [Act.put, List.setIfInBounds_toArray, List.set_cons_zero, List.set_cons_succ]
    repeat (first | (refine Seq.Seq.skip (by rfl) ?_; (try simp only [Act.put, List.setIfInBounds_toArray, List.set_cons_zero, List.set_cons_succ])) | (refine Seq.Seq.det ?_ (by rfl) (fun w hS => ?_) ?_; rotate_left; ((try dsimp only at hS); go_simp; (try rw [if_pos (by omega)]); with_reducible rfl); (try simp only [Act.put, List.setIfInBounds_toArray, List.set_cons_zero, List.set_cons_succ])))
    refine Seq.Seq.nil ?_
    have q0 := hS.2.c1
    have q1 := hS.2.free 0
    have HE : Hid (SwS B g n cap d sb (s + 1) (w1.setCell ⟨sb, 0, none⟩ (.int .i64 ((s + 1 : Nat) : Int))) ∧ Ks (fun x => x = sb) w (w1.setCell ⟨sb, 0, none⟩ (.int .i64 ((s + 1 : Nat) : Int)))) :=
      Lib.hid ⟨⟨hS.1.keep (Below.heap_setCell _ _ _ _ (fun e => hS.1.ne hS.2 (by decide) e)), hS.2.set 0 _⟩, HK.out.trans (Ks.setCell _ _ _ _ rfl)⟩
    clear L hS hq
    go_wp2
    go_ret2
    exact ⟨rfl, HE.out.1, HE.out.2⟩
  · have hq' : ltInt x y = false := by simpa using hq
    rw [if_neg hq]
    clear hq
    go_enter Try.func103, Try.ntmps103
    go_wp2
    refine Seq.wp_region_seq (SwS B g n cap d sb s) (by kernel_rfl) (by kernel_rfl) hS ?_
    generalize w.drew = w1 at *
    repeat (first | (refine Seq.Seq.skip (by rfl) ?_; (try simp only [Act.put, List.setIfInBounds_toArray, List.set_cons_zero, List.set_cons_succ])) | (refine Seq.Seq.det ?_ (by rfl) (fun w hS => ?_) ?_; rotate_left; ((try dsimp only at hS); go_simp; (try rw [if_pos (by omega)]); with_reducible rfl); (try simp only [Act.put, List.setIfInBounds_toArray, List.set_cons_zero, List.set_cons_succ])))
    refine Seq.Seq.make (by rfl) (by rfl) (fun K Q' hK => ?_)
    go_simp
    go_at_call 88
    refine (lessu_any _ _ _).mono ?_
    rintro e w' ⟨rfl, rfl⟩
    rw [hq']
    refine hK.out _ _ (hS) ?_
    clear hK K
    try simp only [Act.put, List.setIfInBounds_toArray, List.set_cons_zero, List.set_cons_succ]
    repeat (first | (refine Seq.Seq.skip (by rfl) ?_; (try simp only [Act.put, List.setIfInBounds_toArray, List.set_cons_zero, List.set_cons_succ])) | (refine Seq.Seq.det ?_ (by rfl) (fun w hS => ?_) ?_; rotate_left; ((try dsimp only at hS); go_simp; (try rw [if_pos (by omega)]); with_reducible rfl); (try simp only [Act.put, List.setIfInBounds_toArray, List.set_cons_zero, List.set_cons_succ])))
    refine Seq.Seq.nil ?_
    have HE := Lib.hid hS
    clear L hS hq'
    go_wp2
    go_ret2
    exact ⟨rfl, HE.out, HK.out⟩
theorem order2_bd {d : Array Int} {a b s : Nat} {n : Nat} (ha : a < n) (hb : b < n) : (order2 ltInt d a b s).1 < n ∧ (order2 ltInt d a b s).2.1 < n ∧ (order2 ltInt d a b s).2.2 ≤ s + 1 := by
  unfold order2
  split
  · exact ⟨hb, ha, by simp⟩
  · exact ⟨ha, hb, by simp⟩
set_option maxHeartbeats 2000000 in
theorem smedian_any (B g n cap a b c sb s : Nat) (d : Array Int) (w : World) (h : SwS B g n cap d sb s w) (hn : n ≤ 1000) (ha : a < n) (hb : b < n) (hc : c < n) (hs : s ≤ 90) :
    Calls Try.prog 100 #[.slice (some ⟨g, 0, none⟩) n cap, .int .i64 a, .int .i64 b, .int .i64 c, .pointer (some ⟨sb, 0, none⟩)] w (fun e w' => O2P B g n cap d sb (median ltInt d a b c s).2 (.int .i64 (median ltInt d a b c s).1) w e w' ∧ (median ltInt d a b c s).1 < n ∧ (median ltInt d a b c s).2 ≤ s + 3) := by
  have hM : median ltInt d a b c s = ((order2 ltInt d (order2 ltInt d a b s).1 (order2 ltInt d (order2 ltInt d a b s).2.1 c (order2 ltInt d a b s).2.2).1 (order2 ltInt d (order2 ltInt d a b s).2.1 c (order2 ltInt d a b s).2.2).2.2).2.1, (order2 ltInt d (order2 ltInt d a b s).1 (order2 ltInt d (order2 ltInt d a b s).2.1 c (order2 ltInt d a b s).2.2).1 (order2 ltInt d (order2 ltInt d a b s).2.1 c (order2 ltInt d a b s).2.2).2.2).2.2) := rfl
  rw [hM]
  clear hM
  have c1 := sorder_any B g n cap a b sb s d w h hn ha hb (by omega)
  obtain ⟨b1, b2, b3⟩ := order2_bd (d := d) (s := s) ha hb
  generalize order2 ltInt d a b s = r1 at *
  obtain ⟨x1, y1, s1⟩ := r1
  dsimp only at *
  have c2 := fun w' h => sorder_any B g n cap y1 c sb s1 d w' h hn b2 hc (by omega)
  obtain ⟨b4, b5, b6⟩ := order2_bd (d := d) (s := s1) b2 hc
  generalize order2 ltInt d y1 c s1 = r2 at *
  obtain ⟨x2, y2, s2⟩ := r2
  dsimp only at *
  have c3 := fun w' h => sorder_any B g n cap x1 x2 sb s2 d w' h hn b1 b4 (by omega)
  obtain ⟨b7, b8, b9⟩ := order2_bd (d := d) (s := s2) b1 b4
  generalize order2 ltInt d x1 x2 s2 = r3 at *
  obtain ⟨x3, y3, s3⟩ := r3
  dsimp only at *
  have C2 := Lib.hid c2
  have C3 := Lib.hid c3
  clear c2 c3 h
  go_enter Try.func100, Try.ntmps100
  go_wp2_with fail
  refine c1.mono ?_
  rintro e w1 ⟨rfl, h1, k1⟩
  clear c1
  go_wp2_with fail
  refine (C2.out w1 h1).mono ?_
  rintro e w2 ⟨rfl, h2, k2⟩
  clear C2 h1
  go_wp2_with fail
  refine (C3.out w2 h2).mono ?_
  rintro e w3 ⟨rfl, h3, k3⟩
  have HE := Lib.hid (show SwS B g n cap d sb s3 w3 ∧ Ks (fun x => x = sb) w w3 from ⟨h3, (k1.trans k2).trans k3⟩)
  clear C3 h2 h3 k1 k2 k3
  go_wp2
  go_ret
  exact ⟨⟨rfl, HE.out.1, HE.out.2⟩, by omega, by omega⟩
set_option maxHeartbeats 1000000 in
theorem smedadj_any (B g n cap a sb s : Nat) (d : Array Int) (w : World) (h : SwS B g n cap d sb s w) (hn : n ≤ 1000) (ha : a + 1 < n) (ha1 : 1 ≤ a) (hs : s ≤ 90) :
    Calls Try.prog 99 #[.slice (some ⟨g, 0, none⟩) n cap, .int .i64 a, .pointer (some ⟨sb, 0, none⟩)] w (fun e w' => O2P B g n cap d sb (medianAdjacent ltInt d a s).2 (.int .i64 (medianAdjacent ltInt d a s).1) w e w' ∧ (medianAdjacent ltInt d a s).1 < n ∧ (medianAdjacent ltInt d a s).2 ≤ s + 3) := by
  unfold medianAdjacent
  have c1 := smedian_any B g n cap (a - 1) a (a + 1) sb s d w h hn (by omega) (by omega) ha hs
  obtain ⟨r, hr⟩ : ∃ r, r = median ltInt d (a - 1) a (a + 1) s := ⟨_, rfl⟩
  rw [← hr] at c1 ⊢
  have e1 : IntKind.i64.wrap ((a : Int) - 1) = ((a - 1 : Nat) : Int) := by rw [IntWalk.i64_in _ (by omega)]; omega
  have e2 : IntKind.i64.wrap ((a : Int) + 1) = ((a + 1 : Nat) : Int) := IntWalk.i64_in _ (by omega)
  obtain ⟨p, hp⟩ : ∃ p, p = a - 1 := ⟨_, rfl⟩
  obtain ⟨q, hq⟩ : ∃ q, q = a + 1 := ⟨_, rfl⟩
  rw [← hp] at e1 c1
  rw [← hq] at e2 c1
  clear h hr hp hq
  go_enter Try.func99, Try.ntmps99
  go_wp2_with fail
  refine c1.mono ?_
  rintro e w1 ⟨⟨rfl, h1, k1⟩, m1, m2⟩
  clear c1
  go_wp2
  go_ret
  exact ⟨⟨rfl, h1, k1⟩, m1, m2⟩
end Go.Proofs.Ytpoicagalmhfdaa.Cur

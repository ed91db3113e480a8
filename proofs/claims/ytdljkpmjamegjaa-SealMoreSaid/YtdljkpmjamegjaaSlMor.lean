/- SealMore: called with any seals, any seal more and any int, the law returns true; no condition. -/
import Derived.Test.YtdljkpmjamegjaaRows
import Derived.Test.YtdljkpmjamegjaaSelM
import Derived.Test.YtdljkpmjamegjaaSelF
import Derived.Test.YtdljkpmjamegjaaK1
import Derived.IntWalk
import Derived.Deep.RegionHeld3
import Derived.ProofKit
import Derived.OpenShut
import Derived.ShutString
import Derived.ChangeOld
namespace Go.Proofs.Ytdljkpmjamegjaa.sealMore
open Go.ChangeShapes Go.WideShapes Go.ChangeAt Go.RowKit
open Go.ChangeMaps (open_string shut_string)
set_option linter.unusedVariables false

theorem own : ownKnob Try.prog.godebug = none := by kernel_rfl
theorem laidOut : laidOutB Try.prog = true := by kernel_rfl
open Cur Mem

set_option maxRecDepth 100000

abbrev sc (a b c : Int) : Array Value := #[.int .u64 a, .int .u64 b, .int .u64 c]
theorem svs_one3 (s0 s1 s2 : Int) : svs [(s0, s1, s2)] = [.int .u64 s0, .int .u64 s1, .int .u64 s2] := rfl
theorem draw_append_rg {sl e : TypeId} {zv : Value} {size bytes : Nat} (E : Kind sl e zv size bytes) {w : World} {ops : Array Oper} {o : Oper} {a : Act} {K : Act → World → Prop} {Q : Exit → Act → World → Prop} {F : Prop} (hgd : o.guard = none) (s x : Operand)
    (ho : o.op = .call { callee := .builtin .append, args := #[s, x], argTypes := #[sl, sl] })
    (B : Nat) (v : Value) (n : Nat) (xs : List Value) (hs : a.eval s = v) (hown : w.ownsRow B e size v n xs) (A : Option Addr) (m c : Nat) (news : List Value) (hx : a.eval x = .slice A m c) (hl : news.length = m * size) (hr : Rw w A news) (hc : A = none → c = 0) (h1 : ∀ u ∈ news, u.oneCell' = true)
    (hsz : n + m ≤ 1000000) (hby : bytes ≤ 1000000) (hB : B ≤ w.heap.size)
    (h : ∀ v' w', w'.ownsRow B e size v' (n + m) (xs ++ news) → w.grownBy w' v.ownBlock → Gr v.ownBlock v'.ownBlock w → K (a.put o.dst v') w') :
    if Region.wanted o (yielded ops a.tmps) = true then Oper.wp Try.prog o a w K Q else F := by
  rw [if_pos (by simp [Region.wanted, hgd])]
  obtain ⟨v', w', hrun, h2, h3, h4⟩ := run_append_rw E w o.type B v n xs hown A m c news hl hr hc h1 hsz hby hB
  unfold Oper.wp
  simp [execOp, ho, resolve, invoke, builtin, hs, hx, hrun, Result.andThen]
  exact h v' w' h2 h3 h4
theorem own0 {W : World} {b B : Nat} (h : Blk W b #[] 24) (hB : B ≤ b) : W.ownsRow B 24 3 (.slice (some ⟨b, 0, none⟩) 0 0) 0 [] :=
  ⟨rfl, .inr ⟨b, 0, #[], rfl, hB, h, Nat.le_refl _, by simp [maxLen], rfl, rfl⟩⟩
theorem rw_blk3 {W : World} {b : Nat} {m0 m1 m2 : Int} (h : Blk W b (sc m0 m1 m2) 24) : Rw W (some ⟨b, 0, none⟩) [.int .u64 m0, .int .u64 m1, .int .u64 m2] := fun _ =>
  ⟨_, _, rfl, fun i v hi => by
    rw [Nat.zero_add]
    exact h.cell i (by simpa using hi)⟩
theorem blk_second (W : World) (cs ds : Array Value) (t u : Nat) : Blk ((W.alloc (.cells cs t)).alloc (.cells ds u)) (W.heap.size + 1) ds u := by
  have h := Blk.new (W.alloc (.cells cs t)) ds u
  rw [World.size_alloc] at h; exact h
/-- Turned round, from a place on. -/
theorem back_step (l : List Sl3) (k : Nat) (hk : k < l.length) : (l.drop k).reverse = (l.drop (k + 1)).reverse ++ [l.getD k (0, 0, 0)] := by
  rw [List.drop_eq_getElem_cons hk, List.reverse_cons, List.getD_eq_getElem?_getD, List.getElem?_eq_getElem hk]; rfl
/-- What the law says of the three tails. -/
theorem more_ways {L1 L2 L3 : List Sl3} {q : Int} (h12 : ∀ s ∈ L1, s ∈ L2) (h23 : ∀ s ∈ L2, s ∈ L3) (h32 : ∀ s ∈ L3, s ∈ L2) {e1 e2 e3 : Ending}
    (h1 : (q < 1 ∧ e1 = .returned (.tuple #[.int .u64 0, .bool false])) ∨ (1 ≤ q ∧ ∃ D, Rising D ∧ Nds L1 D ∧ ((D.length < q ∧ e1 = .returned (.tuple #[.int .u64 0, .bool false])) ∨ (q ≤ D.length ∧ ∃ t, Mx L1 t ∧ e1 = .returned (.tuple #[.int .u64 t, .bool true])))))
    (h2 : (q < 1 ∧ e2 = .returned (.tuple #[.int .u64 0, .bool false])) ∨ (1 ≤ q ∧ ∃ D, Rising D ∧ Nds L2 D ∧ ((D.length < q ∧ e2 = .returned (.tuple #[.int .u64 0, .bool false])) ∨ (q ≤ D.length ∧ ∃ t, Mx L2 t ∧ e2 = .returned (.tuple #[.int .u64 t, .bool true])))))
    (h3 : (q < 1 ∧ e3 = .returned (.tuple #[.int .u64 0, .bool false])) ∨ (1 ≤ q ∧ ∃ D, Rising D ∧ Nds L3 D ∧ ((D.length < q ∧ e3 = .returned (.tuple #[.int .u64 0, .bool false])) ∨ (q ≤ D.length ∧ ∃ t, Mx L3 t ∧ e3 = .returned (.tuple #[.int .u64 t, .bool true]))))) :
    ∃ (x y z : Int) (a b c : Bool), e1 = .returned (.tuple #[.int .u64 x, .bool a]) ∧ e2 = .returned (.tuple #[.int .u64 y, .bool b]) ∧ e3 = .returned (.tuple #[.int .u64 z, .bool c]) ∧ z = y ∧ c = b ∧ ((a = false) ∨ (a = true ∧ b = true ∧ x ≤ y)) := by
  rcases h1 with ⟨q1, rfl⟩ | ⟨q1, D1, r1, n1, w1⟩
  · rcases h2 with ⟨_, rfl⟩ | ⟨q2, _⟩
    · rcases h3 with ⟨_, rfl⟩ | ⟨q3, _⟩
      · exact ⟨0, 0, 0, false, false, false, rfl, rfl, rfl, rfl, rfl, .inl rfl⟩
      · omega
    · omega
  · rcases h2 with ⟨q2, _⟩ | ⟨_, D2, r2, n2, w2⟩
    · omega
    · rcases h3 with ⟨q3, _⟩ | ⟨_, D3, r3, n3, w3⟩
      · omega
      · have l12 := nds_le n1 r1.nodup n2 h12
        have l23 := nds_le n2 r2.nodup n3 h23
        have l32 := nds_le n3 r3.nodup n2 h32
        rcases w2 with ⟨w2, rfl⟩ | ⟨w2, t2, m2, rfl⟩
        · rcases w1 with ⟨w1, rfl⟩ | ⟨w1, t1, m1, rfl⟩
          · rcases w3 with ⟨w3, rfl⟩ | ⟨w3, t3, m3, rfl⟩
            · exact ⟨0, 0, 0, false, false, false, rfl, rfl, rfl, rfl, rfl, .inl rfl⟩
            · omega
          · omega
        · rcases w3 with ⟨w3, rfl⟩ | ⟨w3, t3, m3, rfl⟩
          · omega
          · have e32 : t3 = t2 := Int.le_antisymm (m3.le m2 h32) (m2.le m3 h23)
            rcases w1 with ⟨w1, rfl⟩ | ⟨w1, t1, m1, rfl⟩
            · exact ⟨0, t2, t3, false, true, true, rfl, rfl, rfl, e32, rfl, .inl rfl⟩
            · exact ⟨t1, t2, t3, true, true, true, rfl, rfl, rfl, e32, rfl, .inr ⟨rfl, rfl, m1.le m2 h12⟩⟩

theorem more_ways' {L1 L2 L3 : List Sl3} {q : Int} (h12 : ∀ s ∈ L1, s ∈ L2) (h23 : ∀ s ∈ L2, s ∈ L3) (h32 : ∀ s ∈ L3, s ∈ L2) {x y z : Int} {a b c : Bool}
    (h1 : (q < 1 ∧ Ending.returned (.tuple #[.int .u64 x, .bool a]) = .returned (.tuple #[.int .u64 0, .bool false])) ∨ (1 ≤ q ∧ ∃ D, Rising D ∧ Nds L1 D ∧ ((D.length < q ∧ Ending.returned (.tuple #[.int .u64 x, .bool a]) = .returned (.tuple #[.int .u64 0, .bool false])) ∨ (q ≤ D.length ∧ ∃ t, Mx L1 t ∧ Ending.returned (.tuple #[.int .u64 x, .bool a]) = .returned (.tuple #[.int .u64 t, .bool true])))))
    (h2 : (q < 1 ∧ Ending.returned (.tuple #[.int .u64 y, .bool b]) = .returned (.tuple #[.int .u64 0, .bool false])) ∨ (1 ≤ q ∧ ∃ D, Rising D ∧ Nds L2 D ∧ ((D.length < q ∧ Ending.returned (.tuple #[.int .u64 y, .bool b]) = .returned (.tuple #[.int .u64 0, .bool false])) ∨ (q ≤ D.length ∧ ∃ t, Mx L2 t ∧ Ending.returned (.tuple #[.int .u64 y, .bool b]) = .returned (.tuple #[.int .u64 t, .bool true])))))
    (h3 : (q < 1 ∧ Ending.returned (.tuple #[.int .u64 z, .bool c]) = .returned (.tuple #[.int .u64 0, .bool false])) ∨ (1 ≤ q ∧ ∃ D, Rising D ∧ Nds L3 D ∧ ((D.length < q ∧ Ending.returned (.tuple #[.int .u64 z, .bool c]) = .returned (.tuple #[.int .u64 0, .bool false])) ∨ (q ≤ D.length ∧ ∃ t, Mx L3 t ∧ Ending.returned (.tuple #[.int .u64 z, .bool c]) = .returned (.tuple #[.int .u64 t, .bool true]))))) :
    z = y ∧ c = b ∧ ((a = false) ∨ (a = true ∧ b = true ∧ x ≤ y)) := by
  obtain ⟨x', y', z', a', b', c', e1, e2, e3, r⟩ := more_ways h12 h23 h32 h1 h2 h3
  simp at e1 e2 e3
  obtain ⟨rfl, rfl⟩ := e1
  obtain ⟨rfl, rfl⟩ := e2
  obtain ⟨rfl, rfl⟩ := e3
  exact r
theorem own_more {W : World} {B n : Nat} {v : Value} {l : List Sl3} {m0 m1 m2 : Int} (h : W.ownsRow (B + 1) 24 3 v (n + 1) (svs l ++ [.int .u64 m0, .int .u64 m1, .int .u64 m2])) (hl : l.length = n) : OwnL W B v (l ++ [(m0, m1, m2)]) := by
  subst hl
  exact own_base (OwnL.snoc h) (fun g hg => by have := own_ge3 h g hg; omega)
theorem vl_more (e : Int) (l : List Sl3) (s : Sl3) : ∀ u ∈ vl e l, u ∈ vl e (l ++ [s]) := fun u hu => vl_mem.2 ⟨List.mem_append_left _ (vl_mem.1 hu).1, (vl_mem.1 hu).2⟩
theorem vl_rev (e : Int) (l : List Sl3) : ∀ u ∈ vl e l, u ∈ vl e l.reverse := fun u hu => vl_mem.2 ⟨by simpa using (vl_mem.1 hu).1, (vl_mem.1 hu).2⟩
theorem vl_rev' (e : Int) (l : List Sl3) : ∀ u ∈ vl e l.reverse, u ∈ vl e l := fun u hu => vl_mem.2 ⟨by simpa using (vl_mem.1 hu).1, (vl_mem.1 hu).2⟩
theorem ways_tuple {L : List Sl3} {q : Int} {e : Ending} (h : (q < 1 ∧ e = .returned (.tuple #[.int .u64 0, .bool false])) ∨ (1 ≤ q ∧ ∃ D, Rising D ∧ Nds L D ∧ ((D.length < q ∧ e = .returned (.tuple #[.int .u64 0, .bool false])) ∨ (q ≤ D.length ∧ ∃ t, Mx L t ∧ e = .returned (.tuple #[.int .u64 t, .bool true]))))) : ∃ (x : Int) (a : Bool), e = .returned (.tuple #[.int .u64 x, .bool a]) := by
  rcases h with ⟨_, rfl⟩ | ⟨_, D, _, _, ⟨_, rfl⟩ | ⟨_, t, _, rfl⟩⟩
  · exact ⟨_, _, rfl⟩
  · exact ⟨_, _, rfl⟩
  · exact ⟨_, _, rfl⟩


set_option maxHeartbeats 8000000 in
theorem walk {H : Type} (enc : TypeId × Value → H) (w : World) (base : Nat) (v0 : Value) (d0 : DataW H) (p0 : List MemPlace) (g0 : Value.okWide Try.prog w .any base 54 v0) (h0 : DataW.Trod enc Try.prog w 0 (fun _ => true) true 54 v0 d0 p0) (v1 : Value) (d1 : DataW H) (p1 : List MemPlace) (g1 : Value.okWide Try.prog w .any base 24 v1) (h1 : DataW.Trod enc Try.prog w 0 (fun _ => true) true 24 v1 d1 p1) (v2 : Value) (d2 : DataW H) (p2 : List MemPlace) (g2 : Value.okWide Try.prog w .any base 3 v2) (h2 : DataW.Trod enc Try.prog w 0 (fun _ => true) true 3 v2 d2 p2) :
    Calls Try.prog 6 #[v0, v1, v2] w fun e w' => e = .returned (.bool true) ∧ Below w.heap.size w w' := by
  obtain ⟨A, n, m, l, rfl, hnm, hz, hsb, hnil⟩ := open_seals g0 h0
  obtain ⟨mo, rfl, hmo⟩ := open_seal g1 h1
  obtain ⟨q, rfl, q0, q1⟩ := open_i64 g2 h2
  clear g0 h0 g1 h1 g2 h2 hsb hmo
  obtain ⟨m0, m1, m2⟩ := mo
  have hX := Blk.new w (sc m0 m1 m2) 24
  have hbX := below_one w (.cells (sc m0 m1 m2) 24)
  by_cases hn : 100 < (n : Int) ∨ n = 0
  · clear hX
    rcases hn with hn | hn
    · go_enter Try.func6, Try.ntmps6
      go_wp2_with fail
      refine (live18_any _).mono ?_
      rintro e w1 ⟨rfl, hb⟩
      have hbd := hbX.trans (hb.mono hbX.size)
      go_wp2
      go_ret
      exact ⟨rfl, hbd⟩
    · subst hn
      go_enter Try.func6, Try.ntmps6
      go_wp2_with fail
      refine (live18_any _).mono ?_
      rintro e w1 ⟨rfl, hb⟩
      have hbd := hbX.trans (hb.mono hbX.size)
      go_wp2
      go_ret
      exact ⟨rfl, hbd⟩
  have hn100 : n ≤ 100 := by omega
  have hn0 : n ≠ 0 := by omega
  have hnb : ((n : Int) == 0) = false := by simpa using hn0
  obtain ⟨g, o, rfl, hg, hc⟩ := hz.cells (by omega)
  obtain ⟨c0, c1, c2⟩ := hc _ hbX 0 (by omega)
  rw [Nat.zero_mul, Nat.add_zero] at c0
  obtain ⟨e0, he0⟩ : ∃ e0, e0 = (l.getD 0 (0, 0, 0)).1 := ⟨_, rfl⟩
  rw [← he0] at c0
  have HTL := Lib.hid (fun w' (hb : Below w.heap.size w w') => tail_any _ n m l e0 q w' (hz.below hb) (by omega) q1)
  have HZ := Lib.hid hz
  have hz1 := hz.1
  have hn1 : (0 : Int) < n := by omega
  have hn2 : ¬ 100 < (n : Int) := by omega
  clear hz hc c1 c2 he0 hn
  go_enter Try.func6, Try.ntmps6
  go_wp2_with fail
  clear c0
  generalize w.alloc (.cells (sc m0 m1 m2) 24) = w0 at *
  have htl := HTL.out w0 hbX
  unfold TlPost at htl
  with_reducible refine htl.mono ?_
  rintro e w1 ⟨hb1, hways1⟩
  have hbd := hbX.trans (hb1.mono hbX.size)
  replace hX := hX.below hb1
  clear htl hb1 hbX
  obtain ⟨x1, a1, rfl⟩ : ∃ (x : Int) (a : Bool), e = .returned (.tuple #[.int .u64 x, .bool a]) := by
    rcases hways1 with ⟨_, rfl⟩ | ⟨_, D, _, _, ⟨_, rfl⟩ | ⟨_, t, _, rfl⟩⟩
    · exact ⟨_, _, rfl⟩
    · exact ⟨_, _, rfl⟩
    · exact ⟨_, _, rfl⟩
  have HW1 := Lib.hid hways1
  clear hways1
  obtain ⟨y0, y1, y2⟩ := hX.c3
  go_wp2
  have hq0 : w1.cell? ⟨w.heap.size, 0, none⟩ = some (.int .u64 m0) ∧ w1.cell? ⟨w.heap.size, 1, none⟩ = some (.int .u64 m1) ∧ w1.cell? ⟨w.heap.size, 2, none⟩ = some (.int .u64 m2) := ⟨y0, y1, y2⟩
  have hxl := hX.lt
  have hwl := hbd.size
  have hll := hz1
  clear y0 y1 y2
  go_region_held3 (fun w' => w'.cell? ⟨w.heap.size, 0, none⟩ = some (.int .u64 m0) ∧ w'.cell? ⟨w.heap.size, 1, none⟩ = some (.int .u64 m1) ∧ w'.cell? ⟨w.heap.size, 2, none⟩ = some (.int .u64 m2))
    (first | go_keep | exact hq0 | exact hq39 | exact hq42)
    (first
      | (have gk := ho39; go_must (refine draw_append_rg kindL rfl (.tmp 39) (.tmp 41) rfl (w.heap.size + 1) _ n (svs l) rfl (by first | exact ho39 | exact own_below ho39 (below_one _ _)) _ 1 _ [.int .u64 m0, .int .u64 m1, .int .u64 m2] rfl rfl (by first | exact rw_new3 _ _ _ | exact rw_blk3 h41) (by simp) (by simp [Value.oneCell']) (by omega) (by omega) (by have := hX39.lt; first | omega | (simp <;> omega)) ?_; intro v42 w42 ho42 hg42 hgr42; have hb42 : Below w.heap.size w w42 := Below.grown (by first | exact hb39.drew | exact (hb39.alloc hb39.size _).drew | exact hb39 | exact hb39.alloc hb39.size _) hg42 (by have := hb39.size; first | omega | (simp <;> omega)) (fun k hk => by have := own_ge3 ho39 k hk; omega); have hX42 : Blk w42 w.heap.size (sc m0 m1 m2) 24 := (hg42.block _ (by have := hX39.lt; first | omega | (simp <;> omega)) (fun e => by have := own_ge3 ho39 _ e.symm; omega)).trans (by first | exact hX39 | exact hX39.alloc _); have hq42 := hX42.c3; clear gk hg42 hgr42))
      | (go_must (refine draw_append_rg kindL rfl (.tmp 37) (.tmp 38) rfl (w.heap.size + 1) (.slice (some ⟨_, 0, none⟩) 0 0) 0 [] rfl (own0 (by first | exact Blk.drew (Blk.new _ _ _) | exact Blk.drew (Blk.alloc (Blk.new _ _ _) _) | exact Blk.drew (blk_second _ _ _ _ _)) (by omega)) _ n m (svs l) rfl (by rw [svs_len, hz1]) (HZ.out.2.below (by first | exact (hbd.alloc hwl _).drew | exact ((hbd.alloc hwl _).alloc (by simp; omega) _).drew)) hnil (svs_one l) (by omega) (by omega) (by first | omega | (simp <;> omega)) ?_; intro v39 w39 ho39 hg39 hgr39; have hb39 : Below w.heap.size w w39 := Below.grown (by first | exact (hbd.alloc hwl _).drew | exact ((hbd.alloc hwl _).alloc (by simp; omega) _).drew) hg39 (by first | omega | (simp <;> omega)) (fun k hk => by simp [Value.ownBlock] at hk; omega); have hX39 : Blk w39 w.heap.size (sc m0 m1 m2) 24 := (hg39.block _ (by first | omega | (simp <;> omega)) (fun e => by simp [Value.ownBlock] at e <;> omega)).trans (by first | exact Blk.drew (hX.alloc _) | exact Blk.drew ((hX.alloc _).alloc _)); have hq39 := hX39.c3; rw [Nat.zero_add, List.nil_append] at ho39; (first | (have h41 : Blk w39 w1.heap.size (sc m0 m1 m2) 24 := (hg39.block _ (by first | omega | (simp <;> omega)) (fun e => by simp [Value.ownBlock] at e <;> omega)).trans (Blk.drew (Blk.alloc (Blk.new w1 _ _) _))) | (have h41 : Blk w39 (w1.heap.size + 1) (sc m0 m1 m2) 24 := (hg39.block _ (by first | omega | (simp <;> omega)) (fun e => by simp [Value.ownBlock] at e <;> omega)).trans (Blk.drew (blk_second w1 _ _ _ _))) | skip); clear hg39 hgr39))
      | fail)
  all_goals (have hO := own_more ho42 hz1; try clear h41)
  all_goals clear hq0 hq39 hq42 hX39 hX42 ho39 hb39 ho42 hX
  all_goals have HBD := Lib.hid hb42
  all_goals clear hb42 hbd hll
  · obtain ⟨A2, c2', rfl, hcap2, hnil2, hz2⟩ := hO.slice
    obtain ⟨L2, hL2⟩ : ∃ L2, L2 = l ++ [(m0, m1, m2)] := ⟨_, rfl⟩
    rw [← hL2] at hO hz2 ⊢
    have hl2 : L2.length = n + 1 := by rw [hL2, List.length_append, hz1]; rfl
    have H12 : Hid (∀ u ∈ vl e0 l, u ∈ vl e0 L2) := Lib.hid (by rw [hL2]; exact vl_more _ _ _)
    have htl2 := tail_any A2 L2.length c2' L2 e0 q w42 hz2 (by omega) q1
    have HC0 := Lib.hid (hz2.cells (by omega))
    obtain ⟨N, hN⟩ : ∃ N, N = L2.length := ⟨_, rfl⟩
    rw [← hN] at htl2 HC0 hl2 ⊢
    have HN := Lib.hid hN
    have hN1 : 1 ≤ N := by omega
    have hN2 : N ≤ 101 := by omega
    clear hL2 hO hz2 hN hcap2 hnil2 hl2
    unfold TlPost at htl2
    go_wp2_with fail
    with_reducible refine htl2.mono ?_
    rintro e w6 ⟨hb6, hways2⟩
    obtain ⟨x2, a2, rfl⟩ := ways_tuple hways2
    have HW2 := Lib.hid hways2
    have HBD6 := Lib.hid (HBD.out.trans (hb6.mono HBD.out.size))
    obtain ⟨g2, o2, rfl, hg2, hc2⟩ := HC0.out
    have HC : Hid (∀ w', Below w6.heap.size w6 w' → ∀ k, k < N → w'.cell? ⟨g2, o2 + k * 3, none⟩ = some (.int .u64 (L2.getD k (0, 0, 0)).1) ∧ w'.cell? ⟨g2, o2 + k * 3 + 1, none⟩ = some (.int .u64 (L2.getD k (0, 0, 0)).2.1) ∧ w'.cell? ⟨g2, o2 + k * 3 + 2, none⟩ = some (.int .u64 (L2.getD k (0, 0, 0)).2.2)) :=
      Lib.hid fun w' hb => hc2 w' (hb6.trans (hb.mono hb6.size))
    clear htl2 hways2 hb6 hc2 HC0 HBD
    go_wp2
    go_loopw [13, 14] (fun v13 v14 wr => ∃ (k : Nat) (x : Int), k ≤ N ∧ v14 = .int .i64 x ∧ Hid (x + 1 = k) ∧ -1 ≤ x ∧ OwnL wr w6.heap.size v13 ((L2.drop k).reverse) ∧ Below w6.heap.size w6 wr) (fun _ v _ => (intOf v + 1).toNat)
    case atStart => exact ⟨N, (N : Int) - 1, by omega, by go_num, Lib.hid (by omega), by omega, by rw [List.drop_of_length_le (by rw [← HN.out]; exact Nat.le_refl _)]; exact OwnL.nil _ _, Below.refl _ _⟩
    case round =>
      obtain ⟨k, x, hk, rfl, hxk, hx1, ho, hb⟩ := hrel
      rcases k with _ | k
      · have hxx := hxk.out
        obtain rfl : x = -1 := by omega
        clear hxk hxx
        rw [List.drop_zero] at ho
        obtain ⟨A3, c3', rfl, hcap3, hnil3, hz3⟩ := ho.slice
        have hln : L2.reverse.length ≤ 100000 := by rw [List.length_reverse, ← HN.out]; omega
        have htl3 := tail_any A3 L2.reverse.length c3' L2.reverse e0 q wr hz3 hln q1
        have HBR := Lib.hid (HBD6.out.trans (hb.mono HBD6.out.size))
        obtain ⟨N3, hN3⟩ : ∃ N3, N3 = L2.reverse.length := ⟨_, rfl⟩
        rw [← hN3] at htl3 ⊢
        clear ho hz3 hcap3 hnil3 hln hN3 hb
        unfold TlPost at htl3
        go_wp2_with fail
        with_reducible refine htl3.mono ?_
        rintro e w7 ⟨hb7, hways3⟩
        obtain ⟨x3, a3, rfl⟩ := ways_tuple hways3
        have HBE := Lib.hid (HBR.out.trans (hb7.mono HBR.out.size))
        obtain ⟨rfl, rfl, hor⟩ := more_ways' H12.out (vl_rev e0 L2) (vl_rev' e0 L2) HW1.out HW2.out hways3
        clear htl3 hways3 hb7 HW1 HW2
        rcases hor with rfl | ⟨rfl, rfl, hle⟩
        · go_wp2_with fail
          with_reducible refine (live18_any _).mono ?_
          rintro e w9 ⟨rfl, hb9⟩
          have HBF := Lib.hid (HBE.out.trans (hb9.mono HBE.out.size))
          clear hb9
          go_wp2
          go_ret
          exact ⟨rfl, HBF.out⟩
        · go_wp2_with fail
          with_reducible refine (live18_any _).mono ?_
          rintro e w9 ⟨rfl, hb9⟩
          have HBF := Lib.hid (HBE.out.trans (hb9.mono HBE.out.size))
          clear hb9
          go_wp2
          go_ret
          exact ⟨rfl, HBF.out⟩
      · have hxx := hxk.out
        obtain rfl : x = (k : Int) := by omega
        clear hxk hxx
        obtain ⟨d0, d1, d2⟩ := HC.out wr hb k (by omega)
        have HST := Lib.hid (back_step L2 k (by rw [← HN.out]; omega))
        have hlr : ((L2.drop (k + 1)).reverse).length + 1 ≤ 1000000 := by rw [List.length_reverse, List.length_drop, ← HN.out]; omega
        generalize (L2.drop (k + 1)).reverse = Y at *
        generalize L2.getD k (0, 0, 0) = s at *
        obtain ⟨s0, s1, s2⟩ := s
        dsimp only at d0 d1 d2
        have HLE := Lib.hid hlr
        have hA := below_one wr (.cells #[.int .u64 s0, .int .u64 s1, .int .u64 s2] 24)
        have hbA := hb.trans (hA.mono hb.size)
        have hrwA := rw_new3 wr [.int .u64 s0, .int .u64 s1, .int .u64 s2] 24
        have hoA := ho.below hA
        have hB9 := hbA.size
        have hge := own_ge3 hoA
        obtain ⟨Av, cv, rfl, _⟩ := hoA.slice
        have HBA := Lib.hid hbA
        have e2 : (k : Int) < N := by omega
        clear hbA hA ho hb hlr
        go_wp2_with (at_builtin; go_must (refine list_append_rw kindL rfl (.tmp 57) (.tmp 62) rfl w6.heap.size _ _ _ rfl hoA _ 1 _ [.int .u64 s0, .int .u64 s1, .int .u64 s2] rfl rfl hrwA (by simp) (by simp [Value.oneCell']) HLE.out (by omega) hB9 ?_; intro v' w10 ho' hg' hgr'; have H8 : Hid (Below w6.heap.size w6 w10) := Lib.hid (HBA.out.grown hg' (by have := hB9; omega) (fun k hk => by have := hge k hk; omega)); have H9 : Hid (OwnL w10 w6.heap.size v' (Y ++ [(s0, s1, s2)])) := Lib.hid (OwnL.snoc ho'); clear ho' hg' hgr' hrwA hoA hB9 hge))
        go_roundw
        case rel => exact ⟨k, (k : Int) - 1, by omega, by go_num, Lib.hid (by omega), by omega, by rw [HST.out]; exact H9.out, H8.out⟩
        case measure => simp [intOf] <;> omega
  · obtain ⟨A2, c2', rfl, hcap2, hnil2, hz2⟩ := hO.slice
    obtain ⟨L2, hL2⟩ : ∃ L2, L2 = l ++ [(m0, m1, m2)] := ⟨_, rfl⟩
    rw [← hL2] at hO hz2 ⊢
    have hl2 : L2.length = n + 1 := by rw [hL2, List.length_append, hz1]; rfl
    have H12 : Hid (∀ u ∈ vl e0 l, u ∈ vl e0 L2) := Lib.hid (by rw [hL2]; exact vl_more _ _ _)
    have htl2 := tail_any A2 L2.length c2' L2 e0 q w42 hz2 (by omega) q1
    have HC0 := Lib.hid (hz2.cells (by omega))
    obtain ⟨N, hN⟩ : ∃ N, N = L2.length := ⟨_, rfl⟩
    rw [← hN] at htl2 HC0 hl2 ⊢
    have HN := Lib.hid hN
    have hN1 : 1 ≤ N := by omega
    have hN2 : N ≤ 101 := by omega
    clear hL2 hO hz2 hN hcap2 hnil2 hl2
    unfold TlPost at htl2
    go_wp2_with fail
    with_reducible refine htl2.mono ?_
    rintro e w6 ⟨hb6, hways2⟩
    obtain ⟨x2, a2, rfl⟩ := ways_tuple hways2
    have HW2 := Lib.hid hways2
    have HBD6 := Lib.hid (HBD.out.trans (hb6.mono HBD.out.size))
    obtain ⟨g2, o2, rfl, hg2, hc2⟩ := HC0.out
    have HC : Hid (∀ w', Below w6.heap.size w6 w' → ∀ k, k < N → w'.cell? ⟨g2, o2 + k * 3, none⟩ = some (.int .u64 (L2.getD k (0, 0, 0)).1) ∧ w'.cell? ⟨g2, o2 + k * 3 + 1, none⟩ = some (.int .u64 (L2.getD k (0, 0, 0)).2.1) ∧ w'.cell? ⟨g2, o2 + k * 3 + 2, none⟩ = some (.int .u64 (L2.getD k (0, 0, 0)).2.2)) :=
      Lib.hid fun w' hb => hc2 w' (hb6.trans (hb.mono hb6.size))
    clear htl2 hways2 hb6 hc2 HC0 HBD
    go_wp2
    go_loopw [13, 14] (fun v13 v14 wr => ∃ (k : Nat) (x : Int), k ≤ N ∧ v14 = .int .i64 x ∧ Hid (x + 1 = k) ∧ -1 ≤ x ∧ OwnL wr w6.heap.size v13 ((L2.drop k).reverse) ∧ Below w6.heap.size w6 wr) (fun _ v _ => (intOf v + 1).toNat)
    case atStart => exact ⟨N, (N : Int) - 1, by omega, by go_num, Lib.hid (by omega), by omega, by rw [List.drop_of_length_le (by rw [← HN.out]; exact Nat.le_refl _)]; exact OwnL.nil _ _, Below.refl _ _⟩
    case round =>
      obtain ⟨k, x, hk, rfl, hxk, hx1, ho, hb⟩ := hrel
      rcases k with _ | k
      · have hxx := hxk.out
        obtain rfl : x = -1 := by omega
        clear hxk hxx
        rw [List.drop_zero] at ho
        obtain ⟨A3, c3', rfl, hcap3, hnil3, hz3⟩ := ho.slice
        have hln : L2.reverse.length ≤ 100000 := by rw [List.length_reverse, ← HN.out]; omega
        have htl3 := tail_any A3 L2.reverse.length c3' L2.reverse e0 q wr hz3 hln q1
        have HBR := Lib.hid (HBD6.out.trans (hb.mono HBD6.out.size))
        obtain ⟨N3, hN3⟩ : ∃ N3, N3 = L2.reverse.length := ⟨_, rfl⟩
        rw [← hN3] at htl3 ⊢
        clear ho hz3 hcap3 hnil3 hln hN3 hb
        unfold TlPost at htl3
        go_wp2_with fail
        with_reducible refine htl3.mono ?_
        rintro e w7 ⟨hb7, hways3⟩
        obtain ⟨x3, a3, rfl⟩ := ways_tuple hways3
        have HBE := Lib.hid (HBR.out.trans (hb7.mono HBR.out.size))
        obtain ⟨rfl, rfl, hor⟩ := more_ways' H12.out (vl_rev e0 L2) (vl_rev' e0 L2) HW1.out HW2.out hways3
        clear htl3 hways3 hb7 HW1 HW2
        rcases hor with rfl | ⟨rfl, rfl, hle⟩
        · go_wp2_with fail
          with_reducible refine (live18_any _).mono ?_
          rintro e w9 ⟨rfl, hb9⟩
          have HBF := Lib.hid (HBE.out.trans (hb9.mono HBE.out.size))
          clear hb9
          go_wp2
          go_ret
          exact ⟨rfl, HBF.out⟩
        · go_wp2_with fail
          with_reducible refine (live18_any _).mono ?_
          rintro e w9 ⟨rfl, hb9⟩
          have HBF := Lib.hid (HBE.out.trans (hb9.mono HBE.out.size))
          clear hb9
          go_wp2
          go_ret
          exact ⟨rfl, HBF.out⟩
      · have hxx := hxk.out
        obtain rfl : x = (k : Int) := by omega
        clear hxk hxx
        obtain ⟨d0, d1, d2⟩ := HC.out wr hb k (by omega)
        have HST := Lib.hid (back_step L2 k (by rw [← HN.out]; omega))
        have hlr : ((L2.drop (k + 1)).reverse).length + 1 ≤ 1000000 := by rw [List.length_reverse, List.length_drop, ← HN.out]; omega
        generalize (L2.drop (k + 1)).reverse = Y at *
        generalize L2.getD k (0, 0, 0) = s at *
        obtain ⟨s0, s1, s2⟩ := s
        dsimp only at d0 d1 d2
        have HLE := Lib.hid hlr
        have hA := below_one wr (.cells #[.int .u64 s0, .int .u64 s1, .int .u64 s2] 24)
        have hbA := hb.trans (hA.mono hb.size)
        have hrwA := rw_new3 wr [.int .u64 s0, .int .u64 s1, .int .u64 s2] 24
        have hoA := ho.below hA
        have hB9 := hbA.size
        have hge := own_ge3 hoA
        obtain ⟨Av, cv, rfl, _⟩ := hoA.slice
        have HBA := Lib.hid hbA
        have e2 : (k : Int) < N := by omega
        clear hbA hA ho hb hlr
        go_wp2_with (at_builtin; go_must (refine list_append_rw kindL rfl (.tmp 57) (.tmp 62) rfl w6.heap.size _ _ _ rfl hoA _ 1 _ [.int .u64 s0, .int .u64 s1, .int .u64 s2] rfl rfl hrwA (by simp) (by simp [Value.oneCell']) HLE.out (by omega) hB9 ?_; intro v' w10 ho' hg' hgr'; have H8 : Hid (Below w6.heap.size w6 w10) := Lib.hid (HBA.out.grown hg' (by have := hB9; omega) (fun k hk => by have := hge k hk; omega)); have H9 : Hid (OwnL w10 w6.heap.size v' (Y ++ [(s0, s1, s2)])) := Lib.hid (OwnL.snoc ho'); clear ho' hg' hgr' hrwA hoA hB9 hge))
        go_roundw
        case rel => exact ⟨k, (k : Int) - 1, by omega, by go_num, Lib.hid (by omega), by omega, by rw [HST.out]; exact H9.out, H8.out⟩
        case measure => simp [intOf] <;> omega
  · obtain ⟨A2, c2', rfl, hcap2, hnil2, hz2⟩ := hO.slice
    obtain ⟨L2, hL2⟩ : ∃ L2, L2 = l ++ [(m0, m1, m2)] := ⟨_, rfl⟩
    rw [← hL2] at hO hz2 ⊢
    have hl2 : L2.length = n + 1 := by rw [hL2, List.length_append, hz1]; rfl
    have H12 : Hid (∀ u ∈ vl e0 l, u ∈ vl e0 L2) := Lib.hid (by rw [hL2]; exact vl_more _ _ _)
    have htl2 := tail_any A2 L2.length c2' L2 e0 q w42 hz2 (by omega) q1
    have HC0 := Lib.hid (hz2.cells (by omega))
    obtain ⟨N, hN⟩ : ∃ N, N = L2.length := ⟨_, rfl⟩
    rw [← hN] at htl2 HC0 hl2 ⊢
    have HN := Lib.hid hN
    have hN1 : 1 ≤ N := by omega
    have hN2 : N ≤ 101 := by omega
    clear hL2 hO hz2 hN hcap2 hnil2 hl2
    unfold TlPost at htl2
    go_wp2_with fail
    with_reducible refine htl2.mono ?_
    rintro e w6 ⟨hb6, hways2⟩
    obtain ⟨x2, a2, rfl⟩ := ways_tuple hways2
    have HW2 := Lib.hid hways2
    have HBD6 := Lib.hid (HBD.out.trans (hb6.mono HBD.out.size))
    obtain ⟨g2, o2, rfl, hg2, hc2⟩ := HC0.out
    have HC : Hid (∀ w', Below w6.heap.size w6 w' → ∀ k, k < N → w'.cell? ⟨g2, o2 + k * 3, none⟩ = some (.int .u64 (L2.getD k (0, 0, 0)).1) ∧ w'.cell? ⟨g2, o2 + k * 3 + 1, none⟩ = some (.int .u64 (L2.getD k (0, 0, 0)).2.1) ∧ w'.cell? ⟨g2, o2 + k * 3 + 2, none⟩ = some (.int .u64 (L2.getD k (0, 0, 0)).2.2)) :=
      Lib.hid fun w' hb => hc2 w' (hb6.trans (hb.mono hb6.size))
    clear htl2 hways2 hb6 hc2 HC0 HBD
    go_wp2
    go_loopw [13, 14] (fun v13 v14 wr => ∃ (k : Nat) (x : Int), k ≤ N ∧ v14 = .int .i64 x ∧ Hid (x + 1 = k) ∧ -1 ≤ x ∧ OwnL wr w6.heap.size v13 ((L2.drop k).reverse) ∧ Below w6.heap.size w6 wr) (fun _ v _ => (intOf v + 1).toNat)
    case atStart => exact ⟨N, (N : Int) - 1, by omega, by go_num, Lib.hid (by omega), by omega, by rw [List.drop_of_length_le (by rw [← HN.out]; exact Nat.le_refl _)]; exact OwnL.nil _ _, Below.refl _ _⟩
    case round =>
      obtain ⟨k, x, hk, rfl, hxk, hx1, ho, hb⟩ := hrel
      rcases k with _ | k
      · have hxx := hxk.out
        obtain rfl : x = -1 := by omega
        clear hxk hxx
        rw [List.drop_zero] at ho
        obtain ⟨A3, c3', rfl, hcap3, hnil3, hz3⟩ := ho.slice
        have hln : L2.reverse.length ≤ 100000 := by rw [List.length_reverse, ← HN.out]; omega
        have htl3 := tail_any A3 L2.reverse.length c3' L2.reverse e0 q wr hz3 hln q1
        have HBR := Lib.hid (HBD6.out.trans (hb.mono HBD6.out.size))
        obtain ⟨N3, hN3⟩ : ∃ N3, N3 = L2.reverse.length := ⟨_, rfl⟩
        rw [← hN3] at htl3 ⊢
        clear ho hz3 hcap3 hnil3 hln hN3 hb
        unfold TlPost at htl3
        go_wp2_with fail
        with_reducible refine htl3.mono ?_
        rintro e w7 ⟨hb7, hways3⟩
        obtain ⟨x3, a3, rfl⟩ := ways_tuple hways3
        have HBE := Lib.hid (HBR.out.trans (hb7.mono HBR.out.size))
        obtain ⟨rfl, rfl, hor⟩ := more_ways' H12.out (vl_rev e0 L2) (vl_rev' e0 L2) HW1.out HW2.out hways3
        clear htl3 hways3 hb7 HW1 HW2
        rcases hor with rfl | ⟨rfl, rfl, hle⟩
        · go_wp2_with fail
          with_reducible refine (live18_any _).mono ?_
          rintro e w9 ⟨rfl, hb9⟩
          have HBF := Lib.hid (HBE.out.trans (hb9.mono HBE.out.size))
          clear hb9
          go_wp2
          go_ret
          exact ⟨rfl, HBF.out⟩
        · go_wp2_with fail
          with_reducible refine (live18_any _).mono ?_
          rintro e w9 ⟨rfl, hb9⟩
          have HBF := Lib.hid (HBE.out.trans (hb9.mono HBE.out.size))
          clear hb9
          go_wp2
          go_ret
          exact ⟨rfl, HBF.out⟩
      · have hxx := hxk.out
        obtain rfl : x = (k : Int) := by omega
        clear hxk hxx
        obtain ⟨d0, d1, d2⟩ := HC.out wr hb k (by omega)
        have HST := Lib.hid (back_step L2 k (by rw [← HN.out]; omega))
        have hlr : ((L2.drop (k + 1)).reverse).length + 1 ≤ 1000000 := by rw [List.length_reverse, List.length_drop, ← HN.out]; omega
        generalize (L2.drop (k + 1)).reverse = Y at *
        generalize L2.getD k (0, 0, 0) = s at *
        obtain ⟨s0, s1, s2⟩ := s
        dsimp only at d0 d1 d2
        have HLE := Lib.hid hlr
        have hA := below_one wr (.cells #[.int .u64 s0, .int .u64 s1, .int .u64 s2] 24)
        have hbA := hb.trans (hA.mono hb.size)
        have hrwA := rw_new3 wr [.int .u64 s0, .int .u64 s1, .int .u64 s2] 24
        have hoA := ho.below hA
        have hB9 := hbA.size
        have hge := own_ge3 hoA
        obtain ⟨Av, cv, rfl, _⟩ := hoA.slice
        have HBA := Lib.hid hbA
        have e2 : (k : Int) < N := by omega
        clear hbA hA ho hb hlr
        go_wp2_with (at_builtin; go_must (refine list_append_rw kindL rfl (.tmp 57) (.tmp 62) rfl w6.heap.size _ _ _ rfl hoA _ 1 _ [.int .u64 s0, .int .u64 s1, .int .u64 s2] rfl rfl hrwA (by simp) (by simp [Value.oneCell']) HLE.out (by omega) hB9 ?_; intro v' w10 ho' hg' hgr'; have H8 : Hid (Below w6.heap.size w6 w10) := Lib.hid (HBA.out.grown hg' (by have := hB9; omega) (fun k hk => by have := hge k hk; omega)); have H9 : Hid (OwnL w10 w6.heap.size v' (Y ++ [(s0, s1, s2)])) := Lib.hid (OwnL.snoc ho'); clear ho' hg' hgr' hrwA hoA hB9 hge))
        go_roundw
        case rel => exact ⟨k, (k : Int) - 1, by omega, by go_num, Lib.hid (by omega), by omega, by rw [HST.out]; exact H9.out, H8.out⟩
        case measure => simp [intOf] <;> omega

set_option maxRecDepth 100000 in
theorem lifted (os : Os) (started : os.Started) (H : Type) (enc : TypeId × Value → H) :
    ReturnsInHanded {} Try.checked os 6 .any (Rows.sealMoreSpec.pre6 enc Try.prog Try.f6 Rows.sealMoreRow.domain false) (Rows.sealMoreSpec.post enc Try.prog Try.f6 false true false false) := by
  refine returnsInHanded_of_change (C := Try.checked) own started (by kernel_rfl) Try.func6
    (ChangeSpec.witness6 (enc := enc) (C := Try.checked) false ⟨#[], #[.slice none 0 0, .agg #[.int .u64 0, .int .u64 0, .int .u64 0], .int .i64 0], []⟩ 8 (by kernel_rfl) (by kernel_rfl) (by kernel_rfl) (by kernel_rfl)) ?_
  intro W base args ds gs before hval0 hW hcnd _
  have hval : ∀ (j : Nat) t v, Try.f6.params[j]? = some t → args[j]? = some v → Value.okWide Try.prog W .any base t v := hval0
  have hW' := hW
  obtain ⟨p, q, hA0, hV, rfl, hfz, hnd⟩ := hW
  have hA : DataW.TrodAll enc Try.prog W 0 (fun _ => true) true Try.f6.params.toList args.toList ds p := hA0
  rw [Try.params6] at hA hval
  obtain ⟨v0, vs0, d0, ds0, p0, q0, hargs, rfl, rfl, h0, r0⟩ := trodAll_cons hA
  obtain ⟨v1, vs1, d1, ds1, p1, q1, rfl, rfl, rfl, h1, r1⟩ := trodAll_cons r0
  obtain ⟨v2, vs2, d2, ds2, p2, q2, rfl, rfl, rfl, h2, r2⟩ := trodAll_cons r1
  obtain ⟨rfl, rfl, rfl⟩ := trodAll_nil r2
  obtain rfl : args = #[v0, v1, v2] := by cases args; simp_all
  obtain ⟨rfl, rfl⟩ := trodVars_none hV
  have lt0 : ∀ x ∈ p0, x.block < W.heap.size := by obtain ⟨m, hm⟩ := h0; exact DataW.trod_lt m _ _ _ hm
  have lt1 : ∀ x ∈ p1, x.block < W.heap.size := by obtain ⟨m, hm⟩ := h1; exact DataW.trod_lt m _ _ _ hm
  have lt2 : ∀ x ∈ p2, x.block < W.heap.size := by obtain ⟨m, hm⟩ := h2; exact DataW.trod_lt m _ _ _ hm
  clear hA0 hval0
  refine (walk enc W base v0 d0 p0 (hval 0 54 v0 rfl rfl) h0 v1 d1 p1 (hval 1 24 v1 rfl rfl) h1 v2 d2 p2 (hval 2 3 v2 rfl rfl) h2).mono fun e W' ⟨he, bel⟩ => ?_
  subst he
  exact ⟨_, rfl, _, _, _, [], _, [], hW', trodAll_mk1 (shut_bool Try.underlying4 _), (trodAll_cons_mk (Below.trod laidOut (by kernel_rfl) (of_decide_eq_true (by kernel_rfl)) h0 bel lt0) (trodAll_cons_mk (Below.trod laidOut (by kernel_rfl) (of_decide_eq_true (by kernel_rfl)) h1 bel lt1) (trodAll_cons_mk (Below.trod laidOut (by kernel_rfl) (of_decide_eq_true (by kernel_rfl)) h2 bel lt2) trodAll_mk0))), rfl, bel.frame _, fun h => by cases h⟩

theorem over : Rows.sealMoreRow.holds Try.pinned (OpenSpec.ofChange Rows.sealMoreSpec) :=
  OpenClaim.holds_of_wide 6 Try.f6 rfl rfl rfl rfl rfl rfl rfl ⟨rfl, rfl, rfl, rfl, rfl⟩ rfl rfl rfl rfl rfl (by kernel_rfl) Try.func6 (by kernel_rfl)
    (of_decide_eq_true (by kernel_rfl)) (by unfold Func.isWrapper; first | (rw [if_pos (by decide +kernel)]; kernel_rfl) | (rw [if_neg (by decide +kernel)]; exact ⟨rfl, rfl⟩))
    (fun os started H enc _ => lifted os started H enc)

/-- THE STATEMENT. -/
theorem proved : Rows.SealMoreSaid := over
#print axioms proved
end Go.Proofs.Ytdljkpmjamegjaa.sealMore

/- As the seat's text, without what nothing here names. -/
import Derived.Test.YtoemmppoejaapaaK30f
import Derived.Lib.SliceRun
namespace Go.Proofs.Ytoemmppoejaapaa.Cur
open Go.RowKit Mem
set_option linter.unusedVariables false
set_option maxRecDepth 100000
def cpn (f : Nat → Int) : Nat → List Int
  | 0 => []
  | j + 1 => if 0 < j ∧ f j = f (j - 1) then cpn f j else cpn f j ++ [f j]
theorem cpn_eq {f : Nat → Int} {j : Nat} (h : 0 < j) (he : f j = f (j - 1)) : cpn f (j + 1) = cpn f j := if_pos ⟨h, he⟩
theorem cpn_ne {f : Nat → Int} {j : Nat} (h : ¬ (0 < j ∧ f j = f (j - 1))) : cpn f (j + 1) = cpn f j ++ [f j] := if_neg h
theorem cpn_all {f : Nat → Int} : ∀ j, (∀ i, 0 < i → i < j → f i ≠ f (i - 1)) → cpn f j = (List.range j).map f
  | 0, _ => rfl
  | j + 1, h => by
    rw [cpn_ne (fun hh => h j hh.1 (by omega) hh.2), cpn_all j (fun i h1 h2 => h i h1 (by omega)), List.range_succ, List.map_append]; rfl
theorem cpn_mem {f : Nat → Int} {x : Int} : ∀ j, x ∈ cpn f j ↔ ∃ i, i < j ∧ f i = x
  | 0 => by simp [cpn]
  | j + 1 => by
    have ih := cpn_mem (f := f) (x := x) j
    by_cases h : 0 < j ∧ f j = f (j - 1)
    · rw [cpn_eq h.1 h.2, ih]
      refine ⟨fun ⟨i, h1, h2⟩ => ⟨i, by omega, h2⟩, fun ⟨i, h1, h2⟩ => ?_⟩
      rcases Nat.lt_or_ge i j with h3 | h3
      · exact ⟨i, h3, h2⟩
      · obtain rfl : i = j := by omega
        exact ⟨i - 1, by omega, by rw [← h.2]; exact h2⟩
    · rw [cpn_ne h, List.mem_append, ih, List.mem_singleton]
      refine ⟨fun hh => ?_, fun ⟨i, h1, h2⟩ => ?_⟩
      · rcases hh with ⟨i, h1, h2⟩ | h2
        · exact ⟨i, by omega, h2⟩
        · exact ⟨j, by omega, h2.symm⟩
      · rcases Nat.lt_or_ge i j with h3 | h3
        · exact .inl ⟨i, h3, h2⟩
        · obtain rfl : i = j := by omega
          exact .inr h2.symm
theorem cpn_pw {f : Nat → Int} : ∀ j, (∀ i, 0 < i → i < j → f (i - 1) ≤ f i) → (cpn f j).Pairwise (· < ·) ∧ ∀ x ∈ cpn f j, x ≤ f (j - 1)
  | 0, _ => by simp [cpn]
  | j + 1, h => by
    obtain ⟨h1, h2⟩ := cpn_pw (f := f) j fun i q1 q2 => h i q1 (by omega)
    show (cpn f (j + 1)).Pairwise (· < ·) ∧ ∀ x ∈ cpn f (j + 1), x ≤ f j
    by_cases hc : 0 < j ∧ f j = f (j - 1)
    · rw [cpn_eq hc.1 hc.2]
      exact ⟨h1, fun x hx => by rw [hc.2]; exact h2 x hx⟩
    · rw [cpn_ne hc]
      refine ⟨List.pairwise_append.2 ⟨h1, List.pairwise_singleton _ _, fun a ha b hb => ?_⟩, fun x hx => ?_⟩
      · rw [List.mem_singleton] at hb
        subst hb
        have q := h2 a ha
        rcases Nat.eq_zero_or_pos j with h0 | h0
        · subst h0; simp [cpn] at ha
        · have q2 := h j h0 (by omega)
          have q3 : f j ≠ f (j - 1) := fun e => hc ⟨h0, e⟩
          omega
      · rcases List.mem_append.1 hx with hx | hx
        · have q := h2 x hx
          rcases Nat.eq_zero_or_pos j with h0 | h0
          · subst h0; simp [cpn] at hx
          · have := h j h0 (by omega); omega
        · rw [List.mem_singleton] at hx; omega
theorem OwnA.us {w : World} {B g n cap : Nat} {d : Array Int} (h : OwnA w B g n cap d) {k : Nat} {z : List Int} (hk : z.length = k) (hkn : k ≤ n) (hz : ∀ i, i < k → d[i]! = z.getD i 0) : Us w (some ⟨g, 0, none⟩) k z :=
  ⟨hk, fun _ => ⟨g, 0, rfl, fun i v hv => by
    rw [Nat.zero_add]
    rw [List.getElem?_map] at hv
    rcases e : z[i]? with _ | x
    · rw [e] at hv; cases hv
    · rw [e] at hv
      injection hv with hv
      have hi := (List.getElem?_eq_some_iff.1 e).1
      rw [h.cell (by omega), hz i (by omega), ← hv, List.getD_eq_getElem?_getD, e]; rfl⟩⟩
theorem OwnA.le {w : World} {B g n cap : Nat} {d : Array Int} (h : OwnA w B g n cap d) : n ≤ cap := by
  rcases h.2.2 with ⟨e, _⟩ | ⟨g', cap', cur, e, _, _, hnc, _⟩
  · cases e
  · injection e with _ _ e2; rw [e2]; exact hnc
theorem OwnA.put {w : World} {B g n cap : Nat} {d : Array Int} (h : OwnA w B g n cap d) (j : Nat) (x : Int) : OwnA (w.setCell ⟨g, j, none⟩ (.int .u64 x)) B g n cap (d.setIfInBounds j x) := by
  refine ⟨by rw [Array.size_setIfInBounds]; exact h.1, ?_⟩
  have h1 := (World.ownsRow.stored h.2 j (.int .u64 x)).1
  have e : uv (d.setIfInBounds j x).toList = (uv d.toList).set j (.int .u64 x) := by
    rw [Array.toList_setIfInBounds]
    show List.map _ _ = _
    rw [List.map_set]
  rw [e]; exact h1
theorem getb_set {d : Array Int} {j i : Nat} {x : Int} (hj : j < d.size) : (d.setIfInBounds j x)[i]! = if i = j then x else d[i]! := by
  by_cases h : i < d.size
  · rw [getElem!_pos (d.setIfInBounds j x) i (by simpa using h), getElem!_pos d i h, Array.getElem_setIfInBounds]
    by_cases e : i = j
    · rw [if_pos e, if_pos e.symm]
    · rw [if_neg e, if_neg (fun q => e q.symm)]
  · rw [getElem!_neg (d.setIfInBounds j x) i (by simpa using h), getElem!_neg d i h, if_neg (by omega)]
theorem Ks.cells {w0 : World} {g : Nat} : ∀ (vs : List Value) (o : Nat) (w : World), Ks (fun x => x = g) w0 w → Ks (fun x => x = g) w0 (w.setCells g o vs)
  | [], _, _, h => h
  | v :: r, o, w, h => Ks.cells r (o + 1) _ (h.trans (Ks.setCell _ _ _ _ rfl))
theorem Us.cells_out {w : World} {g k o : Nat} {z : List Int} (h : Us w (some ⟨g, 0, none⟩) k z) (vs : List Value) (ho : k ≤ o) : Us (w.setCells g o vs) (some ⟨g, 0, none⟩) k z := by
  refine ⟨h.1, fun hn => ?_⟩
  obtain ⟨g', o', e, hc⟩ := h.2 hn
  injection e with e
  injection e with e1 e2
  subst e1 e2
  refine ⟨g, 0, rfl, fun i v hv => ?_⟩
  have hi : i < k := by
    have := (List.getElem?_eq_some_iff.1 hv).1
    rw [List.length_map, h.1] at this
    exact this
  rw [World.cell?_setCells_out g vs o w _ (fun _ _ => by left; show 0 + i < o; omega)]
  exact hc i v hv
def CmPost (g n : Nat) (f : Nat → Int) (w : World) (e : Ending) (w' : World) : Prop :=
  ∃ k c, e = .returned (.slice (some ⟨g, 0, none⟩) k c) ∧ k ≤ n ∧ Us w' (some ⟨g, 0, none⟩) k (cpn f n) ∧ Ks (fun x => x = g) w w'
set_option maxHeartbeats 4000000 in
theorem compact_any (B g n cap : Nat) (d : Array Int) (w : World) (h : OwnA w B g n cap d) (h1 : 1 ≤ n) (hn : n ≤ 5000) :
    Calls Try.prog 26 #[.slice (some ⟨g, 0, none⟩) n cap] w (CmPost g n (fun i => d[i]!) w) := by
  have hcap := h.le
  have hds := h.1
  by_cases hn2 : n < 2
  · have e1 : (n : Int) < 2 := by omega
    have HE : Hid (Us w (some ⟨g, 0, none⟩) n (cpn (fun i => d[i]!) n)) := Lib.hid (by
      obtain rfl : n = 1 := by omega
      exact h.us (by simp [cpn]) (Nat.le_refl _) fun i hi => by
        obtain rfl : i = 0 := by omega
        simp [cpn])
    clear h
    go_enter Try.func26, Try.ntmps26
    go_wp2
    go_ret
    exact ⟨n, cap, rfl, Nat.le_refl _, HE.out, Ks.refl _ _⟩
  have e1 : ¬ (n : Int) < 2 := by omega
  have H0 : Hid (OwnA w B g n cap d ∧ Ks (fun x => x = g) w w ∧ ∀ i, 0 < i → i < 1 → d[i]! ≠ d[i - 1]!) := Lib.hid ⟨h, Ks.refl _ _, fun i q1 q2 => by omega⟩
  clear h
  go_enter Try.func26, Try.ntmps26
  go_wp2
  clear e1
  go_loopw [3] (fun x wr => ∃ K : Nat, 1 ≤ K ∧ K ≤ n ∧ x = .int .i64 K ∧ Hid (OwnA wr B g n cap d ∧ Ks (fun x => x = g) w wr ∧ ∀ i, 0 < i → i < K → d[i]! ≠ d[i - 1]!)) (fun x _ => n - (intOf x).toNat)
  case atStart => exact ⟨1, by omega, by omega, rfl, H0⟩
  case round =>
    clear H0
    obtain ⟨K, hK1, hK, rfl, HR⟩ := hrel
    by_cases hkn : K < n
    · obtain ⟨k, hk⟩ : ∃ k, K = k + 1 := ⟨K - 1, by omega⟩
      have e1 : (K : Int) < n := by omega
      have e2 : IntKind.i64.wrap ((K : Int) - 1) = (k : Int) := by rw [IntWalk.i64_in _ (by omega)]; omega
      have e4 : IntKind.i64.wrap ((K : Int) + 1) = ((K + 1 : Nat) : Int) := IntWalk.i64_in _ (by omega)
      have e3 : (k : Int) < n := by omega
      have hkn2 : k < n := by omega
      have HKk := Lib.hid hk
      clear hk
      obtain ⟨x, hx⟩ : ∃ x, x = d[K]! := ⟨_, rfl⟩
      obtain ⟨y, hy⟩ : ∃ y, y = d[k]! := ⟨_, rfl⟩
      have L : ∀ w', (fun w' => OwnA w' B g n cap d) w' → w'.cell? ⟨g, K, none⟩ = some (.int .u64 x) ∧ w'.cell? ⟨g, k, none⟩ = some (.int .u64 y) := fun w' h => by
        rw [hx, hy]; exact ⟨OwnA.cell h (by omega), OwnA.cell h (by omega)⟩
      have hS : (fun w' => OwnA w' B g n cap d) wr.drew := HR.out.1.drew
      have HX := Lib.hid (And.intro hx hy)
      have HKs := Lib.hid (HR.out.2.1.trans (Ks.of_below (below_one' wr)))
      have HNE := Lib.hid HR.out.2.2
      clear hx hy HR
      go_wp2
      refine Seq.wp_region_seq (fun w' => OwnA w' B g n cap d) (by kernel_rfl) (by kernel_rfl) hS ?_
      generalize wr.drew = w1 at *
      repeat (first | (refine Seq.Seq.skip (by rfl) ?_; (try simp only [Act.put, List.setIfInBounds_toArray, List.set_cons_zero, List.set_cons_succ])) | (refine Seq.Seq.det ?_ (by rfl) (fun w hS => ?_) ?_; rotate_left; ((try dsimp only at hS); go_simp; (try rw [if_pos (by omega)]); with_reducible rfl); (try simp only [Act.put, List.setIfInBounds_toArray, List.set_cons_zero, List.set_cons_succ])))
      refine Seq.Seq.nil ?_
      by_cases hxy : x = y
      · have d1 : (x == y) = true := by simpa using hxy
        have HKP := Lib.hid hK1
        have H0 : Hid (OwnA w1 B g n cap d ∧ Ks (fun x => x = g) w w1 ∧ K = (cpn (fun i => d[i]!) (K + 1)).length ∧ (∀ i, i < K → d[i]! = (cpn (fun i => d[i]!) (K + 1)).getD i 0) ∧ ∀ i, K + 1 ≤ i + 1 → i < n → d[i]! = d[i]!) := Lib.hid (by
          have q := cpn_eq (f := fun i => d[i]!) (j := K) (by omega) (by show d[K]! = d[K - 1]!; rw [← HX.out.1, show K - 1 = k by have := HKk.out; omega, ← HX.out.2]; exact hxy)
          have q2 := cpn_all (f := fun i => d[i]!) K HNE.out
          rw [q, q2]
          exact ⟨hS, HKs.out, by simp, fun i hi => by rw [List.getD_eq_getElem?_getD, List.getElem?_map, List.getElem?_range hi]; rfl, fun _ _ _ => rfl⟩)
        have e5 : (K : Int) ≤ n := by omega
        have e6 : (K : Int) ≤ cap := by omega
        have e7 : ¬ cap = K := by omega
        clear hS L hxy
        go_wp2
        go_loopw [3, 5] (fun x y wr => ∃ (a j : Nat) (D : Array Int), x = .int .i64 a ∧ y = .int .i64 j ∧ 1 ≤ j ∧ K + j ≤ n ∧ a + 1 ≤ K + j ∧ Hid (OwnA wr B g n cap D ∧ Ks (fun x => x = g) w wr ∧ a = (cpn (fun i => d[i]!) (K + j)).length ∧ (∀ i, i < a → D[i]! = (cpn (fun i => d[i]!) (K + j)).getD i 0) ∧ ∀ i, K + j ≤ i + 1 → i < n → D[i]! = d[i]!)) (fun _ y _ => n - (intOf y).toNat)
        case atStart => exact ⟨K, 1, d, rfl, rfl, by omega, by omega, by omega, Lib.hid ⟨H0.out.1, H0.out.2.1, H0.out.2.2.1, H0.out.2.2.2.1, fun _ _ _ => rfl⟩⟩
        case round =>
          clear H0
          obtain ⟨a, j, D, rfl, rfl, j1, j2, ha, HR⟩ := hrel
          by_cases hlt : K + j < n
          · obtain ⟨i, hi⟩ : ∃ i, j = i + 1 := ⟨j - 1, by omega⟩
            have g1 : (j : Int) < ((n - K : Nat) : Int) := by omega
            have g2 : IntKind.i64.wrap ((j : Int) - 1) = (i : Int) := by rw [IntWalk.i64_in _ (by omega)]; omega
            have g3 : (i : Int) < ((n - K : Nat) : Int) := by omega
            have g4 : IntKind.i64.wrap ((j : Int) + 1) = ((j + 1 : Nat) : Int) := IntWalk.i64_in _ (by omega)
            have g5 : IntKind.i64.wrap ((a : Int) + 1) = ((a + 1 : Nat) : Int) := IntWalk.i64_in _ (by omega)
            have g6 : (a : Int) < n := by omega
            obtain ⟨u, hu⟩ : ∃ u, u = D[K + j]! := ⟨_, rfl⟩
            obtain ⟨v, hv⟩ : ∃ v, v = D[K + i]! := ⟨_, rfl⟩
            have L : ∀ w', (fun w' => OwnA w' B g n cap D) w' → w'.cell? ⟨g, K + j, none⟩ = some (.int .u64 u) ∧ w'.cell? ⟨g, K + i, none⟩ = some (.int .u64 v) := fun w' h => by
              rw [hu, hv]; exact ⟨OwnA.cell h (by omega), OwnA.cell h (by omega)⟩
            have hS : (fun w' => OwnA w' B g n cap D) wr.drew := HR.out.1.drew
            have hud : u = d[K + j]! := by rw [hu]; exact HR.out.2.2.2.2 _ (by omega) (by omega)
            have hvd : v = d[K + j - 1]! := by rw [hv, show K + j - 1 = K + i by omega]; exact HR.out.2.2.2.2 _ (by omega) (by omega)
            have HUV := Lib.hid (And.intro hud hvd)
            have HKs := Lib.hid (HR.out.2.1.trans (Ks.of_below (below_one' wr)))
            have HRR := Lib.hid HR.out.2.2
            have HIJ := Lib.hid hi
            clear hu hv hud hvd HR hi
            go_wp2
            refine Seq.wp_region_seq (fun w' => OwnA w' B g n cap D) (by kernel_rfl) (by kernel_rfl) hS ?_
            generalize wr.drew = w2 at *
            repeat (first | (refine Seq.Seq.skip (by rfl) ?_; (try simp only [Act.put, List.setIfInBounds_toArray, List.set_cons_zero, List.set_cons_succ])) | (refine Seq.Seq.det ?_ (by rfl) (fun w hS => ?_) ?_; rotate_left; ((try dsimp only at hS); go_simp; (try rw [if_pos (by omega)]); with_reducible rfl); (try simp only [Act.put, List.setIfInBounds_toArray, List.set_cons_zero, List.set_cons_succ])))
            refine Seq.Seq.nil ?_
            have HO := Lib.hid (And.intro hS HKs.out)
            by_cases huv : u = v
            · have d2 : (u != v) = false := by simpa using huv
              have HC : Hid (cpn (fun i => d[i]!) (K + (j + 1)) = cpn (fun i => d[i]!) (K + j)) := Lib.hid (cpn_eq (f := fun i => d[i]!) (j := K + j) (by omega) (by show d[K + j]! = d[K + j - 1]!; rw [← HUV.out.1, ← HUV.out.2]; exact huv))
              clear hS L
              go_wp2
              go_roundw
              case rel => exact ⟨a, j + 1, D, rfl, by go_num, by omega, by omega, by omega, Lib.hid ⟨HO.out.1, HO.out.2, by rw [HC.out]; exact HRR.out.1, by rw [HC.out]; exact HRR.out.2.1, fun q q1 q2 => HRR.out.2.2 q (by omega) q2⟩⟩
              case measure => simp [intOf]; omega
            · have d2 : (u != v) = true := by simpa using huv
              have HC : Hid (cpn (fun i => d[i]!) (K + (j + 1)) = cpn (fun i => d[i]!) (K + j) ++ [u]) := Lib.hid (by
                rw [HUV.out.1]
                exact cpn_ne (f := fun i => d[i]!) (j := K + j) fun hh => huv (by rw [HUV.out.1, HUV.out.2]; exact hh.2))
              have hds2 := HO.out.1.1
              obtain ⟨c0, _⟩ := L w2 hS
              have c9 := OwnA.cell HO.out.1 (i := a) (by omega)
              have f9 := OwnA.free HO.out.1 a
              have HP : Hid (OwnA (w2.setCell ⟨g, a, none⟩ (.int .u64 u)) B g n cap (D.setIfInBounds a u) ∧ Ks (fun x => x = g) w (w2.setCell ⟨g, a, none⟩ (.int .u64 u)) ∧ a + 1 = (cpn (fun i => d[i]!) (K + (j + 1))).length ∧ (∀ q, q < a + 1 → (D.setIfInBounds a u)[q]! = (cpn (fun i => d[i]!) (K + (j + 1))).getD q 0) ∧ ∀ q, K + (j + 1) ≤ q + 1 → q < n → (D.setIfInBounds a u)[q]! = d[q]!) := Lib.hid ⟨HO.out.1.put a u, HO.out.2.trans (Ks.setCell _ _ _ _ rfl), by rw [HC.out, List.length_append, ← HRR.out.1]; rfl, fun q q1 => by
                rw [getb_set (by omega), HC.out]
                by_cases e : q = a
                · subst e
                  rw [if_pos rfl, List.getD_eq_getElem?_getD, List.getElem?_append_right (by rw [← HRR.out.1]; exact Nat.le_refl _), ← HRR.out.1, Nat.sub_self]; rfl
                · rw [if_neg e, HRR.out.2.1 q (by omega), List.getD_eq_getElem?_getD, List.getD_eq_getElem?_getD, List.getElem?_append_left (by rw [← HRR.out.1]; omega)], fun q q1 q2 => by
                rw [getb_set (by omega), if_neg (by omega)]
                exact HRR.out.2.2 q (by omega) q2⟩
              clear hS L
              go_wp2
              go_roundw
              case rel => exact ⟨a + 1, j + 1, D.setIfInBounds a u, by go_num, by go_num, by omega, by omega, by omega, HP⟩
              case measure => simp [intOf]; omega
          · have hje : K + j = n := by omega
            have g1 : ¬ (j : Int) < ((n - K : Nat) : Int) := by omega
            have hcl : ∀ ty, (Builtin.clear_ #[34] ty #[.slice (some ⟨g, a, none⟩) (n - a) (cap - a)]).run Try.prog wr = .ok (.tuple #[]) (wr.setCells g a (List.replicate (n - a) (.int .u64 0))) :=
              fun ty => Lib.run_clear_slice wr _ _ ty _ Try.underlying34 Try.zeroValue22 rfl rfl g a _ _ (by omega) (fun q hq => by rw [HR.out.1.cell (by omega)]; rfl) (fun q hq => HR.out.1.free _)
            have HE : Hid (Us (wr.setCells g a (List.replicate (n - a) (.int .u64 0))) (some ⟨g, 0, none⟩) a (cpn (fun i => d[i]!) n) ∧ Ks (fun x => x = g) w (wr.setCells g a (List.replicate (n - a) (.int .u64 0)))) := Lib.hid ⟨by
              have h9 := HR.out.2.2
              rw [hje] at h9
              exact (HR.out.1.us h9.1.symm (by omega) h9.2.1).cells_out _ (Nat.le_refl _), Ks.cells _ _ _ HR.out.2.1⟩
            have g2 : (a : Int) ≤ n := by omega
            have g3 : (a : Int) ≤ cap := by omega
            have g4 : ¬ cap = a := by omega
            clear HR
            go_wp2
            go_ret
            exact ⟨a, cap, rfl, by omega, HE.out.1, HE.out.2⟩
      · have d1 : decide (x = y) = false := decide_eq_false hxy
        have HN2 : Hid (∀ i, 0 < i → i < K + 1 → d[i]! ≠ d[i - 1]!) := Lib.hid (fun i q1 q2 => by
          rcases Nat.lt_or_ge i K with q | q
          · exact HNE.out i q1 (by omega)
          · obtain rfl : i = K := by omega
            rw [← HX.out.1, show i - 1 = k by have := HKk.out; omega, ← HX.out.2]; exact hxy)
        have HO := Lib.hid (And.intro hS HKs.out)
        clear hS L
        go_wp2
        go_roundw
        case rel => exact ⟨K + 1, by omega, by omega, by go_num, Lib.hid ⟨HO.out.1, HO.out.2, HN2.out⟩⟩
        case measure => simp [intOf]; omega
    · have hke : K = n := by omega
      have e1 : ¬ (K : Int) < n := by omega
      have HE : Hid (Us wr (some ⟨g, 0, none⟩) n (cpn (fun i => d[i]!) n) ∧ Ks (fun x => x = g) w wr) := Lib.hid ⟨by
        have q := cpn_all (f := fun i => d[i]!) n (by rw [← hke]; exact HR.out.2.2)
        rw [q]
        exact HR.out.1.us (by simp) (Nat.le_refl _) fun i hi => by
          rw [List.getD_eq_getElem?_getD, List.getElem?_map, List.getElem?_range hi]; rfl, HR.out.2.1⟩
      clear HR
      go_wp2
      go_ret
      exact ⟨n, cap, rfl, Nat.le_refl _, HE.out.1, HE.out.2⟩
end Go.Proofs.Ytoemmppoejaapaa.Cur

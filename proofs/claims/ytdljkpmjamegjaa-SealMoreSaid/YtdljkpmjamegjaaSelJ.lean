/- The nodes that were sealed in an epoch. -/
import Derived.Test.YtdljkpmjamegjaaSelI
import Derived.BigQuiet
namespace Go.Proofs.Ytdljkpmjamegjaa.Cur
open Go.RowKit Mem
set_option linter.unusedVariables false
set_option maxRecDepth 100000

/-- The nodes of a sorted row, each once. -/
def ndk (l : List Sl3) : Nat → List Int
  | 0 => []
  | k + 1 => if k = 0 ∨ (l.getD (k - 1) (0, 0, 0)).2.1 < (l.getD k (0, 0, 0)).2.1 then ndk l k ++ [(l.getD k (0, 0, 0)).2.1] else ndk l k
theorem ndk_len (l : List Sl3) (k : Nat) : (ndk l k).length ≤ k := by
  induction k with
  | zero => exact Nat.le_refl _
  | succ k ih =>
    unfold ndk
    split
    · rw [List.length_append]; simp; exact ih
    · omega
def Rising (D : List Int) : Prop := ∀ i j, i < j → j < D.length → D.getD i 0 < D.getD j 0
theorem getD_app_l {D : List Int} {x : Int} {i : Nat} (h : i < D.length) : (D ++ [x]).getD i 0 = D.getD i 0 := by
  rw [List.getD_eq_getElem?_getD, List.getElem?_append_left h, ← List.getD_eq_getElem?_getD]
theorem getD_app_r {D : List Int} {x : Int} : (D ++ [x]).getD D.length 0 = x := by
  rw [List.getD_eq_getElem?_getD, List.getElem?_append_right (Nat.le_refl _), Nat.sub_self]; rfl
theorem Rising.snoc {D : List Int} {x : Int} (h : Rising D) (hx : ∀ y ∈ D, y < x) : Rising (D ++ [x]) := by
  intro i j hij hj
  rw [List.length_append] at hj
  have hj' : j < D.length ∨ j = D.length := by simp at hj; omega
  rcases hj' with h1 | h1
  · rw [getD_app_l (by omega), getD_app_l h1]; exact h i j hij h1
  · subst h1
    rw [getD_app_l hij, getD_app_r]
    exact hx _ (getD_mem hij)
/-- They rise, and are the nodes that are there. -/
theorem ndk_ok {l : List Sl3} (hs : NSorted l) : ∀ k, k ≤ l.length → Rising (ndk l k) ∧ (∀ x, x ∈ ndk l k ↔ ∃ j, j < k ∧ (l.getD j (0, 0, 0)).2.1 = x)
  | 0, _ => ⟨fun i j _ hj => absurd hj (by simp [ndk]), fun x => ⟨fun h => by simp [ndk] at h, fun ⟨j, h, _⟩ => absurd h (by omega)⟩⟩
  | k + 1, hk => by
    obtain ⟨h1, h2⟩ := ndk_ok hs k (by omega)
    unfold ndk
    by_cases hc : k = 0 ∨ (l.getD (k - 1) (0, 0, 0)).2.1 < (l.getD k (0, 0, 0)).2.1
    · rw [if_pos hc]
      refine ⟨h1.snoc fun y hy => ?_, fun x => ?_⟩
      · obtain ⟨j, hj, rfl⟩ := (h2 y).1 hy
        rcases hc with hc | hc
        · omega
        · rcases Nat.lt_or_ge j (k - 1) with h | h
          · have := hs j (k - 1) h (by omega); omega
          · obtain rfl : j = k - 1 := by omega
            exact hc
      · rw [List.mem_append, List.mem_singleton, h2]
        constructor
        · rintro (⟨j, hj, e⟩ | e)
          · exact ⟨j, by omega, e⟩
          · exact ⟨k, by omega, e.symm⟩
        · rintro ⟨j, hj, e⟩
          rcases Nat.lt_or_ge j k with h | h
          · exact .inl ⟨j, h, e⟩
          · obtain rfl : j = k := by omega
            exact .inr e.symm
    · rw [if_neg hc]
      refine ⟨h1, fun x => ?_⟩
      rw [h2]
      constructor
      · rintro ⟨j, hj, e⟩
        exact ⟨j, by omega, e⟩
      · rintro ⟨j, hj, e⟩
        rcases Nat.lt_or_ge j k with h | h
        · exact ⟨j, h, e⟩
        · obtain rfl : j = k := by omega
          refine ⟨j - 1, by omega, ?_⟩
          have := hs (j - 1) j (by omega) (by omega)
          omega

/-- What Nodes hands back: the nodes, rising. -/
def NdPost (l : List Sl3) (w : World) (e : Ending) (w' : World) : Prop :=
  ∃ v D, e = .returned v ∧ OwnU w' w.heap.size v D ∧ Below w.heap.size w w' ∧ Rising D ∧ (∀ x, x ∈ D ↔ ∃ s ∈ l, s.2.1 = x) ∧ D.length ≤ l.length

set_option maxHeartbeats 4000000 in
theorem nodes_any (A : Option Addr) (n m : Nat) (l : List Sl3) (e0 : Int) (w : World) (hz : Sls w A n l) (hn : n ≤ 100000) :
    Calls Try.prog 23 #[.slice A n m, .int .u64 e0] w (NdPost (vl e0 l) w) := by
  have htold := told_any A n m l e0 w hz hn
  have hvl : (vl e0 l).length ≤ 100000 := Nat.le_trans (vl_len e0 l) (by rw [hz.1]; exact hn)
  generalize vl e0 l = L at *
  unfold LPost at htold
  clear hz
  go_enter Try.func23, Try.ntmps23
  go_wp2_with fail
  refine htold.mono ?_
  rintro e w1 ⟨v, rfl, ho1, hb1⟩
  clear htold
  go_wp2_with fail
  with_reducible refine (sort_any ho1 (by omega)).mono ?_
  rintro e w2 ⟨rfl, l', hp, hs, ho2, hk⟩
  have hb2 := Ks.below hb1 (Nat.le_refl _) hk (fun k hk => own_ge3 ho1 k hk)
  have hlen := hp.length_eq
  clear hk hb1 ho1
  obtain ⟨A2, c2', rfl, hcap, hnil, hz2⟩ := ho2.slice
  have HC : Hid (l'.length ≠ 0 → ∃ g o, A2 = some ⟨g, o, none⟩ ∧ g < w2.heap.size ∧ ∀ w', Below w2.heap.size w2 w' → ∀ k, k < l'.length →
    w'.cell? ⟨g, o + k * 3, none⟩ = some (.int .u64 (l'.getD k (0, 0, 0)).1) ∧ w'.cell? ⟨g, o + k * 3 + 1, none⟩ = some (.int .u64 (l'.getD k (0, 0, 0)).2.1) ∧ w'.cell? ⟨g, o + k * 3 + 2, none⟩ = some (.int .u64 (l'.getD k (0, 0, 0)).2.2)) := Lib.hid fun h => hz2.cells (by omega)
  obtain ⟨N, hN⟩ : ∃ N, N = l'.length := ⟨_, rfl⟩
  have HEND : Hid (Rising (ndk l' N) ∧ (∀ x, x ∈ ndk l' N ↔ ∃ s ∈ L, s.2.1 = x) ∧ (ndk l' N).length ≤ L.length) := Lib.hid (by
    obtain ⟨r1, r2⟩ := ndk_ok hs l'.length (Nat.le_refl _)
    rw [hN]
    refine ⟨r1, fun x => ?_, by have := ndk_len l' l'.length; omega⟩
    rw [r2]
    constructor
    · rintro ⟨j, hj, e⟩
      refine ⟨l'.getD j (0, 0, 0), hp.mem_iff.1 ?_, e⟩
      rw [List.getD_eq_getElem?_getD, List.getElem?_eq_getElem hj]
      exact List.getElem_mem hj
    · rintro ⟨s, hs, e⟩
      obtain ⟨j, hj, e2⟩ := List.mem_iff_getElem.1 (hp.mem_iff.2 hs)
      refine ⟨j, hj, ?_⟩
      rw [List.getD_eq_getElem?_getD, List.getElem?_eq_getElem hj]
      show (l'[j]).2.1 = x
      rw [e2]; exact e)
  rw [← hN] at HC hlen ⊢
  have hNl : N ≤ 100000 := by omega
  have HB2 := Lib.hid hb2
  clear ho2 hz2 hp hs hcap hnil hb2 hN
  go_wp2
  go_loopw [6, 16] (fun v i wr => ∃ k : Nat, k ≤ N ∧ i = .int .i64 k ∧ OwnU wr w2.heap.size v (ndk l' k) ∧ Below w2.heap.size w2 wr) (fun _ i _ => N - (intOf i).toNat)
  case atStart => exact ⟨0, by omega, rfl, OwnU.nil _ _, Below.refl _ _⟩
  case round =>
    obtain ⟨k, hk, rfl, hu, hb⟩ := hrel
    by_cases hlt : k < N
    · obtain ⟨g, o, rfl, hg, hc⟩ := HC.out (by omega)
      obtain ⟨c0, c1, c2⟩ := hc wr hb k hlt
      have HCC := Lib.hid hc
      have hle := ndk_len l' k
      have hstep : ndk l' (k + 1) = if k = 0 ∨ (l'.getD (k - 1) (0, 0, 0)).2.1 < (l'.getD k (0, 0, 0)).2.1 then ndk l' k ++ [(l'.getD k (0, 0, 0)).2.1] else ndk l' k := rfl
      obtain ⟨Y, hY⟩ : ∃ Y, Y = ndk l' k := ⟨_, rfl⟩
      rw [← hY] at hu hstep hle
      generalize l'.getD k (0, 0, 0) = s at *
      obtain ⟨s0, s1, s2⟩ := s
      dsimp only at c0 c1 c2 hstep
      have HLE : Hid (Y.length + 1 ≤ 1000000) := Lib.hid (by omega)
      have e2 : (k : Int) < N := by omega
      have e3 : IntKind.i64.wrap ((k : Int) + 1) = ((k + 1 : Nat) : Int) := IntWalk.i64_in _ (by omega)
      have hX := Blk.new wr #[.int .u64 s0, .int .u64 s1, .int .u64 s2] 24
      have hbX := below_one wr (.cells #[.int .u64 s0, .int .u64 s1, .int .u64 s2] 24)
      have hu1 : OwnU _ w2.heap.size _ Y := own_below hu hbX
      have hb1 := hb.trans (hbX.mono hb.size)
      obtain ⟨x0, x1, x2⟩ := hX.c3
      by_cases hk0 : k = 0
      · have HYES : Hid (ndk l' (k + 1) = Y ++ [s1]) := Lib.hid (by rw [hstep, if_pos (.inl hk0)])
        have e4 : ((k : Int) == 0) = true := by simpa using hk0
        clear hstep hY hc hu hb hbX hle hk0
        go_wp2
        go_quiet (fail)
        have hX3 := hX.drewN nq
        have hu3 : OwnU ((wr.alloc (.cells #[.int .u64 s0, .int .u64 s1, .int .u64 s2] 24)).drewN nq) w2.heap.size _ Y := hu1
        have hb3 := below_drewN hb1 nq
        clear hX hu1 hb1 x0 x1 x2 c0 c1 c2
        generalize (wr.alloc (.cells #[.int .u64 s0, .int .u64 s1, .int .u64 s2] 24)).drewN nq = w3 at *
        obtain ⟨x0, x1, x2⟩ := hX3.c3
        have hA := below_one w3 (.cells #[.int .u64 s1] 22)
        have hbA := hb3.trans (hA.mono hb3.size)
        have hrwA := rw_new3 w3 [.int .u64 s1] 22
        have hoA : OwnU _ w2.heap.size _ Y := own_below hu3 hA
        have hB9 := hbA.size
        have hge := own_ge3 hoA
        obtain ⟨Av, cv, rfl⟩ := OwnU.slice hoA
        have HBA := Lib.hid hbA
        clear hbA hX3 hb3 hu3 hA
        go_wp2_with (at_builtin; go_must (refine list_append_rw kindU rfl (.tmp 34) (.tmp 37) rfl w2.heap.size _ _ _ rfl hoA _ 1 _ [.int .u64 s1] rfl rfl hrwA (by simp) (by simp [Value.oneCell']) HLE.out (by omega) hB9 ?_; intro v' w10 ho' hg' hgr'; have H8 : Hid (Below w2.heap.size w2 w10) := Lib.hid (HBA.out.grown hg' (by have := hB9; omega) (fun k hk => by have := hge k hk; omega)); have H9 : Hid (OwnU w10 w2.heap.size v' (Y ++ [s1])) := Lib.hid (by unfold OwnU; rw [List.length_append]; unfold uv; rw [List.map_append]; exact ho'); clear ho' hg' hgr' hrwA hoA hB9 hge))
        go_roundw
        case rel => exact ⟨k + 1, by omega, by go_num, by rw [HYES.out]; exact H9.out, H8.out⟩
        case measure => simp [intOf]; omega
      · obtain ⟨p0, p1, p2⟩ := hc _ hb1 (k - 1) (by omega)
        have e4 : ((k : Int) == 0) = false := by simpa using hk0
        have e5 : IntKind.i64.wrap ((k : Int) - 1) = ((k - 1 : Nat) : Int) := by rw [show (k : Int) - 1 = ((k - 1 : Nat) : Int) by omega]; exact IntWalk.i64_in _ (by omega)
        have e6 : ((k - 1 : Nat) : Int) < N := by omega
        generalize (l'.getD (k - 1) (0, 0, 0)) = r at *
        obtain ⟨r0, r1, r2⟩ := r
        dsimp only at p0 p1 p2 hstep
        by_cases hgt : r1 < s1
        · have HYES : Hid (ndk l' (k + 1) = Y ++ [s1]) := Lib.hid (by rw [hstep, if_pos (.inr hgt)])
          clear hstep hY hc hu hb hbX hle
          go_wp2
          go_quiet (fail)
          clear p0 p1 p2
          have hX3 := hX.drewN nq
          have hu3 : OwnU ((wr.alloc (.cells #[.int .u64 s0, .int .u64 s1, .int .u64 s2] 24)).drewN nq) w2.heap.size _ Y := hu1
          have hb3 := below_drewN hb1 nq
          clear hX hu1 hb1 x0 x1 x2 c0 c1 c2
          generalize (wr.alloc (.cells #[.int .u64 s0, .int .u64 s1, .int .u64 s2] 24)).drewN nq = w3 at *
          obtain ⟨x0, x1, x2⟩ := hX3.c3
          have hA := below_one w3 (.cells #[.int .u64 s1] 22)
          have hbA := hb3.trans (hA.mono hb3.size)
          have hrwA := rw_new3 w3 [.int .u64 s1] 22
          have hoA : OwnU _ w2.heap.size _ Y := own_below hu3 hA
          have hB9 := hbA.size
          have hge := own_ge3 hoA
          obtain ⟨Av, cv, rfl⟩ := OwnU.slice hoA
          have HBA := Lib.hid hbA
          clear hbA hX3 hb3 hu3 hA
          go_wp2_with (at_builtin; go_must (refine list_append_rw kindU rfl (.tmp 34) (.tmp 37) rfl w2.heap.size _ _ _ rfl hoA _ 1 _ [.int .u64 s1] rfl rfl hrwA (by simp) (by simp [Value.oneCell']) HLE.out (by omega) hB9 ?_; intro v' w10 ho' hg' hgr'; have H8 : Hid (Below w2.heap.size w2 w10) := Lib.hid (HBA.out.grown hg' (by have := hB9; omega) (fun k hk => by have := hge k hk; omega)); have H9 : Hid (OwnU w10 w2.heap.size v' (Y ++ [s1])) := Lib.hid (by unfold OwnU; rw [List.length_append]; unfold uv; rw [List.map_append]; exact ho'); clear ho' hg' hgr' hrwA hoA hB9 hge))
          go_roundw
          case rel => exact ⟨k + 1, by omega, by go_num, by rw [HYES.out]; exact H9.out, H8.out⟩
          case measure => simp [intOf]; omega
        · have HNO : Hid (ndk l' (k + 1) = Y) := Lib.hid (by rw [hstep, if_neg (fun h => h.elim hk0 hgt)])
          clear hstep hY hc hu hb hbX hle
          go_wp2
          go_quiet (fail)
          have HU : Hid (OwnU _ w2.heap.size _ Y) := Lib.hid hu1
          have HB := Lib.hid hb1
          go_wp2
          go_roundw
          case rel => exact ⟨k + 1, by omega, by go_num, by rw [HNO.out]; exact HU.out, below_drewN HB.out _⟩
          case measure => simp [intOf]; omega
    · obtain rfl : k = N := by omega
      have HU := Lib.hid hu
      have HBB := Lib.hid (HB2.out.trans (hb.mono HB2.out.size))
      clear hu hb
      go_wp2
      go_ret
      exact ⟨_, _, rfl, own_base HU.out (fun g hg => by have := own_ge3 HU.out g hg; have := HB2.out.size; omega), HBB.out, HEND.out.1, HEND.out.2.1, HEND.out.2.2⟩
end Go.Proofs.Ytdljkpmjamegjaa.Cur

/- Longest matches: what the statements reckon by: Same, Match. -/
import Derived.Test.YtgiemddiiognlaaSekD
namespace Go.Proofs.Ytgiemddiiognlaa.Cur
open Go.RowKit Go.Shelf Mem
attribute [local go_sem] Oper.semAt_some
set_option linter.unusedVariables false
set_option maxRecDepth 100000


theorem mt_step {z : List Int} {a p : Nat} (hp : p ≤ a) : ∀ {j : Nat}, j ≤ mt z a p → mt z (a + j) (p + j) = mt z a p - j
  | 0, _ => rfl
  | j + 1, h => by
    have h1 := mt_step (z := z) hp (j := j) (by omega)
    have h2 := mt_next (z := z) (a := a + j) (p := p + j) (by omega) (by omega)
    rw [show a + (j + 1) = a + j + 1 by omega, show p + (j + 1) = p + j + 1 by omega, h2, h1]
    omega
theorem mt_more {z : List Int} {a p j : Nat} (hp : p ≤ a) (h : j ≤ mt z a p) : decide (a + j + 1 ≤ z.length ∧ 1 ≤ mt z (a + j) (p + j)) = decide (j < mt z a p) := by
  rw [mt_step hp h]
  have := mt_le z a p
  by_cases e : j < mt z a p
  · rw [decide_eq_true e, decide_eq_true (by omega)]
  · rw [decide_eq_false e, decide_eq_false (by omega)]

set_option maxHeartbeats 4000000 in
theorem rsame_any {w : World} {A : Option Addr} {n m : Nat} {z : List Int} (a p k : Nat) (hz : Bs w A n z) (hby : ∀ x ∈ z, 0 ≤ x ∧ x < 256) (hm : n ≤ m) (hn : n ≤ 1000000) (hp : p ≤ a) (ha : a ≤ 2000000) (hk : k ≤ 2000000) :
    Calls Try.prog 11 #[.slice A n m, .int .i64 (a : Int), .int .i64 (p : Int), .int .i64 (k : Int)] w fun e w' => e = .returned (.bool (decide (a + k ≤ z.length ∧ k ≤ mt z a p))) ∧ ∃ q, w' = w.drewN q := by
  have hzl := hz.1
  by_cases hl : a + k ≤ n
  · have HZ := Lib.hid (fun j (hj : j < n) => hz.at_ hj)
    have hle := mt_le z a p
    have n1 : decide ((n : Int) < (a : Int) + k) = false := decide_eq_false (by omega)
    have n2 : decide ((n : Int) < (p : Int) + k) = false := decide_eq_false (by omega)
    clear hz
    go_enter Try.func11, Try.ntmps11
    go_wp2
    go_loopw [9] (fun v wr => ∃ j q : Nat, j ≤ k ∧ j ≤ mt z a p ∧ v = .int .i64 j ∧ wr = w.drewN q) (fun v _ => k - (intOf v).toNat)
    case atStart => exact ⟨0, 0, by omega, by omega, rfl, rfl⟩
    case round =>
      obtain ⟨j, q, hj, hjm, rfl, rfl⟩ := hrel
      by_cases hlt : j < k
      · obtain ⟨g, o, rfl, hcx⟩ := HZ.out (a + j) (by omega)
        obtain ⟨g', o', hA, hcy⟩ := HZ.out (p + j) (by omega)
        injection hA with hA
        injection hA with hg ho
        subst hg ho
        have HT := Lib.hid (fun h : z.getD (a + j) 0 = z.getD (p + j) 0 => (show j + 1 ≤ mt z a p from le_mt hp (by omega) (fun i hi => by
          by_cases e : i = j
          · subst e; exact h
          · exact mt_eq (by omega))))
        have HF := Lib.hid (fun h : ¬ z.getD (a + j) 0 = z.getD (p + j) 0 => (show mt z a p = j from mt_is hp (by omega) (fun i hi => mt_eq (by omega)) (.inr h)))
        generalize z.getD (a + j) 0 = u at *
        generalize z.getD (p + j) 0 = v at *
        have L : ∀ w', (∃ j, w' = w.drewN j) → w'.cell? ⟨g, o + (a + j), none⟩ = some (.int .u8 u) ∧ w'.cell? ⟨g, o + (p + j), none⟩ = some (.int .u8 v) := fun w' h => by
          obtain ⟨j, rfl⟩ := h
          exact ⟨hcx, hcy⟩
        have e1 : ((a : Int) + j).toNat = a + j := by omega
        have e2 : ((p : Int) + j).toNat = p + j := by omega
        have e3 : IntKind.i64.wrap ((a : Int) + j) = (a : Int) + j := IntWalk.i64_in _ (by omega)
        have e4 : IntKind.i64.wrap ((p : Int) + j) = (p : Int) + j := IntWalk.i64_in _ (by omega)
        have b1 : (a : Int) + j < n := by omega
        have b2 : (p : Int) + j < n := by omega
        have b3 : 0 ≤ (a : Int) + j := by omega
        have b4 : 0 ≤ (p : Int) + j := by omega
        clear hcx hcy
        by_cases huv : u = v
        · have hjm' := HT.out huv
          subst huv
          clear HF HT
          go_wp2
          refine Seq.wp_region_seq (fun w' => ∃ j, w' = w.drewN j) (by kernel_rfl) (by kernel_rfl) ⟨q + 1, rfl⟩ ?_
          repeat (first | (refine Seq.Seq.skip (by rfl) ?_; (try simp only [Act.put, List.setIfInBounds_toArray, List.set_cons_zero, List.set_cons_succ])) | (refine Seq.Seq.det ?_ (by rfl) (fun w hS => ?_) ?_; rotate_left; ((try dsimp only at hS); go_simp; (try rw [if_pos (by omega)]); with_reducible rfl); (try simp only [Act.put, List.setIfInBounds_toArray, List.set_cons_zero, List.set_cons_succ])))
          refine Seq.Seq.nil ?_
          clear L
          go_wp2
          go_roundw
          case rel => exact ⟨j + 1, q + 1, by omega, hjm', by go_num, rfl⟩
          case measure => simp [intOf]; omega
        · have e := HF.out huv
          have hd : decide (a + k ≤ z.length ∧ k ≤ mt z a p) = false := decide_eq_false (by omega)
          have hb : (u == v) = false := by simpa using huv
          have hb' : (u != v) = true := by simpa using huv
          have HD := Lib.hid hd
          clear HF HT hd e
          go_wp2
          refine Seq.wp_region_seq (fun w' => ∃ j, w' = w.drewN j) (by kernel_rfl) (by kernel_rfl) ⟨q + 1, rfl⟩ ?_
          repeat (first | (refine Seq.Seq.skip (by rfl) ?_; (try simp only [Act.put, List.setIfInBounds_toArray, List.set_cons_zero, List.set_cons_succ])) | (refine Seq.Seq.det ?_ (by rfl) (fun w hS => ?_) ?_; rotate_left; ((try dsimp only at hS); go_simp; (try rw [if_pos (by omega)]); with_reducible rfl); (try simp only [Act.put, List.setIfInBounds_toArray, List.set_cons_zero, List.set_cons_succ])))
          refine Seq.Seq.nil ?_
          clear L
          go_wp2
          go_ret
          exact ⟨by rw [HD.out]; rfl, q + 1, rfl⟩
      · have hd : decide (a + k ≤ z.length ∧ k ≤ mt z a p) = true := decide_eq_true (by omega)
        have HD := Lib.hid hd
        clear hd
        go_wp2
        go_ret
        exact ⟨by rw [HD.out]; rfl, q, rfl⟩
  · have hd : decide (a + k ≤ z.length ∧ k ≤ mt z a p) = false := decide_eq_false (by omega)
    rw [hd]
    clear hd hz
    go_enter Try.func11, Try.ntmps11
    go_wp2
    go_ret
    exact ⟨rfl, 0, rfl⟩

set_option maxHeartbeats 4000000 in
theorem rmatch_any {w : World} {A : Option Addr} {n m : Nat} {z : List Int} (a off : Int) (hz : Bs w A n z) (hby : ∀ x ∈ z, 0 ≤ x ∧ x < 256) (hm : n ≤ m) (hn : n ≤ 100000) :
    Calls Try.prog 8 #[.slice A n m, .int .i64 a, .int .i64 off] w (MatchPost z a off w) := by
  unfold MatchPost
  have hzl := hz.1
  by_cases h1 : a < 0
  · have e : mv z a off = 0 := by unfold mv; rw [if_neg (by omega)]
    rw [e]
    clear e hz hby
    go_enter Try.func8, Try.ntmps8
    go_wp2
    go_ret
    exact ⟨rfl, 0, rfl⟩
  · by_cases h2 : (n : Int) ≤ a
    · have e : mv z a off = 0 := by unfold mv; rw [if_neg (by omega)]
      rw [e]
      clear e hz hby
      go_enter Try.func8, Try.ntmps8
      go_wp2
      go_ret
      exact ⟨rfl, 0, rfl⟩
    · by_cases h3 : off < 1
      · have e : mv z a off = 0 := by unfold mv; rw [if_neg (by omega)]
        rw [e]
        clear e hz hby
        go_enter Try.func8, Try.ntmps8
        go_wp2
        go_ret
        exact ⟨rfl, 0, rfl⟩
      · by_cases h4 : a < off
        · have e : mv z a off = 0 := by unfold mv; rw [if_neg (by omega)]
          rw [e]
          clear e hz hby
          go_enter Try.func8, Try.ntmps8
          go_wp2
          go_ret
          exact ⟨rfl, 0, rfl⟩
        · obtain ⟨k, rfl⟩ : ∃ k : Nat, a = k := ⟨a.toNat, by omega⟩
          obtain ⟨p, hp⟩ : ∃ p : Nat, (k : Int) - off = p := ⟨((k : Int) - off).toNat, by omega⟩
          obtain rfl : off = (k : Int) - p := by omega
          have e : mv z k ((k : Int) - p) = mt z k p := by
            unfold mv
            rw [if_pos (by omega), Int.toNat_natCast, show ((k : Int) - (k - p)).toNat = p by omega]
          rw [e]
          have hpk : p ≤ k := by omega
          have hle := mt_le z k p
          have HZ := Lib.hid hz
          have HBY := Lib.hid hby
          have g1 : decide ((k : Int) < 0) = false := decide_eq_false (by omega)
          have g2 : decide ((n : Int) ≤ k) = false := decide_eq_false (by omega)
          have g3 : decide ((k : Int) - p < 1) = false := decide_eq_false (by omega)
          have g4 : decide ((k : Int) < (k : Int) - p) = false := decide_eq_false (by omega)
          have HMORE := Lib.hid (fun (j : Nat) (h : j ≤ mt z k p) => mt_more (z := z) hpk h)
          obtain ⟨M, hM⟩ : ∃ M, mt z k p = M := ⟨_, rfl⟩
          rw [hM] at HMORE hle ⊢
          clear e hz hby hp hM
          go_enter Try.func8, Try.ntmps8
          go_wp2
          go_loopw [7] (fun v wr => ∃ j q : Nat, j ≤ M ∧ v = .int .i64 j ∧ wr = w.drewN q) (fun v _ => M - (intOf v).toNat)
          case atStart => exact ⟨0, 0, by omega, rfl, rfl⟩
          case round =>
            obtain ⟨j, q, hj, rfl, rfl⟩ := hrel
            have hS := rsame_any (w := w.drewN q) (m := m) (k + j) (p + j) 1 (HZ.out.drewN q) HBY.out hm (by omega) (by omega) (by omega) (by omega)
            rw [HMORE.out j hj] at hS
            rw [show ((k + j : Nat) : Int) = (k : Int) + j by omega, show ((p + j : Nat) : Int) = (k : Int) + j - ((k : Int) - p) by omega, show ((1 : Nat) : Int) = 1 from rfl] at hS
            have e1 : IntKind.i64.wrap ((k : Int) + j) = (k : Int) + j := IntWalk.i64_in _ (by omega)
            have e2 : IntKind.i64.wrap ((k : Int) + j - ((k : Int) - p)) = (k : Int) + j - ((k : Int) - p) := IntWalk.i64_in _ (by omega)
            have b1 : (j : Int) < 1048576 := by omega
            have HS := Lib.hid hS
            clear hS
            by_cases hlt : j < M
            · rw [decide_eq_true hlt] at HS
              go_wp2_with fail
              with_reducible refine HS.out.mono ?_
              rintro e w2 ⟨rfl, q2, rfl⟩
              clear HS
              go_wp2
              go_roundw
              case rel => exact ⟨j + 1, q + q2, by omega, by go_num, rfl⟩
              case measure => simp [intOf]; omega
            · rw [decide_eq_false hlt] at HS
              go_wp2_with fail
              with_reducible refine HS.out.mono ?_
              rintro e w2 ⟨rfl, q2, rfl⟩
              clear HS
              go_wp2
              go_ret
              have hjM : j = M := by omega
              exact ⟨by rw [hjM]; rfl, q + q2, rfl⟩

/-- The best match, told. -/
theorem best_cases (z : List Int) (a : Int) : (bof z a (alls a) = 0 ∧ bnf z a (alls a) = 0 ∧ ∀ q ∈ alls a, mt z a.toNat q ≤ 3) ∨
    ∃ p : Nat, p ∈ alls a ∧ bof z a (alls a) = a - p ∧ bnf z a (alls a) = (mt z a.toNat p : Nat) ∧ 4 ≤ mt z a.toNat p ∧ (∀ q ∈ alls a, mt z a.toNat q ≤ mt z a.toNat p) ∧ ∀ q ∈ alls a, p < q → mt z a.toNat q < mt z a.toNat p := by
  have hmax : ∀ q ∈ alls a, mt z a.toNat q ≤ (bst z a (alls a) (0, 3)).2 := fun q hq => bst_max hq
  rcases bst_is (z := z) (a := a) (alls a) (0, 3) with ⟨h1, h2⟩ | ⟨x, p, y, h1, h2, h3, h4⟩
  · exact .inl ⟨by unfold bof; rw [h1], by unfold bnf; rw [h1]; rfl, h2⟩
  · have hp : p ∈ alls a := by rw [h1]; simp
    have hpa := (alls_mem.1 hp).1
    rw [h2] at hmax
    refine .inr ⟨p, hp, by unfold bof; rw [h2], by unfold bnf; rw [h2, if_neg (by show ¬ a - (p : Int) = 0; omega)], h3, hmax, fun q hq hlt => ?_⟩
    have hs := alls_sorted a
    rw [h1] at hq hs
    rcases List.mem_append.1 hq with hq | hq
    · exact h4 q hq
    · rcases List.mem_cons.1 hq with rfl | hq
      · omega
      · have := (List.pairwise_cons.1 (List.pairwise_append.1 hs).2.1).1 q hq
        omega
end Go.Proofs.Ytgiemddiiognlaa.Cur

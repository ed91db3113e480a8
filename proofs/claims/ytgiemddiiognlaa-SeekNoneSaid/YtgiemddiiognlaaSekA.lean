/- Longest matches: how many bytes at the front of two rows are the same; how many may match; which match is better. -/
import Derived.Test.YtgiemddiiognlaaSekM
import Derived.Test.YtgiemddiiognlaaChnA
import Derived.Test.YtgiemddiiognlaaK1
import Derived.Test.YtgiemddiiognlaaShelf
namespace Go.Proofs.Ytgiemddiiognlaa.Cur
open Go.RowKit Mem
set_option linter.unusedVariables false
set_option maxRecDepth 100000


theorem bytesOf_inj {x y : List Int} (hx : ∀ u ∈ x, 0 ≤ u ∧ u < 256) (hy : ∀ u ∈ y, 0 ≤ u ∧ u < 256) : (Lib.bytesOf x == Lib.bytesOf y) = decide (x = y) := by
  rw [Bool.eq_iff_iff, beq_iff_eq, decide_eq_true_eq]
  refine ⟨fun h => ?_, fun h => by rw [h]⟩
  rw [← Lib.strOfNums_toList, ← Lib.strOfNums_toList] at h
  exact strOfNums_inj hx hy (bstr_inj h)
theorem cp_take : ∀ (x y : List Int) (n : Nat), x.length ≤ n → cp x (y.take n) = cp x y
  | [], _, _, _ => by simp [cp]
  | _ :: _, [], _, _ => by simp
  | a :: x, b :: y, n, h => by
    obtain ⟨n, rfl⟩ : ∃ k, n = k + 1 := ⟨n - 1, by simp at h; omega⟩
    rw [List.take_succ_cons, cp, cp, cp_take x y n (by simpa using h)]
theorem piece_getD {z : List Int} {l k j : Nat} (h : j < k - l) : (piece z l k).getD j 0 = z.getD (l + j) 0 := by
  unfold piece
  rw [List.getD_eq_getElem?_getD, List.getElem?_take_of_lt h, List.getElem?_drop, List.getD_eq_getElem?_getD]


set_option maxHeartbeats 4000000 in
theorem alike_any {w : World} {A B : Option Addr} {n c d : Nat} {x y : List Int} (hx : Bs w A n x) (hy : Bs w B n y) (hbx : ∀ u ∈ x, 0 ≤ u ∧ u < 256) (hby : ∀ u ∈ y, 0 ≤ u ∧ u < 256) (hc : n ≤ c) (hd : n ≤ d) (hn : n ≤ 100000) :
    Calls Try.prog 16 #[.slice A n c, .slice B n d] w fun e w' => e = .returned (.int .i64 (cp x y)) ∧ ∃ k, w' = w.drewN k := by
  have HXL := Lib.hid hx.1
  have HYL := Lib.hid hy.1
  have HX := Lib.hid (fun k (hk : k < n) => hx.at_ hk)
  have HY := Lib.hid (fun k (hk : k < n) => hy.at_ hk)
  have HXB := Lib.hid hx
  have HYB := Lib.hid hy
  have HB1 := Lib.hid hbx
  have HB2 := Lib.hid hby
  have hcn : cp x y ≤ n := by have := (cp_le x y).1; have := hx.1; omega
  clear hx hy hbx hby
  go_enter Try.func16, Try.ntmps16
  go_wp2
  go_loopw [5] (fun v wr => ∃ k q : Nat, k ≤ cp x y ∧ v = .int .i64 k ∧ wr = w.drewN q) (fun v _ => n - (intOf v).toNat)
  case atStart => exact ⟨0, 0, Nat.zero_le _, rfl, rfl⟩
  case round =>
    obtain ⟨k, q, hk, rfl, rfl⟩ := hrel
    by_cases hlt : k + 64 ≤ n
    · obtain ⟨A', M, hsl, hA, hM, _⟩ := slice_lh HXB.out c k (k + 64) (by omega) (by omega) (by omega) hc
      obtain ⟨B', M', hsl', hA', hM', _⟩ := slice_lh HYB.out d k (k + 64) (by omega) (by omega) (by omega) hd
      rw [show ((k : Int) + 64 - k).toNat = 64 by omega] at hsl hsl' hA hA' hM hM'
      rw [show ((k : Int) + 64).toNat = k + 64 by omega, Int.toNat_natCast] at hA hA'
      have hpx : ∀ u ∈ piece x k (k + 64), 0 ≤ u ∧ u < 256 := fun u hu => HB1.out u (List.mem_of_mem_drop (List.mem_of_mem_take hu))
      have hpy : ∀ u ∈ piece y k (k + 64), 0 ≤ u ∧ u < 256 := fun u hu => HB2.out u (List.mem_of_mem_drop (List.mem_of_mem_take hu))
      have hEq := Try.bytes_Equal (.slice A' 64 M) (.slice B' 64 M') _ _ (w.drewN (q + 1)) (run_convert_bs M (hA.drewN (q + 1))) (run_convert_bs M' (hA'.drewN (q + 1)))
      rw [bytesOf_inj hpx hpy] at hEq
      have hYes : piece x k (k + 64) = piece y k (k + 64) → k + 64 ≤ cp x y := fun h => le_cp (by rw [HXL.out]; omega) (by rw [HYL.out]; omega) (fun j hj => by
        by_cases e : j < k
        · exact cp_eq x y j (by omega)
        · have h1 := piece_getD (z := x) (l := k) (k := k + 64) (j := j - k) (by omega)
          have h2 := piece_getD (z := y) (l := k) (k := k + 64) (j := j - k) (by omega)
          rw [show k + (j - k) = j by omega] at h1 h2
          rw [← h1, ← h2, h])
      have HEQ := Lib.hid hEq
      have HYES := Lib.hid hYes
      have e1 : IntKind.i64.wrap ((k : Int) + 64) = k + 64 := IntWalk.i64_in _ (by omega)
      have e2 : (k : Int) + 64 ≤ n := by omega
      clear hA hA' hM hM' hpx hpy hEq hYes
      go_wp2
      refine Seq.wp_region_seq (fun w' => ∃ j, w' = w.drewN j) (by kernel_rfl) (by kernel_rfl) ⟨q + 1, rfl⟩ ?_
      repeat (first | (refine Seq.Seq.skip (by rfl) ?_; (try simp only [Act.put, List.setIfInBounds_toArray, List.set_cons_zero, List.set_cons_succ])) | (refine Seq.Seq.det ?_ (by rfl) (fun w hS => ?_) ?_; rotate_left; ((try dsimp only at hS); go_simp; (try rw [if_pos (by omega)]); with_reducible rfl); (try simp only [Act.put, List.setIfInBounds_toArray, List.set_cons_zero, List.set_cons_succ])))
      refine Seq.Seq.make (by rfl) (by rfl) (fun K Q' hK => ?_)
      go_simp
      go_at_call 23
      refine HEQ.out.mono ?_
      rintro e w1 ⟨rfl, rfl⟩
      have hS2 : ∃ j, w.drewN (q + 1) = w.drewN j := ⟨_, rfl⟩
      refine hK.out _ _ (hS2) ?_
      clear hK K
      try simp only [Act.put, List.setIfInBounds_toArray, List.set_cons_zero, List.set_cons_succ]
      by_cases hp : piece x k (k + 64) = piece y k (k + 64)
      · have HK2 := Lib.hid (HYES.out hp)
        rw [decide_eq_true hp]
        clear hp
        repeat (first | (refine Seq.Seq.skip (by rfl) ?_; (try simp only [Act.put, List.setIfInBounds_toArray, List.set_cons_zero, List.set_cons_succ])) | (refine Seq.Seq.det ?_ (by rfl) (fun w hS => ?_) ?_; rotate_left; ((try dsimp only at hS); go_simp; (try rw [if_pos (by omega)]); with_reducible rfl); (try simp only [Act.put, List.setIfInBounds_toArray, List.set_cons_zero, List.set_cons_succ])))
        refine Seq.Seq.nil ?_
        clear hsl hsl' e1 hS2
        go_wp2
        go_roundw
        case rel => exact ⟨k + 64, q + 1, HK2.out, by go_num, rfl⟩
        case measure => simp [intOf]; omega
      · rw [decide_eq_false hp]
        clear hp
        repeat (first | (refine Seq.Seq.skip (by rfl) ?_; (try simp only [Act.put, List.setIfInBounds_toArray, List.set_cons_zero, List.set_cons_succ])) | (refine Seq.Seq.det ?_ (by rfl) (fun w hS => ?_) ?_; rotate_left; ((try dsimp only at hS); go_simp; (try rw [if_pos (by omega)]); with_reducible rfl); (try simp only [Act.put, List.setIfInBounds_toArray, List.set_cons_zero, List.set_cons_succ])))
        refine Seq.Seq.nil ?_
        clear hsl hsl' e1 e2 hS2 hlt
        go_wp2_with fail
        go_loopw [5] (fun v wr => ∃ k q : Nat, k ≤ cp x y ∧ v = .int .i64 k ∧ wr = w.drewN q) (fun v _ => n - (intOf v).toNat)
        case atStart => exact ⟨k, q + 1, hk, rfl, rfl⟩
        case round =>
          clear hk
          obtain ⟨k, q, hk, rfl, rfl⟩ := hrel
          have HK := Lib.hid hk
          have hkn : k ≤ n := by omega
          clear hk
          by_cases hlt : k < n
          · have cx := HX.out k hlt
            have cy := HY.out k hlt
            have HS := Lib.hid (fun h : x.getD k 0 = y.getD k 0 => le_cp (x := x) (y := y) (k := k + 1) (by rw [HXL.out]; omega) (by rw [HYL.out]; omega) (fun j hj => by
              by_cases e : j = k
              · subst e; exact h
              · exact cp_eq x y j (by have := HK.out; omega)))
            have HE := Lib.hid (fun h : ¬ x.getD k 0 = y.getD k 0 => (show cp x y = k from by
              have := HK.out
              rcases Nat.lt_or_ge k (cp x y) with hc | hc
              · exact absurd (cp_eq x y k hc) h
              · omega))
            obtain ⟨g, o, rfl, hcx⟩ := cx
            obtain ⟨g', o', rfl, hcy⟩ := cy
            generalize x.getD k 0 = u at *
            generalize y.getD k 0 = v at *
            have L : ∀ w', (∃ j, w' = w.drewN j) → w'.cell? ⟨g, o + k, none⟩ = some (.int .u8 u) ∧ w'.cell? ⟨g', o' + k, none⟩ = some (.int .u8 v) := fun w' h => by
              obtain ⟨j, rfl⟩ := h
              exact ⟨hcx, hcy⟩
            clear hcx hcy
            cases huv : (u == v)
            · have HN := Lib.hid (HE.out (by simpa using huv))
              go_wp2
              refine Seq.wp_region_seq (fun w' => ∃ j, w' = w.drewN j) (by kernel_rfl) (by kernel_rfl) ⟨q + 1, rfl⟩ ?_
              repeat (first | (refine Seq.Seq.skip (by rfl) ?_; (try simp only [Act.put, List.setIfInBounds_toArray, List.set_cons_zero, List.set_cons_succ])) | (refine Seq.Seq.det ?_ (by rfl) (fun w hS => ?_) ?_; rotate_left; ((try dsimp only at hS); go_simp; (try rw [if_pos (by omega)]); with_reducible rfl); (try simp only [Act.put, List.setIfInBounds_toArray, List.set_cons_zero, List.set_cons_succ])))
              refine Seq.Seq.nil ?_
              clear L huv
              go_wp2
              go_ret
              exact ⟨by rw [HN.out]; rfl, q + 1, rfl⟩
            · have HN := Lib.hid (HS.out (by simpa using huv))
              go_wp2
              refine Seq.wp_region_seq (fun w' => ∃ j, w' = w.drewN j) (by kernel_rfl) (by kernel_rfl) ⟨q + 1, rfl⟩ ?_
              repeat (first | (refine Seq.Seq.skip (by rfl) ?_; (try simp only [Act.put, List.setIfInBounds_toArray, List.set_cons_zero, List.set_cons_succ])) | (refine Seq.Seq.det ?_ (by rfl) (fun w hS => ?_) ?_; rotate_left; ((try dsimp only at hS); go_simp; (try rw [if_pos (by omega)]); with_reducible rfl); (try simp only [Act.put, List.setIfInBounds_toArray, List.set_cons_zero, List.set_cons_succ])))
              refine Seq.Seq.nil ?_
              clear L huv
              go_wp2
              go_roundw
              case rel => exact ⟨k + 1, q + 1, HN.out, by go_num, rfl⟩
              case measure => simp [intOf]; omega
          · have HN : Hid (cp x y = k) := Lib.hid (by have := HK.out; have := (cp_le x y).1; have := HXL.out; omega)
            go_wp2
            refine Seq.wp_region_seq (fun w' => ∃ j, w' = w.drewN j) (by kernel_rfl) (by kernel_rfl) ⟨q + 1, rfl⟩ ?_
            repeat (first | (refine Seq.Seq.skip (by rfl) ?_; (try simp only [Act.put, List.setIfInBounds_toArray, List.set_cons_zero, List.set_cons_succ])) | (refine Seq.Seq.det ?_ (by rfl) (fun w hS => ?_) ?_; rotate_left; ((try dsimp only at hS); go_simp; (try rw [if_pos (by omega)]); with_reducible rfl); (try simp only [Act.put, List.setIfInBounds_toArray, List.set_cons_zero, List.set_cons_succ])))
            refine Seq.Seq.nil ?_
            go_wp2
            go_ret
            exact ⟨by rw [HN.out]; rfl, q + 1, rfl⟩
    · have e1 : IntKind.i64.wrap ((k : Int) + 64) = k + 64 := IntWalk.i64_in _ (by omega)
      have e2 : decide ((k : Int) + 64 ≤ n) = false := by simp; omega
      go_wp2
      refine Seq.wp_region_seq (fun w' => ∃ j, w' = w.drewN j) (by kernel_rfl) (by kernel_rfl) ⟨q + 1, rfl⟩ ?_
      repeat (first | (refine Seq.Seq.skip (by rfl) ?_; (try simp only [Act.put, List.setIfInBounds_toArray, List.set_cons_zero, List.set_cons_succ])) | (refine Seq.Seq.det ?_ (by rfl) (fun w hS => ?_) ?_; rotate_left; ((try dsimp only at hS); go_simp; (try rw [if_pos (by omega)]); with_reducible rfl); (try simp only [Act.put, List.setIfInBounds_toArray, List.set_cons_zero, List.set_cons_succ])))
      refine Seq.Seq.nil ?_
      clear e1 e2 hlt
      go_wp2_with fail
      go_loopw [5] (fun v wr => ∃ k q : Nat, k ≤ cp x y ∧ v = .int .i64 k ∧ wr = w.drewN q) (fun v _ => n - (intOf v).toNat)
      case atStart => exact ⟨k, q + 1, hk, rfl, rfl⟩
      case round =>
        clear hk
        obtain ⟨k, q, hk, rfl, rfl⟩ := hrel
        have HK := Lib.hid hk
        have hkn : k ≤ n := by omega
        clear hk
        by_cases hlt : k < n
        · have cx := HX.out k hlt
          have cy := HY.out k hlt
          have HS := Lib.hid (fun h : x.getD k 0 = y.getD k 0 => le_cp (x := x) (y := y) (k := k + 1) (by rw [HXL.out]; omega) (by rw [HYL.out]; omega) (fun j hj => by
            by_cases e : j = k
            · subst e; exact h
            · exact cp_eq x y j (by have := HK.out; omega)))
          have HE := Lib.hid (fun h : ¬ x.getD k 0 = y.getD k 0 => (show cp x y = k from by
            have := HK.out
            rcases Nat.lt_or_ge k (cp x y) with hc | hc
            · exact absurd (cp_eq x y k hc) h
            · omega))
          obtain ⟨g, o, rfl, hcx⟩ := cx
          obtain ⟨g', o', rfl, hcy⟩ := cy
          generalize x.getD k 0 = u at *
          generalize y.getD k 0 = v at *
          have L : ∀ w', (∃ j, w' = w.drewN j) → w'.cell? ⟨g, o + k, none⟩ = some (.int .u8 u) ∧ w'.cell? ⟨g', o' + k, none⟩ = some (.int .u8 v) := fun w' h => by
            obtain ⟨j, rfl⟩ := h
            exact ⟨hcx, hcy⟩
          clear hcx hcy
          cases huv : (u == v)
          · have HN := Lib.hid (HE.out (by simpa using huv))
            go_wp2
            refine Seq.wp_region_seq (fun w' => ∃ j, w' = w.drewN j) (by kernel_rfl) (by kernel_rfl) ⟨q + 1, rfl⟩ ?_
            repeat (first | (refine Seq.Seq.skip (by rfl) ?_; (try simp only [Act.put, List.setIfInBounds_toArray, List.set_cons_zero, List.set_cons_succ])) | (refine Seq.Seq.det ?_ (by rfl) (fun w hS => ?_) ?_; rotate_left; ((try dsimp only at hS); go_simp; (try rw [if_pos (by omega)]); with_reducible rfl); (try simp only [Act.put, List.setIfInBounds_toArray, List.set_cons_zero, List.set_cons_succ])))
            refine Seq.Seq.nil ?_
            clear L huv
            go_wp2
            go_ret
            exact ⟨by rw [HN.out]; rfl, q + 1, rfl⟩
          · have HN := Lib.hid (HS.out (by simpa using huv))
            go_wp2
            refine Seq.wp_region_seq (fun w' => ∃ j, w' = w.drewN j) (by kernel_rfl) (by kernel_rfl) ⟨q + 1, rfl⟩ ?_
            repeat (first | (refine Seq.Seq.skip (by rfl) ?_; (try simp only [Act.put, List.setIfInBounds_toArray, List.set_cons_zero, List.set_cons_succ])) | (refine Seq.Seq.det ?_ (by rfl) (fun w hS => ?_) ?_; rotate_left; ((try dsimp only at hS); go_simp; (try rw [if_pos (by omega)]); with_reducible rfl); (try simp only [Act.put, List.setIfInBounds_toArray, List.set_cons_zero, List.set_cons_succ])))
            refine Seq.Seq.nil ?_
            clear L huv
            go_wp2
            go_roundw
            case rel => exact ⟨k + 1, q + 1, HN.out, by go_num, rfl⟩
            case measure => simp [intOf]; omega
        · have HN : Hid (cp x y = k) := Lib.hid (by have := HK.out; have := (cp_le x y).1; have := HXL.out; omega)
          go_wp2
          refine Seq.wp_region_seq (fun w' => ∃ j, w' = w.drewN j) (by kernel_rfl) (by kernel_rfl) ⟨q + 1, rfl⟩ ?_
          repeat (first | (refine Seq.Seq.skip (by rfl) ?_; (try simp only [Act.put, List.setIfInBounds_toArray, List.set_cons_zero, List.set_cons_succ])) | (refine Seq.Seq.det ?_ (by rfl) (fun w hS => ?_) ?_; rotate_left; ((try dsimp only at hS); go_simp; (try rw [if_pos (by omega)]); with_reducible rfl); (try simp only [Act.put, List.setIfInBounds_toArray, List.set_cons_zero, List.set_cons_succ])))
          refine Seq.Seq.nil ?_
          go_wp2
          go_ret
          exact ⟨by rw [HN.out]; rfl, q + 1, rfl⟩

/-- How many bytes a match there may have. -/
def lim (z : List Int) (a : Int) : Int := if 0 ≤ a ∧ a ≤ z.length then z.length - a else 0
theorem most_any {w : World} {A : Option Addr} {n m : Nat} {z : List Int} (a : Int) (hz : z.length = n) (hn : n ≤ 100000) (ha : -9223372036854775808 ≤ a ∧ a ≤ 9223372036854775807) :
    Calls Try.prog 15 #[.slice A n m, .int .i64 a] w fun e w' => e = .returned (.int .i64 (lim z a)) ∧ w = w' := by
  by_cases h0 : a < 0
  · have e : lim z a = 0 := by unfold lim; rw [if_neg (by omega)]
    rw [e]
    clear e
    go_enter Try.func15, Try.ntmps15
    go_wp2
    go_ret
    exact ⟨rfl, rfl⟩
  · by_cases h1 : (n : Int) < a
    · have e : lim z a = 0 := by unfold lim; rw [if_neg (by omega)]
      rw [e]
      clear e
      go_enter Try.func15, Try.ntmps15
      go_wp2
      go_ret
      exact ⟨rfl, rfl⟩
    · have e : lim z a = n - a := by unfold lim; rw [if_pos (by omega), hz]
      have e2 : min ((n : Int) - a) 1048576 = n - a := by omega
      rw [e]
      clear e
      go_enter Try.func15, Try.ntmps15
      go_wp2
      go_ret
      exact ⟨rfl, rfl⟩
theorem better_any (off n other m : Int) (w : World) : Calls Try.prog 9 #[.int .i64 off, .int .i64 n, .int .i64 other, .int .i64 m] w fun e w' => e = .returned (.bool (decide (m < n ∨ n = m ∧ off < other))) ∧ w = w' := by
  by_cases h1 : m < n
  · have e : decide (m < n ∨ n = m ∧ off < other) = true := decide_eq_true (.inl h1)
    rw [e]
    clear e
    go_enter Try.func9, Try.ntmps9
    go_wp2
    go_ret
    exact ⟨rfl, rfl⟩
  · by_cases h2 : n = m
    · subst h2
      by_cases h3 : off < other
      · have e : decide (n < n ∨ n = n ∧ off < other) = true := decide_eq_true (.inr ⟨rfl, h3⟩)
        rw [e]
        clear e
        go_enter Try.func9, Try.ntmps9
        go_wp2
        go_ret
        exact ⟨rfl, rfl⟩
      · have e : decide (n < n ∨ n = n ∧ off < other) = false := decide_eq_false (by omega)
        rw [e]
        clear e
        go_enter Try.func9, Try.ntmps9
        go_wp2
        go_ret
        exact ⟨rfl, rfl⟩
    · have e : decide (m < n ∨ n = m ∧ off < other) = false := decide_eq_false (by omega)
      have e1 : (n == m) = false := by simpa using h2
      rw [e]
      clear e h2
      go_enter Try.func9, Try.ntmps9
      go_wp2
      go_ret
      exact ⟨rfl, rfl⟩

/-- The match at an offset. -/
def mv (z : List Int) (a off : Int) : Int := if 0 ≤ a ∧ a < z.length ∧ 1 ≤ off ∧ off ≤ a then mt z a.toNat (a - off).toNat else 0
def MatchPost (z : List Int) (a off : Int) (w : World) (e : Ending) (w' : World) : Prop := e = .returned (.int .i64 (mv z a off)) ∧ ∃ k, w' = w.drewN k
set_option maxHeartbeats 2000000 in
theorem match_any {w : World} {A : Option Addr} {n m : Nat} {z : List Int} (a off : Int) (hz : Bs w A n z) (hby : ∀ x ∈ z, 0 ≤ x ∧ x < 256) (hm : n ≤ m) (hn : n ≤ 100000) (ha : -9223372036854775808 ≤ a ∧ a ≤ 9223372036854775807) :
    Calls Try.prog 7 #[.slice A n m, .int .i64 a, .int .i64 off] w (MatchPost z a off w) := by
  unfold MatchPost
  have hzl := hz.1
  have hmo := fun w => most_any (w := w) (A := A) (m := m) a hzl hn ha
  by_cases h0 : 0 ≤ a ∧ a < n
  · have hlim : lim z a = n - a := by unfold lim; rw [if_pos (by omega), hzl]
    have hb : ((n : Int) - a == 0) = false := by simp; omega
    rw [hlim] at hmo
    clear hlim
    by_cases h1 : off < 1
    · have e : mv z a off = 0 := by unfold mv; rw [if_neg (by omega)]
      rw [e]
      clear e hz hby
      go_enter Try.func7, Try.ntmps7
      go_wp2_with fail
      refine (hmo _).mono ?_
      rintro e w1 ⟨rfl, rfl⟩
      clear hmo
      go_wp2
      go_ret
      exact ⟨rfl, 0, rfl⟩
    · by_cases h2 : a < off
      · have e : mv z a off = 0 := by unfold mv; rw [if_neg (by omega)]
        rw [e]
        clear e hz hby
        go_enter Try.func7, Try.ntmps7
        go_wp2_with fail
        refine (hmo _).mono ?_
        rintro e w1 ⟨rfl, rfl⟩
        clear hmo
        go_wp2
        go_ret
        exact ⟨rfl, 0, rfl⟩
      · obtain ⟨k, rfl⟩ : ∃ k : Nat, a = k := ⟨a.toNat, by omega⟩
        obtain ⟨p, hp⟩ : ∃ p : Nat, (k : Int) - off = p := ⟨((k : Int) - off).toNat, by omega⟩
        obtain ⟨A', M, hsl, hA, hM, _⟩ := slice_lh hz m k n (by omega) (by omega) (by omega) hm
        obtain ⟨B', M', hsl', hA', hM', _⟩ := slice_lh hz m p ((p : Int) + (n - k)) (by omega) (by omega) (by omega) hm
        have el : ((n : Int) - k).toNat = n - k := by omega
        have el2 : ((p : Int) + (n - k) - p).toNat = n - k := by omega
        rw [el] at hsl hA hM
        rw [el2] at hsl' hA' hM'
        have hpz1 : piece z ((k : Nat) : Int).toNat ((n : Nat) : Int).toNat = z.drop k := by
          unfold piece
          rw [Int.toNat_natCast, Int.toNat_natCast, List.take_of_length_le (by rw [List.length_drop]; omega)]
        have hpz2 : piece z ((p : Nat) : Int).toNat ((p : Int) + (n - k)).toNat = (z.drop p).take (n - k) := by
          unfold piece
          rw [Int.toNat_natCast, show ((p : Int) + (n - k)).toNat - p = n - k by omega]
        rw [hpz1] at hA
        rw [hpz2] at hA'
        have hal := fun (q : Nat) => alike_any (w := w.drewN q) (c := M) (d := M') (hA.drewN q) (hA'.drewN q) (fun u hu => hby u (List.mem_of_mem_drop hu)) (fun u hu => hby u (List.mem_of_mem_drop (List.mem_of_mem_take hu))) hM hM' (by omega)
        rw [cp_take _ _ _ (by rw [List.length_drop]; omega)] at hal
        have e : mv z k off = cp (z.drop k) (z.drop p) := by
          unfold mv mt
          rw [if_pos (by omega), Int.toNat_natCast, hp, Int.toNat_natCast]
        rw [e]
        have HAL := Lib.hid hal
        have e1 : IntKind.i64.wrap ((k : Int) - off) = p := by rw [hp]; exact IntWalk.i64_in _ (by omega)
        have e2 : IntKind.i64.wrap ((k : Int) + (n - k)) = n := by rw [show (k : Int) + (n - k) = n by omega]; exact IntWalk.i64_in _ (by omega)
        have e3 : IntKind.i64.wrap ((p : Int) + (n - k)) = p + (n - k) := IntWalk.i64_in _ (by omega)
        have HSL := Lib.hid hsl
        have HSL' := Lib.hid hsl'
        clear e hz hby hA hA' hM hM' hal hp hpz1 hpz2 el el2 hsl hsl'
        go_enter Try.func7, Try.ntmps7
        go_wp2_with fail
        refine (hmo _).mono ?_
        rintro e w1 ⟨rfl, rfl⟩
        clear hmo
        go_wp2_with fail
        have hsl := HSL.out
        have hsl' := HSL'.out
        refine Seq.wp_region_seq (fun w' => ∃ j, w' = w.drewN j) (by kernel_rfl) (by kernel_rfl) ⟨1, rfl⟩ ?_
        repeat (first | (refine Seq.Seq.skip (by rfl) ?_; (try simp only [Act.put, List.setIfInBounds_toArray, List.set_cons_zero, List.set_cons_succ])) | (refine Seq.Seq.det ?_ (by rfl) (fun w hS => ?_) ?_; rotate_left; ((try dsimp only at hS); go_simp; (try rw [if_pos (by omega)]); with_reducible rfl); (try simp only [Act.put, List.setIfInBounds_toArray, List.set_cons_zero, List.set_cons_succ])))
        refine Seq.Seq.make (by rfl) (by rfl) (fun K Q' hK => ?_)
        go_simp
        go_at_call 16
        refine (HAL.out 1).mono ?_
        rintro e w1 ⟨rfl, q, rfl⟩
        have hS2 : ∃ j, (w.drewN 1).drewN q = w.drewN j := ⟨_, World.drewN_drewN _ _ _⟩
        refine hK.out _ _ (hS2) ?_
        clear hK K
        try simp only [Act.put, List.setIfInBounds_toArray, List.set_cons_zero, List.set_cons_succ]
        repeat (first | (refine Seq.Seq.skip (by rfl) ?_; (try simp only [Act.put, List.setIfInBounds_toArray, List.set_cons_zero, List.set_cons_succ])) | (refine Seq.Seq.det ?_ (by rfl) (fun w hS => ?_) ?_; rotate_left; ((try dsimp only at hS); go_simp; (try rw [if_pos (by omega)]); with_reducible rfl); (try simp only [Act.put, List.setIfInBounds_toArray, List.set_cons_zero, List.set_cons_succ])))
        refine Seq.Seq.nil ?_
        clear hsl hsl' e1 e2 e3 hS2
        go_wp2
        go_ret
        exact ⟨rfl, 1 + q, World.drewN_drewN _ _ _⟩
  · have e : mv z a off = 0 := by unfold mv; rw [if_neg (by omega)]
    have hlim : lim z a = 0 := by unfold lim; split <;> omega
    rw [hlim] at hmo
    rw [e]
    clear e hz hby hlim
    go_enter Try.func7, Try.ntmps7
    go_wp2_with fail
    refine (hmo _).mono ?_
    rintro e w1 ⟨rfl, rfl⟩
    clear hmo
    go_wp2
    go_ret
    exact ⟨rfl, 0, rfl⟩

set_option maxHeartbeats 1000000 in
theorem may_any {w : World} {A : Option Addr} {n m : Nat} {z : List Int} (a p t : Nat) (hz : Bs w A n z) (hby : ∀ x ∈ z, 0 ≤ x ∧ x < 256) (hm : n ≤ m) (hn : n ≤ 100000) (hp : p ≤ a) (ht : a + t + 4 ≤ n) :
    Calls Try.prog 24 #[.slice A n m, .int .i64 a, .int .i64 p, .int .i64 ((3 + t : Nat) : Int)] w fun e w' => e = .returned (.bool (decide (ky z (a + t) = ky z (p + t)))) ∧ ∃ k, w' = w.drewN k := by
  have hzl := hz.1
  have h1 := fun (q : Nat) => ckey_any (w := w.drewN q) (A := A) (n := n) (m := m) (z := z) ((a + t : Nat) : Int) (hz.drewN q) hby hm (by omega)
  have h2 := fun (q : Nat) => ckey_any (w := w.drewN q) (A := A) (n := n) (m := m) (z := z) ((p + t : Nat) : Int) (hz.drewN q) hby hm (by omega)
  unfold KeyPost at h1 h2
  rw [hk_nat (by omega), if_pos rfl, Int.toNat_natCast] at h1 h2
  have hd : decide (ky z (a + t) = ky z (p + t)) = (ky z (a + t) == ky z (p + t)) := by rw [Bool.eq_iff_iff]; simp
  rw [hd]
  generalize ky z (a + t) = x at *
  generalize ky z (p + t) = y at *
  rw [show ((3 + t : Nat) : Int) = 3 + t by omega]
  rw [show ((a + t : Nat) : Int) = a + t by omega] at h1
  rw [show ((p + t : Nat) : Int) = p + t by omega] at h2
  have e1 : IntKind.i64.wrap ((3 : Int) + t + 1) = 3 + t + 1 := IntWalk.i64_in _ (by omega)
  have e2 : (3 : Int) + t + 1 - 4 = t := by omega
  have H1 := Lib.hid h1
  have H2 := Lib.hid h2
  clear h1 h2 hd hz hby hzl
  go_enter Try.func24, Try.ntmps24
  go_wp2_with fail
  refine (H1.out 0).mono ?_
  rintro e w1 ⟨rfl, q1, rfl⟩
  go_wp2_with fail
  refine (H2.out _).mono ?_
  rintro e w1 ⟨rfl, q2, rfl⟩
  clear e1 e2
  go_wp2
  go_ret
  exact ⟨rfl, q1 + q2, rfl⟩
end Go.Proofs.Ytgiemddiiognlaa.Cur

/- Chains: the key of a place (the program's, and the document's comparison of two). -/
import Derived.Test.YtibooihekjdpfaaChnM
import Derived.Test.YtibooihekjdpfaaK1
import Derived.WalkKit
import Derived.WalkSpells
import Derived.WalkLawsBesides
import Derived.Deep.QuietTactic
import Derived.BigQuiet
import Derived.IntWalk
import Derived.Laws.BitsAllLaws
namespace Go.Proofs.Ytibooihekjdpfaa.Cur
open Go.RowKit Mem
set_option linter.unusedVariables false


theorem or_top (X b : Int) (s : Nat) (X0 : 0 ≤ X) (X1 : X < 2 ^ s) (b0 : 0 ≤ b) (b1 : b < 256) (hs : s ≤ 24) : bits .or .u32 X (b * 2 ^ s) = X + b * 2 ^ s ∧ IntKind.u32.wrap (b * 2 ^ s) = b * 2 ^ s := by
  obtain ⟨x, rfl⟩ := Int.eq_ofNat_of_zero_le X0
  obtain ⟨y, rfl⟩ := Int.eq_ofNat_of_zero_le b0
  have e : ((y : Int) * 2 ^ s) = ((2 ^ s * y : Nat) : Int) := by push_cast; rw [Int.mul_comm]
  have hx : x < 2 ^ s := by
    have : ((x : Nat) : Int) < ((2 ^ s : Nat) : Int) := by push_cast; exact X1
    omega
  have hs2 : 2 ^ s ≤ 2 ^ 24 := Nat.pow_le_pow_right (by decide) hs
  have hy : 2 ^ s * y ≤ 2 ^ 24 * 255 := Nat.mul_le_mul hs2 (by omega)
  rw [e, u32_or_nat _ _ (by omega) (by omega), Nat.or_comm, ← Nat.two_pow_add_eq_or_of_lt hx]
  refine ⟨by push_cast; omega, ?_⟩
  rw [IntKind.wrap_u32']
  omega

def KeyPost (z : List Int) (i : Int) (w : World) (e : Ending) (w' : World) : Prop :=
  e = .returned (.tuple #[.int .u32 (if hk z i = true then ky z i.toNat else 0), .bool (hk z i)]) ∧ ∃ k, w' = w.drewN k
set_option maxHeartbeats 1000000 in
theorem ckey_any {w : World} {A : Option Addr} {n m : Nat} {z : List Int} (i : Int) (hz : Bs w A n z) (hby : ∀ x ∈ z, 0 ≤ x ∧ x < 256) (hm : n ≤ m) (hn : n ≤ 1000000) :
    Calls Try.prog 8 #[.slice A n m, .int .i64 i] w (KeyPost z i w) := by
  unfold KeyPost
  have hzl := hz.1
  cases hh : hk z i
  · have hc := hk_neg hh
    clear hh
    by_cases h0 : i < 0
    · go_enter Try.func8, Try.ntmps8
      go_wp2
      go_ret2
      exact ⟨rfl, 0, rfl⟩
    · have h1 : (n : Int) - 4 < i := by omega
      have e1 : IntKind.i64.wrap ((n : Int) - 4) = n - 4 := IntWalk.i64_in _ (by omega)
      clear hzl hc
      go_enter Try.func8, Try.ntmps8
      go_wp2
      go_ret2
      exact ⟨rfl, 0, rfl⟩
  · obtain ⟨k, rfl, hkz⟩ := hk_pos hh
    clear hh
    have hkn : k + 4 ≤ n := by omega
    obtain ⟨A', M, hsl, hA, hM, _⟩ := slice_lh hz m k (k + 4) (by omega) (by omega) (by omega) hm
    rw [show ((k : Int) + 4 - k).toNat = 4 by omega] at hsl hA hM
    obtain ⟨g, o, rfl, hcc⟩ := hA.2 (by omega)
    have hp : ∀ j, j < 4 → (piece z (k : Int).toNat ((k : Int) + 4).toNat)[j]? = some (z.getD (k + j) 0) := fun j hj => by
      unfold piece
      rw [Int.toNat_natCast, List.getElem?_take_of_lt (by omega), List.getElem?_drop, List.getD_eq_getElem?_getD, List.getElem?_eq_getElem (by omega)]
      rfl
    have c0 := hcc 0 _ (hp 0 (by omega))
    have c1 := hcc 1 _ (hp 1 (by omega))
    have c2 := hcc 2 _ (hp 2 (by omega))
    have c3 := hcc 3 _ (hp 3 (by omega))
    have b0 := by_at hby (k + 0)
    have b1 := by_at hby (k + 1)
    have b2 := by_at hby (k + 2)
    have b3 := by_at hby (k + 3)
    have HK : Hid (ky z k = z.getD (k + 0) 0 + 256 * z.getD (k + 1) 0 + 65536 * z.getD (k + 2) 0 + 16777216 * z.getD (k + 3) 0) := Lib.hid rfl
    generalize z.getD (k + 0) 0 = x0 at *
    generalize z.getD (k + 1) 0 = x1 at *
    generalize z.getD (k + 2) 0 = x2 at *
    generalize z.getD (k + 3) 0 = x3 at *
    have HV : Hid (bits BinOp.or IntKind.u32 (bits BinOp.or IntKind.u32 (bits BinOp.or IntKind.u32 (IntKind.u32.wrap x0) (IntKind.u32.wrap (IntKind.u32.wrap x1 * 256))) (IntKind.u32.wrap (IntKind.u32.wrap x2 * 65536))) (IntKind.u32.wrap (IntKind.u32.wrap x3 * 16777216)) = ky z k) := Lib.hid (by
      have wr : ∀ x : Int, 0 ≤ x → x < 4294967296 → IntKind.u32.wrap x = x := fun x h1 h2 => by rw [IntKind.wrap_u32']; omega
      rw [HK.out, wr x0 (by omega) (by omega), wr x1 (by omega) (by omega), wr x2 (by omega) (by omega), wr x3 (by omega) (by omega), wr (x1 * 256) (by omega) (by omega), wr (x2 * 65536) (by omega) (by omega), wr (x3 * 16777216) (by omega) (by omega)]
      have t1 := (or_top x0 x1 8 b0.1 (by have : (2 : Int) ^ 8 = 256 := by decide
                                          omega) b1.1 b1.2 (by omega)).1
      rw [show (2 : Int) ^ 8 = 256 by decide] at t1
      have t2 := (or_top (x0 + x1 * 256) x2 16 (by omega) (by have : (2 : Int) ^ 16 = 65536 := by decide
                                                              omega) b2.1 b2.2 (by omega)).1
      rw [show (2 : Int) ^ 16 = 65536 by decide] at t2
      have t3 := (or_top (x0 + x1 * 256 + x2 * 65536) x3 24 (by omega) (by have : (2 : Int) ^ 24 = 16777216 := by decide
                                                                           omega) b3.1 b3.2 (by omega)).1
      rw [show (2 : Int) ^ 24 = 16777216 by decide] at t3
      rw [t1, t2, t3]
      omega)
    clear hcc hp hA hz hby hzl hkz
    go_enter Try.func8, Try.ntmps8
    go_wp2
    have L : ∀ w', (∃ q, w' = w.drewN q) → w'.cell? ⟨g, o, none⟩ = some (.int .u8 x0) ∧ w'.cell? ⟨g, o + 1, none⟩ = some (.int .u8 x1) ∧ w'.cell? ⟨g, o + 2, none⟩ = some (.int .u8 x2) ∧ w'.cell? ⟨g, o + 3, none⟩ = some (.int .u8 x3) := fun w' h => by
      obtain ⟨q, rfl⟩ := h
      exact ⟨c0, c1, c2, c3⟩
    clear c0 c1 c2 c3 hsl
    refine Seq.wp_region_seq (fun w' => ∃ q, w' = w.drewN q) (by kernel_rfl) (by kernel_rfl) ⟨1, rfl⟩ ?_
    repeat (first | (refine Seq.Seq.skip (by rfl) ?_; (try simp only [Act.put, List.setIfInBounds_toArray, List.set_cons_zero, List.set_cons_succ])) | (refine Seq.Seq.det ?_ (by rfl) (fun w hS => ?_) ?_; rotate_left; ((try dsimp only at hS); go_simp; (try rw [if_pos (by omega)]); with_reducible rfl); (try simp only [Act.put, List.setIfInBounds_toArray, List.set_cons_zero, List.set_cons_succ])))
    refine Seq.Seq.nil ?_
    go_wp2
    go_ret2
    exact ⟨by rw [HV.out]; simp, 1, rfl⟩

/-- Whether the same four bytes stand at two places. -/
def bkey (x0 x1 x2 x3 y0 y1 y2 y3 : Int) : Bool := x0 == y0 && (x1 == y1 && (x2 == y2 && x3 == y3))
set_option maxHeartbeats 4000000 in
theorem rkey_any {w : World} {A : Option Addr} {n m : Nat} {z : List Int} (i k : Int) (hz : Bs w A n z) (hby : ∀ x ∈ z, 0 ≤ x ∧ x < 256) (hm : n ≤ m) (hn : n ≤ 1000000) :
    Calls Try.prog 9 #[.slice A n m, .int .i64 i, .int .i64 k] w fun e w' => e = .returned (.bool (sk z i k)) ∧ ∃ k, w' = w.drewN k := by
  have hzl := hz.1
  have e1 : IntKind.i64.wrap ((n : Int) - 4) = n - 4 := IntWalk.i64_in _ (by omega)
  cases hi : hk z i
  · have hs := sk_no (z := z) (i := i) (k := k) (.inl hi)
    have hc := hk_neg hi
    rw [hs]
    clear hi hs
    by_cases h0 : i < 0
    · clear hc
      go_enter Try.func9, Try.ntmps9
      go_wp2
      go_ret
      exact ⟨rfl, 0, rfl⟩
    · have h1 : (n : Int) - 4 < i := by omega
      clear hzl hc
      by_cases h2 : k < 0
      · go_enter Try.func9, Try.ntmps9
        go_wp2
        go_ret
        exact ⟨rfl, 0, rfl⟩
      · go_enter Try.func9, Try.ntmps9
        go_wp2
        go_ret
        exact ⟨rfl, 0, rfl⟩
  · obtain ⟨a, rfl, haz⟩ := hk_pos hi
    cases hkk : hk z k
    · have hs := sk_no (z := z) (i := a) (k := k) (.inr hkk)
      have hc := hk_neg hkk
      rw [hs]
      clear hi hs hkk
      have h3 : (a : Int) ≤ n - 4 := by omega
      by_cases h0 : k < 0
      · clear hc
        go_enter Try.func9, Try.ntmps9
        go_wp2
        go_ret
        exact ⟨rfl, 0, rfl⟩
      · have h1 : (n : Int) - 4 < k := by omega
        clear hzl hc
        go_enter Try.func9, Try.ntmps9
        go_wp2
        go_ret
        exact ⟨rfl, 0, rfl⟩
    · obtain ⟨b, rfl, hbz⟩ := hk_pos hkk
      have h3 : (a : Int) ≤ n - 4 := by omega
      have h4 : (b : Int) ≤ n - 4 := by omega
      clear hi hkk
      obtain ⟨g, o, rfl, hc⟩ := hz.2 (by omega)
      have cell : ∀ j, j < n → w.cell? ⟨g, o + j, none⟩ = some (.int .u8 (z.getD j 0)) := fun j hj => hc j _ (by rw [List.getD_eq_getElem?_getD, List.getElem?_eq_getElem (by omega)]; rfl)
      have c0 := cell a (by omega)
      have c1 := cell (a + 1) (by omega)
      have c2 := cell (a + 2) (by omega)
      have c3 := cell (a + 3) (by omega)
      have d0 := cell b (by omega)
      have d1 := cell (b + 1) (by omega)
      have d2 := cell (b + 2) (by omega)
      have d3 := cell (b + 3) (by omega)
      have hs : sk z a b = bkey (z.getD a 0) (z.getD (a + 1) 0) (z.getD (a + 2) 0) (z.getD (a + 3) 0) (z.getD b 0) (z.getD (b + 1) 0) (z.getD (b + 2) 0) (z.getD (b + 3) 0) := by
        rw [sk_nat (by omega) (by omega)]
        unfold bkey
        rw [Bool.eq_iff_iff]
        simp only [decide_eq_true_eq, Bool.and_eq_true, beq_iff_eq]
        exact ky_eq hby a b
      rw [hs]
      generalize z.getD a 0 = x0 at *
      generalize z.getD (a + 1) 0 = x1 at *
      generalize z.getD (a + 2) 0 = x2 at *
      generalize z.getD (a + 3) 0 = x3 at *
      generalize z.getD b 0 = y0 at *
      generalize z.getD (b + 1) 0 = y1 at *
      generalize z.getD (b + 2) 0 = y2 at *
      generalize z.getD (b + 3) 0 = y3 at *
      have l1 : a < n ∧ a + 1 < n ∧ a + 2 < n ∧ a + 3 < n := by omega
      have l2 : b < n ∧ b + 1 < n ∧ b + 2 < n ∧ b + 3 < n := by omega
      clear cell hc hs hz hby
      have L : ∀ w', (∃ q, w' = w.drewN q) → w'.cell? ⟨g, o + a, none⟩ = some (.int .u8 x0) ∧ w'.cell? ⟨g, o + (a + 1), none⟩ = some (.int .u8 x1) ∧ w'.cell? ⟨g, o + (a + 2), none⟩ = some (.int .u8 x2) ∧ w'.cell? ⟨g, o + (a + 3), none⟩ = some (.int .u8 x3) ∧
          w'.cell? ⟨g, o + b, none⟩ = some (.int .u8 y0) ∧ w'.cell? ⟨g, o + (b + 1), none⟩ = some (.int .u8 y1) ∧ w'.cell? ⟨g, o + (b + 2), none⟩ = some (.int .u8 y2) ∧ w'.cell? ⟨g, o + (b + 3), none⟩ = some (.int .u8 y3) := fun w' h => by
        obtain ⟨q, rfl⟩ := h
        exact ⟨c0, c1, c2, c3, d0, d1, d2, d3⟩
      clear c0 c1 c2 c3 d0 d1 d2 d3 hzl haz hbz
      have f1 : IntKind.i64.wrap ((a : Int) + 1) = a + 1 := IntWalk.i64_in _ (by omega)
      have f2 : IntKind.i64.wrap ((a : Int) + 2) = a + 2 := IntWalk.i64_in _ (by omega)
      have f3 : IntKind.i64.wrap ((a : Int) + 3) = a + 3 := IntWalk.i64_in _ (by omega)
      have f4 : IntKind.i64.wrap ((b : Int) + 1) = b + 1 := IntWalk.i64_in _ (by omega)
      have f5 : IntKind.i64.wrap ((b : Int) + 2) = b + 2 := IntWalk.i64_in _ (by omega)
      have f6 : IntKind.i64.wrap ((b : Int) + 3) = b + 3 := IntWalk.i64_in _ (by omega)
      have g1 : (a : Int) + 1 < n ∧ (a : Int) + 2 < n ∧ (a : Int) + 3 < n ∧ (b : Int) + 1 < n ∧ (b : Int) + 2 < n ∧ (b : Int) + 3 < n := by omega
      have g2 : 0 ≤ (a : Int) + 1 ∧ 0 ≤ (a : Int) + 2 ∧ 0 ≤ (a : Int) + 3 ∧ 0 ≤ (b : Int) + 1 ∧ 0 ≤ (b : Int) + 2 ∧ 0 ≤ (b : Int) + 3 := by omega
      have g3 : ((a : Int) + 1).toNat = a + 1 ∧ ((a : Int) + 2).toNat = a + 2 ∧ ((a : Int) + 3).toNat = a + 3 ∧ ((b : Int) + 1).toNat = b + 1 ∧ ((b : Int) + 2).toNat = b + 2 ∧ ((b : Int) + 3).toNat = b + 3 := by omega
      unfold bkey
      cases hb0 : (x0 == y0)
      · go_enter Try.func9, Try.ntmps9
        go_wp2
        refine Seq.wp_region_seq (fun w' => ∃ q, w' = w.drewN q) (by kernel_rfl) (by kernel_rfl) ⟨1, rfl⟩ ?_
        repeat (first | (refine Seq.Seq.skip (by rfl) ?_; (try simp only [Act.put, List.setIfInBounds_toArray, List.set_cons_zero, List.set_cons_succ])) | (refine Seq.Seq.det ?_ (by rfl) (fun w hS => ?_) ?_; rotate_left; ((try dsimp only at hS); go_simp; (try rw [if_pos (by omega)]); with_reducible rfl); (try simp only [Act.put, List.setIfInBounds_toArray, List.set_cons_zero, List.set_cons_succ])))
        refine Seq.Seq.nil ?_
        go_wp2
        go_ret
        exact ⟨rfl, 1, rfl⟩
      · cases hb1 : (x1 == y1)
        · go_enter Try.func9, Try.ntmps9
          go_wp2
          refine Seq.wp_region_seq (fun w' => ∃ q, w' = w.drewN q) (by kernel_rfl) (by kernel_rfl) ⟨1, rfl⟩ ?_
          repeat (first | (refine Seq.Seq.skip (by rfl) ?_; (try simp only [Act.put, List.setIfInBounds_toArray, List.set_cons_zero, List.set_cons_succ])) | (refine Seq.Seq.det ?_ (by rfl) (fun w hS => ?_) ?_; rotate_left; ((try dsimp only at hS); go_simp; (try rw [if_pos (by omega)]); with_reducible rfl); (try simp only [Act.put, List.setIfInBounds_toArray, List.set_cons_zero, List.set_cons_succ])))
          refine Seq.Seq.nil ?_
          go_wp2
          go_ret
          exact ⟨rfl, 1, rfl⟩
        · cases hb2 : (x2 == y2)
          · go_enter Try.func9, Try.ntmps9
            go_wp2
            refine Seq.wp_region_seq (fun w' => ∃ q, w' = w.drewN q) (by kernel_rfl) (by kernel_rfl) ⟨1, rfl⟩ ?_
            repeat (first | (refine Seq.Seq.skip (by rfl) ?_; (try simp only [Act.put, List.setIfInBounds_toArray, List.set_cons_zero, List.set_cons_succ])) | (refine Seq.Seq.det ?_ (by rfl) (fun w hS => ?_) ?_; rotate_left; ((try dsimp only at hS); go_simp; (try rw [if_pos (by omega)]); with_reducible rfl); (try simp only [Act.put, List.setIfInBounds_toArray, List.set_cons_zero, List.set_cons_succ])))
            refine Seq.Seq.nil ?_
            go_wp2
            go_ret
            exact ⟨rfl, 1, rfl⟩
          · cases hb3 : (x3 == y3)
            · go_enter Try.func9, Try.ntmps9
              go_wp2
              refine Seq.wp_region_seq (fun w' => ∃ q, w' = w.drewN q) (by kernel_rfl) (by kernel_rfl) ⟨1, rfl⟩ ?_
              repeat (first | (refine Seq.Seq.skip (by rfl) ?_; (try simp only [Act.put, List.setIfInBounds_toArray, List.set_cons_zero, List.set_cons_succ])) | (refine Seq.Seq.det ?_ (by rfl) (fun w hS => ?_) ?_; rotate_left; ((try dsimp only at hS); go_simp; (try rw [if_pos (by omega)]); with_reducible rfl); (try simp only [Act.put, List.setIfInBounds_toArray, List.set_cons_zero, List.set_cons_succ])))
              refine Seq.Seq.nil ?_
              go_wp2
              go_ret
              exact ⟨rfl, 1, rfl⟩
            · go_enter Try.func9, Try.ntmps9
              go_wp2
              refine Seq.wp_region_seq (fun w' => ∃ q, w' = w.drewN q) (by kernel_rfl) (by kernel_rfl) ⟨1, rfl⟩ ?_
              repeat (first | (refine Seq.Seq.skip (by rfl) ?_; (try simp only [Act.put, List.setIfInBounds_toArray, List.set_cons_zero, List.set_cons_succ])) | (refine Seq.Seq.det ?_ (by rfl) (fun w hS => ?_) ?_; rotate_left; ((try dsimp only at hS); go_simp; (try rw [if_pos (by omega)]); with_reducible rfl); (try simp only [Act.put, List.setIfInBounds_toArray, List.set_cons_zero, List.set_cons_succ])))
              refine Seq.Seq.nil ?_
              go_wp2
              go_ret
              exact ⟨rfl, 1, rfl⟩
end Go.Proofs.Ytibooihekjdpfaa.Cur

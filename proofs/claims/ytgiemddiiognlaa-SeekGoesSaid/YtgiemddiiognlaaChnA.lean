/- Chains: the key of a place (the program's, and the document's comparison of two). -/
import Derived.Test.YtgiemddiiognlaaChnM
import Derived.Test.YtgiemddiiognlaaK1
import Derived.WalkKit
import Derived.WalkSpells
import Derived.WalkLawsBesides
import Derived.Deep.QuietTactic
import Derived.BigQuiet
import Derived.IntWalk
import Derived.Laws.BitsAllLaws
namespace Go.Proofs.Ytgiemddiiognlaa.Cur
open Go.RowKit Mem
set_option linter.unusedVariables false


theorem or_top (X b : Int) (s : Nat) (X0 : 0 ≤ X) (X1 : X < 2 ^ s) (b0 : 0 ≤ b) (b1 : b < 256) (hs : s ≤ 24) : bits .or .u32 X (b * 2 ^ s) = X + b * 2 ^ s ∧ IntKind.u32.wrap (b * 2 ^ s) = b * 2 ^ s := by
  obtain ⟨x, rfl⟩ := Int.eq_ofNat_of_zero_le X0
  obtain ⟨y, rfl⟩ := Int.eq_ofNat_of_zero_le b0
  have e : ((y : Int) * 2 ^ s) = ((2 ^ s * y : Nat) : Int) := by push_cast; rw [Int.mul_comm]
  have hx : x < 2 ^ s := by
    have : ((x : Nat) : Int) < ((2 ^ s : Nat) : Int) := by push_cast; exact X1
    omega
  have hs2 : 2 ^ s ≤ 2 ^ 24 := Nat.pow_le_pow_right (by decide) hs
  have hy : 2 ^ s * y ≤ 2 ^ 24 * 255 := Nat.mul_le_mul hs2 (by omega)
  rw [e, u32_or_nat _ _ (by omega) (by omega), Nat.or_comm, ← Nat.two_pow_add_eq_or_of_lt hx]
  refine ⟨by push_cast; omega, ?_⟩
  rw [IntKind.wrap_u32']
  omega

def KeyPost (z : List Int) (i : Int) (w : World) (e : Ending) (w' : World) : Prop :=
  e = .returned (.tuple #[.int .u32 (if hk z i = true then ky z i.toNat else 0), .bool (hk z i)]) ∧ ∃ k, w' = w.drewN k
set_option maxHeartbeats 1000000 in
theorem ckey_any {w : World} {A : Option Addr} {n m : Nat} {z : List Int} (i : Int) (hz : Bs w A n z) (hby : ∀ x ∈ z, 0 ≤ x ∧ x < 256) (hm : n ≤ m) (hn : n ≤ 1000000) :
    Calls Try.prog 30 #[.slice A n m, .int .i64 i] w (KeyPost z i w) := by
  unfold KeyPost
  have hzl := hz.1
  cases hh : hk z i
  · have hc := hk_neg hh
    clear hh
    by_cases h0 : i < 0
    · go_enter Try.func30, Try.ntmps30
      go_wp2
      go_ret2
      exact ⟨rfl, 0, rfl⟩
    · have h1 : (n : Int) - 4 < i := by omega
      have e1 : IntKind.i64.wrap ((n : Int) - 4) = n - 4 := IntWalk.i64_in _ (by omega)
      clear hzl hc
      go_enter Try.func30, Try.ntmps30
      go_wp2
      go_ret2
      exact ⟨rfl, 0, rfl⟩
  · obtain ⟨k, rfl, hkz⟩ := hk_pos hh
    clear hh
    have hkn : k + 4 ≤ n := by omega
    obtain ⟨A', M, hsl, hA, hM, _⟩ := slice_lh hz m k (k + 4) (by omega) (by omega) (by omega) hm
    rw [show ((k : Int) + 4 - k).toNat = 4 by omega] at hsl hA hM
    obtain ⟨g, o, rfl, hcc⟩ := hA.2 (by omega)
    have hp : ∀ j, j < 4 → (piece z (k : Int).toNat ((k : Int) + 4).toNat)[j]? = some (z.getD (k + j) 0) := fun j hj => by
      unfold piece
      rw [Int.toNat_natCast, List.getElem?_take_of_lt (by omega), List.getElem?_drop, List.getD_eq_getElem?_getD, List.getElem?_eq_getElem (by omega)]
      rfl
    have c0 := hcc 0 _ (hp 0 (by omega))
    have c1 := hcc 1 _ (hp 1 (by omega))
    have c2 := hcc 2 _ (hp 2 (by omega))
    have c3 := hcc 3 _ (hp 3 (by omega))
    have b0 := by_at hby (k + 0)
    have b1 := by_at hby (k + 1)
    have b2 := by_at hby (k + 2)
    have b3 := by_at hby (k + 3)
    have HK : Hid (ky z k = z.getD (k + 0) 0 + 256 * z.getD (k + 1) 0 + 65536 * z.getD (k + 2) 0 + 16777216 * z.getD (k + 3) 0) := Lib.hid rfl
    generalize z.getD (k + 0) 0 = x0 at *
    generalize z.getD (k + 1) 0 = x1 at *
    generalize z.getD (k + 2) 0 = x2 at *
    generalize z.getD (k + 3) 0 = x3 at *
    have HV : Hid (bits BinOp.or IntKind.u32 (bits BinOp.or IntKind.u32 (bits BinOp.or IntKind.u32 (IntKind.u32.wrap x0) (IntKind.u32.wrap (IntKind.u32.wrap x1 * 256))) (IntKind.u32.wrap (IntKind.u32.wrap x2 * 65536))) (IntKind.u32.wrap (IntKind.u32.wrap x3 * 16777216)) = ky z k) := Lib.hid (by
      have wr : ∀ x : Int, 0 ≤ x → x < 4294967296 → IntKind.u32.wrap x = x := fun x h1 h2 => by rw [IntKind.wrap_u32']; omega
      rw [HK.out, wr x0 (by omega) (by omega), wr x1 (by omega) (by omega), wr x2 (by omega) (by omega), wr x3 (by omega) (by omega), wr (x1 * 256) (by omega) (by omega), wr (x2 * 65536) (by omega) (by omega), wr (x3 * 16777216) (by omega) (by omega)]
      have t1 := (or_top x0 x1 8 b0.1 (by have : (2 : Int) ^ 8 = 256 := by decide
                                          omega) b1.1 b1.2 (by omega)).1
      rw [show (2 : Int) ^ 8 = 256 by decide] at t1
      have t2 := (or_top (x0 + x1 * 256) x2 16 (by omega) (by have : (2 : Int) ^ 16 = 65536 := by decide
                                                              omega) b2.1 b2.2 (by omega)).1
      rw [show (2 : Int) ^ 16 = 65536 by decide] at t2
      have t3 := (or_top (x0 + x1 * 256 + x2 * 65536) x3 24 (by omega) (by have : (2 : Int) ^ 24 = 16777216 := by decide
                                                                           omega) b3.1 b3.2 (by omega)).1
      rw [show (2 : Int) ^ 24 = 16777216 by decide] at t3
      rw [t1, t2, t3]
      omega)
    clear hcc hp hA hz hby hzl hkz
    go_enter Try.func30, Try.ntmps30
    go_wp2
    have L : ∀ w', (∃ q, w' = w.drewN q) → w'.cell? ⟨g, o, none⟩ = some (.int .u8 x0) ∧ w'.cell? ⟨g, o + 1, none⟩ = some (.int .u8 x1) ∧ w'.cell? ⟨g, o + 2, none⟩ = some (.int .u8 x2) ∧ w'.cell? ⟨g, o + 3, none⟩ = some (.int .u8 x3) := fun w' h => by
      obtain ⟨q, rfl⟩ := h
      exact ⟨c0, c1, c2, c3⟩
    clear c0 c1 c2 c3 hsl
    refine Seq.wp_region_seq (fun w' => ∃ q, w' = w.drewN q) (by kernel_rfl) (by kernel_rfl) ⟨1, rfl⟩ ?_
    repeat (first | (refine Seq.Seq.skip (by rfl) ?_; (try simp only [Act.put, List.setIfInBounds_toArray, List.set_cons_zero, List.set_cons_succ])) | (refine Seq.Seq.det ?_ (by rfl) (fun w hS => ?_) ?_; rotate_left; ((try dsimp only at hS); go_simp; (try rw [if_pos (by omega)]); with_reducible rfl); (try simp only [Act.put, List.setIfInBounds_toArray, List.set_cons_zero, List.set_cons_succ])))
    refine Seq.Seq.nil ?_
    go_wp2
    go_ret2
    exact ⟨by rw [HV.out]; simp, 1, rfl⟩

/-- Whether the same four bytes stand at two places. -/
def bkey (x0 x1 x2 x3 y0 y1 y2 y3 : Int) : Bool := x0 == y0 && (x1 == y1 && (x2 == y2 && x3 == y3))
end Go.Proofs.Ytgiemddiiognlaa.Cur

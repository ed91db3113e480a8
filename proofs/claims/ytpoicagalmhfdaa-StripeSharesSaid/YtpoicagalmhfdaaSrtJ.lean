/- slices.Sort at numbers of 64 digits: the patterns are broken. -/
import Derived.Test.YtpoicagalmhfdaaSrtI
import Derived.Test.YtpoicagalmhfdaaShelf
import Derived.Sort.Walk7a
namespace Go.Proofs.Ytpoicagalmhfdaa.Cur
open Go.RowKit Mem Go.Sort
set_option linter.unusedVariables false
set_option maxRecDepth 100000



theorem slen_any (n : Nat) (hn : n ≤ 1000) (w : World) : Calls Try.prog 74 #[.int .u64 n] w fun e w' => e = .returned (.int .i64 (bitsLen n : Nat)) ∧ w = w' := by
  have hc : ∀ w, Calls Try.prog 92 #[.int .u64 n] w fun e w' => e = .returned (.int .i64 (bitsLen n : Nat)) ∧ w' = w := fun w => by
    have h := Try.bits_Len64 (n : Int) w (by omega) (by omega)
    rwa [Int.toNat_natCast, bitLen_eq _ (by omega)] at h
  have e1 : IntKind.u64.wrap (n : Int) = (n : Int) := by rw [IntKind.wrap_u64]; omega
  go_enter Try.func74, Try.ntmps74
  go_wp2_with (go_at_call 92; refine (hc _).mono ?_; rintro e w1 ⟨rfl, rfl⟩)
  go_ret
  exact ⟨rfl, rfl⟩
theorem snpow_any (n : Nat) (hn : n ≤ 1000) (w : World) : Calls Try.prog 97 #[.int .i64 n] w fun e w' => e = .returned (.int .u64 ((1 <<< bitsLen n : Nat) : Int)) ∧ w = w' := by
  have hk : bitsLen n ≤ 62 := (bitsLen_le_iff n 62).2 (by omega)
  have hp := wrap_two_pow (bitsLen n) hk
  have hL := slen_any n hn
  have e1 : IntKind.u64.wrap (n : Int) = (n : Int) := by rw [IntKind.wrap_u64]; omega
  go_enter Try.func97, Try.ntmps97
  go_wp2_with (go_at_call 74; refine (hL _).mono ?_; rintro e w1 ⟨rfl, rfl⟩)
  go_ret
  exact ⟨rfl, rfl⟩
theorem xs_up (X m Y : Nat) (hX : X < 18446744073709551616) (hY : X ^^^ (X * m % 18446744073709551616) = Y) : bits .xor .u64 (X : Int) (IntKind.u64.wrap ((X : Int) * m)) = (Y : Int) ∧ Y < 18446744073709551616 := by
  have h1 : X * m % 18446744073709551616 < 18446744073709551616 := Nat.mod_lt _ (by decide)
  have h2 : IntKind.u64.wrap ((X : Int) * m) = ((X * m % 18446744073709551616 : Nat) : Int) := by
    rw [IntKind.wrap_u64, ← Int.natCast_mul]
    generalize X * m = p
    omega
  exact ⟨by rw [h2, bits_xor_u64_nat _ _ hX h1, hY], hY ▸ Nat.xor_lt_two_pow (n := 64) hX h1⟩
theorem xs_down (X m Y : Nat) (hX : X < 18446744073709551616) (hY : X ^^^ (X / m) = Y) : bits .xor .u64 (X : Int) ((X : Int) / m) = (Y : Int) ∧ Y < 18446744073709551616 := by
  have h1 : X / m < 18446744073709551616 := Nat.lt_of_le_of_lt (Nat.div_le_self _ _) hX
  have h2 : (X : Int) / m = ((X / m : Nat) : Int) := by push_cast; rfl
  exact ⟨by rw [h2, bits_xor_u64_nat _ _ hX h1, hY], hY ▸ Nat.xor_lt_two_pow (n := 64) hX h1⟩
/-- One step of the counter: three stores into its one cell. -/
theorem snxt_any (rb X t : Nat) (hX : X < 18446744073709551616) (w : World) (h : Blk w rb #[.int .u64 X] t) :
    Calls Try.prog 98 #[.pointer (some ⟨rb, 0, none⟩)] w fun e w' => e = .returned (.int .u64 (xorNextN X : Nat)) ∧ w' = (w.setCell ⟨rb, 0, none⟩ (.int .u64 (xorNextN X : Nat))).drewN 3 := by
  obtain ⟨x1, h1⟩ : ∃ y, X ^^^ (X * 8192 % 18446744073709551616) = y := ⟨_, rfl⟩
  obtain ⟨x2, h2⟩ : ∃ y, x1 ^^^ (x1 / 128) = y := ⟨_, rfl⟩
  obtain ⟨x3, h3⟩ : ∃ y, x2 ^^^ (x2 * 131072 % 18446744073709551616) = y := ⟨_, rfl⟩
  have hN : xorNextN X = x3 := by simp only [xorNextN, h1, h2, h3]
  obtain ⟨p1, l1⟩ := xs_up X 8192 x1 hX h1
  obtain ⟨p2, l2⟩ := xs_down x1 128 x2 l1 h2
  obtain ⟨p3, _⟩ := xs_up x2 131072 x3 l2 h3
  have p1 : bits .xor .u64 (X : Int) (IntKind.u64.wrap ((X : Int) * 8192)) = (x1 : Int) := p1
  have p2 : bits .xor .u64 (x1 : Int) ((x1 : Int) / 128) = (x2 : Int) := p2
  have p3 : bits .xor .u64 (x2 : Int) (IntKind.u64.wrap ((x2 : Int) * 131072)) = (x3 : Int) := p3
  have same : ∀ u v, (w.setCell ⟨rb, 0, none⟩ u).setCell ⟨rb, 0, none⟩ v = w.setCell ⟨rb, 0, none⟩ v := setCell_setCell w rb 0
  have c := h.c1
  have f := h.free 0
  rw [hN]
  clear h1 h2 h3 hN h l1 l2
  go_enter Try.func98, Try.ntmps98
  go_wp2
  go_region
  go_wp2
  go_region
  go_wp2
  go_region
  go_wp2
  go_ret
  exact ⟨rfl, rfl⟩

def bpR (a L M i0 : Nat) : Nat → Nat → UInt64 × Array Int → Array Int
  | 0, _, st => st.2
  | k + 1, t, st => bpR a L M i0 k (t + 1) (breakStep a L M st (i0 + t))
theorem bpr_eq (d : Array Int) (a b L : Nat) (hL : L = b - a) (h8 : 8 ≤ L) : breakPatterns d a b = bpR a L (1 <<< bitsLen L) (a + L / 4 * 2 - 1) 3 0 (UInt64.ofNat L, d) := by
  subst hL
  unfold breakPatterns
  rw [if_pos h8]
  rfl
theorem bpr_step (a L M i0 k t : Nat) (r : UInt64) (d : Array Int) (o : Nat) (ho : (if (xorNext r).toNat &&& (M - 1) ≥ L then ((xorNext r).toNat &&& (M - 1)) - L else (xorNext r).toNat &&& (M - 1)) = o) :
    bpR a L M i0 (k + 1) t (r, d) = bpR a L M i0 k (t + 1) (xorNext r, Go.Sort.swp d (i0 + t) (a + o)) := by
  rw [bpR]
  unfold breakStep
  simp only [ho]
/-- How far it is broken. -/
def BpS (B g n cap m : Nat) (a L M i0 k t : Nat) (F : Array Int) (w0 w : World) : Prop := ∃ (r : UInt64) (d : Array Int), OwnA w B g n cap d ∧ Blk w m #[.int .u64 (r.toNat : Nat)] 125 ∧ bpR a L M i0 k t (r, d) = F ∧ Ks (fun x => x = g) w0 w
end Go.Proofs.Ytpoicagalmhfdaa.Cur

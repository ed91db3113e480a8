/- Stripes: what is dealt comes back. -/
import Derived.Test.YtpoicagalmhfdaaStpU
namespace Go.Proofs.Ytpoicagalmhfdaa.Cur
open Go.RowKit Mem
set_option linter.unusedVariables false
set_option maxRecDepth 100000

theorem bk_deal {s : Stp} {p : Int} (hok : stok s = true) (h0 : s.1 ≤ p) (h1 : p < s.2.1) : bkv s ((p - s.1) % s.2.2.length) ((p - s.1) / s.2.2.length) = .tuple #[.int .u64 p, .bool true] := by
  obtain ⟨k1, k2, k3, k4, _⟩ := stok_parts hok
  obtain ⟨a, ha⟩ := Int.eq_ofNat_of_zero_le (show 0 ≤ p - s.1 by omega)
  have e1 : (p - s.1) % (s.2.2.length : Int) = ((a % s.2.2.length : Nat) : Int) := by rw [ha]; rfl
  have e2 : (p - s.1) / (s.2.2.length : Int) = ((a / s.2.2.length : Nat) : Int) := by rw [ha]; rfl
  have hlt := Nat.mod_lt a (show 0 < s.2.2.length by omega)
  unfold bkv
  rw [e1, e2, shv_yes ⟨hok, by omega, by omega⟩, Int.toNat_natCast]
  have := (deal_in (n := (s.2.1 - s.1).toNat) (m := s.2.2.length) (x := a) (by omega)).1 (by omega)
  rw [if_pos (by omega)]
  have h2 := deal_back (m := s.2.2.length) (x := a)
  have h3 : ((a / s.2.2.length : Nat) : Int) * (s.2.2.length : Int) + ((a % s.2.2.length : Nat) : Int) = (a : Int) := by rw [← Int.natCast_mul, ← Int.natCast_add, h2]
  rw [show s.1 + ((a / s.2.2.length : Nat) : Int) * (s.2.2.length : Int) + ((a % s.2.2.length : Nat) : Int) = p by omega]
theorem deal_bk {s : Stp} {p x : Int} (h : p < shv s x) (hp : 0 ≤ p) : dlv s (s.1 + p * s.2.2.length + x) = .tuple #[.int .i64 x, .int .u64 p, .bool true] := by
  obtain ⟨hok, h0, h1, h2⟩ := shv_pos h hp
  obtain ⟨a, rfl⟩ := Int.eq_ofNat_of_zero_le hp
  obtain ⟨b, rfl⟩ := Int.eq_ofNat_of_zero_le h0
  have hm : 0 ≤ (a : Int) * (s.2.2.length : Int) := Int.mul_nonneg (by omega) (by omega)
  rw [dlv_yes ⟨hok, by omega, by omega⟩]
  have e : s.1 + (a : Int) * s.2.2.length + b - s.1 = ((a * s.2.2.length + b : Nat) : Int) := by push_cast; omega
  obtain ⟨q1, q2⟩ := back_deal (m := s.2.2.length) (s := b) (l := a) (by omega)
  rw [e, ← Int.natCast_emod, ← Int.natCast_ediv, q1, q2]
theorem bkv_yes {s : Stp} {x l : Int} (h : l < shv s x) : bkv s x l = .tuple #[.int .u64 (s.1 + l * s.2.2.length + x), .bool true] := if_pos h
theorem bkv_no {s : Stp} {x l : Int} (h : ¬ l < shv s x) : bkv s x l = .tuple #[.int .u64 0, .bool false] := if_neg h
theorem shv_bad {s : Stp} {x : Int} (h : stok s = false) : shv s x = 0 := shv_no fun hh => by rw [h] at hh; cases hh.1
theorem shv_bd (s : Stp) (x : Int) (h0 : 0 ≤ s.1) (h1 : s.2.1 < 18446744073709551616) : 0 ≤ shv s x ∧ shv s x < 18446744073709551616 := by
  unfold shv
  split
  · rename_i h
    obtain ⟨k1, k2, k3, k4, _⟩ := stok_parts h.1
    have := shr_le (n := (s.2.1 - s.1).toNat) (m := s.2.2.length) (s := x.toNat) (by omega)
    omega
  · omega

set_option maxHeartbeats 1000000 in
theorem nodes_no (P : Nat → Prop) (f t : Int) (A : Option Addr) (n m : Nat) (S : List (List Int)) (w : World) (hz : Sts w P A n S) (hm : n ≤ m) (hn : n ≤ 1000000) (hlen : ∀ l ∈ S, l.length ≤ 1000000) (hok : stok (f, t, S) = false) :
    Calls Try.prog 29 #[stagg f t A n m] w (BPost (.slice none 0 0) w) := by
  have hX := Blk.new w (stc f t A n m) 25
  have hb := below_one w (.cells (stc f t A n m) 25)
  have hrcon := stright_any P f t A n m S _ (hz.below hb) hm hn hlen
  rw [hok] at hrcon
  unfold BPost at hrcon ⊢
  obtain ⟨x0, x1, x2⟩ := hX.c3
  clear hX hz hlen hok
  go_enter Try.func29, Try.ntmps29
  go_wp2_with fail
  refine hrcon.mono ?_
  rintro e w1 ⟨rfl, hb1⟩
  replace hb := hb.trans (hb1.mono hb.size)
  clear hrcon hb1 x0 x1 x2
  go_wp2
  go_ret
  exact ⟨rfl, hb⟩
end Go.Proofs.Ytpoicagalmhfdaa.Cur

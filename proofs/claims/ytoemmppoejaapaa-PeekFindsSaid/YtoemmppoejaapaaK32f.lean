/- As the seat's text, without what nothing here names. -/
import Derived.Test.YtoemmppoejaapaaK6f
import Derived.BigRegion
import Derived.Deep.Cut
namespace Go.Proofs.Ytoemmppoejaapaa.Cur
open Go.RowKit Mem
set_option linter.unusedVariables false
def bel (b : Int) (l : List Int) (k : Nat) : Int := (b :: l).getD k 0
theorem bel_bd {b : Int} {l : List Int} {k : Nat} (h0 : 0 ≤ b) (h1 : b < 18446744073709551616) (hb : ∀ x ∈ l, 0 ≤ x ∧ x < 18446744073709551616) (hk : k ≤ l.length) : 0 ≤ bel b l k ∧ bel b l k < 18446744073709551616 := by
  cases k with
  | zero => exact ⟨h0, h1⟩
  | succ k => exact hb _ (getD_mem (by omega))
def flb : Int → List Int → Bool
  | _, [] => true
  | b, x :: l => decide (x < b) && flb x l
theorem flb_iff : ∀ (l : List Int) (b : Int), flb b l = true ↔ ∀ k, k < l.length → l.getD k 0 < bel b l k
  | [], b => by simp [flb]
  | x :: l, b => by
    rw [flb, Bool.and_eq_true, flb_iff l x, decide_eq_true_eq]
    constructor
    · rintro ⟨h1, h2⟩ k hk
      cases k with
      | zero => exact h1
      | succ k => exact h2 k (by simpa using hk)
    · intro h
      exact ⟨h 0 (by simp), fun k hk => h (k + 1) (by simpa using hk)⟩
theorem flb_no {b : Int} {l : List Int} {k : Nat} (hk : k < l.length) (h : ¬ l.getD k 0 < bel b l k) : flb b l = false := by
  cases e : flb b l with
  | false => rfl
  | true => exact absurd ((flb_iff l b).1 e k hk) h
def dgo (z : List Int) : Nat → Int → Int → List Int → Rs (List Int)
  | 0, p, _, acc => (acc, p, 0, 0)
  | k + 1, p, b, acc => (vg z p).bind [] fun x p1 => if b ≤ x then ([], 0, 13, p) else dgo z k p1 (b - x - 1) (acc ++ [b - x - 1])
def dl (z : List Int) (mo b p : Int) : Rs (List Int) := (vm z mo p).bind [] fun x p1 => dgo z x.toNat p1 b []
end Go.Proofs.Ytoemmppoejaapaa.Cur
namespace Go.Proofs.Ytoemmppoejaapaa.Cur
open Go.RowKit Mem
set_option linter.unusedVariables false
theorem ownu_of_blk {w : World} {g B : Nat} {z : List Int} (h : Blk w g (uv z).toArray 22) (hB : B ≤ g) (hm : z.length ≤ 1000000) : OwnU w B (.slice (some ⟨g, 0, none⟩) z.length z.length) z :=
  ⟨by simp, .inr ⟨g, z.length, _, rfl, hB, h, Nat.le_refl _, by simp only [maxLen]; omega, by simp, by rw [Nat.mul_one]; exact List.take_of_length_le (by simp)⟩⟩
set_option maxHeartbeats 1000000 in
theorem dfalls_any (A : Option Addr) (n m : Nat) (b : Int) (z : List Int) (w : World) (hz : Us w A n z) (hn : n ≤ 1000000) (hby : ∀ x ∈ z, 0 ≤ x ∧ x < 18446744073709551616) (b0 : 0 ≤ b) (b1 : b < 18446744073709551616) :
    Calls Try.prog 87 #[.int .u64 b, .slice A n m] w (BPost (.bool (flb b z)) w) := by
  unfold BPost
  have HB := Lib.hid hby
  have HL := Lib.hid hz.1
  have HU := Lib.hid hz
  have HE := Lib.hid (And.intro b0 b1)
  clear hby hz b0 b1
  go_enter Try.func87, Try.ntmps87
  go_wp2
  go_loopw [0, 8] (fun v i wr => ∃ k : Nat, k ≤ n ∧ i = .int .i64 k ∧ v = .int .u64 (bel b z k) ∧ Hid (∀ j, j < k → z.getD j 0 < bel b z j) ∧ Below w.heap.size w wr) (fun _ i _ => n - (intOf i).toNat)
  case atStart => exact ⟨0, by omega, rfl, rfl, Lib.hid (by intro j hj; omega), Below.refl _ _⟩
  case round =>
    obtain ⟨k, hk, rfl, rfl, hj, hb⟩ := hrel
    by_cases hlt : k < n
    · have hx := HB.out _ (getD_mem (z := z) (k := k) (by rw [HL.out]; exact hlt))
      have hy := bel_bd (k := k) HE.out.1 HE.out.2 HB.out (by rw [HL.out]; omega)
      obtain ⟨g, o, rfl, hc⟩ := (HU.out.below hb).at_ hlt
      have HS := Lib.hid (show bel b z (k + 1) = z.getD k 0 from rfl)
      obtain ⟨x, hxe⟩ : ∃ x, x = z.getD k 0 := ⟨_, rfl⟩
      obtain ⟨y, hye⟩ : ∃ y, y = bel b z k := ⟨_, rfl⟩
      rw [← hxe] at hx hc HS
      rw [← hye] at hy ⊢
      have HX := Lib.hid hxe
      have HY := Lib.hid hye
      clear hxe hye
      have e3 : IntKind.i64.wrap ((k : Int) + 1) = ((k + 1 : Nat) : Int) := IntWalk.i64_in _ (by omega)
      by_cases hle : x < y
      · go_wp2
        go_roundw
        case rel => exact ⟨k + 1, hlt, by go_num, by rw [HS.out], Lib.hid (fun j hjk => by
          rcases Nat.lt_or_ge j k with h | h
          · exact hj.out j h
          · obtain rfl : j = k := by omega
            rw [← HX.out, ← HY.out]; exact hle), hb⟩
        case measure => simp [intOf]; omega
      · go_wp2
        go_ret
        exact ⟨by rw [flb_no (by rw [HL.out]; exact hlt) (by rw [← HX.out, ← HY.out]; omega)]; rfl, hb⟩
    · obtain rfl : k = n := by omega
      have HT : Hid (flb b z = true) := Lib.hid ((flb_iff z b).2 (fun j hj2 => hj.out j (by rw [← HL.out]; exact hj2)))
      go_wp2
      go_ret
      exact ⟨by rw [HT.out]; rfl, hb⟩
end Go.Proofs.Ytoemmppoejaapaa.Cur
namespace Go.Proofs.Ytoemmppoejaapaa.Cur
open Go.RowKit Mem
set_option linter.unusedVariables false
end Go.Proofs.Ytoemmppoejaapaa.Cur
namespace Go.Proofs.Ytoemmppoejaapaa.Cur
open Go.RowKit Mem
set_option linter.unusedVariables false
theorem own_addr {w : World} {B e size n m c : Nat} {A : Option Addr} {xs : List Value} (h : w.ownsRow B e size (.slice A m c) n xs) : ∀ a, A = some a → B ≤ a.block := by
  intro a ha
  subst ha
  rcases h.2 with ⟨e, _⟩ | ⟨g, cap, cur, e, hg, _⟩
  · injection e with e; cases e
  · injection e with e; injection e with e; subst e; exact hg
end Go.Proofs.Ytoemmppoejaapaa.Cur
namespace Go.Proofs.Ytoemmppoejaapaa.Cur
open Go.RowKit Mem
set_option linter.unusedVariables false
end Go.Proofs.Ytoemmppoejaapaa.Cur
namespace Go.Proofs.Ytoemmppoejaapaa.Cur
open Go.RowKit Mem
set_option linter.unusedVariables false
end Go.Proofs.Ytoemmppoejaapaa.Cur

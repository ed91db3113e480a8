/- As the seat's text, without what nothing here names. -/
import Derived.Test.YtoemmppoejaapaaK6t
import Derived.BigRegion
import Derived.Deep.Cut
namespace Go.Proofs.Ytoemmppoejaapaa.Cur
open Go.RowKit Mem
set_option linter.unusedVariables false
def bel (b : Int) (l : List Int) (k : Nat) : Int := (b :: l).getD k 0
theorem bel_zero (b : Int) (l : List Int) : bel b l 0 = b := rfl
theorem bel_bd {b : Int} {l : List Int} {k : Nat} (h0 : 0 ≤ b) (h1 : b < 18446744073709551616) (hb : ∀ x ∈ l, 0 ≤ x ∧ x < 18446744073709551616) (hk : k ≤ l.length) : 0 ≤ bel b l k ∧ bel b l k < 18446744073709551616 := by
  cases k with
  | zero => exact ⟨h0, h1⟩
  | succ k => exact hb _ (getD_mem (by omega))
def flb : Int → List Int → Bool
  | _, [] => true
  | b, x :: l => decide (x < b) && flb x l
theorem flb_iff : ∀ (l : List Int) (b : Int), flb b l = true ↔ ∀ k, k < l.length → l.getD k 0 < bel b l k
  | [], b => by simp [flb]
  | x :: l, b => by
    rw [flb, Bool.and_eq_true, flb_iff l x, decide_eq_true_eq]
    constructor
    · rintro ⟨h1, h2⟩ k hk
      cases k with
      | zero => exact h1
      | succ k => exact h2 k (by simpa using hk)
    · intro h
      exact ⟨h 0 (by simp), fun k hk => h (k + 1) (by simpa using hk)⟩
theorem flb_no {b : Int} {l : List Int} {k : Nat} (hk : k < l.length) (h : ¬ l.getD k 0 < bel b l k) : flb b l = false := by
  cases e : flb b l with
  | false => rfl
  | true => exact absurd ((flb_iff l b).1 e k hk) h
def dgo (z : List Int) : Nat → Int → Int → List Int → Rs (List Int)
  | 0, p, _, acc => (acc, p, 0, 0)
  | k + 1, p, b, acc => (vg z p).bind [] fun x p1 => if b ≤ x then ([], 0, 13, p) else dgo z k p1 (b - x - 1) (acc ++ [b - x - 1])
def dl (z : List Int) (mo b p : Int) : Rs (List Int) := (vm z mo p).bind [] fun x p1 => dgo z x.toNat p1 b []
end Go.Proofs.Ytoemmppoejaapaa.Cur
namespace Go.Proofs.Ytoemmppoejaapaa.Cur
open Go.RowKit Mem
set_option linter.unusedVariables false
theorem ownu_of_blk {w : World} {g B : Nat} {z : List Int} (h : Blk w g (uv z).toArray 22) (hB : B ≤ g) (hm : z.length ≤ 1000000) : OwnU w B (.slice (some ⟨g, 0, none⟩) z.length z.length) z :=
  ⟨by simp, .inr ⟨g, z.length, _, rfl, hB, h, Nat.le_refl _, by simp only [maxLen]; omega, by simp, by rw [Nat.mul_one]; exact List.take_of_length_le (by simp)⟩⟩
theorem Us.at2 {w : World} {g o n : Nat} {z : List Int} (h : Us w (some ⟨g, o, none⟩) n z) {k : Nat} (hk : k < n) : w.cell? ⟨g, o + k, none⟩ = some (.int .u64 (z.getD k 0)) := by
  obtain ⟨g', o', e, hc⟩ := h.at_ hk
  injection e with e
  injection e with e1 e2
  subst e1 e2
  exact hc
set_option maxHeartbeats 1000000 in
theorem dfalls_any (A : Option Addr) (n m : Nat) (b : Int) (z : List Int) (w : World) (hz : Us w A n z) (hn : n ≤ 1000000) (hby : ∀ x ∈ z, 0 ≤ x ∧ x < 18446744073709551616) (b0 : 0 ≤ b) (b1 : b < 18446744073709551616) :
    Calls Try.prog 87 #[.int .u64 b, .slice A n m] w (BPost (.bool (flb b z)) w) := by
  unfold BPost
  have HB := Lib.hid hby
  have HL := Lib.hid hz.1
  have HU := Lib.hid hz
  have HE := Lib.hid (And.intro b0 b1)
  clear hby hz b0 b1
  go_enter Try.func87, Try.ntmps87
  go_wp2
  go_loopw [0, 8] (fun v i wr => ∃ k : Nat, k ≤ n ∧ i = .int .i64 k ∧ v = .int .u64 (bel b z k) ∧ Hid (∀ j, j < k → z.getD j 0 < bel b z j) ∧ Below w.heap.size w wr) (fun _ i _ => n - (intOf i).toNat)
  case atStart => exact ⟨0, by omega, rfl, rfl, Lib.hid (by intro j hj; omega), Below.refl _ _⟩
  case round =>
    obtain ⟨k, hk, rfl, rfl, hj, hb⟩ := hrel
    by_cases hlt : k < n
    · have hx := HB.out _ (getD_mem (z := z) (k := k) (by rw [HL.out]; exact hlt))
      have hy := bel_bd (k := k) HE.out.1 HE.out.2 HB.out (by rw [HL.out]; omega)
      obtain ⟨g, o, rfl, hc⟩ := (HU.out.below hb).at_ hlt
      have HS := Lib.hid (show bel b z (k + 1) = z.getD k 0 from rfl)
      obtain ⟨x, hxe⟩ : ∃ x, x = z.getD k 0 := ⟨_, rfl⟩
      obtain ⟨y, hye⟩ : ∃ y, y = bel b z k := ⟨_, rfl⟩
      rw [← hxe] at hx hc HS
      rw [← hye] at hy ⊢
      have HX := Lib.hid hxe
      have HY := Lib.hid hye
      clear hxe hye
      have e3 : IntKind.i64.wrap ((k : Int) + 1) = ((k + 1 : Nat) : Int) := IntWalk.i64_in _ (by omega)
      by_cases hle : x < y
      · go_wp2
        go_roundw
        case rel => exact ⟨k + 1, hlt, by go_num, by rw [HS.out], Lib.hid (fun j hjk => by
          rcases Nat.lt_or_ge j k with h | h
          · exact hj.out j h
          · obtain rfl : j = k := by omega
            rw [← HX.out, ← HY.out]; exact hle), hb⟩
        case measure => simp [intOf]; omega
      · go_wp2
        go_ret
        exact ⟨by rw [flb_no (by rw [HL.out]; exact hlt) (by rw [← HX.out, ← HY.out]; omega)]; rfl, hb⟩
    · obtain rfl : k = n := by omega
      have HT : Hid (flb b z = true) := Lib.hid ((flb_iff z b).2 (fun j hj2 => hj.out j (by rw [← HL.out]; exact hj2)))
      go_wp2
      go_ret
      exact ⟨by rw [HT.out]; rfl, hb⟩
set_option maxHeartbeats 2000000 in
theorem rdfalls_any (A : Option Addr) (n m : Nat) (b : Int) (z : List Int) (w : World) (hz : Us w A n z) (hn : n ≤ 1000000) (hby : ∀ x ∈ z, 0 ≤ x ∧ x < 18446744073709551616) (b0 : 0 ≤ b) (b1 : b < 18446744073709551616) :
    Calls Try.prog 89 #[.int .u64 b, .slice A n m] w (BPost (.bool (flb b z)) w) := by
  unfold BPost
  have HB := Lib.hid hby
  have HL := Lib.hid hz.1
  have HU := Lib.hid hz
  clear hby hz
  go_enter Try.func89, Try.ntmps89
  go_wp2
  go_loopw [5] (fun i wr => ∃ k : Nat, k ≤ n ∧ i = .int .i64 k ∧ Hid (∀ j, j < k → z.getD j 0 < bel b z j) ∧ Below w.heap.size w wr) (fun i _ => n - (intOf i).toNat)
  case atStart => exact ⟨0, by omega, rfl, Lib.hid (by intro j hj; omega), Below.refl _ _⟩
  case round =>
    obtain ⟨k, hk, rfl, hj, hb⟩ := hrel
    by_cases hlt : k < n
    · have hx := HB.out _ (getD_mem (z := z) (k := k) (by rw [HL.out]; exact hlt))
      have hS : Below w.heap.size w wr.drew := hb.trans ⟨rfl, rfl, rfl, Nat.le_refl _, fun _ _ => rfl⟩
      cases k with
      | zero =>
        obtain ⟨g, o, rfl, _⟩ := (HU.out.below hb).at_ hlt
        have hc : ∀ w', Below w.heap.size w w' → w'.cell? ⟨g, o + 0, none⟩ = some (.int .u64 (z.getD 0 0)) := fun w' h => (HU.out.below h).at2 hlt
        simp only [Nat.add_zero] at hc
        obtain ⟨x, hxe⟩ : ∃ x, x = z.getD 0 0 := ⟨_, rfl⟩
        rw [← hxe] at hx
        simp only [← hxe] at hc
        have HX := Lib.hid hxe
        clear hxe
        rw [show ((0 : Nat) : Int) = 0 from rfl]
        by_cases hle : x < b
        · have d1 : decide (b ≤ x) = false := by simp; omega
          go_wp2
          refine Seq.wp_region_seq (fun w' => Below w.heap.size w w') (by kernel_rfl) (by kernel_rfl) hS ?_
          repeat (first | (refine Seq.Seq.skip (by rfl) ?_; (try simp only [Act.put, List.setIfInBounds_toArray, List.set_cons_zero, List.set_cons_succ])) | (refine Seq.Seq.det ?_ (by rfl) (fun w hS => ?_) ?_; rotate_left; ((try dsimp only at hS); go_simp; (try rw [if_pos (by omega)]); with_reducible rfl); (try simp only [Act.put, List.setIfInBounds_toArray, List.set_cons_zero, List.set_cons_succ])))
          refine Seq.Seq.nil ?_
          go_wp2
          go_roundw
          case rel => exact ⟨1, hlt, rfl, Lib.hid (fun j hjk => by
            obtain rfl : j = 0 := by omega
            rw [← HX.out]; exact hle), hS⟩
          case measure => simp [intOf]; omega
        · have d1 : decide (b ≤ x) = true := by simp; omega
          go_wp2
          refine Seq.wp_region_seq (fun w' => Below w.heap.size w w') (by kernel_rfl) (by kernel_rfl) hS ?_
          repeat (first | (refine Seq.Seq.skip (by rfl) ?_; (try simp only [Act.put, List.setIfInBounds_toArray, List.set_cons_zero, List.set_cons_succ])) | (refine Seq.Seq.det ?_ (by rfl) (fun w hS => ?_) ?_; rotate_left; ((try dsimp only at hS); go_simp; (try rw [if_pos (by omega)]); with_reducible rfl); (try simp only [Act.put, List.setIfInBounds_toArray, List.set_cons_zero, List.set_cons_succ])))
          refine Seq.Seq.nil ?_
          go_wp2
          go_ret
          exact ⟨by rw [flb_no (k := 0) (by rw [HL.out]; exact hlt) (by rw [← HX.out, bel_zero]; omega)]; rfl, hS⟩
      | succ k =>
        have hy := HB.out _ (getD_mem (z := z) (k := k) (by rw [HL.out]; omega))
        obtain ⟨g, o, rfl, _⟩ := (HU.out.below hb).at_ hlt
        have hc : ∀ w', Below w.heap.size w w' → w'.cell? ⟨g, o + (k + 1), none⟩ = some (.int .u64 (z.getD (k + 1) 0)) := fun w' h => (HU.out.below h).at2 hlt
        have hc' : ∀ w', Below w.heap.size w w' → w'.cell? ⟨g, o + k, none⟩ = some (.int .u64 (z.getD k 0)) := fun w' h => (HU.out.below h).at2 (show k < n by omega)
        obtain ⟨x, hxe⟩ : ∃ x, x = z.getD (k + 1) 0 := ⟨_, rfl⟩
        obtain ⟨y, hye⟩ : ∃ y, y = z.getD k 0 := ⟨_, rfl⟩
        rw [← hxe] at hx
        rw [← hye] at hy
        simp only [← hxe] at hc
        simp only [← hye] at hc'
        have HX := Lib.hid hxe
        have HY := Lib.hid (show y = bel b z (k + 1) from hye)
        clear hxe hye
        have e1 : ((k + 1 : Nat) : Int) = (k : Int) + 1 := by omega
        rw [e1]
        clear e1
        have e2 : (k : Int) + 1 < n := by omega
        have e3 : (0 : Int) ≤ k := by omega
        have e4 : IntKind.i64.wrap ((k : Int) + 1 - 1) = (k : Int) := by rw [show (k : Int) + 1 - 1 = k by omega]; exact IntWalk.i64_in _ (by omega)
        have e5 : (k : Int) < n := by omega
        have e6 : ((k : Int) + 1).toNat = k + 1 := by omega
        have e7 : ((k : Int) + 1 == 0) = false := by simp; omega
        have e9 : (0 : Int) ≤ (k : Int) + 1 := by omega
        have e10 : IntKind.i64.wrap (k : Int) = (k : Int) := IntWalk.i64_in _ (by omega)
        have e11 : (0 : Int) < (k : Int) + 1 := by omega
        by_cases hle : x < y
        · have d1 : decide (y ≤ x) = false := by simp; omega
          go_wp2
          refine Seq.wp_region_seq (fun w' => Below w.heap.size w w') (by kernel_rfl) (by kernel_rfl) hS ?_
          repeat (first | (refine Seq.Seq.skip (by rfl) ?_; (try simp only [Act.put, List.setIfInBounds_toArray, List.set_cons_zero, List.set_cons_succ])) | (refine Seq.Seq.det ?_ (by rfl) (fun w hS => ?_) ?_; rotate_left; ((try dsimp only at hS); go_simp; (try rw [if_pos (by omega)]); with_reducible rfl); (try simp only [Act.put, List.setIfInBounds_toArray, List.set_cons_zero, List.set_cons_succ])))
          refine Seq.Seq.nil ?_
          go_wp2
          go_roundw
          case rel => exact ⟨k + 1 + 1, hlt, by go_num, Lib.hid (fun j hjk => by
            rcases Nat.lt_or_ge j (k + 1) with h | h
            · exact hj.out j h
            · obtain rfl : j = k + 1 := by omega
              rw [← HX.out, ← HY.out]; exact hle), hS⟩
          case measure => simp [intOf]; omega
        · have d1 : decide (y ≤ x) = true := by simp; omega
          go_wp2
          refine Seq.wp_region_seq (fun w' => Below w.heap.size w w') (by kernel_rfl) (by kernel_rfl) hS ?_
          repeat (first | (refine Seq.Seq.skip (by rfl) ?_; (try simp only [Act.put, List.setIfInBounds_toArray, List.set_cons_zero, List.set_cons_succ])) | (refine Seq.Seq.det ?_ (by rfl) (fun w hS => ?_) ?_; rotate_left; ((try dsimp only at hS); go_simp; (try rw [if_pos (by omega)]); with_reducible rfl); (try simp only [Act.put, List.setIfInBounds_toArray, List.set_cons_zero, List.set_cons_succ])))
          refine Seq.Seq.nil ?_
          go_wp2
          go_ret
          exact ⟨by rw [flb_no (by rw [HL.out]; exact hlt) (by rw [← HX.out, ← HY.out]; omega)]; rfl, hS⟩
    · obtain rfl : k = n := by omega
      have HT : Hid (flb b z = true) := Lib.hid ((flb_iff z b).2 (fun j hj2 => hj.out j (by rw [← HL.out]; exact hj2)))
      go_wp2
      go_ret
      exact ⟨by rw [HT.out]; rfl, hb⟩
end Go.Proofs.Ytoemmppoejaapaa.Cur
namespace Go.Proofs.Ytoemmppoejaapaa.Cur
open Go.RowKit Mem
set_option linter.unusedVariables false
end Go.Proofs.Ytoemmppoejaapaa.Cur
namespace Go.Proofs.Ytoemmppoejaapaa.Cur
open Go.RowKit Mem
set_option linter.unusedVariables false
theorem own_addr {w : World} {B e size n m c : Nat} {A : Option Addr} {xs : List Value} (h : w.ownsRow B e size (.slice A m c) n xs) : ∀ a, A = some a → B ≤ a.block := by
  intro a ha
  subst ha
  rcases h.2 with ⟨e, _⟩ | ⟨g, cap, cur, e, hg, _⟩
  · injection e with e; cases e
  · injection e with e; injection e with e; subst e; exact hg
end Go.Proofs.Ytoemmppoejaapaa.Cur
namespace Go.Proofs.Ytoemmppoejaapaa.Cur
open Go.RowKit Mem
set_option linter.unusedVariables false
def db (z : List Int) (b p : Int) : Rs Int := (vg z p).bind 0 fun x p1 => if b ≤ x then (0, 0, 13, p) else (b - x - 1, p1, 0, 0)
end Go.Proofs.Ytoemmppoejaapaa.Cur
namespace Go.Proofs.Ytoemmppoejaapaa.Cur
open Go.RowKit Mem
set_option linter.unusedVariables false
end Go.Proofs.Ytoemmppoejaapaa.Cur

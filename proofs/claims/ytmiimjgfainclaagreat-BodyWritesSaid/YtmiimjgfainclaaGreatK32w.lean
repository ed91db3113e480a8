/- As the seat's text, without what nothing here names. -/
import Derived.Test.YtmiimjgfainclaaGreatK6w
import Derived.BigRegion
import Derived.Deep.Cut
namespace Go.Proofs.YtmiimjgfainclaaGreat.Cur
open Go.RowKit Mem
set_option linter.unusedVariables false
def bel (b : Int) (l : List Int) (k : Nat) : Int := (b :: l).getD k 0
theorem bel_zero (b : Int) (l : List Int) : bel b l 0 = b := rfl
theorem bel_succ (b : Int) (l : List Int) (k : Nat) : bel b l (k + 1) = l.getD k 0 := rfl
theorem bel_bd {b : Int} {l : List Int} {k : Nat} (h0 : 0 ≤ b) (h1 : b < 18446744073709551616) (hb : ∀ x ∈ l, 0 ≤ x ∧ x < 18446744073709551616) (hk : k ≤ l.length) : 0 ≤ bel b l k ∧ bel b l k < 18446744073709551616 := by
  cases k with
  | zero => exact ⟨h0, h1⟩
  | succ k => exact hb _ (getD_mem (by omega))
def flb : Int → List Int → Bool
  | _, [] => true
  | b, x :: l => decide (x < b) && flb x l
theorem flb_iff : ∀ (l : List Int) (b : Int), flb b l = true ↔ ∀ k, k < l.length → l.getD k 0 < bel b l k
  | [], b => by simp [flb]
  | x :: l, b => by
    rw [flb, Bool.and_eq_true, flb_iff l x, decide_eq_true_eq]
    constructor
    · rintro ⟨h1, h2⟩ k hk
      cases k with
      | zero => exact h1
      | succ k => exact h2 k (by simpa using hk)
    · intro h
      exact ⟨h 0 (by simp), fun k hk => h (k + 1) (by simpa using hk)⟩
theorem flb_no {b : Int} {l : List Int} {k : Nat} (hk : k < l.length) (h : ¬ l.getD k 0 < bel b l k) : flb b l = false := by
  cases e : flb b l with
  | false => rfl
  | true => exact absurd ((flb_iff l b).1 e k hk) h
def dif : Int → List Int → List Int
  | _, [] => []
  | b, x :: l => (b - x - 1) :: dif x l
theorem dif_len : ∀ (l : List Int) (b : Int), (dif b l).length = l.length
  | [], _ => rfl
  | x :: l, b => by rw [dif, List.length_cons, dif_len l x, List.length_cons]
theorem dif_getD : ∀ (l : List Int) (b : Int) (k : Nat), k < l.length → (dif b l).getD k 0 = bel b l k - l.getD k 0 - 1
  | x :: l, b, 0, _ => rfl
  | x :: l, b, k + 1, h => dif_getD l x k (by simpa using h)
theorem dif_bd : ∀ (l : List Int) (b : Int), flb b l = true → b < 18446744073709551616 → (∀ x ∈ l, 0 ≤ x) → ∀ x ∈ dif b l, 0 ≤ x ∧ x < 18446744073709551616
  | [], _, _, _, _ => by simp [dif]
  | x :: l, b, h, hb, h0 => by
    rw [flb, Bool.and_eq_true, decide_eq_true_eq] at h
    have hx := h0 x (List.mem_cons_self ..)
    intro y hy
    rw [dif, List.mem_cons] at hy
    rcases hy with rfl | hy
    · omega
    · exact dif_bd l x h.2 (by omega) (fun y hy => h0 y (List.mem_cons_of_mem _ hy)) y hy
def dgo (z : List Int) : Nat → Int → Int → List Int → Rs (List Int)
  | 0, p, _, acc => (acc, p, 0, 0)
  | k + 1, p, b, acc => (vg z p).bind [] fun x p1 => if b ≤ x then ([], 0, 13, p) else dgo z k p1 (b - x - 1) (acc ++ [b - x - 1])
def dl (z : List Int) (mo b p : Int) : Rs (List Int) := (vm z mo p).bind [] fun x p1 => dgo z x.toNat p1 b []
end Go.Proofs.YtmiimjgfainclaaGreat.Cur
namespace Go.Proofs.YtmiimjgfainclaaGreat.Cur
open Go.RowKit Mem
set_option linter.unusedVariables false
def rowz (L : List Int) (n k : Nat) : List Value := uv (L.take k) ++ List.replicate (n - k) (.int .u64 0)
theorem rowz_made (L : List Int) (n : Nat) : madeCells #[.int .u64 0] n = (rowz L n 0).toArray := by
  unfold madeCells rowz
  apply Array.ext
  · simp
  · intro i h1 h2
    simp [Nat.mod_one]
theorem rowz_at {L : List Int} {n k : Nat} (hl : L.length = n) (hk : k < n) : (rowz L n k).toArray[k]? = some (.int .u64 0) := by
  have e : (uv (L.take k)).length = k := by rw [List.length_map, List.length_take]; omega
  rw [List.getElem?_toArray]
  unfold rowz
  rw [List.getElem?_append_right (by omega), e, Nat.sub_self, List.getElem?_replicate]
  rw [if_pos (by omega)]
theorem rowz_set {L : List Int} {n k : Nat} (hl : L.length = n) (hk : k < n) : (rowz L n k).toArray.setIfInBounds k (.int .u64 (L.getD k 0)) = (rowz L n (k + 1)).toArray := by
  have e : (uv (L.take k)).length = k := by rw [List.length_map, List.length_take]; omega
  rw [List.setIfInBounds_toArray]
  congr 1
  unfold rowz
  rw [List.set_append_right _ _ (by omega), e, Nat.sub_self, show n - k = (n - (k + 1)) + 1 by omega, List.replicate_succ, List.set_cons_zero, List.take_succ_eq_append_getElem (by omega : k < L.length), uv, uv, List.map_append, List.append_assoc]
  congr 1
  simp [List.getD_eq_getElem?_getD, List.getElem?_eq_getElem (by omega : k < L.length)]
theorem rowz_end {L : List Int} {n : Nat} (hl : L.length = n) : rowz L n n = uv L := by
  unfold rowz; rw [Nat.sub_self, ← hl, List.take_length]; simp
theorem ownu_of_blk {w : World} {g B : Nat} {z : List Int} (h : Blk w g (uv z).toArray 22) (hB : B ≤ g) (hm : z.length ≤ 1000000) : OwnU w B (.slice (some ⟨g, 0, none⟩) z.length z.length) z :=
  ⟨by simp, .inr ⟨g, z.length, _, rfl, hB, h, Nat.le_refl _, by simp only [maxLen]; omega, by simp, by rw [Nat.mul_one]; exact List.take_of_length_le (by simp)⟩⟩
theorem Us.at2 {w : World} {g o n : Nat} {z : List Int} (h : Us w (some ⟨g, o, none⟩) n z) {k : Nat} (hk : k < n) : w.cell? ⟨g, o + k, none⟩ = some (.int .u64 (z.getD k 0)) := by
  obtain ⟨g', o', e, hc⟩ := h.at_ hk
  injection e with e
  injection e with e1 e2
  subst e1 e2
  exact hc
set_option maxHeartbeats 1000000 in
theorem dfalls_any (A : Option Addr) (n m : Nat) (b : Int) (z : List Int) (w : World) (hz : Us w A n z) (hn : n ≤ 1000000) (hby : ∀ x ∈ z, 0 ≤ x ∧ x < 18446744073709551616) (b0 : 0 ≤ b) (b1 : b < 18446744073709551616) :
    Calls Tryz.prog 109 #[.int .u64 b, .slice A n m] w (BPost (.bool (flb b z)) w) := by
  unfold BPost
  have HB := Lib.hid hby
  have HL := Lib.hid hz.1
  have HU := Lib.hid hz
  have HE := Lib.hid (And.intro b0 b1)
  clear hby hz b0 b1
  go_enter Tryz.func109, Tryz.ntmps109
  go_wp2
  go_loopw [0, 8] (fun v i wr => ∃ k : Nat, k ≤ n ∧ i = .int .i64 k ∧ v = .int .u64 (bel b z k) ∧ Hid (∀ j, j < k → z.getD j 0 < bel b z j) ∧ Below w.heap.size w wr) (fun _ i _ => n - (intOf i).toNat)
  case atStart => exact ⟨0, by omega, rfl, rfl, Lib.hid (by intro j hj; omega), Below.refl _ _⟩
  case round =>
    obtain ⟨k, hk, rfl, rfl, hj, hb⟩ := hrel
    by_cases hlt : k < n
    · have hx := HB.out _ (getD_mem (z := z) (k := k) (by rw [HL.out]; exact hlt))
      have hy := bel_bd (k := k) HE.out.1 HE.out.2 HB.out (by rw [HL.out]; omega)
      obtain ⟨g, o, rfl, hc⟩ := (HU.out.below hb).at_ hlt
      have HS := Lib.hid (show bel b z (k + 1) = z.getD k 0 from rfl)
      obtain ⟨x, hxe⟩ : ∃ x, x = z.getD k 0 := ⟨_, rfl⟩
      obtain ⟨y, hye⟩ : ∃ y, y = bel b z k := ⟨_, rfl⟩
      rw [← hxe] at hx hc HS
      rw [← hye] at hy ⊢
      have HX := Lib.hid hxe
      have HY := Lib.hid hye
      clear hxe hye
      have e3 : IntKind.i64.wrap ((k : Int) + 1) = ((k + 1 : Nat) : Int) := IntWalk.i64_in _ (by omega)
      by_cases hle : x < y
      · go_wp2
        go_roundw
        case rel => exact ⟨k + 1, hlt, by go_num, by rw [HS.out], Lib.hid (fun j hjk => by
          rcases Nat.lt_or_ge j k with h | h
          · exact hj.out j h
          · obtain rfl : j = k := by omega
            rw [← HX.out, ← HY.out]; exact hle), hb⟩
        case measure => simp [intOf]; omega
      · go_wp2
        go_ret
        exact ⟨by rw [flb_no (by rw [HL.out]; exact hlt) (by rw [← HX.out, ← HY.out]; omega)]; rfl, hb⟩
    · obtain rfl : k = n := by omega
      have HT : Hid (flb b z = true) := Lib.hid ((flb_iff z b).2 (fun j hj2 => hj.out j (by rw [← HL.out]; exact hj2)))
      go_wp2
      go_ret
      exact ⟨by rw [HT.out]; rfl, hb⟩
set_option maxHeartbeats 2000000 in
theorem rdfalls_any (A : Option Addr) (n m : Nat) (b : Int) (z : List Int) (w : World) (hz : Us w A n z) (hn : n ≤ 1000000) (hby : ∀ x ∈ z, 0 ≤ x ∧ x < 18446744073709551616) (b0 : 0 ≤ b) (b1 : b < 18446744073709551616) :
    Calls Tryz.prog 117 #[.int .u64 b, .slice A n m] w (BPost (.bool (flb b z)) w) := by
  unfold BPost
  have HB := Lib.hid hby
  have HL := Lib.hid hz.1
  have HU := Lib.hid hz
  clear hby hz
  go_enter Tryz.func117, Tryz.ntmps117
  go_wp2
  go_loopw [5] (fun i wr => ∃ k : Nat, k ≤ n ∧ i = .int .i64 k ∧ Hid (∀ j, j < k → z.getD j 0 < bel b z j) ∧ Below w.heap.size w wr) (fun i _ => n - (intOf i).toNat)
  case atStart => exact ⟨0, by omega, rfl, Lib.hid (by intro j hj; omega), Below.refl _ _⟩
  case round =>
    obtain ⟨k, hk, rfl, hj, hb⟩ := hrel
    by_cases hlt : k < n
    · have hx := HB.out _ (getD_mem (z := z) (k := k) (by rw [HL.out]; exact hlt))
      have hS : Below w.heap.size w wr.drew := hb.trans ⟨rfl, rfl, rfl, Nat.le_refl _, fun _ _ => rfl⟩
      cases k with
      | zero =>
        obtain ⟨g, o, rfl, _⟩ := (HU.out.below hb).at_ hlt
        have hc : ∀ w', Below w.heap.size w w' → w'.cell? ⟨g, o + 0, none⟩ = some (.int .u64 (z.getD 0 0)) := fun w' h => (HU.out.below h).at2 hlt
        simp only [Nat.add_zero] at hc
        obtain ⟨x, hxe⟩ : ∃ x, x = z.getD 0 0 := ⟨_, rfl⟩
        rw [← hxe] at hx
        simp only [← hxe] at hc
        have HX := Lib.hid hxe
        clear hxe
        rw [show ((0 : Nat) : Int) = 0 from rfl]
        by_cases hle : x < b
        · have d1 : decide (b ≤ x) = false := by simp; omega
          go_wp2
          refine Seq.wp_region_seq (fun w' => Below w.heap.size w w') (by kernel_rfl) (by kernel_rfl) hS ?_
          repeat (first | (refine Seq.Seq.skip (by rfl) ?_; (try simp only [Act.put, List.setIfInBounds_toArray, List.set_cons_zero, List.set_cons_succ])) | (refine Seq.Seq.det ?_ (by rfl) (fun w hS => ?_) ?_; rotate_left; ((try dsimp only at hS); go_simp; (try rw [if_pos (by omega)]); with_reducible rfl); (try simp only [Act.put, List.setIfInBounds_toArray, List.set_cons_zero, List.set_cons_succ])))
          refine Seq.Seq.nil ?_
          go_wp2
          go_roundw
          case rel => exact ⟨1, hlt, rfl, Lib.hid (fun j hjk => by
            obtain rfl : j = 0 := by omega
            rw [← HX.out]; exact hle), hS⟩
          case measure => simp [intOf]; omega
        · have d1 : decide (b ≤ x) = true := by simp; omega
          go_wp2
          refine Seq.wp_region_seq (fun w' => Below w.heap.size w w') (by kernel_rfl) (by kernel_rfl) hS ?_
          repeat (first | (refine Seq.Seq.skip (by rfl) ?_; (try simp only [Act.put, List.setIfInBounds_toArray, List.set_cons_zero, List.set_cons_succ])) | (refine Seq.Seq.det ?_ (by rfl) (fun w hS => ?_) ?_; rotate_left; ((try dsimp only at hS); go_simp; (try rw [if_pos (by omega)]); with_reducible rfl); (try simp only [Act.put, List.setIfInBounds_toArray, List.set_cons_zero, List.set_cons_succ])))
          refine Seq.Seq.nil ?_
          go_wp2
          go_ret
          exact ⟨by rw [flb_no (k := 0) (by rw [HL.out]; exact hlt) (by rw [← HX.out, bel_zero]; omega)]; rfl, hS⟩
      | succ k =>
        have hy := HB.out _ (getD_mem (z := z) (k := k) (by rw [HL.out]; omega))
        obtain ⟨g, o, rfl, _⟩ := (HU.out.below hb).at_ hlt
        have hc : ∀ w', Below w.heap.size w w' → w'.cell? ⟨g, o + (k + 1), none⟩ = some (.int .u64 (z.getD (k + 1) 0)) := fun w' h => (HU.out.below h).at2 hlt
        have hc' : ∀ w', Below w.heap.size w w' → w'.cell? ⟨g, o + k, none⟩ = some (.int .u64 (z.getD k 0)) := fun w' h => (HU.out.below h).at2 (show k < n by omega)
        obtain ⟨x, hxe⟩ : ∃ x, x = z.getD (k + 1) 0 := ⟨_, rfl⟩
        obtain ⟨y, hye⟩ : ∃ y, y = z.getD k 0 := ⟨_, rfl⟩
        rw [← hxe] at hx
        rw [← hye] at hy
        simp only [← hxe] at hc
        simp only [← hye] at hc'
        have HX := Lib.hid hxe
        have HY := Lib.hid (show y = bel b z (k + 1) from hye)
        clear hxe hye
        have e1 : ((k + 1 : Nat) : Int) = (k : Int) + 1 := by omega
        rw [e1]
        clear e1
        have e2 : (k : Int) + 1 < n := by omega
        have e3 : (0 : Int) ≤ k := by omega
        have e4 : IntKind.i64.wrap ((k : Int) + 1 - 1) = (k : Int) := by rw [show (k : Int) + 1 - 1 = k by omega]; exact IntWalk.i64_in _ (by omega)
        have e5 : (k : Int) < n := by omega
        have e6 : ((k : Int) + 1).toNat = k + 1 := by omega
        have e7 : ((k : Int) + 1 == 0) = false := by simp; omega
        have e9 : (0 : Int) ≤ (k : Int) + 1 := by omega
        have e10 : IntKind.i64.wrap (k : Int) = (k : Int) := IntWalk.i64_in _ (by omega)
        have e11 : (0 : Int) < (k : Int) + 1 := by omega
        by_cases hle : x < y
        · have d1 : decide (y ≤ x) = false := by simp; omega
          go_wp2
          refine Seq.wp_region_seq (fun w' => Below w.heap.size w w') (by kernel_rfl) (by kernel_rfl) hS ?_
          repeat (first | (refine Seq.Seq.skip (by rfl) ?_; (try simp only [Act.put, List.setIfInBounds_toArray, List.set_cons_zero, List.set_cons_succ])) | (refine Seq.Seq.det ?_ (by rfl) (fun w hS => ?_) ?_; rotate_left; ((try dsimp only at hS); go_simp; (try rw [if_pos (by omega)]); with_reducible rfl); (try simp only [Act.put, List.setIfInBounds_toArray, List.set_cons_zero, List.set_cons_succ])))
          refine Seq.Seq.nil ?_
          go_wp2
          go_roundw
          case rel => exact ⟨k + 1 + 1, hlt, by go_num, Lib.hid (fun j hjk => by
            rcases Nat.lt_or_ge j (k + 1) with h | h
            · exact hj.out j h
            · obtain rfl : j = k + 1 := by omega
              rw [← HX.out, ← HY.out]; exact hle), hS⟩
          case measure => simp [intOf]; omega
        · have d1 : decide (y ≤ x) = true := by simp; omega
          go_wp2
          refine Seq.wp_region_seq (fun w' => Below w.heap.size w w') (by kernel_rfl) (by kernel_rfl) hS ?_
          repeat (first | (refine Seq.Seq.skip (by rfl) ?_; (try simp only [Act.put, List.setIfInBounds_toArray, List.set_cons_zero, List.set_cons_succ])) | (refine Seq.Seq.det ?_ (by rfl) (fun w hS => ?_) ?_; rotate_left; ((try dsimp only at hS); go_simp; (try rw [if_pos (by omega)]); with_reducible rfl); (try simp only [Act.put, List.setIfInBounds_toArray, List.set_cons_zero, List.set_cons_succ])))
          refine Seq.Seq.nil ?_
          go_wp2
          go_ret
          exact ⟨by rw [flb_no (by rw [HL.out]; exact hlt) (by rw [← HX.out, ← HY.out]; omega)]; rfl, hS⟩
    · obtain rfl : k = n := by omega
      have HT : Hid (flb b z = true) := Lib.hid ((flb_iff z b).2 (fun j hj2 => hj.out j (by rw [← HL.out]; exact hj2)))
      go_wp2
      go_ret
      exact ⟨by rw [HT.out]; rfl, hb⟩
end Go.Proofs.YtmiimjgfainclaaGreat.Cur
namespace Go.Proofs.YtmiimjgfainclaaGreat.Cur
open Go.RowKit Mem
set_option linter.unusedVariables false
theorem make_u64 (L : List Int) (n : Nat) (hn : n ≤ 1000000) (w' : World) : (Instr.makeSlice 23 (.int .i64 (n : Int)) (.int .i64 (n : Int))).run Tryz.prog w' = .ok (.slice (some ⟨w'.heap.size, 0, none⟩) n n) (w'.alloc (.cells (rowz L n 0).toArray 22)) := by
  have hinfo : (Tryz.prog.info? 22).map (fun i => (i.zero, i.size, i.bytes)) = some (some (.int .u64 0), 1, 8) := by kernel_rfl
  obtain ⟨i, h1, hzz⟩ := Option.map_eq_some_iff.1 hinfo
  simp only [Prod.mk.injEq] at hzz
  obtain ⟨h2, h3, h4⟩ := hzz
  have hr := Go.run_make (P := Tryz.prog) w' 23 22 i _ Tryz.underlying23 h1 h2 .i64 .i64 n n (by omega) (Int.le_refl _) (by rw [h4]; omega) (by omega)
  simp only [Int.toNat_natCast, h3, Nat.mul_one] at hr
  rw [hr, ← rowz_made]
  rfl
def RBPost (l : List Int) (ok : Bool) (w : World) (e : Ending) (w' : World) : Prop :=
  ∃ v, e = .returned (.tuple #[v, .bool ok]) ∧ OwnU w' w.heap.size v l ∧ Below w.heap.size w w'
def difo (b : Int) (l : List Int) : List Int := if flb b l = true then dif b l else []
theorem difo_yes {b : Int} {l : List Int} (h : flb b l = true) : difo b l = dif b l := if_pos h
theorem difo_no {b : Int} {l : List Int} (h : flb b l = false) : difo b l = [] := if_neg (by simp [h])
set_option maxHeartbeats 2000000 in
theorem steps_any (A : Option Addr) (n m : Nat) (b : Int) (z : List Int) (w : World) (hz : Us w A n z) (hn : n ≤ 1000000) (hby : ∀ x ∈ z, 0 ≤ x ∧ x < 18446744073709551616) (b0 : 0 ≤ b) (b1 : b < 18446744073709551616) :
    Calls Tryz.prog 161 #[.int .u64 b, .slice A n m] w (RBPost (difo b z) (flb b z) w) := by
  have HFA := dfalls_any A n m b z w hz hn hby b0 b1
  cases hf : flb b z with
  | false =>
    rw [difo_no hf]
    rw [hf] at HFA
    clear hf
    go_enter Tryz.func161, Tryz.ntmps161
    go_wp2_with fail
    refine HFA.mono ?_
    rintro e w1 ⟨rfl, hb⟩
    go_wp2
    go_ret2
    exact ⟨_, rfl, OwnU.nil _ _, hb⟩
  | true =>
    have HF := Lib.hid ((flb_iff z b).1 hf)
    rw [difo_yes hf]
    rw [hf] at HFA
    have HB := Lib.hid hby
    have HL := Lib.hid hz.1
    have HU := Lib.hid hz
    have HE := Lib.hid (And.intro b0 b1)
    have HD : Hid ((dif b z).length = n) := Lib.hid (by rw [dif_len, hz.1])
    have hmk := fun w' => make_u64 (dif b z) n hn w'
    clear hby hz b0 b1 hf
    go_enter Tryz.func161, Tryz.ntmps161
    go_wp2_with fail
    refine HFA.mono ?_
    rintro e w1 ⟨rfl, hb1⟩
    have hs1 := hb1.size
    have hbM := hb1.alloc hs1 (.cells (rowz (dif b z) n 0).toArray 22)
    have hR0 := Blk.new w1 (rowz (dif b z) n 0).toArray 22
    clear HFA hb1
    go_wp2
    clear hmk
    generalize w1.alloc (.cells (rowz (dif b z) n 0).toArray 22) = w2 at *
    generalize w1.heap.size = g at *
    go_loopw [0, 17] (fun v i wr => ∃ k : Nat, k ≤ n ∧ i = .int .i64 k ∧ v = .int .u64 (bel b z k) ∧ Blk wr g (rowz (dif b z) n k).toArray 22 ∧ Below w.heap.size w wr) (fun _ i _ => n - (intOf i).toNat)
    case atStart => exact ⟨0, by omega, rfl, rfl, hR0, hbM⟩
    case round =>
      clear hR0 hbM
      obtain ⟨k, hk, rfl, rfl, hR, hb⟩ := hrel
      by_cases hlt : k < n
      · have hx := HB.out _ (getD_mem (z := z) (k := k) (by rw [HL.out]; exact hlt))
        have hy := bel_bd (k := k) HE.out.1 HE.out.2 HB.out (by rw [HL.out]; omega)
        have hxy := HF.out k (by rw [HL.out]; exact hlt)
        have hst := dif_getD z b k (by rw [HL.out]; exact hlt)
        have u0 := hR.free k
        have v0 := hR.cell k (rowz_at HD.out hlt)
        have hR2 := hR.set k (.int .u64 ((dif b z).getD k 0))
        rw [rowz_set HD.out hlt] at hR2
        have hb2 := hb.setCell (p := ⟨g, k, none⟩) hs1 (.int .u64 ((dif b z).getD k 0))
        have hU := HU.out.below hb
        have hU2 := HU.out.below hb2
        have HS := Lib.hid (show bel b z (k + 1) = z.getD k 0 from rfl)
        obtain ⟨ga, oa, rfl, hc⟩ := hU.at_ hlt
        have hc2 := hU2.at2 hlt
        rw [hst] at hR2 hb2 hc2
        obtain ⟨x, hxe⟩ : ∃ x, x = z.getD k 0 := ⟨_, rfl⟩
        obtain ⟨y, hye⟩ : ∃ y, y = bel b z k := ⟨_, rfl⟩
        rw [← hxe] at hx hc HS hR2 hb2 hc2 hxy
        rw [← hye] at hy hR2 hb2 hc2 hxy ⊢
        clear hst hxe hye hU hU2 hR
        have e3 : IntKind.i64.wrap ((k : Int) + 1) = ((k + 1 : Nat) : Int) := IntWalk.i64_in _ (by omega)
        have e4 : IntKind.u64.wrap (y - x) = y - x := by rw [wrapu]; omega
        have e5 : IntKind.u64.wrap (y - x - 1) = y - x - 1 := by rw [wrapu]; omega
        go_upto_region 8 with (fail)
        generalize wr.setCell ⟨g, k, none⟩ (.int .u64 (y - x - 1)) = wr2 at *
        clear u0 v0 hc hb
        go_wp2
        go_roundw
        case rel => exact ⟨k + 1, hlt, by go_num, by rw [HS.out], hR2, hb2⟩
        case measure => simp [intOf]; omega
      · obtain rfl : k = n := by omega
        rw [rowz_end HD.out] at hR
        have ho := ownu_of_blk hR hs1 (by rw [HD.out]; omega)
        rw [HD.out] at ho
        clear hR
        go_wp2
        go_ret2
        exact ⟨_, rfl, ho, hb⟩
set_option maxRecDepth 100000 in
set_option maxHeartbeats 2000000 in
theorem rdsteps_any (A : Option Addr) (n m : Nat) (b : Int) (z : List Int) (w : World) (hz : Us w A n z) (hn : n ≤ 100000) (hby : ∀ x ∈ z, 0 ≤ x ∧ x < 18446744073709551616) (b0 : 0 ≤ b) (b1 : b < 18446744073709551616) (hf : flb b z = true) :
    Calls Tryz.prog 173 #[.int .u64 b, .slice A n m] w (URowPost (dif b z) w) := by
  have HF := Lib.hid ((flb_iff z b).1 hf)
  have HB := Lib.hid hby
  have HL := Lib.hid hz.1
  have HU := Lib.hid hz
  have HE := Lib.hid (And.intro b0 b1)
  have HD : Hid ((dif b z).length = n) := Lib.hid (by rw [dif_len, hz.1])
  have HSN : Hid (∀ k, k < n → (dif b z).take (k + 1) = (dif b z).take k ++ [(dif b z).getD k 0]) := Lib.hid (fun k hk => by
    have h : k < (dif b z).length := by rw [HD.out]; exact hk
    rw [List.take_succ_eq_append_getElem h, List.getD_eq_getElem?_getD, List.getElem?_eq_getElem h]; rfl)
  clear hby hz hf
  go_enter Tryz.func173, Tryz.ntmps173
  go_wp2
  go_loopw [5, 6] (fun v i wr => ∃ k : Nat, k ≤ n ∧ i = .int .i64 k ∧ OwnU wr w.heap.size v ((dif b z).take k) ∧ Below w.heap.size w wr) (fun _ i _ => n - (intOf i).toNat)
  case atStart => exact ⟨0, by omega, rfl, OwnU.nil _ _, Below.refl _ _⟩
  case round =>
    obtain ⟨k, hk, rfl, ho, hb⟩ := hrel
    by_cases hlt : k < n
    · have hx := HB.out _ (getD_mem (z := z) (k := k) (by rw [HL.out]; exact hlt))
      have hy := bel_bd (k := k) HE.out.1 HE.out.2 HB.out (by rw [HL.out]; omega)
      have hxy := HF.out k (by rw [HL.out]; exact hlt)
      have hst := dif_getD z b k (by rw [HL.out]; exact hlt)
      have hsn := HSN.out k hlt
      rw [hst] at hsn
      have e3 : IntKind.i64.wrap ((k : Int) + 1) = ((k + 1 : Nat) : Int) := IntWalk.i64_in _ (by omega)
      have hbA0 := fun (x : Int) => hb.trans ((below_one wr (.cells #[.int .u64 x] 22)).mono hb.size)
      obtain ⟨ga, oa, rfl, hc⟩ := (HU.out.below hb).at_ hlt
      cases k with
      | zero =>
        rw [bel_zero] at hst hsn hxy hy
        rw [Nat.add_zero] at hc
        obtain ⟨x, hxe⟩ : ∃ x, x = z.getD 0 0 := ⟨_, rfl⟩
        rw [← hxe] at hx hc hxy hsn
        have HSX := Lib.hid hsn
        clear hst hxe hsn hy hbA0
        have e4 : IntKind.u64.wrap (b - 1) = b - 1 := by rw [wrapu]; omega
        have e5 : IntKind.u64.wrap (b - 1 - x) = b - x - 1 := by rw [wrapu]; omega
        rw [show ((0 : Nat) : Int) = 0 from rfl]
        have hbA := below_one wr (.cells #[.int .u64 (b - x - 1)] 22)
        have hoA := own_below ho hbA
        have hB9 : w.heap.size ≤ (wr.alloc (.cells #[.int .u64 (b - x - 1)] 22)).heap.size := by have := hb.size; simp; omega
        have hbdA := hb.trans (hbA.mono hb.size)
        have hrwA := rw_new wr (uv [b - x - 1]) 22
        have hgeA := own_ge hoA
        have hlen : ((dif b z).take (0)).length = (0) := by rw [List.length_take, HD.out]; omega
        have HLEN : Hid (((dif b z).take (0)).length + 1 ≤ 1000000) := Lib.hid (by omega)
        have HLE := Lib.hid hlen
        clear hlen ho hbA
        go_wp2_with (at_builtin; go_must (refine list_append_rw kindU rfl (.tmp 22) (.tmp 30) rfl w.heap.size _ _ _ rfl hoA _ 1 _ (uv [b - x - 1]) rfl rfl hrwA (by simp) (uv_one _) HLEN.out (by omega) hB9 ?_; intro v' w10 ho' hg' hgr; have hb10 := hbdA.grown hg' hB9 (fun j hj => hgeA j hj); clear hrwA hoA hbdA hgeA hb))
        go_roundw
        case rel => exact ⟨0 + 1, hlt, rfl, by rw [HSX.out]; unfold OwnU; rw [List.length_append, uv, List.map_append]; exact ho', hb10⟩
        case measure => simp [intOf]; omega
      | succ k =>
        have hc2 := (HU.out.below hb).at2 (show k < n by omega)
        rw [bel_succ] at hst hsn hxy hy
        obtain ⟨x, hxe⟩ : ∃ x, x = z.getD (k + 1) 0 := ⟨_, rfl⟩
        obtain ⟨y, hye⟩ : ∃ y, y = z.getD k 0 := ⟨_, rfl⟩
        rw [← hxe] at hx hc hxy hsn
        rw [← hye] at hy hc2 hxy hsn
        have HSX := Lib.hid hsn
        clear hst hxe hye hsn hbA0
        have e1 : ((k + 1 : Nat) : Int) = (k : Int) + 1 := by omega
        rw [e1] at e3 ⊢
        clear e1
        have e2 : (k : Int) + 1 < n := by omega
        have e6 : ((k : Int) + 1).toNat = k + 1 := by omega
        have e7 : (0 : Int) ≤ k := by omega
        have e8 : IntKind.i64.wrap ((k : Int) + 1 - 1) = (k : Int) := by rw [show (k : Int) + 1 - 1 = k by omega]; exact IntWalk.i64_in _ (by omega)
        have e9 : (0 : Int) ≤ (k : Int) + 1 := by omega
        have e10 : IntKind.i64.wrap (k : Int) = (k : Int) := IntWalk.i64_in _ (by omega)
        have e11 : (0 : Int) < (k : Int) + 1 := by omega
        have e12 : (k : Int) < n := by omega
        have e4 : IntKind.u64.wrap (y - 1) = y - 1 := by rw [wrapu]; omega
        have e5 : IntKind.u64.wrap (y - 1 - x) = y - x - 1 := by rw [wrapu]; omega
        have hbA := below_one wr (.cells #[.int .u64 (y - x - 1)] 22)
        have hoA := own_below ho hbA
        have hB9 : w.heap.size ≤ (wr.alloc (.cells #[.int .u64 (y - x - 1)] 22)).heap.size := by have := hb.size; simp; omega
        have hbdA := hb.trans (hbA.mono hb.size)
        have hrwA := rw_new wr (uv [y - x - 1]) 22
        have hgeA := own_ge hoA
        have hlen : ((dif b z).take (k + 1)).length = (k + 1) := by rw [List.length_take, HD.out]; omega
        have HLEN : Hid (((dif b z).take (k + 1)).length + 1 ≤ 1000000) := Lib.hid (by omega)
        have HLE := Lib.hid hlen
        clear hlen ho hbA
        go_wp2_with (at_builtin; go_must (refine list_append_rw kindU rfl (.tmp 22) (.tmp 30) rfl w.heap.size _ _ _ rfl hoA _ 1 _ (uv [y - x - 1]) rfl rfl hrwA (by simp) (uv_one _) HLEN.out (by omega) hB9 ?_; intro v' w10 ho' hg' hgr; have hb10 := hbdA.grown hg' hB9 (fun j hj => hgeA j hj); clear hrwA hoA hbdA hgeA hb))
        go_roundw
        case rel => exact ⟨k + 1 + 1, hlt, by go_num, by rw [HSX.out]; unfold OwnU; rw [List.length_append, uv, List.map_append]; exact ho', hb10⟩
        case measure => simp [intOf]; omega
    · obtain rfl : k = n := by omega
      obtain ⟨A3, c3, rfl⟩ := ho.slice
      have hr : (dif b z).take k = dif b z := by rw [← HD.out]; exact List.take_length
      rw [hr] at ho ⊢
      go_wp2
      go_ret
      exact ⟨_, rfl, ho, hb⟩
end Go.Proofs.YtmiimjgfainclaaGreat.Cur
namespace Go.Proofs.YtmiimjgfainclaaGreat.Cur
open Go.RowKit Mem
set_option linter.unusedVariables false
theorem own_parted {w : World} {B B' e e' size size' n m : Nat} {v u : Value} {xs ys : List Value} (h : w.ownsRow B e size v n xs) (k : w.ownsRow B' e' size' u m ys) (he : e ≠ e') : ∀ g, v.ownBlock = some g → u.ownBlock ≠ some g := by
  intro g hg hu
  rcases h.2 with ⟨rfl, _⟩ | ⟨g1, cap, cur, rfl, _, hh, _⟩
  · simp [Value.ownBlock] at hg
  · rcases k.2 with ⟨rfl, _⟩ | ⟨g2, cap2, cur2, rfl, _, hh2, _⟩
    · simp [Value.ownBlock] at hu
    · obtain rfl : g1 = g := by simpa [Value.ownBlock] using hg
      obtain rfl : g2 = g1 := by simpa [Value.ownBlock] using hu
      rw [hh] at hh2
      injection hh2 with hh2
      injection hh2 with _ hh2
      exact he hh2
theorem own_addr {w : World} {B e size n m c : Nat} {A : Option Addr} {xs : List Value} (h : w.ownsRow B e size (.slice A m c) n xs) : ∀ a, A = some a → B ≤ a.block := by
  intro a ha
  subst ha
  rcases h.2 with ⟨e, _⟩ | ⟨g, cap, cur, e, hg, _⟩
  · injection e with e; cases e
  · injection e with e; injection e with e; subst e; exact hg
set_option maxRecDepth 100000 in
set_option maxHeartbeats 2000000 in
theorem dput_yes {w : World} {B b : Nat} {r : Option Nat} {y : List Int} {M c : Int} (A : Option Addr) (n m : Nat) (bb : Int) (z : List Int) (h : Wr w B b r y M c) (hz : Us w A n z) (hn : n ≤ 10000) (hby : ∀ x ∈ z, 0 ≤ x ∧ x < 18446744073709551616) (b0 : 0 ≤ bb) (b1 : bb < 18446744073709551616) (hf : flb bb z = true)
    (hy : y.length ≤ 700000) (hBw : B ≤ w.heap.size) :
    Calls Tryz.prog 105 #[.pointer (some ⟨b, 0, none⟩), .int .u64 bb, .slice A n m] w (WPutsPost B b r y (litems (dif bb z)) M c w) := by
  have HST := steps_any A n m bb z w hz (by omega) hby b0 b1
  rw [hf, difo_yes hf] at HST
  have HB := Lib.hid (dif_bd z bb hf b1 (fun x hx => (hby x hx).1))
  have HL : Hid ((dif bb z).length = n) := Lib.hid (by rw [dif_len, hz.1])
  have hn0 : (0 : Int) ≤ n := by omega
  have hn1 : (n : Int) < 18446744073709551616 := by omega
  clear hby hz hf b0 b1
  generalize dif bb z = l at *
  go_enter Tryz.func105, Tryz.ntmps105
  go_wp2_with fail
  refine HST.mono ?_
  rintro e w1 ⟨v, rfl, ho1, hb1⟩
  obtain ⟨A1, c1, hv⟩ := ho1.slice
  rw [HL.out] at hv
  subst hv
  have HGE := Lib.hid (own_addr ho1)
  have hu1 := (OwnU.us ho1).2.2.2
  have HOFF : Hid (0 < n → ∀ a, A1 = some a → ¬ WS b r a.block) := Lib.hid (fun _ a ha => h.off (HGE.out a ha))
  have HLT : Hid (0 < n → ∀ a, A1 = some a → a.block < w1.heap.size) := Lib.hid (fun h0 => hu1.2.lt (by rw [List.length_map, HL.out]; exact h0))
  have h1 := h.below hb1
  have hk1 : Ks (WS b r) w w1 := Ks.of_below hb1
  have hBw1 : B ≤ w1.heap.size := Nat.le_trans hBw hb1.size
  clear HST ho1 h
  go_wp2_with fail
  refine (vput_any _ h1 hn0 hn1 (by omega) hBw1).mono ?_
  rintro e w2 ⟨r1, rfl, hk2, hg2, hw2⟩
  have hz2 := hu1.ks hk2 HOFF.out
  have HS1 := Lib.hid hb1.size
  have HK1 := Lib.hid hk1
  clear hn0 hn1 h1 hu1 hk1 hb1
  go_wp2
  go_loopw [26] (fun i wr => ∃ (k : Nat) (r' : Option Nat), k ≤ n ∧ i = .int .i64 k ∧ Ks (WS b r) w1 wr ∧ Gr r r' w1 ∧ Wr wr B b r' (puts (vz l.length :: (l.take k).map vz) y M c).1 M (puts (vz l.length :: (l.take k).map vz) y M c).2 ∧ Us wr A1 n l) (fun i _ => n - (intOf i).toNat)
  case atStart => exact ⟨0, r1, by omega, rfl, hk2, hg2, by rw [HL.out]; exact hw2, hz2⟩
  case round =>
    obtain ⟨k, r', hk, rfl, hks, hgr, hw, hus⟩ := hrel
    by_cases hlt : k < n
    · have hx := HB.out _ (getD_mem (z := l) (k := k) (by rw [HL.out]; exact hlt))
      have hle := puts_le (vz l.length :: (l.take k).map vz) y M c
      have hle2 := flatten_le l k (by rw [HL.out]; omega)
      have HN := Lib.hid (litems_take l k (by rw [HL.out]; exact hlt))
      have HSN := Lib.hid (puts_snoc (vz l.length :: (l.take k).map vz) (vz (l.getD k 0)) y M c)
      have HLE : Hid ((puts (vz l.length :: (l.take k).map vz) y M c).1.length ≤ 900000) := Lib.hid (by omega)
      clear hle hle2
      obtain ⟨g, o, rfl, hc⟩ := hus.at_ hlt
      generalize l.getD k 0 = x at *
      go_wp2_with fail
      refine (vput_any _ hw hx.1 hx.2 HLE.out (by have := hks.size; omega)).mono ?_
      rintro e w3 ⟨r2, rfl, hk3, hg3, hw3⟩
      have hus3 := hus.ks hk3 (off_gr HLT.out HOFF.out hgr)
      have hks3 := Ks.wr hks hgr hk3
      have hgr3 : Gr r r2 w1 := hgr.trans hg3 hks.size
      have hw4 : Wr w3 B b r2 (puts (vz l.length :: (l.take (k + 1)).map vz) y M c).1 M (puts (vz l.length :: (l.take (k + 1)).map vz) y M c).2 := by rw [HN.out, HSN.out]; exact hw3
      clear hks hk3 hw hus hg3 hgr hw3
      go_wp2
      go_roundw
      case rel => exact ⟨k + 1, r2, hlt, by go_num, hks3, hgr3, hw4, hus3⟩
      case measure => simp [intOf]; omega
    · obtain rfl : k = n := by omega
      have hrz : vz l.length :: (l.take k).map vz = litems l := by unfold litems; rw [← HL.out, List.take_length]
      rw [hrz] at hw
      go_wp2
      go_end0
      exact ⟨r', rfl, HK1.out.trans hks, (Gr.refl r w).trans hgr HS1.out, hw⟩
set_option maxRecDepth 100000 in
set_option maxHeartbeats 2000000 in
theorem rdbytes_any (A : Option Addr) (n m : Nat) (bb : Int) (z : List Int) (w : World) (hz : Us w A n z) (hn : n ≤ 10000) (hby : ∀ x ∈ z, 0 ≤ x ∧ x < 18446744073709551616) (b0 : 0 ≤ bb) (b1 : bb < 18446744073709551616) (hf : flb bb z = true) :
    Calls Tryz.prog 128 #[.int .u64 bb, .slice A n m] w (RowPost (lz (dif bb z)) w) := by
  have HST := fun w' (h : Below w.heap.size w w') => rdsteps_any A n m bb z w' (hz.below h) (by omega) hby b0 b1 hf
  have HB := Lib.hid (dif_bd z bb hf b1 (fun x hx => (hby x hx).1))
  have HL : Hid ((dif bb z).length = n) := Lib.hid (by rw [dif_len, hz.1])
  have hn0 : (0 : Int) ≤ n := by omega
  have hn1 : (n : Int) < 18446744073709551616 := by omega
  clear hby hz hf b0 b1
  generalize dif bb z = l at *
  go_enter Tryz.func128, Tryz.ntmps128
  go_wp2_with fail
  refine (rbytes_any 10 _ _ (vsz_le _) hn0 hn1).mono ?_
  rintro e w1 ⟨A1, m1, rfl, hb1, _, _, _, ho1⟩
  clear hn0 hn1
  go_wp2_with fail
  refine (HST w1 hb1).mono ?_
  rintro e w2 ⟨v2, rfl, ho2, hb2⟩
  obtain ⟨A2, c2, hv⟩ := ho2.slice
  rw [HL.out] at hv
  subst hv
  have ho1' := ho1.below hb2
  have ho2' : OwnU w2 w.heap.size _ l := own_base ho2 (fun g hg => Nat.le_trans hb1.size (own_ge ho2 g hg))
  have hb0 := hb1.trans (hb2.mono hb1.size)
  clear HST ho1 ho2 hb1 hb2
  go_wp2
  go_loopw [5, 7] (fun v i wr => ∃ k : Nat, k ≤ n ∧ i = .int .i64 k ∧ Own wr w.heap.size v (lzk l k) ∧ OwnU wr w.heap.size (.slice A2 n c2) l ∧ Below w.heap.size w wr) (fun _ i _ => n - (intOf i).toNat)
  case atStart => exact ⟨0, by omega, rfl, by rw [lzk, HL.out]; exact ho1', ho2', hb0⟩
  case round =>
    clear ho1' ho2' hb0
    obtain ⟨k, hk, rfl, ho, hu, hb⟩ := hrel
    by_cases hlt : k < n
    · have hx := HB.out _ (getD_mem (z := l) (k := k) (by rw [HL.out]; exact hlt))
      have hl := lzk_len l k
      have HLN : Hid ((lzk l k).length ≤ 200000) := Lib.hid (by omega)
      have HS : Hid (lzk l (k + 1) = lzk l k ++ vz (l.getD k 0)) := Lib.hid rfl
      have HV := Lib.hid (vz_length (l.getD k 0))
      have hv := vsz_le (l.getD k 0)
      obtain ⟨g, o, hA2, hc⟩ := ((OwnU.us hu).2.2.2).at_ (k := k) hlt
      subst hA2
      generalize l.getD k 0 = x at *
      go_wp2_with fail
      refine (rbytes_any 10 _ _ (vsz_le _) hx.1 hx.2).mono ?_
      rintro e w3 ⟨A3, m3, rfl, hb3, hbs, hnil, _⟩
      have ho3 := ho.below hb3
      have hu3 : OwnU w3 w.heap.size _ l := own_below hu hb3
      have hb4 := hb.trans (hb3.mono hb.size)
      have hB4 := hb4.size
      have hap := own_parted ho3 hu3 (by decide)
      clear hx ho hb3 hb hu
      go_wp2_with (at_builtin; go_must (refine list_append_gr rfl (.tmp 21) (.tmp 26) rfl w.heap.size _ _ rfl ho3 _ _ _ _ rfl hbs hnil (by rw [HV.out]; have := HLN.out; omega) hB4 ?_; intro v' w5 ho' hg' hgr; have hb5 := Own.belowOf hb4 hB4 ho3 hg'; have hu5 : OwnU w5 w.heap.size _ l := own_block hu3 (fun i hi => hg'.block i (World.ownsRow.lt hu3 i hi).2 (fun e => hap i e.symm hi))))
      go_roundw
      case rel => exact ⟨k + 1, hlt, by go_num, by rw [HS.out]; exact ho', hu5, hb5⟩
      case measure => simp [intOf]; omega
    · obtain rfl : k = n := by omega
      obtain ⟨A3, c3, rfl⟩ := ho.slice
      have hlz : lzk l k = lz l := by rw [lz_eq, HL.out]
      rw [hlz] at ho ⊢
      go_wp2
      go_ret
      exact Own.rowPost (B := 0) ho hb
end Go.Proofs.YtmiimjgfainclaaGreat.Cur
namespace Go.Proofs.YtmiimjgfainclaaGreat.Cur
open Go.RowKit Mem
set_option linter.unusedVariables false
def db (z : List Int) (b p : Int) : Rs Int := (vg z p).bind 0 fun x p1 => if b ≤ x then (0, 0, 13, p) else (b - x - 1, p1, 0, 0)
end Go.Proofs.YtmiimjgfainclaaGreat.Cur
namespace Go.Proofs.YtmiimjgfainclaaGreat.Cur
open Go.RowKit Mem
set_option linter.unusedVariables false
end Go.Proofs.YtmiimjgfainclaaGreat.Cur

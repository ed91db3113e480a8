/- Falling lists (package delta): Falls, the program's and the document's; Steps and List, by make and store; the document's Steps. -/
import Derived.Test.YtjcoabgcacaceaaDltM
import Derived.BigRegion
namespace Go.Proofs.Ytjcoabgcacaceaa.Cur
open Go.RowKit Mem
set_option linter.unusedVariables false


/-- A row of numbers whose first k are those of a list, the others 0. -/
def rowz (L : List Int) (n k : Nat) : List Value := uv (L.take k) ++ List.replicate (n - k) (.int .u64 0)
theorem rowz_len {L : List Int} {n k : Nat} (hl : L.length = n) (hk : k ≤ n) : (rowz L n k).length = n := by
  unfold rowz; rw [List.length_append, List.length_map, List.length_take, List.length_replicate]; omega
theorem rowz_made (L : List Int) (n : Nat) : madeCells #[.int .u64 0] n = (rowz L n 0).toArray := by
  unfold madeCells rowz
  apply Array.ext
  · simp
  · intro i h1 h2
    simp [Nat.mod_one]
theorem rowz_at {L : List Int} {n k : Nat} (hl : L.length = n) (hk : k < n) : (rowz L n k).toArray[k]? = some (.int .u64 0) := by
  have e : (uv (L.take k)).length = k := by rw [List.length_map, List.length_take]; omega
  rw [List.getElem?_toArray]
  unfold rowz
  rw [List.getElem?_append_right (by omega), e, Nat.sub_self, List.getElem?_replicate]
  rw [if_pos (by omega)]
theorem rowz_set {L : List Int} {n k : Nat} (hl : L.length = n) (hk : k < n) : (rowz L n k).toArray.setIfInBounds k (.int .u64 (L.getD k 0)) = (rowz L n (k + 1)).toArray := by
  have e : (uv (L.take k)).length = k := by rw [List.length_map, List.length_take]; omega
  rw [List.setIfInBounds_toArray]
  congr 1
  unfold rowz
  rw [List.set_append_right _ _ (by omega), e, Nat.sub_self, show n - k = (n - (k + 1)) + 1 by omega, List.replicate_succ, List.set_cons_zero, List.take_succ_eq_append_getElem (by omega : k < L.length), uv, uv, List.map_append, List.append_assoc]
  congr 1
  simp [List.getD_eq_getElem?_getD, List.getElem?_eq_getElem (by omega : k < L.length)]
theorem rowz_end {L : List Int} {n : Nat} (hl : L.length = n) : rowz L n n = uv L := by
  unfold rowz; rw [Nat.sub_self, ← hl, List.take_length]; simp
theorem ownu_of_blk {w : World} {g B : Nat} {z : List Int} (h : Blk w g (uv z).toArray 22) (hB : B ≤ g) (hm : z.length ≤ 1000000) : OwnU w B (.slice (some ⟨g, 0, none⟩) z.length z.length) z :=
  ⟨by simp, .inr ⟨g, z.length, _, rfl, hB, h, Nat.le_refl _, by simp only [maxLen]; omega, by simp, by rw [Nat.mul_one]; exact List.take_of_length_le (by simp)⟩⟩

theorem Us.at2 {w : World} {g o n : Nat} {z : List Int} (h : Us w (some ⟨g, o, none⟩) n z) {k : Nat} (hk : k < n) : w.cell? ⟨g, o + k, none⟩ = some (.int .u64 (z.getD k 0)) := by
  obtain ⟨g', o', e, hc⟩ := h.at_ hk
  injection e with e
  injection e with e1 e2
  subst e1 e2
  exact hc

set_option maxHeartbeats 1000000 in
theorem dfalls_any (A : Option Addr) (n m : Nat) (b : Int) (z : List Int) (w : World) (hz : Us w A n z) (hn : n ≤ 1000000) (hby : ∀ x ∈ z, 0 ≤ x ∧ x < 18446744073709551616) (b0 : 0 ≤ b) (b1 : b < 18446744073709551616) :
    Calls Try.prog 10 #[.int .u64 b, .slice A n m] w (BPost (.bool (flb b z)) w) := by
  unfold BPost
  have HB := Lib.hid hby
  have HL := Lib.hid hz.1
  have HU := Lib.hid hz
  have HE := Lib.hid (And.intro b0 b1)
  clear hby hz b0 b1
  go_enter Try.func10, Try.ntmps10
  go_wp2
  go_loopw [0, 8] (fun v i wr => ∃ k : Nat, k ≤ n ∧ i = .int .i64 k ∧ v = .int .u64 (bel b z k) ∧ Hid (∀ j, j < k → z.getD j 0 < bel b z j) ∧ Below w.heap.size w wr) (fun _ i _ => n - (intOf i).toNat)
  case atStart => exact ⟨0, by omega, rfl, rfl, Lib.hid (by intro j hj; omega), Below.refl _ _⟩
  case round =>
    obtain ⟨k, hk, rfl, rfl, hj, hb⟩ := hrel
    by_cases hlt : k < n
    · have hx := HB.out _ (getD_mem (z := z) (k := k) (by rw [HL.out]; exact hlt))
      have hy := bel_bd (k := k) HE.out.1 HE.out.2 HB.out (by rw [HL.out]; omega)
      obtain ⟨g, o, rfl, hc⟩ := (HU.out.below hb).at_ hlt
      have HS := Lib.hid (show bel b z (k + 1) = z.getD k 0 from rfl)
      obtain ⟨x, hxe⟩ : ∃ x, x = z.getD k 0 := ⟨_, rfl⟩
      obtain ⟨y, hye⟩ : ∃ y, y = bel b z k := ⟨_, rfl⟩
      rw [← hxe] at hx hc HS
      rw [← hye] at hy ⊢
      have HX := Lib.hid hxe
      have HY := Lib.hid hye
      clear hxe hye
      have e3 : IntKind.i64.wrap ((k : Int) + 1) = ((k + 1 : Nat) : Int) := IntWalk.i64_in _ (by omega)
      by_cases hle : x < y
      · go_wp2
        go_roundw
        case rel => exact ⟨k + 1, hlt, by go_num, by rw [HS.out], Lib.hid (fun j hjk => by
          rcases Nat.lt_or_ge j k with h | h
          · exact hj.out j h
          · obtain rfl : j = k := by omega
            rw [← HX.out, ← HY.out]; exact hle), hb⟩
        case measure => simp [intOf]; omega
      · go_wp2
        go_ret
        exact ⟨by rw [flb_no (by rw [HL.out]; exact hlt) (by rw [← HX.out, ← HY.out]; omega)]; rfl, hb⟩
    · obtain rfl : k = n := by omega
      have HT : Hid (flb b z = true) := Lib.hid ((flb_iff z b).2 (fun j hj2 => hj.out j (by rw [← HL.out]; exact hj2)))
      go_wp2
      go_ret
      exact ⟨by rw [HT.out]; rfl, hb⟩

set_option maxHeartbeats 2000000 in
theorem rdfalls_any (A : Option Addr) (n m : Nat) (b : Int) (z : List Int) (w : World) (hz : Us w A n z) (hn : n ≤ 1000000) (hby : ∀ x ∈ z, 0 ≤ x ∧ x < 18446744073709551616) (b0 : 0 ≤ b) (b1 : b < 18446744073709551616) :
    Calls Try.prog 8 #[.int .u64 b, .slice A n m] w (BPost (.bool (flb b z)) w) := by
  unfold BPost
  have HB := Lib.hid hby
  have HL := Lib.hid hz.1
  have HU := Lib.hid hz
  clear hby hz
  go_enter Try.func8, Try.ntmps8
  go_wp2
  go_loopw [5] (fun i wr => ∃ k : Nat, k ≤ n ∧ i = .int .i64 k ∧ Hid (∀ j, j < k → z.getD j 0 < bel b z j) ∧ Below w.heap.size w wr) (fun i _ => n - (intOf i).toNat)
  case atStart => exact ⟨0, by omega, rfl, Lib.hid (by intro j hj; omega), Below.refl _ _⟩
  case round =>
    obtain ⟨k, hk, rfl, hj, hb⟩ := hrel
    by_cases hlt : k < n
    · have hx := HB.out _ (getD_mem (z := z) (k := k) (by rw [HL.out]; exact hlt))
      have hS : Below w.heap.size w wr.drew := hb.trans ⟨rfl, rfl, rfl, Nat.le_refl _, fun _ _ => rfl⟩
      cases k with
      | zero =>
        obtain ⟨g, o, rfl, _⟩ := (HU.out.below hb).at_ hlt
        have hc : ∀ w', Below w.heap.size w w' → w'.cell? ⟨g, o + 0, none⟩ = some (.int .u64 (z.getD 0 0)) := fun w' h => (HU.out.below h).at2 hlt
        simp only [Nat.add_zero] at hc
        obtain ⟨x, hxe⟩ : ∃ x, x = z.getD 0 0 := ⟨_, rfl⟩
        rw [← hxe] at hx
        simp only [← hxe] at hc
        have HX := Lib.hid hxe
        clear hxe
        rw [show ((0 : Nat) : Int) = 0 from rfl]
        by_cases hle : x < b
        · have d1 : decide (b ≤ x) = false := by simp; omega
          go_wp2
          refine Seq.wp_region_seq (fun w' => Below w.heap.size w w') (by kernel_rfl) (by kernel_rfl) hS ?_
          repeat (first | (refine Seq.Seq.skip (by rfl) ?_; (try simp only [Act.put, List.setIfInBounds_toArray, List.set_cons_zero, List.set_cons_succ])) | (refine Seq.Seq.det ?_ (by rfl) (fun w hS => ?_) ?_; rotate_left; ((try dsimp only at hS); go_simp; (try rw [if_pos (by omega)]); with_reducible rfl); (try simp only [Act.put, List.setIfInBounds_toArray, List.set_cons_zero, List.set_cons_succ])))
          refine Seq.Seq.nil ?_
          go_wp2
          go_roundw
          case rel => exact ⟨1, hlt, rfl, Lib.hid (fun j hjk => by
            obtain rfl : j = 0 := by omega
            rw [← HX.out]; exact hle), hS⟩
          case measure => simp [intOf]; omega
        · have d1 : decide (b ≤ x) = true := by simp; omega
          go_wp2
          refine Seq.wp_region_seq (fun w' => Below w.heap.size w w') (by kernel_rfl) (by kernel_rfl) hS ?_
          repeat (first | (refine Seq.Seq.skip (by rfl) ?_; (try simp only [Act.put, List.setIfInBounds_toArray, List.set_cons_zero, List.set_cons_succ])) | (refine Seq.Seq.det ?_ (by rfl) (fun w hS => ?_) ?_; rotate_left; ((try dsimp only at hS); go_simp; (try rw [if_pos (by omega)]); with_reducible rfl); (try simp only [Act.put, List.setIfInBounds_toArray, List.set_cons_zero, List.set_cons_succ])))
          refine Seq.Seq.nil ?_
          go_wp2
          go_ret
          exact ⟨by rw [flb_no (k := 0) (by rw [HL.out]; exact hlt) (by rw [← HX.out, bel_zero]; omega)]; rfl, hS⟩
      | succ k =>
        have hy := HB.out _ (getD_mem (z := z) (k := k) (by rw [HL.out]; omega))
        obtain ⟨g, o, rfl, _⟩ := (HU.out.below hb).at_ hlt
        have hc : ∀ w', Below w.heap.size w w' → w'.cell? ⟨g, o + (k + 1), none⟩ = some (.int .u64 (z.getD (k + 1) 0)) := fun w' h => (HU.out.below h).at2 hlt
        have hc' : ∀ w', Below w.heap.size w w' → w'.cell? ⟨g, o + k, none⟩ = some (.int .u64 (z.getD k 0)) := fun w' h => (HU.out.below h).at2 (show k < n by omega)
        obtain ⟨x, hxe⟩ : ∃ x, x = z.getD (k + 1) 0 := ⟨_, rfl⟩
        obtain ⟨y, hye⟩ : ∃ y, y = z.getD k 0 := ⟨_, rfl⟩
        rw [← hxe] at hx
        rw [← hye] at hy
        simp only [← hxe] at hc
        simp only [← hye] at hc'
        have HX := Lib.hid hxe
        have HY := Lib.hid (show y = bel b z (k + 1) from hye)
        clear hxe hye
        have e1 : ((k + 1 : Nat) : Int) = (k : Int) + 1 := by omega
        rw [e1]
        clear e1
        have e2 : (k : Int) + 1 < n := by omega
        have e3 : (0 : Int) ≤ k := by omega
        have e4 : IntKind.i64.wrap ((k : Int) + 1 - 1) = (k : Int) := by rw [show (k : Int) + 1 - 1 = k by omega]; exact IntWalk.i64_in _ (by omega)
        have e5 : (k : Int) < n := by omega
        have e6 : ((k : Int) + 1).toNat = k + 1 := by omega
        have e7 : ((k : Int) + 1 == 0) = false := by simp; omega
        have e9 : (0 : Int) ≤ (k : Int) + 1 := by omega
        have e10 : IntKind.i64.wrap (k : Int) = (k : Int) := IntWalk.i64_in _ (by omega)
        have e11 : (0 : Int) < (k : Int) + 1 := by omega
        by_cases hle : x < y
        · have d1 : decide (y ≤ x) = false := by simp; omega
          go_wp2
          refine Seq.wp_region_seq (fun w' => Below w.heap.size w w') (by kernel_rfl) (by kernel_rfl) hS ?_
          repeat (first | (refine Seq.Seq.skip (by rfl) ?_; (try simp only [Act.put, List.setIfInBounds_toArray, List.set_cons_zero, List.set_cons_succ])) | (refine Seq.Seq.det ?_ (by rfl) (fun w hS => ?_) ?_; rotate_left; ((try dsimp only at hS); go_simp; (try rw [if_pos (by omega)]); with_reducible rfl); (try simp only [Act.put, List.setIfInBounds_toArray, List.set_cons_zero, List.set_cons_succ])))
          refine Seq.Seq.nil ?_
          go_wp2
          go_roundw
          case rel => exact ⟨k + 1 + 1, hlt, by go_num, Lib.hid (fun j hjk => by
            rcases Nat.lt_or_ge j (k + 1) with h | h
            · exact hj.out j h
            · obtain rfl : j = k + 1 := by omega
              rw [← HX.out, ← HY.out]; exact hle), hS⟩
          case measure => simp [intOf]; omega
        · have d1 : decide (y ≤ x) = true := by simp; omega
          go_wp2
          refine Seq.wp_region_seq (fun w' => Below w.heap.size w w') (by kernel_rfl) (by kernel_rfl) hS ?_
          repeat (first | (refine Seq.Seq.skip (by rfl) ?_; (try simp only [Act.put, List.setIfInBounds_toArray, List.set_cons_zero, List.set_cons_succ])) | (refine Seq.Seq.det ?_ (by rfl) (fun w hS => ?_) ?_; rotate_left; ((try dsimp only at hS); go_simp; (try rw [if_pos (by omega)]); with_reducible rfl); (try simp only [Act.put, List.setIfInBounds_toArray, List.set_cons_zero, List.set_cons_succ])))
          refine Seq.Seq.nil ?_
          go_wp2
          go_ret
          exact ⟨by rw [flb_no (by rw [HL.out]; exact hlt) (by rw [← HX.out, ← HY.out]; omega)]; rfl, hS⟩
    · obtain rfl : k = n := by omega
      have HT : Hid (flb b z = true) := Lib.hid ((flb_iff z b).2 (fun j hj2 => hj.out j (by rw [← HL.out]; exact hj2)))
      go_wp2
      go_ret
      exact ⟨by rw [HT.out]; rfl, hb⟩
end Go.Proofs.Ytjcoabgcacaceaa.Cur

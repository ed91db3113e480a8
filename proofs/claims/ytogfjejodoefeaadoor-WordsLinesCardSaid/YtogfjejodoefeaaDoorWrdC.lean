/- Lists as words: the document's List; List. -/
import Derived.Test.YtogfjejodoefeaaDoorWrdB
import Derived.Test.YtogfjejodoefeaaDoorK1
namespace Go.Proofs.YtogfjejodoefeaaDoor.Cur
open Go.RowKit Mem
set_option linter.unusedVariables false
set_option maxRecDepth 100000


/-- The words of the first k numbers, with commas between. -/
def lw (l : List Int) : Nat → List UInt8
  | 0 => []
  | k + 1 => (if k = 0 then [] else lw l k ++ [44]) ++ Lib.decDigits (l.getD k 0).toNat
def lword (l : List Int) : ByteArray := if l = [] then ⟨#[45]⟩ else ⟨(lw l l.length).toArray⟩
def su (l : List UInt8) : ByteArray := ⟨l.toArray⟩
theorem su_append (a b : List UInt8) : su a ++ su b = su (a ++ b) := ba_append a b
theorem su_size (a : List UInt8) : (su a).size = a.length := by unfold su; simp [ByteArray.size]
theorem lw_len {l : List Int} (hl : ∀ x ∈ l, 0 ≤ x ∧ x < 18446744073709551616) (k : Nat) (hk : k ≤ l.length) : (lw l k).length ≤ 21 * k ∧ (0 < k → 0 < (lw l k).length) := by
  induction k with
  | zero => exact ⟨by simp [lw], fun h => absurd h (by omega)⟩
  | succ k ih =>
    have h1 := ih (by omega)
    have hx := hl _ (getD_mem (z := l) (k := k) (by omega))
    have h2 := nd20 (u := (l.getD k 0).toNat) (by omega)
    have h3 : 1 ≤ (Lib.decDigits (l.getD k 0).toNat).length := by rw [Lib.decDigits_length]; exact Lib.nDigits_pos _
    unfold lw
    split
    · simp only [List.nil_append]; omega
    · simp only [List.length_append, List.length_cons, List.length_nil]; omega

set_option maxHeartbeats 4000000 in
theorem rlist_any (A : Option Addr) (n m : Nat) (l : List Int) (w : World) (hl : Us w A n l) (hn : n ≤ 100000) (hby : ∀ x ∈ l, 0 ≤ x ∧ x < 18446744073709551616) :
    Calls Tryd.prog 20 #[.slice A n m] w fun e w' => e = .returned (.string (lword l)) ∧ Below w.heap.size w w' := by
  have HZ := Lib.hid hl
  have HZL := Lib.hid hl.1
  have HBY := Lib.hid hby
  clear hl hby
  go_enter Tryd.func20, Tryd.ntmps20
  go_wp2
  go_loopw [3, 4] (fun v3 v4 wr => ∃ k : Nat, k ≤ n ∧ v4 = .int .i64 k ∧ v3 = .string (su (lw l k)) ∧ Below w.heap.size w wr) (fun _ v4 _ => n - (intOf v4).toNat)
  case atStart => exact ⟨0, Nat.zero_le _, rfl, rfl, Below.refl _ _⟩
  case round =>
    obtain ⟨k, hk, rfl, rfl, hb⟩ := hrel
    by_cases hlt : k < n
    · have hki : (k : Int) < n := by omega
      have hx := HBY.out _ (getD_mem (z := l) (k := k) (by rw [HZL.out]; exact hlt))
      have hlen := (lw_len HBY.out k (by rw [HZL.out]; exact hk)).1
      have hnd := nd20 (u := (l.getD k 0).toNat) (by omega)
      have hci : (uv l)[k]? = some (.int .u64 (l.getD k 0)) := by
        unfold uv
        rw [List.getElem?_map, List.getD_eq_getElem?_getD, List.getElem?_eq_getElem (by rw [HZL.out]; exact hlt)]; rfl
      obtain ⟨g, o, rfl, hc⟩ := Rw.at_ HZ.out.2 hci
      have HC := Lib.hid hc
      have HW : Hid (lw l (k + 1) = (if k = 0 then [] else lw l k ++ [44]) ++ Lib.decDigits (l.getD k 0).toNat) := Lib.hid rfl
      clear hci hc
      generalize l.getD k 0 = x at *
      obtain ⟨u, rfl⟩ := Int.eq_ofNat_of_zero_le hx.1
      rw [Int.toNat_natCast] at HW hnd
      have hu : u < 18446744073709551616 := by omega
      have HR : Hid (∀ w, Calls Tryd.prog 16 #[.int .u64 (u : Int)] w fun e w' => e = .returned (.string (su (Lib.decDigits u))) ∧ Below w.heap.size w w') := Lib.hid (fun w => rnum_any u w hu)
      have hcw := (hb.cell (lt_of_cell HC.out)).trans HC.out
      clear hx hu
      have hds : (su (Lib.decDigits u)).size ≤ 20 := by rw [su_size]; exact hnd
      have hls : (su (lw l k)).size ≤ 21 * k := by rw [su_size]; exact hlen
      by_cases h0 : k = 0
      · have hr : su (lw l k) ++ su (Lib.decDigits u) = su (lw l (k + 1)) := by rw [su_append, HW.out, if_pos h0]; subst h0; rfl
        have hm : ¬ 9223372036854775807 < (su (lw l k)).size + (su (Lib.decDigits u)).size := by omega
        obtain ⟨R, hR⟩ : ∃ R, su (lw l (k + 1)) = R := ⟨_, rfl⟩
        rw [hR] at hr
        have HRR := Lib.hid hR
        have HK := Lib.hid hk
        subst h0
        rw [Nat.add_zero] at hcw
        clear hR hds hls hnd hlen hk
        generalize su (lw l 0) = S0 at *
        generalize su (Lib.decDigits u) = D at *
        go_wp2_with fail
        with_reducible refine (HR.out _).mono ?_
        rintro e w2 ⟨rfl, hb2⟩
        have HB := Lib.hid (hb.trans (hb2.mono hb.size))
        clear hb hb2 hcw
        go_wp2
        go_roundw
        case rel => exact ⟨1, hlt, by go_num, by rw [HRR.out], HB.out⟩
        case measure => simp [intOf]; omega
      · have hr1 : su (lw l k) ++ ⟨#[44]⟩ = su (lw l k ++ [44]) := su_append _ [44]
        have hr2 : su (lw l k ++ [44]) ++ su (Lib.decDigits u) = su (lw l (k + 1)) := by rw [su_append, HW.out, if_neg h0]
        have hls2 : (su (lw l k ++ [44])).size ≤ 21 * k + 1 := by rw [su_size, List.length_append]; simp; omega
        have hm1 : ¬ 9223372036854775807 < (su (lw l k)).size + (⟨#[44]⟩ : ByteArray).size := by
          have : (⟨#[44]⟩ : ByteArray).size = 1 := rfl
          omega
        have hm2 : ¬ 9223372036854775807 < (su (lw l k ++ [44])).size + (su (Lib.decDigits u)).size := by omega
        obtain ⟨R, hR⟩ : ∃ R, su (lw l (k + 1)) = R := ⟨_, rfl⟩
        rw [hR] at hr2
        have HRR := Lib.hid hR
        have k0 : (0 : Int) < k := by omega
        clear hR hds hls hls2 hnd hlen h0
        generalize su (lw l k ++ [44]) = S1 at *
        generalize su (lw l k) = S0 at *
        generalize su (Lib.decDigits u) = D at *
        go_wp2_with fail
        with_reducible refine (HR.out _).mono ?_
        rintro e w2 ⟨rfl, hb2⟩
        have HB := Lib.hid (hb.trans (hb2.mono hb.size))
        clear hb hb2 hcw
        go_wp2
        go_roundw
        case rel => exact ⟨k + 1, hlt, by go_num, by rw [HRR.out], HB.out⟩
        case measure => simp [intOf]; omega
    · obtain rfl : k = n := by omega
      have HB := Lib.hid hb
      clear hb
      by_cases h0 : k = 0
      · have HE : Hid (lword l = ⟨#[45]⟩) := Lib.hid (by unfold lword; rw [if_pos (List.eq_nil_of_length_eq_zero (by rw [HZL.out, h0]))])
        subst h0
        have he : su (lw l 0) = ⟨#[]⟩ := rfl
        rw [he]
        go_wp2
        go_ret
        exact ⟨by rw [HE.out]; rfl, HB.out⟩
      · have HE : Hid (lword l = su (lw l k)) := Lib.hid (by unfold lword su; rw [if_neg (fun e => h0 (by rw [← HZL.out, e]; rfl)), HZL.out])
        have he : (su (lw l k)).toList.isEmpty = false := by
          unfold su
          rw [ByteArray.toList_mk, List.isEmpty_eq_false_iff]
          intro e
          have h1 := (lw_len HBY.out k (by rw [HZL.out]; exact Nat.le_refl _)).2 (by omega)
          rw [e] at h1
          simp at h1
        generalize su (lw l k) = S at *
        go_wp2
        go_ret
        exact ⟨by rw [HE.out]; rfl, HB.out⟩

/-- The words that strings.Join puts together. -/
def decs (l : List Int) (k : Nat) : List ByteArray := (List.range k).map fun i => su (Lib.decDigits (l.getD i 0).toNat)
theorem decs_len (l : List Int) (k : Nat) : (decs l k).length = k := by unfold decs; simp
theorem decs_get {l : List Int} {k i : Nat} (h : i < k) : (decs l k)[i]? = some (su (Lib.decDigits (l.getD i 0).toNat)) := by unfold decs; simp [h]
theorem decs_succ (l : List Int) (k : Nat) : decs l (k + 1) = decs l k ++ [su (Lib.decDigits (l.getD k 0).toNat)] := by unfold decs; rw [List.range_succ, List.map_append]; rfl
theorem inter_snoc (sep x : List UInt8) : ∀ (xs : List (List UInt8)), xs ≠ [] → sep.intercalate (xs ++ [x]) = sep.intercalate xs ++ sep ++ x
  | [], h => absurd rfl h
  | [y], _ => by simp [List.intercalate, List.intersperse]
  | y :: y2 :: r, _ => by
    have := inter_snoc sep x (y2 :: r) (by simp)
    simp only [List.cons_append, List.intercalate, List.intersperse] at this ⊢
    simp only [List.flatten_cons, List.append_assoc] at this ⊢
    rw [this]
theorem lw_join (l : List Int) (k : Nat) : lw l k = Lib.join ((decs l k).map (·.data.toList)) [44] := by
  induction k with
  | zero => rfl
  | succ k ih =>
    rw [decs_succ, List.map_append]
    unfold Lib.join at ih ⊢
    by_cases h0 : k = 0
    · subst h0
      simp [lw, decs, su, List.intercalate]
    · rw [show [su (Lib.decDigits (l.getD k 0).toNat)].map (·.data.toList) = [Lib.decDigits (l.getD k 0).toNat] by simp [su]]
      rw [inter_snoc _ _ _ (by intro e; have := congrArg List.length e; rw [List.length_map, decs_len] at this; simp at this; omega), ← ih]
      simp [lw, h0]

/-- A row of texts, of which the first k are known. -/
def tcs (l : List Int) (k n : Nat) : List Value := (decs l k).map Value.string ++ List.replicate (n - k) (.string ⟨#[]⟩)
theorem tcs_set {l : List Int} {k n : Nat} (h : k < n) : (tcs l k n).set k (.string (su (Lib.decDigits (l.getD k 0).toNat))) = tcs l (k + 1) n := by
  unfold tcs
  rw [decs_succ, List.map_append, List.set_append_right _ _ (by rw [List.length_map, decs_len]; exact Nat.le_refl _), List.length_map, decs_len, Nat.sub_self, show n - k = (n - (k + 1)) + 1 by omega, List.replicate_succ]
  simp
theorem tcs_get {l : List Int} {k n i : Nat} (h : i < k) : (tcs l k n)[i]? = some (.string (su (Lib.decDigits (l.getD i 0).toNat))) := by
  unfold tcs
  rw [List.getElem?_append_left (by rw [List.length_map, decs_len]; exact h), List.getElem?_map, decs_get h]; rfl
theorem tcs_len {l : List Int} {k n : Nat} (h : k ≤ n) : (tcs l k n).length = n := by unfold tcs; rw [List.length_append, List.length_map, decs_len, List.length_replicate]; omega

theorem tcs_zero (l : List Int) (n : Nat) : (tcs l 0 n).toArray = madeCells #[.string ⟨#[]⟩] n := by
  unfold tcs madeCells
  apply Array.ext
  · simp [decs]
  · intro i h1 h2
    simp [decs, Nat.mod_one]
theorem tcs_put {w : World} {b n k : Nat} {l : List Int} {t : Nat} (h : Blk w b (tcs l k n).toArray t) (hk : k < n) : Blk (w.setCell ⟨b, k, none⟩ (.string (su (Lib.decDigits (l.getD k 0).toNat)))) b (tcs l (k + 1) n).toArray t := by
  have := h.set k (.string (su (Lib.decDigits (l.getD k 0).toNat)))
  rw [List.setIfInBounds_toArray, tcs_set hk] at this
  exact this

set_option maxHeartbeats 4000000 in
theorem list_any (A : Option Addr) (n m : Nat) (l : List Int) (w : World) (hl : Us w A n l) (hn : n ≤ 100000) (hby : ∀ x ∈ l, 0 ≤ x ∧ x < 18446744073709551616) (hT : Tbs w) :
    Calls Tryd.prog 19 #[.slice A n m] w fun e w' => e = .returned (.string (lword l)) ∧ Below w.heap.size w w' := by
  have HZ := Lib.hid hl
  have HZL := Lib.hid hl.1
  have HBY := Lib.hid hby
  have HT := Lib.hid hT
  clear hl hby hT
  by_cases h0 : n = 0
  · have HE : Hid (lword l = ⟨#[45]⟩) := Lib.hid (by unfold lword; rw [if_pos (List.eq_nil_of_length_eq_zero (by rw [HZL.out, h0]))])
    subst h0
    go_enter Tryd.func19, Tryd.ntmps19
    go_wp2
    go_ret
    exact ⟨by rw [HE.out]; rfl, Below.refl _ _⟩
  · have HE : Hid (lword l = su (lw l n)) := Lib.hid (by unfold lword su; rw [if_neg (fun e => h0 (by rw [← HZL.out, e]; rfl)), HZL.out])
    have hd0 : ((n : Int) == 0) = false := by simp; omega
    obtain ⟨i0, hi, hz0, hz1, hz2⟩ := info_parts (P := Tryd.prog) (e := 9) (z := .string ⟨#[]⟩) (size := 1) (bytes := 16) (by kernel_rfl)
    have hmk := fun w => run_make (P := Tryd.prog) w 23 9 i0 (.string ⟨#[]⟩) Tryd.underlying23 hi hz0 .i64 .i64 (n : Int) (n : Int) (by omega) (by omega) (by rw [hz2]; omega) (by omega)
    go_enter Tryd.func19, Tryd.ntmps19
    go_wp2
    have hX : Blk (w.alloc (.cells (madeCells #[.string ⟨#[]⟩] n) 9)) w.heap.size (tcs l 0 n).toArray 9 := by rw [tcs_zero]; exact Blk.new w _ _
    have hA := below_one w (.cells (madeCells #[.string ⟨#[]⟩] n) 9)
    generalize w.alloc (.cells (madeCells #[.string ⟨#[]⟩] n) 9) = w1 at *
    obtain ⟨bk, hbk⟩ : ∃ bk, w.heap.size = bk := ⟨_, rfl⟩
    rw [hbk] at hX
    simp only [hbk]
    have HBK := Lib.hid hbk
    have HX := Lib.hid hX
    have HA := Lib.hid hA
    clear hbk hX hA hmk
    go_loopw [14] (fun v14 wr => ∃ k : Nat, k ≤ n ∧ v14 = .int .i64 k ∧ Blk wr bk (tcs l k n).toArray 9 ∧ Below w.heap.size w wr) (fun v14 _ => n - (intOf v14).toNat)
    case atStart => exact ⟨0, Nat.zero_le _, rfl, HX.out, HA.out⟩
    case round =>
      obtain ⟨k, hk, rfl, hB, hb⟩ := hrel
      by_cases hlt : k < n
      · have hki : (k : Int) < n := by omega
        have hx := HBY.out _ (getD_mem (z := l) (k := k) (by rw [HZL.out]; exact hlt))
        have hci : (uv l)[k]? = some (.int .u64 (l.getD k 0)) := by
          unfold uv
          rw [List.getElem?_map, List.getD_eq_getElem?_getD, List.getElem?_eq_getElem (by rw [HZL.out]; exact hlt)]; rfl
        obtain ⟨g, o, rfl, hc⟩ := Rw.at_ HZ.out.2 hci
        have hcw := (hb.cell (lt_of_cell hc)).trans hc
        have HP : Hid (∀ w', Blk w' bk (tcs l k n).toArray 9 → Blk (w'.setCell ⟨bk, k, none⟩ (.string (su (Lib.decDigits (l.getD k 0).toNat)))) bk (tcs l (k + 1) n).toArray 9) := Lib.hid (fun w' h => tcs_put h hlt)
        have HOld : Hid (∀ w', Blk w' bk (tcs l k n).toArray 9 → ∃ v, w'.cell? ⟨bk, k, none⟩ = some v) := Lib.hid (fun w' h => by
          have hl : k < (tcs l k n).length := by rw [tcs_len hk]; exact hlt
          exact ⟨_, h.cell k (v := (tcs l k n)[k]) (by simp [hl])⟩)
        clear hci hc
        generalize l.getD k 0 = x at *
        obtain ⟨u, rfl⟩ := Int.eq_ofNat_of_zero_le hx.1
        rw [Int.toNat_natCast] at HP
        have hu : u < 18446744073709551616 := by omega
        have HR : Hid (Calls Tryd.prog 15 #[.int .u64 (u : Int)] wr fun e w' => e = .returned (.string (su (Lib.decDigits u))) ∧ Below wr.heap.size wr w') := Lib.hid (num_any u wr hu (HT.out.below hb))
        clear hx hu
        generalize su (Lib.decDigits u) = D at *
        go_wp2_with fail
        with_reducible refine HR.out.mono ?_
        rintro e w2 ⟨rfl, hb2⟩
        have hB2 := hB.below hb2
        have hbd := hb.trans (hb2.mono hb.size)
        obtain ⟨v0, hv0⟩ := HOld.out _ hB2
        have hfz := hB2.free k
        have H1 := Lib.hid (HP.out _ hB2)
        have H2 := Lib.hid (hbd.setCell (p := ⟨bk, k, none⟩) (by rw [← HBK.out]; exact Nat.le_refl _) (.string D))
        clear hB hb hb2 hcw hB2 hbd
        go_wp2
        go_roundw
        case rel => exact ⟨k + 1, hlt, by go_num, H1.out, H2.out⟩
        case measure => simp [intOf]; omega
      · obtain rfl : k = n := by omega
        have hj := Tryd.strings_Join bk 0 k (decs l k) ⟨#[44]⟩ wr (fun j x hx => by
          have hj : j < k := by have := (List.getElem?_eq_some_iff.1 hx).1; rwa [decs_len] at this
          rw [decs_get hj] at hx
          cases hx
          rw [Nat.zero_add]
          exact hB.cell j (by simp [tcs_get hj])) hB.lt (by rw [decs_len]; omega) (by rw [decs_len]; exact Nat.le_refl _) (by
            have h1 := lw_join l k
            have h2 := (lw_len HBY.out k (by rw [HZL.out]; exact Nat.le_refl _)).1
            show (Lib.join ((decs l k).map (·.data.toList)) [44]).length ≤ _
            rw [← h1]; omega)
        rw [decs_len] at hj
        have hjw : Lib.join ((decs l k).map (·.data.toList)) (⟨#[44]⟩ : ByteArray).data.toList = lw l k := (lw_join l k).symm
        rw [hjw] at hj
        have HB := Lib.hid hb
        clear hB hb hjw
        go_wp2_with fail
        with_reducible refine hj.mono ?_
        rintro e w2 ⟨rfl, hb2⟩
        have HB2 := Lib.hid (HB.out.trans (hb2.mono HB.out.size))
        clear hb2 hj
        go_wp2
        go_ret
        exact ⟨by rw [HE.out]; rfl, HB2.out⟩
end Go.Proofs.YtogfjejodoefeaaDoor.Cur

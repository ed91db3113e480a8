/- Kinds: the kind of a word. -/
import Derived.Test.YtepbbahalmjflaaKndC
import Derived.Test.YtepbbahalmjflaaKndE
namespace Go.Proofs.Ytepbbahalmjflaa.Cur
open Go.RowKit Mem
set_option linter.unusedVariables false
set_option maxRecDepth 100000

/-- The kind of a word, or 0. -/
def kfd (s : ByteArray) : Nat → Int
  | 0 => 0
  | n + 1 => if kfd s n ≠ 0 then kfd s n else if (kof ((n : Int) + 1)).1 = s then (n : Int) + 1 else 0
theorem kfd_bd (s : ByteArray) : ∀ n : Nat, 0 ≤ kfd s n ∧ kfd s n ≤ n
  | 0 => ⟨Int.le_refl _, Int.le_refl _⟩
  | n + 1 => by
    have := kfd_bd s n
    unfold kfd
    split
    · omega
    · split <;> omega
theorem ks14_at : ∀ (n k : Nat), k < n → (ks14 n)[k]? = some (.int .i64 ((k : Int) + 1))
  | 0, k, h => by omega
  | n + 1, k, h => by
    unfold ks14
    by_cases hk : k < n
    · rw [List.getElem?_append_left (by rw [ks14_len]; exact hk)]
      exact ks14_at n k hk
    · obtain rfl : k = n := by omega
      rw [List.getElem?_append_right (by rw [ks14_len]; omega), ks14_len, Nat.sub_self]
      rfl
theorem kstr_inj {a b : ByteArray} (h : a.toList = b.toList) : a = b := by
  rw [ByteArray.toList_eq, ByteArray.toList_eq] at h
  cases a; cases b
  simp only [ByteArray.mk.injEq]
  exact Array.toList_inj.1 h
theorem kbyte_ne {a b : ByteArray} (h : ¬ a = b) : (a.toList == b.toList) = false := by
  rw [beq_eq_false_iff_ne]
  exact fun e => h (kstr_inj e)
theorem cell_keep {w w' : World} {g k : Nat} (h : Below w.heap.size w w') (hg : g < w.heap.size) : w'.cell? ⟨g, k, none⟩ = w.cell? ⟨g, k, none⟩ := by
  simp [World.cell?, h.block g hg]
/-- What Find tells. -/
def kfp (s : ByteArray) : Value := .tuple #[.int .i64 (kfd s 14), .bool (decide (kfd s 14 ≠ 0))]
theorem own_kcells {w : World} {B n : Nat} {v : Value} {xs : List Value} (h : w.ownsRow B 3 1 v n xs) (hn : 0 < n) (hl : xs.length = n) : ∃ g cap, v = .slice (some ⟨g, 0, none⟩) n cap ∧ B ≤ g ∧ g < w.heap.size ∧ ∀ k, k < n → ∀ u, xs[k]? = some u → w.cell? ⟨g, k, none⟩ = some u := by
  rcases h.2 with ⟨rfl, hz⟩ | ⟨g, cap, cur, rfl, hbase, hgb, r1, r2, r3, r4⟩
  · omega
  · refine ⟨g, cap, rfl, hbase, (Array.getElem?_eq_some_iff.1 hgb).1, fun k hk u hu => ?_⟩
    have hc : cur[k]? = some u := by
      rw [Nat.mul_one] at r4
      rw [← r4, List.getElem?_take, if_pos hk] at hu
      simpa using hu
    simp [World.cell?, hgb, hc]
set_option maxHeartbeats 4000000 in
theorem kfind_any (s : ByteArray) (w : World) : Calls Try.prog 15 #[.string s] w (BPost (kfp s) w) := by
  unfold BPost
  go_enter Try.func15, Try.ntmps15
  go_wp2_with fail
  refine (kall_any _).mono ?_
  rintro e w1 ⟨v, rfl, ho, hb⟩
  obtain ⟨g, cap, rfl, hg, hgl, hc⟩ := own_kcells ho (by decide) (ks14_len 14)
  have HC := Lib.hid (fun (wr : World) (h : Below w1.heap.size w1 wr) (k : Nat) (hk : k < 14) => (show wr.cell? ⟨g, k, none⟩ = some (.int .i64 ((k : Int) + 1)) from (cell_keep h hgl).trans (hc k hk _ (ks14_at 14 k hk))))
  have HB := Lib.hid hb
  clear ho hc hb
  go_wp2
  go_loopw [8] (fun i wr => ∃ k : Nat, k ≤ 14 ∧ i = .int .i64 (k : Int) ∧ kfd s k = 0 ∧ Below w1.heap.size w1 wr) (fun i _ => 20 - (intOf i).toNat)
  case atStart => exact ⟨0, by omega, rfl, rfl, Below.refl _ _⟩
  case round =>
    obtain ⟨k, hk, rfl, h0, hb2⟩ := hrel
    have HB2 := Lib.hid hb2
    by_cases h14 : k = 14
    · subst h14
      have e : kfp s = .tuple #[.int .i64 0, .bool false] := by unfold kfp; rw [h0]; rfl
      have HE := Lib.hid e
      clear h0 e hb2
      go_wp2
      exact bodyPost_ret (v := kfp s) (by rw [HE.out]; simp [results, Try.results15, go_sem]) rfl ⟨rfl, HB.out.trans (HB2.out.mono HB.out.size)⟩
    · have hlt : k < 14 := by omega
      have c0 := HC.out wr hb2 k hlt
      have hlt2 : (k : Int) < 14 := by omega
      have hst : kfd s (k + 1) = if kfd s k ≠ 0 then kfd s k else if (kof ((k : Int) + 1)).1 = s then (k : Int) + 1 else 0 := rfl
      rw [if_neg (fun h => h h0)] at hst
      by_cases hs : (kof ((k : Int) + 1)).1 = s
      · rw [if_pos hs] at hst
        have hall : ∀ m : Nat, kfd s (k + 1 + m) = (k : Int) + 1 := by
          intro m
          induction m with
          | zero => exact hst
          | succ m ih =>
            show (if kfd s (k + 1 + m) ≠ 0 then kfd s (k + 1 + m) else _) = _
            rw [ih, if_pos (by omega)]
        have e14 : kfd s 14 = (k : Int) + 1 := by
          have := hall (13 - k)
          rw [show k + 1 + (13 - k) = 14 by omega] at this
          exact this
        have e : kfp s = .tuple #[.int .i64 ((k : Int) + 1), .bool true] := by unfold kfp; rw [e14, decide_eq_true (show (k : Int) + 1 ≠ 0 by omega)]
        have HE := Lib.hid e
        have HS := Lib.hid hs
        clear h0 hst hall e14 e hs hb2
        go_wp2_with fail
        refine (kword_any ((k : Int) + 1) _).mono ?_
        rintro e w3 ⟨rfl, hb3⟩
        rw [HS.out]
        go_wp2
        exact bodyPost_ret (v := kfp s) (by rw [HE.out]; simp [results, Try.results15, go_sem]) rfl ⟨rfl, HB.out.trans ((HB2.out.trans (hb3.mono HB2.out.size)).mono HB.out.size)⟩
      · rw [if_neg hs] at hst
        have hs2 := kbyte_ne hs
        have HST := Lib.hid hst
        clear h0 hst hs hb2
        go_wp2_with fail
        refine (kword_any ((k : Int) + 1) _).mono ?_
        rintro e w3 ⟨rfl, hb3⟩
        go_wp2
        go_roundw
        case rel => exact ⟨k + 1, by omega, by rw [Int.natCast_add]; rfl, HST.out, HB2.out.trans (hb3.mono HB2.out.size)⟩
        case measure => simp [intOf]; omega
end Go.Proofs.Ytepbbahalmjflaa.Cur

/- Kinds: which answer, all, the kind of a word. -/
import Derived.Test.YtepbbahalmjflaaKndB
import Derived.Test.YtepbbahalmjflaaK1
namespace Go.Proofs.Ytepbbahalmjflaa.Cur
open Go.RowKit Mem
set_option linter.unusedVariables false
set_option maxRecDepth 100000

/-- May a kind be answered by another one? -/
def kans (k a : Int) : Bool := decide ((kof k).2.2 ≠ 0 ∧ (a = (kof k).2.2 ∨ a = 14))
set_option maxHeartbeats 2000000 in
theorem kans_any (k a : Int) (w : World) : Calls Try.prog 17 #[.int .i64 k, .int .i64 a] w (BPost (.bool (kans k a)) w) := by
  by_cases h : (kof k).2.2 = 0
  · have e1 : kreq k = false := decide_eq_false (fun h2 => h2 h)
    have e : kans k a = false := decide_eq_false (fun h2 => h2.1 h)
    rw [e]
    clear h
    unfold BPost; go_enter Try.func17, Try.ntmps17
    go_wp2_with fail
    refine (kreq_any k _).mono ?_
    rintro e w1 ⟨rfl, hb⟩
    rw [e1]
    go_wp2
    go_ret
    exact ⟨rfl, hb⟩
  · have e1 : kreq k = true := decide_eq_true h
    by_cases h2 : a = (kof k).2.2
    · have e : kans k a = true := decide_eq_true ⟨h, .inl h2⟩
      rw [e]
      have H2 := Lib.hid h2
      clear h h2
      unfold BPost; go_enter Try.func17, Try.ntmps17
      go_wp2_with fail
      refine (kreq_any k _).mono ?_
      rintro e w1 ⟨rfl, hb⟩
      rw [e1]
      go_wp2_with fail
      refine (kof_any k _).mono ?_
      rintro e w2 ⟨rfl, hb2⟩
      unfold kagg
      obtain ⟨F0, F1, F2⟩ := kfield (kof k).1 (kof k).2.1 (kof k).2.2 w2
      rw [← H2.out] at F2 ⊢
      go_wp2
      go_ret
      exact ⟨rfl, hb.trans (hb2.mono hb.size)⟩
    · by_cases h3 : a = 14
      · have e : kans k a = true := decide_eq_true ⟨h, .inr h3⟩
        rw [e]
        have H3 := Lib.hid h3
        clear h h3
        unfold BPost; go_enter Try.func17, Try.ntmps17
        go_wp2_with fail
        refine (kreq_any k _).mono ?_
        rintro e w1 ⟨rfl, hb⟩
        rw [e1]
        go_wp2_with fail
        refine (kof_any k _).mono ?_
        rintro e w2 ⟨rfl, hb2⟩
        unfold kagg
        obtain ⟨F0, F1, F2⟩ := kfield (kof k).1 (kof k).2.1 (kof k).2.2 w2
        go_wp2
        go_ret
        exact ⟨by simp [H3.out], hb.trans (hb2.mono hb.size)⟩
      · have e : kans k a = false := decide_eq_false (fun h4 => h4.2.elim h2 h3)
        rw [e]
        unfold BPost; go_enter Try.func17, Try.ntmps17
        go_wp2_with fail
        refine (kreq_any k _).mono ?_
        rintro e w1 ⟨rfl, hb⟩
        rw [e1]
        go_wp2_with fail
        refine (kof_any k _).mono ?_
        rintro e w2 ⟨rfl, hb2⟩
        unfold kagg
        obtain ⟨F0, F1, F2⟩ := kfield (kof k).1 (kof k).2.1 (kof k).2.2 w2
        go_wp2
        go_ret
        exact ⟨by simp [h2, h3], hb.trans (hb2.mono hb.size)⟩
theorem kindIk : Kind 32 3 (.int .i64 0) 1 8 := ⟨Try.underlying32, by kernel_rfl, rfl, by decide⟩
/-- The first kinds. -/
def ks14 : Nat → List Value
  | 0 => []
  | n + 1 => ks14 n ++ [.int .i64 ((n : Int) + 1)]
theorem ks14_len : ∀ n, (ks14 n).length = n
  | 0 => rfl
  | n + 1 => by rw [ks14, List.length_append, ks14_len n]; rfl
theorem rw_newk (w : World) (xs : List Value) (t : Nat) : Rw (w.alloc (.cells xs.toArray t)) (some ⟨w.heap.size, 0, none⟩) xs := fun _ =>
  ⟨_, _, rfl, fun i v hi => by
    rw [Nat.zero_add]
    exact (Blk.new w xs.toArray t).cell i (by simpa using hi)⟩
/-- All kinds, in a row of the call's own. -/
def KAllPost (w : World) (e : Ending) (w' : World) : Prop := ∃ v, e = .returned v ∧ w'.ownsRow w.heap.size 3 1 v 14 (ks14 14) ∧ Below w.heap.size w w'
set_option maxHeartbeats 4000000 in
theorem kall_any (w : World) : Calls Try.prog 16 #[] w (KAllPost w) := by
  unfold KAllPost
  go_enter Try.func16, Try.ntmps16
  go_wp2
  go_loopw [1, 2] (fun v i wr => ∃ k : Nat, k ≤ 14 ∧ i = .int .i64 ((k : Int) + 1) ∧ wr.ownsRow w.heap.size 3 1 v k (ks14 k) ∧ Below w.heap.size w wr) (fun _ i _ => 15 - (intOf i).toNat)
  case atStart => exact ⟨0, by omega, rfl, ⟨by simp [ks14], .inl ⟨rfl, rfl⟩⟩, Below.refl _ _⟩
  case round =>
    obtain ⟨k, hk, rfl, ho, hb⟩ := hrel
    by_cases hlt : k < 14
    · have hA := below_one wr (.cells #[.int .i64 ((k : Int) + 1)] 3)
      have hoA := own_below ho hA
      have hbA := hb.trans (hA.mono hb.size)
      have hrwA := rw_newk wr [.int .i64 ((k : Int) + 1)] 3
      have hB9 := hbA.size
      have HOA := Lib.hid hoA
      have HBA := Lib.hid hbA
      clear ho hb hA hoA hbA
      have e1 : (k : Int) + 1 + 1 = ((k + 1 : Nat) : Int) + 1 := by omega
      have e2 : ((k : Int) + 1) ≤ 14 := by omega
      go_wp2_with (at_builtin; go_must (refine list_append_rw kindIk rfl (.tmp 7) (.tmp 9) rfl w.heap.size _ _ _ rfl HOA.out _ 1 _ [.int .i64 ((k : Int) + 1)] rfl rfl hrwA (by simp) (by simp [Value.oneCell']) (by omega) (by omega) hB9 ?_; intro v' w10 ho' hg' hgr'; have hb10 := (Ks.of_grown (S := fun i => Value.ownBlock _ = some i) hg' (fun k hk => hk)).below HBA.out (Nat.le_refl _) (fun k hk => (World.ownsRow.lt HOA.out k hk).1); have HO' := Lib.hid ho'; have HB10 := Lib.hid hb10; clear ho' hg' hgr' hb10 hrwA hB9))
      go_roundw
      case rel => exact ⟨k + 1, by omega, by first | rfl | rw [e1], HO'.out, HB10.out⟩
      case measure => simp [intOf]; omega
    · obtain rfl : k = 14 := by omega
      have HO := Lib.hid ho
      have HB := Lib.hid hb
      clear ho hb
      go_wp2
      go_ret
      exact ⟨_, rfl, HO.out, HB.out⟩
end Go.Proofs.Ytepbbahalmjflaa.Cur

/- Rising lists: the document's bytes; two lists of numbers that are the same are told the same. -/
import Derived.Test.YtccbgoddalbbaaaZigC
namespace Go.Proofs.Ytccbgoddalbbaaa.Cur
open Go.RowKit Mem
set_option linter.unusedVariables false


set_option maxHeartbeats 1000000 in
theorem same5_any (A B : Option Addr) (n m c d : Nat) (z : List Int) (w : World) (ha : Us w A n z) (hb : Us w B m z) (hn : n ≤ 1000000) (hby : ∀ x ∈ z, 0 ≤ x ∧ x < 18446744073709551616) :
    Calls Try.prog 28 #[.slice A n c, .slice B m d] w (BPost (.bool true) w) := by
  unfold BPost
  obtain rfl : m = n := by rw [← ha.1, ← hb.1]
  by_cases hn0 : m = 0
  · subst hn0
    clear ha hb
    go_enter Try.func28, Try.ntmps28
    go_wp2
    go_loopw [5] (fun i wr => i = .int .i64 0 ∧ wr = w) (fun i _ => 0)
    case atStart => exact ⟨rfl, rfl⟩
    case round =>
      obtain ⟨rfl, rfl⟩ := hrel
      go_wp2
      go_ret
      exact ⟨rfl, Below.refl _ _⟩
  · have hzl := ha.1
    obtain ⟨g, o, rfl, hg, hc⟩ := ha.cells (by omega)
    obtain ⟨g', o', rfl, hg', hc'⟩ := hb.cells (by omega)
    have HC := Lib.hid hc
    have HC' := Lib.hid hc'
    have HB := Lib.hid hby
    have HZ := Lib.hid hzl
    clear hc hc' ha hb hby hzl
    go_enter Try.func28, Try.ntmps28
    go_wp2
    go_loopw [5] (fun i wr => ∃ k : Nat, k ≤ m ∧ i = .int .i64 k ∧ Below w.heap.size w wr) (fun i _ => m - (intOf i).toNat)
    case atStart => exact ⟨0, by omega, rfl, Below.refl _ _⟩
    case round =>
      obtain ⟨k, hk, rfl, hb⟩ := hrel
      by_cases hlt : k < m
      · have c0 := HC.out wr hb k hlt
        have c1 := HC'.out wr hb k hlt
        have b0 := HB.out _ (getD_mem (z := z) (k := k) (by rw [HZ.out]; exact hlt))
        generalize z.getD k 0 = x at *
        have e2 : (k : Int) < m := by omega
        go_wp2
        go_quiet (fail)
        go_wp2
        go_roundw
        case rel => exact ⟨k + 1, hlt, by go_num, below_drewN hb _⟩
        case measure => simp [intOf]; omega
      · go_wp2
        go_ret
        exact ⟨rfl, hb⟩

theorem below_one' (w : World) : Below w.heap.size w w.drew := ⟨rfl, rfl, rfl, Nat.le_refl _, fun _ _ => rfl⟩
theorem oper_append_gr {w : World} {o : Oper} {a : Act} {K : Act → World → Prop} {Q : Exit → Act → World → Prop} (s x : Operand)
    (ho : o.op = .call { callee := .builtin .append, args := #[s, x], argTypes := #[23, 23] })
    (B : Nat) (v : Value) (z : List Int) (hs : a.eval s = v) (hown : Own w B v z) (A : Option Addr) (m c : Nat) (news : List Int) (hx : a.eval x = .slice A m c) (hr : Bs w A m news) (hc : A = none → c = 0)
    (hsz : z.length + m ≤ 1000000) (hB : B ≤ w.heap.size)
    (h : ∀ v' w', Own w' B v' (z ++ news) → w.grownBy w' v.ownBlock → Gr v.ownBlock v'.ownBlock w → K (a.put o.dst v') w') : o.wp Try.prog a w K Q := by
  obtain ⟨v', w', hrun, h2, h3, h4⟩ := run_append_gr w o.type B v z hown A m c news hr hc hsz hB
  unfold Oper.wp
  simp [execOp, ho, resolve, invoke, builtin, hs, hx, hrun, Result.andThen]
  exact h v' w' h2 h3 h4

set_option maxHeartbeats 2000000 in
theorem rrz_any (A : Option Addr) (n m : Nat) (z : List Int) (w : World) (hz : Us w A n z) (hn : n ≤ 1000) (hby : ∀ x ∈ z, 0 ≤ x ∧ x < 18446744073709551616) (hr : risesB z = true) :
    Calls Try.prog 25 #[.slice A n m] w (RowPost (rz z) w) := by
  have HB := Lib.hid hby
  have HR := Lib.hid hr
  have HZ := Lib.hid hz.1
  have HU := Lib.hid hz
  clear hby hr hz
  go_enter Try.func25, Try.ntmps25
  go_wp2
  go_loopw [3, 4] (fun v i wr => ∃ k : Nat, k ≤ n ∧ i = .int .i64 k ∧ Own wr w.heap.size v (rzk z k) ∧ Below w.heap.size w wr) (fun _ i _ => n - (intOf i).toNat)
  case atStart => exact ⟨0, by omega, rfl, Own.nil _ _, Below.refl _ _⟩
  case round =>
    obtain ⟨k, hk, rfl, ho, hb⟩ := hrel
    by_cases hlt : k < n
    · have hl := rzk_len z k
      obtain ⟨s0, s1⟩ := stp_bd HZ.out hlt HB.out HR.out
      have hle := vsz_le (stp z k)
      obtain ⟨g, o, rfl, hg, hc⟩ := HU.out.cells (by omega)
      have hB := hb.size
      by_cases h0 : k = 0
      · subst h0
        have hst : stp z 0 = z.getD 0 0 := by unfold stp; rw [if_pos rfl]
        have c0 := hc wr hb 0 hlt
        rw [Nat.add_zero, ← hst] at c0
        have HO := Lib.hid ho
        have HL := Lib.hid (vz_length (stp z 0))
        have HZ1 := Lib.hid (show rzk z 1 = rzk z 0 ++ vz (stp z 0) from rfl)
        clear hc ho hst
        generalize stp z 0 = x at *
        rw [show ((0 : Nat) : Int) = 0 from rfl]
        go_wp2_with fail
        refine (rbytes_any 10 _ _ (vsz_le _) s0 s1).mono ?_
        rintro e w1 ⟨A1, m1, rfl, hb1, hbs, hnil, _⟩
        have ho1 := HO.out.below hb1
        have hb2 := hb.trans (hb1.mono hb.size)
        have hB2 := hb2.size
        go_wp2_with (at_builtin; go_must (refine list_append_gr rfl (.tmp 13) (.tmp 17) rfl w.heap.size _ _ rfl ho1 _ _ _ _ rfl hbs hnil (by rw [HL.out]; omega) hB2 ?_; intro v' w2 ho' hg' hgr; have hb3 := Own.belowOf hb2 hB2 ho1 hg'))
        go_roundw
        case rel => exact ⟨1, by omega, rfl, by rw [HZ1.out]; exact ho', hb3⟩
        case measure => simp [intOf]; omega
      · obtain ⟨j, rfl⟩ : ∃ j, k = j + 1 := ⟨k - 1, by omega⟩
        have hst : stp z (j + 1) = z.getD (j + 1) 0 - z.getD j 0 - 1 := by unfold stp; rw [if_neg (by omega), Nat.add_sub_cancel]
        have b0 := HB.out _ (getD_mem (z := z) (k := j + 1) (by rw [HZ.out]; exact hlt))
        have b1 := HB.out _ (getD_mem (z := z) (k := j) (by rw [HZ.out]; omega))
        have h3 := (risesB_iff z).1 HR.out j (by rw [HZ.out]; omega)
        have c0 := fun w' (h : Below w.heap.size w w') => hc w' h (j + 1) hlt
        have c1 := fun w' (h : Below w.heap.size w w') => hc w' h j (by omega)
        have HO := Lib.hid ho
        have HL := Lib.hid (vz_length (stp z (j + 1)))
        have HZ1 := Lib.hid (show rzk z (j + 1 + 1) = rzk z (j + 1) ++ vz (stp z (j + 1)) from rfl)
        have HST := Lib.hid hst
        clear hc ho hst
        generalize hx : z.getD (j + 1) 0 = x at *
        generalize hy : z.getD j 0 = y at *
        generalize hs' : stp z (j + 1) = s at *
        clear hx hy hs'
        have e1 : ((j + 1 : Nat) : Int) = (j : Int) + 1 := by omega
        rw [e1]
        clear e1 h0
        have e2 : (j : Int) + 1 < n := by omega
        have e3 : (0 : Int) ≤ j := by omega
        have e4 : IntKind.i64.wrap ((j : Int) + 1 - 1) = (j : Int) := by rw [show (j : Int) + 1 - 1 = j by omega]; exact IntWalk.i64_in _ (by omega)
        have e5 : (j : Int) < n := by omega
        have e6 : ((j : Int) + 1).toNat = j + 1 := by omega
        have e7 : ((j : Int) + 1 == 0) = false := by simp; omega
        have e8 : IntKind.u64.wrap (x - y) = x - y := by rw [wrapu]; omega
        have e11 : IntKind.u64.wrap (x - y - 1) = s := by rw [wrapu, HST.out]; have := HST.out; omega
        have e9 : (0 : Int) ≤ (j : Int) + 1 := by omega
        have e10 : IntKind.i64.wrap (j : Int) = (j : Int) := IntWalk.i64_in _ (by omega)
        go_wp2
        have hS : Below w.heap.size w wr.drew := hb.trans ⟨rfl, rfl, rfl, Nat.le_refl _, fun _ _ => rfl⟩
        refine Seq.wp_region_seq (fun w' => Below w.heap.size w w') (by kernel_rfl) (by kernel_rfl) hS ?_
        repeat (first | (refine Seq.Seq.skip (by rfl) ?_; (try simp only [Act.put, List.setIfInBounds_toArray, List.set_cons_zero, List.set_cons_succ])) | (refine Seq.Seq.det ?_ (by rfl) (fun w hS => ?_) ?_; rotate_left; ((try dsimp only at hS); go_simp; (try rw [if_pos (by omega)]); with_reducible rfl); (try simp only [Act.put, List.setIfInBounds_toArray, List.set_cons_zero, List.set_cons_succ])))
        refine Seq.Seq.make (by rfl) (by rfl) (fun K Q' hK => ?_)
        go_simp
        go_at_call 18
        with_reducible refine (rbytes_any 10 _ _ (vsz_le _) s0 s1).mono ?_
        rintro e w1 ⟨A1, m1, rfl, hb1, hbs, hnil, _⟩
        have ho1 : Own w1 w.heap.size u3 (rzk z (j + 1)) := Own.below (w := wr) HO.out ((below_one' wr).trans hb1)
        have hb2 := hS.trans (hb1.mono hS.size)
        have hB2 := hb2.size
        refine hK.out _ _ hb2 ?_
        clear hK K
        try simp only [Act.put, List.setIfInBounds_toArray, List.set_cons_zero, List.set_cons_succ]
        refine Seq.Seq.make (by rfl) (by rfl) (fun K Q' hK => ?_)
        refine oper_append_gr (.tmp 19) (.tmp 31) rfl w.heap.size _ _ rfl ho1 _ _ _ _ rfl hbs hnil (by rw [HL.out]; omega) hB2 ?_
        intro v' w2 ho' hg' hgr
        have hb3 := Own.belowOf hb2 hB2 ho1 hg'
        refine hK.out _ _ hb3 ?_
        clear hK K
        try simp only [Act.put, List.setIfInBounds_toArray, List.set_cons_zero, List.set_cons_succ]
        repeat (first | (refine Seq.Seq.skip (by rfl) ?_; (try simp only [Act.put, List.setIfInBounds_toArray, List.set_cons_zero, List.set_cons_succ])) | (refine Seq.Seq.det ?_ (by rfl) (fun w hS => ?_) ?_; rotate_left; ((try dsimp only at hS); go_simp; (try rw [if_pos (by omega)]); with_reducible rfl); (try simp only [Act.put, List.setIfInBounds_toArray, List.set_cons_zero, List.set_cons_succ])))
        refine Seq.Seq.nil ?_
        go_wp2
        go_roundw
        case rel => exact ⟨j + 1 + 1, by omega, by go_num, by rw [HZ1.out]; exact ho', hb3⟩
        case measure => simp [intOf]; omega
    · obtain rfl : k = n := by omega
      obtain ⟨A1, c1, rfl⟩ := ho.slice
      have e := HZ.out
      have HE := Lib.hid e
      clear e
      go_wp2
      go_ret
      have hr : rzk z k = rz z := by unfold rz; rw [HE.out]
      rw [← hr]
      exact Own.rowPost (B := 0) ho hb
end Go.Proofs.Ytccbgoddalbbaaa.Cur

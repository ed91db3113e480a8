/- Rising lists: the document's bytes; two lists of numbers that are the same are told the same. -/
import Derived.Test.YtkedmhopajpkhaaZigC
namespace Go.Proofs.Ytkedmhopajpkhaa.Cur
open Go.RowKit Mem
set_option linter.unusedVariables false


set_option maxHeartbeats 1000000 in
theorem same5_any (A B : Option Addr) (n m c d : Nat) (z : List Int) (w : World) (ha : Us w A n z) (hb : Us w B m z) (hn : n ≤ 1000000) (hby : ∀ x ∈ z, 0 ≤ x ∧ x < 18446744073709551616) :
    Calls Try.prog 22 #[.slice A n c, .slice B m d] w (BPost (.bool true) w) := by
  unfold BPost
  obtain rfl : m = n := by rw [← ha.1, ← hb.1]
  by_cases hn0 : m = 0
  · subst hn0
    clear ha hb
    go_enter Try.func22, Try.ntmps22
    go_wp2
    go_loopw [5] (fun i wr => i = .int .i64 0 ∧ wr = w) (fun i _ => 0)
    case atStart => exact ⟨rfl, rfl⟩
    case round =>
      obtain ⟨rfl, rfl⟩ := hrel
      go_wp2
      go_ret
      exact ⟨rfl, Below.refl _ _⟩
  · have hzl := ha.1
    obtain ⟨g, o, rfl, hg, hc⟩ := ha.cells (by omega)
    obtain ⟨g', o', rfl, hg', hc'⟩ := hb.cells (by omega)
    have HC := Lib.hid hc
    have HC' := Lib.hid hc'
    have HB := Lib.hid hby
    have HZ := Lib.hid hzl
    clear hc hc' ha hb hby hzl
    go_enter Try.func22, Try.ntmps22
    go_wp2
    go_loopw [5] (fun i wr => ∃ k : Nat, k ≤ m ∧ i = .int .i64 k ∧ Below w.heap.size w wr) (fun i _ => m - (intOf i).toNat)
    case atStart => exact ⟨0, by omega, rfl, Below.refl _ _⟩
    case round =>
      obtain ⟨k, hk, rfl, hb⟩ := hrel
      by_cases hlt : k < m
      · have c0 := HC.out wr hb k hlt
        have c1 := HC'.out wr hb k hlt
        have b0 := HB.out _ (getD_mem (z := z) (k := k) (by rw [HZ.out]; exact hlt))
        generalize z.getD k 0 = x at *
        have e2 : (k : Int) < m := by omega
        go_wp2
        go_quiet (fail)
        go_wp2
        go_roundw
        case rel => exact ⟨k + 1, hlt, by go_num, below_drewN hb _⟩
        case measure => simp [intOf]; omega
      · go_wp2
        go_ret
        exact ⟨rfl, hb⟩

theorem below_one' (w : World) : Below w.heap.size w w.drew := ⟨rfl, rfl, rfl, Nat.le_refl _, fun _ _ => rfl⟩
theorem oper_append_gr {w : World} {o : Oper} {a : Act} {K : Act → World → Prop} {Q : Exit → Act → World → Prop} (s x : Operand)
    (ho : o.op = .call { callee := .builtin .append, args := #[s, x], argTypes := #[22, 22] })
    (B : Nat) (v : Value) (z : List Int) (hs : a.eval s = v) (hown : Own w B v z) (A : Option Addr) (m c : Nat) (news : List Int) (hx : a.eval x = .slice A m c) (hr : Bs w A m news) (hc : A = none → c = 0)
    (hsz : z.length + m ≤ 1000000) (hB : B ≤ w.heap.size)
    (h : ∀ v' w', Own w' B v' (z ++ news) → w.grownBy w' v.ownBlock → Gr v.ownBlock v'.ownBlock w → K (a.put o.dst v') w') : o.wp Try.prog a w K Q := by
  obtain ⟨v', w', hrun, h2, h3, h4⟩ := run_append_gr w o.type B v z hown A m c news hr hc hsz hB
  unfold Oper.wp
  simp [execOp, ho, resolve, invoke, builtin, hs, hx, hrun, Result.andThen]
  exact h v' w' h2 h3 h4

end Go.Proofs.Ytkedmhopajpkhaa.Cur

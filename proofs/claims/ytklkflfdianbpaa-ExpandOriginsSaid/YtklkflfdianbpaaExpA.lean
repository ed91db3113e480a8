/- Tokens expanded, as values: what keeps a token from being expanded (check); a copy's elements, one by one (again). -/
import Derived.Test.YtklkflfdianbpaaTokB
import Derived.Test.YtklkflfdianbpaaTokH
import Derived.Deep.LoopGhost
namespace Go.Proofs.Ytklkflfdianbpaa.Cur
open Go.RowKit Mem
set_option linter.unusedVariables false

/-- What keeps a token from being expanded behind so many bytes: its code. -/
def chk (n : Nat) (o l before bound : Int) : Int := if trun n o l || tcpy n o l then (if bound < before + tsz n o l then 11 else if before < o then 10 else 0) else 3

set_option maxHeartbeats 1000000 in
theorem check_any (A : Option Addr) (n m : Nat) (o l before bound : Int) (w : World) (h0 : 0 ≤ before) (h1 : before ≤ 1000000000000) (ho : -9223372036854775808 ≤ o ∧ o ≤ 9223372036854775807) :
    Calls Try.prog 47 #[tv A n m o l, .int .i64 before, .int .i64 bound] w (BPost (.int .i64 (chk n o l before bound)) w) := by
  unfold BPost
  obtain ⟨hX, hB⟩ := tbox w (.slice A n m) (.int .i64 o) (.int .i64 l) 34
  obtain ⟨c0, c1, c2⟩ := hX.c3
  clear hX
  have hsz := tsz_bd n o l
  obtain ⟨s, hs⟩ : ∃ s, s = tsz n o l := ⟨_, rfl⟩
  rw [← hs] at hsz
  have e1 : IntKind.i64.wrap (before + s) = before + s := IntWalk.i64_in _ (by omega)
  cases hr : (trun n o l || tcpy n o l)
  · have E : Hid (chk n o l before bound = 3) := Lib.hid (by unfold chk; rw [hr]; rfl)
    have HR := Lib.hid hr
    clear hr hs
    go_enter Try.func47, Try.ntmps47
    go_wp2_with fail
    refine (tright_any _ _ _ _ _ _).mono ?_
    rintro e w1 ⟨rfl, hb1⟩
    rw [HR.out]
    replace hB := hB.trans (hb1.mono hB.size)
    go_wp2
    go_ret
    exact ⟨by rw [E.out]; rfl, hB⟩
  · have HR := Lib.hid hr
    have HS := Lib.hid hs
    by_cases hb : bound < before + s
    · have E : Hid (chk n o l before bound = 11) := Lib.hid (by unfold chk; rw [hr, if_pos rfl, ← hs, if_pos hb])
      clear hr hs
      go_enter Try.func47, Try.ntmps47
      go_wp2_with fail
      refine (tright_any _ _ _ _ _ _).mono ?_
      rintro e w1 ⟨rfl, hb1⟩
      rw [HR.out]
      have hB1 := hB.trans (hb1.mono hB.size)
      obtain ⟨c0, c1, c2⟩ := (tbox w (.slice A n m) (.int .i64 o) (.int .i64 l) 34).1.below hb1 |>.c3
      go_wp2_with fail
      refine (tlen_any _ _ _ _ _ _).mono ?_
      rintro e w2 ⟨rfl, hb2⟩
      rw [← HS.out]
      replace hB1 := hB1.trans (hb2.mono hB1.size)
      go_wp2
      go_ret
      exact ⟨by rw [E.out]; rfl, hB1⟩
    · by_cases hc : before < o
      · have E : Hid (chk n o l before bound = 10) := Lib.hid (by unfold chk; rw [hr, if_pos rfl, ← hs, if_neg hb, if_pos hc])
        clear hr hs
        go_enter Try.func47, Try.ntmps47
        go_wp2_with fail
        refine (tright_any _ _ _ _ _ _).mono ?_
        rintro e w1 ⟨rfl, hb1⟩
        rw [HR.out]
        have hB1 := hB.trans (hb1.mono hB.size)
        have hX1 := (tbox w (.slice A n m) (.int .i64 o) (.int .i64 l) 34).1.below hb1
        obtain ⟨c0, c1, c2⟩ := hX1.c3
        go_wp2_with fail
        refine (tlen_any _ _ _ _ _ _).mono ?_
        rintro e w2 ⟨rfl, hb2⟩
        rw [← HS.out]
        replace hB1 := hB1.trans (hb2.mono hB1.size)
        obtain ⟨c0, c1, c2⟩ := (hX1.below hb2).c3
        go_wp2
        go_ret
        exact ⟨by rw [E.out]; rfl, hB1⟩
      · have E : Hid (chk n o l before bound = 0) := Lib.hid (by unfold chk; rw [hr, if_pos rfl, ← hs, if_neg hb, if_neg hc])
        clear hr hs
        go_enter Try.func47, Try.ntmps47
        go_wp2_with fail
        refine (tright_any _ _ _ _ _ _).mono ?_
        rintro e w1 ⟨rfl, hb1⟩
        rw [HR.out]
        have hB1 := hB.trans (hb1.mono hB.size)
        have hX1 := (tbox w (.slice A n m) (.int .i64 o) (.int .i64 l) 34).1.below hb1
        obtain ⟨c0, c1, c2⟩ := hX1.c3
        go_wp2_with fail
        refine (tlen_any _ _ _ _ _ _).mono ?_
        rintro e w2 ⟨rfl, hb2⟩
        rw [← HS.out]
        replace hB1 := hB1.trans (hb2.mono hB1.size)
        obtain ⟨c0, c1, c2⟩ := (hX1.below hb2).c3
        go_wp2
        go_ret
        exact ⟨by rw [E.out]; rfl, hB1⟩
/-- A copy's elements, one by one: each is what f makes of the one that lies o ahead of it. -/
def agn {α : Type} (d : α) (f : α → α) (z : List α) (o : Int) : Nat → List α
  | 0 => z
  | k + 1 => agn d f z o k ++ [f ((agn d f z o k).getD ((z.length + k : Nat) - o).toNat d)]
theorem agn_length {α : Type} (d : α) (f : α → α) (z : List α) (o : Int) (k : Nat) : (agn d f z o k).length = z.length + k := by
  induction k with
  | zero => rfl
  | succ k ih => rw [agn, List.length_append, ih]; rfl
end Go.Proofs.Ytklkflfdianbpaa.Cur

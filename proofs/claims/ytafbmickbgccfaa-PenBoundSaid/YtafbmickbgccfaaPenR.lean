/- The document's own writer, as a value (package tholepinref03): New, Fail, Put, Fixed. -/
import Derived.Test.YtafbmickbgccfaaPenC
import Derived.Test.YtafbmickbgccfaaSame
namespace Go.Proofs.Ytafbmickbgccfaa.Cur
open Go.RowKit Mem
set_option linter.unusedVariables false

/-- The document's writer as a value. -/
abbrev wv (M : Int) (s : Value) (c : Int) : Value := .agg #[.int .i64 M, s, .int .i64 c]

set_option maxHeartbeats 400000 in
theorem rnew3_any (x : Int) (w : World) :
    Calls Try.prog 10 #[.int .i64 x] w fun e w' => e = .returned (wv (if x < 0 then 0 else x) (.slice none 0 0) 0) ∧ Below w.heap.size w w' := by
  by_cases h0 : x < 0
  · rw [if_pos h0]
    go_enter Try.func10, Try.ntmps10
    go_wp2
    exact bodyPost_ret (v := wv 0 (.slice none 0 0) 0) (by simp [results, Try.results10, go_sem]) rfl ⟨rfl, below_one _ _⟩
  · rw [if_neg h0]
    go_enter Try.func10, Try.ntmps10
    go_wp2
    exact bodyPost_ret (v := wv x (.slice none 0 0) 0) (by simp [results, Try.results10, go_sem]) rfl ⟨rfl, below_one _ _⟩

set_option maxHeartbeats 400000 in
theorem rfail3_any (M c c' : Int) (A : Option Addr) (n m : Nat) (w : World) :
    Calls Try.prog 17 #[wv M (.slice A n m) c, .int .i64 c'] w fun e w' => e = .returned (wv M (.slice A n m) (if c = 0 then c' else c)) ∧ Below w.heap.size w w' := by
  by_cases hc : c = 0
  · subst hc
    rw [if_pos rfl]
    go_enter Try.func17, Try.ntmps17
    go_wp2
    refine bodyPost_ret (v := wv M (.slice A n m) c') (by simp [results, Try.results17, go_sem]) rfl ⟨rfl, ?_⟩
    exact below_two _ _ _
  · rw [if_neg hc]
    have hcb : (c == 0) = false := by simpa using hc
    clear hc
    go_enter Try.func17, Try.ntmps17
    go_wp2
    refine bodyPost_ret (v := wv M (.slice A n m) c) (by simp [results, Try.results17, go_sem]) rfl ⟨rfl, ?_⟩
    exact below_two _ _ _

def RPutPost (A : Option Addr) (z y : List Int) (M c : Int) (w : World) (e : Ending) (w' : World) : Prop :=
  ∃ A' n' m', e = .returned (wv M (.slice A' n' m') (putC z y M c)) ∧ Below w.heap.size w w' ∧ Bs w' A' n' (putZ z y M c) ∧ (A' = none → m' = 0) ∧ ((A' = A ∧ putZ z y M c = z) ∨ ∀ a, A' = some a → w.heap.size ≤ a.block)

theorem putZ_bad {z y : List Int} {M c : Int} (h : ¬ (c = 0 ∧ (y.length : Int) ≤ M - z.length)) : putZ z y M c = z := if_neg h

set_option maxHeartbeats 800000 in
theorem rput3_any (M c : Int) (A A2 : Option Addr) (n m n2 m2 : Nat) (z y : List Int) (w : World) (hz : Bs w A n z) (hy : Bs w A2 n2 y) (ha : A = none → m = 0) (ha2 : A2 = none → m2 = 0) (hsz : n + n2 ≤ 1000000) :
    Calls Try.prog 12 #[wv M (.slice A n m) c, .slice A2 n2 m2] w (RPutPost A z y M c w) := by
  have hz1 := hz.1
  have hy1 := hy.1
  subst hz1 hy1
  by_cases hc : c = 0
  · subst hc
    by_cases hle : M < (z.length : Int) + y.length
    · have hp : putZ z y M 0 = z := putZ_bad (by omega)
      have hq : putC z y M 0 = 2 := by unfold putC fitsC; rw [if_pos ⟨rfl, by omega⟩]
      have HP := Lib.hid hp
      have HQ := Lib.hid hq
      clear hp hq
      go_enter Try.func12, Try.ntmps12
      go_wp2
      refine bodyPost_ret (v := wv M (.slice A z.length m) 2) (by simp [results, Try.results12, go_sem]) rfl ⟨A, z.length, m, by rw [HQ.out], ?_, ?_, ha, .inl ⟨rfl, HP.out⟩⟩
      · exact below_two _ _ _
      · rw [HP.out]; exact hz.below (below_two _ _ _)
    · have hp : putZ z y M 0 = z ++ y := if_pos ⟨rfl, by omega⟩
      have hq : putC z y M 0 = 0 := by unfold putC fitsC; rw [if_neg (by omega)]
      have HP := Lib.hid hp
      have HQ := Lib.hid hq
      clear hp hq
      go_enter Try.func12, Try.ntmps12
      go_wp2_with (at_builtin; first
        | (refine list_append_bs rfl (.tmp 21) (.tmp 23) rfl (w.heap.size + 2) (.slice none 0 0) [] rfl (Own.nil _ _) _ _ _ _ rfl (hz.below (below_two _ _ _)) ha (by simp; omega) (by simp) ?_; intro v1 w1 hown hg; rw [List.nil_append] at hown; obtain ⟨h0, h1, hb⟩ := two_new (Below.of_grown_none hg); obtain ⟨A1, M1, hv⟩ := hown.slice; subst hv; obtain ⟨c0, c1, c2⟩ := h0.c3; clear hg)
        | (refine list_append_bs rfl (.tmp 25) (.tmp 26) rfl (w.heap.size + 2) (.slice A1 z.length M1) z rfl hown _ _ _ _ rfl (hy.below hb) ha2 hsz (by have := h1.lt; omega) ?_; intro v2 w2 hown2 hg2; have k2 := Ks.of_grown (S := fun k => (Value.slice A1 z.length M1).ownBlock = some k) hg2 fun k hk => hk; have h02 := h0.ks k2 (hown.ne_blk h0 (by decide)); have h12 := h1.ks k2 (hown.ne_blk h1 (by decide)); have hb2 := k2.below hb (Nat.le_refl _) (fun k hk => by have := hown.ge k hk; omega); obtain ⟨A3, M3, hv2⟩ := hown2.slice; subst hv2; clear c0 c1 c2 h0 h1 hb hown hg2 k2; obtain ⟨c0, c1, c2⟩ := h02.c3; have f0 := h02.free 1; obtain ⟨d0, d1, d2⟩ := h12.c3; have g0 := h12.free 0; have g1 := h12.free 1; have g2 := h12.free 2))
      refine bodyPost_ret (v := wv M (.slice A3 (z ++ y).length M3) 0) (by simp [results, Try.results12, go_sem, d0, d1, d2]) rfl ⟨A3, (z ++ y).length, M3, by rw [HQ.out], ?_, ?_, ?_, ?_⟩
      · iterate 4 (refine Below.setCell ?_ (by simp) _)
        exact hb2
      · rw [HP.out]
        refine (Own.bs (B := w.heap.size + 2) (c := M3) ?_).2
        iterate 4 (refine Own.far ?_ (by simp) _)
        exact hown2
      · intro e
        subst e
        rcases hown2.2 with ⟨e, _⟩ | ⟨g, cap, cur, e, _⟩
        · injection e
        · injection e with e; cases e
      · right
        intro a ha
        subst ha
        rcases hown2.2 with ⟨e, _⟩ | ⟨g, cap, cur, e, hg, _⟩
        · injection e with e; cases e
        · injection e with e; injection e with e; subst e; show _ ≤ g; omega
  · have hp : putZ z y M c = z := putZ_bad (fun h => hc h.1)
    have hq : putC z y M c = c := by unfold putC fitsC; rw [if_neg (fun h => hc h.1)]
    have hcb : (c != 0) = true := by simpa using hc
    have HP := Lib.hid hp
    have HQ := Lib.hid hq
    clear hp hq hc
    go_enter Try.func12, Try.ntmps12
    go_wp2
    refine bodyPost_ret (v := wv M (.slice A z.length m) c) (by simp [results, Try.results12, go_sem]) rfl ⟨A, z.length, m, by rw [HQ.out], ?_, ?_, ha, .inl ⟨rfl, HP.out⟩⟩
    · exact below_two _ _ _
    · rw [HP.out]; exact hz.below (below_two _ _ _)
end Go.Proofs.Ytafbmickbgccfaa.Cur

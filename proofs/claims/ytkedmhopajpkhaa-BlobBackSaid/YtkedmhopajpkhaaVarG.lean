/- The document's Most and Int. -/
import Derived.Test.YtkedmhopajpkhaaVarF
namespace Go.Proofs.Ytkedmhopajpkhaa.Cur
open Go.RowKit Mem
set_option linter.unusedVariables false

def RMostPost (s : Value) (n : Nat) (z : List Int) (p c q mo : Int) (w : World) (e : Ending) (w' : World) : Prop :=
  ∃ v p' c' q', e = .returned (.tuple #[cv s p' c' q', .int .u64 v]) ∧ Below w.heap.size w w' ∧ MostSt n z p c q mo v p' c' q'

set_option maxRecDepth 100000 in
set_option maxHeartbeats 1000000 in
theorem rmost_any (a : Option Addr) (n m : Nat) (z : List Int) (p c q mo : Int) (w : World) (hz : Bs w a n z) (h0 : 0 ≤ p) (h1 : p ≤ n) (hm : n ≤ m) (hn : n ≤ 1000000) (hby : ∀ x ∈ z, 0 ≤ x ∧ x < 256) :
    Calls Try.prog 47 #[cv (.slice a n m) p c q, .int .u64 mo] w (RMostPost (.slice a n m) n z p c q mo w) := by
  go_enter Try.func47, Try.ntmps47
  go_wp2_with fail
  refine (rread_any _ _ _ _ _ _ _ _ (hz.below (below_two _ _ _)) h0 h1 hm hn hby).mono ?_
  rintro e w1 ⟨v0, p', c0, q0, rfl, hb, hs⟩
  obtain ⟨hC, hR, hbd⟩ := two_new hb
  have HS := Lib.hid hs
  have hR2 := hR.alloc (.cells #[.slice a n m, .int .i64 p', .int .i64 c0, .int .i64 q0] 43)
  have hbd2 := hbd.trans ((below_one w1 (.cells #[.slice a n m, .int .i64 p', .int .i64 c0, .int .i64 q0] 43)).mono hbd.size)
  clear hs hb
  by_cases hv : mo < v0
  · go_wp2_with fail
    refine (rfail_any _ _ _ _ _ _ _ _ _).mono ?_
    rintro e w2 ⟨c2, q2, rfl, hb2, hf⟩
    have HF := Lib.hid hf
    have hR3 := hR2.below hb2
    have hbd3 := hbd2.trans (hb2.mono hbd2.size)
    clear hf hb2
    obtain ⟨r0, r1, r2, r3⟩ := hR3.c4
    obtain ⟨g0, g1, g2, g3⟩ := hR3.f4
    go_wp2
    refine bodyPost_ret (v := .tuple #[cv (.slice a n m) p' c2 q2, .int .u64 0]) (by simp [results, Try.results47, go_sem, r0, r1, r2, r3]) rfl ⟨0, _, _, _, rfl, ?_, _, _, _, HS.out, .inl ⟨hv, rfl, HF.out⟩⟩
    iterate 4 (refine Below.setCell ?_ (by simp) _)
    exact hbd3
  · obtain ⟨r0, r1, r2, r3⟩ := hR2.c4
    obtain ⟨g0, g1, g2, g3⟩ := hR2.f4
    go_wp2
    refine bodyPost_ret (v := .tuple #[cv (.slice a n m) p' c0 q0, .int .u64 v0]) (by simp [results, Try.results47, go_sem, r0, r1, r2, r3]) rfl ⟨v0, _, _, _, rfl, ?_, _, _, _, HS.out, .inr ⟨by omega, rfl, rfl, rfl⟩⟩
    iterate 4 (refine Below.setCell ?_ (by simp) _)
    exact hbd2

def RIntPost (s : Value) (n : Nat) (z : List Int) (p c q mo : Int) (w : World) (e : Ending) (w' : World) : Prop :=
  ∃ v p' c' q', e = .returned (.tuple #[cv s p' c' q', .int .i64 v]) ∧ Below w.heap.size w w' ∧ IntSt n z p c q mo v p' c' q'

set_option maxRecDepth 100000 in
set_option maxHeartbeats 1000000 in
theorem rint_any (a : Option Addr) (n m : Nat) (z : List Int) (p c q mo : Int) (w : World) (hz : Bs w a n z) (h0 : 0 ≤ p) (h1 : p ≤ n) (hm : n ≤ m) (hn : n ≤ 1000000) (hby : ∀ x ∈ z, 0 ≤ x ∧ x < 256) (hmo1 : mo ≤ 9223372036854775807) :
    Calls Try.prog 35 #[cv (.slice a n m) p c q, .int .i64 mo] w (RIntPost (.slice a n m) n z p c q mo w) := by
  by_cases hmo : 0 ≤ mo
  · have hmu : mo < 18446744073709551616 := by omega
    go_enter Try.func35, Try.ntmps35
    go_wp2_with fail
    refine (rmost_any _ _ _ _ _ _ _ _ _ (hz.below (below_two _ _ _)) h0 h1 hm hn hby).mono ?_
    rintro e w1 ⟨v0, p', c0, q0, rfl, hb, hs⟩
    obtain ⟨hC, hR, hbd⟩ := two_new hb
    obtain ⟨b0, b1⟩ := hs.bd hmo hby
    have b2 : v0 ≤ 9223372036854775807 := by omega
    have HS := Lib.hid hs
    have hR2 := hR.alloc (.cells #[.slice a n m, .int .i64 p', .int .i64 c0, .int .i64 q0] 43)
    have hbd2 := hbd.trans ((below_one w1 (.cells #[.slice a n m, .int .i64 p', .int .i64 c0, .int .i64 q0] 43)).mono hbd.size)
    clear hs hb
    obtain ⟨r0, r1, r2, r3⟩ := hR2.c4
    obtain ⟨g0, g1, g2, g3⟩ := hR2.f4
    go_wp2
    refine bodyPost_ret (v := .tuple #[cv (.slice a n m) p' c0 q0, .int .i64 v0]) (by simp [results, Try.results35, go_sem, r0, r1, r2, r3]) rfl ⟨v0, _, _, _, rfl, ?_, .inl ⟨hmo, HS.out⟩⟩
    iterate 4 (refine Below.setCell ?_ (by simp) _)
    exact hbd2
  · have hmo' : ¬ 0 ≤ mo := hmo
    go_enter Try.func35, Try.ntmps35
    go_wp2_with fail
    refine (rread_any _ _ _ _ _ _ _ _ (hz.below (below_two _ _ _)) h0 h1 hm hn hby).mono ?_
    rintro e w1 ⟨v0, p', c0, q0, rfl, hb, hs⟩
    obtain ⟨hC, hR, hbd⟩ := two_new hb
    have HS := Lib.hid hs
    have hC2 := hC.alloc (.cells #[.slice a n m, .int .i64 p', .int .i64 c0, .int .i64 q0] 43)
    have hR2 := hR.alloc (.cells #[.slice a n m, .int .i64 p', .int .i64 c0, .int .i64 q0] 43)
    have hbd2 := hbd.trans ((below_one w1 (.cells #[.slice a n m, .int .i64 p', .int .i64 c0, .int .i64 q0] 43)).mono hbd.size)
    clear hs hb
    obtain ⟨c0', c1', c2', c3'⟩ := hC2.c4
    go_wp2_with fail
    refine (rfail_any _ _ _ _ _ _ _ _ _).mono ?_
    rintro e w2 ⟨c2, q2, rfl, hb2, hf⟩
    have HF := Lib.hid hf
    have hR3 := hR2.below hb2
    have hbd3 := hbd2.trans (hb2.mono hbd2.size)
    clear hf hb2
    obtain ⟨r0, r1, r2, r3⟩ := hR3.c4
    obtain ⟨g0, g1, g2, g3⟩ := hR3.f4
    go_wp2
    refine bodyPost_ret (v := .tuple #[cv (.slice a n m) p' c2 q2, .int .i64 0]) (by simp [results, Try.results35, go_sem, r0, r1, r2, r3]) rfl ⟨0, _, _, _, rfl, ?_, .inr ⟨by omega, rfl, _, _, _, HS.out, HF.out⟩⟩
    iterate 4 (refine Below.setCell ?_ (by simp) _)
    exact hbd3
end Go.Proofs.Ytkedmhopajpkhaa.Cur

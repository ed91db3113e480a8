/- Stripes read by the document. -/
import Derived.Test.YtghlediibhnloaaStpJ
import Derived.Test.YtghlediibhnloaaStpE
import Derived.Test.YtghlediibhnloaaK5
import Derived.Test.YtghlediibhnloaaK4
namespace Go.Proofs.Ytghlediibhnloaa.Cur
open Go.RowKit Mem
set_option linter.unusedVariables false
set_option maxRecDepth 100000


def RNumPost (s : Value) (n : Nat) (g : Rs Int) (p c q : Int) (w : World) (e : Ending) (w' : World) : Prop :=
  ∃ k p' c' q', e = .returned (.tuple #[cv s p' c' q', .int .i64 k]) ∧ Below w.heap.size w w' ∧ St 0 n g p c q k p' c' q'
set_option maxHeartbeats 2000000 in
theorem rmany_any (a : Option Addr) (n m : Nat) (z : List Int) (p c q mo : Int) (w : World) (hz : Bs w a n z) (h0 : 0 ≤ p) (h1 : p ≤ n) (hm : n ≤ m) (hn : n ≤ 1000000) (hby : ∀ x ∈ z, 0 ≤ x ∧ x < 256) (hmo : mo ≤ 9223372036854775807) :
    Calls Try.prog 91 #[cv (.slice a n m) p c q, .int .i64 mo] w (RNumPost (.slice a n m) n (mny z mo p) p c q w) := by
  have HBY := Lib.hid hby
  clear hby
  go_enter Try.func91, Try.ntmps91
  go_wp2_with fail
  refine (rint_any _ _ _ _ _ _ _ _ _ (hz.below (below_two _ _ _)) h0 h1 hm hn HBY.out hmo).mono ?_
  rintro e w1 ⟨v, p1, c1, q1, rfl, hb, hs1⟩
  obtain ⟨hC, hR, hbd⟩ := two_new hb
  have hst := hs1.st hz.1 h0 h1 HBY.out
  obtain ⟨p10, p11⟩ := hst.place
  have HS := Lib.hid hst
  have hD := Blk.new w1 (cvs (.slice a n m) p1 c1 q1) 48
  have hbD := below_one w1 (.cells (cvs (.slice a n m) p1 c1 q1) 48)
  have hC1 := hC.below hbD
  have hR1 := hR.below hbD
  have hbd1 := hbd.trans (hbD.mono hbd.size)
  have hRl := hR.lt
  clear hs1 hst hb hbD hC hR hbd
  go_upto_region 2 with (fail)
  generalize w1.alloc (.cells (cvs (.slice a n m) p1 c1 q1) 48) = w2 at *
  generalize w1.heap.size = d at *
  obtain ⟨x0, x1, x2, x3⟩ := hC1.c4
  obtain ⟨d0, d1, d2, d3⟩ := hD.c4
  obtain ⟨f0, f1, f2, f3⟩ := hD.f4
  obtain ⟨r0, r1, r2, r3⟩ := hR1.c4
  obtain ⟨g0, g1, g2, g3⟩ := hR1.f4
  by_cases hv : v = 0
  · subst hv
    go_wp2_with fail
    refine (rfail_any _ _ _ _ _ _ _ _ _).mono ?_
    rintro e w3 ⟨c3, q3, rfl, hb3, hf⟩
    have HM : Hid (St 0 n (mny z mo p) p c q 0 p1 c3 q3) := Lib.hid (HS.out.bind (f := fun k p1 => if k = 0 then (0, 0, 3, p) else (k, p1, 0, 0)) (St.fail (d' := 0) (x := 0) (by rw [if_pos rfl]) (by decide) p10 p11 hf))
    have hdw : w.heap.size ≤ d := by have := hRl; omega
    have hdne : w.heap.size + 1 < d := hRl
    have hD3 := hD.below hb3
    have hR3 := hR1.below hb3
    have hbd3 := hbd1.trans (hb3.mono hbd1.size)
    clear hf hb3 hD hR1 hC1 hbd1 x0 x1 x2 x3 d0 d1 d2 d3 f0 f1 f2 f3 r0 r1 r2 r3 g0 g1 g2 g3
    obtain ⟨d0, d1, d2, d3⟩ := hD3.c4
    obtain ⟨f0, f1, f2, f3⟩ := hD3.f4
    obtain ⟨r0, r1, r2, r3⟩ := hR3.c4
    obtain ⟨g0, g1, g2, g3⟩ := hR3.f4
    clear hD3 hR3
    go_wp2
    refine bodyPost_ret (v := .tuple #[cv (.slice a n m) p1 c3 q3, .int .i64 0]) (by simp [results, Try.results91, go_sem, r0, r1, r2, r3]) rfl ⟨0, _, _, _, rfl, ?_, HM.out⟩
    iterate 8 (refine Below.setCell ?_ (by first | (simp; done) | (simp; omega)) _)
    exact hbd3
  · have hvb : (v == 0) = false := by simpa using hv
    have HM : Hid (St 0 n (mny z mo p) p c q v p1 c1 q1) := Lib.hid (HS.out.bind (f := fun k p1 => if k = 0 then (0, 0, 3, p) else (k, p1, 0, 0)) (by
      rw [if_neg hv]
      by_cases hc : c1 = 0
      · subst hc; exact St.done rfl p10 p11
      · exact absurd (HS.out.nil hc) hv))
    clear hv
    go_wp2
    refine bodyPost_ret (v := .tuple #[cv (.slice a n m) p1 c1 q1, .int .i64 v]) (by simp [results, Try.results91, go_sem, r0, r1, r2, r3]) rfl ⟨v, _, _, _, rfl, ?_, HM.out⟩
    iterate 4 (refine Below.setCell ?_ (by simp) _)
    exact hbd1

def RStPost (s : Value) (n : Nat) (z : List Int) (f p c q : Int) (w : World) (e : Ending) (w' : World) : Prop :=
  ∃ (f' t : Int) (A : Option Addr) (N m : Nat) (S : List (List Int)) (p' c' q' : Int), e = .returned (.tuple #[cv s p' c' q', stagg f' t A N m]) ∧ Below w.heap.size w w' ∧ Sts w' (fun k => w.heap.size ≤ k) A N S ∧ N ≤ m ∧ (A = none → m = 0) ∧
    (0 ≤ f' ∧ f' < 18446744073709551616) ∧ (0 ≤ t ∧ t < 18446744073709551616) ∧ sbds S ∧ (∀ l ∈ S, l.length ≤ 8) ∧ N ≤ 8 ∧ St stp0 n (str z f p) p c q (f', t, S) p' c' q'
theorem RStPost.zero {s : Value} {n : Nat} {z : List Int} {f p c q : Int} {w w' : World} {p' c' q' : Int} (hb : Below w.heap.size w w') (h : St stp0 n (str z f p) p c q stp0 p' c' q') : RStPost s n z f p c q w (.returned (.tuple #[cv s p' c' q', stagg 0 0 none 0 0])) w' :=
  ⟨0, 0, none, 0, 0, [], p', c', q', rfl, hb, ⟨rfl, Sq.nil _ _ _ _⟩, by omega, fun _ => rfl, by omega, by omega, fun l h => by simp at h, fun l h => by simp at h, by omega, h⟩

set_option maxHeartbeats 4000000 in
theorem rread19_over (a : Option Addr) (n m : Nat) (z : List Int) (f p c q : Int) (w : World) (hz : Bs w a n z) (h0 : 0 ≤ p) (h1 : p ≤ n) (hm : n ≤ m) (hn : n ≤ 100000) (hf : 4611686018427387904 < f) :
    Calls Try.prog 58 #[cv (.slice a n m) p c q, .int .u64 f] w (RStPost (.slice a n m) n z f p c q w) := by
  have HE : Hid (str z f p = (stp0, 0, 3, p)) := Lib.hid (by unfold str; rw [if_pos hf])
  go_enter Try.func58, Try.ntmps58
  go_wp2_with fail
  refine (rfail_any _ _ _ _ _ _ _ _ _).mono ?_
  rintro e w1 ⟨c1, q1, rfl, hb, hfs⟩
  obtain ⟨hX, hR, hZ, hbd⟩ := three_new hb
  have HF := Lib.hid (St.fail (d := stp0) (n := n) (p := p) HE.out (by decide) h0 h1 hfs)
  clear hb hX hfs
  obtain ⟨r0, r1, r2, r3⟩ := hR.c4
  obtain ⟨g0, g1, g2, g3⟩ := hR.f4
  obtain ⟨s0, s1, s2⟩ := hZ.c3
  have k0 := hZ.free 0
  have k1 := hZ.free 1
  have k2 := hZ.free 2
  clear hR hZ
  go_wp2
  refine bodyPost_ret (by simp [results, Try.results58, go_sem, r0, r1, r2, r3, s0, s1, s2]) rfl (RStPost.zero ?_ HF.out)
  iterate 7 (refine Below.setCell ?_ (by first | (simp; done) | (simp; omega)) _)
  exact hbd
end Go.Proofs.Ytghlediibhnloaa.Cur

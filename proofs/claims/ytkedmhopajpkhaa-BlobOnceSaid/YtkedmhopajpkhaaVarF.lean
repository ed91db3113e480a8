/- The document's Read, Most and Int. -/
import Derived.Test.YtkedmhopajpkhaaVarE
namespace Go.Proofs.Ytkedmhopajpkhaa.Cur
open Go.RowKit Mem
set_option linter.unusedVariables false

theorem slice_l {w : World} {A : Option Addr} {n : Nat} {z : List Int} (hz : Bs w A n z) (m : Nat) (l : Int) (h0 : 0 ≤ l) (h1 : l ≤ n) (hm : n ≤ m) :
    ∃ A' M, (∀ w', (Instr.slice 22 (.slice A n m) (some (.int .i64 l)) none none).run Try.prog w' = .ok (.slice A' (n - l).toNat M) w') ∧ Bs w A' (n - l).toNat (z.drop l.toNat) ∧ (n - l).toNat ≤ M := by
  have hs : ∀ w', (sizeOf 5).run Try.prog w' = .ok 1 w' := fun w' => by kernel_rfl
  have he : Try.prog.elem 22 = 5 := by kernel_rfl
  refine ⟨if m = l.toNat then A else A.map (·.add (l.toNat * 1)), m - l.toNat, fun w' => ?_, ?_, by omega⟩
  · have := run_slice_l (P := Try.prog) (w := w') 22 A n m (by rw [he]; exact Try.underlying22) .i64 l h0 h1
    rw [this, he, hs]
    simp [Result.andThen, sliced]
    omega
  · have := hz.sub m l.toNat n (by omega) (Nat.le_refl _) hm
    rw [show (n - l).toNat = n - l.toNat by omega]
    have e : piece z l.toNat n = z.drop l.toNat := by unfold piece; exact List.take_of_length_le (by rw [List.length_drop, hz.1]; exact Nat.le_refl _)
    rw [← e]
    exact this

def RRdPost (s : Value) (n : Nat) (z : List Int) (p c q : Int) (w : World) (e : Ending) (w' : World) : Prop :=
  ∃ v p' c' q', e = .returned (.tuple #[cv s p' c' q', .int .u64 v]) ∧ Below w.heap.size w w' ∧ RdSt n z p c q v p' c' q'

theorem four_new {w w1 : World} {cs ds : Array Value} {t u : Nat} (hb : Below ((w.alloc (.cells cs t)).alloc (.cells ds u)).heap.size ((w.alloc (.cells cs t)).alloc (.cells ds u)) w1) :
    Blk w1 w.heap.size cs t ∧ Blk w1 (w.heap.size + 1) ds u ∧ Below w.heap.size w w1 := two_new hb

/-- Where the faults of Get lie: within the bytes. -/
theorem vgo_place (l : List Int) : ∀ (i : Nat) (X : Int), 0 ≤ (vgo l i X).2.1 ∧ (vgo l i X).2.1 ≤ i + l.length ∧ 0 ≤ (vgo l i X).2.2.2 ∧ (vgo l i X).2.2.2 ≤ i + l.length ∧ ((vgo l i X).2.2.1 = 1 → (vgo l i X).2.2.2 = i + l.length) := by
  induction l with
  | nil => intro i X; exact ⟨Int.le_refl _, by show (0 : Int) ≤ i + _; omega, by show 0 ≤ (i : Int); omega, by show (i : Int) ≤ i + _; omega, fun _ => by show (i : Int) = i + 0; omega⟩
  | cons b l ih =>
    intro i X
    unfold vgo
    rw [List.length_cons]
    split
    · refine ⟨Int.le_refl _, by show (0 : Int) ≤ _; omega, by show 0 ≤ (i : Int); omega, by show (i : Int) ≤ _; omega, fun h => by exact absurd h (by show (5 : Int) ≠ 1; omega)⟩
    · split
      · refine ⟨Int.le_refl _, by show (0 : Int) ≤ _; omega, by show 0 ≤ (i : Int); omega, by show (i : Int) ≤ _; omega, fun h => by exact absurd h (by show (4 : Int) ≠ 1; omega)⟩
      · split
        · refine ⟨by show 0 ≤ (i : Int) + 1; omega, by show (i : Int) + 1 ≤ _; omega, Int.le_refl _, by show (0 : Int) ≤ _; omega, fun h => by exact absurd h (by show (0 : Int) ≠ 1; omega)⟩
        · obtain ⟨h1, h2, h3, h4, h5⟩ := ih (i + 1) (X + b % 128 * 128 ^ i)
          refine ⟨h1, by omega, h3, by omega, fun h => by have := h5 h; omega⟩

set_option maxRecDepth 100000 in
set_option maxHeartbeats 1000000 in
theorem rread_any (a : Option Addr) (n m : Nat) (z : List Int) (p c q : Int) (w : World) (hz : Bs w a n z) (h0 : 0 ≤ p) (h1 : p ≤ n) (hm : n ≤ m) (hn : n ≤ 1000000) (hby : ∀ x ∈ z, 0 ≤ x ∧ x < 256) :
    Calls Try.prog 37 #[cv (.slice a n m) p c q] w (RRdPost (.slice a n m) n z p c q w) := by
  by_cases hc : c = 0
  · subst hc
    obtain ⟨A', M', hsl, hA, hM⟩ := slice_l hz m p h0 h1 hm
    have hst : ∀ v p' c' q', VgSt n p q (vgo (z.drop p.toNat) 0 0) v p' c' q' → RdSt n z p 0 q v p' c' q' := fun v p' c' q' h => .inr ⟨rfl, h⟩
    have hg := fun w' (hb : Below w.heap.size w w') => rget_any A' (n - p).toNat M' (z.drop p.toNat) w' (hA.below hb) (by omega) (fun x hx => hby x (List.mem_of_mem_drop hx))
    obtain ⟨s1, s2⟩ := vgo_shape (z.drop p.toNat) 0 0
    obtain ⟨l1, l2, l3, l4, l5⟩ := vgo_place (z.drop p.toNat) 0 0
    have hlen : ((0 : Nat) : Int) + (z.drop p.toNat).length = n - p := by rw [List.length_drop, hz.1]; omega
    rw [hlen] at l2 l4 l5
    have HG := Lib.hid hg
    have HST := Lib.hid hst
    clear hst hlen
    unfold gv at hg
    generalize vgo (z.drop p.toNat) 0 0 = g at *
    obtain ⟨x, k, gc, ga⟩ := g
    simp only at s1 s2 l1 l2 l3 l4 l5 hg
    have HG := Lib.hid hg
    clear hg
    go_enter Try.func37, Try.ntmps37
    go_wp2_with fail
    refine (HG.out _ (below_two _ _ _)).mono ?_
    rintro e w1 ⟨rfl, hb⟩
    obtain ⟨hC, hR, hbd⟩ := two_new hb
    clear hsl hb
    have hC2 := hC.alloc (.cells #[.int .i64 gc, .int .i64 ga] 41)
    have hR2 := hR.alloc (.cells #[.int .i64 gc, .int .i64 ga] 41)
    have n0 : w1.heap.size ≠ w.heap.size := by have := hC.lt; omega
    have n1 : w1.heap.size ≠ w.heap.size + 1 := by have := hR.lt; omega
    by_cases hgc : gc = 0
    · subst hgc
      rw [s2 rfl] at hC2 hR2
      rw [s2 rfl]
      obtain ⟨c0, c1, c2, c3⟩ := hC2.c4
      obtain ⟨f0, f1, f2, f3⟩ := hC2.f4
      obtain ⟨g0, g1, g2, g3⟩ := hR2.f4
      obtain ⟨r0, r1, r2, r3⟩ := hR2.c4
      have hst := HST.out x (p + k) 0 q (.inl ⟨rfl, rfl, rfl, rfl, rfl⟩)
      have HS := Lib.hid hst
      clear s1 s2 l3 l4 l5 hst
      go_wp2
      refine bodyPost_ret (v := .tuple #[cv (.slice a n m) (p + k) 0 q, .int .u64 x]) (by simp [results, Try.results37, go_sem, r0, r1, r2, r3]) rfl ⟨x, p + k, 0, q, rfl, ?_, HS.out⟩
      iterate 5 (refine Below.setCell ?_ (by simp) _)
      exact hbd.alloc hbd.size _
    · obtain ⟨rfl, rfl⟩ := s1 hgc
      have hgd : (gc == 0) = false := by simpa using hgc
      clear s1 s2 l1 l2
      by_cases hg1 : gc = 1
      · have e5 := l5 hg1
        subst hg1
        have hst := HST.out 0 n 1 n (.inr ⟨by show (1 : Int) ≠ 0; omega, rfl, rfl, by show (n : Int) = p + ga; omega, by show (n : Int) = if (1 : Int) = 1 then (n : Int) else _; rw [if_pos rfl]⟩)
        have HS := Lib.hid hst
        clear hst e5 l5 hgc
        obtain ⟨c0, c1, c2, c3⟩ := hC2.c4
        obtain ⟨f0, f1, f2, f3⟩ := hC2.f4
        go_wp2_with fail
        refine (rat_any _ _ _).mono ?_
        rintro e w2 ⟨rfl, hb2⟩
        have hC3 := (hC2.set 1 (.int .i64 n)).below hb2
        have hR3 := (hR2.far 1 (.int .i64 n) (by omega)).below hb2
        have hF3 := ((Blk.new w1 #[.int .i64 1, .int .i64 ga] 41).far 1 (.int .i64 n) n0).below hb2
        have hbd2 : Below w.heap.size w w2 := (Below.setCell (hbd.alloc hbd.size _) (Nat.le_refl _) _).trans (hb2.mono (by have := hbd.size; simp [World.setCell]; omega))
        clear c0 c1 c2 c3 f0 f1 f2 f3 hC2 hR2 hb2
        obtain ⟨c0, c1, c2, c3⟩ := hC3.c4
        obtain ⟨f0, f1, f2, f3⟩ := hC3.f4
        obtain ⟨g0, g1, g2, g3⟩ := hR3.f4
        obtain ⟨r0, r1, r2, r3⟩ := hR3.c4
        obtain ⟨d0, d1⟩ := hF3.c2
        go_wp2
        refine bodyPost_ret (v := .tuple #[cv (.slice a n m) n 1 (fq 1 n), .int .u64 0]) (by simp [results, Try.results37, go_sem, r0, r1, r2, r3]) rfl ⟨0, n, 1, n, by rw [show fq 1 (n : Int) = n from rfl], ?_, HS.out⟩
        iterate 6 (refine Below.setCell ?_ (by simp) _)
        exact hbd2
      · have hg1d : (gc == 1) = false := by simpa using hg1
        have hg1e : (gc != 1) = true := by simpa using hg1
        have hst := HST.out 0 (p + ga + 1) gc (p + ga) (.inr ⟨hgc, rfl, rfl, rfl, by show _ = if gc = 1 then (n : Int) else _; rw [if_neg hg1]⟩)
        have HS := Lib.hid hst
        clear hst l5 hgc hg1
        obtain ⟨c0, c1, c2, c3⟩ := hC2.c4
        obtain ⟨f0, f1, f2, f3⟩ := hC2.f4
        go_wp2_with fail
        refine (rat_any _ _ _).mono ?_
        rintro e w2 ⟨rfl, hb2⟩
        have hC3 := (hC2.set 1 (.int .i64 (p + ga + 1))).below hb2
        have hR3 := (hR2.far 1 (.int .i64 (p + ga + 1)) (by omega)).below hb2
        have hF3 := ((Blk.new w1 #[.int .i64 gc, .int .i64 ga] 41).far 1 (.int .i64 (p + ga + 1)) n0).below hb2
        have hbd2 : Below w.heap.size w w2 := (Below.setCell (hbd.alloc hbd.size _) (Nat.le_refl _) _).trans (hb2.mono (by have := hbd.size; simp [World.setCell]; omega))
        clear c0 c1 c2 c3 f0 f1 f2 f3 hC2 hR2 hb2
        obtain ⟨c0, c1, c2, c3⟩ := hC3.c4
        obtain ⟨f0, f1, f2, f3⟩ := hC3.f4
        obtain ⟨g0, g1, g2, g3⟩ := hR3.f4
        obtain ⟨r0, r1, r2, r3⟩ := hR3.c4
        obtain ⟨d0, d1⟩ := hF3.c2
        have hC4 := ((hC3.set 2 (.int .i64 gc)).set 3 (.int .i64 (fq gc (p + ga + 1)))).set 3 (.int .i64 (p + ga))
        obtain ⟨e0, e1, e2, e3⟩ := hC4.c4
        go_wp2
        refine bodyPost_ret (v := .tuple #[cv (.slice a n m) (p + ga + 1) gc (p + ga), .int .u64 0]) (by simp [results, Try.results37, go_sem, r0, r1, r2, r3]) rfl ⟨0, _, _, _, rfl, ?_, HS.out⟩
        iterate 7 (refine Below.setCell ?_ (by simp) _)
        exact hbd2
  · have hcb : (c != 0) = true := by simpa using hc
    have H := Lib.hid hc
    clear hc
    go_enter Try.func37, Try.ntmps37
    go_wp2
    refine bodyPost_ret (v := .tuple #[cv (.slice a n m) p c q, .int .u64 0]) (by simp [results, Try.results37, go_sem]) rfl ⟨0, p, c, q, rfl, below_two _ _ _, .inl ⟨H.out, rfl, rfl, rfl, rfl⟩⟩
end Go.Proofs.Ytkedmhopajpkhaa.Cur

/- What a law's arguments hold, read off the memory in which it is called: bytes, calls, a start. The calls of a reader that has a fault. -/
import Derived.Test.YtmbojcdliomifaaCurF
import Derived.Deep.Slices
import Derived.Deep.Strs
import Derived.ProofKit
import Derived.OpenShut
namespace Go.Proofs.Ytmbojcdliomifaa.Cur
open Go.RowKit Go.ChangeShapes Go.WideShapes
set_option linter.unusedVariables false

section
variable {H : Type} {enc : TypeId × Value → H} {w : World} {base : Nat} {v : Value} {d : DataW H} {p : List MemPlace}

theorem open_bytes (g : Value.okWide Try.prog w .any base 22 v) (h : DataW.Trod enc Try.prog w 0 (fun _ => true) true 22 v d p) :
    ∃ A n m z, v = .slice A n m ∧ n ≤ m ∧ Bs w A n z ∧ (∀ x ∈ z, 0 ≤ x ∧ x < 256) ∧ (A = none → m = 0) := by
  obtain ⟨A, n, m, rfl⟩ := okWide_slice Try.underlying22 g
  obtain ⟨fuel, hf⟩ := h
  rcases open_ints Try.underlying22 Try.underlying5 (by kernel_rfl) hf with ⟨hcs, _⟩ | ⟨x, l, c, zs, hcs, _, hl, hm, hz, _, hcell, hwz⟩
  · simp [Value.cells] at hcs
    obtain ⟨rfl, rfl, rfl⟩ := hcs
    exact ⟨none, 0, 0, [], rfl, Nat.le_refl _, ⟨rfl, fun h => absurd h (by omega)⟩, fun x h => by simp at h, fun _ => rfl⟩
  · simp [Value.cells] at hcs
    obtain ⟨rfl, rfl, rfl⟩ := hcs
    have hz' : zs.length = m := by simpa using hz
    refine ⟨some x, n, m, zs.take n, rfl, hl, ⟨by rw [List.length_take]; omega, fun hn => ?_⟩, fun y hy => ?_, fun e => by cases e⟩
    · obtain ⟨b, off, spot⟩ := x
      have hc := hcell 0 (by omega)
      have hspot : spot = none := by simpa [Addr.add] using World.cell?_spot hc
      subst hspot
      refine ⟨b, off, rfl, fun i x hx => ?_⟩
      have hi : i < n := by have := (List.getElem?_eq_some_iff.1 hx).1; rw [List.length_take] at this; omega
      rw [List.getElem?_take_of_lt hi] at hx
      have := hcell i (by omega)
      rw [List.getD_eq_getElem?_getD, hx] at this
      rw [← show (⟨b, off, none⟩ : Addr).add i = ⟨b, off + i, none⟩ by unfold Addr.add; split <;> simp_all]
      exact this
    · have h2 := bounds_u8 (hwz y (List.mem_of_mem_take hy))
      omega

/-- At an address lie n calls: kind, number, place of each. -/
def IsDos (w : World) (A : Option Addr) (n : Nat) : Prop :=
  ∀ i, i < n → ∃ b o x y u, A = some ⟨b, o, none⟩ ∧ w.cell? ⟨b, o + i * 3, none⟩ = some (.int .i64 x) ∧ w.cell? ⟨b, o + i * 3 + 1, none⟩ = some (.int .i64 y) ∧ w.cell? ⟨b, o + i * 3 + 2, none⟩ = some (.int .i64 u) ∧
    (Lit.int .i64 x).wf = true ∧ (Lit.int .i64 y).wf = true ∧ (Lit.int .i64 u).wf = true

theorem IsDos.below {w w' : World} {A : Option Addr} {n : Nat} (h : IsDos w A n) (hb : Below w.heap.size w w') : IsDos w' A n := fun i hi => by
  obtain ⟨b, o, x, y, u, e, h0, h1, h2, r⟩ := h i hi
  exact ⟨b, o, x, y, u, e, (hb.cell (lt_of_cell h0)).trans h0, (hb.cell (lt_of_cell h1)).trans h1, (hb.cell (lt_of_cell h2)).trans h2, r⟩

theorem addr_flat {b o i j : Nat} : ((⟨b, o, none⟩ : Addr).add (i * 3)).add j = ⟨b, o + i * 3 + j, none⟩ := by
  rw [addr_add_add]
  unfold Addr.add
  split
  · rename_i h
    have h1 : o + i * 3 + j = o := by omega
    rw [h1]
  · simp [Nat.add_assoc]

theorem open_dos (g : Value.okWide Try.prog w .any base 23 v) (h : DataW.Trod enc Try.prog w 0 (fun _ => true) true 23 v d p) :
    ∃ A n m, v = .slice A n m ∧ n ≤ m ∧ IsDos w A n := by
  obtain ⟨A, n, m, rfl⟩ := okWide_slice Try.underlying23 g
  obtain ⟨fuel, hf⟩ := h
  have c3 : Try.prog.cellsOf 35 = 3 := by kernel_rfl
  have k3 : Try.prog.cellsOf 3 = 1 := by kernel_rfl
  rcases Go.Deep.open_slice Try.underlying23 hf with ⟨hcs, _⟩ | ⟨a, l, c, k, _, D, Pl, hcs, _, hl, _, hk, _, hi⟩
  · simp [Value.cells] at hcs
    obtain ⟨rfl, rfl, rfl⟩ := hcs
    exact ⟨none, 0, 0, rfl, Nat.le_refl _, fun i hi => absurd hi (by omega)⟩
  · simp [Value.cells] at hcs
    obtain ⟨rfl, rfl, rfl⟩ := hcs
    refine ⟨some a, n, m, rfl, hl, fun i hin => ?_⟩
    have hkn : n ≤ k := by rw [hk]; split <;> omega
    obtain ⟨cs', hc, ht⟩ := hi i (by omega)
    rw [c3] at hc
    obtain ⟨_, hlen, hcell⟩ := World.cells?_some hc
    match cs', hlen with
    | [x0, x1, x2], _ =>
      obtain ⟨y0, y1, y2, _, _, _, t0, t1, t2⟩ := Go.Deep.trod_struct3 Try.underlying35 ht
      simp only [k3, List.drop_zero, List.take_succ_cons, List.take_zero, List.drop_succ_cons] at t0 t1 t2
      obtain ⟨x, e0, _, r0⟩ := DataW.trod_int Try.underlying3 t0
      obtain ⟨y, e1, _, r1⟩ := DataW.trod_int Try.underlying3 t1
      obtain ⟨u, e2, _, r2⟩ := DataW.trod_int Try.underlying3 t2
      simp only [List.cons.injEq, and_true] at e0 e1 e2
      subst e0 e1 e2
      have h0 := hcell 0 (by omega)
      have h1 := hcell 1 (by omega)
      have h2 := hcell 2 (by omega)
      obtain ⟨b, off, spot⟩ := a
      have hspot : spot = none := by
        obtain ⟨ds, hd, ht'⟩ := hi 0 (by omega)
        rw [c3] at hd
        obtain ⟨_, hdl, hdc⟩ := World.cells?_some hd
        have g0 := hdc 0 (by omega)
        rw [List.getElem?_eq_getElem (by omega)] at g0
        simpa [Addr.add] using World.cell?_spot g0
      subst hspot
      rw [addr_flat] at h0 h1 h2
      exact ⟨b, off, x, y, u, rfl, h0, h1, h2, r0, r1, r2⟩

theorem open_start (g : Value.okWide Try.prog w .any base 43 v) (h : DataW.Trod enc Try.prog w 0 (fun _ => true) true 43 v d p) :
    ∃ n c q, v = .agg #[.int .i64 n, .int .i64 c, .int .i64 q] ∧ (Lit.int .i64 n).wf = true ∧ (Lit.int .i64 c).wf = true ∧ (Lit.int .i64 q).wf = true := by
  obtain ⟨cs, rfl, hs⟩ := okWide_struct Try.underlying43 g
  obtain ⟨fuel, hf⟩ := h
  have c3 : Try.prog.cellsOf 43 = 3 := by kernel_rfl
  have c2 : Try.prog.cellsOf 29 = 2 := by kernel_rfl
  have k3 : Try.prog.cellsOf 3 = 1 := by kernel_rfl
  have k27 : Try.prog.cellsOf 27 = 1 := by kernel_rfl
  rw [c3] at hs
  obtain ⟨cs⟩ := cs
  match cs, hs with
  | [x0, x1, x2], _ =>
    simp only [Value.cells] at hf
    obtain ⟨y0, y1, _, _, _, t0, t1⟩ := trod_struct2 Try.underlying43 hf
    simp only [k3, c2, List.drop_zero, List.take_succ_cons, List.take_zero, List.drop_succ_cons] at t0 t1
    obtain ⟨z0, z1, _, _, _, s0, s1⟩ := trod_struct2 Try.underlying29 t1
    simp only [k3, k27, List.drop_zero, List.take_succ_cons, List.take_zero, List.drop_succ_cons] at s0 s1
    obtain ⟨x, e0, _, r0⟩ := DataW.trod_int Try.underlying3 t0
    obtain ⟨y, e1, _, r1⟩ := DataW.trod_int Try.underlying27 s0
    obtain ⟨u, e2, _, r2⟩ := DataW.trod_int Try.underlying3 s1
    simp only [List.cons.injEq, and_true] at e0 e1 e2
    subst e0 e1 e2
    exact ⟨x, y, u, rfl, r0, r1, r2⟩
end

/-! ### A reader that has a fault: nothing is read, and it stays as it is. -/
def Stays (b : Nat) (s : Value) (p c q : Int) (w w' : World) : Prop := Kp b w w' ∧ IsRd w' b s p c q

theorem take_bad (b : Nat) (a : Option Addr) (n m : Nat) (z : List Int) (p c q x : Int) (w : World) (h : IsRd w b (.slice a n m) p c q) (hz : Bs w a n z) (h0 : 0 ≤ p) (h1 : p ≤ n) (hm : n ≤ m) (hn : n ≤ 300) (hc : c ≠ 0) :
    Calls Try.prog 14 #[.pointer (some ⟨b, 0, none⟩), .int .i64 x] w fun e w' => e = .returned (.slice none 0 0) ∧ Stays b (.slice a n m) p c q w w' :=
  (take_any b a n m z p c q x w h hz h0 h1 hm hn).mono fun e w' ⟨ok, p', c', q', hk, hr, hs, ht⟩ => by
    rcases hs with ⟨_, rfl, rfl, rfl, rfl⟩ | ⟨h, _⟩ | ⟨h, _⟩ | ⟨h, _⟩
    · rcases ht with ⟨h, _⟩ | ⟨_, he⟩
      · cases h
      · exact ⟨he, hk, hr⟩
    · exact absurd h hc
    · exact absurd h hc
    · exact absurd h hc
theorem skip_stays (b : Nat) (a : Option Addr) (n m : Nat) (p c q x : Int) (w : World) (h : IsRd w b (.slice a n m) p c q) (h0 : 0 ≤ p) (h1 : p ≤ n) (hn : n ≤ 300) (hc : c ≠ 0) :
    Calls Try.prog 19 #[.pointer (some ⟨b, 0, none⟩), .int .i64 x] w fun e w' => e = .returned (.bool false) ∧ Stays b (.slice a n m) p c q w w' :=
  (skip_any b a n m p c q x w h h0 h1 hn).mono fun e w' ⟨ok, p', c', q', he, hk, hr, hs⟩ => by
    rcases hs with ⟨_, rfl, rfl, rfl, rfl⟩ | ⟨h, _⟩ | ⟨h, _⟩ | ⟨h, _⟩
    · exact ⟨he, hk, hr⟩
    · exact absurd h hc
    · exact absurd h hc
    · exact absurd h hc
theorem byte_stays (b : Nat) (a : Option Addr) (n m : Nat) (z : List Int) (p c q : Int) (w : World) (h : IsRd w b (.slice a n m) p c q) (hz : Bs w a n z) (h0 : 0 ≤ p) (h1 : p ≤ n) (hn : n ≤ 300) (hc : c ≠ 0) :
    Calls Try.prog 18 #[.pointer (some ⟨b, 0, none⟩)] w fun e w' => e = .returned (.int .u8 0) ∧ Stays b (.slice a n m) p c q w w' :=
  (byte_any b a n m z p c q w h hz h0 h1 hn).mono fun e w' ⟨ok, p', c', q', hk, hr, hs, he⟩ => by
    rcases hs with ⟨_, rfl, rfl, rfl, rfl⟩ | ⟨h, _⟩ | ⟨h, _⟩ | ⟨h, _⟩
    · exact ⟨he, hk, hr⟩
    · exact absurd h hc
    · exact absurd h hc
    · exact absurd h hc
theorem end_stays (b : Nat) (a : Option Addr) (n m : Nat) (p c q : Int) (w : World) (h : IsRd w b (.slice a n m) p c q) (h0 : 0 ≤ p) (h1 : p ≤ n) (hn : n ≤ 300) (hc : c ≠ 0) :
    Calls Try.prog 15 #[.pointer (some ⟨b, 0, none⟩)] w fun e w' => e = .returned (.tuple #[]) ∧ Stays b (.slice a n m) p c q w w' :=
  (end_any b a n m p c q w h h0 h1 hn).mono fun e w' ⟨c', q', he, hk, hr, hs⟩ => by
    rw [if_neg (fun h => hc h.1)] at hs
    obtain ⟨rfl, rfl⟩ := hs
    exact ⟨he, hk, hr⟩
theorem fail_stays (b : Nat) (s : Value) (p c q c' q' : Int) (w : World) (h : IsRd w b s p c q) (hc : c ≠ 0) :
    Calls Try.prog 20 #[.pointer (some ⟨b, 0, none⟩), .int .i64 c', .int .i64 q'] w fun e w' => e = .returned (.tuple #[]) ∧ Stays b s p c q w w' :=
  (fail_no b s p c q c' q' w h (by simpa using hc)).mono fun e w' ⟨he, hb⟩ => ⟨he, Kp.of_below hb, h.below hb⟩
end Go.Proofs.Ytmbojcdliomifaa.Cur

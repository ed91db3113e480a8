/- As the seat's text, without what nothing here names. -/
import Derived.Test.YtmiimjgfainclaaGreatKndBw
import Derived.Test.YtmiimjgfainclaaGreatK21w
import Derived.Test.YtmiimjgfainclaaGreatK26w
import Derived.Test.YtmiimjgfainclaaGreatK33w
import Derived.Test.YtmiimjgfainclaaGreatK37w
import Derived.Test.YtmiimjgfainclaaGreatK5w
import Derived.Test.YtmiimjgfainclaaGreatK20w
namespace Go.Proofs.YtmiimjgfainclaaGreat.Cur
open Go.RowKit Mem Go.ChangeShapes Go.WideShapes
set_option linter.unusedVariables false
set_option maxRecDepth 100000
structure Ms where
  k : Int
  e : Int
  q : Int
  p : Int
  c : Int
  t : Int
  S : List Int
  L : List Lk
  D : List Int
  s : Sl3
  u : Int
  P : List Stp
structure Ma where
  A1 : Option Addr
  m1 : Nat
  A2 : Option Addr
  m2 : Nat
  A3 : Option Addr
  m3 : Nat
  A4 : Option Addr
  m4 : Nat
abbrev msc (M : Ms) (a : Ma) : Array Value := #[.int .i64 M.k, .int .u64 M.e, .int .u64 M.q, .int .u64 M.p, .int .i64 M.c, .int .i64 M.t, .slice a.A1 M.S.length a.m1, .slice a.A2 M.L.length a.m2, .slice a.A3 M.D.length a.m3, .int .u64 M.s.1, .int .u64 M.s.2.1, .int .u64 M.s.2.2, .int .u64 M.u, .slice a.A4 M.P.length a.m4]
abbrev msagg (M : Ms) (a : Ma) : Value := .agg (msc M a)
def i64b (x : Int) : Prop := -9223372036854775808 ≤ x ∧ x < 9223372036854775808
def u64b (x : Int) : Prop := 0 ≤ x ∧ x < 18446744073709551616
structure MsIn (w : World) (Q : Nat → Prop) (M : Ms) (a : Ma) : Prop where
  hk : i64b M.k
  he : u64b M.e
  hq : u64b M.q
  hp : u64b M.p
  hc : i64b M.c
  ht : i64b M.t
  hS : Sq U64E w Q a.A1 M.S
  hS1 : M.S.length ≤ a.m1
  hS2 : a.A1 = none → a.m1 = 0
  hL : Sq LkE w Q a.A2 M.L
  hL1 : M.L.length ≤ a.m2
  hL2 : a.A2 = none → a.m2 = 0
  hD : Sq U8E w Q a.A3 M.D
  hD1 : M.D.length ≤ a.m3
  hD2 : a.A3 = none → a.m3 = 0
  hs : sbd M.s
  hu : u64b M.u
  hP : Sq StE w Q a.A4 M.P
  hP1 : M.P.length ≤ a.m4
  hP2 : a.A4 = none → a.m4 = 0
theorem MsIn.keep {w w' : World} {Q : Nat → Prop} {M : Ms} {a : Ma} (h : MsIn w Q M a) (hk : ∀ b, Q b → b < w.heap.size → w'.heap[b]? = w.heap[b]?) : MsIn w' Q M a :=
  { h with hS := h.hS.keep hk, hL := h.hL.keep hk, hD := h.hD.keep hk, hP := h.hP.keep hk }
theorem MsIn.mono {w : World} {Q R : Nat → Prop} {M : Ms} {a : Ma} (h : MsIn w Q M a) (hq : ∀ b, Q b → b < w.heap.size → R b) : MsIn w R M a :=
  { h with hS := h.hS.mono hq, hL := h.hL.mono hq, hD := h.hD.mono hq, hP := h.hP.mono hq }
theorem MsIn.below {w w' : World} {Q : Nat → Prop} {M : Ms} {a : Ma} (h : MsIn w Q M a) (hb : Below w.heap.size w w') : MsIn w' Q M a := h.keep fun b _ hl => hb.block b hl
theorem MsIn.us {w : World} {Q : Nat → Prop} {M : Ms} {a : Ma} (h : MsIn w Q M a) : Us w a.A1 M.S.length M.S := h.hS.us.1
theorem MsIn.sb {w : World} {Q : Nat → Prop} {M : Ms} {a : Ma} (h : MsIn w Q M a) : ∀ x ∈ M.S, 0 ≤ x ∧ x < 18446744073709551616 := h.hS.us.2
theorem MsIn.lks {w : World} {Q : Nat → Prop} {M : Ms} {a : Ma} (h : MsIn w Q M a) : Lks w Q a.A2 M.L.length M.L := ⟨rfl, h.hL⟩
theorem MsIn.bs {w : World} {Q : Nat → Prop} {M : Ms} {a : Ma} (h : MsIn w Q M a) : Bs w a.A3 M.D.length M.D := h.hD.bs.1
theorem MsIn.db {w : World} {Q : Nat → Prop} {M : Ms} {a : Ma} (h : MsIn w Q M a) : ∀ x ∈ M.D, 0 ≤ x ∧ x < 256 := h.hD.bs.2.1
theorem MsIn.pts {w : World} {Q : Nat → Prop} {M : Ms} {a : Ma} (h : MsIn w Q M a) : Pts w Q a.A4 M.P.length M.P := ⟨rfl, h.hP⟩
theorem ms_cells {w : World} {x : Nat} {M : Ms} {a : Ma} (h : Blk w x (msc M a) 32) :
    (w.cell? ⟨x, 0, none⟩ = some (.int .i64 M.k) ∧ w.cell? ⟨x, 1, none⟩ = some (.int .u64 M.e) ∧ w.cell? ⟨x, 2, none⟩ = some (.int .u64 M.q) ∧ w.cell? ⟨x, 3, none⟩ = some (.int .u64 M.p) ∧ w.cell? ⟨x, 4, none⟩ = some (.int .i64 M.c) ∧ w.cell? ⟨x, 5, none⟩ = some (.int .i64 M.t) ∧ w.cell? ⟨x, 6, none⟩ = some (.slice a.A1 M.S.length a.m1)) ∧
    w.cell? ⟨x, 7, none⟩ = some (.slice a.A2 M.L.length a.m2) ∧ w.cell? ⟨x, 8, none⟩ = some (.slice a.A3 M.D.length a.m3) ∧ w.cell? ⟨x, 9, none⟩ = some (.int .u64 M.s.1) ∧ w.cell? ⟨x, 10, none⟩ = some (.int .u64 M.s.2.1) ∧ w.cell? ⟨x, 11, none⟩ = some (.int .u64 M.s.2.2) ∧ w.cell? ⟨x, 12, none⟩ = some (.int .u64 M.u) ∧ w.cell? ⟨x, 13, none⟩ = some (.slice a.A4 M.P.length a.m4) :=
  ⟨⟨h.cell 0 rfl, h.cell 1 rfl, h.cell 2 rfl, h.cell 3 rfl, h.cell 4 rfl, h.cell 5 rfl, h.cell 6 rfl⟩, h.cell 7 rfl, h.cell 8 rfl, h.cell 9 rfl, h.cell 10 rfl, h.cell 11 rfl, h.cell 12 rfl, h.cell 13 rfl⟩
section
variable {H : Type} {enc : TypeId × Value → H} {w : World} {base : Nat} {v : Value} {d : DataW H} {p : List MemPlace}
theorem open_msg (g : Value.okWide Tryz.prog w .any base 32 v) (h : DataW.Trod enc Tryz.prog w 0 (fun _ => true) true 32 v d p) : ∃ M a, v = msagg M a ∧ MsIn w (fun b => b < w.heap.size) M a := by
  obtain ⟨cs, rfl, hs⟩ := okWide_struct Tryz.underlying32 g
  obtain ⟨fuel, hf⟩ := h
  have c14 : Tryz.prog.cellsOf 32 = 14 := by kernel_rfl
  have k1 : Tryz.prog.cellsOf 22 = 1 := by kernel_rfl
  have k2 : Tryz.prog.cellsOf 3 = 1 := by kernel_rfl
  have k3 : Tryz.prog.cellsOf 23 = 1 := by kernel_rfl
  have k4 : Tryz.prog.cellsOf 24 = 1 := by kernel_rfl
  have k5 : Tryz.prog.cellsOf 25 = 1 := by kernel_rfl
  have k6 : Tryz.prog.cellsOf 27 = 3 := by kernel_rfl
  have k7 : Tryz.prog.cellsOf 30 = 2 := by kernel_rfl
  rw [c14] at hs
  obtain ⟨cs⟩ := cs
  match cs, hs with
  | [x0, x1, x2, x3, x4, x5, x6, x7, x8, x9, x10, x11, x12, x13], _ =>
    simp only [Value.cells] at hf
    obtain ⟨xs, n, _, _, hl, hlen, hfi⟩ := DataW.trod_struct Tryz.underlying32 hf
    match xs, hlen with
    | [y0, y1, y2, y3, y4, y5, y6, y7, y8, y9, y10], _ =>
      have t0 := hfi 0 _ rfl
      have t1 := hfi 1 _ rfl
      have t2 := hfi 2 _ rfl
      have t3 := hfi 3 _ rfl
      have t4 := hfi 4 _ rfl
      have t5 := hfi 5 _ rfl
      have t6 := hfi 6 _ rfl
      have t7 := hfi 7 _ rfl
      have t8 := hfi 8 _ rfl
      have t9 := hfi 9 _ rfl
      have t10 := hfi 10 _ rfl
      simp only [k1, k2, k3, k4, k5, k6, k7, List.drop_zero, List.take_succ_cons, List.take_zero, List.drop_succ_cons, List.getElem?_cons_zero, List.getElem?_cons_succ, List.getElem_toArray, List.getElem_cons_zero, List.getElem_cons_succ] at t0 t1 t2 t3 t4 t5 t6 t7 t8 t9 t10
      obtain ⟨v0, e0, _, r0⟩ := DataW.trod_int Tryz.underlying3 t0
      obtain ⟨v1, e1, _, r1⟩ := DataW.trod_int Tryz.underlying22 t1
      obtain ⟨v2, e2, _, r2⟩ := DataW.trod_int Tryz.underlying22 t2
      obtain ⟨v3, e3, _, r3⟩ := DataW.trod_int Tryz.underlying22 t3
      obtain ⟨v4, e4, _, r4⟩ := DataW.trod_int Tryz.underlying3 t4
      obtain ⟨v5, e5, _, r5⟩ := DataW.trod_int Tryz.underlying3 t5
      obtain ⟨S, A1, m1, e6, s1, s2, s3⟩ := (opens_slice Tryz.underlying23 (by kernel_rfl) (by decide) (opens_u64 Tryz.underlying22)) t6
      obtain ⟨L, A2, m2, e7, l1, l2, l3⟩ := (opens_slice Tryz.underlying24 (by kernel_rfl) (by decide) opens_link) t7
      obtain ⟨D, A3, m3, e8, d1, d2, d3⟩ := (opens_slice Tryz.underlying25 (by kernel_rfl) (by decide) (opens_u8 Tryz.underlying5)) t8
      obtain ⟨z0, z1, z2, _, _, _, u0, u1, u2⟩ := Go.Deep.trod_struct3 Tryz.underlying27 t9
      simp only [k1, List.drop_zero, List.take_succ_cons, List.take_zero, List.drop_succ_cons] at u0 u1 u2
      obtain ⟨v9, e9, _, r9⟩ := DataW.trod_int Tryz.underlying22 u0
      obtain ⟨v10, e10, _, r10⟩ := DataW.trod_int Tryz.underlying22 u1
      obtain ⟨v11, e11, _, r11⟩ := DataW.trod_int Tryz.underlying22 u2
      obtain ⟨⟨u, P⟩, c1, c2, e12, ⟨rfl, b0⟩, A4, m4, rfl, p1, p2, p3⟩ := opens_prj t10
      simp only [List.cons.injEq, and_true, List.cons_append, List.nil_append] at e0 e1 e2 e3 e4 e5 e6 e7 e8 e9 e10 e11 e12
      obtain ⟨e12, e13⟩ := e12
      subst e0 e1 e2 e3 e4 e5 e6 e7 e8 e9 e10 e11 e12 e13
      have q0 := bounds_i64 r0
      have q1 := bounds_u64 r1
      have q2 := bounds_u64 r2
      have q3 := bounds_u64 r3
      have q4 := bounds_i64 r4
      have q5 := bounds_i64 r5
      have q9 := bounds_u64 r9
      have q10 := bounds_u64 r10
      have q11 := bounds_u64 r11
      exact ⟨⟨v0, v1, v2, v3, v4, v5, S, L, D, (v9, v10, v11), u, P⟩, ⟨A1, m1, A2, m2, A3, m3, A4, m4⟩, rfl,
        { hk := (show i64b v0 from ⟨by omega, by omega⟩), he := (show u64b v1 from ⟨by omega, by omega⟩), hq := (show u64b v2 from ⟨by omega, by omega⟩), hp := (show u64b v3 from ⟨by omega, by omega⟩), hc := (show i64b v4 from ⟨by omega, by omega⟩), ht := (show i64b v5 from ⟨by omega, by omega⟩),
          hS := s3.mono fun b _ hb => hb, hS1 := s1, hS2 := s2, hL := l3.mono fun b _ hb => hb, hL1 := l1, hL2 := l2, hD := d3.mono fun b _ hb => hb, hD1 := d1, hD2 := d2,
          hs := sbd_of (by omega) (by omega) (by omega) (by omega) (by omega) (by omega), hu := b0, hP := p3.mono fun b _ hb => hb, hP1 := p1, hP2 := p2 }⟩
end
def bmost (k : Int) : Int := if k = 14 then 20 else 4
def bears (M : Ms) : Bool := decide (M.k ≠ 9 ∨ M.t = 1)
def bfr (M : Ms) : Nat → Bool × Bool
  | 0 => (psk M.p, decide (M.p = 0))
  | 1 => (decide (1 ≤ M.c ∧ M.c ≤ 65536), decide (M.c = 0))
  | 2 => (decide (1 ≤ M.t ∧ M.t ≤ bmost M.k), decide (M.t = 0))
  | 3 => (decide (M.S.length ≤ 16) && risesB M.S, decide (M.S.length = 0))
  | 4 => (lkok M.p M.L, decide (M.L.length = 0))
  | 5 => (decide (M.D.length ≤ 1048576) && (bears M || decide (M.D.length = 0)), decide (M.D.length = 0))
  | 6 => (slok M.s, decide (M.s = (0, 0, 0)))
  | 7 => (prok (M.u, M.P), decide ((M.u, M.P) = ((0, []) : Prj)))
  | _ => (true, true)
def pw2 : Nat → Int
  | 0 => 1
  | 1 => 2
  | 2 => 4
  | 3 => 8
  | 4 => 16
  | 5 => 32
  | 6 => 64
  | _ => 128
def bfit (M : Ms) (i : Nat) : Bool := if kh M.k (pw2 i) = true then (bfr M i).1 else (bfr M i).2
def bfk (M : Ms) : Nat → Bool
  | 0 => true
  | i + 1 => bfk M i && bfit M i
def bdk (M : Ms) : Bool := bfk M 8 && kri M.k
end Go.Proofs.YtmiimjgfainclaaGreat.Cur

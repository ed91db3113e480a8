/- Seals: rows of them, which are valid; a law's arguments that hold them. -/
import Derived.Test.YtdljkpmjamegjaaEpoA
import Derived.Test.YtdljkpmjamegjaaK1
import Derived.Deep.Slices
namespace Go.Proofs.Ytdljkpmjamegjaa.Cur
open Go.RowKit Mem Go.ChangeShapes Go.WideShapes
set_option linter.unusedVariables false
set_option maxRecDepth 100000

/-- A seal: epoch, node, tail. -/
abbrev Sl3 := Int × Int × Int
def sfl (s : Sl3) : List Value := [.int .u64 s.1, .int .u64 s.2.1, .int .u64 s.2.2]
abbrev sagg (s : Sl3) : Value := .agg #[.int .u64 s.1, .int .u64 s.2.1, .int .u64 s.2.2]
def svs : List Sl3 → List Value
  | [] => []
  | s :: l => .int .u64 s.1 :: .int .u64 s.2.1 :: .int .u64 s.2.2 :: svs l
theorem svs_len : ∀ l, (svs l).length = l.length * 3
  | [] => rfl
  | p :: l => by simp [svs, svs_len l]; omega
theorem svs_append : ∀ a b, svs (a ++ b) = svs a ++ svs b
  | [], b => rfl
  | p :: a, b => by simp [svs, svs_append a b]
theorem svs_get : ∀ (l : List Sl3) (j : Nat), j < l.length → (svs l)[j * 3]? = some (.int .u64 (l.getD j (0, 0, 0)).1) ∧ (svs l)[j * 3 + 1]? = some (.int .u64 (l.getD j (0, 0, 0)).2.1) ∧ (svs l)[j * 3 + 2]? = some (.int .u64 (l.getD j (0, 0, 0)).2.2)
  | [], j, h => absurd h (by simp)
  | p :: l, 0, h => by simp [svs]
  | p :: l, j + 1, h => by
    have := svs_get l j (by simpa using h)
    rw [show (j + 1) * 3 = j * 3 + 1 + 1 + 1 by omega]
    simp only [svs, List.getElem?_cons_succ, List.getD_cons_succ]
    exact this
theorem svs_one (l : List Sl3) : ∀ u ∈ svs l, u.oneCell' = true := by
  induction l with
  | nil => intro u h; cases h
  | cons p l ih =>
    intro u h
    simp only [svs, List.mem_cons] at h
    rcases h with rfl | rfl | rfl | h
    · rfl
    · rfl
    · rfl
    · exact ih u h
/-- A seal's numbers are numbers of 64 digits. -/
def sbd (s : Sl3) : Prop := (0 ≤ s.1 ∧ s.1 < 18446744073709551616) ∧ (0 ≤ s.2.1 ∧ s.2.1 < 18446744073709551616) ∧ (0 ≤ s.2.2 ∧ s.2.2 < 18446744073709551616)
theorem sbd_of {x y u : Int} (h0 : 0 ≤ x) (h1 : x < 18446744073709551616) (h2 : 0 ≤ y) (h3 : y < 18446744073709551616) (h4 : 0 ≤ u) (h5 : u < 18446744073709551616) : sbd (x, y, u) := ⟨⟨h0, h1⟩, ⟨h2, h3⟩, ⟨h4, h5⟩⟩
def Sls (w : World) (A : Option Addr) (n : Nat) (l : List Sl3) : Prop := l.length = n ∧ Rw w A (svs l)
theorem Sls.below {w w' : World} {A : Option Addr} {n : Nat} {z : List Sl3} (h : Sls w A n z) (hb : Below w.heap.size w w') : Sls w' A n z := ⟨h.1, h.2.below hb⟩
theorem Sls.cells {w : World} {A : Option Addr} {n : Nat} {z : List Sl3} (h : Sls w A n z) (hn : 0 < n) : ∃ g o, A = some ⟨g, o, none⟩ ∧ g < w.heap.size ∧ ∀ w', Below w.heap.size w w' → ∀ k, k < n →
    w'.cell? ⟨g, o + k * 3, none⟩ = some (.int .u64 (z.getD k (0, 0, 0)).1) ∧ w'.cell? ⟨g, o + k * 3 + 1, none⟩ = some (.int .u64 (z.getD k (0, 0, 0)).2.1) ∧ w'.cell? ⟨g, o + k * 3 + 2, none⟩ = some (.int .u64 (z.getD k (0, 0, 0)).2.2) := by
  have hl : 0 < (svs z).length := by rw [svs_len, h.1]; omega
  obtain ⟨g, o, e, hc⟩ := h.2 hl
  refine ⟨g, o, e, lt_of_cell (hc 0 _ (List.getElem?_eq_getElem hl)), fun w' hb k hk => ?_⟩
  obtain ⟨g', o', e', hc'⟩ := h.2.below hb hl
  rw [e] at e'
  injection e' with e'
  injection e' with e1 e2
  subst e1 e2
  obtain ⟨s0, s1, s2⟩ := svs_get z k (by rw [h.1]; exact hk)
  refine ⟨hc' _ _ s0, ?_, ?_⟩
  · have := hc' _ _ s1; rwa [← Nat.add_assoc] at this
  · have := hc' _ _ s2; rwa [← Nat.add_assoc] at this
def OwnL (w : World) (B : Nat) (v : Value) (l : List Sl3) : Prop := w.ownsRow B 24 3 v l.length (svs l)
theorem OwnL.nil (w : World) (B : Nat) : OwnL w B (.slice none 0 0) [] := World.ownsRow_nil w B 24 3
theorem OwnL.slice {w : World} {B : Nat} {v : Value} {l : List Sl3} (h : OwnL w B v l) : ∃ A c, v = .slice A l.length c ∧ l.length ≤ c ∧ (A = none → c = 0) ∧ Sls w A l.length l := by
  obtain ⟨A, c, rfl, h0, h1⟩ := own_slice h
  exact ⟨A, c, rfl, h1, h0, rfl, (own_rw h rfl).2.2.2⟩
theorem kindL : Kind 54 24 (.agg #[.int .u64 0, .int .u64 0, .int .u64 0]) 3 24 := ⟨Try.underlying54, by kernel_rfl, rfl, by decide⟩

/-- Is a seal valid? -/
def slok (s : Sl3) : Bool := epk s.1 && decide (s.2.1 ≤ 4294967295) && decide (s.2.2 ≤ 4611686018427387904)

theorem sright_any (s : Sl3) (w : World) : Calls Try.prog 13 #[sagg s] w (BPost (.bool (slok s)) w) := by
  have hX := Blk.new w #[.int .u64 s.1, .int .u64 s.2.1, .int .u64 s.2.2] 24
  have hb := below_one w (.cells #[.int .u64 s.1, .int .u64 s.2.1, .int .u64 s.2.2] 24)
  obtain ⟨x0, x1, x2⟩ := hX.c3
  have HX := Lib.hid hX
  clear hX
  unfold BPost
  obtain ⟨a, b, c⟩ := s
  have hv : slok (a, b, c) = (epk a && decide (b ≤ 4294967295) && decide (c ≤ 4611686018427387904)) := rfl
  generalize slok (a, b, c) = V at hv
  dsimp only at *
  cases hE : epk a
  · rw [hE] at hv
    go_enter Try.func13, Try.ntmps13
    go_wp2_with fail
    refine (eright_any _ _).mono ?_
    rintro e w' ⟨rfl, rfl⟩
    go_wp2
    go_ret
    first | exact ⟨rfl, hb⟩ | exact ⟨by rw [hv]; rfl, hb⟩
  · rw [hE] at hv
    by_cases hn : b ≤ 4294967295
    · rw [decide_eq_true hn] at hv
      go_enter Try.func13, Try.ntmps13
      go_wp2_with fail
      refine (eright_any _ _).mono ?_
      rintro e w' ⟨rfl, rfl⟩
      go_wp2
      go_ret
      first | exact ⟨rfl, hb⟩ | exact ⟨by rw [hv]; rfl, hb⟩
    · rw [decide_eq_false hn] at hv
      go_enter Try.func13, Try.ntmps13
      go_wp2_with fail
      refine (eright_any _ _).mono ?_
      rintro e w' ⟨rfl, rfl⟩
      go_wp2
      go_ret
      first | exact ⟨rfl, hb⟩ | exact ⟨by rw [hv]; rfl, hb⟩
theorem rright18_any (s : Sl3) (h0 : 0 ≤ s.1) (w : World) : Calls Try.prog 14 #[sagg s] w (BPost (.bool (slok s)) w) := by
  have hX := Blk.new w #[.int .u64 s.1, .int .u64 s.2.1, .int .u64 s.2.2] 24
  have hb := below_one w (.cells #[.int .u64 s.1, .int .u64 s.2.1, .int .u64 s.2.2] 24)
  obtain ⟨x0, x1, x2⟩ := hX.c3
  have HX := Lib.hid hX
  clear hX
  unfold BPost
  obtain ⟨a, b, c⟩ := s
  have hv : slok (a, b, c) = (epk a && decide (b ≤ 4294967295) && decide (c ≤ 4611686018427387904)) := rfl
  generalize slok (a, b, c) = V at hv
  dsimp only at *
  cases hE : epk a
  · rw [hE] at hv
    go_enter Try.func14, Try.ntmps14
    go_wp2_with fail
    refine (rright17_any _ h0 _).mono ?_
    rintro e w' ⟨rfl, rfl⟩
    go_wp2
    go_ret
    first | exact ⟨rfl, hb⟩ | exact ⟨by rw [hv]; rfl, hb⟩
  · rw [hE] at hv
    by_cases hn : b ≤ 4294967295
    · rw [decide_eq_true hn] at hv
      go_enter Try.func14, Try.ntmps14
      go_wp2_with fail
      refine (rright17_any _ h0 _).mono ?_
      rintro e w' ⟨rfl, rfl⟩
      go_wp2
      go_ret
      first | exact ⟨rfl, hb⟩ | exact ⟨by rw [hv]; rfl, hb⟩
    · rw [decide_eq_false hn] at hv
      go_enter Try.func14, Try.ntmps14
      go_wp2_with fail
      refine (rright17_any _ h0 _).mono ?_
      rintro e w' ⟨rfl, rfl⟩
      go_wp2
      go_ret
      first | exact ⟨rfl, hb⟩ | exact ⟨by rw [hv]; rfl, hb⟩

section
variable {H : Type} {enc : TypeId × Value → H} {w : World} {base : Nat} {v : Value} {d : DataW H} {p : List MemPlace}
theorem addr_flat3 {b o i j : Nat} : ((⟨b, o, none⟩ : Addr).add (i * 3)).add j = ⟨b, o + i * 3 + j, none⟩ := by
  rw [Go.Deep.add_add]
  unfold Addr.add
  split
  · rename_i h
    have h1 : o + (i * 3 + j) = o := by omega
    rw [show o + i * 3 + j = o by omega]
  · simp [Nat.add_assoc]
theorem open_seal (g : Value.okWide Try.prog w .any base 24 v) (h : DataW.Trod enc Try.prog w 0 (fun _ => true) true 24 v d p) :
    ∃ s : Sl3, v = sagg s ∧ sbd s := by
  obtain ⟨cs, rfl, hs⟩ := okWide_struct Try.underlying24 g
  obtain ⟨fuel, hf⟩ := h
  have c3 : Try.prog.cellsOf 24 = 3 := by kernel_rfl
  have k3 : Try.prog.cellsOf 22 = 1 := by kernel_rfl
  rw [c3] at hs
  obtain ⟨cs⟩ := cs
  match cs, hs with
  | [x0, x1, x2], _ =>
    simp only [Value.cells] at hf
    obtain ⟨y0, y1, y2, _, _, _, t0, t1, t2⟩ := Go.Deep.trod_struct3 Try.underlying24 hf
    simp only [k3, List.drop_zero, List.take_succ_cons, List.take_zero, List.drop_succ_cons] at t0 t1 t2
    obtain ⟨x, e0, _, r0⟩ := DataW.trod_int Try.underlying22 t0
    obtain ⟨y, e1, _, r1⟩ := DataW.trod_int Try.underlying22 t1
    obtain ⟨u, e2, _, r2⟩ := DataW.trod_int Try.underlying22 t2
    simp only [List.cons.injEq, and_true] at e0 e1 e2
    subst e0 e1 e2
    have b0 := bounds_u64 r0
    have b1 := bounds_u64 r1
    have b2 := bounds_u64 r2
    exact ⟨(x, y, u), rfl, sbd_of (by omega) (by omega) (by omega) (by omega) (by omega) (by omega)⟩
theorem open_seals (g : Value.okWide Try.prog w .any base 54 v) (h : DataW.Trod enc Try.prog w 0 (fun _ => true) true 54 v d p) :
    ∃ A n m l, v = .slice A n m ∧ n ≤ m ∧ Sls w A n l ∧ (∀ s ∈ l, sbd s) ∧ (A = none → m = 0) := by
  obtain ⟨A, n, m, rfl⟩ := okWide_slice Try.underlying54 g
  obtain ⟨fuel, hf⟩ := h
  have c3 : Try.prog.cellsOf 24 = 3 := by kernel_rfl
  have k3 : Try.prog.cellsOf 22 = 1 := by kernel_rfl
  rcases Go.Deep.open_slice Try.underlying54 hf with ⟨hcs, _⟩ | ⟨a, l, c, k, _, D, Pl, hcs, _, hl, _, hk, _, hi⟩
  · simp [Value.cells] at hcs
    obtain ⟨rfl, rfl, rfl⟩ := hcs
    exact ⟨none, 0, 0, [], rfl, Nat.le_refl _, ⟨rfl, Rw.nil _ _⟩, fun x h => by simp at h, fun _ => rfl⟩
  · simp [Value.cells] at hcs
    obtain ⟨rfl, rfl, rfl⟩ := hcs
    have hkn : n ≤ k := by rw [hk]; split <;> omega
    have each : ∀ i, i < n → ∃ s : Sl3, sbd s ∧ w.cell? ((a.add (i * 3)).add 0) = some (.int .u64 s.1) ∧ w.cell? ((a.add (i * 3)).add 1) = some (.int .u64 s.2.1) ∧ w.cell? ((a.add (i * 3)).add 2) = some (.int .u64 s.2.2) := fun i hin => by
      obtain ⟨cs', hc, ht⟩ := hi i (by omega)
      rw [c3] at hc
      obtain ⟨_, hlen, hcell⟩ := World.cells?_some hc
      match cs', hlen with
      | [x0, x1, x2], _ =>
        obtain ⟨y0, y1, y2, _, _, _, t0, t1, t2⟩ := Go.Deep.trod_struct3 Try.underlying24 ht
        simp only [k3, List.drop_zero, List.take_succ_cons, List.take_zero, List.drop_succ_cons] at t0 t1 t2
        obtain ⟨x, e0, _, r0⟩ := DataW.trod_int Try.underlying22 t0
        obtain ⟨y, e1, _, r1⟩ := DataW.trod_int Try.underlying22 t1
        obtain ⟨u, e2, _, r2⟩ := DataW.trod_int Try.underlying22 t2
        simp only [List.cons.injEq, and_true] at e0 e1 e2
        subst e0 e1 e2
        have b0 := bounds_u64 r0
        have b1 := bounds_u64 r1
        have b2 := bounds_u64 r2
        exact ⟨(x, y, u), sbd_of (by omega) (by omega) (by omega) (by omega) (by omega) (by omega), hcell 0 (by omega), hcell 1 (by omega), hcell 2 (by omega)⟩
    obtain ⟨f, hf'⟩ := Go.Deep.choose_lt each
    have hget : ∀ (j : Nat) (k : Nat), j < k → ((List.range k).map f).getD j (0, 0, 0) = f j := fun j k hj => by
      rw [List.getD_eq_getElem?_getD, List.getElem?_map, List.getElem?_range hj]; rfl
    refine ⟨some a, n, m, (List.range n).map f, rfl, hl, ⟨by simp, fun hn => ?_⟩, fun s hs => ?_, fun e => by cases e⟩
    · have hn0 : 0 < n := by rw [svs_len] at hn; simp at hn; exact hn
      obtain ⟨b, off, spot⟩ := a
      have hspot : spot = none := by
        have := (hf' 0 hn0).2.1
        simpa [Addr.add] using World.cell?_spot this
      subst hspot
      refine ⟨b, off, rfl, fun i v hi => ?_⟩
      have hil : i < n * 3 := by
        have := (List.getElem?_eq_some_iff.1 hi).1
        rw [svs_len] at this; simpa using this
      have hj : i / 3 < n := by omega
      obtain ⟨s0, s1, s2⟩ := svs_get ((List.range n).map f) (i / 3) (by simpa using hj)
      rw [hget _ _ hj] at s0 s1 s2
      obtain ⟨_, h0, h1, h2⟩ := hf' (i / 3) hj
      rw [addr_flat3] at h0 h1 h2
      have hm : i % 3 = 0 ∨ i % 3 = 1 ∨ i % 3 = 2 := by omega
      rcases hm with hm | hm | hm
      · have e : i = i / 3 * 3 := by omega
        rw [e, s0] at hi
        injection hi with hi
        rw [show off + i = off + i / 3 * 3 + 0 by omega, ← hi]; exact h0
      · have e : i = i / 3 * 3 + 1 := by omega
        rw [e, s1] at hi
        injection hi with hi
        rw [show off + i = off + i / 3 * 3 + 1 by omega, ← hi]; exact h1
      · have e : i = i / 3 * 3 + 2 := by omega
        rw [e, s2] at hi
        injection hi with hi
        rw [show off + i = off + i / 3 * 3 + 2 by omega, ← hi]; exact h2
    · obtain ⟨i, hi, rfl⟩ := List.mem_map.1 hs
      exact (hf' i (List.mem_range.1 hi)).1
end
end Go.Proofs.Ytdljkpmjamegjaa.Cur

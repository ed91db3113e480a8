/- Lists of tokens: in memory, as a list; the document's bytes of them; Total, Long. -/
import Derived.Test.YtklkflfdianbpaaTokA
import Derived.Test.YtklkflfdianbpaaK1
import Derived.Test.YtklkflfdianbpaaK4
import Derived.Test.YtklkflfdianbpaaK6
import Derived.Deep.Slices
namespace Go.Proofs.Ytklkflfdianbpaa.Cur
open Go.RowKit Mem Go.ChangeShapes Go.WideShapes
set_option linter.unusedVariables false
set_option maxRecDepth 100000

/-- A token: bytes of a run, offset and length of a copy. -/
abbrev Tk := List Int × Int × Int
def tk0 : Tk := ([], 0, 0)
/-- In block b, from place q on, lies this token, its bytes at Ar. -/
def TkC (w : World) (b q : Nat) (Ar : Option Addr) (Lr Cr : Nat) (t : Tk) : Prop :=
  w.cell? ⟨b, q, none⟩ = some (.slice Ar Lr Cr) ∧ w.cell? ⟨b, q + 1, none⟩ = some (.int .i64 t.2.1) ∧ w.cell? ⟨b, q + 2, none⟩ = some (.int .i64 t.2.2) ∧ Bs w Ar Lr t.1
theorem TkC.below {w w' : World} {b q : Nat} {Ar : Option Addr} {Lr Cr : Nat} {t : Tk} {B : Nat} (h : TkC w b q Ar Lr Cr t) (hb : Below B w w') (hB : w.heap.size ≤ B) : TkC w' b q Ar Lr Cr t := by
  obtain ⟨h0, h1, h2, h3⟩ := h
  have hb := hb.mono hB
  exact ⟨(hb.cell (lt_of_cell h0)).trans h0, (hb.cell (lt_of_cell h1)).trans h1, (hb.cell (lt_of_cell h2)).trans h2, h3.below hb⟩
def TkAt (w : World) (A : Option Addr) (i : Nat) (t : Tk) : Prop :=
  ∃ b o Ar Lr Cr, A = some ⟨b, o, none⟩ ∧ TkC w b (o + i * 3) Ar Lr Cr t ∧ (Ar = none → Cr = 0) ∧ Lr ≤ Cr
def TksL (w : World) (A : Option Addr) (n : Nat) (T : List Tk) : Prop := T.length = n ∧ ∀ i, i < n → TkAt w A i (T.getD i tk0)
theorem TkAt.below {w w' : World} {A : Option Addr} {i : Nat} {t : Tk} (h : TkAt w A i t) (hb : Below w.heap.size w w') : TkAt w' A i t := by
  obtain ⟨b, o, Ar, Lr, Cr, e, h0, r⟩ := h
  exact ⟨b, o, Ar, Lr, Cr, e, h0.below hb (Nat.le_refl _), r⟩
theorem TksL.below {w w' : World} {A : Option Addr} {n : Nat} {T : List Tk} (h : TksL w A n T) (hb : Below w.heap.size w w') : TksL w' A n T := ⟨h.1, fun i hi => (h.2 i hi).below hb⟩
/-- What may be in a token: bytes, and numbers of 64 digits. -/
def tkok (t : Tk) : Prop := (∀ x ∈ t.1, 0 ≤ x ∧ x < 256) ∧ (-9223372036854775808 ≤ t.2.1 ∧ t.2.1 ≤ 9223372036854775807) ∧ (-9223372036854775808 ≤ t.2.2 ∧ t.2.2 ≤ 9223372036854775807)
theorem tkok0 : tkok tk0 := ⟨fun x h => absurd h (by simp [tk0]), by simp [tk0], by simp [tk0]⟩
theorem tkok_getD {T : List Tk} (h : ∀ t ∈ T, tkok t) (i : Nat) : tkok (T.getD i tk0) := by
  by_cases hi : i < T.length
  · rw [List.getD_eq_getElem?_getD, List.getElem?_eq_getElem hi]; exact h _ (List.getElem_mem hi)
  · rw [List.getD_eq_getElem?_getD, List.getElem?_eq_none (by omega)]; exact tkok0
theorem addr_flat3 {b o i j : Nat} : ((⟨b, o, none⟩ : Addr).add (i * 3)).add j = ⟨b, o + i * 3 + j, none⟩ := by
  rw [addr_add_add]
  unfold Addr.add
  split
  · rename_i h
    have h1 : o + i * 3 + j = o := by omega
    rw [h1]
  · simp [Nat.add_assoc]

section
variable {H : Type} {enc : TypeId × Value → H} {w : World} {base : Nat} {v : Value} {d : DataW H} {p : List MemPlace}
theorem open_tokens (g : Value.okWide Try.prog w .any base 22 v) (h : DataW.Trod enc Try.prog w 0 (fun _ => true) true 22 v d p) :
    ∃ A n m T, v = .slice A n m ∧ n ≤ m ∧ TksL w A n T ∧ (∀ t ∈ T, tkok t) ∧ (A = none → m = 0) := by
  obtain ⟨A, n, m, rfl⟩ := okWide_slice Try.underlying22 g
  obtain ⟨fuel, hf⟩ := h
  have c3 : Try.prog.cellsOf 34 = 3 := by kernel_rfl
  have k3 : Try.prog.cellsOf 3 = 1 := by kernel_rfl
  have kb : Try.prog.cellsOf 25 = 1 := by kernel_rfl
  rcases Go.Deep.open_slice Try.underlying22 hf with ⟨hcs, _⟩ | ⟨a, l, c, k, _, D, Pl, hcs, _, hl, _, hk, _, hi⟩
  · simp [Value.cells] at hcs
    obtain ⟨rfl, rfl, rfl⟩ := hcs
    exact ⟨none, 0, 0, [], rfl, Nat.le_refl _, ⟨rfl, fun i hi => absurd hi (by omega)⟩, fun t ht => by simp at ht, fun _ => rfl⟩
  · simp [Value.cells] at hcs
    obtain ⟨rfl, rfl, rfl⟩ := hcs
    have hkn : n ≤ k := by rw [hk]; split <;> omega
    have each : ∀ i, i < n → ∃ t : Tk, TkAt w (some a) i t ∧ tkok t := fun i hin => by
      obtain ⟨cs', hc, ht⟩ := hi i (by omega)
      rw [c3] at hc
      obtain ⟨_, hlen, hcell⟩ := World.cells?_some hc
      match cs', hlen with
      | [x0, x1, x2], _ =>
        obtain ⟨y0, y1, y2, _, _, _, t0, t1, t2⟩ := Go.Deep.trod_struct3 Try.underlying34 ht
        simp only [k3, kb, List.drop_zero, List.take_succ_cons, List.take_zero, List.drop_succ_cons] at t0 t1 t2
        obtain ⟨Ab, Lb, Cb, z, e0, hle, hbs, hby, hn⟩ := read_bytes t0
        obtain ⟨x, e1, _, r1⟩ := DataW.trod_int Try.underlying3 t1
        obtain ⟨y, e2, _, r2⟩ := DataW.trod_int Try.underlying3 t2
        simp only [List.cons.injEq, and_true] at e0 e1 e2
        subst e0 e1 e2
        have h0 := hcell 0 (by omega)
        have h1 := hcell 1 (by omega)
        have h2 := hcell 2 (by omega)
        obtain ⟨b, off, spot⟩ := a
        have hspot : spot = none := by
          obtain ⟨ds, hd, ht'⟩ := hi 0 (by omega)
          rw [c3] at hd
          obtain ⟨_, hdl, hdc⟩ := World.cells?_some hd
          have g0 := hdc 0 (by omega)
          rw [List.getElem?_eq_getElem (by omega)] at g0
          simpa [Addr.add] using World.cell?_spot g0
        subst hspot
        rw [addr_flat3] at h0 h1 h2
        exact ⟨(z, x, y), ⟨b, off, Ab, Lb, Cb, rfl, ⟨h0, h1, h2, hbs⟩, hn, hle⟩, hby, bounds_i64 r1, bounds_i64 r2⟩
    have h3 : ∀ k, k ≤ n → ∃ T : List Tk, T.length = k ∧ (∀ i, i < k → TkAt w (some a) i (T.getD i tk0)) ∧ ∀ t ∈ T, tkok t := by
      intro k
      induction k with
      | zero => exact fun _ => ⟨[], rfl, fun i hi => absurd hi (by omega), fun t ht => by simp at ht⟩
      | succ k ih =>
        intro hk
        obtain ⟨R, hl, hR, hok⟩ := ih (by omega)
        obtain ⟨z, hz, hzk⟩ := each k (by omega)
        refine ⟨R ++ [z], by simp [hl], fun i hi => ?_, fun t ht => ?_⟩
        · by_cases e : i = k
          · subst e
            have : (R ++ [z]).getD i tk0 = z := by rw [List.getD_eq_getElem?_getD, ← hl, List.getElem?_append_right (Nat.le_refl _)]; simp
            rw [this]; exact hz
          · have : (R ++ [z]).getD i tk0 = R.getD i tk0 := by rw [List.getD_eq_getElem?_getD, List.getElem?_append_left (by omega), ← List.getD_eq_getElem?_getD]
            rw [this]; exact hR i (by omega)
        · rcases List.mem_append.1 ht with ht | ht
          · exact hok t ht
          · simp at ht; subst ht; exact hzk
    obtain ⟨T, hT, hTa, hTk⟩ := h3 n (Nat.le_refl _)
    exact ⟨some a, n, m, T, rfl, hl, ⟨hT, hTa⟩, hTk, fun e => by cases e⟩
end

/-- The bytes of a token. -/
def tby (t : Tk) : List Int := if trun t.1.length t.2.1 t.2.2 then vz (2 * (t.1.length : Int) - 2) ++ t.1 else vz (2 * t.2.2 - 7) ++ vz (t.2.1 - 1)
def tright (t : Tk) : Bool := trun t.1.length t.2.1 t.2.2 || tcpy t.1.length t.2.1 t.2.2
def tln (t : Tk) : Int := tsz t.1.length t.2.1 t.2.2
/-- The bytes of the first k. -/
def tbs (T : List Tk) (k : Nat) : List Int := flat (T.map tby) k
theorem getD_map_tby {T : List Tk} {k : Nat} (h : k < T.length) : (T.map tby).getD k [] = tby (T.getD k tk0) := by
  simp [List.getD_eq_getElem?_getD, List.getElem?_eq_getElem h]
theorem tbs_succ {T : List Tk} {k : Nat} (h : k < T.length) : tbs T (k + 1) = tbs T k ++ tby (T.getD k tk0) := by
  unfold tbs
  rw [flat_succ (by simpa using h), getD_map_tby h]
theorem tbs_zero (T : List Tk) : tbs T 0 = [] := by simp [tbs, flat]
theorem tby_le {t : Tk} : (tby t).length ≤ t.1.length + 20 := by
  unfold tby
  have h1 := vsz_le (2 * (t.1.length : Int) - 2)
  have h2 := vsz_le (2 * t.2.2 - 7)
  have h3 := vsz_le (t.2.1 - 1)
  split <;> simp only [List.length_append, vz_length] <;> omega
theorem tbs_mono {T : List Tk} : ∀ {k j : Nat}, k ≤ j → j ≤ T.length → (tbs T k).length ≤ (tbs T j).length := by
  intro k j hkj
  induction j with
  | zero =>
    intro _
    obtain rfl : k = 0 := by omega
    exact Nat.le_refl _
  | succ j ih =>
    intro hj
    rcases Nat.lt_or_ge k (j + 1) with h | h
    · rw [tbs_succ (by omega), List.length_append]; have := ih (by omega) (by omega); omega
    · obtain rfl : k = j + 1 := by omega
      exact Nat.le_refl _
/-- How many bytes the first k make. -/
def ttot (T : List Tk) : Nat → Int
  | 0 => 0
  | k + 1 => ttot T k + tln (T.getD k tk0)
theorem ttot_bd (T : List Tk) (k : Nat) : 0 ≤ ttot T k ∧ ttot T k ≤ 1048576 * k := by
  induction k with
  | zero => exact ⟨Int.le_refl _, by show (0 : Int) ≤ _; omega⟩
  | succ k ih =>
    have := tsz_bd (T.getD k tk0).1.length (T.getD k tk0).2.1 (T.getD k tk0).2.2
    unfold ttot tln
    omega
/-- Are the first k all tokens? -/
def tall (T : List Tk) : Nat → Bool
  | 0 => true
  | k + 1 => tall T k && tright (T.getD k tk0)

/-- Too long to be gone through. -/
def tlong (T : List Tk) : Bool := decide (100 < T.length) || (T.take 100).any fun t => decide (300 < t.1.length)
theorem tlong_no {T : List Tk} (h : tlong T = false) : T.length ≤ 100 ∧ ∀ i, (T.getD i tk0).1.length ≤ 300 := by
  unfold tlong at h
  rw [Bool.or_eq_false_iff] at h
  have h1 : T.length ≤ 100 := by simpa using h.1
  refine ⟨h1, fun i => ?_⟩
  rw [List.take_of_length_le h1] at h
  by_cases hi : i < T.length
  · have := List.any_eq_false.1 h.2 (T.getD i tk0) (by rw [List.getD_eq_getElem?_getD, List.getElem?_eq_getElem hi]; exact List.getElem_mem hi)
    simpa using this
  · rw [List.getD_eq_getElem?_getD, List.getElem?_eq_none (by omega)]; simp [tk0]
theorem tlong_at {T : List Tk} {k : Nat} (h : k < T.length) (hk : k < 100) (hl : 300 < (T.getD k tk0).1.length) : tlong T = true := by
  unfold tlong
  rw [Bool.or_eq_true]
  refine .inr (List.any_eq_true.2 ⟨T.getD k tk0, ?_, by simpa using hl⟩)
  rw [List.getD_eq_getElem?_getD, List.getElem?_eq_getElem h]
  exact List.mem_take_iff_getElem.2 ⟨k, by omega, rfl⟩
theorem tlong_end {T : List Tk} (h : ∀ i, i < T.length → i < 100 → (T.getD i tk0).1.length ≤ 300) : tlong T = decide (100 < T.length) := by
  unfold tlong
  have : ((T.take 100).any fun t => decide (300 < t.1.length)) = false := by
    rw [List.any_eq_false]
    intro t ht
    obtain ⟨i, hi, rfl⟩ := List.mem_take_iff_getElem.1 ht
    have := h i (by omega) (by omega)
    rw [List.getD_eq_getElem?_getD, List.getElem?_eq_getElem (by omega)] at this
    simpa using this
  rw [this, Bool.or_false]
theorem tbs_le {T : List Tk} (h : ∀ i, (T.getD i tk0).1.length ≤ 300) : ∀ k, k ≤ T.length → (tbs T k).length ≤ 320 * k := by
  intro k
  induction k with
  | zero => intro _; rw [tbs_zero]; exact Nat.le_refl _
  | succ k ih =>
    intro hk
    rw [tbs_succ (by omega), List.length_append]
    have := ih (by omega)
    have := tby_le (t := T.getD k tk0)
    have := h k
    omega
end Go.Proofs.Ytklkflfdianbpaa.Cur

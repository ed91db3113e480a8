/- Falling lists (package delta): the plain facts. -/
import Derived.Test.YtjcoabgcacaceaaK6
namespace Go.Proofs.Ytjcoabgcacaceaa.Cur
open Go.RowKit Mem
set_option linter.unusedVariables false

/-- What stands ahead of number k: the number below which the list is, or the number before it. -/
def bel (b : Int) (l : List Int) (k : Nat) : Int := (b :: l).getD k 0
theorem bel_zero (b : Int) (l : List Int) : bel b l 0 = b := rfl
theorem bel_succ (b : Int) (l : List Int) (k : Nat) : bel b l (k + 1) = l.getD k 0 := rfl
theorem bel_bd {b : Int} {l : List Int} {k : Nat} (h0 : 0 ≤ b) (h1 : b < 18446744073709551616) (hb : ∀ x ∈ l, 0 ≤ x ∧ x < 18446744073709551616) (hk : k ≤ l.length) : 0 ≤ bel b l k ∧ bel b l k < 18446744073709551616 := by
  cases k with
  | zero => exact ⟨h0, h1⟩
  | succ k => exact hb _ (getD_mem (by omega))
/-- Does a list fall below a number? -/
def flb : Int → List Int → Bool
  | _, [] => true
  | b, x :: l => decide (x < b) && flb x l
theorem flb_iff : ∀ (l : List Int) (b : Int), flb b l = true ↔ ∀ k, k < l.length → l.getD k 0 < bel b l k
  | [], b => by simp [flb]
  | x :: l, b => by
    rw [flb, Bool.and_eq_true, flb_iff l x, decide_eq_true_eq]
    constructor
    · rintro ⟨h1, h2⟩ k hk
      cases k with
      | zero => exact h1
      | succ k => exact h2 k (by simpa using hk)
    · intro h
      exact ⟨h 0 (by simp), fun k hk => h (k + 1) (by simpa using hk)⟩
theorem flb_no {b : Int} {l : List Int} {k : Nat} (hk : k < l.length) (h : ¬ l.getD k 0 < bel b l k) : flb b l = false := by
  cases e : flb b l with
  | false => rfl
  | true => exact absurd ((flb_iff l b).1 e k hk) h
/-- A list's steps. -/
def dif : Int → List Int → List Int
  | _, [] => []
  | b, x :: l => (b - x - 1) :: dif x l
theorem dif_len : ∀ (l : List Int) (b : Int), (dif b l).length = l.length
  | [], _ => rfl
  | x :: l, b => by rw [dif, List.length_cons, dif_len l x, List.length_cons]
theorem dif_getD : ∀ (l : List Int) (b : Int) (k : Nat), k < l.length → (dif b l).getD k 0 = bel b l k - l.getD k 0 - 1
  | x :: l, b, 0, _ => rfl
  | x :: l, b, k + 1, h => dif_getD l x k (by simpa using h)
/-- The list of steps. -/
def unl : Int → List Int → List Int
  | _, [] => []
  | b, s :: l => (b - s - 1) :: unl (b - s - 1) l
theorem unl_len : ∀ (s : List Int) (b : Int), (unl b s).length = s.length
  | [], _ => rfl
  | x :: l, b => by rw [unl, List.length_cons, unl_len l _, List.length_cons]
theorem unl_getD : ∀ (s : List Int) (b : Int) (k : Nat), k < s.length → (unl b s).getD k 0 = bel b (unl b s) k - s.getD k 0 - 1
  | x :: l, b, 0, _ => rfl
  | x :: l, b, k + 1, h => unl_getD l _ k (by simpa using h)
/-- Do they lead nowhere below 0? -/
def uok : Int → List Int → Bool
  | _, [] => true
  | b, s :: l => decide (s < b) && uok (b - s - 1) l
theorem uok_iff : ∀ (s : List Int) (b : Int), uok b s = true ↔ ∀ k, k < s.length → s.getD k 0 < bel b (unl b s) k
  | [], b => by simp [uok]
  | x :: l, b => by
    rw [uok, Bool.and_eq_true, uok_iff l _, decide_eq_true_eq]
    constructor
    · rintro ⟨h1, h2⟩ k hk
      cases k with
      | zero => exact h1
      | succ k => exact h2 k (by simpa using hk)
    · intro h
      exact ⟨h 0 (by simp), fun k hk => h (k + 1) (by simpa using hk)⟩
theorem uok_no {b : Int} {s : List Int} {k : Nat} (hk : k < s.length) (h : ¬ s.getD k 0 < bel b (unl b s) k) : uok b s = false := by
  cases e : uok b s with
  | false => rfl
  | true => exact absurd ((uok_iff s b).1 e k hk) h
theorem unl_dif : ∀ (l : List Int) (b : Int), unl b (dif b l) = l
  | [], _ => rfl
  | x :: l, b => by rw [dif, unl, show b - (b - x - 1) - 1 = x by omega, unl_dif l x]
theorem dif_unl : ∀ (s : List Int) (b : Int), dif b (unl b s) = s
  | [], _ => rfl
  | x :: l, b => by rw [unl, dif, show b - (b - x - 1) - 1 = x by omega, dif_unl l _]
theorem flb_unl : ∀ (s : List Int) (b : Int), (∀ x ∈ s, 0 ≤ x) → flb b (unl b s) = true
  | [], _, _ => rfl
  | x :: l, b, h => by
    have := h x (List.mem_cons_self ..)
    rw [unl, flb, flb_unl l _ (fun y hy => h y (List.mem_cons_of_mem _ hy)), Bool.and_true, decide_eq_true_eq]
    omega
theorem uok_dif : ∀ (l : List Int) (b : Int), (∀ x ∈ l, 0 ≤ x) → uok b (dif b l) = true
  | [], _, _ => rfl
  | x :: l, b, h => by
    have := h x (List.mem_cons_self ..)
    rw [dif, uok, show b - (b - x - 1) - 1 = x by omega, uok_dif l x (fun y hy => h y (List.mem_cons_of_mem _ hy)), Bool.and_true, decide_eq_true_eq]
    omega
theorem dif_bd : ∀ (l : List Int) (b : Int), flb b l = true → b < 18446744073709551616 → (∀ x ∈ l, 0 ≤ x) → ∀ x ∈ dif b l, 0 ≤ x ∧ x < 18446744073709551616
  | [], _, _, _, _ => by simp [dif]
  | x :: l, b, h, hb, h0 => by
    rw [flb, Bool.and_eq_true, decide_eq_true_eq] at h
    have hx := h0 x (List.mem_cons_self ..)
    intro y hy
    rw [dif, List.mem_cons] at hy
    rcases hy with rfl | hy
    · omega
    · exact dif_bd l x h.2 (by omega) (fun y hy => h0 y (List.mem_cons_of_mem _ hy)) y hy
theorem unl_bd : ∀ (s : List Int) (b : Int), uok b s = true → b < 18446744073709551616 → (∀ x ∈ s, 0 ≤ x) → ∀ x ∈ unl b s, 0 ≤ x ∧ x < 18446744073709551616
  | [], _, _, _, _ => by simp [unl]
  | x :: l, b, h, hb, h0 => by
    rw [uok, Bool.and_eq_true, decide_eq_true_eq] at h
    have hx := h0 x (List.mem_cons_self ..)
    intro y hy
    rw [unl, List.mem_cons] at hy
    rcases hy with rfl | hy
    · omega
    · exact unl_bd l _ h.2 (by omega) (fun y hy => h0 y (List.mem_cons_of_mem _ hy)) y hy
/-! ### Moved on -/
theorem flb_mv (y : Int) : ∀ (l : List Int) (b : Int), flb (b + y) (l.map (· + y)) = flb b l
  | [], _ => rfl
  | x :: l, b => by
    rw [List.map_cons, flb, flb, flb_mv y l x]
    congr 1
    exact decide_eq_decide.2 (by omega)
theorem dif_mv (y : Int) : ∀ (l : List Int) (b : Int), dif (b + y) (l.map (· + y)) = dif b l
  | [], _ => rfl
  | x :: l, b => by rw [List.map_cons, dif, dif, dif_mv y l x, show b + y - (x + y) - 1 = b - x - 1 by omega]

/-! ### Read -/
/-- So many numbers, each by its step. -/
def dgo (z : List Int) : Nat → Int → Int → List Int → Rs (List Int)
  | 0, p, _, acc => (acc, p, 0, 0)
  | k + 1, p, b, acc => (vg z p).bind [] fun x p1 => if b ≤ x then ([], 0, 13, p) else dgo z k p1 (b - x - 1) (acc ++ [b - x - 1])
def dl (z : List Int) (mo b p : Int) : Rs (List Int) := (vm z mo p).bind [] fun x p1 => dgo z x.toNat p1 b []
theorem dgo_once {z : List Int} (hby : ∀ x ∈ z, 0 ≤ x ∧ x < 256) : ∀ (N : Nat) (p b : Int) (acc : List Int), 0 ≤ p → p ≤ z.length → (dgo z N p b acc).2.2.1 = 0 →
    ∃ s p', dgo z N p b acc = (acc ++ unl b s, p', 0, 0) ∧ s.length = N ∧ uok b s = true ∧ (∀ x ∈ s, 0 ≤ x ∧ x < 18446744073709551616) ∧ p ≤ p' ∧ p' ≤ z.length ∧ (s.map vz).flatten = piece z p.toNat p'.toNat
  | 0, p, b, acc, h0, h1, h => ⟨[], p, by simp [dgo, unl], rfl, rfl, by simp, Int.le_refl _, h1, by simp [piece]⟩
  | N + 1, p, b, acc, h0, h1, h => by
    rw [dgo] at h ⊢
    obtain ⟨g0, e⟩ := Rs.bind_ok h
    rw [e] at h ⊢
    obtain ⟨a1, a2, a3, a4, a5⟩ := vg_once hby h0 h1 g0
    by_cases hx : b ≤ (vg z p).1
    · rw [if_pos hx] at h; exact absurd h (by show ¬ (13 : Int) = 0; decide)
    · rw [if_neg hx] at h ⊢
      obtain ⟨s, p', b1, b2, b3, b4, b5, b6, b7⟩ := dgo_once hby N _ _ _ (by omega) a5 h
      refine ⟨(vg z p).1 :: s, p', by rw [b1, unl, List.append_assoc]; rfl, by rw [List.length_cons, b2], ?_, ?_, by omega, b6, ?_⟩
      · rw [uok, b3, Bool.and_true, decide_eq_true_eq]; omega
      · intro x hx
        rcases List.mem_cons.1 hx with rfl | hx
        · exact ⟨a2, a3⟩
        · exact b4 x hx
      · rw [List.map_cons, List.flatten_cons, b7, a1]
        exact piece_append (by omega) (by omega) (by omega)
theorem dgo_put {z : List Int} : ∀ (s pre acc rest : List Int) (b : Int), z = pre ++ (s.map vz).flatten ++ rest → uok b s = true → (∀ x ∈ s, 0 ≤ x ∧ x < 18446744073709551616) →
    dgo z s.length pre.length b acc = (acc ++ unl b s, ((pre.length + (s.map vz).flatten.length : Nat) : Int), 0, 0)
  | [], pre, acc, rest, b, hz, hu, hb => by simp [dgo, unl]
  | x :: s, pre, acc, rest, b, hz, hu, hb => by
    rw [uok, Bool.and_eq_true, decide_eq_true_eq] at hu
    obtain ⟨x0, x1⟩ := hb x (List.mem_cons_self ..)
    have g := vg_put (z := z) (pre := pre) (rest := (s.map vz).flatten ++ rest) (x := x) (by rw [hz]; simp) x0 x1
    rw [List.length_cons, dgo, Rs.bind_of g, if_neg (by omega)]
    have ih := dgo_put (z := z) s (pre ++ vz x) (acc ++ [b - x - 1]) rest (b - x - 1) (by rw [hz]; simp) hu.2 (fun y hy => hb y (List.mem_cons_of_mem _ hy))
    rw [List.length_append, vz_length] at ih
    rw [ih, unl, List.append_assoc, List.map_cons, List.flatten_cons, List.length_append, vz_length, Nat.add_assoc]
    rfl
theorem dl_put {z pre rest l : List Int} {mo b : Int} (hz : z = pre ++ lz (dif b l) ++ rest) (hl : (l.length : Int) ≤ mo) (h64 : (l.length : Int) < 18446744073709551616) (hb : ∀ x ∈ l, 0 ≤ x ∧ x < 18446744073709551616) (hf : flb b l = true) (hb1 : b < 18446744073709551616) :
    dl z mo b pre.length = (l, ((pre.length + (lz (dif b l)).length : Nat) : Int), 0, 0) := by
  have e : lz (dif b l) = vz ((dif b l).length) ++ ((dif b l).map vz).flatten := rfl
  rw [dif_len] at e
  have g := vm_put (z := z) (pre := pre) (rest := ((dif b l).map vz).flatten ++ rest) (x := (l.length : Int)) (mo := mo) (by rw [hz, e]; simp) (by omega) h64 hl
  unfold dl
  rw [Rs.bind_of g, Int.toNat_natCast]
  have h2 := dgo_put (z := z) (dif b l) (pre ++ vz l.length) [] rest b (by rw [hz, e]; simp) (uok_dif l b (fun x hx => (hb x hx).1)) (dif_bd l b hf hb1 (fun x hx => (hb x hx).1))
  rw [dif_len, List.length_append, vz_length, unl_dif, List.nil_append] at h2
  rw [h2, e, List.length_append, vz_length, Nat.add_assoc]
theorem dl_once {z : List Int} {mo b p : Int} (hby : ∀ x ∈ z, 0 ≤ x ∧ x < 256) (h0 : 0 ≤ p) (h1 : p ≤ z.length) (hb1 : b < 18446744073709551616) (h : (dl z mo b p).2.2.1 = 0) :
    ∃ l p', dl z mo b p = (l, p', 0, 0) ∧ (l.length : Int) ≤ mo ∧ flb b l = true ∧ (∀ x ∈ l, 0 ≤ x ∧ x < 18446744073709551616) ∧ p ≤ p' ∧ p' ≤ z.length ∧ lz (dif b l) = piece z p.toNat p'.toNat := by
  unfold dl at h ⊢
  obtain ⟨g0, e⟩ := Rs.bind_ok h
  rw [e] at h ⊢
  obtain ⟨v0, v1, v2⟩ := vm_ok g0
  rw [v2] at h ⊢
  obtain ⟨a1, a2, a3, a4, a5⟩ := vg_once hby h0 h1 v0
  obtain ⟨s, p', b1, b2, b3, b4, b5, b6, b7⟩ := dgo_once hby _ _ b [] (by omega) a5 h
  have e2 : lz (dif b (unl b s)) = vz s.length ++ (s.map vz).flatten := by rw [dif_unl]; rfl
  refine ⟨unl b s, p', by rw [b1]; rfl, by rw [unl_len, b2]; omega, flb_unl s b (fun x hx => (b4 x hx).1), unl_bd s b b3 hb1 (fun x hx => (b4 x hx).1), by omega, b6, ?_⟩
  rw [e2, b7, b2, show (((vg z p).1.toNat : Nat) : Int) = (vg z p).1 by omega, a1]
  exact piece_append (by omega) (by omega) (by omega)
end Go.Proofs.Ytjcoabgcacaceaa.Cur

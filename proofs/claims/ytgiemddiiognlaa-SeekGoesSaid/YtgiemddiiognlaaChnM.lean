/- Chains, plain facts: the four bytes from a place on; the places ahead with the same ones, the nearest first; the map of the last places. -/
import Derived.Test.YtgiemddiiognlaaK1
import Derived.Lib.Hide
import Derived.Maps.OwnSet
import Derived.Maps.OwnOps
namespace Go.Proofs.Ytgiemddiiognlaa.Cur
open Go.RowKit Mem
set_option linter.unusedVariables false

/-- The four bytes from a place on, as a number. -/
def ky (z : List Int) (i : Nat) : Int := z.getD i 0 + 256 * z.getD (i + 1) 0 + 65536 * z.getD (i + 2) 0 + 16777216 * z.getD (i + 3) 0
def hk (z : List Int) (i : Int) : Bool := decide (0 ≤ i ∧ i + 4 ≤ z.length)
theorem hk_pos {z : List Int} {i : Int} (h : hk z i = true) : ∃ k : Nat, i = k ∧ k + 4 ≤ z.length := by
  unfold hk at h
  rw [decide_eq_true_eq] at h
  exact ⟨i.toNat, by omega, by omega⟩
theorem hk_neg {z : List Int} {i : Int} (h : hk z i = false) : ¬ (0 ≤ i ∧ i + 4 ≤ z.length) := by
  unfold hk at h
  rwa [decide_eq_false_iff_not] at h
theorem hk_nat {z : List Int} {k : Nat} (h : k + 4 ≤ z.length) : hk z k = true := by unfold hk; rw [decide_eq_true_eq]; omega
theorem by_at {z : List Int} (hby : ∀ x ∈ z, 0 ≤ x ∧ x < 256) (i : Nat) : 0 ≤ z.getD i 0 ∧ z.getD i 0 < 256 := by
  by_cases h : i < z.length
  · rw [List.getD_eq_getElem?_getD, List.getElem?_eq_getElem h]; exact hby _ (List.getElem_mem h)
  · rw [List.getD_eq_getElem?_getD, List.getElem?_eq_none (by omega)]; decide
theorem ky_bd {z : List Int} (hby : ∀ x ∈ z, 0 ≤ x ∧ x < 256) (i : Nat) : 0 ≤ ky z i ∧ ky z i < 4294967296 := by
  have h0 := by_at hby i
  have h1 := by_at hby (i + 1)
  have h2 := by_at hby (i + 2)
  have h3 := by_at hby (i + 3)
  unfold ky
  omega
theorem ky_eq {z : List Int} (hby : ∀ x ∈ z, 0 ≤ x ∧ x < 256) (i k : Nat) :
    ky z i = ky z k ↔ (z.getD i 0 = z.getD k 0 ∧ z.getD (i + 1) 0 = z.getD (k + 1) 0 ∧ z.getD (i + 2) 0 = z.getD (k + 2) 0 ∧ z.getD (i + 3) 0 = z.getD (k + 3) 0) := by
  have h0 := by_at hby i
  have h1 := by_at hby (i + 1)
  have h2 := by_at hby (i + 2)
  have h3 := by_at hby (i + 3)
  have k0 := by_at hby k
  have k1 := by_at hby (k + 1)
  have k2 := by_at hby (k + 2)
  have k3 := by_at hby (k + 3)
  unfold ky
  generalize z.getD i 0 = a0 at *
  generalize z.getD (i + 1) 0 = a1 at *
  generalize z.getD (i + 2) 0 = a2 at *
  generalize z.getD (i + 3) 0 = a3 at *
  generalize z.getD k 0 = b0 at *
  generalize z.getD (k + 1) 0 = b1 at *
  generalize z.getD (k + 2) 0 = b2 at *
  generalize z.getD (k + 3) 0 = b3 at *
  omega

/-- The same four bytes stand at two places. -/
def sk (z : List Int) (i k : Int) : Bool := hk z i && hk z k && decide (ky z i.toNat = ky z k.toNat)
theorem sk_nat {z : List Int} {i k : Nat} (hi : i + 4 ≤ z.length) (hkk : k + 4 ≤ z.length) : sk z i k = decide (ky z i = ky z k) := by
  unfold sk; rw [hk_nat hi, hk_nat hkk]; rfl
theorem sk_no {z : List Int} {i k : Int} (h : hk z i = false ∨ hk z k = false) : sk z i k = false := by
  unfold sk
  rcases h with h | h <;> rw [h] <;> simp

/-- The places below a with the key x, the nearest first. -/
def pls (z : List Int) (x : Int) : Nat → List Nat
  | 0 => []
  | a + 1 => if a + 4 ≤ z.length ∧ ky z a = x then a :: pls z x a else pls z x a
theorem pls_hit {z : List Int} {x : Int} {a : Nat} (h : a + 4 ≤ z.length ∧ ky z a = x) : pls z x (a + 1) = a :: pls z x a := by rw [pls, if_pos h]
theorem pls_miss {z : List Int} {x : Int} {a : Nat} (h : ¬ (a + 4 ≤ z.length ∧ ky z a = x)) : pls z x (a + 1) = pls z x a := by rw [pls, if_neg h]
theorem pls_mem {z : List Int} {x : Int} {p : Nat} : ∀ {a : Nat}, p ∈ pls z x a ↔ p < a ∧ p + 4 ≤ z.length ∧ ky z p = x
  | 0 => by simp [pls]
  | a + 1 => by
    have ih := pls_mem (z := z) (x := x) (p := p) (a := a)
    by_cases h : a + 4 ≤ z.length ∧ ky z a = x
    · rw [pls_hit h, List.mem_cons, ih]
      constructor
      · rintro (rfl | h1)
        · exact ⟨by omega, h⟩
        · exact ⟨by omega, h1.2⟩
      · rintro ⟨h1, h2⟩
        by_cases e : p = a
        · exact .inl e
        · exact .inr ⟨by omega, h2⟩
    · rw [pls_miss h, ih]
      constructor
      · rintro ⟨h1, h2⟩; exact ⟨by omega, h2⟩
      · rintro ⟨h1, h2⟩
        refine ⟨?_, h2⟩
        by_cases e : p = a
        · subst e; exact absurd h2 h
        · omega
theorem pls_len {z : List Int} {x : Int} : ∀ {a : Nat}, (pls z x a).length ≤ a
  | 0 => by simp [pls]
  | a + 1 => by
    have ih := pls_len (z := z) (x := x) (a := a)
    by_cases h : a + 4 ≤ z.length ∧ ky z a = x
    · rw [pls_hit h, List.length_cons]; omega
    · rw [pls_miss h]; omega
theorem pls_cons {z : List Int} {x : Int} {p : Nat} {l : List Nat} : ∀ {a : Nat}, pls z x a = p :: l → p < a ∧ p + 4 ≤ z.length ∧ ky z p = x ∧ l = pls z x p
  | 0, h => by cases h
  | a + 1, h => by
    by_cases hc : a + 4 ≤ z.length ∧ ky z a = x
    · rw [pls_hit hc] at h
      injection h with h1 h2
      subst h1
      exact ⟨by omega, hc.1, hc.2, h2.symm⟩
    · rw [pls_miss hc] at h
      obtain ⟨h1, h2⟩ := pls_cons h
      exact ⟨by omega, h2⟩
theorem pls_sorted {z : List Int} {x : Int} : ∀ {a : Nat}, (pls z x a).Pairwise (· > ·)
  | 0 => List.Pairwise.nil
  | a + 1 => by
    by_cases h : a + 4 ≤ z.length ∧ ky z a = x
    · rw [pls_hit h]
      exact List.pairwise_cons.2 ⟨fun p hp => (pls_mem.1 hp).1, pls_sorted⟩
    · rw [pls_miss h]; exact pls_sorted

/-- The first of them, or none. -/
def nh : List Nat → Int
  | [] => -1
  | p :: _ => p
theorem nh_neg {l : List Nat} (h : nh l = -1) : l = [] := by
  cases l with
  | nil => rfl
  | cons p l => exact absurd h (by show ¬ ((p : Int) = -1); omega)
/-- The places ahead of place i, of the first a ones. -/
def nrs (z : List Int) (a : Nat) (i : Int) : List Nat := if hk z i = true then pls z (ky z i.toNat) (min i.toNat a) else []
theorem nrs_no {z : List Int} {a : Nat} {i : Int} (h : hk z i = false) : nrs z a i = [] := by unfold nrs; rw [h]; rfl
theorem nrs_yes {z : List Int} {a i : Nat} (h : i + 4 ≤ z.length) : nrs z a i = pls z (ky z i) (min i a) := by unfold nrs; rw [hk_nat h]; rfl
theorem nrs_own {z : List Int} {a i : Nat} (h : i ≤ a) : nrs z a i = nrs z i i := by
  unfold nrs
  rw [Int.toNat_natCast, Nat.min_eq_left h, Nat.min_self]
theorem nrs_cons {z : List Int} {a : Nat} {i : Int} {p : Nat} {l : List Nat} (h : nrs z a i = p :: l) : (p : Int) < i ∧ p < a ∧ p + 4 ≤ z.length ∧ hk z i = true ∧ l = nrs z p p := by
  by_cases hh : hk z i = true
  · obtain ⟨k, rfl, hkz⟩ := hk_pos hh
    rw [nrs_yes hkz] at h
    obtain ⟨h1, h2, h3, h4⟩ := pls_cons h
    refine ⟨by omega, by omega, h2, hh, ?_⟩
    rw [nrs_yes h2, Nat.min_self, h3, h4]
  · unfold nrs at h
    rw [if_neg hh] at h
    cases h
theorem nrs_len {z : List Int} {a : Nat} {i : Int} : (nrs z a i).length ≤ a := by
  unfold nrs
  split
  · have := pls_len (z := z) (x := ky z i.toNat) (a := min i.toNat a); omega
  · simp

/-- What a chain keeps for each of its places. -/
def pvl (z : List Int) : Nat → List Int
  | 0 => []
  | a + 1 => pvl z a ++ [nh (nrs z a a)]
theorem pvl_len (z : List Int) : ∀ a, (pvl z a).length = a
  | 0 => rfl
  | a + 1 => by rw [pvl, List.length_append, pvl_len z a]; rfl
theorem pvl_get (z : List Int) {i : Nat} : ∀ {a : Nat}, i < a → (pvl z a)[i]? = some (nh (nrs z i i))
  | 0, h => absurd h (Nat.not_lt_zero _)
  | a + 1, h => by
    rw [pvl]
    by_cases e : i = a
    · subst e
      rw [List.getElem?_append_right (by rw [pvl_len]; omega), pvl_len, Nat.sub_self]
      rfl
    · rw [List.getElem?_append_left (by rw [pvl_len]; omega), pvl_get z (by omega)]
theorem pvl_bd (z : List Int) (a : Nat) : ∀ x ∈ pvl z a, -1 ≤ x ∧ x < a := by
  intro x hx
  obtain ⟨i, hi, rfl⟩ := List.mem_iff_getElem.1 hx
  rw [pvl_len] at hi
  have := pvl_get z hi
  rw [List.getElem?_eq_getElem (by rw [pvl_len]; exact hi)] at this
  injection this with this
  rw [this]
  cases h : nrs z i i with
  | nil => show -1 ≤ (-1 : Int) ∧ (-1 : Int) < a; omega
  | cons p l => have := nrs_cons h; show -1 ≤ (p : Int) ∧ (p : Int) < a; omega

/-- How many different keys the first a places have. -/
def kct (z : List Int) : Nat → Nat
  | 0 => 0
  | a + 1 => kct z a + if a + 4 ≤ z.length ∧ pls z (ky z a) a = [] then 1 else 0
theorem kct_le (z : List Int) : ∀ a, kct z a ≤ a
  | 0 => Nat.le_refl _
  | a + 1 => by have := kct_le z a; rw [kct]; split <;> omega
/-- The map of the last places. -/
structure MapIs (z : List Int) (a : Nat) (D : DataW Unit) : Prop where
  tidy : Maps.Tidy D
  none_ : ∀ x, pls z x a = [] → Maps.has D (.int .u32 x) = false
  some_ : ∀ x p l, pls z x a = p :: l → Maps.has D (.int .u32 x) = true ∧ ∀ zd, D.atKey (.int .u32 x) zd = .lit (.int .i64 p)
  size : Maps.size D = kct z a
theorem MapIs.nil (z : List Int) : MapIs z 0 (.map []) := ⟨Maps.tidy_empty, fun _ _ => rfl, fun x p l h => (by cases h), rfl⟩
theorem MapIs.skip {z : List Int} {a : Nat} {D : DataW Unit} (h : MapIs z a D) (ha : ¬ a + 4 ≤ z.length) : MapIs z (a + 1) D := by
  have e : ∀ x, pls z x (a + 1) = pls z x a := fun x => pls_miss (fun hc => ha hc.1)
  exact ⟨h.tidy, fun x hx => h.none_ x (by rw [← e]; exact hx), fun x p l hx => h.some_ x p l (by rw [← e]; exact hx), by rw [h.size, kct, if_neg (fun hc => ha hc.1)]; rfl⟩
theorem MapIs.put {z : List Int} {a : Nat} {D : DataW Unit} (h : MapIs z a D) (ha : a + 4 ≤ z.length) : MapIs z (a + 1) (D.put (.int .u32 (ky z a)) (.lit (.int .i64 a))) := by
  have kl : ∀ x, WideAt.IsKeyLit (.int .u32 x) := fun _ => trivial
  refine ⟨h.tidy.put (kl _) _, fun x hx => ?_, fun x p l hx => ?_, ?_⟩
  · by_cases e : ky z a = x
    · rw [pls_hit ⟨ha, e⟩] at hx; cases hx
    · rw [pls_miss (fun hc => e hc.2)] at hx
      rw [Maps.has_put_other (fun hc => e (by injection hc with _ hc; exact hc.symm))]
      exact h.none_ x hx
  · by_cases e : ky z a = x
    · rw [pls_hit ⟨ha, e⟩] at hx
      injection hx with h1 h2
      subst h1 e
      exact ⟨Maps.has_put_same h.tidy.isMap (kl _) _, fun zd => Maps.atKey_put_same h.tidy.isMap (kl _) _ _⟩
    · rw [pls_miss (fun hc => e hc.2)] at hx
      have hne : Lit.int .u32 x ≠ Lit.int .u32 (ky z a) := fun hc => e (by injection hc with _ hc; exact hc.symm)
      rw [Maps.has_put_other hne]
      exact ⟨(h.some_ x p l hx).1, fun zd => (Maps.atKey_put_other hne _ _).trans ((h.some_ x p l hx).2 zd)⟩
  · rw [Maps.size_put h.tidy, h.size, kct]
    cases hp : pls z (ky z a) a with
    | nil => simp [h.none_ _ hp, ha]
    | cons p l => simp [(h.some_ _ p l hp).1]
end Go.Proofs.Ytgiemddiiognlaa.Cur

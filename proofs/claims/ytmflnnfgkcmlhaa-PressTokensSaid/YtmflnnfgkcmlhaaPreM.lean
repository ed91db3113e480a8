/- Greedy compression, plain facts: the tokens of a text, one row alone; expanded they are the text. -/
import Derived.Test.YtmflnnfgkcmlhaaK13
import Derived.Test.YtmflnnfgkcmlhaaK15
namespace Go.Proofs.Ytmflnnfgkcmlhaa.Cur
open Go.RowKit Mem
set_option linter.unusedVariables false

/-- The best match, told (bo: its offset; bn: its bytes; 0 and 0 where none has four). -/
theorem best_is (z : List Int) (a : Int) : (bo z a = 0 ∧ bn z a = 0 ∧ ∀ q ∈ alls a, mt z a.toNat q ≤ 3) ∨
    ∃ p : Nat, p ∈ alls a ∧ bo z a = a - p ∧ bn z a = (mt z a.toNat p : Nat) ∧ 4 ≤ mt z a.toNat p ∧ (∀ q ∈ alls a, mt z a.toNat q ≤ mt z a.toNat p) ∧ ∀ q ∈ alls a, p < q → mt z a.toNat q < mt z a.toNat p := best_cases z a
/-- What a best match is good for. -/
theorem best_good {z : List Int} {a : Nat} (h : bn z a ≠ 0) : ∃ (p l : Nat), bo z a = a - p ∧ bn z a = l ∧ p < a ∧ (a : Int) - p ≤ 65536 ∧ 4 ≤ l ∧ a + l ≤ z.length ∧ l = mt z a p ∧ ∀ j, j < l → z.getD (a + j) 0 = z.getD (p + j) 0 := by
  rcases best_is z a with ⟨_, h2, _⟩ | ⟨p, hp, h1, h2, h3, _⟩
  · exact absurd h2 h
  · have hm := alls_mem.1 hp
    rw [Int.toNat_natCast] at h2 h3
    have := mt_le z a p
    exact ⟨p, _, h1, h2, by omega, hm.2, h3, by omega, rfl, fun j hj => mt_eq hj⟩

/-- One token: from place a on (behind a run or not) to place b. -/
def Gst (z : List Int) (a : Nat) (pr : Bool) (t : Tk) (b : Nat) (pb : Bool) : Prop :=
  (pr = false ∧ pb = true ∧ a < b ∧ b ≤ z.length ∧ t = (piece z a b, 0, 0) ∧ ∀ k : Nat, a ≤ k → k < b → bn z k = 0) ∨
  (pb = false ∧ a < z.length ∧ bn z a ≠ 0 ∧ t = ([], bo z a, bn z a) ∧ b = a + (bn z a).toNat)
/-- Tokens, one behind the other. -/
def Gth (z : List Int) : Nat → Bool → List Tk → Nat → Bool → Prop
  | a, pr, [], c, pc => a = c ∧ pr = pc
  | a, pr, t :: T, c, pc => ∃ b pb, Gst z a pr t b pb ∧ Gth z b pb T c pc
theorem gth_append {z : List Int} {Y : List Tk} {c : Nat} {pc : Bool} : ∀ {X : List Tk} {a : Nat} {pr : Bool}, Gth z a pr (X ++ Y) c pc ↔ ∃ b pb, Gth z a pr X b pb ∧ Gth z b pb Y c pc
  | [], a, pr => ⟨fun h => ⟨a, pr, ⟨rfl, rfl⟩, h⟩, fun ⟨b, pb, ⟨h1, h2⟩, h⟩ => by subst h1 h2; exact h⟩
  | t :: X, a, pr => by
    constructor
    · rintro ⟨b, pb, h1, h2⟩
      obtain ⟨c', pc', h3, h4⟩ := gth_append.1 h2
      exact ⟨c', pc', ⟨b, pb, h1, h3⟩, h4⟩
    · rintro ⟨c', pc', ⟨b, pb, h1, h3⟩, h4⟩
      exact ⟨b, pb, h1, gth_append.2 ⟨c', pc', h3, h4⟩⟩
theorem gth_snoc {z : List Int} {X : List Tk} {t : Tk} {a c : Nat} {pr pc : Bool} : Gth z a pr (X ++ [t]) c pc ↔ ∃ b pb, Gth z a pr X b pb ∧ Gst z b pb t c pc := by
  rw [gth_append]
  constructor
  · rintro ⟨b, pb, h1, b', pb', h2, h3, h4⟩
    subst h3 h4
    exact ⟨b, pb, h1, h2⟩
  · rintro ⟨b, pb, h1, h2⟩
    exact ⟨b, pb, h1, c, pc, h2, rfl, rfl⟩
theorem gst_lt {z : List Int} {a b : Nat} {pr pb : Bool} {t : Tk} (h : Gst z a pr t b pb) : a < b ∧ b ≤ z.length := by
  rcases h with ⟨_, _, h1, h2, _⟩ | ⟨_, h1, h2, _, rfl⟩
  · exact ⟨h1, h2⟩
  · obtain ⟨p, l, _, e, _, _, h4, h5, _⟩ := best_good h2
    rw [e]
    omega
theorem gth_le {z : List Int} {c : Nat} {pc : Bool} : ∀ {T : List Tk} {a : Nat} {pr : Bool}, Gth z a pr T c pc → a ≤ c ∧ T.length ≤ c - a
  | [], a, pr, ⟨h, _⟩ => by subst h; exact ⟨Nat.le_refl _, Nat.zero_le _⟩
  | t :: T, a, pr, ⟨b, pb, h1, h2⟩ => by
    have := gst_lt h1
    have := gth_le h2
    rw [List.length_cons]
    omega
/-- A text has one row of tokens alone. -/
theorem gth_once {z : List Int} {p1 p2 : Bool} : ∀ {T T' : List Tk} {a : Nat} {pr : Bool}, Gth z a pr T z.length p1 → Gth z a pr T' z.length p2 → T = T'
  | [], [], _, _, _, _ => rfl
  | [], t :: T', a, pr, ⟨h, _⟩, ⟨b, pb, h1, _⟩ => by have := gst_lt h1; omega
  | t :: T, [], a, pr, ⟨b, pb, h1, _⟩, ⟨h, _⟩ => by have := gst_lt h1; omega
  | t :: T, t' :: T', a, pr, ⟨b, pb, h1, h2⟩, ⟨b', pb', h1', h2'⟩ => by
    have key : ∀ {T T' : List Tk} {b b' : Nat} {p1 : Bool}, a < b → (∀ k : Nat, a ≤ k → k < b' → bn z k = 0) → b < b' → b' ≤ z.length → Gth z b true T z.length p1 → False := by
      intro T T' b b' p1 hab h0 hbb hb' h
      cases T with
      | nil => have := h.1; omega
      | cons s S =>
        obtain ⟨c, pc, g1, _⟩ := h
        rcases g1 with ⟨e, _⟩ | ⟨_, _, g, _⟩
        · cases e
        · exact g (h0 b (by omega) hbb)
    rcases h1 with ⟨e1, rfl, ha, hb, rfl, h0⟩ | ⟨rfl, ha, h0, rfl, rfl⟩
    · rcases h1' with ⟨_, rfl, ha', hb', rfl, h0'⟩ | ⟨_, _, h0', _⟩
      · have hbb : b = b' := by
          rcases Nat.lt_trichotomy b b' with h | h | h
          · exact (key (T' := T') ha h0' h hb' h2).elim
          · exact h
          · exact (key (T' := T) ha' h0 h hb h2').elim
        subst hbb
        rw [gth_once h2 h2']
      · exact absurd (h0 a (Nat.le_refl _) ha) h0'
    · rcases h1' with ⟨_, _, ha', _, _, h0'⟩ | ⟨rfl, _, _, rfl, rfl⟩
      · exact absurd (h0' a (Nat.le_refl _) ha') h0
      · rw [gth_once h2 h2']

/-! ### While it is made -/
/-- Up to place a: the tokens L up to place b, then literal bytes, which are no token yet. -/
def Gpd (z : List Int) (a : Nat) (L : List Tk) (b : Nat) : Prop := Gth z 0 false L b false ∧ b ≤ a ∧ a ≤ z.length ∧ ∀ k : Nat, b ≤ k → k < a → bn z k = 0
def Gfin (z : List Int) (a : Nat) (L : List Tk) (b : Nat) : List Tk := if b < a then L ++ [(piece z b a, 0, 0)] else L
theorem Gpd.start (z : List Int) : Gpd z 0 [] 0 := ⟨⟨rfl, rfl⟩, Nat.le_refl _, Nat.zero_le _, fun k _ h => by omega⟩
theorem Gpd.lit {z : List Int} {a b : Nat} {L : List Tk} (h : Gpd z a L b) (ha : a < z.length) (h0 : bn z a = 0) : Gpd z (a + 1) L b :=
  ⟨h.1, by have := h.2.1; omega, ha, fun k h1 h2 => by
    by_cases e : k = a
    · rw [e]; exact h0
    · exact h.2.2.2 k h1 (by omega)⟩
theorem Gpd.fin {z : List Int} {a b : Nat} {L : List Tk} (h : Gpd z a L b) : ∃ p, Gth z 0 false (Gfin z a L b) a p ∧ (b < a ∨ p = false) := by
  obtain ⟨h1, h2, h3, h4⟩ := h
  unfold Gfin
  split
  · rename_i hlt
    exact ⟨true, gth_snoc.2 ⟨b, false, h1, .inl ⟨rfl, rfl, hlt, h3, rfl, h4⟩⟩, .inl hlt⟩
  · obtain rfl : b = a := by omega
    exact ⟨false, h1, .inr rfl⟩
theorem Gpd.copy {z : List Int} {a b : Nat} {L : List Tk} (h : Gpd z a L b) (ha : a < z.length) (h0 : bn z a ≠ 0) : Gpd z (a + (bn z a).toNat) (Gfin z a L b ++ [([], bo z a, bn z a)]) (a + (bn z a).toNat) := by
  obtain ⟨p, hp, _⟩ := h.fin
  have hst : Gst z a p ([], bo z a, bn z a) (a + (bn z a).toNat) false := .inr ⟨rfl, ha, h0, rfl, rfl⟩
  exact ⟨gth_snoc.2 ⟨a, p, hp, hst⟩, Nat.le_refl _, (gst_lt hst).2, fun k h1 h2 => by omega⟩

/-! ### Expanded -/
theorem agn_take {z : List Int} {a p : Nat} (hp : p < a) (o : Int) (ho : o = a - p) : ∀ (l : Nat), a + l ≤ z.length → (∀ j, j < l → z.getD (a + j) 0 = z.getD (p + j) 0) → agn 0 id (z.take a) o l = z.take (a + l)
  | 0, _, _ => rfl
  | l + 1, hl, h => by
    have hla : (z.take a).length = a := by rw [List.length_take]; omega
    rw [agn, agn_take hp o ho l (by omega) (fun j hj => h j (by omega)), hla, show a + (l + 1) = a + l + 1 by omega, List.take_succ_eq_append_getElem (by omega : a + l < z.length)]
    congr 2
    have e : (((a + l : Nat) : Int) - o).toNat = p + l := by omega
    have h1 := h l (by omega)
    rw [e, id, List.getD_eq_getElem?_getD, List.getElem?_take_of_lt (by omega), ← List.getD_eq_getElem?_getD, ← h1, List.getD_eq_getElem?_getD, List.getElem?_eq_getElem (by omega)]
    rfl
theorem take_piece {z : List Int} {a b : Nat} (h : a ≤ b) : z.take a ++ piece z a b = z.take b := by
  unfold piece
  obtain ⟨k, rfl⟩ : ∃ k, b = a + k := ⟨b - a, by omega⟩
  rw [Nat.add_sub_cancel_left, List.take_add]
theorem gth_xp {z : List Int} {T : List Tk} {bound : Int} (hz : z.length ≤ 1048576) (hb : (z.length : Int) ≤ bound) : ∀ (k : Nat), k ≤ T.length → ∀ (b : Nat) (p : Bool), Gth z 0 false (T.take k) b p →
    b ≤ z.length ∧ xp (fun k => (T.getD k tk0).1) 0 id T bound k = (z.take b, 0, 0)
  | 0, _, b, p, h => by
    obtain ⟨h, _⟩ := h
    subst h
    exact ⟨Nat.zero_le _, by rw [xp, List.take_zero]⟩
  | k + 1, hk, b, p, h => by
    have e : T.take (k + 1) = T.take k ++ [T.getD k tk0] := by
      rw [List.take_succ_eq_append_getElem (by omega), List.getD_eq_getElem?_getD, List.getElem?_eq_getElem (by omega)]
      rfl
    rw [e] at h
    obtain ⟨a, pa, h1, h2⟩ := gth_snoc.1 h
    obtain ⟨ha, hx⟩ := gth_xp hz hb k (by omega) a pa h1
    have hl := gst_lt h2
    have hta : (z.take a).length = a := by rw [List.length_take]; omega
    refine ⟨hl.2, ?_⟩
    rcases h2 with ⟨_, _, _, _, et, _⟩ | ⟨_, _, h0, et, rfl⟩
    · have hpl : (piece z a b).length = b - a := by unfold piece; rw [List.length_take, List.length_drop]; omega
      have hr : trun (b - a) 0 0 = true := by unfold trun; exact decide_eq_true (by omega)
      rw [xp_more hx, et]
      · show (z.take a ++ piece z a b, (0 : Int), (0 : Int)) = (z.take b, 0, 0)
        rw [take_piece (by omega)]
      · rw [et, hta]
        show chk (piece z a b).length 0 0 (a : Nat) bound = 0
        rw [hpl]
        unfold chk
        rw [hr, Bool.true_or, if_pos rfl, tsz_run hr, if_neg (by omega), if_neg (by omega)]
    · obtain ⟨q, l, e1, e2, h3, h4, h5, h6, _, h7⟩ := best_good h0
      have hr : tcpy 0 (bo z a) (bn z a) = true := by unfold tcpy; exact decide_eq_true (by omega)
      rw [xp_more hx, et]
      · show (agn 0 id (z.take a ++ []) (bo z a) (bn z a).toNat, (0 : Int), (0 : Int)) = (z.take (a + (bn z a).toNat), 0, 0)
        rw [e2, Int.toNat_natCast, List.append_nil, agn_take h3 _ e1 l h6 h7]
      · rw [et, hta]
        show chk 0 (bo z a) (bn z a) (a : Nat) bound = 0
        unfold chk
        rw [hr, Bool.or_true, if_pos rfl, tsz_cpy hr, if_neg (by omega), if_neg (by omega)]
/-- The tokens of a text make the text. -/
theorem gth_makes {z : List Int} {T : List Tk} {bound : Int} {p : Bool} (hz : z.length ≤ 1048576) (hb : (z.length : Int) ≤ bound) (h : Gth z 0 false T z.length p) : xp (fun k => (T.getD k tk0).1) 0 id T bound T.length = (z, 0, 0) := by
  have := (gth_xp (T := T) hz hb T.length (Nat.le_refl _) z.length p (by rw [List.take_length]; exact h)).2
  rwa [List.take_length] at this
end Go.Proofs.Ytmflnnfgkcmlhaa.Cur

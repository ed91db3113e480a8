/- Tokens one behind the other, read: what is read, as a value; rows of tokens that a call made; Get, by the program and by the document. -/
import Derived.Test.YtklkflfdianbpaaTokG
import Derived.Deep.Cut
import Derived.Deep.LoopGhost
namespace Go.Proofs.Ytklkflfdianbpaa.Cur
open Go.RowKit Mem
set_option linter.unusedVariables false

/-- Tokens from place p on, behind those that were read. -/
def tgo (z : List Int) : Nat → Int → List Tk → Rs (List Tk)
  | 0, p, acc => (acc, p, 0, 0)
  | k + 1, p, acc => if (z.length : Int) ≤ p then (acc, p, 0, 0) else (tr z p).bind [] fun t p1 => tgo z k p1 (acc ++ [t])
def tg (z : List Int) : Rs (List Tk) := tgo z (z.length + 1) 0 []
/-- What Get hands back. -/
def tgv (z : List Int) : List Tk × Int × Int := if (tg z).2.2.1 = 0 then ((tg z).1, 0, 0) else ([], (tg z).2.2.1, (tg z).2.2.2)

theorem ofs_ok {z : List Int} {p : Int} (h : (ofs z p).2.2.1 = 0) : (vg z p).2.2.1 = 0 ∧ (vg z p).1 ≤ 65535 ∧ ofs z p = ((vg z p).1 + 1, (vg z p).2.1, 0, 0) := by
  obtain ⟨h1, h2⟩ := Rs.bind_ok h
  unfold ofs at h ⊢
  rw [h2] at h ⊢
  split at h
  · exact absurd h (by show ¬ (10 : Int) = 0; decide)
  · rename_i hb; rw [if_neg hb]; exact ⟨h1, by omega, rfl⟩
theorem hd_ok' {z : List Int} {p : Int} (h : (hd z p).2.2.1 = 0) : (vg z p).2.2.1 = 0 ∧ (hdv (vg z p).1).2 ≤ 1048576 ∧ hd z p = (hdv (vg z p).1, (vg z p).2.1, 0, 0) := by
  obtain ⟨h1, h2⟩ := Rs.bind_ok h
  unfold hd at h ⊢
  rw [h2] at h ⊢
  split at h
  · exact absurd h (by show ¬ (2 : Int) = 0; decide)
  · rename_i hb; rw [if_neg hb]; exact ⟨h1, by omega, rfl⟩
theorem piece_add {z : List Int} {a b c : Nat} (h1 : a ≤ b) (h2 : b ≤ c) : piece z a b ++ piece z b c = piece z a c := by
  unfold piece
  have : z.drop b = (z.drop a).drop (b - a) := by rw [List.drop_drop]; congr 1; omega
  rw [this, ← List.take_add]
  congr 1
  omega
/-- A token that is read: where it ends; that it is one; that it is put so again. -/
theorem tr_once {z : List Int} {p : Int} (hby : ∀ x ∈ z, 0 ≤ x ∧ x < 256) (h0 : 0 ≤ p) (h1 : p ≤ z.length) (h : (tr z p).2.2.1 = 0) :
    p + 1 ≤ (tr z p).2.1 ∧ (tr z p).2.1 ≤ z.length ∧ tr z p = ((tr z p).1, (tr z p).2.1, 0, 0) ∧ tright (tr z p).1 = true ∧ tkok (tr z p).1 ∧ tby (tr z p).1 = piece z p.toNat (tr z p).2.1.toNat := by
  obtain ⟨g1, g2⟩ := Rs.bind_ok h
  obtain ⟨v1, v2, e1⟩ := hd_ok' g1
  have e : tr z p = trb z (hdv (vg z p).1) (vg z p).2.1 := by
    have : tr z p = trb z (hd z p).1 (hd z p).2.1 := g2
    rw [this, e1]
  obtain ⟨o1, o2, o3, o4, o5⟩ := vg_once hby h0 h1 v1
  rw [e] at h ⊢
  have hm : 0 ≤ (vg z p).1 % 2 ∧ (vg z p).1 % 2 < 2 := by omega
  by_cases hcp : (vg z p).1 % 2 = 1
  · have hv : hdv (vg z p).1 = (true, (vg z p).1 / 2 + 4) := by unfold hdv; rw [if_pos hcp]
    rw [hv] at h v2 ⊢
    simp only at v2
    rw [trb_cpy] at h ⊢
    obtain ⟨q1, q2⟩ := Rs.bind_ok h
    obtain ⟨w1, w2, f1⟩ := ofs_ok q1
    obtain ⟨u1, u2, u3, u4, u5⟩ := vg_once hby (by omega) o5 w1
    rw [q2, f1]
    have hc : tcpy 0 ((vg z (vg z p).2.1).1 + 1) ((vg z p).1 / 2 + 4) = true := by unfold tcpy; rw [decide_eq_true_eq]; omega
    have hr : trun 0 ((vg z (vg z p).2.1).1 + 1) ((vg z p).1 / 2 + 4) = false := by unfold trun; rw [decide_eq_false_iff_not]; omega
    refine ⟨by show p + 1 ≤ (vg z (vg z p).2.1).2.1; omega, u5, rfl, ?_, ?_, ?_⟩
    · unfold tright; simp only [List.length_nil]; rw [hc, Bool.or_true]
    · exact ⟨fun x hx => absurd hx (by simp), by simp only; omega, by simp only; omega⟩
    · unfold tby
      simp only [List.length_nil]
      rw [hr, if_neg (by simp), show 2 * ((vg z p).1 / 2 + 4) - 7 = (vg z p).1 by omega, show (vg z (vg z p).2.1).1 + 1 - 1 = (vg z (vg z p).2.1).1 by omega, o1, u1]
      exact piece_add (by omega) (by omega)
  · have hv : hdv (vg z p).1 = (false, (vg z p).1 / 2 + 1) := by unfold hdv; rw [if_neg hcp]
    rw [hv] at h v2 ⊢
    simp only at v2
    rw [trb_run] at h ⊢
    obtain ⟨q1, q2⟩ := Rs.bind_ok h
    obtain ⟨k1, k2, f1⟩ := tk_once (by omega) o5 q1
    rw [q2, f1]
    have hl : (piece z (vg z p).2.1.toNat ((vg z p).2.1 + ((vg z p).1 / 2 + 1)).toNat).length = ((vg z p).1 / 2 + 1).toNat := by rw [length_piece rfl (by omega)]; omega
    have hr : trun (piece z (vg z p).2.1.toNat ((vg z p).2.1 + ((vg z p).1 / 2 + 1)).toNat).length 0 0 = true := by unfold trun; rw [decide_eq_true_eq, hl]; omega
    refine ⟨by show p + 1 ≤ (vg z p).2.1 + ((vg z p).1 / 2 + 1); omega, by show (vg z p).2.1 + ((vg z p).1 / 2 + 1) ≤ _; omega, rfl, ?_, ?_, ?_⟩
    · unfold tright; simp only; rw [hr, Bool.true_or]
    · exact ⟨fun x hx => hby x (List.mem_of_mem_drop (List.mem_of_mem_take hx)), by simp only; omega, by simp only; omega⟩
    · unfold tby
      simp only
      rw [hr, if_pos rfl, hl, show 2 * ((((vg z p).1 / 2 + 1).toNat : Nat) : Int) - 2 = (vg z p).1 by omega, o1]
      exact piece_add (by omega) (by omega)

/-- In a row of cells lie these tokens; their bytes are rows of a call's own. -/
def TkV (w : World) (vs : List Value) (T : List Tk) : Prop :=
  vs.length = T.length * 3 ∧ ∀ i, i < T.length → ∃ v, vs[i * 3]? = some v ∧ vs[i * 3 + 1]? = some (.int .i64 (T.getD i tk0).2.1) ∧ vs[i * 3 + 2]? = some (.int .i64 (T.getD i tk0).2.2) ∧ Own w 0 v (T.getD i tk0).1
def TkOwn (w : World) (B : Nat) (v : Value) (T : List Tk) : Prop := ∃ vs, w.ownsRow B 34 3 v T.length vs ∧ TkV w vs T
theorem kindK : Kind 22 34 (.agg #[.slice none 0 0, .int .i64 0, .int .i64 0]) 3 40 := ⟨Try.underlying22, by kernel_rfl, rfl, by decide⟩
theorem TkOwn.nil (w : World) (B : Nat) : TkOwn w B (.slice none 0 0) [] := ⟨[], World.ownsRow_nil w B 34 3, rfl, fun i hi => absurd hi (by simp)⟩
theorem TkV.keep {w w' : World} {vs : List Value} {T : List Tk} (h : TkV w vs T) (hk : ∀ v z, Own w 0 v z → Own w' 0 v z) : TkV w' vs T :=
  ⟨h.1, fun i hi => by obtain ⟨v, a, b, c, d⟩ := h.2 i hi; exact ⟨v, a, b, c, hk _ _ d⟩⟩
theorem TkOwn.below {w w' : World} {B : Nat} {v : Value} {T : List Tk} (h : TkOwn w B v T) (hb : Below w.heap.size w w') : TkOwn w' B v T := by
  obtain ⟨vs, h1, h2⟩ := h
  exact ⟨vs, own_below h1 hb, h2.keep fun v z ho => ho.below hb⟩
theorem TkOwn.kp_blk {w w' : World} {B b : Nat} {v : Value} {T : List Tk} {cs : Array Value} {t : Nat} (h : TkOwn w B v T) (hr : Blk w b cs t) (h1 : t ≠ 5) (h2 : t ≠ 34 ∨ v.ownBlock ≠ some b) (hb : Kp b w w') : TkOwn w' B v T := by
  obtain ⟨vs, k1, k2⟩ := h
  refine ⟨vs, own_kp k1 hb ?_, k2.keep fun v z ho => own_kp ho hb (ho.ne_blk hr h1)⟩
  rcases h2 with h2 | h2
  · exact own_ne_blk k1 hr h2
  · exact h2
theorem TkOwn.base {w : World} {B B' : Nat} {v : Value} {T : List Tk} (h : TkOwn w B v T) (hB : ∀ g, v.ownBlock = some g → B' ≤ g) : TkOwn w B' v T := by
  obtain ⟨vs, k1, k2⟩ := h
  exact ⟨vs, own_base k1 hB, k2⟩
theorem TkOwn.ge {w : World} {B : Nat} {v : Value} {T : List Tk} (h : TkOwn w B v T) : ∀ g, v.ownBlock = some g → B ≤ g := by
  obtain ⟨vs, k1, _⟩ := h
  exact own_ge k1
theorem TkOwn.lt {w : World} {B : Nat} {v : Value} {T : List Tk} (h : TkOwn w B v T) : ∀ g, v.ownBlock = some g → g < w.heap.size := by
  obtain ⟨vs, k1, _⟩ := h
  exact fun g hg => (World.ownsRow.lt k1 g hg).2
theorem TkOwn.slice {w : World} {B : Nat} {v : Value} {T : List Tk} (h : TkOwn w B v T) : ∃ A c, v = .slice A T.length c := by
  obtain ⟨vs, k1, _⟩ := h
  obtain ⟨A, c, e, _⟩ := own_slice k1
  exact ⟨A, c, e⟩
/-- A row of bytes of the call's own: where it lies, how much room it has. -/
theorem Own.parts {w : World} {B : Nat} {v : Value} {z : List Int} (h : Own w B v z) : ∃ A c, v = .slice A z.length c ∧ Bs w A z.length z ∧ (A = none → c = 0) ∧ z.length ≤ c := by
  obtain ⟨A, c, rfl⟩ := h.slice
  refine ⟨A, c, rfl, h.bs.2, ?_, h.cap⟩
  intro e
  subst e
  rcases h.2 with ⟨e, _⟩ | ⟨g, cap, cur, e, _⟩
  · injection e
  · injection e with e; cases e
theorem TkOwn.tks {w : World} {B n c : Nat} {A : Option Addr} {T : List Tk} (h : TkOwn w B (.slice A n c) T) : n = T.length ∧ n ≤ c ∧ (A = none → c = 0) ∧ TksL w A n T := by
  obtain ⟨vs, k1, k2⟩ := h
  obtain ⟨h1, h2, h3, h4⟩ := own_rw k1 rfl
  refine ⟨h1, by omega, h3, h1.symm, fun i hi => ?_⟩
  obtain ⟨b, o, e, hc⟩ := h4 (by rw [k2.1]; omega)
  obtain ⟨v, a0, a1, a2, ho⟩ := k2.2 i (by omega)
  obtain ⟨Ar, Cr, rfl, hbs, hn, hle⟩ := ho.parts
  refine ⟨b, o, Ar, _, Cr, e, ⟨hc _ _ a0, ?_, ?_, hbs⟩, hn, hle⟩
  · have := hc _ _ a1; rwa [← Nat.add_assoc] at this
  · have := hc _ _ a2; rwa [← Nat.add_assoc] at this
theorem own_ne_own {w : World} {B B' e e' size size' n n' : Nat} {v v' : Value} {xs xs' : List Value} (h : w.ownsRow B e size v n xs) (h' : w.ownsRow B' e' size' v' n' xs') (he : e ≠ e') {g : Nat} (hg : v.ownBlock = some g) : v'.ownBlock ≠ some g := by
  rcases h.2 with ⟨rfl, _⟩ | ⟨k, cap, cur, rfl, _, hh, _⟩
  · simp [Value.ownBlock] at hg
  · have : k = g := by simpa [Value.ownBlock] using hg
    subst this
    rcases h'.2 with ⟨rfl, _⟩ | ⟨k', cap', cur', rfl, _, hh', _⟩
    · simp [Value.ownBlock]
    · intro e2
      have : k' = k := by simpa [Value.ownBlock] using e2
      subst this
      rw [hh] at hh'
      injection hh' with hh'
      injection hh' with _ hh'
      exact he hh'
/-- One more. -/
theorem TkOwn.snoc {w w' : World} {B : Nat} {v v' u : Value} {T : List Tk} {vs : List Value} {t : Tk} (h1 : w.ownsRow B 34 3 v T.length vs) (h2 : TkV w vs T) (hu : Own w 0 u t.1)
    (k1 : w'.ownsRow B 34 3 v' (T.length + 1) (vs ++ [u, .int .i64 t.2.1, .int .i64 t.2.2])) (k2 : w.grownBy w' v.ownBlock) : TkOwn w' B v' (T ++ [t]) := by
  have hko : ∀ x z, Own w 0 x z → Own w' 0 x z := fun x z ho => own_ks ho (Ks.of_grown (S := fun k => v.ownBlock = some k) k2 fun k e => e) fun g hg e => own_ne_own h1 ho (by decide) e hg
  refine ⟨_, by rw [List.length_append]; exact k1, ?_, fun i hi => ?_⟩
  · rw [List.length_append, List.length_append, h2.1]; simp; omega
  · rw [List.length_append, List.length_singleton] at hi
    rcases Nat.lt_succ_iff_lt_or_eq.1 hi with h | rfl
    · obtain ⟨x, a0, a1, a2, ho⟩ := h2.2 i h
      have : (T ++ [t]).getD i tk0 = T.getD i tk0 := by rw [List.getD_eq_getElem?_getD, List.getElem?_append_left h, ← List.getD_eq_getElem?_getD]
      rw [this]
      have hl := h2.1
      exact ⟨x, by rw [List.getElem?_append_left (by omega)]; exact a0, by rw [List.getElem?_append_left (by omega)]; exact a1, by rw [List.getElem?_append_left (by omega)]; exact a2, hko _ _ ho⟩
    · have : (T ++ [t]).getD T.length tk0 = t := by rw [List.getD_eq_getElem?_getD, List.getElem?_append_right (Nat.le_refl _)]; simp
      rw [this]
      have hl := h2.1
      refine ⟨u, ?_, ?_, ?_, hko _ _ hu⟩
      · rw [List.getElem?_append_right (by omega), hl, Nat.sub_self]; rfl
      · rw [List.getElem?_append_right (by omega), hl, Nat.add_sub_cancel_left]; rfl
      · rw [List.getElem?_append_right (by omega), hl, Nat.add_sub_cancel_left]; rfl
end Go.Proofs.Ytklkflfdianbpaa.Cur

/- Stripes as values: what is read from a place on, what is written, which are right: the plain facts. -/
import Derived.Test.YtpoicagalmhfdaaK5
namespace Go.Proofs.Ytpoicagalmhfdaa.Cur
open Go.RowKit Mem
set_option linter.unusedVariables false

/-- A rising list of N numbers. -/
def rg (z : List Int) (N : Nat) (p : Int) : Rs (List Int) := rgo z N p []
theorem RgSt.st {n : Nat} {z : List Int} {p c q : Int} {N : Nat} {l : List Int} {p' c' q' : Int} (h : RgSt n z p c q N l p' c' q') : St [] n (rg z N p) p c q l p' c' q' := h
/-- What is read ahead of other bytes is read behind them. -/
theorem rgo_shift {y : List Int} (pre : List Int) (hby : ∀ x ∈ y, 0 ≤ x ∧ x < 256) : ∀ (N : Nat) (p : Int) (acc l : List Int) (p' : Int), 0 ≤ p → p ≤ y.length → rgo y N p acc = (l, p', 0, 0) → rgo (pre ++ y) N (pre.length + p) acc = (l, pre.length + p', 0, 0)
  | 0, p, acc, l, p', h0, h1, h => by
    unfold rgo at h ⊢
    injection h with h2 h3
    injection h3 with h3 _
    rw [h2, h3]
  | N + 1, p, acc, l, p', h0, h1, h => by
    have hd : (pre ++ y).drop ((pre.length : Int) + p).toNat = y.drop p.toNat := by
      rw [show ((pre.length : Int) + p).toNat = pre.length + p.toNat by omega, List.drop_append]
      rw [List.drop_of_length_le (by omega), List.nil_append]
      congr 1; omega
    by_cases hg : (vgo (y.drop p.toNat) 0 0).2.2.1 = 0
    case neg =>
      rw [rgo_bad hg] at h
      injection h with _ h
      injection h with _ h
      injection h with h _
      exact absurd h hg
    obtain ⟨v, j, hj1, hj2, hj, _⟩ := vgo_once (y.drop p.toNat) 0 0 (fun x hx => hby x (List.mem_of_mem_drop hx)) (by omega) hg
    rw [List.length_drop] at hj2
    have hp2 : (vgo (y.drop p.toNat) 0 0).2.1 = j := by rw [hj]; omega
    by_cases ha : acc = []
    · subst ha
      rw [rgo_first hg] at h
      rw [rgo_first (by rw [hd]; exact hg), hd, Int.add_assoc]
      exact rgo_shift pre hby N _ _ _ _ (by omega) (by omega) h
    · by_cases ho : 18446744073709551615 - acc.getD (acc.length - 1) 0 ≤ (vgo (y.drop p.toNat) 0 0).1
      · rw [rgo_over hg ha ho] at h
        injection h with _ h
        injection h with _ h
        injection h with h _
        exact absurd h (by decide)
      · rw [rgo_next hg ha ho] at h
        rw [rgo_next (by rw [hd]; exact hg) ha (by rw [hd]; exact ho), hd, Int.add_assoc]
        exact rgo_shift pre hby N _ _ _ _ (by omega) (by omega) h
theorem rg_put {z l rest pre : List Int} (hz : z = pre ++ rz l ++ rest) (hr : risesB l = true) (hby : ∀ x ∈ l, 0 ≤ x ∧ x < 18446744073709551616) (hrest : ∀ x ∈ rest, 0 ≤ x ∧ x < 256) : rg z l.length pre.length = (l, ((pre.length + (rz l).length : Nat) : Int), 0, 0) := by
  have h := rgo_back rest hr hby l.length 0 (by omega)
  rw [List.take_zero] at h
  have hb : ∀ x ∈ rz l ++ rest, 0 ≤ x ∧ x < 256 := fun x hx => by
    rcases List.mem_append.1 hx with hx | hx
    · exact rz_byte hr hby x hx
    · exact hrest x hx
  have h2 := rgo_shift pre hb l.length 0 [] l _ (Int.le_refl _) (by omega) h
  rw [Int.add_zero] at h2
  unfold rg
  rw [hz, List.append_assoc, h2]
  push_cast; rfl
theorem rg_once {z : List Int} {N : Nat} {p : Int} (hby : ∀ x ∈ z, 0 ≤ x ∧ x < 256) (h0 : 0 ≤ p) (h1 : p ≤ z.length) (h : (rg z N p).2.2.1 = 0) :
    ∃ (l : List Int) (p' : Int), rg z N p = (l, p', 0, 0) ∧ l.length = N ∧ risesB l = true ∧ (∀ x ∈ l, 0 ≤ x ∧ x < 18446744073709551616) ∧ p ≤ p' ∧ p' ≤ z.length ∧ rz l = piece z p.toNat p'.toNat := by
  have e : rg z N p = ((rg z N p).1, (rg z N p).2.1, 0, 0) := by
    have h2 := rgo_shape N p [] h
    generalize hg : rg z N p = g at *
    obtain ⟨a, b, c, d⟩ := g
    have : rgo z N p [] = (a, b, c, d) := hg
    rw [this] at h2
    dsimp only at h h2
    rw [h, h2]
  obtain ⟨a1, a2, a3, a4, a5, a6⟩ := rgo_once hby N p [] _ _ h0 h1 rfl (fun x hx => by simp at hx) e
  exact ⟨_, _, e, by simpa using a1, a2, a3, a4, a5, by rw [a6]; rfl⟩

/-- How many there are: one at least. -/
def mny (z : List Int) (mo p : Int) : Rs Int := (vm z mo p).bind 0 fun k p1 => if k = 0 then (0, 0, 3, p) else (k, p1, 0, 0)
theorem mny_once {z : List Int} {mo p : Int} (hby : ∀ x ∈ z, 0 ≤ x ∧ x < 256) (h0 : 0 ≤ p) (h1 : p ≤ z.length) (h : (mny z mo p).2.2.1 = 0) :
    ∃ k p', mny z mo p = (k, p', 0, 0) ∧ 1 ≤ k ∧ k ≤ mo ∧ p ≤ p' ∧ p' ≤ z.length ∧ vz k = piece z p.toNat p'.toNat := by
  unfold mny at h ⊢
  obtain ⟨a0, e0⟩ := Rs.bind_ok h
  rw [e0] at h ⊢
  obtain ⟨b0, b1, b2⟩ := vm_ok a0
  rw [b2] at h ⊢
  obtain ⟨c1, c2, c3, c4, c5⟩ := vg_once hby h0 h1 b0
  by_cases hk : (vg z p).1 = 0
  · rw [if_pos hk] at h; exact absurd h (by show ¬ (3 : Int) = 0; decide)
  · rw [if_neg hk]
    exact ⟨_, _, rfl, by omega, b1, by omega, c5, c1⟩
theorem mny_put {z pre rest : List Int} {mo k : Int} (hz : z = pre ++ vz k ++ rest) (k0 : 1 ≤ k) (k1 : k ≤ mo) (k2 : k < 18446744073709551616) : mny z mo pre.length = (k, ((pre.length + vsz k : Nat) : Int), 0, 0) := by
  have g := vg_put hz (by omega) k2
  have e : vm z mo pre.length = (k, ((pre.length + vsz k : Nat) : Int), 0, 0) := by
    unfold vm; rw [g, if_neg (by simp), if_neg (by simp; omega)]
  unfold mny
  rw [Rs.bind_of e, if_neg (by omega)]

/-- Is one of some nodes in a set ahead? -/
def tw (S : List (List Int)) (l : List Int) : Bool := S.any fun s => l.any fun x => s.contains x
/-- May a set stand behind others? -/
def seok (S : List (List Int)) (l : List Int) : Bool := decide (1 ≤ l.length) && decide (l.length ≤ 8) && risesB l && decide (l.getD (l.length - 1) 0 < 4294967296) && !tw S l
/-- One set. -/
def stl (z : List Int) (S : List (List Int)) (p : Int) : Rs (List Int) :=
  (mny z 8 p).bind [] fun m p1 => (rg z m.toNat p1).bind [] fun l p2 => if 4294967296 ≤ l.getD (l.length - 1) 0 then ([], 0, 3, p1) else if tw S l then ([], 0, 13, p1) else (l, p2, 0, 0)
def seb (l : List Int) : List Int := vz l.length ++ rz l
theorem stl_once {z : List Int} {S : List (List Int)} {p : Int} (hby : ∀ x ∈ z, 0 ≤ x ∧ x < 256) (h0 : 0 ≤ p) (h1 : p ≤ z.length) (h : (stl z S p).2.2.1 = 0) :
    ∃ l p', stl z S p = (l, p', 0, 0) ∧ seok S l = true ∧ (∀ x ∈ l, 0 ≤ x ∧ x < 18446744073709551616) ∧ p ≤ p' ∧ p' ≤ z.length ∧ seb l = piece z p.toNat p'.toNat := by
  unfold stl at h ⊢
  obtain ⟨a0, e0⟩ := Rs.bind_ok h
  rw [e0] at h ⊢
  obtain ⟨k, p1, m1, m2, m3, m4, m5, m6⟩ := mny_once hby h0 h1 a0
  rw [m1] at h ⊢
  dsimp only at h ⊢
  obtain ⟨b0, e1⟩ := Rs.bind_ok h
  rw [e1] at h ⊢
  obtain ⟨l, p2, r1, r2, r3, r4, r5, r6, r7⟩ := rg_once hby (by omega) m5 b0
  rw [r1] at h ⊢
  dsimp only at h ⊢
  by_cases hb : 4294967296 ≤ l.getD (l.length - 1) 0
  · rw [if_pos hb] at h; exact absurd h (by show ¬ (3 : Int) = 0; decide)
  · rw [if_neg hb] at h ⊢
    cases ht : tw S l
    · rw [if_neg (by simp)]
      refine ⟨l, p2, rfl, ?_, r4, by omega, r6, ?_⟩
      · unfold seok
        rw [decide_eq_true (by omega), decide_eq_true (by omega), r3, decide_eq_true (by omega), ht]; rfl
      · unfold seb
        rw [r2, show ((k.toNat : Nat) : Int) = k by omega, m6, r7, piece_append (by omega) (by omega) (by omega)]
    · rw [ht, if_pos rfl] at h; exact absurd h (by show ¬ (13 : Int) = 0; decide)
theorem seok_parts {S : List (List Int)} {l : List Int} (h : seok S l = true) : 1 ≤ l.length ∧ l.length ≤ 8 ∧ risesB l = true ∧ l.getD (l.length - 1) 0 < 4294967296 ∧ tw S l = false := by
  unfold seok at h
  simp only [Bool.and_eq_true, decide_eq_true_eq, Bool.not_eq_true'] at h
  exact ⟨h.1.1.1.1, h.1.1.1.2, h.1.1.2, h.1.2, h.2⟩
theorem stl_put {z pre rest : List Int} {S : List (List Int)} {l : List Int} (hz : z = pre ++ seb l ++ rest) (hok : seok S l = true) (hby : ∀ x ∈ l, 0 ≤ x ∧ x < 18446744073709551616) (hrest : ∀ x ∈ rest, 0 ≤ x ∧ x < 256) :
    stl z S pre.length = (l, ((pre.length + (seb l).length : Nat) : Int), 0, 0) := by
  obtain ⟨k1, k2, k3, k4, k5⟩ := seok_parts hok
  have e1 := mny_put (z := z) (pre := pre) (rest := rz l ++ rest) (mo := 8) (k := (l.length : Int)) (by rw [hz]; unfold seb; simp) (by omega) (by omega) (by omega)
  have e2 := rg_put (z := z) (pre := pre ++ vz l.length) (rest := rest) (l := l) (by rw [hz]; unfold seb; simp) k3 hby hrest
  rw [List.length_append, vz_length] at e2
  unfold stl
  rw [Rs.bind_of e1, Int.toNat_natCast, Rs.bind_of e2, if_neg (by omega), k5, if_neg (by simp)]
  unfold seb
  rw [List.length_append, vz_length, Nat.add_assoc]

/-- Sets, one behind the other. -/
def ssg (z : List Int) : Nat → Int → List (List Int) → Rs (List (List Int))
  | 0, p, S => (S, p, 0, 0)
  | k + 1, p, S => (stl z S p).bind [] fun l p' => ssg z k p' (S ++ [l])
def sok : List (List Int) → List (List Int) → Bool
  | _, [] => true
  | A, l :: S => seok A l && sok (A ++ [l]) S
def ssb (S : List (List Int)) : List Int := S.flatMap seb
/-- The numbers of sets are numbers of 64 digits. -/
def sbds (S : List (List Int)) : Prop := ∀ l ∈ S, ∀ x ∈ l, 0 ≤ x ∧ x < 18446744073709551616
theorem seb_byte {l : List Int} {A : List (List Int)} (h : seok A l = true) (hb : ∀ x ∈ l, 0 ≤ x ∧ x < 18446744073709551616) : ∀ b ∈ seb l, 0 ≤ b ∧ b < 256 := fun b hm => by
  obtain ⟨k1, k2, k3, _⟩ := seok_parts h
  unfold seb at hm
  rcases List.mem_append.1 hm with hm | hm
  · exact vz_byte _ (by omega) (by omega) b hm
  · exact rz_byte k3 hb b hm
theorem ssb_byte : ∀ {S A : List (List Int)}, sok A S = true → sbds S → ∀ b ∈ ssb S, 0 ≤ b ∧ b < 256
  | [], _, _, _ => fun b hm => by simp [ssb] at hm
  | l :: S, A, h, hb => fun b hm => by
    unfold sok at h
    rw [Bool.and_eq_true] at h
    unfold ssb at hm
    rw [List.flatMap_cons] at hm
    rcases List.mem_append.1 hm with hm | hm
    · exact seb_byte h.1 (hb l (by simp)) b hm
    · exact ssb_byte h.2 (fun m hm' => hb m (by simp [hm'])) b hm
theorem ssg_once {z : List Int} (hby : ∀ x ∈ z, 0 ≤ x ∧ x < 256) : ∀ (k : Nat) (p : Int) (S : List (List Int)), 0 ≤ p → p ≤ z.length → (ssg z k p S).2.2.1 = 0 →
    ∃ T p', ssg z k p S = (S ++ T, p', 0, 0) ∧ T.length = k ∧ sok S T = true ∧ sbds T ∧ p ≤ p' ∧ p' ≤ z.length ∧ ssb T = piece z p.toNat p'.toNat
  | 0, p, S, h0, h1, _ => ⟨[], p, by rw [List.append_nil]; rfl, rfl, rfl, fun l h => by simp at h, Int.le_refl _, h1, by rw [piece_self]; rfl⟩
  | k + 1, p, S, h0, h1, h => by
    unfold ssg at h ⊢
    obtain ⟨a0, e0⟩ := Rs.bind_ok h
    rw [e0] at h ⊢
    obtain ⟨l, p1, m1, m2, m3, m4, m5, m6⟩ := stl_once hby h0 h1 a0
    rw [m1] at h ⊢
    dsimp only at h ⊢
    obtain ⟨T, p', t1, t2, t3, t4, t5, t6, t7⟩ := ssg_once hby k p1 (S ++ [l]) (by omega) m5 h
    refine ⟨l :: T, p', by rw [t1, List.append_assoc]; rfl, by simp [t2], by unfold sok; rw [m2, t3]; rfl, fun s hs => ?_, by omega, t6, ?_⟩
    · rcases List.mem_cons.1 hs with rfl | hs
      · exact m3
      · exact t4 s hs
    · unfold ssb at t7 ⊢
      rw [List.flatMap_cons, m6, t7, piece_append (by omega) (by omega) (by omega)]
theorem ssg_put {z rest : List Int} (hrest : ∀ x ∈ rest, 0 ≤ x ∧ x < 256) : ∀ (T S : List (List Int)) (pre : List Int), z = pre ++ ssb T ++ rest → sok S T = true → sbds T → ssg z T.length pre.length S = (S ++ T, ((pre.length + (ssb T).length : Nat) : Int), 0, 0)
  | [], S, pre, _, _, _ => by unfold ssg ssb; simp
  | l :: T, S, pre, hz, hok, hb => by
    unfold sok at hok
    rw [Bool.and_eq_true] at hok
    have hbT : sbds T := fun m hm => hb m (by simp [hm])
    have hr2 : ∀ x ∈ ssb T ++ rest, 0 ≤ x ∧ x < 256 := fun x hx => by
      rcases List.mem_append.1 hx with hx | hx
      · exact ssb_byte hok.2 hbT x hx
      · exact hrest x hx
    have e0 : ssb (l :: T) = seb l ++ ssb T := by unfold ssb; rw [List.flatMap_cons]
    have e1 := stl_put (z := z) (pre := pre) (rest := ssb T ++ rest) (S := S) (l := l) (by rw [hz, e0]; simp) hok.1 (hb l (by simp)) hr2
    have e2 := ssg_put (z := z) hrest T (S ++ [l]) (pre ++ seb l) (by rw [hz, e0]; simp) hok.2 hbT
    rw [List.length_append] at e2
    rw [List.length_cons]
    unfold ssg
    rw [Rs.bind_of e1, e2, e0, List.length_append, List.append_assoc, Nat.add_assoc]
    rfl

/-- A stripe: from, to, sets. -/
abbrev Stp := Int × Int × List (List Int)
def stp0 : Stp := (0, 0, [])
def stok (s : Stp) : Bool := decide (s.1 < s.2.1) && decide (s.2.1 ≤ 4611686018427387904) && decide (1 ≤ s.2.2.length) && decide (s.2.2.length ≤ 8) && sok [] s.2.2
def stb (s : Stp) : List Int := vz (s.2.1 - s.1 - 1) ++ vz s.2.2.length ++ ssb s.2.2
/-- A stripe that begins at a position. -/
def str (z : List Int) (from_ p : Int) : Rs Stp :=
  if 4611686018427387904 < from_ then (stp0, 0, 3, p)
  else (vg z p).bind stp0 fun n p1 => if 4611686018427387904 - from_ ≤ n then (stp0, 0, 3, p)
    else (mny z 8 p1).bind stp0 fun k p2 => (ssg z k.toNat p2 []).bind stp0 fun S p3 => ((from_, from_ + n + 1, S), p3, 0, 0)
theorem stok_parts {s : Stp} (h : stok s = true) : s.1 < s.2.1 ∧ s.2.1 ≤ 4611686018427387904 ∧ 1 ≤ s.2.2.length ∧ s.2.2.length ≤ 8 ∧ sok [] s.2.2 = true := by
  unfold stok at h
  simp only [Bool.and_eq_true, decide_eq_true_eq] at h
  exact ⟨h.1.1.1.1, h.1.1.1.2, h.1.1.2, h.1.2, h.2⟩
theorem str_once {z : List Int} {f p : Int} (hby : ∀ x ∈ z, 0 ≤ x ∧ x < 256) (hf : 0 ≤ f) (h0 : 0 ≤ p) (h1 : p ≤ z.length) (h : (str z f p).2.2.1 = 0) :
    ∃ s p', str z f p = (s, p', 0, 0) ∧ s.1 = f ∧ stok s = true ∧ sbds s.2.2 ∧ p ≤ p' ∧ p' ≤ z.length ∧ stb s = piece z p.toNat p'.toNat := by
  unfold str at h ⊢
  by_cases hf2 : 4611686018427387904 < f
  · rw [if_pos hf2] at h; exact absurd h (by show ¬ (3 : Int) = 0; decide)
  · rw [if_neg hf2] at h ⊢
    obtain ⟨a0, e0⟩ := Rs.bind_ok h
    rw [e0] at h ⊢
    obtain ⟨c1, c2, c3, c4, c5⟩ := vg_once hby h0 h1 a0
    generalize (vg z p).1 = n at *
    generalize (vg z p).2.1 = p1 at *
    by_cases hn : 4611686018427387904 - f ≤ n
    · rw [if_pos hn] at h; exact absurd h (by show ¬ (3 : Int) = 0; decide)
    · rw [if_neg hn] at h ⊢
      obtain ⟨b0, e1⟩ := Rs.bind_ok h
      rw [e1] at h ⊢
      obtain ⟨k, p2, m1, m2, m3, m4, m5, m6⟩ := mny_once hby (by omega) c5 b0
      rw [m1] at h ⊢
      dsimp only at h ⊢
      obtain ⟨d0, e2⟩ := Rs.bind_ok h
      rw [e2]
      obtain ⟨T, p3, t1, t2, t3, t4, t5, t6, t7⟩ := ssg_once hby k.toNat p2 [] (by omega) m5 d0
      rw [t1, List.nil_append]
      refine ⟨(f, f + n + 1, T), p3, rfl, rfl, ?_, t4, by omega, t6, ?_⟩
      · unfold stok
        dsimp only
        rw [decide_eq_true (by omega), decide_eq_true (by omega), decide_eq_true (by omega), decide_eq_true (by omega), t3]; rfl
      · unfold stb
        dsimp only
        rw [show f + n + 1 - f - 1 = n by omega, t2, show ((k.toNat : Nat) : Int) = k by omega, c1, m6, t7, piece_append (by omega) (by omega) (by omega), piece_append (by omega) (by omega) (by omega)]
theorem str_put {z pre rest : List Int} {s : Stp} (hz : z = pre ++ stb s ++ rest) (hok : stok s = true) (hf : 0 ≤ s.1) (hb : sbds s.2.2) (hrest : ∀ x ∈ rest, 0 ≤ x ∧ x < 256) : str z s.1 pre.length = (s, ((pre.length + (stb s).length : Nat) : Int), 0, 0) := by
  obtain ⟨k1, k2, k3, k4, k5⟩ := stok_parts hok
  obtain ⟨f, t, S⟩ := s
  dsimp only at *
  have e0 := vg_put (z := z) (pre := pre) (rest := vz S.length ++ ssb S ++ rest) (x := t - f - 1) (by rw [hz]; unfold stb; simp) (by omega) (by omega)
  have e1 := mny_put (z := z) (pre := pre ++ vz (t - f - 1)) (rest := ssb S ++ rest) (mo := 8) (k := (S.length : Int)) (by rw [hz]; unfold stb; simp) (by omega) (by omega) (by omega)
  have e2 := ssg_put hrest S [] (pre ++ vz (t - f - 1) ++ vz S.length) (z := z) (by rw [hz]; unfold stb; simp) k5 hb
  rw [List.length_append, vz_length] at e1
  rw [List.length_append, List.length_append, vz_length, vz_length, List.nil_append] at e2
  unfold str
  rw [if_neg (by omega), Rs.bind_of e0, if_neg (by omega), Rs.bind_of e1, Int.toNat_natCast, Rs.bind_of e2]
  unfold stb
  dsimp only
  rw [List.length_append, List.length_append, vz_length, vz_length, show f + (t - f - 1) + 1 = t by omega]
  simp only [Nat.add_assoc]
end Go.Proofs.Ytpoicagalmhfdaa.Cur

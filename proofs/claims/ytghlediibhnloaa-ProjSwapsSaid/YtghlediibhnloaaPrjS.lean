/- Projections as values: what is read from a place on, what is written, which are right: the plain facts. -/
import Derived.Test.YtghlediibhnloaaStpF
import Derived.Test.YtghlediibhnloaaK20
namespace Go.Proofs.Ytghlediibhnloaa.Cur
open Go.RowKit Mem
set_option linter.unusedVariables false

theorem ve_put {ok : Int → Bool} {z rest pre : List Int} {x : Int} (hz : z = pre ++ vz x ++ rest) (x0 : 0 ≤ x) (x1 : x < 18446744073709551616) (hx : ok x = true) : ve ok z pre.length = (x, ((pre.length + vsz x : Nat) : Int), 0, 0) := by
  unfold ve; rw [vg_put hz x0 x1, if_neg (by simp), if_pos hx]
theorem ve_one {ok : Int → Bool} {z : List Int} {p : Int} (hby : ∀ x ∈ z, 0 ≤ x ∧ x < 256) (h0 : 0 ≤ p) (h1 : p ≤ z.length) (h : (ve ok z p).2.2.1 = 0) :
    ∃ x p', ve ok z p = (x, p', 0, 0) ∧ ok x = true ∧ 0 ≤ x ∧ x < 18446744073709551616 ∧ p ≤ p' ∧ p' ≤ z.length ∧ vz x = piece z p.toNat p'.toNat := by
  obtain ⟨b0, b1, b2⟩ := ve_ok h
  obtain ⟨c1, c2, c3, c4, c5⟩ := vg_once hby h0 h1 b0
  have e : vg z p = ((vg z p).1, (vg z p).2.1, 0, 0) := by
    have h2 : (vg z p).2.2.2 = 0 := if_pos b0
    generalize vg z p = g at *
    obtain ⟨a, b, c, d⟩ := g
    dsimp only at b0 h2
    rw [b0, h2]
  exact ⟨_, _, b2.trans e, b1, c2, c3, by omega, c5, c1⟩

/-- Stripes, one behind the other, from a position on. -/
def psg (z : List Int) : Nat → Int → Int → List Stp → Rs (List Stp × Int)
  | 0, f, p, S => ((S, f), p, 0, 0)
  | k + 1, f, p, S => (str z f p).bind ([], 0) fun s p' => psg z k s.2.1 p' (S ++ [s])
/-- Do stripes follow one another from a position to another one? -/
def pch : Int → List Stp → Int → Bool
  | f, [], t => decide (f = t)
  | f, s :: S, t => decide (s.1 = f) && stok s && pch s.2.1 S t
def pbd (S : List Stp) : Prop := ∀ s ∈ S, sbds s.2.2
def psb (S : List Stp) : List Int := S.flatMap stb
theorem psb_byte : ∀ {S : List Stp} {f t : Int}, 0 ≤ f → pch f S t = true → pbd S → ∀ b ∈ psb S, 0 ≤ b ∧ b < 256
  | [], _, _, _, _, _ => fun b hm => by simp [psb] at hm
  | s :: S, f, t, hf, h, hb => fun b hm => by
    unfold pch at h
    simp only [Bool.and_eq_true, decide_eq_true_eq] at h
    obtain ⟨⟨h1, h2⟩, h3⟩ := h
    have hs := stok_parts h2
    unfold psb at hm
    rw [List.flatMap_cons] at hm
    rcases List.mem_append.1 hm with hm | hm
    · exact stb_byte h2 (by omega) (hb s (by simp)) b hm
    · exact psb_byte (by omega) h3 (fun m hm' => hb m (by simp [hm'])) b hm
theorem psg_once {z : List Int} (hby : ∀ x ∈ z, 0 ≤ x ∧ x < 256) : ∀ (k : Nat) (f p : Int) (S : List Stp), 0 ≤ f → 0 ≤ p → p ≤ z.length → (psg z k f p S).2.2.1 = 0 →
    ∃ T t p', psg z k f p S = ((S ++ T, t), p', 0, 0) ∧ T.length = k ∧ pch f T t = true ∧ pbd T ∧ 0 ≤ t ∧ p ≤ p' ∧ p' ≤ z.length ∧ psb T = piece z p.toNat p'.toNat
  | 0, f, p, S, hf, h0, h1, _ => ⟨[], f, p, by rw [List.append_nil]; rfl, rfl, decide_eq_true rfl, fun l h => by simp at h, hf, Int.le_refl _, h1, by rw [piece_self]; rfl⟩
  | k + 1, f, p, S, hf, h0, h1, h => by
    unfold psg at h ⊢
    obtain ⟨a0, e0⟩ := Rs.bind_ok h
    rw [e0] at h ⊢
    obtain ⟨s, p1, m1, m2, m3, m4, m5, m6, m7⟩ := str_once hby hf h0 h1 a0
    rw [m1] at h ⊢
    dsimp only at h ⊢
    have hs := stok_parts m3
    obtain ⟨T, t, p', t1, t2, t3, t4, t5, t6, t7, t8⟩ := psg_once hby k s.2.1 p1 (S ++ [s]) (by omega) (by omega) m6 h
    refine ⟨s :: T, t, p', by rw [t1, List.append_assoc]; rfl, by simp [t2], by unfold pch; rw [m2, decide_eq_true rfl, m3, t3]; rfl, fun u hu => ?_, t5, by omega, t7, ?_⟩
    · rcases List.mem_cons.1 hu with rfl | hu
      · exact m4
      · exact t4 u hu
    · unfold psb at t8 ⊢
      rw [List.flatMap_cons, m7, t8, piece_append (by omega) (by omega) (by omega)]
theorem psg_put {z rest : List Int} (hrest : ∀ x ∈ rest, 0 ≤ x ∧ x < 256) : ∀ (T : List Stp) (f t : Int) (S : List Stp) (pre : List Int), z = pre ++ psb T ++ rest → 0 ≤ f → pch f T t = true → pbd T → psg z T.length f pre.length S = ((S ++ T, t), ((pre.length + (psb T).length : Nat) : Int), 0, 0)
  | [], f, t, S, pre, _, _, h, _ => by
    have : f = t := of_decide_eq_true h
    subst this
    unfold psg psb; simp
  | s :: T, f, t, S, pre, hz, hf, hok, hb => by
    unfold pch at hok
    simp only [Bool.and_eq_true, decide_eq_true_eq] at hok
    obtain ⟨⟨h1, h2⟩, h3⟩ := hok
    have hs := stok_parts h2
    have hbT : pbd T := fun m hm => hb m (by simp [hm])
    have hr2 : ∀ x ∈ psb T ++ rest, 0 ≤ x ∧ x < 256 := fun x hx => by
      rcases List.mem_append.1 hx with hx | hx
      · exact psb_byte (by omega) h3 hbT x hx
      · exact hrest x hx
    have e0 : psb (s :: T) = stb s ++ psb T := by unfold psb; rw [List.flatMap_cons]
    have e1 := str_put (z := z) (pre := pre) (rest := psb T ++ rest) (s := s) (by rw [hz, e0]; simp) h2 (by omega) (hb s (by simp)) hr2
    have e2 := psg_put (z := z) hrest T s.2.1 t (S ++ [s]) (pre ++ stb s) (by rw [hz, e0]; simp) (by omega) h3 hbT
    rw [List.length_append] at e2
    rw [h1] at e1
    rw [List.length_cons]
    unfold psg
    rw [Rs.bind_of e1, e2, e0, List.length_append, List.append_assoc, Nat.add_assoc]
    rfl

/-- A projection: epoch, stripes. -/
abbrev Prj := Int × List Stp
def prj0 : Prj := (0, [])
def prok (p : Prj) : Bool := epk p.1 && decide (1 ≤ p.2.length) && decide (p.2.length ≤ 64) && pch 0 p.2 4611686018427387904
def prb (p : Prj) : List Int := vz p.1 ++ vz p.2.length ++ psb p.2
def prd (z : List Int) (p : Int) : Rs Prj :=
  (ve epk z p).bind prj0 fun e p1 => (mny z 64 p1).bind prj0 fun n p2 => (psg z n.toNat 0 p2 []).bind prj0 fun S p3 => if S.2 ≠ 4611686018427387904 then (prj0, 0, 3, p3) else ((e, S.1), p3, 0, 0)
theorem prok_parts {p : Prj} (h : prok p = true) : epk p.1 = true ∧ 1 ≤ p.2.length ∧ p.2.length ≤ 64 ∧ pch 0 p.2 4611686018427387904 = true := by
  unfold prok at h
  simp only [Bool.and_eq_true, decide_eq_true_eq] at h
  exact ⟨h.1.1.1, h.1.1.2, h.1.2, h.2⟩
theorem prd_once {z : List Int} {p : Int} (hby : ∀ x ∈ z, 0 ≤ x ∧ x < 256) (h0 : 0 ≤ p) (h1 : p ≤ z.length) (h : (prd z p).2.2.1 = 0) :
    ∃ x p', prd z p = (x, p', 0, 0) ∧ prok x = true ∧ pbd x.2 ∧ p ≤ p' ∧ p' ≤ z.length ∧ prb x = piece z p.toNat p'.toNat := by
  unfold prd at h ⊢
  obtain ⟨a0, e0⟩ := Rs.bind_ok h
  rw [e0] at h ⊢
  obtain ⟨e, p1, m1, m2, m3, m4, m5, m6, m7⟩ := ve_one hby h0 h1 a0
  rw [m1] at h ⊢
  dsimp only at h ⊢
  obtain ⟨b0, e1⟩ := Rs.bind_ok h
  rw [e1] at h ⊢
  obtain ⟨n, p2, n1, n2, n3, n4, n5, n6⟩ := mny_once hby (by omega) m6 b0
  rw [n1] at h ⊢
  dsimp only at h ⊢
  obtain ⟨c0, e2⟩ := Rs.bind_ok h
  rw [e2] at h ⊢
  obtain ⟨T, t, p3, t1, t2, t3, t4, t5, t6, t7, t8⟩ := psg_once hby n.toNat 0 p2 [] (Int.le_refl _) (by omega) n5 c0
  rw [t1, List.nil_append] at h ⊢
  dsimp only at h ⊢
  by_cases ht : t = 4611686018427387904
  · rw [if_neg (by simp [ht])]
    refine ⟨(e, T), p3, rfl, ?_, t4, by omega, t7, ?_⟩
    · unfold prok
      dsimp only
      rw [m2, decide_eq_true (by omega), decide_eq_true (by omega), ← ht, t3]; rfl
    · unfold prb
      dsimp only
      rw [t2, show ((n.toNat : Nat) : Int) = n by omega, m7, n6, t8, piece_append (by omega) (by omega) (by omega), piece_append (by omega) (by omega) (by omega)]
  · rw [if_pos ht] at h; exact absurd h (by show ¬ (3 : Int) = 0; decide)
theorem prd_put {z pre rest : List Int} {x : Prj} (hz : z = pre ++ prb x ++ rest) (hok : prok x = true) (hb : pbd x.2) (hrest : ∀ x ∈ rest, 0 ≤ x ∧ x < 256) : prd z pre.length = (x, ((pre.length + (prb x).length : Nat) : Int), 0, 0) := by
  obtain ⟨k1, k2, k3, k4⟩ := prok_parts hok
  obtain ⟨e, S⟩ := x
  dsimp only at *
  have hep := epk_bd k1
  have e0 := ve_put (ok := epk) (z := z) (pre := pre) (rest := vz S.length ++ psb S ++ rest) (x := e) (by rw [hz]; unfold prb; simp) (by omega) (by omega) k1
  have e1 := mny_put (z := z) (pre := pre ++ vz e) (rest := psb S ++ rest) (mo := 64) (k := (S.length : Int)) (by rw [hz]; unfold prb; simp) (by omega) (by omega) (by omega)
  have e2 := psg_put (z := z) hrest S 0 _ [] (pre ++ vz e ++ vz S.length) (by rw [hz]; unfold prb; simp) (Int.le_refl _) k4 hb
  rw [List.length_append, vz_length] at e1
  rw [List.length_append, List.length_append, vz_length, vz_length, List.nil_append] at e2
  unfold prd
  rw [Rs.bind_of e0, Rs.bind_of e1, Int.toNat_natCast, Rs.bind_of e2, if_neg (by simp)]
  unfold prb
  dsimp only
  rw [List.length_append, List.length_append, vz_length, vz_length]
  simp only [Nat.add_assoc]
end Go.Proofs.Ytghlediibhnloaa.Cur

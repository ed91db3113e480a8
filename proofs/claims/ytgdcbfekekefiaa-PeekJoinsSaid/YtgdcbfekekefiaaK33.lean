/- K33: LnkM LnkA LnkB LnkC LnkD -/
import Derived.Test.YtgdcbfekekefiaaK32
import Derived.Test.YtgdcbfekekefiaaK25
import Derived.BigQuiet
import Derived.Deep.QuietTactic
/- Links (package link): the plain facts: which are valid, their encoding, the reader's spec, one more or another one, later positions. -/
/- Links: where they lie. -/
/- Links: which are right, by the program and by the document; the step. -/
/- Links: which are right, by the document; the step; Put, Size. -/
/- Links: Size; the document's Bytes. -/
namespace Go.Proofs.Ytgdcbfekekefiaa.Cur
open Go.RowKit Mem
set_option linter.unusedVariables false

/-- A link: its stream, its backs. -/
abbrev Lk := Int × List Int
def lk0 : Lk := (0, [])
/-- Links behind a stream (-1: the first ones). -/
def lks (pos : Int) : Int → List Lk → Bool
  | _, [] => true
  | pr, s :: l => decide (pr < s.1) && decide (s.2.length ≤ 4) && flb pos s.2 && lks pos s.1 l
def lkok (pos : Int) (l : List Lk) : Bool := decide (l.length ≤ 16) && lks pos (-1) l
/-- The numbers of links are numbers of 64 digits. -/
def lbd (l : List Lk) : Prop := ∀ s ∈ l, (0 ≤ s.1 ∧ s.1 < 18446744073709551616) ∧ ∀ x ∈ s.2, 0 ≤ x ∧ x < 18446744073709551616
def lk1 (pos pr : Int) (s : Lk) : List Int := vz (s.1 - pr - 1) ++ lz (dif pos s.2)
def lkb (pos : Int) : Int → List Lk → List Int
  | _, [] => []
  | pr, s :: l => lk1 pos pr s ++ lkb pos s.1 l
def lkz (pos : Int) (l : List Lk) : List Int := vz l.length ++ lkb pos (-1) l
/-- A link that begins at a place, behind a stream. -/
def lkr (z : List Int) (pos pr p : Int) : Rs Lk :=
  (vg z p).bind lk0 fun x p1 => if 18446744073709551615 < pr + 1 + x then (lk0, 0, 13, p) else (dl z 4 pos p1).bind lk0 fun l p2 => ((pr + 1 + x, l), p2, 0, 0)
def lkgo (z : List Int) (pos : Int) : Nat → Int → Int → List Lk → Rs (List Lk)
  | 0, _, p, acc => (acc, p, 0, 0)
  | k + 1, pr, p, acc => (lkr z pos pr p).bind [] fun s p' => lkgo z pos k s.1 p' (acc ++ [s])
def lrd (z : List Int) (pos p : Int) : Rs (List Lk) := (vm z 16 p).bind [] fun n p1 => lkgo z pos n.toNat (-1) p1 []

theorem lks_parts {pos pr : Int} {s : Lk} {l : List Lk} (h : lks pos pr (s :: l) = true) : pr < s.1 ∧ s.2.length ≤ 4 ∧ flb pos s.2 = true ∧ lks pos s.1 l = true := by
  unfold lks at h
  simp only [Bool.and_eq_true, decide_eq_true_eq] at h
  exact ⟨h.1.1.1, h.1.1.2, h.1.2, h.2⟩
theorem lks_mk {pos pr : Int} {s : Lk} {l : List Lk} (h1 : pr < s.1) (h2 : s.2.length ≤ 4) (h3 : flb pos s.2 = true) (h4 : lks pos s.1 l = true) : lks pos pr (s :: l) = true := by
  unfold lks
  simp only [Bool.and_eq_true, decide_eq_true_eq]
  exact ⟨⟨⟨h1, h2⟩, h3⟩, h4⟩
theorem lkr_once {z : List Int} (hby : ∀ x ∈ z, 0 ≤ x ∧ x < 256) {pos pr p : Int} (q0 : pos < 18446744073709551616) (hpr : -1 ≤ pr) (h0 : 0 ≤ p) (h1 : p ≤ z.length) (h : (lkr z pos pr p).2.2.1 = 0) :
    ∃ s p', lkr z pos pr p = (s, p', 0, 0) ∧ pr < s.1 ∧ s.1 < 18446744073709551616 ∧ s.2.length ≤ 4 ∧ flb pos s.2 = true ∧ (∀ x ∈ s.2, 0 ≤ x ∧ x < 18446744073709551616) ∧ p ≤ p' ∧ p' ≤ z.length ∧ lk1 pos pr s = piece z p.toNat p'.toNat := by
  unfold lkr at h ⊢
  obtain ⟨g0, e⟩ := Rs.bind_ok h
  rw [e] at h ⊢
  obtain ⟨a1, a2, a3, a4, a5⟩ := vg_once hby h0 h1 g0
  by_cases hx : 18446744073709551615 < pr + 1 + (vg z p).1
  · rw [if_pos hx] at h; exact absurd h (by show ¬ (13 : Int) = 0; decide)
  · rw [if_neg hx] at h ⊢
    obtain ⟨b0, e2⟩ := Rs.bind_ok h
    rw [e2] at h ⊢
    obtain ⟨l, p', c1, c2, c3, c4, c5, c6, c7⟩ := dl_once hby (by omega) a5 q0 b0
    rw [c1]
    refine ⟨_, p', rfl, by show pr < pr + 1 + _; omega, by show pr + 1 + (vg z p).1 < _; omega, by show l.length ≤ 4; omega, c3, c4, by omega, c6, ?_⟩
    show vz (pr + 1 + (vg z p).1 - pr - 1) ++ lz (dif pos l) = _
    rw [show pr + 1 + (vg z p).1 - pr - 1 = (vg z p).1 by omega, a1, c7]
    exact piece_append (by omega) (by omega) (by omega)
theorem lkr_put {z pre rest : List Int} {pos pr : Int} {s : Lk} (hz : z = pre ++ lk1 pos pr s ++ rest) (q0 : pos < 18446744073709551616) (hpr : -1 ≤ pr) (h1 : pr < s.1) (h2 : s.1 < 18446744073709551616) (h3 : s.2.length ≤ 4) (h4 : flb pos s.2 = true) (h5 : ∀ x ∈ s.2, 0 ≤ x ∧ x < 18446744073709551616) :
    lkr z pos pr pre.length = (s, ((pre.length + (lk1 pos pr s).length : Nat) : Int), 0, 0) := by
  have g := vg_put (z := z) (pre := pre) (rest := lz (dif pos s.2) ++ rest) (x := s.1 - pr - 1) (by rw [hz]; unfold lk1; simp) (by omega) (by omega)
  unfold lkr
  rw [Rs.bind_of g, if_neg (by omega)]
  have g2 := dl_put (z := z) (pre := pre ++ vz (s.1 - pr - 1)) (rest := rest) (l := s.2) (mo := 4) (b := pos) (by rw [hz]; unfold lk1; simp) (by omega) (by omega) h5 h4 q0
  rw [List.length_append, vz_length] at g2
  rw [Rs.bind_of g2]
  unfold lk1
  rw [List.length_append, vz_length, show pr + 1 + (s.1 - pr - 1) = s.1 by omega, Nat.add_assoc]
theorem lkgo_once {z : List Int} (hby : ∀ x ∈ z, 0 ≤ x ∧ x < 256) {pos : Int} (q0 : pos < 18446744073709551616) : ∀ (k : Nat) (pr p : Int) (acc : List Lk), -1 ≤ pr → 0 ≤ p → p ≤ z.length → (lkgo z pos k pr p acc).2.2.1 = 0 →
    ∃ l p', lkgo z pos k pr p acc = (acc ++ l, p', 0, 0) ∧ l.length = k ∧ lks pos pr l = true ∧ lbd l ∧ p ≤ p' ∧ p' ≤ z.length ∧ lkb pos pr l = piece z p.toNat p'.toNat
  | 0, pr, p, acc, _, h0, h1, _ => ⟨[], p, by rw [List.append_nil]; rfl, rfl, rfl, fun s h => by simp at h, Int.le_refl _, h1, by rw [piece_self]; rfl⟩
  | k + 1, pr, p, acc, hpr, h0, h1, h => by
    unfold lkgo at h ⊢
    obtain ⟨a0, e0⟩ := Rs.bind_ok h
    rw [e0] at h ⊢
    obtain ⟨s, p1, m1, m2, m3, m4, m5, m6, m7, m8, m9⟩ := lkr_once hby q0 hpr h0 h1 a0
    rw [m1] at h ⊢
    dsimp only at h ⊢
    obtain ⟨l, p', t1, t2, t3, t4, t5, t6, t7⟩ := lkgo_once hby q0 k s.1 p1 (acc ++ [s]) (by omega) (by omega) m8 h
    refine ⟨s :: l, p', by rw [t1, List.append_assoc]; rfl, by simp [t2], lks_mk m2 m4 m5 t3, fun u hu => ?_, by omega, t6, ?_⟩
    · rcases List.mem_cons.1 hu with rfl | hu
      · exact ⟨⟨by omega, m3⟩, m6⟩
      · exact t4 u hu
    · unfold lkb
      rw [m9, t7, piece_append (by omega) (by omega) (by omega)]
theorem lkgo_put {z rest : List Int} {pos : Int} (q0 : pos < 18446744073709551616) : ∀ (l : List Lk) (pr : Int) (acc : List Lk) (pre : List Int), z = pre ++ lkb pos pr l ++ rest → -1 ≤ pr → lks pos pr l = true → lbd l →
    lkgo z pos l.length pr pre.length acc = (acc ++ l, ((pre.length + (lkb pos pr l).length : Nat) : Int), 0, 0)
  | [], pr, acc, pre, _, _, _, _ => by simp [lkgo, lkb]
  | s :: l, pr, acc, pre, hz, hpr, hok, hb => by
    obtain ⟨k1, k2, k3, k4⟩ := lks_parts hok
    obtain ⟨b1, b2⟩ := hb s (by simp)
    have e0 : lkb pos pr (s :: l) = lk1 pos pr s ++ lkb pos s.1 l := rfl
    have e1 := lkr_put (z := z) (pre := pre) (rest := lkb pos s.1 l ++ rest) (s := s) (pos := pos) (pr := pr) (by rw [hz, e0]; simp) q0 hpr k1 b1.2 k2 k3 b2
    have e2 := lkgo_put (z := z) (rest := rest) q0 l s.1 (acc ++ [s]) (pre ++ lk1 pos pr s) (by rw [hz, e0]; simp) (by omega) k4 (fun u hu => hb u (by simp [hu]))
    rw [List.length_append] at e2
    rw [List.length_cons]
    unfold lkgo
    rw [Rs.bind_of e1, e2, e0, List.length_append, List.append_assoc, Nat.add_assoc]
    rfl
theorem lkok_parts {pos : Int} {l : List Lk} (h : lkok pos l = true) : l.length ≤ 16 ∧ lks pos (-1) l = true := by
  unfold lkok at h
  simp only [Bool.and_eq_true, decide_eq_true_eq] at h
  exact h
theorem lkok_mk {pos : Int} {l : List Lk} (h1 : l.length ≤ 16) (h2 : lks pos (-1) l = true) : lkok pos l = true := by
  unfold lkok; rw [decide_eq_true h1, h2]; rfl
theorem lrd_once {z : List Int} {pos p : Int} (hby : ∀ x ∈ z, 0 ≤ x ∧ x < 256) (q0 : pos < 18446744073709551616) (h0 : 0 ≤ p) (h1 : p ≤ z.length) (h : (lrd z pos p).2.2.1 = 0) :
    ∃ l p', lrd z pos p = (l, p', 0, 0) ∧ lkok pos l = true ∧ lbd l ∧ p ≤ p' ∧ p' ≤ z.length ∧ lkz pos l = piece z p.toNat p'.toNat := by
  unfold lrd at h ⊢
  obtain ⟨g0, e⟩ := Rs.bind_ok h
  rw [e] at h ⊢
  obtain ⟨v0, v1, v2⟩ := vm_ok g0
  rw [v2] at h ⊢
  obtain ⟨a1, a2, a3, a4, a5⟩ := vg_once hby h0 h1 v0
  obtain ⟨l, p', b1, b2, b3, b4, b5, b6, b7⟩ := lkgo_once hby q0 _ (-1) _ [] (by omega) (by omega) a5 h
  refine ⟨l, p', by rw [b1]; rfl, lkok_mk (by omega) b3, b4, by omega, b6, ?_⟩
  unfold lkz
  rw [b7, b2, show (((vg z p).1.toNat : Nat) : Int) = (vg z p).1 by omega, a1]
  exact piece_append (by omega) (by omega) (by omega)
theorem lrd_put {z pre rest : List Int} {l : List Lk} {pos : Int} (hz : z = pre ++ lkz pos l ++ rest) (q0 : pos < 18446744073709551616) (hok : lkok pos l = true) (hb : lbd l) :
    lrd z pos pre.length = (l, ((pre.length + (lkz pos l).length : Nat) : Int), 0, 0) := by
  obtain ⟨k1, k2⟩ := lkok_parts hok
  have g := vm_put (z := z) (pre := pre) (rest := lkb pos (-1) l ++ rest) (x := (l.length : Int)) (mo := 16) (by rw [hz]; unfold lkz; simp) (by omega) (by omega) (by omega)
  unfold lrd
  rw [Rs.bind_of g, Int.toNat_natCast]
  have h2 := lkgo_put (z := z) (rest := rest) q0 l (-1) [] (pre ++ vz l.length) (by rw [hz]; unfold lkz; simp) (by omega) k2 hb
  rw [List.length_append, vz_length, List.nil_append] at h2
  rw [h2]
  unfold lkz
  rw [List.length_append, vz_length, Nat.add_assoc]

/-! Later positions. -/
theorem flb_up {b c : Int} (h : b ≤ c) : ∀ {l : List Int}, flb b l = true → flb c l = true
  | [], _ => rfl
  | x :: l, hf => by
    unfold flb at hf ⊢
    simp only [Bool.and_eq_true, decide_eq_true_eq] at hf ⊢
    exact ⟨by omega, hf.2⟩
theorem lks_up {b c : Int} (h : b ≤ c) : ∀ {l : List Lk} {pr : Int}, lks b pr l = true → lks c pr l = true
  | [], _, _ => rfl
  | s :: l, pr, hok => by
    obtain ⟨k1, k2, k3, k4⟩ := lks_parts hok
    exact lks_mk k1 k2 (flb_up h k3) (lks_up h k4)
theorem lkok_up {b c : Int} (h : b ≤ c) {l : List Lk} (hok : lkok b l = true) : lkok c l = true :=
  lkok_mk (lkok_parts hok).1 (lks_up h (lkok_parts hok).2)
/-- The link of the stream's next entry. -/
def ext (pos : Int) (s : Lk) : Lk := (s.1, pos :: s.2.take 3)
theorem flb_take : ∀ {l : List Int} {b : Int} (k : Nat), flb b l = true → flb b (l.take k) = true
  | [], _, _, _ => by rw [List.take_nil]; rfl
  | x :: l, b, 0, _ => rfl
  | x :: l, b, k + 1, h => by
    rw [List.take_succ_cons]
    unfold flb at h ⊢
    simp only [Bool.and_eq_true] at h ⊢
    exact ⟨h.1, flb_take k h.2⟩
theorem ext_ok {pos c : Int} (h : pos < c) {s : Lk} (hf : flb pos s.2 = true) : (ext pos s).2.length ≤ 4 ∧ flb c (ext pos s).2 = true := by
  refine ⟨by unfold ext; simp; omega, ?_⟩
  unfold ext flb
  simp only [Bool.and_eq_true, decide_eq_true_eq]
  exact ⟨h, flb_take 3 hf⟩
theorem lks_ext {pos c : Int} (h : pos < c) : ∀ {l : List Lk} {pr : Int}, lks pos pr l = true → lks c pr (l.map (ext pos)) = true
  | [], _, _ => rfl
  | s :: l, pr, hok => by
    obtain ⟨k1, k2, k3, k4⟩ := lks_parts hok
    have he := ext_ok h k3
    exact lks_mk k1 he.1 he.2 (lks_ext h k4)
/-! Find; With. -/
def fnl : List Lk → Int → Int
  | [], _ => -1
  | s :: l, x => if s.1 = x then 0 else if fnl l x < 0 then -1 else fnl l x + 1
/-- Where it goes, if its stream has none: ahead of the first greater one. -/
def gtl : List Lk → Int → Nat
  | [], _ => 0
  | s :: l, x => if x < s.1 then 0 else gtl l x + 1
def wth (l : List Lk) (x : Lk) : List Lk := if 0 ≤ fnl l x.1 then l.set (fnl l x.1).toNat x else l.take (gtl l x.1) ++ x :: l.drop (gtl l x.1)
theorem fnl_yes : ∀ (l : List Lk) (x : Int) (k : Nat), k < l.length → (l.getD k lk0).1 = x → (∀ j, j < k → (l.getD j lk0).1 ≠ x) → fnl l x = k
  | [], _, _, h, _, _ => absurd h (by simp)
  | s :: l, x, 0, _, h, _ => by unfold fnl; rw [if_pos (by simpa using h)]; rfl
  | s :: l, x, k + 1, hk, h, hj => by
    have ih := fnl_yes l x k (by simpa using hk) (by simpa using h) (fun j h2 => by have := hj (j + 1) (by omega); simpa using this)
    have h0 := hj 0 (by omega)
    unfold fnl
    rw [if_neg (by simpa using h0), ih, if_neg (by omega)]; omega
theorem fnl_no : ∀ (l : List Lk) (x : Int), (∀ j, j < l.length → (l.getD j lk0).1 ≠ x) → fnl l x = -1
  | [], _, _ => rfl
  | s :: l, x, h => by
    have ih := fnl_no l x (fun j hj => by have := h (j + 1) (by simpa using hj); simpa using this)
    have h0 := h 0 (by simp)
    unfold fnl
    rw [if_neg (by simpa using h0), ih, if_pos (by decide)]
theorem gtl_le : ∀ (l : List Lk) (x : Int), gtl l x ≤ l.length
  | [], _ => by simp [gtl]
  | s :: l, x => by
    have := gtl_le l x
    unfold gtl
    split
    · omega
    · simp; omega
theorem gtl_is : ∀ (l : List Lk) (x : Int) (k : Nat), k ≤ l.length → (∀ j, j < k → ¬ x < (l.getD j lk0).1) → (k < l.length → x < (l.getD k lk0).1) → gtl l x = k
  | [], _, k, hk, _, _ => by simp at hk; subst hk; rfl
  | s :: l, x, 0, _, _, h => by unfold gtl; rw [if_pos (by simpa using h (by simp))]
  | s :: l, x, k + 1, hk, h1, h2 => by
    have ih := gtl_is l x k (by simpa using hk) (fun j hj => by have := h1 (j + 1) (by omega); simpa using this) (fun hh => by have := h2 (by simpa using hh); simpa using this)
    have h0 := h1 0 (by omega)
    unfold gtl
    rw [if_neg (by simpa using h0), ih]
/-- Behind all streams: at the end. -/
theorem wth_end {l : List Lk} {x : Lk} (h : ∀ s ∈ l, s.1 < x.1) : wth l x = l ++ [x] := by
  have hg : ∀ j, j < l.length → (l.getD j lk0).1 < x.1 := fun j hj => by
    rw [List.getD_eq_getElem?_getD, List.getElem?_eq_getElem hj]; exact h _ (List.getElem_mem hj)
  unfold wth
  rw [fnl_no l x.1 (fun j hj => by have := hg j hj; omega), if_neg (by decide), gtl_is l x.1 l.length (Nat.le_refl _) (fun j hj => by have := hg j hj; omega) (fun hh => absurd hh (Nat.lt_irrefl _)), List.take_length, List.drop_length]
/-- How long the encoding is. -/
theorem flat_len : ∀ (l : List Int), ((l.map vz).flatten).length ≤ 10 * l.length
  | [] => by simp
  | x :: l => by
    have ih := flat_len l
    have h1 := vz_length x
    have h2 := vsz_le x
    rw [List.map_cons, List.flatten_cons, List.length_append, List.length_cons]
    omega
theorem lzd_len (l : List Int) : (lz l).length ≤ 10 + 10 * l.length := by
  have e : lz l = vz l.length ++ (l.map vz).flatten := rfl
  have h1 := vz_length (l.length : Int)
  have h2 := vsz_le (l.length : Int)
  have h3 := flat_len l
  rw [e, List.length_append]
  omega
theorem lk1_len {pos pr : Int} {s : Lk} (h : s.2.length ≤ 4) : (lk1 pos pr s).length ≤ 60 := by
  have h1 := vz_length (s.1 - pr - 1)
  have h2 := vsz_le (s.1 - pr - 1)
  have h3 := lzd_len (dif pos s.2)
  rw [dif_len] at h3
  unfold lk1
  rw [List.length_append]
  omega
theorem lkb_len {pos : Int} : ∀ {l : List Lk} {pr : Int}, lks pos pr l = true → (lkb pos pr l).length ≤ 60 * l.length
  | [], _, _ => by simp [lkb]
  | s :: l, pr, h => by
    obtain ⟨_, k2, _, k4⟩ := lks_parts h
    have ih := lkb_len k4
    have h1 := lk1_len (pos := pos) (pr := pr) k2
    unfold lkb
    rw [List.length_append, List.length_cons]
    omega
theorem lkz_len {pos : Int} {l : List Lk} (h : lkok pos l = true) : (lkz pos l).length ≤ 970 := by
  obtain ⟨k1, k2⟩ := lkok_parts h
  have h1 := lkb_len k2
  have h2 := vz_length (l.length : Int)
  have h3 := vsz_le (l.length : Int)
  unfold lkz
  rw [List.length_append]
  omega
theorem lzd_byte {l : List Int} (hb : ∀ x ∈ l, 0 ≤ x ∧ x < 18446744073709551616) (hl : (l.length : Int) < 18446744073709551616) : ∀ b ∈ lz l, 0 ≤ b ∧ b < 256 := fun b hm => by
  have e : lz l = vz l.length ++ (l.map vz).flatten := rfl
  rw [e] at hm
  rcases List.mem_append.1 hm with hm | hm
  · exact vz_byte _ (by omega) hl b hm
  · obtain ⟨y, hy, hby⟩ := List.mem_flatten.1 hm
    obtain ⟨x, hx, rfl⟩ := List.mem_map.1 hy
    exact vz_byte _ (hb x hx).1 (hb x hx).2 b hby
theorem lkb_byte {pos : Int} (q0 : pos < 18446744073709551616) : ∀ {l : List Lk} {pr : Int}, -1 ≤ pr → lks pos pr l = true → lbd l → ∀ b ∈ lkb pos pr l, 0 ≤ b ∧ b < 256
  | [], _, _, _, _ => fun b hm => by simp [lkb] at hm
  | s :: l, pr, hpr, h, hb => fun b hm => by
    obtain ⟨k1, k2, k3, k4⟩ := lks_parts h
    obtain ⟨b1, b2⟩ := hb s (by simp)
    unfold lkb lk1 at hm
    rcases List.mem_append.1 hm with hm | hm
    · rcases List.mem_append.1 hm with hm | hm
      · exact vz_byte _ (by omega) (by omega) b hm
      · exact lzd_byte (dif_bd s.2 pos k3 q0 (fun x hx => (b2 x hx).1)) (by rw [dif_len]; omega) b hm
    · exact lkb_byte q0 (by omega) k4 (fun u hu => hb u (by simp [hu])) b hm
theorem lkz_byte {pos : Int} (q0 : pos < 18446744073709551616) {l : List Lk} (h : lkok pos l = true) (hb : lbd l) : ∀ b ∈ lkz pos l, 0 ≤ b ∧ b < 256 := fun b hm => by
  obtain ⟨k1, k2⟩ := lkok_parts h
  unfold lkz at hm
  rcases List.mem_append.1 hm with hm | hm
  · exact vz_byte _ (by omega) (by omega) b hm
  · exact lkb_byte q0 (by omega) k2 hb b hm
end Go.Proofs.Ytgdcbfekekefiaa.Cur

namespace Go.Proofs.Ytgdcbfekekefiaa.Cur
open Go.RowKit Mem
set_option linter.unusedVariables false
set_option maxRecDepth 100000

abbrev LkE : El Lk := PrE U64E (SlE U64E)
/-- n links at an address. -/
def Lks (w : World) (P : Nat → Prop) (A : Option Addr) (n : Nat) (L : List Lk) : Prop := L.length = n ∧ Sq LkE w P A L
theorem Lks.keep {w w' : World} {P : Nat → Prop} {A : Option Addr} {n : Nat} {L : List Lk} (h : Lks w P A n L) (hk : ∀ b, P b → b < w.heap.size → w'.heap[b]? = w.heap[b]?) : Lks w' P A n L := ⟨h.1, h.2.keep hk⟩
theorem Lks.mono {w : World} {P Q : Nat → Prop} {A : Option Addr} {n : Nat} {L : List Lk} (h : Lks w P A n L) (hq : ∀ b, P b → b < w.heap.size → Q b) : Lks w Q A n L := ⟨h.1, h.2.mono hq⟩
theorem Lks.below {w w' : World} {P : Nat → Prop} {A : Option Addr} {n : Nat} {L : List Lk} (h : Lks w P A n L) (hb : Below w.heap.size w w') : Lks w' P A n L := ⟨h.1, h.2.below hb⟩
theorem us_block {w : World} {P : Nat → Prop} {A : Option Addr} {z : List Int} (h : Sq U64E w P A z) (hl : 0 < z.length) : ∀ ad, A = some ad → P ad.block := fun ad ha => by
  obtain ⟨cs, c1, c2⟩ := h
  obtain ⟨k', o', e2, hPk, _⟩ := c2 (by rw [c1.flat]; exact Nat.mul_pos hl (by decide))
  rw [e2] at ha
  injection ha with ha
  subst ha
  exact hPk
theorem link_parts {w : World} {P : Nat → Prop} {c : List Value} {s : Lk} (h : LkE.R w P c s) :
    ∃ A m, c = [.int .u64 s.1, .slice A s.2.length m] ∧ (0 ≤ s.1 ∧ s.1 < 18446744073709551616) ∧ s.2.length ≤ m ∧ (A = none → m = 0) ∧ Us w A s.2.length s.2 ∧ (∀ x ∈ s.2, 0 ≤ x ∧ x < 18446744073709551616) ∧ (0 < s.2.length → ∀ ad, A = some ad → P ad.block) ∧ Sq U64E w P A s.2 := by
  obtain ⟨d, e, rfl, ⟨rfl, b0⟩, A, m, rfl, h1, h2, h3⟩ := h
  obtain ⟨u1, u2⟩ := h3.us
  exact ⟨A, m, rfl, b0, h1, h2, u1, u2, fun hl => us_block h3 hl, h3⟩
theorem LkE.mk {w : World} {P : Nat → Prop} {x : Int} {A : Option Addr} {l m : Nat} {z : List Int} (hx : 0 ≤ x ∧ x < 18446744073709551616) (hl : z.length = l) (hm : l ≤ m) (hn : A = none → m = 0) (h : Sq U64E w P A z) : LkE.R w P [.int .u64 x, .slice A l m] (x, z) :=
  ⟨[_], [_], rfl, ⟨rfl, hx.1, hx.2⟩, A, m, by rw [hl], by rw [hl]; exact hm, hn, h⟩
theorem Lks.cells {w : World} {P : Nat → Prop} {A : Option Addr} {n : Nat} {L : List Lk} (h : Lks w P A n L) (hn : n ≠ 0) :
    ∃ g o, A = some ⟨g, o, none⟩ ∧ P g ∧ g < w.heap.size ∧ ∀ k, k < n → ∃ x z a l m, L.getD k lk0 = (x, z) ∧ (0 ≤ x ∧ x < 18446744073709551616) ∧ z.length = l ∧ l ≤ m ∧ (a = none → m = 0) ∧ Us w a l z ∧ (∀ y ∈ z, 0 ≤ y ∧ y < 18446744073709551616) ∧ (0 < l → ∀ ad, a = some ad → P ad.block) ∧ Sq U64E w P a z ∧
      ∀ w', Below w.heap.size w w' → w'.cell? ⟨g, o + k * 2, none⟩ = some (.int .u64 x) ∧ w'.cell? ⟨g, o + k * 2 + 1, none⟩ = some (.slice a l m) := by
  obtain ⟨rfl, h⟩ := h
  obtain ⟨g, o, c, e, hP, hg, _⟩ := h.at_ (i := 0) (by decide) (List.getElem?_eq_getElem (Nat.pos_of_ne_zero hn))
  refine ⟨g, o, e, hP, hg, fun k hk => ?_⟩
  obtain ⟨g', o', c', e', hP', hg', hR, hcell⟩ := h.at_ (i := k) (by decide) (List.getElem?_eq_getElem hk)
  rw [e] at e'
  injection e' with e'
  injection e' with e1 e2
  subst e1 e2
  have hS : L.getD k lk0 = L[k] := by rw [List.getD_eq_getElem?_getD, List.getElem?_eq_getElem hk]; rfl
  obtain ⟨a, m, rfl, b0, h1, h2, h3, h4, h5, h6⟩ := link_parts hR
  rw [hS]
  refine ⟨L[k].1, L[k].2, a, _, m, rfl, b0, rfl, h1, h2, h3, h4, h5, h6, fun w' hb => ⟨?_, ?_⟩⟩
  · have := hcell 0 _ rfl; exact (hb.cell (lt_of_cell this)).trans this
  · have := hcell 1 _ rfl; exact (hb.cell (lt_of_cell this)).trans this
theorem Lks.bds {w : World} {P : Nat → Prop} {A : Option Addr} {n : Nat} {L : List Lk} (h : Lks w P A n L) : lbd L := by
  intro s hs
  obtain ⟨k, hk, e⟩ := List.mem_iff_getElem.1 hs
  obtain ⟨cs, h1, _⟩ := h.2
  obtain ⟨c, hR, _⟩ := h1.at_ k s (by rw [List.getElem?_eq_getElem hk, e])
  obtain ⟨A, m, _, b0, _, _, _, h4, _⟩ := link_parts hR
  exact ⟨b0, h4⟩
/-- Whatever cells stand for the links. -/
theorem lks_of_cells {w : World} {P : Nat → Prop} {g n : Nat} {L : List Lk} (hl : L.length = n) (hg : P g) (h : ∀ i, i < n → ∃ a b, (w.cell? ⟨g, i * 2, none⟩ = some a ∧ w.cell? ⟨g, i * 2 + 1, none⟩ = some b) ∧ LkE.R w P [a, b] (L.getD i lk0)) : Lks w P (some ⟨g, 0, none⟩) n L := by
  obtain ⟨cs, xs, l1, l2, hp⟩ := pick_n (p := fun i c x => x = L.getD i lk0 ∧ ∃ u v, c = [u, v] ∧ (w.cell? ⟨g, i * 2, none⟩ = some u ∧ w.cell? ⟨g, i * 2 + 1, none⟩ = some v) ∧ LkE.R w P [u, v] (L.getD i lk0)) n fun i hi => by
    obtain ⟨a, b, h1, h2⟩ := h i hi
    exact ⟨[a, b], _, rfl, a, b, rfl, h1, h2⟩
  have hxs : xs = L := by
    apply List.ext_getElem (by omega)
    intro i h1 h2
    have := (hp i (cs[i]'(by omega)) xs[i] (List.getElem?_eq_getElem _) (List.getElem?_eq_getElem _)).1
    rw [this, List.getD_eq_getElem?_getD, List.getElem?_eq_getElem h2]; rfl
  subst hxs
  refine ⟨hl, cs, Ch.of (by omega) fun i c x hc hx => ?_, fun hpos => ⟨g, 0, rfl, hg, fun i v hv => ?_⟩⟩
  · obtain ⟨e, a, b, rfl, _, hR⟩ := hp i c x hc hx
    rw [e]; exact hR
  · have hlen : ∀ c ∈ cs, c.length = 2 := fun c hcm => by
      obtain ⟨i, hi, e⟩ := List.mem_iff_getElem.1 hcm
      obtain ⟨_, a, b, e2, _⟩ := hp i c _ (by rw [List.getElem?_eq_getElem hi, e]) (List.getElem?_eq_getElem (by omega))
      rw [e2]; rfl
    obtain ⟨i', j, c, e, hj, hci, hcv⟩ := flat_at hlen i v hv
    have hi' := (List.getElem?_eq_some_iff.1 hci).1
    obtain ⟨_, a, b, rfl, ⟨h1, h2⟩, _⟩ := hp i' c _ hci (List.getElem?_eq_getElem (by omega))
    rw [Nat.zero_add, e]
    rcases j with _ | _ | j
    · simp at hcv; subst hcv; exact h1
    · simp at hcv; subst hcv; exact h2
    · omega
/-- A link as a value; its cells. -/
abbrev lkagg (x : Int) (A : Option Addr) (n m : Nat) : Value := .agg #[.int .u64 x, .slice A n m]
abbrev lkc (x : Int) (A : Option Addr) (n m : Nat) : Array Value := #[.int .u64 x, .slice A n m]
theorem opens_link : Opens LkE 57 := opens_pair Try.underlying57 rfl rfl (by kernel_rfl) (by kernel_rfl) (by kernel_rfl) (opens_u64 Try.underlying22) (opens_slice Try.underlying34 (by kernel_rfl) (by decide) (opens_u64 Try.underlying22))
section
variable {H : Type} {enc : TypeId × Value → H} {w : World} {base : Nat} {v : Value} {d : DataW H} {p : List MemPlace}
theorem open_link (g : Value.okWide Try.prog w .any base 57 v) (h : DataW.Trod enc Try.prog w 0 (fun _ => true) true 57 v d p) :
    ∃ x A n m z, v = lkagg x A n m ∧ (0 ≤ x ∧ x < 18446744073709551616) ∧ n ≤ m ∧ (A = none → m = 0) ∧ Us w A n z ∧ (∀ y ∈ z, 0 ≤ y ∧ y < 18446744073709551616) ∧ Sq U64E w (fun b => b < w.heap.size) A z := by
  obtain ⟨cs, s, rfl, hs⟩ := open_st Try.underlying57 opens_link g h
  obtain ⟨A, m, hc, b0, h1, h2, h3, h4, _, h6⟩ := link_parts hs
  refine ⟨s.1, A, s.2.length, m, s.2, ?_, b0, h1, h2, h3, h4, h6.mono fun b _ hb => hb⟩
  rw [show cs = cs.toList.toArray by simp, hc]
theorem open_links (g : Value.okWide Try.prog w .any base 28 v) (h : DataW.Trod enc Try.prog w 0 (fun _ => true) true 28 v d p) :
    ∃ A n m L, v = .slice A n m ∧ n ≤ m ∧ (A = none → m = 0) ∧ Lks w (fun b => b < w.heap.size) A n L := by
  obtain ⟨A, m, L, rfl, h1, h2, h3⟩ := open_sl Try.underlying28 (opens_slice Try.underlying28 (by kernel_rfl) (by decide) opens_link) g h
  exact ⟨A, _, m, L, rfl, h1, h2, rfl, h3.mono fun b _ hb => hb⟩
end
end Go.Proofs.Ytgdcbfekekefiaa.Cur

namespace Go.Proofs.Ytgdcbfekekefiaa.Cur
open Go.RowKit Mem
set_option linter.unusedVariables false
set_option maxRecDepth 100000


/-- The stream ahead of link k. -/
def lkp (pr : Int) (L : List Lk) (k : Nat) : Int := ((((pr, []) : Lk) :: L).getD k lk0).1
theorem lkp_zero (pr : Int) (L : List Lk) : lkp pr L 0 = pr := rfl
theorem lkp_succ (pr : Int) (L : List Lk) (k : Nat) : lkp pr L (k + 1) = (L.getD k lk0).1 := rfl
/-- Link k is right. -/
def lko (pos pr : Int) (L : List Lk) (k : Nat) : Prop := lkp pr L k < (L.getD k lk0).1 ∧ (L.getD k lk0).2.length ≤ 4 ∧ flb pos (L.getD k lk0).2 = true
theorem lks_iff (pos : Int) : ∀ (L : List Lk) (pr : Int), lks pos pr L = true ↔ ∀ k, k < L.length → lko pos pr L k
  | [], pr => by simp [lks]
  | s :: L, pr => by
    have hp : ∀ k, lkp s.1 L k = lkp pr (s :: L) (k + 1) := fun k => by cases k <;> rfl
    constructor
    · intro h k hk
      obtain ⟨h1, h2, h3, h4⟩ := lks_parts h
      rcases k with _ | k
      · exact ⟨h1, h2, h3⟩
      · have := (lks_iff pos L s.1).1 h4 k (by simpa using hk)
        unfold lko at this ⊢
        rw [hp] at this
        exact this
    · intro h
      obtain ⟨h1, h2, h3⟩ := h 0 (by simp)
      refine lks_mk h1 h2 h3 ((lks_iff pos L s.1).2 fun k hk => ?_)
      have := h (k + 1) (by simpa using hk)
      unfold lko at this ⊢
      rw [hp]
      exact this
theorem lkok_yes {pos : Int} {L : List Lk} (hl : L.length ≤ 16) (h : ∀ k, k < L.length → lko pos (-1) L k) : lkok pos L = true := lkok_mk hl ((lks_iff pos L (-1)).2 h)
theorem lkok_at {pos : Int} {L : List Lk} (h : lkok pos L = true) {k : Nat} (hk : k < L.length) : lko pos (-1) L k := (lks_iff pos L (-1)).1 (lkok_parts h).2 k hk
theorem lkok_no {pos : Int} {L : List Lk} {k : Nat} (hk : k < L.length) (h : ¬ lko pos (-1) L k) : lkok pos L = false := by
  cases e : lkok pos L with
  | false => rfl
  | true => exact absurd (lkok_at e hk) h
theorem lkok_long {pos : Int} {L : List Lk} (h : 16 < L.length) : lkok pos L = false := by
  cases e : lkok pos L with
  | false => rfl
  | true => have := (lkok_parts e).1; omega
theorem lko_next {pos : Int} {L : List Lk} {k : Nat} (hj : ∀ j, j < k → lko pos (-1) L j) (h : lko pos (-1) L k) : ∀ j, j < k + 1 → lko pos (-1) L j := fun j hjk => by
  rcases Nat.lt_or_ge j k with h2 | h2
  · exact hj j h2
  · obtain rfl : j = k := by omega
    exact h
/-- The stream ahead, where it lies. -/
theorem Lks.ahead {w : World} {P : Nat → Prop} {g o n : Nat} {L : List Lk} (h : Lks w P (some ⟨g, o, none⟩) n L) {k : Nat} (hk : k < n) (h0 : 0 < k) :
    ∃ y, lkp (-1) L k = y ∧ (0 ≤ y ∧ y < 18446744073709551616) ∧ ∀ w', Below w.heap.size w w' → w'.cell? ⟨g, o + (k - 1) * 2, none⟩ = some (.int .u64 y) := by
  obtain ⟨g', o', e, hP, hg, hc⟩ := h.cells (by omega)
  injection e with e
  injection e with e1 e2
  subst e1 e2
  obtain ⟨x, z, a, l, m, h1, h2, _, _, _, _, _, _, _, h9⟩ := hc (k - 1) (by omega)
  refine ⟨x, ?_, h2, fun w' hb => (h9 w' hb).1⟩
  have := lkp_succ (-1) L (k - 1)
  rw [show k - 1 + 1 = k by omega, h1] at this
  exact this

set_option maxHeartbeats 4000000 in
theorem lkright_any (P : Nat → Prop) (pos : Int) (A : Option Addr) (n m : Nat) (L : List Lk) (w : World) (hz : Lks w P A n L) (p0 : 0 ≤ pos) (p1 : pos < 18446744073709551616) :
    Calls Try.prog 84 #[.int .u64 pos, .slice A n m] w (BPost (.bool (lkok pos L)) w) := by
  unfold BPost
  have HL := Lib.hid hz.1
  have HC := Lib.hid (fun h => hz.cells h)
  have HNO := Lib.hid (fun k hk h => lkok_no (pos := pos) (L := L) (k := k) hk h)
  have HYES := Lib.hid (lkok_yes (pos := pos) (L := L))
  have HLG := Lib.hid (lkok_long (pos := pos) (L := L))
  have HE := Lib.hid (And.intro p0 p1)
  have HZ := Lib.hid hz
  generalize lkok pos L = r at *
  clear hz p0 p1
  by_cases h16 : 16 < n
  · have HR := Lib.hid (HLG.out (by rw [HL.out]; exact h16))
    have e1 : 16 < (n : Int) := by omega
    clear h16
    go_enter Try.func84, Try.ntmps84
    go_wp2
    go_ret
    exact ⟨by rw [HR.out]; rfl, Below.refl _ _⟩
  · have e1 : ¬ 16 < (n : Int) := by omega
    go_enter Try.func84, Try.ntmps84
    go_wp2
    go_loopw [12] (fun i wr => ∃ k : Nat, k ≤ n ∧ i = .int .i64 k ∧ Hid (∀ j, j < k → lko pos (-1) L j) ∧ Below w.heap.size w wr) (fun i _ => n - (intOf i).toNat)
    case atStart => exact ⟨0, by omega, rfl, Lib.hid (by intro j hj; omega), Below.refl _ _⟩
    case round =>
      obtain ⟨k, hk, rfl, hj, hb⟩ := hrel
      by_cases hlt : k < n
      · obtain ⟨g, o, rfl, _, hg, hc⟩ := HC.out (by omega)
        obtain ⟨x, z, a, l, mm, he, xb, hl, hlm, han, hus, hzb, _, _, hcell⟩ := hc k hlt
        obtain ⟨c0, c1⟩ := hcell wr hb
        have HEQ := Lib.hid he
        have HLZ := Lib.hid hl
        have HUS := Lib.hid hus
        have HZB := Lib.hid hzb
        have e2 : (k : Int) < n := by omega
        have e3 : IntKind.i64.wrap ((k : Int) + 1) = ((k + 1 : Nat) : Int) := IntWalk.i64_in _ (by omega)
        have hX := Blk.new wr (lkc x a l mm) 57
        have hbW0 := hb.trans ((below_one wr (.cells (lkc x a l mm) 57)).mono hb.size)
        obtain ⟨x0, x1⟩ := hX.c2
        clear hc hcell he hl hus hzb han hX hlm
        by_cases h0 : k = 0
        · have HPX : Hid (lkp (-1) L k < x) := Lib.hid (by rw [h0, lkp_zero]; omega)
          have e4 : ¬ 0 < (k : Int) := by omega
          have e4n : ¬ 0 < k := by omega
          clear h0
          go_wp2
          go_quiet (fail)
          have hbW := fun n => below_drewN hbW0 n
          by_cases h4 : 4 < (l : Int)
          · have HRR : Hid (r = false) := Lib.hid (HNO.out k (by rw [HL.out]; exact hlt) (fun h => by have h5 := h.2.1; rw [HEQ.out] at h5; have h6 : z.length ≤ 4 := h5; rw [HLZ.out] at h6; omega))
            go_wp2
            go_ret
            exact ⟨by rw [HRR.out]; rfl, hbW _⟩
          · have hl4 : l ≤ 4 := by omega
            go_wp2_with fail
            refine (dfalls_any a l mm pos z _ (HUS.out.below (hbW _)) (by omega) HZB.out HE.out.1 HE.out.2).mono ?_
            rintro en w2 ⟨rfl, hb2⟩
            have hbd := (hbW _).trans (hb2.mono (hbW _).size)
            obtain ⟨fv, hfv⟩ : ∃ fv, fv = flb pos z := ⟨_, rfl⟩
            rw [← hfv]
            have HF := Lib.hid hfv
            clear hfv hb2 x0 x1
            cases fv
            · have HRR : Hid (r = false) := Lib.hid (HNO.out k (by rw [HL.out]; exact hlt) (fun h => by have h5 := h.2.2; rw [HEQ.out, ← HF.out] at h5; cases h5))
              go_wp2
              go_ret
              exact ⟨by rw [HRR.out]; rfl, hbd⟩
            · have HJ : Hid (lko pos (-1) L k) := Lib.hid ⟨by rw [HEQ.out]; exact HPX.out, by rw [HEQ.out]; show z.length ≤ 4; rw [HLZ.out]; exact hl4, by rw [HEQ.out]; exact HF.out.symm⟩
              go_wp2
              go_roundw
              case rel => exact ⟨k + 1, by omega, by go_num, Lib.hid (lko_next hj.out HJ.out), hbd⟩
              case measure => simp [intOf]; omega
        · obtain ⟨y, hy, yb, hya⟩ := HZ.out.ahead hlt (by omega)
          have d0 := hya _ hbW0
          have HY := Lib.hid hy
          have e4 : 0 < (k : Int) := by omega
          have e4n : 0 < k := by omega
          have e5 : IntKind.i64.wrap ((k : Int) - 1) = ((k - 1 : Nat) : Int) := by rw [IntWalk.i64_in _ (by omega)]; omega
          have e6 : ((k - 1 : Nat) : Int) < n := by omega
          clear h0 hy hya
          by_cases hxy : x ≤ y
          · have HRR : Hid (r = false) := Lib.hid (HNO.out k (by rw [HL.out]; exact hlt) (fun h => by have h5 := h.1; rw [HEQ.out, HY.out] at h5; have h6 : y < x := h5; omega))
            go_wp2
            go_quiet (fail)
            go_wp2
            go_ret
            exact ⟨by rw [HRR.out]; rfl, below_drewN hbW0 _⟩
          · have HPX : Hid (lkp (-1) L k < x) := Lib.hid (by rw [HY.out]; omega)
            go_wp2
            go_quiet (fail)
            have hbW := fun n => below_drewN hbW0 n
            by_cases h4 : 4 < (l : Int)
            · have HRR : Hid (r = false) := Lib.hid (HNO.out k (by rw [HL.out]; exact hlt) (fun h => by have h5 := h.2.1; rw [HEQ.out] at h5; have h6 : z.length ≤ 4 := h5; rw [HLZ.out] at h6; omega))
              go_wp2
              go_ret
              exact ⟨by rw [HRR.out]; rfl, hbW _⟩
            · have hl4 : l ≤ 4 := by omega
              go_wp2_with fail
              refine (dfalls_any a l mm pos z _ (HUS.out.below (hbW _)) (by omega) HZB.out HE.out.1 HE.out.2).mono ?_
              rintro en w2 ⟨rfl, hb2⟩
              have hbd := (hbW _).trans (hb2.mono (hbW _).size)
              obtain ⟨fv, hfv⟩ : ∃ fv, fv = flb pos z := ⟨_, rfl⟩
              rw [← hfv]
              have HF := Lib.hid hfv
              clear hfv hb2 x0 x1
              cases fv
              · have HRR : Hid (r = false) := Lib.hid (HNO.out k (by rw [HL.out]; exact hlt) (fun h => by have h5 := h.2.2; rw [HEQ.out, ← HF.out] at h5; cases h5))
                go_wp2
                go_ret
                exact ⟨by rw [HRR.out]; rfl, hbd⟩
              · have HJ : Hid (lko pos (-1) L k) := Lib.hid ⟨by rw [HEQ.out]; exact HPX.out, by rw [HEQ.out]; show z.length ≤ 4; rw [HLZ.out]; exact hl4, by rw [HEQ.out]; exact HF.out.symm⟩
                go_wp2
                go_roundw
                case rel => exact ⟨k + 1, by omega, by go_num, Lib.hid (lko_next hj.out HJ.out), hbd⟩
                case measure => simp [intOf]; omega
      · obtain rfl : k = n := by omega
        have HR := Lib.hid (HYES.out (by rw [HL.out]; omega) (fun i hi => hj.out i (by rw [HL.out] at hi; exact hi)))
        go_wp2
        go_ret
        exact ⟨by rw [HR.out]; rfl, hb⟩
end Go.Proofs.Ytgdcbfekekefiaa.Cur

namespace Go.Proofs.Ytgdcbfekekefiaa.Cur
open Go.RowKit Mem
set_option linter.unusedVariables false
set_option maxRecDepth 100000


def LkS (w w' : World) : Prop := Below w.heap.size w w'
set_option maxHeartbeats 8000000 in
theorem rlkright_any (P : Nat → Prop) (pos : Int) (A : Option Addr) (n m : Nat) (L : List Lk) (w : World) (hz : Lks w P A n L) (p0 : 0 ≤ pos) (p1 : pos < 18446744073709551616) :
    Calls Try.prog 68 #[.int .u64 pos, .slice A n m] w (BPost (.bool (lkok pos L)) w) := by
  unfold BPost
  have HL := Lib.hid hz.1
  have HC := Lib.hid (fun h => hz.cells h)
  have HNO := Lib.hid (fun k hk h => lkok_no (pos := pos) (L := L) (k := k) hk h)
  have HYES := Lib.hid (lkok_yes (pos := pos) (L := L))
  have HLG := Lib.hid (lkok_long (pos := pos) (L := L))
  have HE := Lib.hid (And.intro p0 p1)
  have HZ := Lib.hid hz
  generalize lkok pos L = r at *
  clear hz p0 p1
  by_cases h16 : 16 < n
  · have HR := Lib.hid (HLG.out (by rw [HL.out]; exact h16))
    have e1 : 16 < (n : Int) := by omega
    clear h16
    go_enter Try.func68, Try.ntmps68
    go_wp2
    go_ret
    exact ⟨by rw [HR.out]; rfl, Below.refl _ _⟩
  · have e1 : ¬ 16 < (n : Int) := by omega
    go_enter Try.func68, Try.ntmps68
    go_wp2
    go_loopw [5] (fun i wr => ∃ k : Nat, k ≤ n ∧ i = .int .i64 k ∧ Hid (∀ j, j < k → lko pos (-1) L j) ∧ Below w.heap.size w wr) (fun i _ => n - (intOf i).toNat)
    case atStart => exact ⟨0, by omega, rfl, Lib.hid (by intro j hj; omega), Below.refl _ _⟩
    case round =>
      obtain ⟨k, hk, rfl, hj, hb⟩ := hrel
      by_cases hlt : k < n
      · obtain ⟨g, o, rfl, _, hg, hc⟩ := HC.out (by omega)
        obtain ⟨x, z, a, l, mm, he, xb, hl, hlm, han, hus, hzb, _, _, hcell⟩ := hc k hlt
        have L1 : ∀ w', LkS w w' → w'.cell? ⟨g, o + k * 2, none⟩ = some (.int .u64 x) ∧ w'.cell? ⟨g, o + k * 2 + 1, none⟩ = some (.slice a l mm) := fun w' h => hcell w' h
        have HEQ := Lib.hid he
        have HLZ := Lib.hid hl
        have HUS := Lib.hid hus
        have HZB := Lib.hid hzb
        have HBD := Lib.hid (hb.trans ((below_one' wr).mono hb.size))
        have hS : LkS w wr.drew := HBD.out
        have e2 : (k : Int) < n := by omega
        have e3 : IntKind.i64.wrap ((k : Int) + 1) = ((k + 1 : Nat) : Int) := IntWalk.i64_in _ (by omega)
        clear hc hcell he hl hus hzb han hlm hb
        by_cases h0 : k = 0
        · have HPX : Hid (lkp (-1) L k < x) := Lib.hid (by rw [h0, lkp_zero]; omega)
          have e4 : ¬ 0 < (k : Int) := by omega
          have e4n : ¬ 0 < k := by omega
          clear h0
          by_cases h4 : 4 < (l : Int)
          · have h4d : decide (4 < (l : Int)) = true := decide_eq_true h4
            have HRR : Hid (r = false) := Lib.hid (HNO.out k (by rw [HL.out]; exact hlt) (fun h => by have h5 := h.2.1; rw [HEQ.out] at h5; have h6 : z.length ≤ 4 := h5; rw [HLZ.out] at h6; omega))
            go_wp2
            refine Seq.wp_region_seq (LkS w) (by kernel_rfl) (by kernel_rfl) hS ?_
            repeat (first | (refine Seq.Seq.skip (by rfl) ?_; (try simp only [Act.put, List.setIfInBounds_toArray, List.set_cons_zero, List.set_cons_succ])) | (refine Seq.Seq.det ?_ (by rfl) (fun w hS => ?_) ?_; rotate_left; ((try dsimp only at hS); go_simp; (try rw [if_pos (by omega)]); with_reducible rfl); (try simp only [Act.put, List.setIfInBounds_toArray, List.set_cons_zero, List.set_cons_succ])))
            refine Seq.Seq.nil ?_
            go_wp2
            go_ret
            exact ⟨by rw [HRR.out]; rfl, HBD.out⟩
          · have hl4 : l ≤ 4 := by omega
            have h4d : decide (4 < (l : Int)) = false := decide_eq_false h4
            clear h4
            have HRC := Lib.hid (rdfalls_any a l mm pos z wr.drew (HUS.out.below hS) (by omega) HZB.out HE.out.1 HE.out.2)
            have HF := Lib.hid (fun (h : flb pos z = false) => HNO.out k (by rw [HL.out]; exact hlt) (fun h9 => by have h5 := h9.2.2; rw [HEQ.out] at h5; have h6 : flb pos z = true := h5; rw [h] at h6; cases h6))
            have HT := Lib.hid (fun (h : flb pos z = true) => (show lko pos (-1) L k from ⟨by rw [HEQ.out]; exact HPX.out, by rw [HEQ.out]; show z.length ≤ 4; rw [HLZ.out]; exact hl4, by rw [HEQ.out]; exact h⟩))
            unfold BPost at HRC
            generalize flb pos z = fv at *
            cases fv
            · have HRR := Lib.hid (HF.out rfl)
              go_wp2
              refine Seq.wp_region_seq (LkS w) (by kernel_rfl) (by kernel_rfl) hS ?_
              repeat (first | (refine Seq.Seq.skip (by rfl) ?_; (try simp only [Act.put, List.setIfInBounds_toArray, List.set_cons_zero, List.set_cons_succ])) | (refine Seq.Seq.det ?_ (by rfl) (fun w hS => ?_) ?_; rotate_left; ((try dsimp only at hS); go_simp; (try rw [if_pos (by omega)]); with_reducible rfl); (try simp only [Act.put, List.setIfInBounds_toArray, List.set_cons_zero, List.set_cons_succ])))
              refine Seq.Seq.make (by rfl) (by rfl) (fun K Q' hK => ?_)
              go_simp
              go_at_call 87
              refine HRC.out.mono ?_
              rintro en v1 ⟨rfl, hc1⟩
              have hS2 : LkS w v1 := Below.trans hS (hc1.mono (show w.heap.size ≤ wr.drew.heap.size from Below.size hS))
              clear hc1
              refine hK.out _ _ (hS2) ?_
              clear hK K
              try simp only [Act.put, List.setIfInBounds_toArray, List.set_cons_zero, List.set_cons_succ]
              repeat (first | (refine Seq.Seq.skip (by rfl) ?_; (try simp only [Act.put, List.setIfInBounds_toArray, List.set_cons_zero, List.set_cons_succ])) | (refine Seq.Seq.det ?_ (by rfl) (fun w hS => ?_) ?_; rotate_left; ((try dsimp only at hS); go_simp; (try rw [if_pos (by omega)]); with_reducible rfl); (try simp only [Act.put, List.setIfInBounds_toArray, List.set_cons_zero, List.set_cons_succ])))
              refine Seq.Seq.nil ?_
              go_wp2
              go_ret
              exact ⟨by rw [HRR.out]; rfl, hS2⟩
            · have HJ := Lib.hid (HT.out rfl)
              go_wp2
              refine Seq.wp_region_seq (LkS w) (by kernel_rfl) (by kernel_rfl) hS ?_
              repeat (first | (refine Seq.Seq.skip (by rfl) ?_; (try simp only [Act.put, List.setIfInBounds_toArray, List.set_cons_zero, List.set_cons_succ])) | (refine Seq.Seq.det ?_ (by rfl) (fun w hS => ?_) ?_; rotate_left; ((try dsimp only at hS); go_simp; (try rw [if_pos (by omega)]); with_reducible rfl); (try simp only [Act.put, List.setIfInBounds_toArray, List.set_cons_zero, List.set_cons_succ])))
              refine Seq.Seq.make (by rfl) (by rfl) (fun K Q' hK => ?_)
              go_simp
              go_at_call 87
              refine HRC.out.mono ?_
              rintro en v1 ⟨rfl, hc1⟩
              have hS2 : LkS w v1 := Below.trans hS (hc1.mono (show w.heap.size ≤ wr.drew.heap.size from Below.size hS))
              clear hc1
              refine hK.out _ _ (hS2) ?_
              clear hK K
              try simp only [Act.put, List.setIfInBounds_toArray, List.set_cons_zero, List.set_cons_succ]
              repeat (first | (refine Seq.Seq.skip (by rfl) ?_; (try simp only [Act.put, List.setIfInBounds_toArray, List.set_cons_zero, List.set_cons_succ])) | (refine Seq.Seq.det ?_ (by rfl) (fun w hS => ?_) ?_; rotate_left; ((try dsimp only at hS); go_simp; (try rw [if_pos (by omega)]); with_reducible rfl); (try simp only [Act.put, List.setIfInBounds_toArray, List.set_cons_zero, List.set_cons_succ])))
              refine Seq.Seq.nil ?_
              go_wp2
              go_roundw
              case rel => exact ⟨k + 1, by omega, by go_num, Lib.hid (lko_next hj.out HJ.out), hS2⟩
              case measure => simp [intOf]; omega
        · obtain ⟨y, hy, yb, hya⟩ := HZ.out.ahead hlt (by omega)
          have L2 : ∀ w', LkS w w' → w'.cell? ⟨g, o + (k - 1) * 2, none⟩ = some (.int .u64 y) := fun w' h => hya w' h
          have HY := Lib.hid hy
          have e4 : 0 < (k : Int) := by omega
          have e4n : 0 < k := by omega
          have e5 : IntKind.i64.wrap ((k : Int) - 1) = ((k - 1 : Nat) : Int) := by rw [IntWalk.i64_in _ (by omega)]; omega
          have e6 : ((k - 1 : Nat) : Int) < n := by omega
          clear h0 hy hya
          by_cases hxy : x ≤ y
          · have HRR : Hid (r = false) := Lib.hid (HNO.out k (by rw [HL.out]; exact hlt) (fun h => by have h5 := h.1; rw [HEQ.out, HY.out] at h5; have h6 : y < x := h5; omega))
            have hxyd : decide (x ≤ y) = true := decide_eq_true hxy
            clear hxy
            go_wp2
            refine Seq.wp_region_seq (LkS w) (by kernel_rfl) (by kernel_rfl) hS ?_
            repeat (first | (refine Seq.Seq.skip (by rfl) ?_; (try simp only [Act.put, List.setIfInBounds_toArray, List.set_cons_zero, List.set_cons_succ])) | (refine Seq.Seq.det ?_ (by rfl) (fun w hS => ?_) ?_; rotate_left; ((try dsimp only at hS); go_simp; (try rw [if_pos (by omega)]); with_reducible rfl); (try simp only [Act.put, List.setIfInBounds_toArray, List.set_cons_zero, List.set_cons_succ])))
            refine Seq.Seq.nil ?_
            go_wp2
            go_ret
            exact ⟨by rw [HRR.out]; rfl, HBD.out⟩
          · have HPX : Hid (lkp (-1) L k < x) := Lib.hid (by rw [HY.out]; omega)
            have hxyd : decide (x ≤ y) = false := decide_eq_false hxy
            clear hxy
            by_cases h4 : 4 < (l : Int)
            · have h4d : decide (4 < (l : Int)) = true := decide_eq_true h4
              have HRR : Hid (r = false) := Lib.hid (HNO.out k (by rw [HL.out]; exact hlt) (fun h => by have h5 := h.2.1; rw [HEQ.out] at h5; have h6 : z.length ≤ 4 := h5; rw [HLZ.out] at h6; omega))
              go_wp2
              refine Seq.wp_region_seq (LkS w) (by kernel_rfl) (by kernel_rfl) hS ?_
              repeat (first | (refine Seq.Seq.skip (by rfl) ?_; (try simp only [Act.put, List.setIfInBounds_toArray, List.set_cons_zero, List.set_cons_succ])) | (refine Seq.Seq.det ?_ (by rfl) (fun w hS => ?_) ?_; rotate_left; ((try dsimp only at hS); go_simp; (try rw [if_pos (by omega)]); with_reducible rfl); (try simp only [Act.put, List.setIfInBounds_toArray, List.set_cons_zero, List.set_cons_succ])))
              refine Seq.Seq.nil ?_
              go_wp2
              go_ret
              exact ⟨by rw [HRR.out]; rfl, HBD.out⟩
            · have hl4 : l ≤ 4 := by omega
              have h4d : decide (4 < (l : Int)) = false := decide_eq_false h4
              clear h4
              have HRC := Lib.hid (rdfalls_any a l mm pos z wr.drew (HUS.out.below hS) (by omega) HZB.out HE.out.1 HE.out.2)
              have HF := Lib.hid (fun (h : flb pos z = false) => HNO.out k (by rw [HL.out]; exact hlt) (fun h9 => by have h5 := h9.2.2; rw [HEQ.out] at h5; have h6 : flb pos z = true := h5; rw [h] at h6; cases h6))
              have HT := Lib.hid (fun (h : flb pos z = true) => (show lko pos (-1) L k from ⟨by rw [HEQ.out]; exact HPX.out, by rw [HEQ.out]; show z.length ≤ 4; rw [HLZ.out]; exact hl4, by rw [HEQ.out]; exact h⟩))
              unfold BPost at HRC
              generalize flb pos z = fv at *
              cases fv
              · have HRR := Lib.hid (HF.out rfl)
                go_wp2
                refine Seq.wp_region_seq (LkS w) (by kernel_rfl) (by kernel_rfl) hS ?_
                repeat (first | (refine Seq.Seq.skip (by rfl) ?_; (try simp only [Act.put, List.setIfInBounds_toArray, List.set_cons_zero, List.set_cons_succ])) | (refine Seq.Seq.det ?_ (by rfl) (fun w hS => ?_) ?_; rotate_left; ((try dsimp only at hS); go_simp; (try rw [if_pos (by omega)]); with_reducible rfl); (try simp only [Act.put, List.setIfInBounds_toArray, List.set_cons_zero, List.set_cons_succ])))
                refine Seq.Seq.make (by rfl) (by rfl) (fun K Q' hK => ?_)
                go_simp
                go_at_call 87
                refine HRC.out.mono ?_
                rintro en v1 ⟨rfl, hc1⟩
                have hS2 : LkS w v1 := Below.trans hS (hc1.mono (show w.heap.size ≤ wr.drew.heap.size from Below.size hS))
                clear hc1
                refine hK.out _ _ (hS2) ?_
                clear hK K
                try simp only [Act.put, List.setIfInBounds_toArray, List.set_cons_zero, List.set_cons_succ]
                repeat (first | (refine Seq.Seq.skip (by rfl) ?_; (try simp only [Act.put, List.setIfInBounds_toArray, List.set_cons_zero, List.set_cons_succ])) | (refine Seq.Seq.det ?_ (by rfl) (fun w hS => ?_) ?_; rotate_left; ((try dsimp only at hS); go_simp; (try rw [if_pos (by omega)]); with_reducible rfl); (try simp only [Act.put, List.setIfInBounds_toArray, List.set_cons_zero, List.set_cons_succ])))
                refine Seq.Seq.nil ?_
                go_wp2
                go_ret
                exact ⟨by rw [HRR.out]; rfl, hS2⟩
              · have HJ := Lib.hid (HT.out rfl)
                go_wp2
                refine Seq.wp_region_seq (LkS w) (by kernel_rfl) (by kernel_rfl) hS ?_
                repeat (first | (refine Seq.Seq.skip (by rfl) ?_; (try simp only [Act.put, List.setIfInBounds_toArray, List.set_cons_zero, List.set_cons_succ])) | (refine Seq.Seq.det ?_ (by rfl) (fun w hS => ?_) ?_; rotate_left; ((try dsimp only at hS); go_simp; (try rw [if_pos (by omega)]); with_reducible rfl); (try simp only [Act.put, List.setIfInBounds_toArray, List.set_cons_zero, List.set_cons_succ])))
                refine Seq.Seq.make (by rfl) (by rfl) (fun K Q' hK => ?_)
                go_simp
                go_at_call 87
                refine HRC.out.mono ?_
                rintro en v1 ⟨rfl, hc1⟩
                have hS2 : LkS w v1 := Below.trans hS (hc1.mono (show w.heap.size ≤ wr.drew.heap.size from Below.size hS))
                clear hc1
                refine hK.out _ _ (hS2) ?_
                clear hK K
                try simp only [Act.put, List.setIfInBounds_toArray, List.set_cons_zero, List.set_cons_succ]
                repeat (first | (refine Seq.Seq.skip (by rfl) ?_; (try simp only [Act.put, List.setIfInBounds_toArray, List.set_cons_zero, List.set_cons_succ])) | (refine Seq.Seq.det ?_ (by rfl) (fun w hS => ?_) ?_; rotate_left; ((try dsimp only at hS); go_simp; (try rw [if_pos (by omega)]); with_reducible rfl); (try simp only [Act.put, List.setIfInBounds_toArray, List.set_cons_zero, List.set_cons_succ])))
                refine Seq.Seq.nil ?_
                go_wp2
                go_roundw
                case rel => exact ⟨k + 1, by omega, by go_num, Lib.hid (lko_next hj.out HJ.out), hS2⟩
                case measure => simp [intOf]; omega
      · obtain rfl : k = n := by omega
        have HR := Lib.hid (HYES.out (by rw [HL.out]; omega) (fun i hi => hj.out i (by rw [HL.out] at hi; exact hi)))
        go_wp2
        go_ret
        exact ⟨by rw [HR.out]; rfl, hb⟩

/-! ### Written -/
/-- What link k is written by. -/
def lk1i (pos pr : Int) (s : Lk) : List (List Int) := vz (s.1 - pr - 1) :: litems (dif pos s.2)
theorem lk1i_flat (pos pr : Int) (s : Lk) : (lk1i pos pr s).flatten = lk1 pos pr s := rfl
def lkis (pos : Int) (L : List Lk) : Nat → List (List Int)
  | 0 => [vz L.length]
  | k + 1 => lkis pos L k ++ lk1i pos (lkp (-1) L k) (L.getD k lk0)
theorem lkb_snoc (pos : Int) : ∀ (L : List Lk) (pr : Int) (k : Nat), k < L.length → lkb pos pr (L.take (k + 1)) = lkb pos pr (L.take k) ++ lk1 pos (lkp pr L k) (L.getD k lk0)
  | s :: L, pr, 0, _ => by simp [lkb, lkp]
  | s :: L, pr, k + 1, h => by
    have ih := lkb_snoc pos L s.1 k (by simpa using h)
    rw [List.take_succ_cons, List.take_succ_cons]
    show lk1 pos pr s ++ lkb pos s.1 (L.take (k + 1)) = lk1 pos pr s ++ lkb pos s.1 (L.take k) ++ _
    rw [ih, List.append_assoc]
    have hp : lkp s.1 L k = lkp pr (s :: L) (k + 1) := by cases k <;> rfl
    rw [hp]
    rfl
theorem lkis_flat (pos : Int) (L : List Lk) : ∀ k, k ≤ L.length → (lkis pos L k).flatten = vz L.length ++ lkb pos (-1) (L.take k)
  | 0, _ => by simp [lkis, lkb]
  | k + 1, h => by
    rw [lkis, List.flatten_append, lkis_flat pos L k (by omega), lk1i_flat, lkb_snoc pos L (-1) k (by omega), List.append_assoc]
theorem lkis_end (pos : Int) (L : List Lk) : (lkis pos L L.length).flatten = lkz pos L := by
  rw [lkis_flat pos L _ (Nat.le_refl _), List.take_length]; rfl
theorem lkis_len {pos : Int} {L : List Lk} (h : lkok pos L = true) : ∀ k, k ≤ L.length → (lkis pos L k).flatten.length ≤ 10 + 60 * k
  | 0, _ => by
    have := vsz_le L.length
    rw [lkis_flat pos L 0 (by omega), List.take_zero]
    simp [lkb, vz_length]
    omega
  | k + 1, hk => by
    have ih := lkis_len h k (by omega)
    have h1 := lk1_len (pos := pos) (pr := lkp (-1) L k) (lkok_at h (show k < L.length by omega)).2.1
    rw [lkis, List.flatten_append, List.length_append, lk1i_flat]
    omega
theorem puts_two (xs : List (List Int)) (u : List Int) (ys : List (List Int)) (y : List Int) (M c : Int) :
    puts ys (putZ (puts xs y M c).1 u M (puts xs y M c).2) M (putC (puts xs y M c).1 u M (puts xs y M c).2) = puts (xs ++ u :: ys) y M c := by
  rw [puts_append]; rfl

/-- The cells of link k, in whatever world in which only other blocks have changed. -/
theorem Lks.ks_cells {S0 : Nat → Prop} {w : World} {P : Nat → Prop} {g o n : Nat} {L : List Lk} (h : Lks w P (some ⟨g, o, none⟩) n L) (hoff : ∀ b, P b → b < w.heap.size → ¬ S0 b) {k : Nat} (hk : k < n) :
    ∃ x z a l m, L.getD k lk0 = (x, z) ∧ (0 ≤ x ∧ x < 18446744073709551616) ∧ z.length = l ∧ l ≤ m ∧ (a = none → m = 0) ∧ (∀ y ∈ z, 0 ≤ y ∧ y < 18446744073709551616) ∧
      ∀ w', Ks S0 w w' → (w'.cell? ⟨g, o + k * 2, none⟩ = some (.int .u64 x) ∧ w'.cell? ⟨g, o + k * 2 + 1, none⟩ = some (.slice a l m)) ∧ Us w' a l z := by
  obtain ⟨g', o', e, hP, hg, hc⟩ := h.cells (by omega)
  injection e with e
  injection e with e1 e2
  subst e1 e2
  obtain ⟨x, z, a, l, m, h1, h2, h3, h4, h5, h6, h7, _, h8, h9⟩ := hc k hk
  refine ⟨x, z, a, l, m, h1, h2, h3, h4, h5, h7, fun w' hk' => ⟨?_, ?_⟩⟩
  · obtain ⟨c0, c1⟩ := h9 w (Below.refl _ _)
    have hcell : ∀ x, w'.cell? ⟨g, x, none⟩ = w.cell? ⟨g, x, none⟩ := fun x => World.cell?_of_block (hk'.block g hg (hoff g hP hg))
    exact ⟨(hcell _).trans c0, (hcell _).trans c1⟩
  · have := (h8.keep (w' := w') fun b hb hl => hk'.block b hl (hoff b hb hl)).us.1
    rwa [h3] at this
end Go.Proofs.Ytgdcbfekekefiaa.Cur

namespace Go.Proofs.Ytgdcbfekekefiaa.Cur
open Go.RowKit Mem
set_option linter.unusedVariables false
set_option maxRecDepth 100000


/-- In how many bytes links are written, or 0. -/
def lksz (pos : Int) (L : List Lk) : Int := if lkok pos L = true then ((lkz pos L).length : Int) else 0
theorem lkp_ge {w : World} {P : Nat → Prop} {A : Option Addr} {n : Nat} {L : List Lk} (h : Lks w P A n L) {k : Nat} (hk : k < n) : -1 ≤ lkp (-1) L k := by
  rcases k with _ | k
  · rw [lkp_zero]; omega
  · obtain ⟨g, o, rfl, _⟩ := h.cells (by omega)
    obtain ⟨y', e9, yb', _⟩ := h.ahead hk (by omega)
    rw [e9]; omega
theorem lkis_step (pos : Int) (L : List Lk) (k : Nat) : (lkis pos L (k + 1)).flatten = (lkis pos L k).flatten ++ (vz ((L.getD k lk0).1 - lkp (-1) L k - 1) ++ lz (dif pos (L.getD k lk0).2)) := by
  rw [lkis, List.flatten_append, lk1i_flat]; rfl
end Go.Proofs.Ytgdcbfekekefiaa.Cur

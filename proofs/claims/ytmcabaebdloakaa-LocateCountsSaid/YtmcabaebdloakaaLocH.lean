/- Locate: how many positions a node has below one, plainly. -/
import Derived.Test.YtmcabaebdloakaaLocF
import Derived.Test.YtmcabaebdloakaaK30
namespace Go.Proofs.Ytmcabaebdloakaa.Cur
open Go.RowKit Mem
set_option linter.unusedVariables false
set_option maxRecDepth 100000

theorem shr_up {n m s : Nat} (hs : s < m) : shr (n + 1) m s = shr n m s + (if n % m = s then 1 else 0) := by
  have hm : 0 < m := by omega
  have hr := Nat.mod_lt n hm
  have hn := Nat.div_add_mod n m
  obtain ⟨q, hq⟩ : ∃ q, q = n / m := ⟨_, rfl⟩
  obtain ⟨r, hr'⟩ : ∃ r, r = n % m := ⟨_, rfl⟩
  rw [← hq, ← hr'] at hn
  rw [← hr'] at hr ⊢
  unfold shr
  rw [show n + 1 + (m - 1 - s) = m * q + (r + 1 + (m - 1 - s)) by omega, show n + (m - 1 - s) = m * q + (r + (m - 1 - s)) by omega, Nat.mul_add_div hm, Nat.mul_add_div hm]
  have one : ∀ y, m ≤ y → y < 2 * m → y / m = 1 := fun y h1 h2 => Nat.div_eq_of_lt_le (by omega) (by omega)
  rcases Nat.lt_trichotomy r s with h | h | h
  · rw [if_neg (by omega), Nat.div_eq_of_lt (by omega), Nat.div_eq_of_lt (by omega)]
  · rw [if_pos h, Nat.div_eq_of_lt (a := r + (m - 1 - s)) (by omega), one (r + 1 + (m - 1 - s)) (by omega) (by omega)]
  · rw [if_neg (by omega), one (r + (m - 1 - s)) (by omega) (by omega), one (r + 1 + (m - 1 - s)) (by omega) (by omega)]
theorem shr_zero {m s : Nat} (hs : s < m) : shr 0 m s = 0 := by
  unfold shr
  exact Nat.div_eq_of_lt (by omega)
theorem shr_top {m s : Nat} (hs : s < m) : ∀ n, shr n m s ≤ n
  | 0 => by rw [shr_zero hs]; exact Nat.le_refl _
  | n + 1 => by
    have := shr_top hs n
    rw [shr_up hs]
    split <;> omega
/-- Of a stripe, below a position. -/
def cn1 (x b : Int) (s : Stp) : Int := if 0 ≤ hli s.2.2 x then shv (s.1, min s.2.1 b, s.2.2) (hli s.2.2 x) else 0
def cnts (L : List Stp) (x b : Int) : Int := (L.map (cn1 x b)).sum
def cnv (e : Int) (L : List Stp) (x b : Int) : Int := if prok (e, L) = true then cnts L x b else 0
theorem cnv_yes {e : Int} {L : List Stp} {x b : Int} (h : prok (e, L) = true) : cnv e L x b = cnts L x b := if_pos h
theorem cnv_no {e : Int} {L : List Stp} {x b : Int} (h : prok (e, L) = false) : cnv e L x b = 0 := if_neg (by rw [h]; decide)
theorem cn1_no {x b : Int} {s : Stp} (h : hli s.2.2 x = -1) : cn1 x b s = 0 := if_neg (by rw [h]; decide)
theorem cn1_yes {x b : Int} {s : Stp} {k : Nat} (h : hli s.2.2 x = k) : cn1 x b s = shv (s.1, min s.2.1 b, s.2.2) k := by
  unfold cn1; rw [h, if_pos (by omega)]
theorem stok_to {f t u : Int} {S : List (List Int)} (h : stok (f, t, S) = true) (h1 : f < u) (h2 : u ≤ 4611686018427387904) : stok (f, u, S) = true := by
  rw [stok_rs] at h ⊢
  simp only [Bool.and_eq_true, decide_eq_true_eq] at h ⊢
  exact ⟨⟨h1, h2⟩, h.2⟩
theorem shv_short {f u : Int} {S : List (List Int)} {k : Int} (h : u ≤ f) : shv (f, u, S) k = 0 := shv_no fun hh => by
  have := (stok_parts hh.1).1
  have h2 : f < u := this
  omega
theorem shv_to {f t u : Int} {S : List (List Int)} {k : Nat} (h : stok (f, t, S) = true) (hk : k < S.length) (h1 : f ≤ u) (h2 : u ≤ 4611686018427387904) : shv (f, u, S) k = (shr (u - f).toNat S.length k : Nat) := by
  rcases Int.lt_or_eq_of_le h1 with h3 | h3
  · rw [shv_yes ⟨stok_to h h3 h2, by omega, by show (k : Int) < S.length; omega⟩]; rfl
  · subst h3
    rw [shv_short (Int.le_refl _), show (f - f).toNat = 0 by omega, shr_zero hk]; rfl
theorem snds_at {f t b : Int} {S : List (List Int)} (hS : 1 ≤ S.length) (h : f ≤ b) : snds (f, t, S) b = S.getD ((b - f).toNat % S.length) [] ∧ (b - f).toNat % S.length < S.length := by
  refine ⟨?_, Nat.mod_lt _ (by omega)⟩
  unfold snds
  show S.getD ((b - f) % (S.length : Int)).toNat [] = _
  obtain ⟨a, ha⟩ := Int.eq_ofNat_of_zero_le (show 0 ≤ b - f by omega)
  rw [ha]
  congr 1
/-- A position more. -/
theorem cn1_step {s : Stp} (hok : stok s = true) {x b : Int} (b1 : b < 4611686018427387904) :
    cn1 x (b + 1) s = cn1 x b s + (if s.1 ≤ b ∧ b < s.2.1 ∧ (snds s b).contains x = true then 1 else 0) := by
  obtain ⟨f, t, S⟩ := s
  obtain ⟨k1, k2, k3, k4, k5⟩ := stok_parts hok
  replace k1 : f < t := k1
  replace k2 : t ≤ 4611686018427387904 := k2
  replace k3 : 1 ≤ S.length := k3
  show cn1 x (b + 1) (f, t, S) = cn1 x b (f, t, S) + (if f ≤ b ∧ b < t ∧ (snds (f, t, S) b).contains x = true then 1 else 0)
  rcases hli_cases S x with ⟨h1, h2⟩ | ⟨k, h1, h2, h3⟩
  · rw [cn1_no h1, cn1_no h1, if_neg]; · rfl
    rintro ⟨q1, _, q3⟩
    obtain ⟨q4, q5⟩ := snds_at (t := t) k3 q1
    rw [q4, List.getD_eq_getElem?_getD, List.getElem?_eq_getElem q5, Option.getD_some, h2 _ (List.getElem_mem q5)] at q3
    cases q3
  · rw [cn1_yes h2, cn1_yes h2]
    show shv (f, min t (b + 1), S) k = shv (f, min t b, S) k + _
    by_cases c1 : b < f
    · rw [shv_short (by omega), shv_short (by omega), if_neg (by omega)]; rfl
    · by_cases c2 : t ≤ b
      · rw [show min t (b + 1) = t by omega, show min t b = t by omega, if_neg (by omega)]; omega
      · rw [show min t (b + 1) = b + 1 by omega, show min t b = b by omega, shv_to hok h1 (by omega) (by omega), shv_to hok h1 (by omega) (by omega), show (b + 1 - f).toNat = (b - f).toNat + 1 by omega, shr_up h1]
        obtain ⟨q4, q5⟩ := snds_at (t := t) k3 (show f ≤ b by omega)
        rw [q4]
        by_cases c3 : (b - f).toNat % S.length = k
        · rw [if_pos c3, c3, if_pos ⟨by omega, by omega, h3⟩]; push_cast; rfl
        · rw [if_neg c3, if_neg]; · simp
          rintro ⟨_, _, q6⟩
          have := (sok_apart k5 h1 h3).2 _ q5 c3
          rw [this] at q6; cases q6
theorem cn1_zero {s : Stp} {x : Int} (h : 0 ≤ s.1) : cn1 x 0 s = 0 := by
  unfold cn1
  split
  · exact shv_short (by omega)
  · rfl
theorem cn1_bd {s : Stp} (hok : stok s = true) (x b : Int) : 0 ≤ cn1 x b s ∧ cn1 x b s ≤ s.2.1 - s.1 := by
  obtain ⟨f, t, S⟩ := s
  obtain ⟨k1, k2, _⟩ := stok_parts hok
  replace k1 : f < t := k1
  replace k2 : t ≤ 4611686018427387904 := k2
  show 0 ≤ cn1 x b (f, t, S) ∧ cn1 x b (f, t, S) ≤ t - f
  rcases hli_cases S x with ⟨h1, _⟩ | ⟨k, h1, h2, _⟩
  · rw [cn1_no h1]; omega
  · rw [cn1_yes h2]
    show 0 ≤ shv (f, min t b, S) k ∧ shv (f, min t b, S) k ≤ t - f
    by_cases c : b < f
    · rw [shv_short (by omega)]; omega
    · rw [shv_to hok h1 (by omega) (by omega)]
      have := shr_top h1 (min t b - f).toNat
      omega
theorem cn1_top {s : Stp} (hok : stok s = true) {x b : Int} (h : 4611686018427387904 ≤ b) : cn1 x b s = cn1 x 4611686018427387904 s := by
  have := (stok_parts hok).2.1
  unfold cn1
  rw [show min s.2.1 b = s.2.1 by omega, show min s.2.1 4611686018427387904 = s.2.1 by omega]
theorem tk_succ {L : List Stp} {g : Stp → Int} {k : Nat} (h : k < L.length) : ((L.take (k + 1)).map g).sum = ((L.take k).map g).sum + g (L.getD k stp0) := by
  rw [List.take_add_one, List.getElem?_eq_getElem h, List.map_append, List.sum_append, List.getD_eq_getElem?_getD, List.getElem?_eq_getElem h]
  simp
/-- What is counted up to a stripe is no more than stands ahead of it. -/
theorem psum_bd {L : List Stp} (hv : Vd L) (x b : Int) : ∀ k, k < L.length → 0 ≤ ((L.take k).map (cn1 x b)).sum ∧ ((L.take k).map (cn1 x b)).sum ≤ (L.getD k stp0).1
  | 0, _ => by rw [hv.first]; simp
  | k + 1, h => by
    have ih := psum_bd hv x b k (by omega)
    have h2 := cn1_bd (hv.ok k (by omega)) x b
    rw [tk_succ (by omega), hv.next k h]
    omega
theorem sum_one {f g : Stp → Int} {d : Int} : ∀ (L : List Stp) (k : Nat), k < L.length → (∀ i, i < L.length → i ≠ k → f (L.getD i stp0) = g (L.getD i stp0)) → f (L.getD k stp0) = g (L.getD k stp0) + d → (L.map f).sum = (L.map g).sum + d
  | [], _, h, _, _ => absurd h (by simp)
  | s :: L, 0, _, h1, h2 => by
    have e : L.map f = L.map g := List.map_congr_left fun u hu => by
      obtain ⟨j, hj, e⟩ := List.mem_iff_getElem.1 hu
      have := h1 (j + 1) (by simpa using hj) (by omega)
      rw [List.getD_cons_succ, List.getD_eq_getElem?_getD, List.getElem?_eq_getElem hj, Option.getD_some, e] at this
      exact this
    rw [List.getD_cons_zero] at h2
    rw [List.map_cons, List.map_cons, List.sum_cons, List.sum_cons, e, h2]
    omega
  | s :: L, k + 1, h, h1, h2 => by
    have ih := sum_one (f := f) (g := g) (d := d) L k (by simpa using h) (fun i hi hik => by
      have := h1 (i + 1) (by simpa using hi) (by omega)
      rwa [List.getD_cons_succ] at this) (by rwa [List.getD_cons_succ] at h2)
    have h0 := h1 0 (by simp) (by omega)
    rw [List.getD_cons_zero] at h0
    rw [List.map_cons, List.map_cons, List.sum_cons, List.sum_cons, ih, h0]
    omega
theorem sum_zero {f : Stp → Int} : ∀ (L : List Stp), (∀ s ∈ L, f s = 0) → (L.map f).sum = 0
  | [], _ => rfl
  | s :: L, h => by rw [List.map_cons, List.sum_cons, h s (by simp), sum_zero L fun u hu => h u (by simp [hu])]; rfl
theorem Vd.from0' {L : List Stp} (hv : Vd L) : ∀ k, k < L.length → 0 ≤ (L.getD k stp0).1
  | 0, _ => by rw [hv.first]; exact Int.le_refl _
  | k + 1, h => by
    have ih := hv.from0' k (by omega)
    have h1 : (L.getD k stp0).1 < (L.getD k stp0).2.1 := (stok_parts (hv.ok k (by omega))).1
    rw [hv.next k h]; omega
theorem Vd.mem {L : List Stp} (hv : Vd L) {s : Stp} (hs : s ∈ L) : ∃ k, k < L.length ∧ L.getD k stp0 = s := by
  obtain ⟨k, hk, e⟩ := List.mem_iff_getElem.1 hs
  exact ⟨k, hk, by rw [List.getD_eq_getElem?_getD, List.getElem?_eq_getElem hk]; exact e⟩
theorem cnts_zero {L : List Stp} (hv : Vd L) (x : Int) : cnts L x 0 = 0 := sum_zero L fun s hs => by
  obtain ⟨k, hk, rfl⟩ := hv.mem hs
  exact cn1_zero (hv.from0' k hk)
theorem cnts_step {L : List Stp} (hv : Vd L) {x b : Int} (b0 : 0 ≤ b) (b1 : b < 4611686018427387904) : cnts L x (b + 1) = cnts L x b + (if (wsn L b).contains x = true then 1 else 0) := by
  obtain ⟨q1, q2, q3⟩ := hv.wsi b0 b1
  refine sum_one L (wsi L b) q1 (fun i hi hik => ?_) ?_
  · rw [cn1_step (hv.ok i hi) b1, if_neg]; · omega
    rintro ⟨h1, h2, _⟩
    exact hik (hv.only hi h1 h2).symm
  · rw [cn1_step (hv.ok _ q1) b1, wsn_snds]
    by_cases c : (snds (L.getD (wsi L b) stp0) b).contains x = true
    · rw [if_pos ⟨q2, q3, c⟩, if_pos c]
    · rw [if_neg (fun h => c h.2.2), if_neg c]
theorem cnts_top {L : List Stp} (hv : Vd L) {x b : Int} (h : 4611686018427387904 ≤ b) : cnts L x b = cnts L x 4611686018427387904 := by
  unfold cnts
  rw [List.map_congr_left fun s hs => ?_]
  obtain ⟨k, hk, rfl⟩ := hv.mem hs
  exact cn1_top (hv.ok k hk) h
theorem cnts_none {L : List Stp} {x b : Int} (h : ∀ s ∈ L, ∀ l ∈ s.2.2, l.contains x = false) : cnts L x b = 0 := sum_zero L fun s hs => by
  rcases hli_cases s.2.2 x with ⟨h1, _⟩ | ⟨k, h1, _, h3⟩
  · exact cn1_no h1
  · rw [List.getD_eq_getElem?_getD, List.getElem?_eq_getElem h1, Option.getD_some, h s hs _ (List.getElem_mem h1)] at h3
    cases h3
theorem cnts_bd {L : List Stp} (hv : Vd L) (x : Int) : ∀ b : Nat, b ≤ 4611686018427387904 → 0 ≤ cnts L x b ∧ cnts L x b ≤ b
  | 0, _ => by rw [show ((0 : Nat) : Int) = 0 from rfl, cnts_zero hv]; omega
  | b + 1, h => by
    have ih := cnts_bd hv x b (by omega)
    rw [show ((b + 1 : Nat) : Int) = (b : Int) + 1 by omega, cnts_step hv (by omega) (by omega)]
    split <;> omega
/-! All counts together. -/
theorem ind_sum : ∀ (R N : List Int), R.Nodup → N.Nodup → (∀ x ∈ N, x ∈ R) → (R.map fun x => if N.contains x = true then (1 : Int) else 0).sum = N.length
  | [], N, _, _, h => by
    have : N = [] := List.eq_nil_iff_forall_not_mem.2 fun x hx => by simpa using h x hx
    subst this; rfl
  | a :: R, N, hR, hN, h => by
    obtain ⟨ha, hR'⟩ := List.nodup_cons.1 hR
    rw [List.map_cons, List.sum_cons]
    by_cases hc : a ∈ N
    · have ih := ind_sum R (N.erase a) hR' (hN.erase a) fun x hx => by
        obtain ⟨h1, h2⟩ := (hN.mem_erase_iff).1 hx
        rcases List.mem_cons.1 (h x h2) with h3 | h3
        · exact absurd h3 h1
        · exact h3
      have e : (R.map fun x => if N.contains x = true then (1 : Int) else 0) = R.map fun x => if (N.erase a).contains x = true then (1 : Int) else 0 := List.map_congr_left fun x hx => by
        have hxa : x ≠ a := fun e => ha (e ▸ hx)
        have : N.contains x = (N.erase a).contains x := by
          rw [Bool.eq_iff_iff, List.contains_iff_mem, List.contains_iff_mem, List.mem_erase_of_ne hxa]
        rw [this]
      have hl := List.length_erase_of_mem hc
      have hp := List.length_pos_of_mem hc
      rw [e, ih, if_pos (List.contains_iff_mem.2 hc), hl]
      omega
    · have ih := ind_sum R N hR' hN fun x hx => by
        rcases List.mem_cons.1 (h x hx) with h3 | h3
        · exact absurd (h3 ▸ hx) hc
        · exact h3
      rw [ih, if_neg (fun h2 => hc (List.contains_iff_mem.1 h2))]
      omega
theorem map_add_sum {f g d : Int → Int} : ∀ (R : List Int), (∀ x, f x = g x + d x) → (R.map f).sum = (R.map g).sum + (R.map d).sum
  | [], _ => rfl
  | a :: R, h => by
    rw [List.map_cons, List.map_cons, List.map_cons, List.sum_cons, List.sum_cons, List.sum_cons, map_add_sum R h, h a]; omega
theorem getD_in {α : Type} {l : List α} {i : Nat} (h : i < l.length) (d : α) : l.getD i d ∈ l := by
  rw [List.getD_eq_getElem?_getD, List.getElem?_eq_getElem h]; exact List.getElem_mem h
theorem wsn_rises {L : List Stp} (hv : Vd L) {p : Int} (p0 : 0 ≤ p) (p1 : p < 4611686018427387904) : (wsn L p).Pairwise (· < ·) ∧ ∃ s ∈ L, wsn L p ∈ s.2.2 := by
  obtain ⟨q1, q2, _⟩ := hv.wsi p0 p1
  obtain ⟨_, _, k3, _, k5⟩ := stok_parts (hv.ok _ q1)
  have h := snds_at (f := (L.getD (wsi L p) stp0).1) (t := (L.getD (wsi L p) stp0).2.1) k3 q2
  have e : wsn L p = (L.getD (wsi L p) stp0).2.2.getD ((p - (L.getD (wsi L p) stp0).1).toNat % (L.getD (wsi L p) stp0).2.2.length) [] := (wsn_snds L p).trans h.1
  refine ⟨?_, L.getD (wsi L p) stp0, ?_, ?_⟩
  · rw [e]
    exact rises_pw _ (fne_parts (sok_fine k5 _ h.2)).2.2.1
  · exact getD_in q1 _
  · rw [e]; exact getD_in h.2 _
theorem pw_nodup {l : List Int} (h : l.Pairwise (· < ·)) : l.Nodup := h.imp fun h => by omega
/-- How long the sets of the positions below one are, together. -/
def wlen (L : List Stp) : Nat → Int
  | 0 => 0
  | b + 1 => wlen L b + ((wsn L b).length : Int)
theorem zsum : ∀ R : List Int, (R.map fun _ => (0 : Int)).sum = 0
  | [] => rfl
  | _ :: R => by rw [List.map_cons, List.sum_cons, zsum R]; rfl
def csum (L : List Stp) (R : List Int) (b : Int) : Int := (R.map fun x => cnts L x b).sum
theorem csum_eq {L : List Stp} (hv : Vd L) {R : List Int} (hR : R.Pairwise (· < ·)) (hm : ∀ s ∈ L, ∀ l ∈ s.2.2, ∀ x ∈ l, x ∈ R) : ∀ b : Nat, b ≤ 4611686018427387904 → csum L R b = wlen L b
  | 0, _ => by
    unfold csum
    have : (R.map fun x => cnts L x ((0 : Nat) : Int)) = R.map fun _ => (0 : Int) := List.map_congr_left fun x _ => cnts_zero hv x
    rw [this]
    exact zsum R
  | b + 1, h => by
    have ih := csum_eq hv hR hm b (by omega)
    obtain ⟨w1, s, hs, hl⟩ := wsn_rises hv (p := (b : Int)) (by omega) (by omega)
    unfold csum at ih ⊢
    rw [map_add_sum (g := fun x => cnts L x (b : Int)) (d := fun x => if (wsn L b).contains x = true then (1 : Int) else 0) R fun x => by
      rw [show ((b + 1 : Nat) : Int) = (b : Int) + 1 by omega, cnts_step hv (by omega) (by omega)], ih, ind_sum R (wsn L b) (pw_nodup hR) (pw_nodup w1) (hm s hs _ hl)]
    rfl
theorem wlen_bd {L : List Stp} {e : Int} (hp : prok (e, L) = true) : ∀ b : Nat, b ≤ 4611686018427387904 → 0 ≤ wlen L b ∧ wlen L b ≤ 8 * b
  | 0, _ => by show 0 ≤ (0 : Int) ∧ (0 : Int) ≤ _; omega
  | b + 1, h => by
    have ih := wlen_bd hp b (by omega)
    have h8 : (wsn L b).length ≤ 8 := by
      have hv := vd_of hp
      obtain ⟨_, s, hs, hl⟩ := wsn_rises hv (p := (b : Int)) (by omega) (by omega)
      obtain ⟨k, hk, rfl⟩ := hv.mem hs
      exact sok_lens (stok_parts (hv.ok k hk)).2.2.2.2 _ hl
    show 0 ≤ wlen L b + ((wsn L b).length : Int) ∧ wlen L b + ((wsn L b).length : Int) ≤ _
    omega
end Go.Proofs.Ytmcabaebdloakaa.Cur

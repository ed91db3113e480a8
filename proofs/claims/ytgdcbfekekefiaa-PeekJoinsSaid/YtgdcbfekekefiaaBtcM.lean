/- Batches, laid ahead: the heads of entries one behind the other, read and put. -/
import Derived.Test.YtgdcbfekekefiaaK38
import Derived.Test.YtgdcbfekekefiaaK37
import Derived.Test.YtgdcbfekekefiaaK20
namespace Go.Proofs.Ytgdcbfekekefiaa.Cur
open Go.RowKit Mem
set_option linter.unusedVariables false

theorem hrd_once {z : List Int} {pos mo p : Int} (hby : ∀ x ∈ z, 0 ≤ x ∧ x < 256) (q0 : pos < 18446744073709551616) (h0 : 0 ≤ p) (h1 : p ≤ z.length) (h : (hrd z pos mo p).2.2.1 = 0) :
    ∃ L v p', hrd z pos mo p = ((L, v), p', 0, 0) ∧ lkok pos L = true ∧ lbd L ∧ 0 ≤ v ∧ v ≤ mo ∧ v < 18446744073709551616 ∧ p ≤ p' ∧ p' ≤ z.length ∧ lkz pos L ++ vz v = piece z p.toNat p'.toNat := by
  unfold hrd at h ⊢
  obtain ⟨g0, e⟩ := Rs.bind_ok h
  rw [e] at h ⊢
  obtain ⟨L, p1, eL, hok, hbd, k0, k1, k2⟩ := lrd_once hby q0 h0 h1 g0
  rw [eL] at h ⊢
  dsimp only at h ⊢
  obtain ⟨g1, e1⟩ := Rs.bind_ok h
  rw [e1] at h ⊢
  obtain ⟨v0, v1, v2⟩ := vm_ok g1
  have hb := vg_once hby (by omega) k1 v0
  obtain ⟨c1, c2, c3, c4, c5⟩ := hb
  rw [v2] at h ⊢
  refine ⟨L, (vg z p1).1, (vg z p1).2.1, rfl, hok, hbd, c2, v1, c3, by omega, c5, ?_⟩
  rw [k2, c1]
  exact piece_append (by omega) (by omega) (by omega)
/-- Heads, one behind the other. -/
def hgo (z : List Int) : Nat → Int → Int → Int → List Hd → Rs (List Hd)
  | 0, _, _, p, acc => (acc, p, 0, 0)
  | k + 1, b, mx, p, acc => (hrd z b mx p).bind [] fun h p1 => hgo z k (b + 1) (mx - h.2) p1 (acc ++ [h])
def hhz : Int → List Hd → List Int
  | _, [] => []
  | b, h :: H => (lkz b h.1 ++ vz h.2) ++ hhz (b + 1) H
def hhok : Int → Int → List Hd → Prop
  | _, _, [] => True
  | b, mx, h :: H => lkok b h.1 = true ∧ lbd h.1 ∧ 0 ≤ h.2 ∧ h.2 ≤ mx ∧ h.2 < 18446744073709551616 ∧ hhok (b + 1) (mx - h.2) H
theorem hgo_put {z rest : List Int} : ∀ (H : List Hd) (b mx : Int) (pre : List Int) (acc : List Hd), z = pre ++ hhz b H ++ rest → b + H.length < 18446744073709551616 → hhok b mx H →
    hgo z H.length b mx pre.length acc = (acc ++ H, ((pre.length + (hhz b H).length : Nat) : Int), 0, 0)
  | [], b, mx, pre, acc, _, _, _ => by simp [hgo, hhz]
  | (L, v) :: H, b, mx, pre, acc, hz, hb, hok => by
    obtain ⟨k1, k2, k3, k4, k5, k6⟩ := hok
    dsimp only at k1 k2 k3 k4 k5 k6
    obtain ⟨r, rfl⟩ := Int.eq_ofNat_of_zero_le k3
    rw [List.length_cons] at hb
    show (hrd z b mx pre.length).bind [] (fun h p1 => hgo z H.length (b + 1) (mx - h.2) p1 (acc ++ [h])) = _
    have h1 := hrd_put (z := z) (pre := pre) (rest := hhz (b + 1) H ++ rest) (L := L) (r := r) (pos := b) (mo := mx) (by rw [hz]; show pre ++ ((lkz b L ++ vz r) ++ hhz (b + 1) H) ++ rest = _; simp) (by omega) k1 k2 k4 k5
    rw [Rs.bind_of h1]
    have h2 := hgo_put (z := z) (rest := rest) H (b + 1) (mx - r) (pre ++ (lkz b L ++ vz r)) (acc ++ [(L, (r : Int))]) (by rw [hz]; show pre ++ ((lkz b L ++ vz r) ++ hhz (b + 1) H) ++ rest = _; simp) (by omega) k6
    rw [List.length_append] at h2
    rw [h2]
    show _ = (acc ++ (L, (r : Int)) :: H, ((pre.length + ((lkz b L ++ vz r) ++ hhz (b + 1) H).length : Nat) : Int), (0 : Int), (0 : Int))
    have e3 : ((lkz b L ++ vz (r : Int)) ++ hhz (b + 1) H).length = (lkz b L ++ vz (r : Int)).length + (hhz (b + 1) H).length := List.length_append ..
    rw [e3, List.append_assoc, Nat.add_assoc]
    rfl
theorem hgo_once {z : List Int} (hby : ∀ x ∈ z, 0 ≤ x ∧ x < 256) : ∀ (k : Nat) (b mx p : Int) (acc : List Hd), b + k < 18446744073709551616 → 0 ≤ p → p ≤ z.length → (hgo z k b mx p acc).2.2.1 = 0 →
    ∃ H p', hgo z k b mx p acc = (acc ++ H, p', 0, 0) ∧ H.length = k ∧ hhok b mx H ∧ p ≤ p' ∧ p' ≤ z.length ∧ hhz b H = piece z p.toNat p'.toNat
  | 0, b, mx, p, acc, _, h0, h1, _ => ⟨[], p, by rw [List.append_nil]; rfl, rfl, trivial, Int.le_refl _, h1, by rw [piece_self]; rfl⟩
  | k + 1, b, mx, p, acc, hb, h0, h1, h => by
    replace h : ((hrd z b mx p).bind [] fun h p1 => hgo z k (b + 1) (mx - h.2) p1 (acc ++ [h])).2.2.1 = 0 := h
    show ∃ H p', ((hrd z b mx p).bind [] fun h p1 => hgo z k (b + 1) (mx - h.2) p1 (acc ++ [h])) = _ ∧ _
    obtain ⟨g0, e⟩ := Rs.bind_ok h
    rw [e] at h ⊢
    obtain ⟨L, v, p1, e1, q1, q2, q3, q4, q5, q6, q7, q8⟩ := hrd_once hby (by omega) h0 h1 g0
    rw [e1] at h ⊢
    dsimp only at h ⊢
    obtain ⟨H, p2, e2, r1, r2, r3, r4, r5⟩ := hgo_once hby k (b + 1) (mx - v) p1 (acc ++ [(L, v)]) (by omega) (by omega) q7 h
    refine ⟨(L, v) :: H, p2, by rw [e2, List.append_assoc]; rfl, by rw [List.length_cons, r1], ⟨q1, q2, q3, q4, q5, r2⟩, by omega, r4, ?_⟩
    show (lkz b L ++ vz v) ++ hhz (b + 1) H = _
    rw [q8, r5]
    exact piece_append (by omega) (by omega) (by omega)
theorem vb_put {ok : Int → Bool} {z rest pre : List Int} {x : Int} (hz : z = pre ++ vz x ++ rest) (x0 : 0 ≤ x) (x1 : x < 18446744073709551616) (hx : ok x = true) : ve ok z pre.length = (x, ((pre.length + vsz x : Nat) : Int), 0, 0) := by
  unfold ve; rw [vg_put hz x0 x1, if_neg (by simp), if_pos hx]
theorem vb_one {ok : Int → Bool} {z : List Int} {p : Int} (hby : ∀ x ∈ z, 0 ≤ x ∧ x < 256) (h0 : 0 ≤ p) (h1 : p ≤ z.length) (h : (ve ok z p).2.2.1 = 0) :
    ∃ x p', ve ok z p = (x, p', 0, 0) ∧ ok x = true ∧ 0 ≤ x ∧ x < 18446744073709551616 ∧ p ≤ p' ∧ p' ≤ z.length ∧ vz x = piece z p.toNat p'.toNat := by
  obtain ⟨b0, b1, b2⟩ := ve_ok h
  obtain ⟨c1, c2, c3, c4, c5⟩ := vg_once hby h0 h1 b0
  have e : vg z p = ((vg z p).1, (vg z p).2.1, 0, 0) := by
    have h2 : (vg z p).2.2.2 = 0 := if_pos b0
    generalize vg z p = g at *
    obtain ⟨a, b, c, d⟩ := g
    dsimp only at b0 h2
    rw [b0, h2]
  exact ⟨_, _, b2.trans e, b1, c2, c3, by omega, c5, c1⟩
theorem vm_onee {z : List Int} {mo p : Int} (hby : ∀ x ∈ z, 0 ≤ x ∧ x < 256) (h0 : 0 ≤ p) (h1 : p ≤ z.length) (h : (vm z mo p).2.2.1 = 0) :
    ∃ x p', vm z mo p = (x, p', 0, 0) ∧ x ≤ mo ∧ 0 ≤ x ∧ x < 18446744073709551616 ∧ p ≤ p' ∧ p' ≤ z.length ∧ vz x = piece z p.toNat p'.toNat := by
  obtain ⟨b0, b1, b2⟩ := vm_ok h
  obtain ⟨c1, c2, c3, c4, c5⟩ := vg_once hby h0 h1 b0
  have e : vg z p = ((vg z p).1, (vg z p).2.1, 0, 0) := by
    have h2 : (vg z p).2.2.2 = 0 := if_pos b0
    generalize vg z p = g at *
    obtain ⟨a, b, c, d⟩ := g
    dsimp only at b0 h2
    rw [b0, h2]
  exact ⟨_, _, b2.trans e, b1, c2, c3, by omega, c5, c1⟩

/-- A batch: epoch, base, entries. -/
abbrev Bt := Int × Int × List En
def bt0 : Bt := (0, 0, [])
/-- Are n positions some, from b on? -/
def fitn (b n : Int) : Bool := decide (1 ≤ n ∧ n ≤ 16 ∧ b + n ≤ 4611686018427387904)
def hsum (H : List Hd) : Int := (H.map (·.2)).sum
/-- The heads with their bytes. -/
def hdl : List Hd → List Int → List En
  | [], _ => []
  | h :: H, y => (h.1, y.take h.2.toNat) :: hdl H (y.drop h.2.toNat)
/-- The heads of entries. -/
def hds (L : List En) : List Hd := L.map fun x => (x.1, (x.2.length : Int))
def jn (L : List En) : List Int := (L.map (·.2)).flatten
theorem hds_length (L : List En) : (hds L).length = L.length := by simp [hds]
theorem hsum_hds (L : List En) : hsum (hds L) = ((jn L).length : Int) := by
  induction L with
  | nil => rfl
  | cons x L ih =>
    show (x.2.length : Int) + hsum (hds L) = ((x.2 ++ jn L).length : Int)
    rw [ih, List.length_append]; omega
theorem hdl_hds (L : List En) (y : List Int) : hdl (hds L) (jn L ++ y) = L := by
  induction L generalizing y with
  | nil => rfl
  | cons x L ih =>
    show (x.1, ((x.2 ++ jn L) ++ y).take (x.2.length : Int).toNat) :: hdl (hds L) (((x.2 ++ jn L) ++ y).drop (x.2.length : Int).toNat) = x :: L
    rw [Int.toNat_natCast, List.append_assoc, List.take_left, List.drop_left, ih]
theorem hds_hdl : ∀ (H : List Hd) (y : List Int), (∀ h ∈ H, 0 ≤ h.2) → hsum H = (y.length : Int) → hds (hdl H y) = H ∧ jn (hdl H y) = y
  | [], y, _, hs => by
    have : y = [] := List.eq_nil_of_length_eq_zero (by have h9 : (0 : Int) = (y.length : Int) := hs; omega)
    subst this
    exact ⟨rfl, rfl⟩
  | h :: H, y, hn, hs => by
    have h0 := hn h (by simp)
    have hs1 : h.2 + hsum H = (y.length : Int) := hs
    have hs0 : 0 ≤ hsum H := by
      have : ∀ (l : List Hd), (∀ h ∈ l, 0 ≤ h.2) → 0 ≤ hsum l := by
        intro l
        induction l with
        | nil => intro _; exact Int.le_refl _
        | cons a l ih => intro hl; have h1 := hl a (by simp); have h2 := ih fun b hb => hl b (by simp [hb]); show 0 ≤ a.2 + hsum l; omega
      exact this H fun b hb => hn b (by simp [hb])
    obtain ⟨r, hr⟩ := Int.eq_ofNat_of_zero_le h0
    have hlt : (y.take h.2.toNat).length = h.2.toNat := by rw [List.length_take]; omega
    obtain ⟨i1, i2⟩ := hds_hdl H (y.drop h.2.toNat) (fun b hb => hn b (by simp [hb])) (by rw [List.length_drop]; omega)
    refine ⟨?_, ?_⟩
    · show (h.1, ((y.take h.2.toNat).length : Int)) :: hds (hdl H (y.drop h.2.toNat)) = h :: H
      rw [i1, hlt, Int.toNat_of_nonneg h0]
    · show y.take h.2.toNat ++ jn (hdl H (y.drop h.2.toNat)) = y
      rw [i2, List.take_append_drop]
/-- What stands ahead of the block. -/
def bthz (B : Bt) : List Int := vz B.1 ++ (vz B.2.1 ++ (vz (B.2.2.length : Int) ++ hhz B.2.1 (hds B.2.2)))
/-- A batch, its block being read by K. -/
def brd (K : List Int → Int → Rs (List Int)) (z : List Int) (p : Int) : Rs Bt :=
  (ve epk z p).bind bt0 fun e p1 => (ve psk z p1).bind bt0 fun b p2 => (vm z 16 p2).bind bt0 fun n p3 =>
    if fitn b n = true then (hgo z n.toNat b 1048576 p3 []).bind bt0 fun H p4 => (K z p4).bind bt0 fun y p5 =>
      if hsum H = (y.length : Int) then ((e, b, hdl H y), p5, 0, 0) else (bt0, 0, 3, p4)
    else (bt0, 0, 3, p2)
/-- Is a batch right? -/
def BtOk (B : Bt) : Prop := epk B.1 = true ∧ psk B.2.1 = true ∧ 0 ≤ B.1 ∧ B.1 < 18446744073709551616 ∧ 0 ≤ B.2.1 ∧ B.2.1 < 18446744073709551616 ∧ fitn B.2.1 B.2.2.length = true ∧ hhok B.2.1 1048576 (hds B.2.2)
theorem brd_put {K : List Int → Int → Rs (List Int)} {z pre rest : List Int} {B : Bt} {p5 : Int} (hz : z = pre ++ bthz B ++ rest) (hok : BtOk B) (hK : K z ((pre.length + (bthz B).length : Nat) : Int) = (jn B.2.2, p5, 0, 0)) :
    brd K z pre.length = (B, p5, 0, 0) := by
  obtain ⟨e, b, L⟩ := B
  obtain ⟨o1, o2, o3, o4, o5, o6, o7, o8⟩ := hok
  dsimp only at o1 o2 o3 o4 o5 o6 o7 o8 hK
  have hz' : z = pre ++ (vz e ++ (vz b ++ (vz (L.length : Int) ++ hhz b (hds L)))) ++ rest := hz
  have hfn : 1 ≤ (L.length : Int) ∧ (L.length : Int) ≤ 16 ∧ b + L.length ≤ 4611686018427387904 := of_decide_eq_true o7
  unfold brd
  have h1 := vb_put (ok := epk) (z := z) (pre := pre) (rest := (vz b ++ (vz (L.length : Int) ++ hhz b (hds L))) ++ rest) (x := e) (by rw [hz']; simp) o3 o4 o1
  rw [Rs.bind_of h1]
  have h2 := vb_put (ok := psk) (z := z) (pre := pre ++ vz e) (rest := (vz (L.length : Int) ++ hhz b (hds L)) ++ rest) (x := b) (by rw [hz']; simp) o5 o6 o2
  rw [List.length_append, vz_length] at h2
  rw [Rs.bind_of h2]
  have h3 := vm_put (z := z) (pre := pre ++ vz e ++ vz b) (rest := hhz b (hds L) ++ rest) (x := (L.length : Int)) (mo := 16) (by rw [hz']; simp) (by omega) (by omega) hfn.2.1
  rw [List.length_append, List.length_append, vz_length, vz_length] at h3
  rw [Rs.bind_of h3, if_pos o7, Int.toNat_natCast]
  have h4 := hgo_put (z := z) (rest := rest) (hds L) b 1048576 (pre ++ vz e ++ vz b ++ vz (L.length : Int)) [] (by rw [hz']; simp) (by rw [hds_length]; omega) o8
  rw [List.length_append, List.length_append, List.length_append, vz_length, vz_length, vz_length, hds_length, List.nil_append] at h4
  rw [Rs.bind_of h4]
  have hlen : (bthz (e, b, L)).length = vsz e + (vsz b + (vsz (L.length : Int) + (hhz b (hds L)).length)) := by
    show (vz e ++ (vz b ++ (vz (L.length : Int) ++ hhz b (hds L)))).length = _
    rw [List.length_append, List.length_append, List.length_append, vz_length, vz_length, vz_length]
  have hp : ((pre.length + vsz e + vsz b + vsz (L.length : Int) + (hhz b (hds L)).length : Nat) : Int) = ((pre.length + (bthz (e, b, L)).length : Nat) : Int) := by rw [hlen]; omega
  rw [hp, Rs.bind_of hK, if_pos (hsum_hds L)]
  have h5 := hdl_hds L []
  rw [List.append_nil] at h5
  rw [h5]
theorem brd_once {K : List Int → Int → Rs (List Int)} {z : List Int} {p : Int} (hby : ∀ x ∈ z, 0 ≤ x ∧ x < 256) (h0 : 0 ≤ p) (h1 : p ≤ z.length) (h : (brd K z p).2.2.1 = 0) :
    ∃ B p4 p5, brd K z p = (B, p5, 0, 0) ∧ BtOk B ∧ p ≤ p4 ∧ p4 ≤ z.length ∧ bthz B = piece z p.toNat p4.toNat ∧ (K z p4).1 = jn B.2.2 ∧ (K z p4).2.1 = p5 ∧ (K z p4).2.2.1 = 0 := by
  unfold brd at h ⊢
  obtain ⟨g1, e⟩ := Rs.bind_ok h
  rw [e] at h ⊢
  obtain ⟨ep, p1, e1, a1, a2, a3, a4, a5, a6⟩ := vb_one hby h0 h1 g1
  rw [e1] at h ⊢
  dsimp only at h ⊢
  obtain ⟨g2, e⟩ := Rs.bind_ok h
  rw [e] at h ⊢
  obtain ⟨b, p2, e2, b1, b2, b3, b4, b5, b6⟩ := vb_one hby (by omega) a5 g2
  rw [e2] at h ⊢
  dsimp only at h ⊢
  obtain ⟨g3, e⟩ := Rs.bind_ok h
  rw [e] at h ⊢
  obtain ⟨n, p3, e3, c1, c2, c3, c4, c5, c6⟩ := vm_onee hby (by omega) b5 g3
  rw [e3] at h ⊢
  dsimp only at h ⊢
  by_cases hf : fitn b n = true
  · rw [if_pos hf] at h ⊢
    have hfn : 1 ≤ n ∧ n ≤ 16 ∧ b + n ≤ 4611686018427387904 := of_decide_eq_true hf
    obtain ⟨g4, e⟩ := Rs.bind_ok h
    rw [e] at h ⊢
    obtain ⟨H, p4, e4, d1, d2, d3, d4, d5⟩ := hgo_once hby n.toNat b 1048576 p3 [] (by omega) (by omega) c5 g4
    rw [List.nil_append] at e4
    rw [e4] at h ⊢
    dsimp only at h ⊢
    obtain ⟨g5, e⟩ := Rs.bind_ok h
    rw [e] at h ⊢
    by_cases hs : hsum H = ((K z p4).1.length : Int)
    · rw [if_pos hs]
      have hnn : ∀ (H : List Hd) (b mx : Int), hhok b mx H → ∀ h ∈ H, 0 ≤ h.2 := by
        intro H
        induction H with
        | nil => intro b mx _ h hh; simp at hh
        | cons a H ih =>
          intro b mx hok h hh
          rcases List.mem_cons.1 hh with rfl | hh
          · exact hok.2.2.1
          · exact ih _ _ hok.2.2.2.2.2 h hh
      obtain ⟨i1, i2⟩ := hds_hdl H (K z p4).1 (hnn H _ _ d2) hs
      have hlen : (hdl H (K z p4).1).length = n.toNat := by rw [← hds_length, i1, d1]
      refine ⟨(ep, b, hdl H (K z p4).1), p4, (K z p4).2.1, rfl, ⟨a1, b1, a2, a3, b2, b3, ?_, ?_⟩, by omega, d4, ?_, i2.symm, rfl, g5⟩
      · show fitn b ((hdl H (K z p4).1).length : Int) = true
        rw [hlen, Int.toNat_of_nonneg c2]; exact hf
      · show hhok b 1048576 (hds (hdl H (K z p4).1))
        rw [i1]; exact d2
      · show vz ep ++ (vz b ++ (vz ((hdl H (K z p4).1).length : Int) ++ hhz b (hds (hdl H (K z p4).1)))) = _
        rw [hlen, Int.toNat_of_nonneg c2, i1, a6, b6, c6, d5, piece_append (by omega) (by omega) (by omega), piece_append (by omega) (by omega) (by omega), piece_append (by omega) (by omega) (by omega)]
    · rw [if_neg hs] at h
      exact absurd (show (3 : Int) = 0 from h) (by decide)
  · rw [if_neg hf] at h
    exact absurd (show (3 : Int) = 0 from h) (by decide)
/-- Is each entry right, from a position on? -/
def enall : Int → List En → Bool
  | _, [] => true
  | b, x :: L => enok b x.1 x.2.length && enall (b + 1) L
/-- Is a batch right, as the document has it? -/
def btk (B : Bt) : Bool := epk B.1 && psk B.2.1 && fitn B.2.1 B.2.2.length && decide ((jn B.2.2).length ≤ 1048576) && enall B.2.1 B.2.2
theorem hhok_iff : ∀ (L : List En) (b : Int) (m : Nat), m ≤ 1048576 → (∀ x ∈ L, lbd x.1) → (hhok b (m : Int) (hds L) ↔ ((jn L).length ≤ m ∧ enall b L = true))
  | [], b, m, _, _ => by
    refine ⟨fun _ => ⟨?_, rfl⟩, fun _ => trivial⟩
    show ([] : List Int).length ≤ m
    simp
  | x :: L, b, m, hm, hb => by
    have hl : (jn (x :: L)).length = x.2.length + (jn L).length := by show (x.2 ++ jn L).length = _; rw [List.length_append]
    have he : enall b (x :: L) = (enok b x.1 x.2.length && enall (b + 1) L) := rfl
    have hk : enok b x.1 x.2.length = (decide (x.2.length ≤ 1048576) && lkok b x.1) := rfl
    rw [hl, he, hk]
    simp only [Bool.and_eq_true, decide_eq_true_eq]
    constructor
    · rintro ⟨h1, h2, h3, h4, h5, h6⟩
      replace h4 : (x.2.length : Int) ≤ m := h4
      replace h6 : hhok (b + 1) ((m : Int) - (x.2.length : Int)) (hds L) := h6
      rw [show (m : Int) - (x.2.length : Int) = ((m - x.2.length : Nat) : Int) by omega] at h6
      obtain ⟨i1, i2⟩ := (hhok_iff L (b + 1) (m - x.2.length) (by omega) fun y hy => hb y (by simp [hy])).1 h6
      exact ⟨by omega, ⟨by omega, h1⟩, i2⟩
    · rintro ⟨h1, ⟨h2, h3⟩, h4⟩
      refine ⟨h3, hb x (by simp), ?_, ?_, ?_, ?_⟩
      · show (0 : Int) ≤ (x.2.length : Int); omega
      · show (x.2.length : Int) ≤ m; omega
      · show (x.2.length : Int) < 18446744073709551616; omega
      · show hhok (b + 1) ((m : Int) - (x.2.length : Int)) (hds L)
        rw [show (m : Int) - (x.2.length : Int) = ((m - x.2.length : Nat) : Int) by omega]
        exact (hhok_iff L (b + 1) (m - x.2.length) (by omega) fun y hy => hb y (by simp [hy])).2 ⟨by omega, h4⟩
theorem btk_iff {B : Bt} (hb : ∀ x ∈ B.2.2, lbd x.1) (h1 : 0 ≤ B.1) (h2 : B.1 < 18446744073709551616) (h3 : 0 ≤ B.2.1) (h4 : B.2.1 < 18446744073709551616) : btk B = true ↔ BtOk B := by
  have hi := hhok_iff B.2.2 B.2.1 1048576 (Nat.le_refl _) hb
  unfold btk BtOk
  simp only [Bool.and_eq_true, decide_eq_true_eq]
  constructor
  · rintro ⟨⟨⟨⟨a1, a2⟩, a3⟩, a4⟩, a5⟩
    exact ⟨a1, a2, h1, h2, h3, h4, a3, hi.2 ⟨a4, a5⟩⟩
  · rintro ⟨a1, a2, _, _, _, _, a3, a4⟩
    obtain ⟨i1, i2⟩ := hi.1 a4
    exact ⟨⟨⟨⟨a1, a2⟩, a3⟩, i1⟩, i2⟩
theorem enall_at : ∀ {L : List En} {b : Int}, enall b L = true → ∀ k, k < L.length → enok (b + k) (L.getD k en0).1 (L.getD k en0).2.length = true
  | x :: L, b, h, 0, _ => by
    have h : (enok b x.1 x.2.length && enall (b + 1) L) = true := h
    rw [Bool.and_eq_true] at h
    rw [Int.natCast_zero, Int.add_zero]
    exact h.1
  | x :: L, b, h, k + 1, hk => by
    have h : (enok b x.1 x.2.length && enall (b + 1) L) = true := h
    rw [Bool.and_eq_true] at h
    have := enall_at h.2 k (by simpa using hk)
    rw [show b + ((k + 1 : Nat) : Int) = b + 1 + k by omega]
    exact this
theorem enall_of : ∀ {L : List En} {b : Int}, (∀ k, k < L.length → enok (b + k) (L.getD k en0).1 (L.getD k en0).2.length = true) → enall b L = true
  | [], _, _ => rfl
  | x :: L, b, h => by
    show (enok b x.1 x.2.length && enall (b + 1) L) = true
    rw [Bool.and_eq_true]
    have h0 := h 0 (by simp)
    rw [Int.natCast_zero, Int.add_zero] at h0
    refine ⟨h0, enall_of fun k hk => ?_⟩
    have := h (k + 1) (by simpa using hk)
    rw [show b + ((k + 1 : Nat) : Int) = b + 1 + k by omega] at this
    exact this
theorem jn_jk {L : List En} : jn L = jk L L.length := by
  unfold jn jk
  rw [List.take_length]
end Go.Proofs.Ytgdcbfekekefiaa.Cur

/- K26: PrjS PrjA PrjB PrjC PrjD PrjE PrjF PrjG PrjL -/
import Derived.Test.YtmcabaebdloakaaK24
import Derived.Test.YtmcabaebdloakaaK20
import Derived.Test.YtmcabaebdloakaaK25
import Derived.Test.YtmcabaebdloakaaK23
import Derived.Test.YtmcabaebdloakaaK1
import Derived.Deep.CutRange
/- Projections as values: what is read from a place on, what is written, which are right: the plain facts. -/
/- Projections: where the stripes lie; which are right. -/
/- Projections: Right, by the program and by the document. -/
/- Projections written: Put, Bytes. -/
/- Projections: two are the same, by the program and by the document. -/
/- Projections written by the document: Bytes. -/
/- Projections copied. -/
/- Projections copied: Copy. -/
/- Projections as a law's arguments; which are too long; the document's example. -/
namespace Go.Proofs.Ytmcabaebdloakaa.Cur
open Go.RowKit Mem
set_option linter.unusedVariables false

theorem ve_put {ok : Int → Bool} {z rest pre : List Int} {x : Int} (hz : z = pre ++ vz x ++ rest) (x0 : 0 ≤ x) (x1 : x < 18446744073709551616) (hx : ok x = true) : ve ok z pre.length = (x, ((pre.length + vsz x : Nat) : Int), 0, 0) := by
  unfold ve; rw [vg_put hz x0 x1, if_neg (by simp), if_pos hx]
theorem ve_one {ok : Int → Bool} {z : List Int} {p : Int} (hby : ∀ x ∈ z, 0 ≤ x ∧ x < 256) (h0 : 0 ≤ p) (h1 : p ≤ z.length) (h : (ve ok z p).2.2.1 = 0) :
    ∃ x p', ve ok z p = (x, p', 0, 0) ∧ ok x = true ∧ 0 ≤ x ∧ x < 18446744073709551616 ∧ p ≤ p' ∧ p' ≤ z.length ∧ vz x = piece z p.toNat p'.toNat := by
  obtain ⟨b0, b1, b2⟩ := ve_ok h
  obtain ⟨c1, c2, c3, c4, c5⟩ := vg_once hby h0 h1 b0
  have e : vg z p = ((vg z p).1, (vg z p).2.1, 0, 0) := by
    have h2 : (vg z p).2.2.2 = 0 := if_pos b0
    generalize vg z p = g at *
    obtain ⟨a, b, c, d⟩ := g
    dsimp only at b0 h2
    rw [b0, h2]
  exact ⟨_, _, b2.trans e, b1, c2, c3, by omega, c5, c1⟩

/-- Stripes, one behind the other, from a position on. -/
def psg (z : List Int) : Nat → Int → Int → List Stp → Rs (List Stp × Int)
  | 0, f, p, S => ((S, f), p, 0, 0)
  | k + 1, f, p, S => (str z f p).bind ([], 0) fun s p' => psg z k s.2.1 p' (S ++ [s])
/-- Do stripes follow one another from a position to another one? -/
def pch : Int → List Stp → Int → Bool
  | f, [], t => decide (f = t)
  | f, s :: S, t => decide (s.1 = f) && stok s && pch s.2.1 S t
def pbd (S : List Stp) : Prop := ∀ s ∈ S, sbds s.2.2
def psb (S : List Stp) : List Int := S.flatMap stb
theorem psb_byte : ∀ {S : List Stp} {f t : Int}, 0 ≤ f → pch f S t = true → pbd S → ∀ b ∈ psb S, 0 ≤ b ∧ b < 256
  | [], _, _, _, _, _ => fun b hm => by simp [psb] at hm
  | s :: S, f, t, hf, h, hb => fun b hm => by
    unfold pch at h
    simp only [Bool.and_eq_true, decide_eq_true_eq] at h
    obtain ⟨⟨h1, h2⟩, h3⟩ := h
    have hs := stok_parts h2
    unfold psb at hm
    rw [List.flatMap_cons] at hm
    rcases List.mem_append.1 hm with hm | hm
    · exact stb_byte h2 (by omega) (hb s (by simp)) b hm
    · exact psb_byte (by omega) h3 (fun m hm' => hb m (by simp [hm'])) b hm
theorem psg_once {z : List Int} (hby : ∀ x ∈ z, 0 ≤ x ∧ x < 256) : ∀ (k : Nat) (f p : Int) (S : List Stp), 0 ≤ f → 0 ≤ p → p ≤ z.length → (psg z k f p S).2.2.1 = 0 →
    ∃ T t p', psg z k f p S = ((S ++ T, t), p', 0, 0) ∧ T.length = k ∧ pch f T t = true ∧ pbd T ∧ 0 ≤ t ∧ p ≤ p' ∧ p' ≤ z.length ∧ psb T = piece z p.toNat p'.toNat
  | 0, f, p, S, hf, h0, h1, _ => ⟨[], f, p, by rw [List.append_nil]; rfl, rfl, decide_eq_true rfl, fun l h => by simp at h, hf, Int.le_refl _, h1, by rw [piece_self]; rfl⟩
  | k + 1, f, p, S, hf, h0, h1, h => by
    unfold psg at h ⊢
    obtain ⟨a0, e0⟩ := Rs.bind_ok h
    rw [e0] at h ⊢
    obtain ⟨s, p1, m1, m2, m3, m4, m5, m6, m7⟩ := str_once hby hf h0 h1 a0
    rw [m1] at h ⊢
    dsimp only at h ⊢
    have hs := stok_parts m3
    obtain ⟨T, t, p', t1, t2, t3, t4, t5, t6, t7, t8⟩ := psg_once hby k s.2.1 p1 (S ++ [s]) (by omega) (by omega) m6 h
    refine ⟨s :: T, t, p', by rw [t1, List.append_assoc]; rfl, by simp [t2], by unfold pch; rw [m2, decide_eq_true rfl, m3, t3]; rfl, fun u hu => ?_, t5, by omega, t7, ?_⟩
    · rcases List.mem_cons.1 hu with rfl | hu
      · exact m4
      · exact t4 u hu
    · unfold psb at t8 ⊢
      rw [List.flatMap_cons, m7, t8, piece_append (by omega) (by omega) (by omega)]
theorem psg_put {z rest : List Int} (hrest : ∀ x ∈ rest, 0 ≤ x ∧ x < 256) : ∀ (T : List Stp) (f t : Int) (S : List Stp) (pre : List Int), z = pre ++ psb T ++ rest → 0 ≤ f → pch f T t = true → pbd T → psg z T.length f pre.length S = ((S ++ T, t), ((pre.length + (psb T).length : Nat) : Int), 0, 0)
  | [], f, t, S, pre, _, _, h, _ => by
    have : f = t := of_decide_eq_true h
    subst this
    unfold psg psb; simp
  | s :: T, f, t, S, pre, hz, hf, hok, hb => by
    unfold pch at hok
    simp only [Bool.and_eq_true, decide_eq_true_eq] at hok
    obtain ⟨⟨h1, h2⟩, h3⟩ := hok
    have hs := stok_parts h2
    have hbT : pbd T := fun m hm => hb m (by simp [hm])
    have hr2 : ∀ x ∈ psb T ++ rest, 0 ≤ x ∧ x < 256 := fun x hx => by
      rcases List.mem_append.1 hx with hx | hx
      · exact psb_byte (by omega) h3 hbT x hx
      · exact hrest x hx
    have e0 : psb (s :: T) = stb s ++ psb T := by unfold psb; rw [List.flatMap_cons]
    have e1 := str_put (z := z) (pre := pre) (rest := psb T ++ rest) (s := s) (by rw [hz, e0]; simp) h2 (by omega) (hb s (by simp)) hr2
    have e2 := psg_put (z := z) hrest T s.2.1 t (S ++ [s]) (pre ++ stb s) (by rw [hz, e0]; simp) (by omega) h3 hbT
    rw [List.length_append] at e2
    rw [h1] at e1
    rw [List.length_cons]
    unfold psg
    rw [Rs.bind_of e1, e2, e0, List.length_append, List.append_assoc, Nat.add_assoc]
    rfl

/-- A projection: epoch, stripes. -/
abbrev Prj := Int × List Stp
def prj0 : Prj := (0, [])
def prok (p : Prj) : Bool := epk p.1 && decide (1 ≤ p.2.length) && decide (p.2.length ≤ 64) && pch 0 p.2 4611686018427387904
def prb (p : Prj) : List Int := vz p.1 ++ vz p.2.length ++ psb p.2
def prd (z : List Int) (p : Int) : Rs Prj :=
  (ve epk z p).bind prj0 fun e p1 => (mny z 64 p1).bind prj0 fun n p2 => (psg z n.toNat 0 p2 []).bind prj0 fun S p3 => if S.2 ≠ 4611686018427387904 then (prj0, 0, 3, p3) else ((e, S.1), p3, 0, 0)
theorem prok_parts {p : Prj} (h : prok p = true) : epk p.1 = true ∧ 1 ≤ p.2.length ∧ p.2.length ≤ 64 ∧ pch 0 p.2 4611686018427387904 = true := by
  unfold prok at h
  simp only [Bool.and_eq_true, decide_eq_true_eq] at h
  exact ⟨h.1.1.1, h.1.1.2, h.1.2, h.2⟩
theorem prd_once {z : List Int} {p : Int} (hby : ∀ x ∈ z, 0 ≤ x ∧ x < 256) (h0 : 0 ≤ p) (h1 : p ≤ z.length) (h : (prd z p).2.2.1 = 0) :
    ∃ x p', prd z p = (x, p', 0, 0) ∧ prok x = true ∧ pbd x.2 ∧ p ≤ p' ∧ p' ≤ z.length ∧ prb x = piece z p.toNat p'.toNat := by
  unfold prd at h ⊢
  obtain ⟨a0, e0⟩ := Rs.bind_ok h
  rw [e0] at h ⊢
  obtain ⟨e, p1, m1, m2, m3, m4, m5, m6, m7⟩ := ve_one hby h0 h1 a0
  rw [m1] at h ⊢
  dsimp only at h ⊢
  obtain ⟨b0, e1⟩ := Rs.bind_ok h
  rw [e1] at h ⊢
  obtain ⟨n, p2, n1, n2, n3, n4, n5, n6⟩ := mny_once hby (by omega) m6 b0
  rw [n1] at h ⊢
  dsimp only at h ⊢
  obtain ⟨c0, e2⟩ := Rs.bind_ok h
  rw [e2] at h ⊢
  obtain ⟨T, t, p3, t1, t2, t3, t4, t5, t6, t7, t8⟩ := psg_once hby n.toNat 0 p2 [] (Int.le_refl _) (by omega) n5 c0
  rw [t1, List.nil_append] at h ⊢
  dsimp only at h ⊢
  by_cases ht : t = 4611686018427387904
  · rw [if_neg (by simp [ht])]
    refine ⟨(e, T), p3, rfl, ?_, t4, by omega, t7, ?_⟩
    · unfold prok
      dsimp only
      rw [m2, decide_eq_true (by omega), decide_eq_true (by omega), ← ht, t3]; rfl
    · unfold prb
      dsimp only
      rw [t2, show ((n.toNat : Nat) : Int) = n by omega, m7, n6, t8, piece_append (by omega) (by omega) (by omega), piece_append (by omega) (by omega) (by omega)]
  · rw [if_pos ht] at h; exact absurd h (by show ¬ (3 : Int) = 0; decide)
theorem prd_put {z pre rest : List Int} {x : Prj} (hz : z = pre ++ prb x ++ rest) (hok : prok x = true) (hb : pbd x.2) (hrest : ∀ x ∈ rest, 0 ≤ x ∧ x < 256) : prd z pre.length = (x, ((pre.length + (prb x).length : Nat) : Int), 0, 0) := by
  obtain ⟨k1, k2, k3, k4⟩ := prok_parts hok
  obtain ⟨e, S⟩ := x
  dsimp only at *
  have hep := epk_bd k1
  have e0 := ve_put (ok := epk) (z := z) (pre := pre) (rest := vz S.length ++ psb S ++ rest) (x := e) (by rw [hz]; unfold prb; simp) (by omega) (by omega) k1
  have e1 := mny_put (z := z) (pre := pre ++ vz e) (rest := psb S ++ rest) (mo := 64) (k := (S.length : Int)) (by rw [hz]; unfold prb; simp) (by omega) (by omega) (by omega)
  have e2 := psg_put (z := z) hrest S 0 _ [] (pre ++ vz e ++ vz S.length) (by rw [hz]; unfold prb; simp) (Int.le_refl _) k4 hb
  rw [List.length_append, vz_length] at e1
  rw [List.length_append, List.length_append, vz_length, vz_length, List.nil_append] at e2
  unfold prd
  rw [Rs.bind_of e0, Rs.bind_of e1, Int.toNat_natCast, Rs.bind_of e2, if_neg (by simp)]
  unfold prb
  dsimp only
  rw [List.length_append, List.length_append, vz_length, vz_length]
  simp only [Nat.add_assoc]
end Go.Proofs.Ytmcabaebdloakaa.Cur

namespace Go.Proofs.Ytmcabaebdloakaa.Cur
open Go.RowKit Mem
set_option linter.unusedVariables false
set_option maxRecDepth 100000


abbrev StE : El Stp := PrE U64E (PrE U64E (SlE (SlE U64E)))
/-- n stripes at an address. -/
def Pts (w : World) (P : Nat → Prop) (A : Option Addr) (n : Nat) (L : List Stp) : Prop := L.length = n ∧ Sq StE w P A L
theorem Pts.keep {w w' : World} {P : Nat → Prop} {A : Option Addr} {n : Nat} {L : List Stp} (h : Pts w P A n L) (hk : ∀ b, P b → b < w.heap.size → w'.heap[b]? = w.heap[b]?) : Pts w' P A n L := ⟨h.1, h.2.keep hk⟩
theorem Pts.mono {w : World} {P Q : Nat → Prop} {A : Option Addr} {n : Nat} {L : List Stp} (h : Pts w P A n L) (hq : ∀ b, P b → b < w.heap.size → Q b) : Pts w Q A n L := ⟨h.1, h.2.mono hq⟩
theorem Pts.below {w w' : World} {P : Nat → Prop} {A : Option Addr} {n : Nat} {L : List Stp} (h : Pts w P A n L) (hb : Below w.heap.size w w') : Pts w' P A n L := ⟨h.1, h.2.below hb⟩
/-- What is known of the stripes' lists. -/
def plen (M : Nat) (L : List Stp) : Prop := ∀ s ∈ L, s.2.2.length ≤ M ∧ ∀ l ∈ s.2.2, l.length ≤ M
theorem plen.at_ {M : Nat} {L : List Stp} (h : plen M L) (k : Nat) : (L.getD k stp0).2.2.length ≤ M ∧ ∀ l ∈ (L.getD k stp0).2.2, l.length ≤ M := by
  rw [List.getD_eq_getElem?_getD]
  rcases hk : L[k]? with _ | s
  · exact ⟨by show ([] : List (List Int)).length ≤ M; simp, fun l hl => by simp [stp0] at hl⟩
  · exact h s (List.mem_of_getElem? hk)
theorem Pts.cells {w : World} {P : Nat → Prop} {A : Option Addr} {n : Nat} {L : List Stp} (h : Pts w P A n L) (hn : n ≠ 0) :
    ∃ g o, A = some ⟨g, o, none⟩ ∧ P g ∧ g < w.heap.size ∧ ∀ k, k < n → ∃ f t S a l m, L.getD k stp0 = (f, t, S) ∧ (0 ≤ f ∧ f < 18446744073709551616) ∧ (0 ≤ t ∧ t < 18446744073709551616) ∧ S.length = l ∧ l ≤ m ∧ (a = none → m = 0) ∧ Sts w P a l S ∧
      ∀ w', Below w.heap.size w w' → w'.cell? ⟨g, o + k * 3, none⟩ = some (.int .u64 f) ∧ w'.cell? ⟨g, o + k * 3 + 1, none⟩ = some (.int .u64 t) ∧ w'.cell? ⟨g, o + k * 3 + 2, none⟩ = some (.slice a l m) := by
  obtain ⟨rfl, h⟩ := h
  obtain ⟨g, o, c, e, hP, hg, _⟩ := h.at_ (i := 0) (by decide) (List.getElem?_eq_getElem (Nat.pos_of_ne_zero hn))
  refine ⟨g, o, e, hP, hg, fun k hk => ?_⟩
  obtain ⟨g', o', c', e', hP', hg', hR, hcell⟩ := h.at_ (i := k) (by decide) (List.getElem?_eq_getElem hk)
  rw [e] at e'
  injection e' with e'
  injection e' with e1 e2
  subst e1 e2
  have hS : L.getD k stp0 = L[k] := by rw [List.getD_eq_getElem?_getD, List.getElem?_eq_getElem hk]; rfl
  obtain ⟨a, m, rfl, b0, b1, h1, h2, h3⟩ := stripe_parts hR
  rw [hS]
  refine ⟨L[k].1, L[k].2.1, L[k].2.2, a, _, m, rfl, b0, b1, rfl, h1, h2, h3, fun w' hb => ⟨?_, ?_, ?_⟩⟩
  · have := hcell 0 _ rfl; exact (hb.cell (lt_of_cell this)).trans this
  · have := hcell 1 _ rfl; exact (hb.cell (lt_of_cell this)).trans this
  · have := hcell 2 _ rfl; exact (hb.cell (lt_of_cell this)).trans this

/-- Where stripe k has to begin. -/
def pe (f : Int) (L : List Stp) (k : Nat) : Int := if k = 0 then f else (L.getD (k - 1) stp0).2.1
theorem pe_zero (f : Int) (L : List Stp) : pe f L 0 = f := if_pos rfl
theorem pe_succ (f : Int) (L : List Stp) (k : Nat) : pe f L (k + 1) = (L.getD k stp0).2.1 := by unfold pe; rw [if_neg (by omega), Nat.add_sub_cancel]
theorem pch_iff : ∀ (L : List Stp) (f t : Int), pch f L t = true ↔ (∀ k, k < L.length → (L.getD k stp0).1 = pe f L k ∧ stok (L.getD k stp0) = true) ∧ pe f L L.length = t
  | [], f, t => by
    unfold pch
    rw [decide_eq_true_eq]
    exact ⟨fun h => ⟨fun k hk => absurd hk (by simp), h⟩, fun h => h.2⟩
  | s :: L, f, t => by
    unfold pch
    rw [Bool.and_eq_true, Bool.and_eq_true, decide_eq_true_eq, pch_iff L s.2.1 t]
    have hp : ∀ k, pe s.2.1 L k = pe f (s :: L) (k + 1) := fun k => by
      rw [pe_succ]
      unfold pe
      rcases k with _ | k
      · rfl
      · rw [if_neg (by omega), Nat.add_sub_cancel, List.getD_cons_succ]
    constructor
    · rintro ⟨⟨h1, h2⟩, h3, h4⟩
      refine ⟨fun k hk => ?_, by rw [← h4, hp]; rfl⟩
      rcases k with _ | k
      · exact ⟨h1, h2⟩
      · have := h3 k (by simpa using hk)
        rw [hp] at this
        exact this
    · rintro ⟨h1, h2⟩
      refine ⟨h1 0 (by simp), fun k hk => ?_, by rw [hp]; exact h2⟩
      have := h1 (k + 1) (by simpa using hk)
      rw [hp]
      exact this
theorem pch_no {L : List Stp} {f t : Int} {k : Nat} (hk : k < L.length) (h : ¬ ((L.getD k stp0).1 = pe f L k ∧ stok (L.getD k stp0) = true)) : pch f L t = false := by
  cases e : pch f L t with
  | false => rfl
  | true => exact absurd (((pch_iff L f t).1 e).1 k hk) h
theorem pch_end {L : List Stp} {f t : Int} (h : ∀ k, k < L.length → (L.getD k stp0).1 = pe f L k ∧ stok (L.getD k stp0) = true) : pch f L t = decide (pe f L L.length = t) := by
  cases e : pch f L t with
  | false =>
    symm
    rw [decide_eq_false_iff_not]
    intro hh
    rw [(pch_iff L f t).2 ⟨h, hh⟩] at e
    cases e
  | true => rw [decide_eq_true ((pch_iff L f t).1 e).2]

set_option maxHeartbeats 4000000 in
theorem whole_any (P : Nat → Prop) (A : Option Addr) (n m : Nat) (L : List Stp) (w : World) (hz : Pts w P A n L) (hn : n ≤ 1000000) (hlen : plen 1000000 L) :
    Calls Try.prog 41 #[.slice A n m] w (BPost (.bool (pch 0 L 4611686018427387904)) w) := by
  unfold BPost
  have HL := Lib.hid hz.1
  have HC := Lib.hid (fun h => hz.cells h)
  have HLEN := Lib.hid (fun k => hlen.at_ k)
  have HNO := Lib.hid (fun k h => pch_no (L := L) (f := 0) (t := 4611686018427387904) (k := k) h)
  have HEND := Lib.hid (pch_end (L := L) (f := 0) (t := 4611686018427387904))
  generalize pch 0 L 4611686018427387904 = r at *
  clear hz hlen
  go_enter Try.func41, Try.ntmps41
  go_wp2
  go_loopw [3, 8] (fun e i wr => ∃ k : Nat, k ≤ n ∧ i = .int .i64 k ∧ e = .int .u64 (pe 0 L k) ∧ Hid (∀ j, j < k → (L.getD j stp0).1 = pe 0 L j ∧ stok (L.getD j stp0) = true) ∧ Below w.heap.size w wr) (fun _ i _ => n - (intOf i).toNat)
  case atStart => exact ⟨0, by omega, rfl, rfl, Lib.hid (by intro j hj; omega), Below.refl _ _⟩
  case round =>
    obtain ⟨k, hk, rfl, rfl, hj, hb⟩ := hrel
    by_cases hlt : k < n
    · obtain ⟨g, o, rfl, _, hg, hc⟩ := HC.out (by omega)
      obtain ⟨f, t, S, a, l, mm, he, ⟨f0, _⟩, _, hl, hlm, _, hst, hcell⟩ := hc k hlt
      obtain ⟨c0, c1, c2⟩ := hcell wr hb
      have hll := HLEN.out k
      have HR1 := Lib.hid (HNO.out k (by rw [HL.out]; exact hlt))
      have HPE := Lib.hid (pe_succ 0 L k)
      rw [he] at hll HR1 HPE
      have HE := Lib.hid he
      have e2 : (k : Int) < n := by omega
      have e3 : IntKind.i64.wrap ((k : Int) + 1) = ((k + 1 : Nat) : Int) := IntWalk.i64_in _ (by omega)
      have hX := Blk.new wr (stc f t a l mm) 39
      have hbX := hb.trans ((below_one wr (.cells (stc f t a l mm) 39)).mono hb.size)
      have hrcon := stright_any P f t a l mm S _ (hst.below hbX) hlm (by have := hll.1; rw [← hl]; exact this) hll.2
      unfold BPost at hrcon
      have HJ := Lib.hid (fun (h : f = pe 0 L k ∧ stok (f, t, S) = true) (i : Nat) (hi : i < k + 1) => show (L.getD i stp0).1 = pe 0 L i ∧ stok (L.getD i stp0) = true by
        rcases Nat.lt_or_ge i k with h2 | h2
        · exact hj.out i h2
        · obtain rfl : i = k := by omega
          rw [HE.out]; exact h)
      generalize stok (f, t, S) = ok at *
      obtain ⟨pv, hpv⟩ : ∃ pv, pv = pe 0 L k := ⟨_, rfl⟩
      rw [← hpv] at HR1 HJ ⊢
      obtain ⟨x0, x1, x2⟩ := hX.c3
      clear hc hcell hl hst he hj hb hX hpv
      by_cases hfe : f = pv
      · have hfb : (f != pv) = false := by simpa using hfe
        have HFE := Lib.hid hfe
        clear hfe
        go_wp2_with fail
        refine hrcon.mono ?_
        rintro e w1 ⟨rfl, hb1⟩
        have hbd := hbX.trans (hb1.mono hbX.size)
        have y1 := (hb1.cell (lt_of_cell x1)).trans x1
        clear hrcon hb1 hbX c0 c1 c2 x0 x1 x2
        cases ok
        · have HR := Lib.hid (HR1.out (fun h => by cases h.2))
          go_wp2
          go_ret
          exact ⟨by rw [HR.out]; rfl, hbd⟩
        · have HJ2 := Lib.hid (HJ.out ⟨HFE.out, rfl⟩)
          go_wp2
          go_roundw
          case rel => exact ⟨k + 1, by omega, by go_num, by rw [HPE.out], HJ2, hbd⟩
          case measure => simp [intOf]; omega
      · have hfb : (f != pv) = true := by simpa using hfe
        have HR := Lib.hid (HR1.out (fun h => hfe h.1))
        clear hfe hrcon
        go_wp2
        go_ret
        exact ⟨by rw [HR.out]; rfl, hbX⟩
    · obtain rfl : k = n := by omega
      have hr : r = decide (pe 0 L k = 4611686018427387904) := by rw [HEND.out (fun i hi => hj.out i (by rw [HL.out] at hi; exact hi)), HL.out]
      obtain ⟨pv, hpv⟩ : ∃ pv, pv = pe 0 L k := ⟨_, rfl⟩
      rw [← hpv] at hr ⊢
      have hrb : (pv == 4611686018427387904) = r := by rw [hr]; rfl
      have HRR := Lib.hid hr
      clear hr hpv
      go_wp2
      go_ret
      exact ⟨by first | rfl | (rw [HRR.out]; rfl), hb⟩
end Go.Proofs.Ytmcabaebdloakaa.Cur

namespace Go.Proofs.Ytmcabaebdloakaa.Cur
open Go.RowKit Mem
set_option linter.unusedVariables false
set_option maxRecDepth 100000


abbrev pragg (e : Int) (A : Option Addr) (n m : Nat) : Value := .agg #[.int .u64 e, .slice A n m]
abbrev prc (e : Int) (A : Option Addr) (n m : Nat) : Array Value := #[.int .u64 e, .slice A n m]
theorem prok_eq (e : Int) (L : List Stp) : prok (e, L) = (epk e && decide (L.length ≤ 64) && pch 0 L 4611686018427387904) := by
  unfold prok
  rcases L with _ | ⟨s, L⟩
  · show (epk e && _ && _ && decide ((0 : Int) = 4611686018427387904)) = (_ && _ && decide ((0 : Int) = 4611686018427387904))
    rw [decide_eq_false (show ¬ (0 : Int) = 4611686018427387904 by decide)]; simp
  · dsimp only
    rw [decide_eq_true (show 1 ≤ (s :: L).length by simp), Bool.and_true]

set_option maxHeartbeats 2000000 in
theorem prright_any (P : Nat → Prop) (e : Int) (A : Option Addr) (n m : Nat) (L : List Stp) (w : World) (hz : Pts w P A n L) (hn : n ≤ 1000000) (hlen : plen 1000000 L) :
    Calls Try.prog 25 #[pragg e A n m] w (BPost (.bool (prok (e, L))) w) := by
  have hX := Blk.new w (prc e A n m) 25
  have hb := below_one w (.cells (prc e A n m) 25)
  have hcon := whole_any P A n m L _ (hz.below hb) hn hlen
  unfold BPost at hcon ⊢
  have HV : Hid (prok (e, L) = (epk e && decide (n ≤ 64) && pch 0 L 4611686018427387904)) := Lib.hid (by rw [prok_eq, hz.1])
  generalize prok (e, L) = V at *
  generalize pch 0 L 4611686018427387904 = r at *
  obtain ⟨x0, x1⟩ := hX.c2
  have hec := fun w' => eright_any e w'
  cases hE : epk e
  · rw [hE] at hec HV
    clear hX hz hlen hcon hE
    go_enter Try.func25, Try.ntmps25
    go_wp2_with fail
    refine (hec _).mono ?_
    rintro en w' ⟨rfl, rfl⟩
    go_wp2
    go_ret
    exact ⟨by rw [HV.out]; rfl, hb⟩
  rw [hE] at hec HV
  clear hE
  by_cases h6 : n ≤ 64
  · have HVV : Hid (V = r) := Lib.hid (by rw [HV.out, decide_eq_true h6]; rfl)
    have e1 : (n : Int) ≤ 64 := by omega
    clear hX hz hlen
    go_enter Try.func25, Try.ntmps25
    go_wp2_with fail
    refine (hec _).mono ?_
    rintro en w' ⟨rfl, rfl⟩
    go_wp2_with fail
    refine hcon.mono ?_
    rintro en w1 ⟨rfl, hb1⟩
    have hbd := hb.trans (hb1.mono hb.size)
    clear hcon hb1
    go_wp2
    go_ret
    exact ⟨by rw [HVV.out]; rfl, hbd⟩
  · have HVV : Hid (V = false) := Lib.hid (by rw [HV.out, decide_eq_false h6]; simp)
    have e1 : ¬ (n : Int) ≤ 64 := by omega
    clear hX hz hlen hcon h6
    go_enter Try.func25, Try.ntmps25
    go_wp2_with fail
    refine (hec _).mono ?_
    rintro en w' ⟨rfl, rfl⟩
    go_wp2
    go_ret
    exact ⟨by rw [HVV.out]; rfl, hb⟩

/-- What the document's round needs. -/
def RpS (x g : Nat) (u : Array Value) (o : Nat) (f t : Int) (a : Option Addr) (l m : Nat) (o2 : Nat) (pv : Int) (w : World) : Prop :=
  Blk w x u 25 ∧ w.cell? ⟨g, o, none⟩ = some (.int .u64 f) ∧ w.cell? ⟨g, o + 1, none⟩ = some (.int .u64 t) ∧ w.cell? ⟨g, o + 2, none⟩ = some (.slice a l m) ∧ w.cell? ⟨g, o2 + 1, none⟩ = some (.int .u64 pv)
theorem RpS.below {x g : Nat} {u : Array Value} {o : Nat} {f t : Int} {a : Option Addr} {l m : Nat} {o2 : Nat} {pv : Int} {w w' : World} (h : RpS x g u o f t a l m o2 pv w) (hb : Below w.heap.size w w') : RpS x g u o f t a l m o2 pv w' :=
  ⟨h.1.below hb, (hb.cell (lt_of_cell h.2.1)).trans h.2.1, (hb.cell (lt_of_cell h.2.2.1)).trans h.2.2.1, (hb.cell (lt_of_cell h.2.2.2.1)).trans h.2.2.2.1, (hb.cell (lt_of_cell h.2.2.2.2)).trans h.2.2.2.2⟩
set_option maxHeartbeats 8000000 in
theorem rprright_any (P : Nat → Prop) (e : Int) (A : Option Addr) (n m : Nat) (L : List Stp) (w : World) (hz : Pts w P A n L) (hn : n ≤ 1000000) (hlen : plen 1000000 L) (e0 : 0 ≤ e) :
    Calls Try.prog 12 #[pragg e A n m] w (BPost (.bool (prok (e, L))) w) := by
  have hX := Blk.new w (prc e A n m) 25
  have hb := below_one w (.cells (prc e A n m) 25)
  unfold BPost
  have HV : Hid (prok (e, L) = (epk e && decide (n ≤ 64) && pch 0 L 4611686018427387904)) := Lib.hid (by rw [prok_eq, hz.1])
  have HL := Lib.hid hz.1
  have HC := Lib.hid (fun h => (hz.below hb).cells h)
  have HLEN := Lib.hid (fun k => hlen.at_ k)
  have HNO := Lib.hid (fun k h => pch_no (L := L) (f := 0) (t := 4611686018427387904) (k := k) h)
  have HEND := Lib.hid (pch_end (L := L) (f := 0) (t := 4611686018427387904))
  have HX := Lib.hid hX
  generalize prok (e, L) = V at *
  generalize pch 0 L 4611686018427387904 = r at *
  obtain ⟨x0, x1⟩ := hX.c2
  have hec := fun w' => rright17_any e e0 w'
  clear hX hz hlen
  cases hE : epk e
  · have HVV : Hid (V = false) := Lib.hid (by rw [HV.out, hE]; rfl)
    rw [hE] at hec
    clear hE
    clear HC HX HLEN
    go_enter Try.func12, Try.ntmps12
    go_wp2_with fail
    refine (hec _).mono ?_
    rintro en w' ⟨rfl, rfl⟩
    go_wp2
    go_ret
    exact ⟨by rw [HVV.out]; rfl, hb⟩
  rw [hE] at hec HV
  clear hE
  by_cases h1 : n < 1
  · have HVV : Hid (V = false) := Lib.hid (by
      have : L = [] := List.eq_nil_of_length_eq_zero (by rw [HL.out]; omega)
      have hr := HEND.out (fun k hk => absurd hk (by rw [this]; simp))
      rw [HV.out, hr, this, decide_eq_false (show ¬ pe 0 [] ([] : List Stp).length = 4611686018427387904 by decide)]; simp)
    have e1 : (n : Int) < 1 := by omega
    clear h1
    clear HC HX HLEN
    go_enter Try.func12, Try.ntmps12
    go_wp2_with fail
    refine (hec _).mono ?_
    rintro en w' ⟨rfl, rfl⟩
    go_wp2
    go_ret
    exact ⟨by rw [HVV.out]; rfl, hb⟩
  by_cases h6 : 64 < n
  · have HVV : Hid (V = false) := Lib.hid (by rw [HV.out, decide_eq_false (by omega)]; simp)
    have e1 : ¬ (n : Int) < 1 := by omega
    have e2 : 64 < (n : Int) := by omega
    clear h1 h6
    clear HC HX HLEN
    go_enter Try.func12, Try.ntmps12
    go_wp2_with fail
    refine (hec _).mono ?_
    rintro en w' ⟨rfl, rfl⟩
    go_wp2
    go_ret
    exact ⟨by rw [HVV.out]; rfl, hb⟩
  have HVV : Hid (V = r) := Lib.hid (by rw [HV.out, decide_eq_true (show n ≤ 64 by omega)]; rfl)
  have hvv := HVV.out
  clear HV HVV
  subst hvv
  have e1 : ¬ (n : Int) < 1 := by omega
  have e2 : ¬ 64 < (n : Int) := by omega
  obtain ⟨g, o, rfl, _, hg, hc⟩ := HC.out (by omega)
  have HCC := Lib.hid hc
  obtain ⟨f0', t0', S0, a0, l0, m0, he0, _, _, _, _, _, _, hcell0⟩ := hc 0 (by omega)
  obtain ⟨y0, _, _⟩ := hcell0 _ (Below.refl _ _)
  obtain ⟨f1', t1', S1, a1, l1, m1, he1, _, _, _, _, _, _, hcell1⟩ := hc (n - 1) (by omega)
  obtain ⟨_, y1, _⟩ := hcell1 _ (Below.refl _ _)
  rw [Nat.zero_mul, Nat.add_zero] at y0
  have e4 : IntKind.i64.wrap ((n : Int) - 1) = ((n - 1 : Nat) : Int) := by rw [IntWalk.i64_in _ (by omega)]; omega
  have e5 : ((n - 1 : Nat) : Int) < n := by omega
  have e6 : (0 : Int) < n := by omega
  have HP0 : Hid (∀ k, k < L.length → (L.getD k stp0).1 = pe 0 L k → k = 0 → f0' = 0) := Lib.hid fun k _ h hk => by
    subst hk
    rw [he0, pe_zero] at h
    exact h
  have HPN : Hid (pe 0 L n = t1') := Lib.hid (by
    have := pe_succ 0 L (n - 1)
    rw [show n - 1 + 1 = n by omega, he1] at this
    exact this)
  have HF0 : Hid ((L.getD 0 stp0).1 = f0') := Lib.hid (by rw [he0])
  clear hc he0 he1 hcell0 hcell1 HC h1 h6
  by_cases hf0 : f0' = 0
  case neg =>
    have hfb : (f0' != 0) = true := by simpa using hf0
    have HVV : Hid (V = false) := Lib.hid (HNO.out 0 (by rw [HL.out]; omega) (fun h => hf0 (HP0.out 0 (by rw [HL.out]; omega) h.1 rfl)))
    clear hf0
    clear HX HLEN
    go_enter Try.func12, Try.ntmps12
    go_wp2_with fail
    refine (hec _).mono ?_
    rintro en w' ⟨rfl, rfl⟩
    go_wp2
    go_ret
    exact ⟨by rw [HVV.out]; rfl, hb⟩
  have Hf0 : Hid (∀ k, k = 0 → (L.getD k stp0).1 = 0) := Lib.hid fun k hk => by rw [hk, HF0.out, hf0]
  clear HF0
  subst hf0
  by_cases ht1 : t1' = 4611686018427387904
  case neg =>
    have htb : (t1' != 4611686018427387904) = true := by simpa using ht1
    have HVV : Hid (V = false) := Lib.hid (by
      cases hr : V with
      | false => rfl
      | true =>
        by_cases hall : ∀ k, k < L.length → (L.getD k stp0).1 = pe 0 L k ∧ stok (L.getD k stp0) = true
        · have := HEND.out hall
          rw [HL.out, HPN.out, decide_eq_false ht1, hr] at this
          exact this
        · exfalso
          apply hall
          intro k hk
          refine Classical.byContradiction fun hh => ?_
          have := HNO.out k hk hh
          rw [hr] at this
          cases this)
    clear ht1
    clear HX HLEN
    go_enter Try.func12, Try.ntmps12
    go_wp2_with fail
    refine (hec _).mono ?_
    rintro en w' ⟨rfl, rfl⟩
    go_wp2
    go_ret
    exact ⟨by rw [HVV.out]; rfl, hb⟩
  have htb : (t1' != 4611686018427387904) = false := by simpa using ht1
  have HVT : Hid ((∀ k, k < L.length → (L.getD k stp0).1 = pe 0 L k ∧ stok (L.getD k stp0) = true) → V = true) := Lib.hid fun h => by
    have := HEND.out h
    rw [HL.out, HPN.out, decide_eq_true ht1] at this
    exact this
  clear ht1 HPN HP0
  go_enter Try.func12, Try.ntmps12
  go_wp2_with fail
  refine (hec _).mono ?_
  rintro en w' ⟨rfl, rfl⟩
  go_wp2
  clear x0 x1 y0 y1 e1 e2 hec htb
  generalize w.alloc (.cells (prc e (some ⟨g, o, none⟩) n m) 25) = w0 at *
  go_loopw [4] (fun i wr => ∃ k : Nat, k ≤ n ∧ i = .int .i64 k ∧ Hid (∀ j, j < k → (L.getD j stp0).1 = pe 0 L j ∧ stok (L.getD j stp0) = true) ∧ Below w0.heap.size w0 wr) (fun i _ => n - (intOf i).toNat)
  case atStart => exact ⟨0, by omega, rfl, Lib.hid (by intro j hj; omega), Below.refl _ _⟩
  case round =>
    obtain ⟨k, hk, rfl, hj, hb0⟩ := hrel
    by_cases hlt : k < n
    · obtain ⟨f, t, S, a, l, mm, he, ⟨fb, _⟩, _, hl, hlm, _, hst, hcell⟩ := HCC.out k hlt
      obtain ⟨c0, c1, c2⟩ := hcell wr hb0
      have hprev : ∃ o2 pv, wr.cell? ⟨g, o2 + 1, none⟩ = some (.int .u64 pv) ∧ (k ≠ 0 → o2 = o + (k - 1) * 3 ∧ pv = pe 0 L k) := by
        by_cases h0 : k = 0
        · exact ⟨o + k * 3, t, c1, fun h => absurd h0 h⟩
        · obtain ⟨f9, t9, S9, a9, l9, m9, he9, _, _, _, _, _, _, hcell9⟩ := HCC.out (k - 1) (by omega)
          refine ⟨o + (k - 1) * 3, t9, (hcell9 wr hb0).2.1, fun _ => ⟨rfl, ?_⟩⟩
          have := pe_succ 0 L (k - 1)
          rw [show k - 1 + 1 = k by omega, he9] at this
          exact this.symm
      obtain ⟨o2, pv, cpv, hpv⟩ := hprev
      have hll := HLEN.out k
      have HR1 := Lib.hid (HNO.out k (by rw [HL.out]; exact hlt))
      rw [he] at hll HR1
      have HE := Lib.hid he
      have e2 : (k : Int) < n := by omega
      have e3 : IntKind.i64.wrap ((k : Int) + 1) = ((k + 1 : Nat) : Int) := IntWalk.i64_in _ (by omega)
      have hS : RpS w.heap.size g (prc e (some ⟨g, o, none⟩) n m) (o + k * 3) f t a l mm o2 pv wr.drew := ⟨Blk.drew (HX.out.below hb0), c0, c1, c2, cpv⟩
      have L1 : ∀ w', RpS w.heap.size g (prc e (some ⟨g, o, none⟩) n m) (o + k * 3) f t a l mm o2 pv w' → w'.cell? ⟨w.heap.size, 1, none⟩ = some (.slice (some ⟨g, o, none⟩) n m) := fun w' h => h.1.c2.2
      have L2 : ∀ w', RpS w.heap.size g (prc e (some ⟨g, o, none⟩) n m) (o + k * 3) f t a l mm o2 pv w' → w'.cell? ⟨g, o + k * 3, none⟩ = some (.int .u64 f) ∧ w'.cell? ⟨g, o + k * 3 + 1, none⟩ = some (.int .u64 t) ∧ w'.cell? ⟨g, o + k * 3 + 2, none⟩ = some (.slice a l mm) := fun w' h => ⟨h.2.1, h.2.2.1, h.2.2.2.1⟩
      have L3 : ∀ w', RpS w.heap.size g (prc e (some ⟨g, o, none⟩) n m) (o + k * 3) f t a l mm o2 pv w' → w'.cell? ⟨g, o2 + 1, none⟩ = some (.int .u64 pv) := fun w' h => h.2.2.2.2
      have hbw : Below w0.heap.size w0 wr.drew := hb0.trans ((below_one' wr).mono hb0.size)
      have hrcon := rright19_any P f t a l mm S _ (hst.below hbw) hlm (by have := hll.1; rw [← hl]; exact this) hll.2
      unfold BPost at hrcon
      have HJ := Lib.hid (fun (h : f = pe 0 L k ∧ stok (f, t, S) = true) (i : Nat) (hi : i < k + 1) => show (L.getD i stp0).1 = pe 0 L i ∧ stok (L.getD i stp0) = true by
        rcases Nat.lt_or_ge i k with h2 | h2
        · exact hj.out i h2
        · obtain rfl : i = k := by omega
          rw [HE.out]; exact h)
      generalize stok (f, t, S) = ok at *
      have HPV := Lib.hid hpv
      have HRC := Lib.hid hrcon
      clear hcell hl hst he hj hb0 hpv hrcon hll c0 c1 c2 cpv
      cases ok
      · have HR := Lib.hid (HR1.out (fun h => by cases h.2))
        go_wp2
        refine Seq.wp_region_seq (RpS w.heap.size g (prc e (some ⟨g, o, none⟩) n m) (o + k * 3) f t a l mm _ pv) (by kernel_rfl) (by kernel_rfl) hS ?_
        repeat (first | (refine Seq.Seq.skip (by rfl) ?_; (try simp only [Act.put, List.setIfInBounds_toArray, List.set_cons_zero, List.set_cons_succ])) | (refine Seq.Seq.det ?_ (by rfl) (fun w hS => ?_) ?_; rotate_left; ((try dsimp only at hS); go_simp; (try rw [if_pos (by omega)]); with_reducible rfl); (try simp only [Act.put, List.setIfInBounds_toArray, List.set_cons_zero, List.set_cons_succ])))
        refine Seq.Seq.make (by rfl) (by rfl) (fun K Q' hK => ?_)
        go_simp
        go_at_call 31
        refine HRC.out.mono ?_
        rintro en v1 ⟨rfl, hc1⟩
        replace hS := hS.below hc1
        have hbx := hbw.trans (hc1.mono hbw.size)
        have hbd := hb.trans (hbx.mono hb.size)
        refine hK.out _ _ (hS) ?_
        clear hK K
        try simp only [Act.put, List.setIfInBounds_toArray, List.set_cons_zero, List.set_cons_succ]
        repeat (first | (refine Seq.Seq.skip (by rfl) ?_; (try simp only [Act.put, List.setIfInBounds_toArray, List.set_cons_zero, List.set_cons_succ])) | (refine Seq.Seq.det ?_ (by rfl) (fun w hS => ?_) ?_; rotate_left; ((try dsimp only at hS); go_simp; (try rw [if_pos (by omega)]); with_reducible rfl); (try simp only [Act.put, List.setIfInBounds_toArray, List.set_cons_zero, List.set_cons_succ])))
        refine Seq.Seq.nil ?_
        clear hS L1 L2 L3 hc1 HRC hbw
        go_wp2
        go_ret
        exact ⟨by rw [HR.out]; rfl, hbd⟩
      · by_cases h0 : k = 0
        · have e4' : ¬ 0 < (k : Int) := by omega
          have e4n : ¬ 0 < k := by omega
          by_cases hf : f = 0
          · have HJ2 := Lib.hid (HJ.out ⟨by rw [hf, h0, pe_zero], rfl⟩)
            have HB9 : Hid (k < n) := Lib.hid hlt
            clear h0 hf
            go_wp2
            refine Seq.wp_region_seq (RpS w.heap.size g (prc e (some ⟨g, o, none⟩) n m) (o + k * 3) f t a l mm _ pv) (by kernel_rfl) (by kernel_rfl) hS ?_
            repeat (first | (refine Seq.Seq.skip (by rfl) ?_; (try simp only [Act.put, List.setIfInBounds_toArray, List.set_cons_zero, List.set_cons_succ])) | (refine Seq.Seq.det ?_ (by rfl) (fun w hS => ?_) ?_; rotate_left; ((try dsimp only at hS); go_simp; (try rw [if_pos (by omega)]); with_reducible rfl); (try simp only [Act.put, List.setIfInBounds_toArray, List.set_cons_zero, List.set_cons_succ])))
            refine Seq.Seq.make (by rfl) (by rfl) (fun K Q' hK => ?_)
            go_simp
            go_at_call 31
            refine HRC.out.mono ?_
            rintro en v1 ⟨rfl, hc1⟩
            replace hS := hS.below hc1
            have hbx := hbw.trans (hc1.mono hbw.size)
            have hbd := hb.trans (hbx.mono hb.size)
            refine hK.out _ _ (hS) ?_
            clear hK K
            try simp only [Act.put, List.setIfInBounds_toArray, List.set_cons_zero, List.set_cons_succ]
            repeat (first | (refine Seq.Seq.skip (by rfl) ?_; (try simp only [Act.put, List.setIfInBounds_toArray, List.set_cons_zero, List.set_cons_succ])) | (refine Seq.Seq.det ?_ (by rfl) (fun w hS => ?_) ?_; rotate_left; ((try dsimp only at hS); go_simp; (try rw [if_pos (by omega)]); with_reducible rfl); (try simp only [Act.put, List.setIfInBounds_toArray, List.set_cons_zero, List.set_cons_succ])))
            refine Seq.Seq.nil ?_
            clear hS L1 L2 L3 hc1 HRC hbw
            go_wp2
            go_roundw
            case rel => exact ⟨k + 1, HB9.out, by go_num, HJ2, hbx⟩
            case measure => simp [intOf]; omega
          · exfalso
            have := Hf0.out k h0
            rw [HE.out] at this
            exact hf this
        · have e4' : 0 < (k : Int) := by omega
          have e4n : 0 < k := by omega
          have e5' : IntKind.i64.wrap ((k : Int) - 1) = ((k - 1 : Nat) : Int) := by rw [IntWalk.i64_in _ (by omega)]; omega
          have e6' : ((k - 1 : Nat) : Int) < n := by omega
          obtain ⟨ho2, hpv2⟩ := HPV.out h0
          subst ho2
          have HB9 : Hid (k < n) := Lib.hid hlt
          by_cases hf : f = pv
          · have hfb : (f != pv) = false := by simpa using hf
            have HJ2 := Lib.hid (HJ.out ⟨by rw [hf, hpv2], rfl⟩)
            clear h0 hf hpv2
            go_wp2
            refine Seq.wp_region_seq (RpS w.heap.size g (prc e (some ⟨g, o, none⟩) n m) (o + k * 3) f t a l mm _ pv) (by kernel_rfl) (by kernel_rfl) hS ?_
            repeat (first | (refine Seq.Seq.skip (by rfl) ?_; (try simp only [Act.put, List.setIfInBounds_toArray, List.set_cons_zero, List.set_cons_succ])) | (refine Seq.Seq.det ?_ (by rfl) (fun w hS => ?_) ?_; rotate_left; ((try dsimp only at hS); go_simp; (try rw [if_pos (by omega)]); with_reducible rfl); (try simp only [Act.put, List.setIfInBounds_toArray, List.set_cons_zero, List.set_cons_succ])))
            refine Seq.Seq.make (by rfl) (by rfl) (fun K Q' hK => ?_)
            go_simp
            go_at_call 31
            refine HRC.out.mono ?_
            rintro en v1 ⟨rfl, hc1⟩
            replace hS := hS.below hc1
            have hbx := hbw.trans (hc1.mono hbw.size)
            have hbd := hb.trans (hbx.mono hb.size)
            refine hK.out _ _ (hS) ?_
            clear hK K
            try simp only [Act.put, List.setIfInBounds_toArray, List.set_cons_zero, List.set_cons_succ]
            repeat (first | (refine Seq.Seq.skip (by rfl) ?_; (try simp only [Act.put, List.setIfInBounds_toArray, List.set_cons_zero, List.set_cons_succ])) | (refine Seq.Seq.det ?_ (by rfl) (fun w hS => ?_) ?_; rotate_left; ((try dsimp only at hS); go_simp; (try rw [if_pos (by omega)]); with_reducible rfl); (try simp only [Act.put, List.setIfInBounds_toArray, List.set_cons_zero, List.set_cons_succ])))
            refine Seq.Seq.nil ?_
            clear hS L1 L2 L3 hc1 HRC hbw
            go_wp2
            go_roundw
            case rel => exact ⟨k + 1, HB9.out, by go_num, HJ2, hbx⟩
            case measure => simp [intOf]; omega
          · have hfb : (f != pv) = true := by simpa using hf
            have HR := Lib.hid (HR1.out (fun h => hf (h.1.trans hpv2.symm)))
            clear h0 hf hpv2
            go_wp2
            refine Seq.wp_region_seq (RpS w.heap.size g (prc e (some ⟨g, o, none⟩) n m) (o + k * 3) f t a l mm _ pv) (by kernel_rfl) (by kernel_rfl) hS ?_
            repeat (first | (refine Seq.Seq.skip (by rfl) ?_; (try simp only [Act.put, List.setIfInBounds_toArray, List.set_cons_zero, List.set_cons_succ])) | (refine Seq.Seq.det ?_ (by rfl) (fun w hS => ?_) ?_; rotate_left; ((try dsimp only at hS); go_simp; (try rw [if_pos (by omega)]); with_reducible rfl); (try simp only [Act.put, List.setIfInBounds_toArray, List.set_cons_zero, List.set_cons_succ])))
            refine Seq.Seq.make (by rfl) (by rfl) (fun K Q' hK => ?_)
            go_simp
            go_at_call 31
            refine HRC.out.mono ?_
            rintro en v1 ⟨rfl, hc1⟩
            replace hS := hS.below hc1
            have hbx := hbw.trans (hc1.mono hbw.size)
            have hbd := hb.trans (hbx.mono hb.size)
            refine hK.out _ _ (hS) ?_
            clear hK K
            try simp only [Act.put, List.setIfInBounds_toArray, List.set_cons_zero, List.set_cons_succ]
            repeat (first | (refine Seq.Seq.skip (by rfl) ?_; (try simp only [Act.put, List.setIfInBounds_toArray, List.set_cons_zero, List.set_cons_succ])) | (refine Seq.Seq.det ?_ (by rfl) (fun w hS => ?_) ?_; rotate_left; ((try dsimp only at hS); go_simp; (try rw [if_pos (by omega)]); with_reducible rfl); (try simp only [Act.put, List.setIfInBounds_toArray, List.set_cons_zero, List.set_cons_succ])))
            refine Seq.Seq.nil ?_
            clear hS L1 L2 L3 hc1 HRC hbw
            go_wp2
            go_ret
            exact ⟨by rw [HR.out]; rfl, hbd⟩
    · obtain rfl : k = n := by omega
      have HR := Lib.hid (HVT.out (fun i hi => hj.out i (by rw [HL.out] at hi; exact hi)))
      have hbd := hb.trans (hb0.mono hb.size)
      go_wp2
      go_ret
      exact ⟨by rw [HR.out]; rfl, hbd⟩
end Go.Proofs.Ytmcabaebdloakaa.Cur

namespace Go.Proofs.Ytmcabaebdloakaa.Cur
open Go.RowKit Mem
set_option linter.unusedVariables false
set_option maxRecDepth 100000


/-- The cells of stripe k, in whatever world in which only other blocks have changed. -/
theorem Pts.ks_cells {S0 : Nat → Prop} {w : World} {P : Nat → Prop} {g o n : Nat} {L : List Stp} (h : Pts w P (some ⟨g, o, none⟩) n L) (hoff : ∀ b, P b → ¬ S0 b) {k : Nat} (hk : k < n) :
    ∃ f t S a l m, L.getD k stp0 = (f, t, S) ∧ (0 ≤ f ∧ f < 18446744073709551616) ∧ (0 ≤ t ∧ t < 18446744073709551616) ∧ S.length = l ∧ l ≤ m ∧ (a = none → m = 0) ∧
      ∀ w', Ks S0 w w' → (w'.cell? ⟨g, o + k * 3, none⟩ = some (.int .u64 f) ∧ w'.cell? ⟨g, o + k * 3 + 1, none⟩ = some (.int .u64 t) ∧ w'.cell? ⟨g, o + k * 3 + 2, none⟩ = some (.slice a l m)) ∧ Sts w' P a l S := by
  obtain ⟨g', o', e, hP, hg, hc⟩ := h.cells (by omega)
  injection e with e
  injection e with e1 e2
  subst e1 e2
  obtain ⟨f, t, S, a, l, m, h1, h2, h3, h4, h5, h6, h7, h8⟩ := hc k hk
  refine ⟨f, t, S, a, l, m, h1, h2, h3, h4, h5, h6, fun w' hk' => ⟨?_, h7.keep fun b hb hl => hk'.block b hl (hoff b hb)⟩⟩
  obtain ⟨c0, c1, c2⟩ := h8 w (Below.refl _ _)
  have hcell : ∀ x, w'.cell? ⟨g, x, none⟩ = w.cell? ⟨g, x, none⟩ := fun x => World.cell?_of_block (hk'.block g hg (hoff g hP))
  exact ⟨(hcell _).trans c0, (hcell _).trans c1, (hcell _).trans c2⟩
/-- The first so many parts of a projection's encoding. -/
def ppk (e : Int) (L : List Stp) (k : Nat) : List Int := vz e ++ vz L.length ++ psb (L.take k)
theorem ppk_end (e : Int) (L : List Stp) : ppk e L L.length = prb (e, L) := by unfold ppk prb; rw [List.take_length]
theorem ppk_succ {e : Int} {L : List Stp} {k : Nat} (hk : k < L.length) : ppk e L (k + 1) = ppk e L k ++ stb (L.getD k stp0) := by
  unfold ppk psb
  rw [List.take_add_one, List.getElem?_eq_getElem hk, Option.toList_some, List.flatMap_append, List.getD_eq_getElem?_getD, List.getElem?_eq_getElem hk, Option.getD_some, List.append_assoc, List.append_assoc, List.append_assoc]
  simp
theorem prok_at {e : Int} {L : List Stp} (h : prok (e, L) = true) {k : Nat} (hk : k < L.length) : stok (L.getD k stp0) = true :=
  (((pch_iff L 0 _).1 (prok_parts h).2.2.2).1 k hk).2
theorem ppk_len {e : Int} {L : List Stp} (h : prok (e, L) = true) : ∀ k, k ≤ L.length → (ppk e L k).length ≤ 20 + 740 * k
  | 0, _ => by
    unfold ppk psb
    rw [List.take_zero, List.flatMap_nil, List.append_nil, List.length_append, vz_length, vz_length]
    have := vsz_le e
    have := vsz_le L.length
    omega
  | k + 1, hk => by
    have ih := ppk_len h k (by omega)
    have := stb_len (prok_at h (show k < L.length by omega))
    rw [ppk_succ (by omega), List.length_append]
    omega
theorem prb_len {e : Int} {L : List Stp} (h : prok (e, L) = true) : (prb (e, L)).length ≤ 47380 := by
  rw [← ppk_end]
  have := ppk_len h L.length (Nat.le_refl _)
  have h2 := (prok_parts h).2.2.1
  replace h2 : L.length ≤ 64 := h2
  omega

/-- A projection's bytes, or none. -/
def PrByPost (p : Prj) (w : World) (e : Ending) (w' : World) : Prop :=
  Below w.heap.size w w' ∧ ((prok p = true ∧ ∃ g, e = .returned (.tuple #[.slice (some ⟨g, 0, none⟩) (prb p).length (prb p).length, .int .i64 0]) ∧ w.heap.size ≤ g ∧ Bs w' (some ⟨g, 0, none⟩) (prb p).length (prb p)) ∨
    (prok p = false ∧ e = .returned (.tuple #[.slice none 0 0, .int .i64 3])))
end Go.Proofs.Ytmcabaebdloakaa.Cur

namespace Go.Proofs.Ytmcabaebdloakaa.Cur
open Go.RowKit Mem
set_option linter.unusedVariables false
set_option maxRecDepth 100000


theorem prj_dec (e : Int) (L : List Stp) (e2 : Int) (M : List Stp) : decide ((e, L) = (e2, M)) = (decide (e = e2) && decide (L = M)) := by
  simp only [Prod.mk.injEq, Bool.decide_and]
/-- What the document's loop needs. -/
def RpsS (W : Nat) (x y : Array Value) (g : Nat) (o : Nat) (f t : Int) (v : Value) (g' : Nat) (o' : Nat) (f2 t2 : Int) (v' : Value) (w : World) : Prop :=
  Blk w W x 25 ∧ Blk w (W + 1) y 25 ∧ (w.cell? ⟨g, o, none⟩ = some (.int .u64 f) ∧ w.cell? ⟨g, o + 1, none⟩ = some (.int .u64 t) ∧ w.cell? ⟨g, o + 2, none⟩ = some v) ∧
    w.cell? ⟨g', o', none⟩ = some (.int .u64 f2) ∧ w.cell? ⟨g', o' + 1, none⟩ = some (.int .u64 t2) ∧ w.cell? ⟨g', o' + 2, none⟩ = some v'
theorem RpsS.below {W : Nat} {x y : Array Value} {g : Nat} {o : Nat} {f t : Int} {v : Value} {g' : Nat} {o' : Nat} {f2 t2 : Int} {v' : Value} {w w' : World} (h : RpsS W x y g o f t v g' o' f2 t2 v' w) (hb : Below w.heap.size w w') : RpsS W x y g o f t v g' o' f2 t2 v' w' := by
  obtain ⟨h1, h2, ⟨h3, h4, h5⟩, h6, h7, h8⟩ := h
  exact ⟨h1.below hb, h2.below hb, ⟨(hb.cell (lt_of_cell h3)).trans h3, (hb.cell (lt_of_cell h4)).trans h4, (hb.cell (lt_of_cell h5)).trans h5⟩, (hb.cell (lt_of_cell h6)).trans h6, (hb.cell (lt_of_cell h7)).trans h7, (hb.cell (lt_of_cell h8)).trans h8⟩
end Go.Proofs.Ytmcabaebdloakaa.Cur

namespace Go.Proofs.Ytmcabaebdloakaa.Cur
open Go.RowKit Mem
set_option linter.unusedVariables false
set_option maxRecDepth 100000


/-- What the document's front needs. -/
def RpB (x : Nat) (u : Array Value) (w0 w : World) : Prop := Blk w x u 25 ∧ Below w0.heap.size w0 w
end Go.Proofs.Ytmcabaebdloakaa.Cur

namespace Go.Proofs.Ytmcabaebdloakaa.Cur
open Go.RowKit Mem
set_option linter.unusedVariables false
set_option maxRecDepth 100000


theorem kindST : Kind 23 39 (.agg #[.int .u64 0, .int .u64 0, .slice none 0 0]) 3 40 := ⟨Try.underlying23, by kernel_rfl, rfl, by decide⟩
def RawPost3 (n : Nat) (xs : List Value) (w : World) (en : Ending) (w' : World) : Prop := ∃ v, en = .returned v ∧ w'.ownsRow w.heap.size 39 3 v n xs ∧ Below w.heap.size w w'
/-- Three cells set, one behind the other. -/
theorem get3 (cur : Array Value) (p : Nat) (a b c : Value) (hp : p + 3 ≤ cur.size) (x : Nat) : (((cur.set! p a).set! (p + 1) b).set! (p + 2) c)[x]? = if x = p + 2 then some c else if x = p + 1 then some b else if x = p then some a else cur[x]? := by
  simp only [Array.set!_eq_setIfInBounds, Array.getElem?_setIfInBounds, Array.size_setIfInBounds]
  by_cases h1 : x = p + 2
  · subst h1; rw [if_pos rfl, if_pos (by omega), if_pos rfl]
  · rw [if_neg (fun e => h1 e.symm), if_neg h1]
    by_cases h2 : x = p + 1
    · subst h2; rw [if_pos rfl, if_pos (by omega), if_pos rfl]
    · rw [if_neg (fun e => h2 e.symm), if_neg h2]
      by_cases h3 : x = p
      · subst h3; rw [if_pos rfl, if_pos (by omega), if_pos rfl]
      · rw [if_neg (fun e => h3 e.symm), if_neg h3]
theorem StE.mk {w : World} {P : Nat → Prop} {f t : Int} {A : Option Addr} {l m : Nat} {S : List (List Int)} (hf : 0 ≤ f ∧ f < 18446744073709551616) (ht : 0 ≤ t ∧ t < 18446744073709551616) (hl : S.length = l) (hm : l ≤ m) (hn : A = none → m = 0) (h : Sts w P A l S) :
    StE.R w P [.int .u64 f, .int .u64 t, .slice A l m] (f, t, S) :=
  ⟨[_], [_, _], rfl, ⟨rfl, hf.1, hf.2⟩, [_], [_], rfl, ⟨rfl, ht.1, ht.2⟩, A, m, by rw [hl], by rw [hl]; exact hm, hn, h.2⟩
/-- Whatever cells stand for the stripes. -/
theorem pts_of_cells {w : World} {P : Nat → Prop} {g n : Nat} {L : List Stp} (hl : L.length = n) (hg : P g) (h : ∀ i, i < n → ∃ a b c, (w.cell? ⟨g, i * 3, none⟩ = some a ∧ w.cell? ⟨g, i * 3 + 1, none⟩ = some b ∧ w.cell? ⟨g, i * 3 + 2, none⟩ = some c) ∧ StE.R w P [a, b, c] (L.getD i stp0)) : Pts w P (some ⟨g, 0, none⟩) n L := by
  obtain ⟨cs, xs, l1, l2, hp⟩ := pick_n (p := fun i c x => x = L.getD i stp0 ∧ ∃ u v z, c = [u, v, z] ∧ (w.cell? ⟨g, i * 3, none⟩ = some u ∧ w.cell? ⟨g, i * 3 + 1, none⟩ = some v ∧ w.cell? ⟨g, i * 3 + 2, none⟩ = some z) ∧ StE.R w P [u, v, z] (L.getD i stp0)) n fun i hi => by
    obtain ⟨a, b, c, h1, h2⟩ := h i hi
    exact ⟨[a, b, c], _, rfl, a, b, c, rfl, h1, h2⟩
  have hxs : xs = L := by
    apply List.ext_getElem (by omega)
    intro i h1 h2
    have := (hp i (cs[i]'(by omega)) xs[i] (List.getElem?_eq_getElem _) (List.getElem?_eq_getElem _)).1
    rw [this, List.getD_eq_getElem?_getD, List.getElem?_eq_getElem h2]; rfl
  subst hxs
  refine ⟨hl, cs, Ch.of (by omega) fun i c x hc hx => ?_, fun hpos => ⟨g, 0, rfl, hg, fun i v hv => ?_⟩⟩
  · obtain ⟨e, a, b, d, rfl, _, hR⟩ := hp i c x hc hx
    rw [e]; exact hR
  · have hlen : ∀ c ∈ cs, c.length = 3 := fun c hcm => by
      obtain ⟨i, hi, e⟩ := List.mem_iff_getElem.1 hcm
      obtain ⟨_, a, b, d, e2, _⟩ := hp i c _ (by rw [List.getElem?_eq_getElem hi, e]) (List.getElem?_eq_getElem (by omega))
      rw [e2]; rfl
    obtain ⟨i', j, c, e, hj, hci, hcv⟩ := flat_at hlen i v hv
    have hi' := (List.getElem?_eq_some_iff.1 hci).1
    obtain ⟨_, a, b, d, rfl, ⟨h1, h2, h3⟩, _⟩ := hp i' c _ hci (List.getElem?_eq_getElem (by omega))
    rw [Nat.zero_add, e]
    rcases j with _ | _ | _ | j
    · simp at hcv; subst hcv; exact h1
    · simp at hcv; subst hcv; exact h2
    · simp at hcv; subst hcv; exact h3
    · omega

/-- The first k of n stripes are copies, the others are as they were. -/
def CpP (w : World) (B g n k : Nat) (L : List Stp) (old : List Value) (cur : Array Value) : Prop :=
  Blk w g cur 39 ∧ n * 3 ≤ cur.size ∧ (∀ i, i < k → ∃ a b c, (cur[i * 3]? = some a ∧ cur[i * 3 + 1]? = some b ∧ cur[i * 3 + 2]? = some c) ∧ StE.R w (fun b => B ≤ b ∧ b ≠ g) [a, b, c] (L.getD i stp0)) ∧ ∀ i v, k * 3 ≤ i → old[i]? = some v → cur[i]? = some v
theorem CpP.below {w w' : World} {B g n k : Nat} {L : List Stp} {old : List Value} {cur : Array Value} (h : CpP w B g n k L old cur) (hb : Below w.heap.size w w') : CpP w' B g n k L old cur := by
  obtain ⟨h1, h2, h3, h4⟩ := h
  refine ⟨h1.below hb, h2, fun i hi => ?_, h4⟩
  obtain ⟨a, b, c, hv, hR⟩ := h3 i hi
  exact ⟨a, b, c, hv, StE.keep hR fun b _ hl => hb.block b hl⟩
theorem CpP.ks {S0 : Nat → Prop} {w w' : World} {B g n k : Nat} {L : List Stp} {old : List Value} {cur : Array Value} (h : CpP w B g n k L old cur) (hk : Ks S0 w w') (h0 : ∀ b, S0 b → b < B) (hg : B ≤ g) : CpP w' B g n k L old cur := by
  obtain ⟨h1, h2, h3, h4⟩ := h
  refine ⟨h1.ks hk (fun hs => by have := h0 g hs; omega), h2, fun i hi => ?_, h4⟩
  obtain ⟨a, b, c, hv, hR⟩ := h3 i hi
  exact ⟨a, b, c, hv, StE.keep hR fun b hb hl => hk.block b hl fun hs => by have := h0 b hs; omega⟩
theorem CpP.pts {w : World} {B g n : Nat} {L : List Stp} {old : List Value} {cur : Array Value} (h : CpP w B g n n L old cur) (hg : B ≤ g) (hl : L.length = n) : Pts w (fun b => B ≤ b) (some ⟨g, 0, none⟩) n L := by
  obtain ⟨h1, h2, h3, h4⟩ := h
  refine pts_of_cells hl hg fun i hi => ?_
  obtain ⟨a, b, c, ⟨q1, q2, q3⟩, hR⟩ := h3 i hi
  exact ⟨a, b, c, ⟨h1.cell _ q1, h1.cell _ q2, h1.cell _ q3⟩, StE.mono hR fun b hb _ => hb.1⟩
/-- The copies are a row of the call's own. -/
theorem own_of_cpp {w w' : World} {B B' g n cap : Nat} {L : List Stp} {old : List Value} {cur : Array Value} (h : CpP w B g n n L old cur) (hl : L.length = n) (hcap : n ≤ cap) (hmx : cap ≤ maxLen) (hsz : cur.size = cap * 3) (hg : B ≤ g) (hB : B' ≤ B)
    (hk : ∀ b, B ≤ b → b < w.heap.size → w'.heap[b]? = w.heap[b]?) : OwnQ StE 39 w' B' (fun k => B' ≤ k ∧ (Value.slice (some ⟨g, 0, none⟩) n cap).ownBlock ≠ some k) (.slice (some ⟨g, 0, none⟩) n cap) L := by
  obtain ⟨h1, h2, h3, _⟩ := h
  obtain ⟨cs, xs, l1, l2, hp⟩ := pick_n (p := fun i c x => x = L.getD i stp0 ∧ ∃ u v z, c = [u, v, z] ∧ (cur[i * 3]? = some u ∧ cur[i * 3 + 1]? = some v ∧ cur[i * 3 + 2]? = some z) ∧ StE.R w (fun b => B ≤ b ∧ b ≠ g) [u, v, z] (L.getD i stp0)) n fun i hi => by
    obtain ⟨a, b, c, h1, h2⟩ := h3 i hi
    exact ⟨[a, b, c], _, rfl, a, b, c, rfl, h1, h2⟩
  have hxs : xs = L := by
    apply List.ext_getElem (by omega)
    intro i h1 h2
    have := (hp i (cs[i]'(by omega)) xs[i] (List.getElem?_eq_getElem _) (List.getElem?_eq_getElem _)).1
    rw [this, List.getD_eq_getElem?_getD, List.getElem?_eq_getElem h2]; rfl
  subst hxs
  have hch : Ch StE w' (fun k => B' ≤ k ∧ (Value.slice (some ⟨g, 0, none⟩) n cap).ownBlock ≠ some k) cs xs := Ch.of (by omega) fun i c x hc hx => by
    obtain ⟨e, a, b, d, rfl, _, hR⟩ := hp i c x hc hx
    rw [e]
    exact StE.mono (StE.keep hR fun b hb hlt => hk b hb.1 hlt) fun b hb _ => ⟨by omega, fun e => hb.2 (by injection e with e; exact e.symm)⟩
  have hfl : cs.flatten.length = n * 3 := by rw [hch.flat, l2]; rfl
  refine ⟨cs, hch, ⟨by rw [hfl, l2]; rfl, .inr ⟨g, cap, cur, by rw [l2], by omega, (hk g hg h1.lt).trans h1, by rw [l2]; exact hcap, hmx, hsz, ?_⟩⟩, fun g' hg' hh => hh.2 hg'⟩
  have hlen : ∀ c ∈ cs, c.length = 3 := fun c hcm => by
    obtain ⟨i, hi, e⟩ := List.mem_iff_getElem.1 hcm
    obtain ⟨_, a, b, d, e2, _⟩ := hp i c _ (by rw [List.getElem?_eq_getElem hi, e]) (List.getElem?_eq_getElem (by omega))
    rw [e2]; rfl
  rw [l2]
  show List.take (n * 3) cur.toList = cs.flatten
  apply List.ext_getElem?
  intro j
  by_cases hj : j < n * 3
  · have hv := List.getElem?_eq_getElem (l := cs.flatten) (by rw [hfl]; exact hj : j < cs.flatten.length)
    obtain ⟨i', jj, c, e, hjj, hci, hcv⟩ := flat_at hlen j _ hv
    have hi' := (List.getElem?_eq_some_iff.1 hci).1
    obtain ⟨_, a, b, d, rfl, ⟨q1, q2, q3⟩, _⟩ := hp i' c _ hci (List.getElem?_eq_getElem (by omega))
    rw [hv, List.getElem?_take_of_lt hj, Array.getElem?_toList]
    generalize cs.flatten[j] = v at hcv
    subst e
    rcases jj with _ | _ | _ | jj
    · simp at hcv; subst hcv; exact q1
    · simp at hcv; subst hcv; exact q2
    · simp at hcv; subst hcv; exact q3
    · omega
  · rw [List.getElem?_eq_none (by rw [List.length_take]; omega), List.getElem?_eq_none (by rw [hfl]; omega)]
end Go.Proofs.Ytmcabaebdloakaa.Cur

namespace Go.Proofs.Ytmcabaebdloakaa.Cur
open Go.RowKit Mem
set_option linter.unusedVariables false
set_option maxRecDepth 100000


/-- What the round needs. -/
def CpR (X : Nat) (u : Array Value) (sx : Nat) (us : Array Value) (w : World) : Prop := Blk w X u 25 ∧ Blk w sx us 39
def PCpPost (e : Int) (n : Nat) (L : List Stp) (w : World) (en : Ending) (w' : World) : Prop :=
  ∃ (A : Option Addr) (m : Nat), en = .returned (pragg e A n m) ∧ Below w.heap.size w w' ∧ Pts w' (fun k => w.heap.size ≤ k) A n L ∧ n ≤ m ∧ (A = none → m = 0)
/-- The copy is the call's own. -/
def PCoPost (e : Int) (L : List Stp) (w : World) (en : Ending) (w' : World) : Prop :=
  ∃ v, en = .returned (.agg #[.int .u64 e, v]) ∧ Below w.heap.size w w' ∧ OwnQ StE 39 w' w.heap.size (fun k => w.heap.size ≤ k ∧ v.ownBlock ≠ some k) v L
end Go.Proofs.Ytmcabaebdloakaa.Cur

namespace Go.Proofs.Ytmcabaebdloakaa.Cur
open Go.RowKit Mem
set_option linter.unusedVariables false
set_option maxRecDepth 100000

theorem opens_stripes : Opens (SlE StE) 23 := opens_slice Try.underlying23 (by kernel_rfl) (by decide) opens_stripe
theorem opens_prj : Opens (PrE U64E (SlE StE)) 25 := opens_pair Try.underlying25 rfl rfl (by kernel_rfl) (by kernel_rfl) (by kernel_rfl) (opens_u64 Try.underlying22) opens_stripes
theorem Pts.bds {w : World} {P : Nat → Prop} {A : Option Addr} {n : Nat} {L : List Stp} (h : Pts w P A n L) : pbd L := by
  intro s hs
  obtain ⟨k, hk, e⟩ := List.mem_iff_getElem.1 hs
  obtain ⟨cs, h1, _⟩ := h.2
  obtain ⟨c, hR, _⟩ := h1.at_ k s (by rw [List.getElem?_eq_getElem hk, e])
  obtain ⟨A, m, _, _, _, _, _, hst⟩ := stripe_parts hR
  exact hst.bds
section
variable {H : Type} {enc : TypeId × Value → H} {w : World} {base : Nat} {v : Value} {d : DataW H} {p : List MemPlace}
theorem open_prj (g : Value.okWide Try.prog w .any base 25 v) (h : DataW.Trod enc Try.prog w 0 (fun _ => true) true 25 v d p) :
    ∃ e A n m L, v = pragg e A n m ∧ (0 ≤ e ∧ e < 18446744073709551616) ∧ n ≤ m ∧ (A = none → m = 0) ∧ Pts w (fun b => b < w.heap.size) A n L := by
  obtain ⟨cs, x, rfl, hs⟩ := open_st Try.underlying25 opens_prj g h
  obtain ⟨d, e, hde, ⟨rfl, b0⟩, A, m, rfl, h1, h2, h3⟩ := hs
  refine ⟨x.1, A, x.2.length, m, x.2, ?_, b0, h1, h2, rfl, h3.mono fun b _ hb => hb⟩
  rw [show cs = cs.toList.toArray by simp, hde]; rfl
end

def LgpPost (n : Nat) (L : List Stp) (w : World) (e : Ending) (w' : World) : Prop := ∃ b, e = .returned (.bool b) ∧ Below w.heap.size w w' ∧ (b = false → n ≤ 70 ∧ plen 20 L)
set_option maxHeartbeats 2000000 in
theorem long20_any (P : Nat → Prop) (e : Int) (A : Option Addr) (n m : Nat) (L : List Stp) (w : World) (hz : Pts w P A n L) :
    Calls Try.prog 7 #[pragg e A n m] w (LgpPost n L w) := by
  have hX := Blk.new w (prc e A n m) 25
  have hb := below_one w (.cells (prc e A n m) 25)
  have HL := Lib.hid hz.1
  have HC := Lib.hid (fun h => (hz.below hb).cells h)
  have HX := Lib.hid hX
  obtain ⟨x0, x1⟩ := hX.c2
  clear hz hX
  go_enter Try.func7, Try.ntmps7
  go_wp2
  clear x0 x1
  generalize w.alloc (.cells (prc e A n m) 25) = w0 at *
  go_loopw [3] (fun i wr => ∃ k : Nat, k ≤ n ∧ k ≤ 70 ∧ i = .int .i64 k ∧ Hid (∀ j, j < k → (L.getD j stp0).2.2.length ≤ 20 ∧ ∀ l ∈ (L.getD j stp0).2.2, l.length ≤ 20) ∧ Below w0.heap.size w0 wr) (fun i _ => 70 - (intOf i).toNat)
  case atStart => exact ⟨0, by omega, by omega, rfl, Lib.hid (by intro j hj; omega), Below.refl _ _⟩
  case round =>
    obtain ⟨k, hk, hk20, rfl, hj, hb0⟩ := hrel
    obtain ⟨x0, x1⟩ := (HX.out.below hb0).c2
    have hbd := hb.trans (hb0.mono hb.size)
    by_cases hlt : k < n
    · have e1 : (k : Int) < n := by omega
      by_cases h20 : k < 70
      · have e2 : (k : Int) < 70 := by omega
        obtain ⟨g, o, rfl, _, hg, hc⟩ := HC.out (by omega)
        obtain ⟨f, t, S, a, l, mm, he, _, _, hl, hlm, han, hst, hcell⟩ := hc k hlt
        obtain ⟨c0, c1, c2⟩ := hcell wr hb0
        have hcon := long19_any P f t a l mm S wr (hst.below hb0)
        have HE := Lib.hid he
        have HLL := Lib.hid hl
        have e3 : IntKind.i64.wrap ((k : Int) + 1) = ((k + 1 : Nat) : Int) := IntWalk.i64_in _ (by omega)
        clear hc hl hst hcell han he hb
        go_wp2_with fail
        refine hcon.mono ?_
        rintro en w1 ⟨bv, rfl, hb1, hlv⟩
        have hb2 := hb0.trans (hb1.mono hb0.size)
        replace hbd := hbd.trans (hb1.mono hbd.size)
        clear hcon hb0 hb1 x0 x1 c0 c1 c2
        cases bv
        · have HLV := Lib.hid (hlv rfl)
          clear hlv
          go_wp2
          go_roundw
          case rel => exact ⟨k + 1, by omega, by omega, by go_num, Lib.hid (fun j hjk => by
            rcases Nat.lt_or_ge j k with h | h
            · exact hj.out j h
            · obtain rfl : j = k := by omega
              rw [HE.out]; exact ⟨by show S.length ≤ 20; rw [HLL.out]; exact HLV.out.1, HLV.out.2⟩), hb2⟩
          case measure => simp [intOf]; omega
        · clear hlv
          go_wp2
          go_ret
          exact ⟨true, rfl, hbd, fun h => by cases h⟩
      · have e2 : ¬ (k : Int) < 70 := by omega
        have e3 : 70 < (n : Int) := by omega
        go_wp2
        go_ret
        exact ⟨true, rfl, hbd, fun h => by cases h⟩
    · obtain rfl : k = n := by omega
      have e3 : ¬ 70 < (k : Int) := by omega
      have HN : Hid (plen 20 L) := Lib.hid fun s hs => by
        obtain ⟨j, hj2, e⟩ := List.mem_iff_getElem.1 hs
        have := hj.out j (by rw [← HL.out]; exact hj2)
        rw [List.getD_eq_getElem?_getD, List.getElem?_eq_getElem hj2, Option.getD_some, e] at this
        exact this
      go_wp2
      go_ret
      exact ⟨false, rfl, hbd, fun _ => ⟨hk20, HN.out⟩⟩

abbrev onep : List Stp := [(0, 4611686018427387904, [[7]])]
def OnePost (w : World) (en : Ending) (w' : World) : Prop := ∃ g, en = .returned (pragg 1 (some ⟨g, 0, none⟩) 1 1) ∧ Below w.heap.size w w' ∧ Pts w' (fun b => b < w'.heap.size) (some ⟨g, 0, none⟩) 1 onep
end Go.Proofs.Ytmcabaebdloakaa.Cur

/- Projections: where the stripes lie; which are right. -/
import Derived.Test.YtghlediibhnloaaPrjS
import Derived.Test.YtghlediibhnloaaStpU
import Derived.Test.YtghlediibhnloaaStpE
import Derived.Test.YtghlediibhnloaaK20
namespace Go.Proofs.Ytghlediibhnloaa.Cur
open Go.RowKit Mem
set_option linter.unusedVariables false
set_option maxRecDepth 100000


abbrev StE : El Stp := PrE U64E (PrE U64E (SlE (SlE U64E)))
/-- n stripes at an address. -/
def Pts (w : World) (P : Nat → Prop) (A : Option Addr) (n : Nat) (L : List Stp) : Prop := L.length = n ∧ Sq StE w P A L
theorem Pts.keep {w w' : World} {P : Nat → Prop} {A : Option Addr} {n : Nat} {L : List Stp} (h : Pts w P A n L) (hk : ∀ b, P b → b < w.heap.size → w'.heap[b]? = w.heap[b]?) : Pts w' P A n L := ⟨h.1, h.2.keep hk⟩
theorem Pts.mono {w : World} {P Q : Nat → Prop} {A : Option Addr} {n : Nat} {L : List Stp} (h : Pts w P A n L) (hq : ∀ b, P b → b < w.heap.size → Q b) : Pts w Q A n L := ⟨h.1, h.2.mono hq⟩
theorem Pts.below {w w' : World} {P : Nat → Prop} {A : Option Addr} {n : Nat} {L : List Stp} (h : Pts w P A n L) (hb : Below w.heap.size w w') : Pts w' P A n L := ⟨h.1, h.2.below hb⟩
/-- What is known of the stripes' lists. -/
def plen (M : Nat) (L : List Stp) : Prop := ∀ s ∈ L, s.2.2.length ≤ M ∧ ∀ l ∈ s.2.2, l.length ≤ M
theorem plen.at_ {M : Nat} {L : List Stp} (h : plen M L) (k : Nat) : (L.getD k stp0).2.2.length ≤ M ∧ ∀ l ∈ (L.getD k stp0).2.2, l.length ≤ M := by
  rw [List.getD_eq_getElem?_getD]
  rcases hk : L[k]? with _ | s
  · exact ⟨by show ([] : List (List Int)).length ≤ M; simp, fun l hl => by simp [stp0] at hl⟩
  · exact h s (List.mem_of_getElem? hk)
theorem Pts.cells {w : World} {P : Nat → Prop} {A : Option Addr} {n : Nat} {L : List Stp} (h : Pts w P A n L) (hn : n ≠ 0) :
    ∃ g o, A = some ⟨g, o, none⟩ ∧ P g ∧ g < w.heap.size ∧ ∀ k, k < n → ∃ f t S a l m, L.getD k stp0 = (f, t, S) ∧ (0 ≤ f ∧ f < 18446744073709551616) ∧ (0 ≤ t ∧ t < 18446744073709551616) ∧ S.length = l ∧ l ≤ m ∧ (a = none → m = 0) ∧ Sts w P a l S ∧
      ∀ w', Below w.heap.size w w' → w'.cell? ⟨g, o + k * 3, none⟩ = some (.int .u64 f) ∧ w'.cell? ⟨g, o + k * 3 + 1, none⟩ = some (.int .u64 t) ∧ w'.cell? ⟨g, o + k * 3 + 2, none⟩ = some (.slice a l m) := by
  obtain ⟨rfl, h⟩ := h
  obtain ⟨g, o, c, e, hP, hg, _⟩ := h.at_ (i := 0) (by decide) (List.getElem?_eq_getElem (Nat.pos_of_ne_zero hn))
  refine ⟨g, o, e, hP, hg, fun k hk => ?_⟩
  obtain ⟨g', o', c', e', hP', hg', hR, hcell⟩ := h.at_ (i := k) (by decide) (List.getElem?_eq_getElem hk)
  rw [e] at e'
  injection e' with e'
  injection e' with e1 e2
  subst e1 e2
  have hS : L.getD k stp0 = L[k] := by rw [List.getD_eq_getElem?_getD, List.getElem?_eq_getElem hk]; rfl
  obtain ⟨a, m, rfl, b0, b1, h1, h2, h3⟩ := stripe_parts hR
  rw [hS]
  refine ⟨L[k].1, L[k].2.1, L[k].2.2, a, _, m, rfl, b0, b1, rfl, h1, h2, h3, fun w' hb => ⟨?_, ?_, ?_⟩⟩
  · have := hcell 0 _ rfl; exact (hb.cell (lt_of_cell this)).trans this
  · have := hcell 1 _ rfl; exact (hb.cell (lt_of_cell this)).trans this
  · have := hcell 2 _ rfl; exact (hb.cell (lt_of_cell this)).trans this

/-- Where stripe k has to begin. -/
def pe (f : Int) (L : List Stp) (k : Nat) : Int := if k = 0 then f else (L.getD (k - 1) stp0).2.1
theorem pe_zero (f : Int) (L : List Stp) : pe f L 0 = f := if_pos rfl
theorem pe_succ (f : Int) (L : List Stp) (k : Nat) : pe f L (k + 1) = (L.getD k stp0).2.1 := by unfold pe; rw [if_neg (by omega), Nat.add_sub_cancel]
theorem pch_iff : ∀ (L : List Stp) (f t : Int), pch f L t = true ↔ (∀ k, k < L.length → (L.getD k stp0).1 = pe f L k ∧ stok (L.getD k stp0) = true) ∧ pe f L L.length = t
  | [], f, t => by
    unfold pch
    rw [decide_eq_true_eq]
    exact ⟨fun h => ⟨fun k hk => absurd hk (by simp), h⟩, fun h => h.2⟩
  | s :: L, f, t => by
    unfold pch
    rw [Bool.and_eq_true, Bool.and_eq_true, decide_eq_true_eq, pch_iff L s.2.1 t]
    have hp : ∀ k, pe s.2.1 L k = pe f (s :: L) (k + 1) := fun k => by
      rw [pe_succ]
      unfold pe
      rcases k with _ | k
      · rfl
      · rw [if_neg (by omega), Nat.add_sub_cancel, List.getD_cons_succ]
    constructor
    · rintro ⟨⟨h1, h2⟩, h3, h4⟩
      refine ⟨fun k hk => ?_, by rw [← h4, hp]; rfl⟩
      rcases k with _ | k
      · exact ⟨h1, h2⟩
      · have := h3 k (by simpa using hk)
        rw [hp] at this
        exact this
    · rintro ⟨h1, h2⟩
      refine ⟨h1 0 (by simp), fun k hk => ?_, by rw [hp]; exact h2⟩
      have := h1 (k + 1) (by simpa using hk)
      rw [hp]
      exact this
theorem pch_no {L : List Stp} {f t : Int} {k : Nat} (hk : k < L.length) (h : ¬ ((L.getD k stp0).1 = pe f L k ∧ stok (L.getD k stp0) = true)) : pch f L t = false := by
  cases e : pch f L t with
  | false => rfl
  | true => exact absurd (((pch_iff L f t).1 e).1 k hk) h
theorem pch_end {L : List Stp} {f t : Int} (h : ∀ k, k < L.length → (L.getD k stp0).1 = pe f L k ∧ stok (L.getD k stp0) = true) : pch f L t = decide (pe f L L.length = t) := by
  cases e : pch f L t with
  | false =>
    symm
    rw [decide_eq_false_iff_not]
    intro hh
    rw [(pch_iff L f t).2 ⟨h, hh⟩] at e
    cases e
  | true => rw [decide_eq_true ((pch_iff L f t).1 e).2]

set_option maxHeartbeats 4000000 in
theorem whole_any (P : Nat → Prop) (A : Option Addr) (n m : Nat) (L : List Stp) (w : World) (hz : Pts w P A n L) (hn : n ≤ 1000000) (hlen : plen 1000000 L) :
    Calls Try.prog 41 #[.slice A n m] w (BPost (.bool (pch 0 L 4611686018427387904)) w) := by
  unfold BPost
  have HL := Lib.hid hz.1
  have HC := Lib.hid (fun h => hz.cells h)
  have HLEN := Lib.hid (fun k => hlen.at_ k)
  have HNO := Lib.hid (fun k h => pch_no (L := L) (f := 0) (t := 4611686018427387904) (k := k) h)
  have HEND := Lib.hid (pch_end (L := L) (f := 0) (t := 4611686018427387904))
  generalize pch 0 L 4611686018427387904 = r at *
  clear hz hlen
  go_enter Try.func41, Try.ntmps41
  go_wp2
  go_loopw [3, 8] (fun e i wr => ∃ k : Nat, k ≤ n ∧ i = .int .i64 k ∧ e = .int .u64 (pe 0 L k) ∧ Hid (∀ j, j < k → (L.getD j stp0).1 = pe 0 L j ∧ stok (L.getD j stp0) = true) ∧ Below w.heap.size w wr) (fun _ i _ => n - (intOf i).toNat)
  case atStart => exact ⟨0, by omega, rfl, rfl, Lib.hid (by intro j hj; omega), Below.refl _ _⟩
  case round =>
    obtain ⟨k, hk, rfl, rfl, hj, hb⟩ := hrel
    by_cases hlt : k < n
    · obtain ⟨g, o, rfl, _, hg, hc⟩ := HC.out (by omega)
      obtain ⟨f, t, S, a, l, mm, he, ⟨f0, _⟩, _, hl, hlm, _, hst, hcell⟩ := hc k hlt
      obtain ⟨c0, c1, c2⟩ := hcell wr hb
      have hll := HLEN.out k
      have HR1 := Lib.hid (HNO.out k (by rw [HL.out]; exact hlt))
      have HPE := Lib.hid (pe_succ 0 L k)
      rw [he] at hll HR1 HPE
      have HE := Lib.hid he
      have e2 : (k : Int) < n := by omega
      have e3 : IntKind.i64.wrap ((k : Int) + 1) = ((k + 1 : Nat) : Int) := IntWalk.i64_in _ (by omega)
      have hX := Blk.new wr (stc f t a l mm) 60
      have hbX := hb.trans ((below_one wr (.cells (stc f t a l mm) 60)).mono hb.size)
      have hrcon := stright_any P f t a l mm S _ (hst.below hbX) hlm (by have := hll.1; rw [← hl]; exact this) hll.2
      unfold BPost at hrcon
      have HJ := Lib.hid (fun (h : f = pe 0 L k ∧ stok (f, t, S) = true) (i : Nat) (hi : i < k + 1) => show (L.getD i stp0).1 = pe 0 L i ∧ stok (L.getD i stp0) = true by
        rcases Nat.lt_or_ge i k with h2 | h2
        · exact hj.out i h2
        · obtain rfl : i = k := by omega
          rw [HE.out]; exact h)
      generalize stok (f, t, S) = ok at *
      obtain ⟨pv, hpv⟩ : ∃ pv, pv = pe 0 L k := ⟨_, rfl⟩
      rw [← hpv] at HR1 HJ ⊢
      obtain ⟨x0, x1, x2⟩ := hX.c3
      clear hc hcell hl hst he hj hb hX hpv
      by_cases hfe : f = pv
      · have hfb : (f != pv) = false := by simpa using hfe
        have HFE := Lib.hid hfe
        clear hfe
        go_wp2_with fail
        refine hrcon.mono ?_
        rintro e w1 ⟨rfl, hb1⟩
        have hbd := hbX.trans (hb1.mono hbX.size)
        have y1 := (hb1.cell (lt_of_cell x1)).trans x1
        clear hrcon hb1 hbX c0 c1 c2 x0 x1 x2
        cases ok
        · have HR := Lib.hid (HR1.out (fun h => by cases h.2))
          go_wp2
          go_ret
          exact ⟨by rw [HR.out]; rfl, hbd⟩
        · have HJ2 := Lib.hid (HJ.out ⟨HFE.out, rfl⟩)
          go_wp2
          go_roundw
          case rel => exact ⟨k + 1, by omega, by go_num, by rw [HPE.out], HJ2, hbd⟩
          case measure => simp [intOf]; omega
      · have hfb : (f != pv) = true := by simpa using hfe
        have HR := Lib.hid (HR1.out (fun h => hfe h.1))
        clear hfe hrcon
        go_wp2
        go_ret
        exact ⟨by rw [HR.out]; rfl, hbX⟩
    · obtain rfl : k = n := by omega
      have hr : r = decide (pe 0 L k = 4611686018427387904) := by rw [HEND.out (fun i hi => hj.out i (by rw [HL.out] at hi; exact hi)), HL.out]
      obtain ⟨pv, hpv⟩ : ∃ pv, pv = pe 0 L k := ⟨_, rfl⟩
      rw [← hpv] at hr ⊢
      have hrb : (pv == 4611686018427387904) = r := by rw [hr]; rfl
      have HRR := Lib.hid hr
      clear hr hpv
      go_wp2
      go_ret
      exact ⟨by first | rfl | (rw [HRR.out]; rfl), hb⟩
end Go.Proofs.Ytghlediibhnloaa.Cur

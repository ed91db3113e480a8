/- As the seat's text, without what nothing here names. -/
import Derived.Test.YtmiimjgfainclaaGreatK24w
import Derived.Test.YtmiimjgfainclaaGreatK20w
import Derived.Test.YtmiimjgfainclaaGreatK25w
import Derived.Test.YtmiimjgfainclaaGreatK23w
import Derived.Test.YtmiimjgfainclaaGreatK1w
import Derived.Deep.CutRange
namespace Go.Proofs.YtmiimjgfainclaaGreat.Cur
open Go.RowKit Mem
set_option linter.unusedVariables false
def pch : Int → List Stp → Int → Bool
  | f, [], t => decide (f = t)
  | f, s :: S, t => decide (s.1 = f) && stok s && pch s.2.1 S t
def psb (S : List Stp) : List Int := S.flatMap stb
abbrev Prj := Int × List Stp
def prok (p : Prj) : Bool := epk p.1 && decide (1 ≤ p.2.length) && decide (p.2.length ≤ 64) && pch 0 p.2 4611686018427387904
def prb (p : Prj) : List Int := vz p.1 ++ vz p.2.length ++ psb p.2
theorem prok_parts {p : Prj} (h : prok p = true) : epk p.1 = true ∧ 1 ≤ p.2.length ∧ p.2.length ≤ 64 ∧ pch 0 p.2 4611686018427387904 = true := by
  unfold prok at h
  simp only [Bool.and_eq_true, decide_eq_true_eq] at h
  exact ⟨h.1.1.1, h.1.1.2, h.1.2, h.2⟩
end Go.Proofs.YtmiimjgfainclaaGreat.Cur
namespace Go.Proofs.YtmiimjgfainclaaGreat.Cur
open Go.RowKit Mem
set_option linter.unusedVariables false
set_option maxRecDepth 100000
abbrev StE : El Stp := PrE U64E (PrE U64E (SlE (SlE U64E)))
def Pts (w : World) (P : Nat → Prop) (A : Option Addr) (n : Nat) (L : List Stp) : Prop := L.length = n ∧ Sq StE w P A L
theorem Pts.keep {w w' : World} {P : Nat → Prop} {A : Option Addr} {n : Nat} {L : List Stp} (h : Pts w P A n L) (hk : ∀ b, P b → b < w.heap.size → w'.heap[b]? = w.heap[b]?) : Pts w' P A n L := ⟨h.1, h.2.keep hk⟩
theorem Pts.mono {w : World} {P Q : Nat → Prop} {A : Option Addr} {n : Nat} {L : List Stp} (h : Pts w P A n L) (hq : ∀ b, P b → b < w.heap.size → Q b) : Pts w Q A n L := ⟨h.1, h.2.mono hq⟩
theorem Pts.below {w w' : World} {P : Nat → Prop} {A : Option Addr} {n : Nat} {L : List Stp} (h : Pts w P A n L) (hb : Below w.heap.size w w') : Pts w' P A n L := ⟨h.1, h.2.below hb⟩
def plen (M : Nat) (L : List Stp) : Prop := ∀ s ∈ L, s.2.2.length ≤ M ∧ ∀ l ∈ s.2.2, l.length ≤ M
theorem plen.at_ {M : Nat} {L : List Stp} (h : plen M L) (k : Nat) : (L.getD k stp0).2.2.length ≤ M ∧ ∀ l ∈ (L.getD k stp0).2.2, l.length ≤ M := by
  rw [List.getD_eq_getElem?_getD]
  rcases hk : L[k]? with _ | s
  · exact ⟨by show ([] : List (List Int)).length ≤ M; simp, fun l hl => by simp [stp0] at hl⟩
  · exact h s (List.mem_of_getElem? hk)
theorem Pts.cells {w : World} {P : Nat → Prop} {A : Option Addr} {n : Nat} {L : List Stp} (h : Pts w P A n L) (hn : n ≠ 0) :
    ∃ g o, A = some ⟨g, o, none⟩ ∧ P g ∧ g < w.heap.size ∧ ∀ k, k < n → ∃ f t S a l m, L.getD k stp0 = (f, t, S) ∧ (0 ≤ f ∧ f < 18446744073709551616) ∧ (0 ≤ t ∧ t < 18446744073709551616) ∧ S.length = l ∧ l ≤ m ∧ (a = none → m = 0) ∧ Sts w P a l S ∧
      ∀ w', Below w.heap.size w w' → w'.cell? ⟨g, o + k * 3, none⟩ = some (.int .u64 f) ∧ w'.cell? ⟨g, o + k * 3 + 1, none⟩ = some (.int .u64 t) ∧ w'.cell? ⟨g, o + k * 3 + 2, none⟩ = some (.slice a l m) := by
  obtain ⟨rfl, h⟩ := h
  obtain ⟨g, o, c, e, hP, hg, _⟩ := h.at_ (i := 0) (by decide) (List.getElem?_eq_getElem (Nat.pos_of_ne_zero hn))
  refine ⟨g, o, e, hP, hg, fun k hk => ?_⟩
  obtain ⟨g', o', c', e', hP', hg', hR, hcell⟩ := h.at_ (i := k) (by decide) (List.getElem?_eq_getElem hk)
  rw [e] at e'
  injection e' with e'
  injection e' with e1 e2
  subst e1 e2
  have hS : L.getD k stp0 = L[k] := by rw [List.getD_eq_getElem?_getD, List.getElem?_eq_getElem hk]; rfl
  obtain ⟨a, m, rfl, b0, b1, h1, h2, h3⟩ := stripe_parts hR
  rw [hS]
  refine ⟨L[k].1, L[k].2.1, L[k].2.2, a, _, m, rfl, b0, b1, rfl, h1, h2, h3, fun w' hb => ⟨?_, ?_, ?_⟩⟩
  · have := hcell 0 _ rfl; exact (hb.cell (lt_of_cell this)).trans this
  · have := hcell 1 _ rfl; exact (hb.cell (lt_of_cell this)).trans this
  · have := hcell 2 _ rfl; exact (hb.cell (lt_of_cell this)).trans this
def pe (f : Int) (L : List Stp) (k : Nat) : Int := if k = 0 then f else (L.getD (k - 1) stp0).2.1
theorem pe_zero (f : Int) (L : List Stp) : pe f L 0 = f := if_pos rfl
theorem pe_succ (f : Int) (L : List Stp) (k : Nat) : pe f L (k + 1) = (L.getD k stp0).2.1 := by unfold pe; rw [if_neg (by omega), Nat.add_sub_cancel]
theorem pch_iff : ∀ (L : List Stp) (f t : Int), pch f L t = true ↔ (∀ k, k < L.length → (L.getD k stp0).1 = pe f L k ∧ stok (L.getD k stp0) = true) ∧ pe f L L.length = t
  | [], f, t => by
    unfold pch
    rw [decide_eq_true_eq]
    exact ⟨fun h => ⟨fun k hk => absurd hk (by simp), h⟩, fun h => h.2⟩
  | s :: L, f, t => by
    unfold pch
    rw [Bool.and_eq_true, Bool.and_eq_true, decide_eq_true_eq, pch_iff L s.2.1 t]
    have hp : ∀ k, pe s.2.1 L k = pe f (s :: L) (k + 1) := fun k => by
      rw [pe_succ]
      unfold pe
      rcases k with _ | k
      · rfl
      · rw [if_neg (by omega), Nat.add_sub_cancel, List.getD_cons_succ]
    constructor
    · rintro ⟨⟨h1, h2⟩, h3, h4⟩
      refine ⟨fun k hk => ?_, by rw [← h4, hp]; rfl⟩
      rcases k with _ | k
      · exact ⟨h1, h2⟩
      · have := h3 k (by simpa using hk)
        rw [hp] at this
        exact this
    · rintro ⟨h1, h2⟩
      refine ⟨h1 0 (by simp), fun k hk => ?_, by rw [hp]; exact h2⟩
      have := h1 (k + 1) (by simpa using hk)
      rw [hp]
      exact this
theorem pch_no {L : List Stp} {f t : Int} {k : Nat} (hk : k < L.length) (h : ¬ ((L.getD k stp0).1 = pe f L k ∧ stok (L.getD k stp0) = true)) : pch f L t = false := by
  cases e : pch f L t with
  | false => rfl
  | true => exact absurd (((pch_iff L f t).1 e).1 k hk) h
theorem pch_end {L : List Stp} {f t : Int} (h : ∀ k, k < L.length → (L.getD k stp0).1 = pe f L k ∧ stok (L.getD k stp0) = true) : pch f L t = decide (pe f L L.length = t) := by
  cases e : pch f L t with
  | false =>
    symm
    rw [decide_eq_false_iff_not]
    intro hh
    rw [(pch_iff L f t).2 ⟨h, hh⟩] at e
    cases e
  | true => rw [decide_eq_true ((pch_iff L f t).1 e).2]
set_option maxHeartbeats 4000000 in
theorem whole_any (P : Nat → Prop) (A : Option Addr) (n m : Nat) (L : List Stp) (w : World) (hz : Pts w P A n L) (hn : n ≤ 1000000) (hlen : plen 1000000 L) :
    Calls Tryz.prog 111 #[.slice A n m] w (BPost (.bool (pch 0 L 4611686018427387904)) w) := by
  unfold BPost
  have HL := Lib.hid hz.1
  have HC := Lib.hid (fun h => hz.cells h)
  have HLEN := Lib.hid (fun k => hlen.at_ k)
  have HNO := Lib.hid (fun k h => pch_no (L := L) (f := 0) (t := 4611686018427387904) (k := k) h)
  have HEND := Lib.hid (pch_end (L := L) (f := 0) (t := 4611686018427387904))
  generalize pch 0 L 4611686018427387904 = r at *
  clear hz hlen
  go_enter Tryz.func111, Tryz.ntmps111
  go_wp2
  go_loopw [3, 8] (fun e i wr => ∃ k : Nat, k ≤ n ∧ i = .int .i64 k ∧ e = .int .u64 (pe 0 L k) ∧ Hid (∀ j, j < k → (L.getD j stp0).1 = pe 0 L j ∧ stok (L.getD j stp0) = true) ∧ Below w.heap.size w wr) (fun _ i _ => n - (intOf i).toNat)
  case atStart => exact ⟨0, by omega, rfl, rfl, Lib.hid (by intro j hj; omega), Below.refl _ _⟩
  case round =>
    obtain ⟨k, hk, rfl, rfl, hj, hb⟩ := hrel
    by_cases hlt : k < n
    · obtain ⟨g, o, rfl, _, hg, hc⟩ := HC.out (by omega)
      obtain ⟨f, t, S, a, l, mm, he, ⟨f0, _⟩, _, hl, hlm, _, hst, hcell⟩ := hc k hlt
      obtain ⟨c0, c1, c2⟩ := hcell wr hb
      have hll := HLEN.out k
      have HR1 := Lib.hid (HNO.out k (by rw [HL.out]; exact hlt))
      have HPE := Lib.hid (pe_succ 0 L k)
      rw [he] at hll HR1 HPE
      have HE := Lib.hid he
      have e2 : (k : Int) < n := by omega
      have e3 : IntKind.i64.wrap ((k : Int) + 1) = ((k + 1 : Nat) : Int) := IntWalk.i64_in _ (by omega)
      have hX := Blk.new wr (stc f t a l mm) 128
      have hbX := hb.trans ((below_one wr (.cells (stc f t a l mm) 128)).mono hb.size)
      have hrcon := stright_any P f t a l mm S _ (hst.below hbX) hlm (by have := hll.1; rw [← hl]; exact this) hll.2
      unfold BPost at hrcon
      have HJ := Lib.hid (fun (h : f = pe 0 L k ∧ stok (f, t, S) = true) (i : Nat) (hi : i < k + 1) => show (L.getD i stp0).1 = pe 0 L i ∧ stok (L.getD i stp0) = true by
        rcases Nat.lt_or_ge i k with h2 | h2
        · exact hj.out i h2
        · obtain rfl : i = k := by omega
          rw [HE.out]; exact h)
      generalize stok (f, t, S) = ok at *
      obtain ⟨pv, hpv⟩ : ∃ pv, pv = pe 0 L k := ⟨_, rfl⟩
      rw [← hpv] at HR1 HJ ⊢
      obtain ⟨x0, x1, x2⟩ := hX.c3
      clear hc hcell hl hst he hj hb hX hpv
      by_cases hfe : f = pv
      · have hfb : (f != pv) = false := by simpa using hfe
        have HFE := Lib.hid hfe
        clear hfe
        go_wp2_with fail
        refine hrcon.mono ?_
        rintro e w1 ⟨rfl, hb1⟩
        have hbd := hbX.trans (hb1.mono hbX.size)
        have y1 := (hb1.cell (lt_of_cell x1)).trans x1
        clear hrcon hb1 hbX c0 c1 c2 x0 x1 x2
        cases ok
        · have HR := Lib.hid (HR1.out (fun h => by cases h.2))
          go_wp2
          go_ret
          exact ⟨by rw [HR.out]; rfl, hbd⟩
        · have HJ2 := Lib.hid (HJ.out ⟨HFE.out, rfl⟩)
          go_wp2
          go_roundw
          case rel => exact ⟨k + 1, by omega, by go_num, by rw [HPE.out], HJ2, hbd⟩
          case measure => simp [intOf]; omega
      · have hfb : (f != pv) = true := by simpa using hfe
        have HR := Lib.hid (HR1.out (fun h => hfe h.1))
        clear hfe hrcon
        go_wp2
        go_ret
        exact ⟨by rw [HR.out]; rfl, hbX⟩
    · obtain rfl : k = n := by omega
      have hr : r = decide (pe 0 L k = 4611686018427387904) := by rw [HEND.out (fun i hi => hj.out i (by rw [HL.out] at hi; exact hi)), HL.out]
      obtain ⟨pv, hpv⟩ : ∃ pv, pv = pe 0 L k := ⟨_, rfl⟩
      rw [← hpv] at hr ⊢
      have hrb : (pv == 4611686018427387904) = r := by rw [hr]; rfl
      have HRR := Lib.hid hr
      clear hr hpv
      go_wp2
      go_ret
      exact ⟨by first | rfl | (rw [HRR.out]; rfl), hb⟩
end Go.Proofs.YtmiimjgfainclaaGreat.Cur
namespace Go.Proofs.YtmiimjgfainclaaGreat.Cur
open Go.RowKit Mem
set_option linter.unusedVariables false
set_option maxRecDepth 100000
abbrev pragg (e : Int) (A : Option Addr) (n m : Nat) : Value := .agg #[.int .u64 e, .slice A n m]
abbrev prc (e : Int) (A : Option Addr) (n m : Nat) : Array Value := #[.int .u64 e, .slice A n m]
theorem prok_eq (e : Int) (L : List Stp) : prok (e, L) = (epk e && decide (L.length ≤ 64) && pch 0 L 4611686018427387904) := by
  unfold prok
  rcases L with _ | ⟨s, L⟩
  · show (epk e && _ && _ && decide ((0 : Int) = 4611686018427387904)) = (_ && _ && decide ((0 : Int) = 4611686018427387904))
    rw [decide_eq_false (show ¬ (0 : Int) = 4611686018427387904 by decide)]; simp
  · dsimp only
    rw [decide_eq_true (show 1 ≤ (s :: L).length by simp), Bool.and_true]
set_option maxHeartbeats 2000000 in
theorem prright_any (P : Nat → Prop) (e : Int) (A : Option Addr) (n m : Nat) (L : List Stp) (w : World) (hz : Pts w P A n L) (hn : n ≤ 1000000) (hlen : plen 1000000 L) :
    Calls Tryz.prog 56 #[pragg e A n m] w (BPost (.bool (prok (e, L))) w) := by
  have hX := Blk.new w (prc e A n m) 30
  have hb := below_one w (.cells (prc e A n m) 30)
  have hcon := whole_any P A n m L _ (hz.below hb) hn hlen
  unfold BPost at hcon ⊢
  have HV : Hid (prok (e, L) = (epk e && decide (n ≤ 64) && pch 0 L 4611686018427387904)) := Lib.hid (by rw [prok_eq, hz.1])
  generalize prok (e, L) = V at *
  generalize pch 0 L 4611686018427387904 = r at *
  obtain ⟨x0, x1⟩ := hX.c2
  have hec := fun w' => eright_any e w'
  cases hE : epk e
  · rw [hE] at hec HV
    clear hX hz hlen hcon hE
    go_enter Tryz.func56, Tryz.ntmps56
    go_wp2_with fail
    refine (hec _).mono ?_
    rintro en w' ⟨rfl, rfl⟩
    go_wp2
    go_ret
    exact ⟨by rw [HV.out]; rfl, hb⟩
  rw [hE] at hec HV
  clear hE
  by_cases h6 : n ≤ 64
  · have HVV : Hid (V = r) := Lib.hid (by rw [HV.out, decide_eq_true h6]; rfl)
    have e1 : (n : Int) ≤ 64 := by omega
    clear hX hz hlen
    go_enter Tryz.func56, Tryz.ntmps56
    go_wp2_with fail
    refine (hec _).mono ?_
    rintro en w' ⟨rfl, rfl⟩
    go_wp2_with fail
    refine hcon.mono ?_
    rintro en w1 ⟨rfl, hb1⟩
    have hbd := hb.trans (hb1.mono hb.size)
    clear hcon hb1
    go_wp2
    go_ret
    exact ⟨by rw [HVV.out]; rfl, hbd⟩
  · have HVV : Hid (V = false) := Lib.hid (by rw [HV.out, decide_eq_false h6]; simp)
    have e1 : ¬ (n : Int) ≤ 64 := by omega
    clear hX hz hlen hcon h6
    go_enter Tryz.func56, Tryz.ntmps56
    go_wp2_with fail
    refine (hec _).mono ?_
    rintro en w' ⟨rfl, rfl⟩
    go_wp2
    go_ret
    exact ⟨by rw [HVV.out]; rfl, hb⟩
def RpS (x g : Nat) (u : Array Value) (o : Nat) (f t : Int) (a : Option Addr) (l m : Nat) (o2 : Nat) (pv : Int) (w : World) : Prop :=
  Blk w x u 30 ∧ w.cell? ⟨g, o, none⟩ = some (.int .u64 f) ∧ w.cell? ⟨g, o + 1, none⟩ = some (.int .u64 t) ∧ w.cell? ⟨g, o + 2, none⟩ = some (.slice a l m) ∧ w.cell? ⟨g, o2 + 1, none⟩ = some (.int .u64 pv)
theorem RpS.below {x g : Nat} {u : Array Value} {o : Nat} {f t : Int} {a : Option Addr} {l m : Nat} {o2 : Nat} {pv : Int} {w w' : World} (h : RpS x g u o f t a l m o2 pv w) (hb : Below w.heap.size w w') : RpS x g u o f t a l m o2 pv w' :=
  ⟨h.1.below hb, (hb.cell (lt_of_cell h.2.1)).trans h.2.1, (hb.cell (lt_of_cell h.2.2.1)).trans h.2.2.1, (hb.cell (lt_of_cell h.2.2.2.1)).trans h.2.2.2.1, (hb.cell (lt_of_cell h.2.2.2.2)).trans h.2.2.2.2⟩
set_option maxHeartbeats 8000000 in
theorem rprright_any (P : Nat → Prop) (e : Int) (A : Option Addr) (n m : Nat) (L : List Stp) (w : World) (hz : Pts w P A n L) (hn : n ≤ 1000000) (hlen : plen 1000000 L) (e0 : 0 ≤ e) :
    Calls Tryz.prog 66 #[pragg e A n m] w (BPost (.bool (prok (e, L))) w) := by
  have hX := Blk.new w (prc e A n m) 30
  have hb := below_one w (.cells (prc e A n m) 30)
  unfold BPost
  have HV : Hid (prok (e, L) = (epk e && decide (n ≤ 64) && pch 0 L 4611686018427387904)) := Lib.hid (by rw [prok_eq, hz.1])
  have HL := Lib.hid hz.1
  have HC := Lib.hid (fun h => (hz.below hb).cells h)
  have HLEN := Lib.hid (fun k => hlen.at_ k)
  have HNO := Lib.hid (fun k h => pch_no (L := L) (f := 0) (t := 4611686018427387904) (k := k) h)
  have HEND := Lib.hid (pch_end (L := L) (f := 0) (t := 4611686018427387904))
  have HX := Lib.hid hX
  generalize prok (e, L) = V at *
  generalize pch 0 L 4611686018427387904 = r at *
  obtain ⟨x0, x1⟩ := hX.c2
  have hec := fun w' => rright17_any e e0 w'
  clear hX hz hlen
  cases hE : epk e
  · have HVV : Hid (V = false) := Lib.hid (by rw [HV.out, hE]; rfl)
    rw [hE] at hec
    clear hE
    clear HC HX HLEN
    go_enter Tryz.func66, Tryz.ntmps66
    go_wp2_with fail
    refine (hec _).mono ?_
    rintro en w' ⟨rfl, rfl⟩
    go_wp2
    go_ret
    exact ⟨by rw [HVV.out]; rfl, hb⟩
  rw [hE] at hec HV
  clear hE
  by_cases h1 : n < 1
  · have HVV : Hid (V = false) := Lib.hid (by
      have : L = [] := List.eq_nil_of_length_eq_zero (by rw [HL.out]; omega)
      have hr := HEND.out (fun k hk => absurd hk (by rw [this]; simp))
      rw [HV.out, hr, this, decide_eq_false (show ¬ pe 0 [] ([] : List Stp).length = 4611686018427387904 by decide)]; simp)
    have e1 : (n : Int) < 1 := by omega
    clear h1
    clear HC HX HLEN
    go_enter Tryz.func66, Tryz.ntmps66
    go_wp2_with fail
    refine (hec _).mono ?_
    rintro en w' ⟨rfl, rfl⟩
    go_wp2
    go_ret
    exact ⟨by rw [HVV.out]; rfl, hb⟩
  by_cases h6 : 64 < n
  · have HVV : Hid (V = false) := Lib.hid (by rw [HV.out, decide_eq_false (by omega)]; simp)
    have e1 : ¬ (n : Int) < 1 := by omega
    have e2 : 64 < (n : Int) := by omega
    clear h1 h6
    clear HC HX HLEN
    go_enter Tryz.func66, Tryz.ntmps66
    go_wp2_with fail
    refine (hec _).mono ?_
    rintro en w' ⟨rfl, rfl⟩
    go_wp2
    go_ret
    exact ⟨by rw [HVV.out]; rfl, hb⟩
  have HVV : Hid (V = r) := Lib.hid (by rw [HV.out, decide_eq_true (show n ≤ 64 by omega)]; rfl)
  have hvv := HVV.out
  clear HV HVV
  subst hvv
  have e1 : ¬ (n : Int) < 1 := by omega
  have e2 : ¬ 64 < (n : Int) := by omega
  obtain ⟨g, o, rfl, _, hg, hc⟩ := HC.out (by omega)
  have HCC := Lib.hid hc
  obtain ⟨f0', t0', S0, a0, l0, m0, he0, _, _, _, _, _, _, hcell0⟩ := hc 0 (by omega)
  obtain ⟨y0, _, _⟩ := hcell0 _ (Below.refl _ _)
  obtain ⟨f1', t1', S1, a1, l1, m1, he1, _, _, _, _, _, _, hcell1⟩ := hc (n - 1) (by omega)
  obtain ⟨_, y1, _⟩ := hcell1 _ (Below.refl _ _)
  rw [Nat.zero_mul, Nat.add_zero] at y0
  have e4 : IntKind.i64.wrap ((n : Int) - 1) = ((n - 1 : Nat) : Int) := by rw [IntWalk.i64_in _ (by omega)]; omega
  have e5 : ((n - 1 : Nat) : Int) < n := by omega
  have e6 : (0 : Int) < n := by omega
  have HP0 : Hid (∀ k, k < L.length → (L.getD k stp0).1 = pe 0 L k → k = 0 → f0' = 0) := Lib.hid fun k _ h hk => by
    subst hk
    rw [he0, pe_zero] at h
    exact h
  have HPN : Hid (pe 0 L n = t1') := Lib.hid (by
    have := pe_succ 0 L (n - 1)
    rw [show n - 1 + 1 = n by omega, he1] at this
    exact this)
  have HF0 : Hid ((L.getD 0 stp0).1 = f0') := Lib.hid (by rw [he0])
  clear hc he0 he1 hcell0 hcell1 HC h1 h6
  by_cases hf0 : f0' = 0
  case neg =>
    have hfb : (f0' != 0) = true := by simpa using hf0
    have HVV : Hid (V = false) := Lib.hid (HNO.out 0 (by rw [HL.out]; omega) (fun h => hf0 (HP0.out 0 (by rw [HL.out]; omega) h.1 rfl)))
    clear hf0
    clear HX HLEN
    go_enter Tryz.func66, Tryz.ntmps66
    go_wp2_with fail
    refine (hec _).mono ?_
    rintro en w' ⟨rfl, rfl⟩
    go_wp2
    go_ret
    exact ⟨by rw [HVV.out]; rfl, hb⟩
  have Hf0 : Hid (∀ k, k = 0 → (L.getD k stp0).1 = 0) := Lib.hid fun k hk => by rw [hk, HF0.out, hf0]
  clear HF0
  subst hf0
  by_cases ht1 : t1' = 4611686018427387904
  case neg =>
    have htb : (t1' != 4611686018427387904) = true := by simpa using ht1
    have HVV : Hid (V = false) := Lib.hid (by
      cases hr : V with
      | false => rfl
      | true =>
        by_cases hall : ∀ k, k < L.length → (L.getD k stp0).1 = pe 0 L k ∧ stok (L.getD k stp0) = true
        · have := HEND.out hall
          rw [HL.out, HPN.out, decide_eq_false ht1, hr] at this
          exact this
        · exfalso
          apply hall
          intro k hk
          refine Classical.byContradiction fun hh => ?_
          have := HNO.out k hk hh
          rw [hr] at this
          cases this)
    clear ht1
    clear HX HLEN
    go_enter Tryz.func66, Tryz.ntmps66
    go_wp2_with fail
    refine (hec _).mono ?_
    rintro en w' ⟨rfl, rfl⟩
    go_wp2
    go_ret
    exact ⟨by rw [HVV.out]; rfl, hb⟩
  have htb : (t1' != 4611686018427387904) = false := by simpa using ht1
  have HVT : Hid ((∀ k, k < L.length → (L.getD k stp0).1 = pe 0 L k ∧ stok (L.getD k stp0) = true) → V = true) := Lib.hid fun h => by
    have := HEND.out h
    rw [HL.out, HPN.out, decide_eq_true ht1] at this
    exact this
  clear ht1 HPN HP0
  go_enter Tryz.func66, Tryz.ntmps66
  go_wp2_with fail
  refine (hec _).mono ?_
  rintro en w' ⟨rfl, rfl⟩
  go_wp2
  clear x0 x1 y0 y1 e1 e2 hec htb
  generalize w.alloc (.cells (prc e (some ⟨g, o, none⟩) n m) 30) = w0 at *
  go_loopw [4] (fun i wr => ∃ k : Nat, k ≤ n ∧ i = .int .i64 k ∧ Hid (∀ j, j < k → (L.getD j stp0).1 = pe 0 L j ∧ stok (L.getD j stp0) = true) ∧ Below w0.heap.size w0 wr) (fun i _ => n - (intOf i).toNat)
  case atStart => exact ⟨0, by omega, rfl, Lib.hid (by intro j hj; omega), Below.refl _ _⟩
  case round =>
    obtain ⟨k, hk, rfl, hj, hb0⟩ := hrel
    by_cases hlt : k < n
    · obtain ⟨f, t, S, a, l, mm, he, ⟨fb, _⟩, _, hl, hlm, _, hst, hcell⟩ := HCC.out k hlt
      obtain ⟨c0, c1, c2⟩ := hcell wr hb0
      have hprev : ∃ o2 pv, wr.cell? ⟨g, o2 + 1, none⟩ = some (.int .u64 pv) ∧ (k ≠ 0 → o2 = o + (k - 1) * 3 ∧ pv = pe 0 L k) := by
        by_cases h0 : k = 0
        · exact ⟨o + k * 3, t, c1, fun h => absurd h0 h⟩
        · obtain ⟨f9, t9, S9, a9, l9, m9, he9, _, _, _, _, _, _, hcell9⟩ := HCC.out (k - 1) (by omega)
          refine ⟨o + (k - 1) * 3, t9, (hcell9 wr hb0).2.1, fun _ => ⟨rfl, ?_⟩⟩
          have := pe_succ 0 L (k - 1)
          rw [show k - 1 + 1 = k by omega, he9] at this
          exact this.symm
      obtain ⟨o2, pv, cpv, hpv⟩ := hprev
      have hll := HLEN.out k
      have HR1 := Lib.hid (HNO.out k (by rw [HL.out]; exact hlt))
      rw [he] at hll HR1
      have HE := Lib.hid he
      have e2 : (k : Int) < n := by omega
      have e3 : IntKind.i64.wrap ((k : Int) + 1) = ((k + 1 : Nat) : Int) := IntWalk.i64_in _ (by omega)
      have hS : RpS w.heap.size g (prc e (some ⟨g, o, none⟩) n m) (o + k * 3) f t a l mm o2 pv wr.drew := ⟨Blk.drew (HX.out.below hb0), c0, c1, c2, cpv⟩
      have L1 : ∀ w', RpS w.heap.size g (prc e (some ⟨g, o, none⟩) n m) (o + k * 3) f t a l mm o2 pv w' → w'.cell? ⟨w.heap.size, 1, none⟩ = some (.slice (some ⟨g, o, none⟩) n m) := fun w' h => h.1.c2.2
      have L2 : ∀ w', RpS w.heap.size g (prc e (some ⟨g, o, none⟩) n m) (o + k * 3) f t a l mm o2 pv w' → w'.cell? ⟨g, o + k * 3, none⟩ = some (.int .u64 f) ∧ w'.cell? ⟨g, o + k * 3 + 1, none⟩ = some (.int .u64 t) ∧ w'.cell? ⟨g, o + k * 3 + 2, none⟩ = some (.slice a l mm) := fun w' h => ⟨h.2.1, h.2.2.1, h.2.2.2.1⟩
      have L3 : ∀ w', RpS w.heap.size g (prc e (some ⟨g, o, none⟩) n m) (o + k * 3) f t a l mm o2 pv w' → w'.cell? ⟨g, o2 + 1, none⟩ = some (.int .u64 pv) := fun w' h => h.2.2.2.2
      have hbw : Below w0.heap.size w0 wr.drew := hb0.trans ((below_one' wr).mono hb0.size)
      have hrcon := rright19_any P f t a l mm S _ (hst.below hbw) hlm (by have := hll.1; rw [← hl]; exact this) hll.2
      unfold BPost at hrcon
      have HJ := Lib.hid (fun (h : f = pe 0 L k ∧ stok (f, t, S) = true) (i : Nat) (hi : i < k + 1) => show (L.getD i stp0).1 = pe 0 L i ∧ stok (L.getD i stp0) = true by
        rcases Nat.lt_or_ge i k with h2 | h2
        · exact hj.out i h2
        · obtain rfl : i = k := by omega
          rw [HE.out]; exact h)
      generalize stok (f, t, S) = ok at *
      have HPV := Lib.hid hpv
      have HRC := Lib.hid hrcon
      clear hcell hl hst he hj hb0 hpv hrcon hll c0 c1 c2 cpv
      cases ok
      · have HR := Lib.hid (HR1.out (fun h => by cases h.2))
        go_wp2
        refine Seq.wp_region_seq (RpS w.heap.size g (prc e (some ⟨g, o, none⟩) n m) (o + k * 3) f t a l mm _ pv) (by kernel_rfl) (by kernel_rfl) hS ?_
        repeat (first | (refine Seq.Seq.skip (by rfl) ?_; (try simp only [Act.put, List.setIfInBounds_toArray, List.set_cons_zero, List.set_cons_succ])) | (refine Seq.Seq.det ?_ (by rfl) (fun w hS => ?_) ?_; rotate_left; ((try dsimp only at hS); go_simp; (try rw [if_pos (by omega)]); with_reducible rfl); (try simp only [Act.put, List.setIfInBounds_toArray, List.set_cons_zero, List.set_cons_succ])))
        refine Seq.Seq.make (by rfl) (by rfl) (fun K Q' hK => ?_)
        go_simp
        go_at_call 119
        refine HRC.out.mono ?_
        rintro en v1 ⟨rfl, hc1⟩
        replace hS := hS.below hc1
        have hbx := hbw.trans (hc1.mono hbw.size)
        have hbd := hb.trans (hbx.mono hb.size)
        refine hK.out _ _ (hS) ?_
        clear hK K
        try simp only [Act.put, List.setIfInBounds_toArray, List.set_cons_zero, List.set_cons_succ]
        repeat (first | (refine Seq.Seq.skip (by rfl) ?_; (try simp only [Act.put, List.setIfInBounds_toArray, List.set_cons_zero, List.set_cons_succ])) | (refine Seq.Seq.det ?_ (by rfl) (fun w hS => ?_) ?_; rotate_left; ((try dsimp only at hS); go_simp; (try rw [if_pos (by omega)]); with_reducible rfl); (try simp only [Act.put, List.setIfInBounds_toArray, List.set_cons_zero, List.set_cons_succ])))
        refine Seq.Seq.nil ?_
        clear hS L1 L2 L3 hc1 HRC hbw
        go_wp2
        go_ret
        exact ⟨by rw [HR.out]; rfl, hbd⟩
      · by_cases h0 : k = 0
        · have e4' : ¬ 0 < (k : Int) := by omega
          have e4n : ¬ 0 < k := by omega
          by_cases hf : f = 0
          · have HJ2 := Lib.hid (HJ.out ⟨by rw [hf, h0, pe_zero], rfl⟩)
            have HB9 : Hid (k < n) := Lib.hid hlt
            clear h0 hf
            go_wp2
            refine Seq.wp_region_seq (RpS w.heap.size g (prc e (some ⟨g, o, none⟩) n m) (o + k * 3) f t a l mm _ pv) (by kernel_rfl) (by kernel_rfl) hS ?_
            repeat (first | (refine Seq.Seq.skip (by rfl) ?_; (try simp only [Act.put, List.setIfInBounds_toArray, List.set_cons_zero, List.set_cons_succ])) | (refine Seq.Seq.det ?_ (by rfl) (fun w hS => ?_) ?_; rotate_left; ((try dsimp only at hS); go_simp; (try rw [if_pos (by omega)]); with_reducible rfl); (try simp only [Act.put, List.setIfInBounds_toArray, List.set_cons_zero, List.set_cons_succ])))
            refine Seq.Seq.make (by rfl) (by rfl) (fun K Q' hK => ?_)
            go_simp
            go_at_call 119
            refine HRC.out.mono ?_
            rintro en v1 ⟨rfl, hc1⟩
            replace hS := hS.below hc1
            have hbx := hbw.trans (hc1.mono hbw.size)
            have hbd := hb.trans (hbx.mono hb.size)
            refine hK.out _ _ (hS) ?_
            clear hK K
            try simp only [Act.put, List.setIfInBounds_toArray, List.set_cons_zero, List.set_cons_succ]
            repeat (first | (refine Seq.Seq.skip (by rfl) ?_; (try simp only [Act.put, List.setIfInBounds_toArray, List.set_cons_zero, List.set_cons_succ])) | (refine Seq.Seq.det ?_ (by rfl) (fun w hS => ?_) ?_; rotate_left; ((try dsimp only at hS); go_simp; (try rw [if_pos (by omega)]); with_reducible rfl); (try simp only [Act.put, List.setIfInBounds_toArray, List.set_cons_zero, List.set_cons_succ])))
            refine Seq.Seq.nil ?_
            clear hS L1 L2 L3 hc1 HRC hbw
            go_wp2
            go_roundw
            case rel => exact ⟨k + 1, HB9.out, by go_num, HJ2, hbx⟩
            case measure => simp [intOf]; omega
          · exfalso
            have := Hf0.out k h0
            rw [HE.out] at this
            exact hf this
        · have e4' : 0 < (k : Int) := by omega
          have e4n : 0 < k := by omega
          have e5' : IntKind.i64.wrap ((k : Int) - 1) = ((k - 1 : Nat) : Int) := by rw [IntWalk.i64_in _ (by omega)]; omega
          have e6' : ((k - 1 : Nat) : Int) < n := by omega
          obtain ⟨ho2, hpv2⟩ := HPV.out h0
          subst ho2
          have HB9 : Hid (k < n) := Lib.hid hlt
          by_cases hf : f = pv
          · have hfb : (f != pv) = false := by simpa using hf
            have HJ2 := Lib.hid (HJ.out ⟨by rw [hf, hpv2], rfl⟩)
            clear h0 hf hpv2
            go_wp2
            refine Seq.wp_region_seq (RpS w.heap.size g (prc e (some ⟨g, o, none⟩) n m) (o + k * 3) f t a l mm _ pv) (by kernel_rfl) (by kernel_rfl) hS ?_
            repeat (first | (refine Seq.Seq.skip (by rfl) ?_; (try simp only [Act.put, List.setIfInBounds_toArray, List.set_cons_zero, List.set_cons_succ])) | (refine Seq.Seq.det ?_ (by rfl) (fun w hS => ?_) ?_; rotate_left; ((try dsimp only at hS); go_simp; (try rw [if_pos (by omega)]); with_reducible rfl); (try simp only [Act.put, List.setIfInBounds_toArray, List.set_cons_zero, List.set_cons_succ])))
            refine Seq.Seq.make (by rfl) (by rfl) (fun K Q' hK => ?_)
            go_simp
            go_at_call 119
            refine HRC.out.mono ?_
            rintro en v1 ⟨rfl, hc1⟩
            replace hS := hS.below hc1
            have hbx := hbw.trans (hc1.mono hbw.size)
            have hbd := hb.trans (hbx.mono hb.size)
            refine hK.out _ _ (hS) ?_
            clear hK K
            try simp only [Act.put, List.setIfInBounds_toArray, List.set_cons_zero, List.set_cons_succ]
            repeat (first | (refine Seq.Seq.skip (by rfl) ?_; (try simp only [Act.put, List.setIfInBounds_toArray, List.set_cons_zero, List.set_cons_succ])) | (refine Seq.Seq.det ?_ (by rfl) (fun w hS => ?_) ?_; rotate_left; ((try dsimp only at hS); go_simp; (try rw [if_pos (by omega)]); with_reducible rfl); (try simp only [Act.put, List.setIfInBounds_toArray, List.set_cons_zero, List.set_cons_succ])))
            refine Seq.Seq.nil ?_
            clear hS L1 L2 L3 hc1 HRC hbw
            go_wp2
            go_roundw
            case rel => exact ⟨k + 1, HB9.out, by go_num, HJ2, hbx⟩
            case measure => simp [intOf]; omega
          · have hfb : (f != pv) = true := by simpa using hf
            have HR := Lib.hid (HR1.out (fun h => hf (h.1.trans hpv2.symm)))
            clear h0 hf hpv2
            go_wp2
            refine Seq.wp_region_seq (RpS w.heap.size g (prc e (some ⟨g, o, none⟩) n m) (o + k * 3) f t a l mm _ pv) (by kernel_rfl) (by kernel_rfl) hS ?_
            repeat (first | (refine Seq.Seq.skip (by rfl) ?_; (try simp only [Act.put, List.setIfInBounds_toArray, List.set_cons_zero, List.set_cons_succ])) | (refine Seq.Seq.det ?_ (by rfl) (fun w hS => ?_) ?_; rotate_left; ((try dsimp only at hS); go_simp; (try rw [if_pos (by omega)]); with_reducible rfl); (try simp only [Act.put, List.setIfInBounds_toArray, List.set_cons_zero, List.set_cons_succ])))
            refine Seq.Seq.make (by rfl) (by rfl) (fun K Q' hK => ?_)
            go_simp
            go_at_call 119
            refine HRC.out.mono ?_
            rintro en v1 ⟨rfl, hc1⟩
            replace hS := hS.below hc1
            have hbx := hbw.trans (hc1.mono hbw.size)
            have hbd := hb.trans (hbx.mono hb.size)
            refine hK.out _ _ (hS) ?_
            clear hK K
            try simp only [Act.put, List.setIfInBounds_toArray, List.set_cons_zero, List.set_cons_succ]
            repeat (first | (refine Seq.Seq.skip (by rfl) ?_; (try simp only [Act.put, List.setIfInBounds_toArray, List.set_cons_zero, List.set_cons_succ])) | (refine Seq.Seq.det ?_ (by rfl) (fun w hS => ?_) ?_; rotate_left; ((try dsimp only at hS); go_simp; (try rw [if_pos (by omega)]); with_reducible rfl); (try simp only [Act.put, List.setIfInBounds_toArray, List.set_cons_zero, List.set_cons_succ])))
            refine Seq.Seq.nil ?_
            clear hS L1 L2 L3 hc1 HRC hbw
            go_wp2
            go_ret
            exact ⟨by rw [HR.out]; rfl, hbd⟩
    · obtain rfl : k = n := by omega
      have HR := Lib.hid (HVT.out (fun i hi => hj.out i (by rw [HL.out] at hi; exact hi)))
      have hbd := hb.trans (hb0.mono hb.size)
      go_wp2
      go_ret
      exact ⟨by rw [HR.out]; rfl, hbd⟩
end Go.Proofs.YtmiimjgfainclaaGreat.Cur
namespace Go.Proofs.YtmiimjgfainclaaGreat.Cur
open Go.RowKit Mem
set_option linter.unusedVariables false
set_option maxRecDepth 100000
theorem Pts.ks_cells {S0 : Nat → Prop} {w : World} {P : Nat → Prop} {g o n : Nat} {L : List Stp} (h : Pts w P (some ⟨g, o, none⟩) n L) (hoff : ∀ b, P b → ¬ S0 b) {k : Nat} (hk : k < n) :
    ∃ f t S a l m, L.getD k stp0 = (f, t, S) ∧ (0 ≤ f ∧ f < 18446744073709551616) ∧ (0 ≤ t ∧ t < 18446744073709551616) ∧ S.length = l ∧ l ≤ m ∧ (a = none → m = 0) ∧
      ∀ w', Ks S0 w w' → (w'.cell? ⟨g, o + k * 3, none⟩ = some (.int .u64 f) ∧ w'.cell? ⟨g, o + k * 3 + 1, none⟩ = some (.int .u64 t) ∧ w'.cell? ⟨g, o + k * 3 + 2, none⟩ = some (.slice a l m)) ∧ Sts w' P a l S := by
  obtain ⟨g', o', e, hP, hg, hc⟩ := h.cells (by omega)
  injection e with e
  injection e with e1 e2
  subst e1 e2
  obtain ⟨f, t, S, a, l, m, h1, h2, h3, h4, h5, h6, h7, h8⟩ := hc k hk
  refine ⟨f, t, S, a, l, m, h1, h2, h3, h4, h5, h6, fun w' hk' => ⟨?_, h7.keep fun b hb hl => hk'.block b hl (hoff b hb)⟩⟩
  obtain ⟨c0, c1, c2⟩ := h8 w (Below.refl _ _)
  have hcell : ∀ x, w'.cell? ⟨g, x, none⟩ = w.cell? ⟨g, x, none⟩ := fun x => World.cell?_of_block (hk'.block g hg (hoff g hP))
  exact ⟨(hcell _).trans c0, (hcell _).trans c1, (hcell _).trans c2⟩
def ppk (e : Int) (L : List Stp) (k : Nat) : List Int := vz e ++ vz L.length ++ psb (L.take k)
theorem ppk_end (e : Int) (L : List Stp) : ppk e L L.length = prb (e, L) := by unfold ppk prb; rw [List.take_length]
theorem ppk_succ {e : Int} {L : List Stp} {k : Nat} (hk : k < L.length) : ppk e L (k + 1) = ppk e L k ++ stb (L.getD k stp0) := by
  unfold ppk psb
  rw [List.take_add_one, List.getElem?_eq_getElem hk, Option.toList_some, List.flatMap_append, List.getD_eq_getElem?_getD, List.getElem?_eq_getElem hk, Option.getD_some, List.append_assoc, List.append_assoc, List.append_assoc]
  simp
theorem prok_at {e : Int} {L : List Stp} (h : prok (e, L) = true) {k : Nat} (hk : k < L.length) : stok (L.getD k stp0) = true :=
  (((pch_iff L 0 _).1 (prok_parts h).2.2.2).1 k hk).2
theorem ppk_len {e : Int} {L : List Stp} (h : prok (e, L) = true) : ∀ k, k ≤ L.length → (ppk e L k).length ≤ 20 + 740 * k
  | 0, _ => by
    unfold ppk psb
    rw [List.take_zero, List.flatMap_nil, List.append_nil, List.length_append, vz_length, vz_length]
    have := vsz_le e
    have := vsz_le L.length
    omega
  | k + 1, hk => by
    have ih := ppk_len h k (by omega)
    have := stb_len (prok_at h (show k < L.length by omega))
    rw [ppk_succ (by omega), List.length_append]
    omega
theorem prb_len {e : Int} {L : List Stp} (h : prok (e, L) = true) : (prb (e, L)).length ≤ 47380 := by
  rw [← ppk_end]
  have := ppk_len h L.length (Nat.le_refl _)
  have h2 := (prok_parts h).2.2.1
  replace h2 : L.length ≤ 64 := h2
  omega
set_option maxHeartbeats 4000000 in
theorem prput_yes {w : World} {B b : Nat} {r : Option Nat} {M : Int} (P : Nat → Prop) (e : Int) (A : Option Addr) (n m : Nat) (L : List Stp) (hok : prok (e, L) = true) (h : Wr w B b r [] M 0) (hz : Pts w P A n L) (hlen : plen 1000000 L)
    (hoff : ∀ b', P b' → b' < B) (hM : 47380 ≤ M) (hBw : B ≤ w.heap.size) :
    Calls Tryz.prog 48 #[.pointer (some ⟨b, 0, none⟩), pragg e A n m] w (PRPost B b r (prb (e, L)) M w) := by
  have hX := Blk.new w (prc e A n m) 30
  have hb := below_one w (.cells (prc e A n m) 30)
  obtain ⟨k1, k2, k3, _⟩ := prok_parts hok
  replace k2 : 1 ≤ n := by rw [← hz.1]; exact k2
  replace k3 : n ≤ 64 := by rw [← hz.1]; exact k3
  have HL := Lib.hid hz.1
  have hep := epk_bd k1
  replace hep : 1 ≤ e ∧ e ≤ 4611686018427387903 := hep
  have hrcon := prright_any P e A n m L _ (hz.below hb) (by omega) hlen
  rw [hok] at hrcon
  unfold BPost at hrcon
  obtain ⟨g, o, rfl, hPg, hg, _⟩ := hz.cells (by omega)
  have HC := Lib.hid (fun k (hk : k < n) => hz.ks_cells (S0 := WS b r) (fun b' h1 => h.off_lt (hoff b' h1)) hk)
  have HE : Hid (ppk e L n = prb (e, L)) := Lib.hid (by rw [← hz.1]; exact ppk_end e L)
  have HSU := Lib.hid (fun k (hk : k < L.length) => ppk_succ (e := e) hk)
  have HLE := Lib.hid (fun k (hk : k ≤ L.length) => ppk_len hok k hk)
  have H0 : Hid (ppk e L 0 = vz e ++ vz n) := Lib.hid (by unfold ppk psb; rw [hz.1]; simp)
  have HOK := Lib.hid (fun k (hk : k < L.length) => prok_at hok hk)
  have HLN := Lib.hid (fun k => hlen.at_ k)
  have HOFF := Lib.hid hoff
  have hXo := h.off (Nat.le_refl _)
  have hks0 : Ks (WS b r) w (w.alloc (.cells (prc e (some ⟨g, o, none⟩) n m) 30)) := Ks.of_below hb
  have h1 := h.below hb
  generalize prb (e, L) = ST at *
  generalize ppk e L = sk at *
  have e2 : IntKind.u64.wrap (n : Int) = n := IntWalk.u64_in _ (by omega)
  clear hok hz hoff k1 h hb hlen
  obtain ⟨x0, x1⟩ := hX.c2
  go_enter Tryz.func48, Tryz.ntmps48
  go_wp2_with fail
  refine hrcon.mono ?_
  rintro en w1 ⟨rfl, hb1⟩
  replace hX := hX.below hb1
  have hks1 := hks0.trans (Ks.of_below hb1)
  replace h1 := h1.below hb1
  clear hrcon hb1 hks0 x0 x1
  obtain ⟨x0, x1⟩ := hX.c2
  have hB2 := Nat.le_trans hBw hks1.size
  have hX2l := hX.lt
  have v1 := vsz_le e
  have v2 := vsz_le (n : Int)
  go_wp2_with fail
  refine (eput_any e h1 (by omega) (by omega) (by simp) hB2).mono ?_
  rintro en w3 (⟨_, r3, rfl, hk3, hg3, hw3⟩ | ⟨hf, _⟩)
  case inr => exact absurd hf (by have : epk e = true := epk_yes hep.1 hep.2; rw [this]; simp)
  have hfit := putZ_fits (z := []) (y := vz e) (M := M) (by rw [vz_length]; simp; omega)
  rw [hfit.1, hfit.2, List.nil_append] at hw3
  replace hX := hX.ks hk3 hXo
  have hks3 := Ks.wr hks1 (Gr.refl _ _) hk3
  have hgr3 : Gr r r3 w := (Gr.refl _ _).trans hg3 hks1.size
  have hXo3 : ¬ WS b r3 w.heap.size := fun hs => by
    rcases hs with e | e
    · exact hXo (.inl e)
    · rcases hg3 with e2 | ⟨g', e2, hg'⟩
      · exact hXo (.inr (by rw [← e2]; exact e))
      · rw [e2] at e; injection e with e; omega
  clear hfit hk3 h1 hg3 hks1 x0 x1
  obtain ⟨x0, x1⟩ := hX.c2
  have hB3 := Nat.le_trans hBw hks3.size
  go_wp2_with fail
  refine (vput_any _ hw3 (by omega) (by omega) (by rw [vz_length]; omega) hB3).mono ?_
  rintro en w4 ⟨r4, rfl, hk4, hg4, hw4⟩
  have hfit := putZ_fits (z := vz e) (y := vz n) (M := M) (by rw [vz_length, vz_length]; omega)
  rw [hfit.1, hfit.2, ← H0.out] at hw4
  replace hX := hX.ks hk4 hXo3
  have hks4 := Ks.wr hks3 hgr3 hk4
  have hgr4 : Gr r r4 w := hgr3.trans hg4 hks3.size
  clear hfit hk4 hw3 hg4 hks3 hgr3 x0 x1 v1 v2 hXo3 hX2l
  obtain ⟨x0, x1⟩ := hX.c2
  go_wp2
  clear x0 x1 hX hXo
  go_loopw [24] (fun i wr => ∃ (k : Nat) (r' : Option Nat), k ≤ n ∧ i = .int .i64 k ∧ Ks (WS b r) w wr ∧ Gr r r' w ∧ Wr wr B b r' (sk k) M 0) (fun i _ => n - (intOf i).toNat)
  case atStart => exact ⟨0, r4, by omega, rfl, hks4, hgr4, hw4⟩
  case round =>
    clear hks4 hgr4 hw4
    obtain ⟨k, r', hk, rfl, hks, hgr, hw⟩ := hrel
    by_cases hlt : k < n
    · obtain ⟨f, t, S, a, l, mm, he, ⟨f0, _⟩, _, hl, hlm, han, hcell⟩ := HC.out k hlt
      obtain ⟨⟨c0, c1, c2⟩, hst⟩ := hcell wr hks
      have hkL : k < L.length := by rw [HL.out]; exact hlt
      have hokk := HOK.out k hkL
      have hsu := HSU.out k hkL
      have hle0 := HLE.out k (by omega)
      rw [he] at hokk hsu
      have HSN := Lib.hid hsu
      have hX := below_one wr (.cells (stc f t a l mm) 128)
      have hwX := hw.below hX
      have hstX := hst.below hX
      have hksX := hks.trans (Ks.of_below hX)
      have hlen2 := stb_len hokk
      have e4 : (k : Int) < n := by omega
      have e5 : IntKind.i64.wrap ((k : Int) + 1) = ((k + 1 : Nat) : Int) := IntWalk.i64_in _ (by omega)
      have hBX := Nat.le_trans hBw hksX.size
      have hpc := stput_yes P f t a l mm S hokk f0 hwX hstX hlm (fun b' h1 _ => hwX.off_lt (HOFF.out b' h1)) (by omega) (by omega) hBX
      have x0 := (Blk.new wr (stc f t a l mm) 128).c3
      obtain ⟨x0, x1, x2⟩ := x0
      clear hcell hsu hle0 hst hstX hX hokk hlen2 hl han
      go_wp2_with fail
      refine hpc.mono ?_
      rintro en w5 ⟨r5, rfl, hk5, hg5, hw5⟩
      rw [← HSN.out] at hw5
      have hks5 := Ks.wr hksX hgr hk5
      have hgr5 : Gr r r5 w := hgr.trans hg5 hksX.size
      clear hpc hk5 hg5 hksX hgr hw hwX hks c0 c1 c2 x0 x1 x2
      go_wp2
      go_roundw
      case rel => exact ⟨k + 1, r5, by omega, by go_num, hks5, hgr5, hw5⟩
      case measure => simp [intOf]; omega
    · obtain rfl : k = n := by omega
      rw [HE.out] at hw
      go_wp2
      go_end0
      exact ⟨r', rfl, hks, hgr, hw⟩
end Go.Proofs.YtmiimjgfainclaaGreat.Cur
namespace Go.Proofs.YtmiimjgfainclaaGreat.Cur
open Go.RowKit Mem
set_option linter.unusedVariables false
set_option maxRecDepth 100000
set_option maxHeartbeats 4000000 in
theorem pequalf_any (P Q : Nat → Prop) (A B : Option Addr) (n m c d : Nat) (L M : List Stp) (w : World) (ha : Pts w P A n L) (hb : Pts w Q B m M) (hn : n ≤ 1000000) (hm : m ≤ 1000000) (h1 : plen 1000000 L) (h2 : plen 1000000 M) :
    Calls Tryz.prog 112 #[.slice A n c, .slice B m d, .func (.func 113) #[] #[]] w (BPost (.bool (decide (L = M))) w) := by
  unfold BPost
  have HL := Lib.hid ha.1
  have HL2 := Lib.hid hb.1
  have HN1 := Lib.hid (fun k => h1.at_ k)
  have HN2 := Lib.hid (fun k => h2.at_ k)
  have HC := Lib.hid (fun h => ha.cells h)
  have HC2 := Lib.hid (fun h => hb.cells h)
  have HYES := Lib.hid (lq_yes (d := stp0) (x := L) (y := M))
  have HLEN := Lib.hid (lq_len (x := L) (y := M))
  have HNO := Lib.hid (fun i => lq_at (d := stp0) (x := L) (y := M) i)
  generalize decide (L = M) = r at *
  clear ha hb h1 h2
  by_cases hnm : n = m
  case neg =>
    have hb2 : ((n : Int) != (m : Int)) = true := by simp; omega
    have HR := Lib.hid (HLEN.out (by rw [HL.out, HL2.out]; exact hnm))
    go_enter Tryz.func112, Tryz.ntmps112
    go_wp2
    go_ret
    exact ⟨by rw [HR.out]; rfl, Below.refl _ _⟩
  subst hnm
  have hb2 : ((n : Int) != (n : Int)) = false := by simp
  go_enter Tryz.func112, Tryz.ntmps112
  go_wp2
  go_loopw [17] (fun i wr => ∃ k : Nat, k ≤ n ∧ i = .int .i64 k ∧ Hid (∀ j, j < k → L.getD j stp0 = M.getD j stp0) ∧ Below w.heap.size w wr) (fun i _ => n - (intOf i).toNat)
  case atStart => exact ⟨0, by omega, rfl, Lib.hid (by intro j hj; omega), Below.refl _ _⟩
  case round =>
    obtain ⟨k, hk, rfl, hj, hb⟩ := hrel
    by_cases hlt : k < n
    · obtain ⟨g, o, rfl, _, hg, hc⟩ := HC.out (by omega)
      obtain ⟨g', o', rfl, _, hg', hc'⟩ := HC2.out (by omega)
      obtain ⟨f, t, S, a1, l1, m1, he1, _, _, hl1, _, _, hst1, hcell1⟩ := hc k hlt
      obtain ⟨f2, t2, S2, a2, l2, m2, he2, _, _, hl2, _, _, hst2, hcell2⟩ := hc' k hlt
      have hp1 := HN1.out k
      have hp2 := HN2.out k
      have HNK := Lib.hid (HNO.out k)
      have HEQ : Hid ((f, t, S) = (f2, t2, S2) → L.getD k stp0 = M.getD k stp0) := Lib.hid (by rw [he1, he2]; exact id)
      rw [he1, he2] at HNK
      rw [he1] at hp1
      rw [he2] at hp2
      obtain ⟨p1, p1l⟩ := hp1
      obtain ⟨p2, p2l⟩ := hp2
      dsimp only at p1 p1l p2 p2l
      rw [hl1] at p1
      rw [hl2] at p2
      have ek : (k : Int) < n := by omega
      have e3 : IntKind.i64.wrap ((k : Int) + 1) = ((k + 1 : Nat) : Int) := IntWalk.i64_in _ (by omega)
      have hbA := hb.trans ((below_one wr (.cells (stc f t a1 l1 m1) 128)).mono hb.size)
      have hbX := hb.trans ((below_two wr (.cells (stc f t a1 l1 m1) 128) (.cells (stc f2 t2 a2 l2 m2) 128)).mono hb.size)
      have hX := (Blk.new wr (stc f t a1 l1 m1) 128).alloc (.cells (stc f2 t2 a2 l2 m2) 128)
      have hY := Blk.new (wr.alloc (.cells (stc f t a1 l1 m1) 128)) (stc f2 t2 a2 l2 m2) 128
      rw [show (wr.alloc (.cells (stc f t a1 l1 m1) 128)).heap.size = wr.heap.size + 1 by simp] at hY
      obtain ⟨c0, c1, c2⟩ := hcell1 wr hb
      obtain ⟨d0, d1, d2⟩ := hcell2 _ hbA
      obtain ⟨x0, x1, x2⟩ := hX.c3
      obtain ⟨y0, y1, y2⟩ := hY.c3
      have hcon := stsame_any P Q f t a1 l1 m1 S f2 t2 a2 l2 m2 S2 _ (hst1.below hbX) (hst2.below hbX) p1 p2 p1l p2l
      have HDEC : Hid (decide ((f, t, S) = (f2, t2, S2)) = true ↔ (f, t, S) = (f2, t2, S2)) := Lib.hid decide_eq_true_iff
      unfold BPost at hcon
      generalize decide ((f, t, S) = (f2, t2, S2)) = dv at *
      clear hc hc' hst1 hst2 hl1 hl2 hcell1 hcell2 he1 he2 p1l p2l p1 p2 hX hY hb hbA
      go_wp2_with fail
      refine hcon.mono ?_
      rintro e w1 ⟨rfl, hb1⟩
      have hbd := hbX.trans (hb1.mono hbX.size)
      clear hcon c0 c1 c2 d0 d1 d2 x0 x1 x2 y0 y1 y2 hbX hb1
      cases dv
      · have HR := Lib.hid (HNK.out (fun e => by have := HDEC.out.2 e; cases this))
        go_wp2
        go_ret
        exact ⟨by rw [HR.out]; rfl, hbd⟩
      · have HE := Lib.hid (HEQ.out (HDEC.out.1 rfl))
        go_wp2
        go_roundw
        case rel => exact ⟨k + 1, by omega, by go_num, Lib.hid (fun j hjk => by
          rcases Nat.lt_or_ge j k with h | h
          · exact hj.out j h
          · obtain rfl : j = k := by omega
            exact HE.out), hbd⟩
        case measure => simp [intOf]; omega
    · obtain rfl : k = n := by omega
      go_wp2
      go_ret
      exact ⟨by rw [HYES.out (by rw [HL.out, HL2.out]) (fun i hi => hj.out i (by rw [HL.out] at hi; exact hi))]; rfl, hb⟩
theorem prj_dec (e : Int) (L : List Stp) (e2 : Int) (M : List Stp) : decide ((e, L) = (e2, M)) = (decide (e = e2) && decide (L = M)) := by
  simp only [Prod.mk.injEq, Bool.decide_and]
set_option maxHeartbeats 2000000 in
theorem prsame_any (P Q : Nat → Prop) (e : Int) (A : Option Addr) (n c : Nat) (L : List Stp) (e2 : Int) (B : Option Addr) (m d : Nat) (M : List Stp) (w : World) (ha : Pts w P A n L) (hb : Pts w Q B m M) (hn : n ≤ 1000000) (hm : m ≤ 1000000) (h1 : plen 1000000 L) (h2 : plen 1000000 M) :
    Calls Tryz.prog 57 #[pragg e A n c, pragg e2 B m d] w (BPost (.bool (decide ((e, L) = (e2, M)))) w) := by
  have hX := (Blk.new w (prc e A n c) 30).alloc (.cells (prc e2 B m d) 30)
  have hY := Blk.new (w.alloc (.cells (prc e A n c) 30)) (prc e2 B m d) 30
  rw [show (w.alloc (.cells (prc e A n c) 30)).heap.size = w.heap.size + 1 by simp] at hY
  have hbd := below_two w (.cells (prc e A n c) 30) (.cells (prc e2 B m d) 30)
  unfold BPost
  have HV : Hid (decide ((e, L) = (e2, M)) = (decide (e = e2) && decide (L = M))) := Lib.hid (prj_dec _ _ _ _)
  generalize decide ((e, L) = (e2, M)) = V at *
  obtain ⟨x0, x1⟩ := hX.c2
  obtain ⟨y0, y1⟩ := hY.c2
  have hcon := pequalf_any P Q A B n m c d L M _ (ha.below hbd) (hb.below hbd) hn hm h1 h2
  unfold BPost at hcon
  generalize decide (L = M) = sv at *
  clear ha hb h1 h2 hX hY
  by_cases hf : e = e2
  · have hfb : (e == e2) = true := by simpa using hf
    rw [decide_eq_true hf] at HV
    clear hf
    go_enter Tryz.func57, Tryz.ntmps57
    go_wp2_with fail
    refine hcon.mono ?_
    rintro e w1 ⟨rfl, hb1⟩
    have HB := Lib.hid (hbd.trans (hb1.mono hbd.size))
    clear hcon hb1
    go_wp2
    go_ret
    exact ⟨by rw [HV.out]; rfl, HB.out⟩
  · have hfb : (e == e2) = false := by simpa using hf
    rw [decide_eq_false hf] at HV
    clear hf hcon
    go_enter Tryz.func57, Tryz.ntmps57
    go_wp2
    go_ret
    exact ⟨by rw [HV.out]; rfl, hbd⟩
def RpsS (W : Nat) (x y : Array Value) (g : Nat) (o : Nat) (f t : Int) (v : Value) (g' : Nat) (o' : Nat) (f2 t2 : Int) (v' : Value) (w : World) : Prop :=
  Blk w W x 30 ∧ Blk w (W + 1) y 30 ∧ (w.cell? ⟨g, o, none⟩ = some (.int .u64 f) ∧ w.cell? ⟨g, o + 1, none⟩ = some (.int .u64 t) ∧ w.cell? ⟨g, o + 2, none⟩ = some v) ∧
    w.cell? ⟨g', o', none⟩ = some (.int .u64 f2) ∧ w.cell? ⟨g', o' + 1, none⟩ = some (.int .u64 t2) ∧ w.cell? ⟨g', o' + 2, none⟩ = some v'
theorem RpsS.below {W : Nat} {x y : Array Value} {g : Nat} {o : Nat} {f t : Int} {v : Value} {g' : Nat} {o' : Nat} {f2 t2 : Int} {v' : Value} {w w' : World} (h : RpsS W x y g o f t v g' o' f2 t2 v' w) (hb : Below w.heap.size w w') : RpsS W x y g o f t v g' o' f2 t2 v' w' := by
  obtain ⟨h1, h2, ⟨h3, h4, h5⟩, h6, h7, h8⟩ := h
  exact ⟨h1.below hb, h2.below hb, ⟨(hb.cell (lt_of_cell h3)).trans h3, (hb.cell (lt_of_cell h4)).trans h4, (hb.cell (lt_of_cell h5)).trans h5⟩, (hb.cell (lt_of_cell h6)).trans h6, (hb.cell (lt_of_cell h7)).trans h7, (hb.cell (lt_of_cell h8)).trans h8⟩
set_option maxHeartbeats 4000000 in
theorem rprsame_any (P Q : Nat → Prop) (e : Int) (A : Option Addr) (n c : Nat) (L : List Stp) (e2 : Int) (B : Option Addr) (m d : Nat) (M : List Stp) (w : World) (ha : Pts w P A n L) (hb : Pts w Q B m M) (hn : n ≤ 1000000) (hm : m ≤ 1000000) (h1 : plen 1000000 L) (h2 : plen 1000000 M) :
    Calls Tryz.prog 72 #[pragg e A n c, pragg e2 B m d] w (BPost (.bool (decide ((e, L) = (e2, M)))) w) := by
  have hX := (Blk.new w (prc e A n c) 30).alloc (.cells (prc e2 B m d) 30)
  have hY := Blk.new (w.alloc (.cells (prc e A n c) 30)) (prc e2 B m d) 30
  rw [show (w.alloc (.cells (prc e A n c) 30)).heap.size = w.heap.size + 1 by simp] at hY
  have hbd := below_two w (.cells (prc e A n c) 30) (.cells (prc e2 B m d) 30)
  unfold BPost
  have HV : Hid (decide ((e, L) = (e2, M)) = (decide (e = e2) && decide (L = M))) := Lib.hid (prj_dec _ _ _ _)
  generalize decide ((e, L) = (e2, M)) = V at *
  obtain ⟨x0, x1⟩ := hX.c2
  obtain ⟨y0, y1⟩ := hY.c2
  by_cases hf : e = e2
  case neg =>
    have hfb : (e != e2) = true := by simpa using hf
    rw [decide_eq_false hf] at HV
    clear hf ha hb h1 h2 hX hY
    go_enter Tryz.func72, Tryz.ntmps72
    go_wp2
    go_ret
    exact ⟨by rw [HV.out]; rfl, hbd⟩
  have hfb : (e != e2) = false := by simpa using hf
  rw [decide_eq_true hf] at HV
  clear hf
  have HL := Lib.hid ha.1
  have HL2 := Lib.hid hb.1
  have HN1 := Lib.hid (fun k => h1.at_ k)
  have HN2 := Lib.hid (fun k => h2.at_ k)
  have HC := Lib.hid (fun h => (ha.below hbd).cells h)
  have HC2 := Lib.hid (fun h => (hb.below hbd).cells h)
  have HYES := Lib.hid (lq_yes (d := stp0) (x := L) (y := M))
  have HLEN := Lib.hid (lq_len (x := L) (y := M))
  have HNO := Lib.hid (fun i => lq_at (d := stp0) (x := L) (y := M) i)
  have HVV : Hid (V = decide (L = M)) := Lib.hid (by rw [HV.out]; simp)
  generalize decide (L = M) = r at *
  obtain rfl := HVV.out
  clear ha hb h1 h2 HV HVV
  by_cases hnm : n = m
  case neg =>
    have hb2 : ((n : Int) != (m : Int)) = true := by simp; omega
    have HR := Lib.hid (HLEN.out (by rw [HL.out, HL2.out]; exact hnm))
    clear hX hY
    go_enter Tryz.func72, Tryz.ntmps72
    go_wp2
    go_ret
    exact ⟨by rw [HR.out]; rfl, hbd⟩
  subst hnm
  have hb2 : ((n : Int) != (n : Int)) = false := by simp
  have HX := Lib.hid hX
  have HY := Lib.hid hY
  clear hX hY
  go_enter Tryz.func72, Tryz.ntmps72
  go_wp2
  clear x0 x1 y0 y1
  generalize (w.alloc (.cells (prc e A n c) 30)).alloc (.cells (prc e2 B n d) 30) = w0 at *
  go_loopw [5] (fun i wr => ∃ k : Nat, k ≤ n ∧ i = .int .i64 k ∧ Hid (∀ j, j < k → L.getD j stp0 = M.getD j stp0) ∧ Below w0.heap.size w0 wr) (fun i _ => n - (intOf i).toNat)
  case atStart => exact ⟨0, by omega, rfl, Lib.hid (by intro j hj; omega), Below.refl _ _⟩
  case round =>
    obtain ⟨k, hk, rfl, hj, hb⟩ := hrel
    obtain ⟨x0, x1⟩ := (HX.out.below hb).c2
    obtain ⟨y0, y1⟩ := (HY.out.below hb).c2
    by_cases hlt : k < n
    · obtain ⟨g, o, rfl, _, hg, hc⟩ := HC.out (by omega)
      obtain ⟨g', o', rfl, _, hg', hc'⟩ := HC2.out (by omega)
      obtain ⟨f, t, S, a1, l1, m1, he1, _, _, hl1, _, _, hst1, hcell1⟩ := hc k hlt
      obtain ⟨f2, t2, S2, a2, l2, m2, he2, _, _, hl2, _, _, hst2, hcell2⟩ := hc' k hlt
      have hp1 := HN1.out k
      have hp2 := HN2.out k
      have HNK := Lib.hid (HNO.out k)
      have HEQ : Hid ((f, t, S) = (f2, t2, S2) → L.getD k stp0 = M.getD k stp0) := Lib.hid (by rw [he1, he2]; exact id)
      rw [he1, he2] at HNK
      rw [he1] at hp1
      rw [he2] at hp2
      obtain ⟨p1, p1l⟩ := hp1
      obtain ⟨p2, p2l⟩ := hp2
      dsimp only at p1 p1l p2 p2l
      rw [hl1] at p1
      rw [hl2] at p2
      have ek : (k : Int) < n := by omega
      have e3 : IntKind.i64.wrap ((k : Int) + 1) = ((k + 1 : Nat) : Int) := IntWalk.i64_in _ (by omega)
      have hS : RpsS w.heap.size (prc e (some ⟨g, o, none⟩) n c) (prc e2 (some ⟨g', o', none⟩) n d) g (o + k * 3) f t (.slice a1 l1 m1) g' (o' + k * 3) f2 t2 (.slice a2 l2 m2) wr.drew := ⟨(HX.out.below hb).drew, (HY.out.below hb).drew, hcell1 wr hb, hcell2 wr hb⟩
      have L1 : ∀ w', RpsS w.heap.size (prc e (some ⟨g, o, none⟩) n c) (prc e2 (some ⟨g', o', none⟩) n d) g (o + k * 3) f t (.slice a1 l1 m1) g' (o' + k * 3) f2 t2 (.slice a2 l2 m2) w' → w'.cell? ⟨w.heap.size, 1, none⟩ = some (.slice (some ⟨g, o, none⟩) n c) := fun w' h => h.1.c2.2
      have L2 : ∀ w', RpsS w.heap.size (prc e (some ⟨g, o, none⟩) n c) (prc e2 (some ⟨g', o', none⟩) n d) g (o + k * 3) f t (.slice a1 l1 m1) g' (o' + k * 3) f2 t2 (.slice a2 l2 m2) w' → w'.cell? ⟨w.heap.size + 1, 1, none⟩ = some (.slice (some ⟨g', o', none⟩) n d) := fun w' h => h.2.1.c2.2
      have L3 : ∀ w', RpsS w.heap.size (prc e (some ⟨g, o, none⟩) n c) (prc e2 (some ⟨g', o', none⟩) n d) g (o + k * 3) f t (.slice a1 l1 m1) g' (o' + k * 3) f2 t2 (.slice a2 l2 m2) w' → (w'.cell? ⟨g, o + k * 3, none⟩ = some (.int .u64 f) ∧ w'.cell? ⟨g, o + k * 3 + 1, none⟩ = some (.int .u64 t) ∧ w'.cell? ⟨g, o + k * 3 + 2, none⟩ = some (.slice a1 l1 m1)) := fun w' h => h.2.2.1
      have L4 : ∀ w', RpsS w.heap.size (prc e (some ⟨g, o, none⟩) n c) (prc e2 (some ⟨g', o', none⟩) n d) g (o + k * 3) f t (.slice a1 l1 m1) g' (o' + k * 3) f2 t2 (.slice a2 l2 m2) w' → (w'.cell? ⟨g', o' + k * 3, none⟩ = some (.int .u64 f2) ∧ w'.cell? ⟨g', o' + k * 3 + 1, none⟩ = some (.int .u64 t2) ∧ w'.cell? ⟨g', o' + k * 3 + 2, none⟩ = some (.slice a2 l2 m2)) := fun w' h => h.2.2.2
      have hbw : Below w0.heap.size w0 wr.drew := hb.trans ((below_one' _).mono hb.size)
      have HDEC : Hid (decide ((f, t, S) = (f2, t2, S2)) = true ↔ (f, t, S) = (f2, t2, S2)) := Lib.hid decide_eq_true_iff
      have hcon := fun w' (h : Below w0.heap.size w0 w') => rstsame_any P Q f t a1 l1 m1 S f2 t2 a2 l2 m2 S2 w' (hst1.below h) (hst2.below h) p1 p2 p1l p2l
      unfold BPost at hcon
      generalize decide ((f, t, S) = (f2, t2, S2)) = dv at *
      have HCON := Lib.hid (hcon _ hbw)
      clear hc hc' hst1 hst2 hl1 hl2 hcell1 hcell2 he1 he2 p1l p2l p1 p2 hcon
      go_wp2
      clear x0 x1 y0 y1
      refine Seq.wp_region_seq (RpsS w.heap.size (prc e (some ⟨g, o, none⟩) n c) (prc e2 (some ⟨g', o', none⟩) n d) g (o + k * 3) f t (.slice a1 l1 m1) g' (o' + k * 3) f2 t2 (.slice a2 l2 m2)) (by kernel_rfl) (by kernel_rfl) hS ?_
      repeat (first | (refine Seq.Seq.skip (by rfl) ?_; (try simp only [Act.put, List.setIfInBounds_toArray, List.set_cons_zero, List.set_cons_succ])) | (refine Seq.Seq.det ?_ (by rfl) (fun w hS => ?_) ?_; rotate_left; ((try dsimp only at hS); go_simp; (try rw [if_pos (by omega)]); with_reducible rfl); (try simp only [Act.put, List.setIfInBounds_toArray, List.set_cons_zero, List.set_cons_succ])))
      refine Seq.Seq.make (by rfl) (by rfl) (fun K Q' hK => ?_)
      go_simp
      go_at_call 123
      refine HCON.out.mono ?_
      rintro e w1 ⟨rfl, hb1⟩
      replace hS := hS.below hb1
      refine hK.out _ _ (hS) ?_
      clear hK K
      try simp only [Act.put, List.setIfInBounds_toArray, List.set_cons_zero, List.set_cons_succ]
      repeat (first | (refine Seq.Seq.skip (by rfl) ?_; (try simp only [Act.put, List.setIfInBounds_toArray, List.set_cons_zero, List.set_cons_succ])) | (refine Seq.Seq.det ?_ (by rfl) (fun w hS => ?_) ?_; rotate_left; ((try dsimp only at hS); go_simp; (try rw [if_pos (by omega)]); with_reducible rfl); (try simp only [Act.put, List.setIfInBounds_toArray, List.set_cons_zero, List.set_cons_succ])))
      refine Seq.Seq.nil ?_
      have hbx := hbw.trans (hb1.mono hbw.size)
      clear hb hb1 hbw hS L1 L2 L3 L4 HCON
      cases dv
      · have HR := Lib.hid (HNK.out (fun e => by have := HDEC.out.2 e; cases this))
        go_wp2
        go_ret
        exact ⟨by rw [HR.out]; rfl, hbd.trans (hbx.mono hbd.size)⟩
      · have HE := Lib.hid (HEQ.out (HDEC.out.1 rfl))
        go_wp2
        go_roundw
        case rel => exact ⟨k + 1, by omega, by go_num, Lib.hid (fun j hjk => by
          rcases Nat.lt_or_ge j k with h | h
          · exact hj.out j h
          · obtain rfl : j = k := by omega
            exact HE.out), hbx⟩
        case measure => simp [intOf]; omega
    · obtain rfl : k = n := by omega
      go_wp2
      go_ret
      exact ⟨by rw [HYES.out (by rw [HL.out, HL2.out]) (fun i hi => hj.out i (by rw [HL.out] at hi; exact hi))]; rfl, hbd.trans (hb.mono hbd.size)⟩
end Go.Proofs.YtmiimjgfainclaaGreat.Cur
namespace Go.Proofs.YtmiimjgfainclaaGreat.Cur
open Go.RowKit Mem
set_option linter.unusedVariables false
set_option linter.unusedSimpArgs false
set_option maxRecDepth 100000
def RpB (x : Nat) (u : Array Value) (w0 w : World) : Prop := Blk w x u 30 ∧ Below w0.heap.size w0 w
set_option maxHeartbeats 4000000 in
theorem rprbytes_any (P : Nat → Prop) (e : Int) (A : Option Addr) (n m : Nat) (L : List Stp) (w : World) (hok : prok (e, L) = true) (hz : Pts w P A n L) :
    Calls Tryz.prog 82 #[pragg e A n m] w (RowPost (prb (e, L)) w) := by
  have hX := Blk.new w (prc e A n m) 30
  have hb := below_one w (.cells (prc e A n m) 30)
  have hw0 : (w.alloc (.cells (prc e A n m) 30)).heap.size = w.heap.size + 1 := by simp
  obtain ⟨k1, k2, k3, _⟩ := prok_parts hok
  replace k2 : 1 ≤ n := by rw [← hz.1]; exact k2
  replace k3 : n ≤ 64 := by rw [← hz.1]; exact k3
  have HL := Lib.hid hz.1
  have hep := epk_bd k1
  replace hep : 1 ≤ e ∧ e ≤ 4611686018427387903 := hep
  obtain ⟨g, o, rfl, _, _, hjk⟩ := hz.cells (by omega)
  clear hjk
  have HC := Lib.hid ((hz.below hb).cells (by omega))
  have HE : Hid (ppk e L n = prb (e, L)) := Lib.hid (by rw [← hz.1]; exact ppk_end e L)
  have HSU := Lib.hid (fun k (hk : k < L.length) => ppk_succ (e := e) hk)
  have HLE := Lib.hid (fun k (hk : k ≤ L.length) => ppk_len hok k hk)
  have H0 : Hid (ppk e L 0 = vz e ++ vz n) := Lib.hid (by unfold ppk psb; rw [hz.1]; simp)
  have HOK := Lib.hid (fun k (hk : k < L.length) => prok_at hok hk)
  generalize prb (e, L) = ST at *
  generalize ppk e L = sk at *
  have e2 : IntKind.u8.wrap (n : Int) = n := IntWalk.u8_in _ (by omega)
  have HVN : Hid (vz (n : Int) = [(n : Int)]) := Lib.hid (vz_lt _ (by omega))
  clear hok hz k1
  obtain ⟨x0, x1⟩ := hX.c2
  have HB := Lib.hid hb
  go_enter Tryz.func82, Tryz.ntmps82
  go_wp2
  clear x0 x1
  generalize w.alloc (.cells (prc e (some ⟨g, o, none⟩) n m) 30) = w0 at *
  have hS : RpB w.heap.size (prc e (some ⟨g, o, none⟩) n m) w0 w0.drew := ⟨hX.drew, below_one' _⟩
  have L1 : ∀ w', RpB w.heap.size (prc e (some ⟨g, o, none⟩) n m) w0 w' → w'.cell? ⟨w.heap.size, 0, none⟩ = some (.int .u64 e) ∧ w'.cell? ⟨w.heap.size, 1, none⟩ = some (.slice (some ⟨g, o, none⟩) n m) := fun w' h => h.1.c2
  have HN := Lib.hid (vz_length e)
  have HV1 := Lib.hid (vsz_le e)
  go_cut [3] from 5 to 13 (fun v3 wx => Own wx w0.heap.size v3 (sk 0) ∧ Below w0.heap.size w0 wx)
  case first =>
    refine Seq.wp_region_pair (fun o => o.dst == some 7) 2 7 (RpB w.heap.size (prc e (some ⟨g, o, none⟩) n m) w0) (by kernel_rfl) (by kernel_rfl) hS ?_
    generalize w0.drew = wd at *
    repeat (first | (refine Seq.SeqX.skip (by rfl) (by rfl) ?_; (try simp only [Act.put, List.setIfInBounds_toArray, List.set_cons_zero, List.set_cons_succ])) | (refine Seq.SeqX.det ?_ (by rfl) (by rfl) (fun w hS => ?_) ?_; rotate_left; ((try dsimp only at hS); go_simp; (try rw [if_pos (by omega)]); with_reducible rfl); (try simp only [Act.put, List.setIfInBounds_toArray, List.set_cons_zero, List.set_cons_succ])))
    refine Seq.SeqX.pair (by rfl) (by rfl) (by rfl) (fun K Q' hK => ?_) ?_
    · go_simp
      go_at_call 77
      refine (rbytes_any 10 _ _ (vsz_le _) (by omega) (by omega)).mono ?_
      rintro en w1 ⟨A1, m1, rfl, hb1, _, _, _, ho1⟩
      have hb2 := hS.2.trans (hb1.mono hS.2.size)
      replace ho1 := ho1.base (B' := w0.heap.size) (fun g hg => by have := ho1.ge g hg; have := hS.2.size; omega)
      clear hb1 hS
      refine hK.out _ _ (⟨hX.below hb2, hb2⟩) ?_
      clear hK K
      try simp only [Act.put, List.setIfInBounds_toArray, List.set_cons_zero, List.set_cons_succ]
      repeat (first | (refine Seq.Seq.skip (by rfl) ?_; (try simp only [Act.put, List.setIfInBounds_toArray, List.set_cons_zero, List.set_cons_succ])) | (refine Seq.Seq.det ?_ (by rfl) (fun w hS => ?_) ?_; rotate_left; ((try dsimp only at hS); go_simp; (try rw [if_pos (by omega)]); with_reducible rfl); (try simp only [Act.put, List.setIfInBounds_toArray, List.set_cons_zero, List.set_cons_succ])))
      refine Seq.Seq.make (by rfl) (by rfl) (fun K Q' hK => ?_)
      go_simp
      have hA := below_one w1 (.cells #[.int .u8 (n : Int)] 5)
      have hbA := hb2.trans (hA.mono hb2.size)
      have hoA := ho1.below hA
      have hbsA := (Own.built w1 (n : Int)).bs.2
      have hBA := hbA.size
      have hLA : (vz e).length + [(n : Int)].length ≤ 1000000 := by rw [HN.out]; have := HV1.out; simp; omega
      clear hA ho1
      refine hK.out _ _ (⟨hX.below hbA, hbA⟩) ?_
      clear hK K
      try simp only [Act.put, List.setIfInBounds_toArray, List.set_cons_zero, List.set_cons_succ]
      refine Seq.Seq.make (by rfl) (by rfl) (fun K Q' hK => ?_)
      refine oper_append_gr (.tmp 7) (.tmp 12) rfl w0.heap.size _ _ rfl hoA _ 1 1 [(n : Int)] rfl hbsA (by simp) hLA hBA ?_
      intro v2 w2 ho2 hg2 hgr2
      have hb3 := Own.belowOf hbA hBA hoA hg2
      clear hoA hbA hbsA hBA hLA hg2 hgr2
      refine hK.out _ _ (⟨hX.below hb3, hb3⟩) ?_
      clear hK K
      try simp only [Act.put, List.setIfInBounds_toArray, List.set_cons_zero, List.set_cons_succ]
      repeat (first | (refine Seq.Seq.skip (by rfl) ?_; (try simp only [Act.put, List.setIfInBounds_toArray, List.set_cons_zero, List.set_cons_succ])) | (refine Seq.Seq.det ?_ (by rfl) (fun w hS => ?_) ?_; rotate_left; ((try dsimp only at hS); go_simp; (try rw [if_pos (by omega)]); with_reducible rfl); (try simp only [Act.put, List.setIfInBounds_toArray, List.set_cons_zero, List.set_cons_succ])))
      refine Seq.Seq.nil ?_
      rw [← HVN.out, ← H0.out] at ho2
      clear L1 hb2
      go_wp2
      go_meet
      case rel => exact ⟨ho2, hb3⟩
    · simp only [Seq.swp, Seq.making, Bool.false_eq_true, if_false, if_true, reduceIte]
      repeat (first | (refine Seq.Seq.skip (by rfl) ?_; (try simp only [Act.put, List.setIfInBounds_toArray, List.set_cons_zero, List.set_cons_succ])) | (refine Seq.Seq.det ?_ (by rfl) (fun w hS => ?_) ?_; rotate_left; ((try dsimp only at hS); go_simp; (try rw [if_pos (by omega)]); with_reducible rfl); (try simp only [Act.put, List.setIfInBounds_toArray, List.set_cons_zero, List.set_cons_succ])))
      refine Seq.Seq.make (by rfl) (by rfl) (fun K Q' hK => ?_)
      go_simp
      have hA := below_one wd (.cells #[.int .u8 (n : Int)] 5)
      have hbA := hS.2.trans (hA.mono hS.2.size)
      have hbsA := (Own.built wd (n : Int)).bs.2
      clear hS
      refine hK.out _ _ (⟨hX.below hbA, hbA⟩) ?_
      clear hK K
      try simp only [Act.put, List.setIfInBounds_toArray, List.set_cons_zero, List.set_cons_succ]
      repeat (first | (refine Seq.Seq.skip (by rfl) ?_; (try simp only [Act.put, List.setIfInBounds_toArray, List.set_cons_zero, List.set_cons_succ])) | (refine Seq.Seq.det ?_ (by rfl) (fun w hS => ?_) ?_; rotate_left; ((try dsimp only at hS); go_simp; (try rw [if_pos (by omega)]); with_reducible rfl); (try simp only [Act.put, List.setIfInBounds_toArray, List.set_cons_zero, List.set_cons_succ])))
      refine Seq.Seq.make (by rfl) (by rfl) (fun K Q' hK => ?_)
      go_simp
      go_at_call 77
      refine (rbytes_any 10 _ _ (vsz_le _) (by omega) (by omega)).mono ?_
      rintro en w1 ⟨A1, m1, rfl, hb1, _, _, _, ho1⟩
      have hbs1 := hbsA.below hb1
      have hb2 := hbA.trans (hb1.mono hbA.size)
      replace ho1 := ho1.base (B' := w0.heap.size) (fun g hg => by have := ho1.ge g hg; have := hbA.size; omega)
      have hBA := hb2.size
      have hLA : (vz e).length + [(n : Int)].length ≤ 1000000 := by rw [HN.out]; have := HV1.out; simp; omega
      clear hb1 hbA hbsA hA
      refine hK.out _ _ (⟨hX.below hb2, hb2⟩) ?_
      clear hK K
      try simp only [Act.put, List.setIfInBounds_toArray, List.set_cons_zero, List.set_cons_succ]
      refine Seq.Seq.make (by rfl) (by rfl) (fun K Q' hK => ?_)
      refine oper_append_gr (.tmp 7) (.tmp 12) rfl w0.heap.size _ _ rfl ho1 _ 1 1 [(n : Int)] rfl hbs1 (by simp) hLA hBA ?_
      intro v2 w2 ho2 hg2 hgr2
      have hb3 := Own.belowOf hb2 hBA ho1 hg2
      clear ho1 hb2 hbs1 hBA hLA hg2 hgr2
      refine hK.out _ _ (⟨hX.below hb3, hb3⟩) ?_
      clear hK K
      try simp only [Act.put, List.setIfInBounds_toArray, List.set_cons_zero, List.set_cons_succ]
      repeat (first | (refine Seq.Seq.skip (by rfl) ?_; (try simp only [Act.put, List.setIfInBounds_toArray, List.set_cons_zero, List.set_cons_succ])) | (refine Seq.Seq.det ?_ (by rfl) (fun w hS => ?_) ?_; rotate_left; ((try dsimp only at hS); go_simp; (try rw [if_pos (by omega)]); with_reducible rfl); (try simp only [Act.put, List.setIfInBounds_toArray, List.set_cons_zero, List.set_cons_succ])))
      refine Seq.Seq.nil ?_
      rw [← HVN.out, ← H0.out] at ho2
      clear L1
      go_wp2
      go_meet
      case rel => exact ⟨ho2, hb3⟩
  case rest =>
  obtain ⟨ho2, hb3⟩ := hcut
  clear hS L1
  go_wp2
  go_loopw [3, 4] (fun v i wr => ∃ k : Nat, k ≤ n ∧ i = .int .i64 k ∧ Own wr w0.heap.size v (sk k) ∧ Below w0.heap.size w0 wr) (fun _ i _ => n - (intOf i).toNat)
  case atStart => exact ⟨0, by omega, rfl, ho2, hb3⟩
  case round =>
    clear ho2 hb3
    obtain ⟨k, hk, rfl, ho, hbr⟩ := hrel
    obtain ⟨x0, x1⟩ := (hX.below hbr).c2
    by_cases hlt : k < n
    · obtain ⟨g', o', e', _, _, hc⟩ := HC.out
      injection e' with e'
      injection e' with ea eb
      subst ea eb
      obtain ⟨f, t, S, a, l, mm, he, ⟨f0, _⟩, _, hl, hlm, han, hst, hcell⟩ := hc k hlt
      obtain ⟨c0, c1, c2⟩ := hcell wr hbr
      have hkL : k < L.length := by rw [HL.out]; exact hlt
      have hokk := HOK.out k hkL
      have hsu := HSU.out k hkL
      have hle0 := HLE.out k (by omega)
      rw [he] at hokk hsu
      have HSN := Lib.hid hsu
      have hlen2 := stb_len hokk
      have hcon := rstbytes_any P f t a l mm S hokk f0 wr (hst.below hbr) hlm
      have e4 : (k : Int) < n := by omega
      have e5 : IntKind.i64.wrap ((k : Int) + 1) = ((k + 1 : Nat) : Int) := IntWalk.i64_in _ (by omega)
      obtain ⟨u, hu⟩ : ∃ u, u = stb (f, t, S) := ⟨_, rfl⟩
      rw [← hu] at hcon hlen2 HSN
      have HLU := Lib.hid (show (sk k).length + u.length ≤ 1000000 by omega)
      obtain ⟨Av, cv, rfl⟩ := ho.slice
      have HO := Lib.hid ho
      clear hc hcell hsu hle0 hst hokk hlen2 hl han hu he ho
      go_wp2_with fail
      refine hcon.mono ?_
      rintro en w3 ⟨A3, m3, rfl, hb3, hbs3, hnil3, _, _⟩
      have ho3 := HO.out.below hb3
      have hbd3 := hbr.trans (hb3.mono hbr.size)
      have hB3 := hbd3.size
      clear hb3 hcon c0 c1 c2 x0 x1
      go_wp2_with (at_builtin; go_must (refine list_append_gr rfl (.tmp 21) (.tmp 27) rfl w0.heap.size _ _ rfl ho3 _ _ _ u rfl hbs3 hnil3 HLU.out hB3 ?_; intro v4 w4 ho4 hg4 hgr4; have hb4 := Own.belowOf hbd3 hB3 ho3 hg4; clear ho3 hbd3 hbs3 hB3 hg4 hgr4))
      go_roundw
      case rel => exact ⟨k + 1, by omega, by go_num, by rw [HSN.out]; exact ho4, hb4⟩
      case measure => simp [intOf]; omega
    · obtain rfl : k = n := by omega
      rw [HE.out] at ho
      have HO := Lib.hid (ho.base (B' := w.heap.size) fun g hg => by have := ho.ge g hg; omega)
      have HBB := Lib.hid (HB.out.trans (hbr.mono HB.out.size))
      obtain ⟨Av, cv, rfl⟩ := ho.slice
      clear ho hbr hX
      go_wp2
      go_ret
      exact Own.rowPost (B := 0) HO.out HBB.out
end Go.Proofs.YtmiimjgfainclaaGreat.Cur
namespace Go.Proofs.YtmiimjgfainclaaGreat.Cur
open Go.RowKit Mem
set_option linter.unusedVariables false
set_option maxRecDepth 100000
theorem kindST : Kind 28 128 (.agg #[.int .u64 0, .int .u64 0, .slice none 0 0]) 3 40 := ⟨Tryz.underlying28, by kernel_rfl, rfl, by decide⟩
def RawPost3 (n : Nat) (xs : List Value) (w : World) (en : Ending) (w' : World) : Prop := ∃ v, en = .returned v ∧ w'.ownsRow w.heap.size 128 3 v n xs ∧ Below w.heap.size w w'
set_option maxHeartbeats 1000000 in
theorem clonep_any (A : Option Addr) (n c : Nat) (xs : List Value) (w : World) (hl : xs.length = n * 3) (hr : Rw w A xs) (h1 : ∀ u ∈ xs, u.oneCell' = true) (hnil : A = none → c = 0) (hn : n ≤ 1000000) :
    Calls Tryz.prog 126 #[.slice A n c] w (RawPost3 n xs w) := by
  have q0 : ∀ (w : World) (a : Option Addr) (n c : Nat), (binOp .eql 28 (.slice a n c) (.slice none 0 0)).run Tryz.prog w = .ok (.bool a.isNone) w := fun w a n c => Lib.run_eql_slice_nil w _ _ a n c 0 0 Tryz.underlying28
  have hown0 := own_empty w 128 3
  have hge := own_ge hown0
  have hbA := below_one w (.cells #[] 128)
  have hrA := hr.below hbA
  rcases A with _ | ad
  · have hn0 : n = 0 := by
      rcases Nat.eq_zero_or_pos n with h0 | h0
      · exact h0
      · obtain ⟨_, _, e, _⟩ := hr (by rw [hl]; omega)
        cases e
    subst hn0
    have hxs : xs = [] := List.eq_nil_of_length_eq_zero (by omega)
    subst hxs
    go_enter Tryz.func126, Tryz.ntmps126
    go_wp2
    go_ret
    exact ⟨_, rfl, World.ownsRow_nil w _ _ _, Below.refl _ _⟩
  · have HB : Hid (w.heap.size ≤ (w.alloc (.cells #[] 128)).heap.size) := Lib.hid hbA.size
    go_enter Tryz.func126, Tryz.ntmps126
    go_wp2_with (at_builtin; go_must (refine list_append_rw kindST rfl (.tmp 5) (.tmp 6) rfl w.heap.size _ 0 [] rfl hown0 _ n c xs rfl hl hrA (by simp) h1 (by rw [Nat.zero_add]; exact hn) (by omega) HB.out ?_; intro v' w' ho' hg' hgr'; have H1 : Hid (w'.ownsRow w.heap.size 128 3 v' n xs) := Lib.hid (by rw [Nat.zero_add, List.nil_append] at ho'; exact ho'); have H2 : Hid (Below w.heap.size w w') := Lib.hid (hbA.grown hg' HB.out (fun k e => hge k e)); clear ho' hg' hgr' hrA hown0 hbA))
    go_ret
    exact ⟨_, rfl, H1.out, H2.out⟩
theorem get3 (cur : Array Value) (p : Nat) (a b c : Value) (hp : p + 3 ≤ cur.size) (x : Nat) : (((cur.set! p a).set! (p + 1) b).set! (p + 2) c)[x]? = if x = p + 2 then some c else if x = p + 1 then some b else if x = p then some a else cur[x]? := by
  simp only [Array.set!_eq_setIfInBounds, Array.getElem?_setIfInBounds, Array.size_setIfInBounds]
  by_cases h1 : x = p + 2
  · subst h1; rw [if_pos rfl, if_pos (by omega), if_pos rfl]
  · rw [if_neg (fun e => h1 e.symm), if_neg h1]
    by_cases h2 : x = p + 1
    · subst h2; rw [if_pos rfl, if_pos (by omega), if_pos rfl]
    · rw [if_neg (fun e => h2 e.symm), if_neg h2]
      by_cases h3 : x = p
      · subst h3; rw [if_pos rfl, if_pos (by omega), if_pos rfl]
      · rw [if_neg (fun e => h3 e.symm), if_neg h3]
theorem StE.mk {w : World} {P : Nat → Prop} {f t : Int} {A : Option Addr} {l m : Nat} {S : List (List Int)} (hf : 0 ≤ f ∧ f < 18446744073709551616) (ht : 0 ≤ t ∧ t < 18446744073709551616) (hl : S.length = l) (hm : l ≤ m) (hn : A = none → m = 0) (h : Sts w P A l S) :
    StE.R w P [.int .u64 f, .int .u64 t, .slice A l m] (f, t, S) :=
  ⟨[_], [_, _], rfl, ⟨rfl, hf.1, hf.2⟩, [_], [_], rfl, ⟨rfl, ht.1, ht.2⟩, A, m, by rw [hl], by rw [hl]; exact hm, hn, h.2⟩
theorem pts_of_cells {w : World} {P : Nat → Prop} {g n : Nat} {L : List Stp} (hl : L.length = n) (hg : P g) (h : ∀ i, i < n → ∃ a b c, (w.cell? ⟨g, i * 3, none⟩ = some a ∧ w.cell? ⟨g, i * 3 + 1, none⟩ = some b ∧ w.cell? ⟨g, i * 3 + 2, none⟩ = some c) ∧ StE.R w P [a, b, c] (L.getD i stp0)) : Pts w P (some ⟨g, 0, none⟩) n L := by
  obtain ⟨cs, xs, l1, l2, hp⟩ := pick_n (p := fun i c x => x = L.getD i stp0 ∧ ∃ u v z, c = [u, v, z] ∧ (w.cell? ⟨g, i * 3, none⟩ = some u ∧ w.cell? ⟨g, i * 3 + 1, none⟩ = some v ∧ w.cell? ⟨g, i * 3 + 2, none⟩ = some z) ∧ StE.R w P [u, v, z] (L.getD i stp0)) n fun i hi => by
    obtain ⟨a, b, c, h1, h2⟩ := h i hi
    exact ⟨[a, b, c], _, rfl, a, b, c, rfl, h1, h2⟩
  have hxs : xs = L := by
    apply List.ext_getElem (by omega)
    intro i h1 h2
    have := (hp i (cs[i]'(by omega)) xs[i] (List.getElem?_eq_getElem _) (List.getElem?_eq_getElem _)).1
    rw [this, List.getD_eq_getElem?_getD, List.getElem?_eq_getElem h2]; rfl
  subst hxs
  refine ⟨hl, cs, Ch.of (by omega) fun i c x hc hx => ?_, fun hpos => ⟨g, 0, rfl, hg, fun i v hv => ?_⟩⟩
  · obtain ⟨e, a, b, d, rfl, _, hR⟩ := hp i c x hc hx
    rw [e]; exact hR
  · have hlen : ∀ c ∈ cs, c.length = 3 := fun c hcm => by
      obtain ⟨i, hi, e⟩ := List.mem_iff_getElem.1 hcm
      obtain ⟨_, a, b, d, e2, _⟩ := hp i c _ (by rw [List.getElem?_eq_getElem hi, e]) (List.getElem?_eq_getElem (by omega))
      rw [e2]; rfl
    obtain ⟨i', j, c, e, hj, hci, hcv⟩ := flat_at hlen i v hv
    have hi' := (List.getElem?_eq_some_iff.1 hci).1
    obtain ⟨_, a, b, d, rfl, ⟨h1, h2, h3⟩, _⟩ := hp i' c _ hci (List.getElem?_eq_getElem (by omega))
    rw [Nat.zero_add, e]
    rcases j with _ | _ | _ | j
    · simp at hcv; subst hcv; exact h1
    · simp at hcv; subst hcv; exact h2
    · simp at hcv; subst hcv; exact h3
    · omega
def CpP (w : World) (B g n k : Nat) (L : List Stp) (old : List Value) (cur : Array Value) : Prop :=
  Blk w g cur 128 ∧ n * 3 ≤ cur.size ∧ (∀ i, i < k → ∃ a b c, (cur[i * 3]? = some a ∧ cur[i * 3 + 1]? = some b ∧ cur[i * 3 + 2]? = some c) ∧ StE.R w (fun b => B ≤ b ∧ b ≠ g) [a, b, c] (L.getD i stp0)) ∧ ∀ i v, k * 3 ≤ i → old[i]? = some v → cur[i]? = some v
theorem CpP.below {w w' : World} {B g n k : Nat} {L : List Stp} {old : List Value} {cur : Array Value} (h : CpP w B g n k L old cur) (hb : Below w.heap.size w w') : CpP w' B g n k L old cur := by
  obtain ⟨h1, h2, h3, h4⟩ := h
  refine ⟨h1.below hb, h2, fun i hi => ?_, h4⟩
  obtain ⟨a, b, c, hv, hR⟩ := h3 i hi
  exact ⟨a, b, c, hv, StE.keep hR fun b _ hl => hb.block b hl⟩
theorem CpP.ks {S0 : Nat → Prop} {w w' : World} {B g n k : Nat} {L : List Stp} {old : List Value} {cur : Array Value} (h : CpP w B g n k L old cur) (hk : Ks S0 w w') (h0 : ∀ b, S0 b → b < B) (hg : B ≤ g) : CpP w' B g n k L old cur := by
  obtain ⟨h1, h2, h3, h4⟩ := h
  refine ⟨h1.ks hk (fun hs => by have := h0 g hs; omega), h2, fun i hi => ?_, h4⟩
  obtain ⟨a, b, c, hv, hR⟩ := h3 i hi
  exact ⟨a, b, c, hv, StE.keep hR fun b hb hl => hk.block b hl fun hs => by have := h0 b hs; omega⟩
theorem CpP.next {w : World} {B g n k : Nat} {L : List Stp} {old : List Value} {cur : Array Value} {a b c : Value} (h : CpP w B g n k L old cur) (hk : k < n) (hv : StE.R w (fun b => B ≤ b ∧ b ≠ g) [a, b, c] (L.getD k stp0)) :
    CpP (((w.setCell ⟨g, k * 3, none⟩ a).setCell ⟨g, k * 3 + 1, none⟩ b).setCell ⟨g, k * 3 + 2, none⟩ c) B g n (k + 1) L old (((cur.set! (k * 3) a).set! (k * 3 + 1) b).set! (k * 3 + 2) c) := by
  obtain ⟨h1, h2, h3, h4⟩ := h
  have hkp : ∀ b', b' ≠ g → (((w.setCell ⟨g, k * 3, none⟩ a).setCell ⟨g, k * 3 + 1, none⟩ b).setCell ⟨g, k * 3 + 2, none⟩ c).heap[b']? = w.heap[b']? := fun b' hb' => by
    rw [Below.heap_setCell _ _ _ _ hb', Below.heap_setCell _ _ _ _ hb', Below.heap_setCell _ _ _ _ hb']
  have hg3 := get3 cur (k * 3) a b c (by omega)
  refine ⟨((h1.set (k * 3) a).set (k * 3 + 1) b).set (k * 3 + 2) c, by simpa using h2, fun i hi => ?_, fun i u hi hu => ?_⟩
  · rcases Nat.lt_or_ge i k with h5 | h5
    · obtain ⟨a', b', c', ⟨q1, q2, q3⟩, hR⟩ := h3 i h5
      refine ⟨a', b', c', ⟨?_, ?_, ?_⟩, StE.keep hR fun b hb hl => hkp b hb.2⟩
      · rw [hg3, if_neg (by omega), if_neg (by omega), if_neg (by omega)]; exact q1
      · rw [hg3, if_neg (by omega), if_neg (by omega), if_neg (by omega)]; exact q2
      · rw [hg3, if_neg (by omega), if_neg (by omega), if_neg (by omega)]; exact q3
    · obtain rfl : i = k := by omega
      refine ⟨a, b, c, ⟨?_, ?_, ?_⟩, StE.keep hv fun b hb hl => hkp b hb.2⟩
      · rw [hg3, if_neg (by omega), if_neg (by omega), if_pos rfl]
      · rw [hg3, if_neg (by omega), if_pos rfl]
      · rw [hg3, if_pos rfl]
  · rw [hg3, if_neg (by omega), if_neg (by omega), if_neg (by omega)]
    exact h4 i u (by omega) hu
theorem CpP.pts {w : World} {B g n : Nat} {L : List Stp} {old : List Value} {cur : Array Value} (h : CpP w B g n n L old cur) (hg : B ≤ g) (hl : L.length = n) : Pts w (fun b => B ≤ b) (some ⟨g, 0, none⟩) n L := by
  obtain ⟨h1, h2, h3, h4⟩ := h
  refine pts_of_cells hl hg fun i hi => ?_
  obtain ⟨a, b, c, ⟨q1, q2, q3⟩, hR⟩ := h3 i hi
  exact ⟨a, b, c, ⟨h1.cell _ q1, h1.cell _ q2, h1.cell _ q3⟩, StE.mono hR fun b hb _ => hb.1⟩
theorem own_of_cpp {w w' : World} {B B' g n cap : Nat} {L : List Stp} {old : List Value} {cur : Array Value} (h : CpP w B g n n L old cur) (hl : L.length = n) (hcap : n ≤ cap) (hmx : cap ≤ maxLen) (hsz : cur.size = cap * 3) (hg : B ≤ g) (hB : B' ≤ B)
    (hk : ∀ b, B ≤ b → b < w.heap.size → w'.heap[b]? = w.heap[b]?) : OwnQ StE 128 w' B' (fun k => B' ≤ k ∧ (Value.slice (some ⟨g, 0, none⟩) n cap).ownBlock ≠ some k) (.slice (some ⟨g, 0, none⟩) n cap) L := by
  obtain ⟨h1, h2, h3, _⟩ := h
  obtain ⟨cs, xs, l1, l2, hp⟩ := pick_n (p := fun i c x => x = L.getD i stp0 ∧ ∃ u v z, c = [u, v, z] ∧ (cur[i * 3]? = some u ∧ cur[i * 3 + 1]? = some v ∧ cur[i * 3 + 2]? = some z) ∧ StE.R w (fun b => B ≤ b ∧ b ≠ g) [u, v, z] (L.getD i stp0)) n fun i hi => by
    obtain ⟨a, b, c, h1, h2⟩ := h3 i hi
    exact ⟨[a, b, c], _, rfl, a, b, c, rfl, h1, h2⟩
  have hxs : xs = L := by
    apply List.ext_getElem (by omega)
    intro i h1 h2
    have := (hp i (cs[i]'(by omega)) xs[i] (List.getElem?_eq_getElem _) (List.getElem?_eq_getElem _)).1
    rw [this, List.getD_eq_getElem?_getD, List.getElem?_eq_getElem h2]; rfl
  subst hxs
  have hch : Ch StE w' (fun k => B' ≤ k ∧ (Value.slice (some ⟨g, 0, none⟩) n cap).ownBlock ≠ some k) cs xs := Ch.of (by omega) fun i c x hc hx => by
    obtain ⟨e, a, b, d, rfl, _, hR⟩ := hp i c x hc hx
    rw [e]
    exact StE.mono (StE.keep hR fun b hb hlt => hk b hb.1 hlt) fun b hb _ => ⟨by omega, fun e => hb.2 (by injection e with e; exact e.symm)⟩
  have hfl : cs.flatten.length = n * 3 := by rw [hch.flat, l2]; rfl
  refine ⟨cs, hch, ⟨by rw [hfl, l2]; rfl, .inr ⟨g, cap, cur, by rw [l2], by omega, (hk g hg h1.lt).trans h1, by rw [l2]; exact hcap, hmx, hsz, ?_⟩⟩, fun g' hg' hh => hh.2 hg'⟩
  have hlen : ∀ c ∈ cs, c.length = 3 := fun c hcm => by
    obtain ⟨i, hi, e⟩ := List.mem_iff_getElem.1 hcm
    obtain ⟨_, a, b, d, e2, _⟩ := hp i c _ (by rw [List.getElem?_eq_getElem hi, e]) (List.getElem?_eq_getElem (by omega))
    rw [e2]; rfl
  rw [l2]
  show List.take (n * 3) cur.toList = cs.flatten
  apply List.ext_getElem?
  intro j
  by_cases hj : j < n * 3
  · have hv := List.getElem?_eq_getElem (l := cs.flatten) (by rw [hfl]; exact hj : j < cs.flatten.length)
    obtain ⟨i', jj, c, e, hjj, hci, hcv⟩ := flat_at hlen j _ hv
    have hi' := (List.getElem?_eq_some_iff.1 hci).1
    obtain ⟨_, a, b, d, rfl, ⟨q1, q2, q3⟩, _⟩ := hp i' c _ hci (List.getElem?_eq_getElem (by omega))
    rw [hv, List.getElem?_take_of_lt hj, Array.getElem?_toList]
    generalize cs.flatten[j] = v at hcv
    subst e
    rcases jj with _ | _ | _ | jj
    · simp at hcv; subst hcv; exact q1
    · simp at hcv; subst hcv; exact q2
    · simp at hcv; subst hcv; exact q3
    · omega
  · rw [List.getElem?_eq_none (by rw [List.length_take]; omega), List.getElem?_eq_none (by rw [hfl]; omega)]
end Go.Proofs.YtmiimjgfainclaaGreat.Cur
namespace Go.Proofs.YtmiimjgfainclaaGreat.Cur
open Go.RowKit Mem
set_option linter.unusedVariables false
set_option maxRecDepth 100000
def CpR (X : Nat) (u : Array Value) (sx : Nat) (us : Array Value) (w : World) : Prop := Blk w X u 30 ∧ Blk w sx us 128
def PCpPost (e : Int) (n : Nat) (L : List Stp) (w : World) (en : Ending) (w' : World) : Prop :=
  ∃ (A : Option Addr) (m : Nat), en = .returned (pragg e A n m) ∧ Below w.heap.size w w' ∧ Pts w' (fun k => w.heap.size ≤ k) A n L ∧ n ≤ m ∧ (A = none → m = 0)
def PCoPost (e : Int) (L : List Stp) (w : World) (en : Ending) (w' : World) : Prop :=
  ∃ v, en = .returned (.agg #[.int .u64 e, v]) ∧ Below w.heap.size w w' ∧ OwnQ StE 128 w' w.heap.size (fun k => w.heap.size ≤ k ∧ v.ownBlock ≠ some k) v L
set_option maxHeartbeats 4000000 in
theorem prcopyo_any (e : Int) (A : Option Addr) (n m : Nat) (L : List Stp) (w : World) (hz : Pts w (fun b => b < w.heap.size) A n L) (hm : n ≤ m) (hnil : A = none → m = 0) (hn : n ≤ 100000) (hlen : plen 100000 L) :
    Calls Tryz.prog 76 #[pragg e A n m] w (PCoPost e L w) := by
  have hX := (Blk.new w (prc e A n m) 30).alloc (.cells (prc 0 none 0 0) 30)
  have hY := Blk.new (w.alloc (.cells (prc e A n m) 30)) (prc 0 none 0 0) 30
  rw [show (w.alloc (.cells (prc e A n m) 30)).heap.size = w.heap.size + 1 by simp] at hY
  have hb := below_two w (.cells (prc e A n m) 30) (.cells (prc 0 none 0 0) 30)
  have hw0 : ((w.alloc (.cells (prc e A n m) 30)).alloc (.cells (prc 0 none 0 0) 30)).heap.size = w.heap.size + 2 := by simp
  have HZ := Lib.hid hz
  have HB0 := Lib.hid hb
  have HLEN := Lib.hid (fun k => hlen.at_ k)
  have HL := Lib.hid hz.1
  obtain ⟨old, hch, hol, hraw, hone⟩ := (hz.below hb).2.raw
  rw [hz.1, show StE.k = 3 from rfl] at hol
  have hcl := clonep_any A n m old.flatten _ hol hraw hone hnil (by omega)
  have HCH := Lib.hid hch
  have HOL := Lib.hid hol
  clear hz hlen hch hraw hone hol
  obtain ⟨x0, x1⟩ := hX.c2
  go_enter Tryz.func76, Tryz.ntmps76
  go_wp2_with fail
  generalize (w.alloc (.cells (prc e A n m) 30)).alloc (.cells (prc 0 none 0 0) 30) = w0 at *
  refine hcl.mono ?_
  rintro en w1 ⟨v, rfl, ho, hb1⟩
  have hX1 := hX.below hb1
  have hY1 := hY.below hb1
  have hbd1 := hb.trans (hb1.mono hb.size)
  have hsz1 := hb1.size
  clear hcl x0 x1 hX hY
  rcases ho.2 with ⟨rfl, h0⟩ | ⟨g, cap, cur, rfl, hB, hh, hcap, hmx, hsz, htk⟩
  · have hL0 : L = [] := List.eq_nil_of_length_eq_zero (by rw [HL.out]; exact h0)
    subst h0
    have hX2 := hX1.set 1 (.slice none 0 0)
    have hY2 := hY1.far (g := w.heap.size) 1 (.slice none 0 0) (by omega)
    have hbd2 := Below.setCell hbd1 (p := ⟨w.heap.size, 1, none⟩) (Nat.le_refl _) (.slice none 0 0)
    obtain ⟨x0, x1⟩ := hX1.c2
    have i2 := hX1.free 1
    clear ho
    go_upto_region 2 with (fail)
    clear x0 x1 i2
    generalize w1.setCell ⟨w.heap.size, 1, none⟩ (.slice none 0 0) = w2 at *
    obtain ⟨x0, x1⟩ := Blk.c2 (v0 := .int .u64 e) (v1 := .slice none 0 0) hX2
    go_wp2
    go_loopw [12] (fun i wr => i = .int .i64 0 ∧ wr = w2) (fun _ _ => 0)
    case atStart => exact ⟨rfl, rfl⟩
    case round =>
      obtain ⟨rfl, rfl⟩ := hrel
      obtain ⟨y0, y1⟩ := hY2.c2
      have f0 := hY2.free 0
      have f1 := hY2.free 1
      go_wp2
      refine bodyPost_ret (v := pragg e none 0 0) (by simp [results, Tryz.results76, go_sem, y0, y1]) rfl ⟨_, rfl, ?_, by rw [hL0]; exact OwnQ.nil _ _ _ _ _⟩
      iterate 2 (refine Below.setCell ?_ (by simp) _)
      exact hbd2
  · have hC1 : CpP w1 (w.heap.size + 2) g n 0 L old.flatten cur := ⟨hh, by rw [hsz]; omega, fun i hi => absurd hi (by omega), fun i v _ hv => by
      rw [← htk, List.getElem?_take] at hv
      split at hv
      · simpa using hv
      · cases hv⟩
    have hX2 := hX1.set 1 (.slice (some ⟨g, 0, none⟩) n cap)
    have hY2 := hY1.far (g := w.heap.size) 1 (.slice (some ⟨g, 0, none⟩) n cap) (by omega)
    have hbd2 := Below.setCell hbd1 (p := ⟨w.heap.size, 1, none⟩) (Nat.le_refl _) (.slice (some ⟨g, 0, none⟩) n cap)
    have hC2 := hC1.ks (Ks.setCell (S := fun k => k = w.heap.size) w1 w.heap.size 1 (.slice (some ⟨g, 0, none⟩) n cap) rfl) (fun b hb => by omega) (by omega)
    have hgB : w.heap.size + 2 ≤ g := by omega
    have HCSZ := Lib.hid hsz
    have HMX := Lib.hid hmx
    obtain ⟨x0, x1⟩ := hX1.c2
    have i2 := hX1.free 1
    clear ho hh hsz htk hC1 hB hmx
    go_upto_region 2 with (fail)
    clear x0 x1 i2 hX1 hY1 hbd1
    generalize w1.setCell ⟨w.heap.size, 1, none⟩ (.slice (some ⟨g, 0, none⟩) n cap) = w2 at *
    have hX3 : Blk w2 w.heap.size (prc e (some ⟨g, 0, none⟩) n cap) 30 := hX2
    clear hX2
    obtain ⟨x0, x1⟩ := hX3.c2
    go_wp2
    clear x0 x1
    go_loopw [12] (fun i wr => ∃ (k : Nat) (cur : Array Value), k ≤ n ∧ i = .int .i64 k ∧ Blk wr w.heap.size (prc e (some ⟨g, 0, none⟩) n cap) 30 ∧ Blk wr (w.heap.size + 1) (prc 0 none 0 0) 30 ∧ Hid (CpP wr (w.heap.size + 2) g n k L old.flatten cur) ∧ Below w.heap.size w wr ∧ Hid (cur.size = cap * 3)) (fun i _ => n - (intOf i).toNat)
    case atStart => exact ⟨0, cur, by omega, rfl, hX3, hY2, Lib.hid hC2, hbd2, HCSZ⟩
    case round =>
      clear hX3 hY2 hC2 hbd2 HCSZ
      obtain ⟨k, cur, hk, rfl, hX, hY, HC, hbd, HCSZ⟩ := hrel
      obtain ⟨x0, x1⟩ := hX.c2
      by_cases hlt : k < n
      · have hkL : k < L.length := by rw [HL.out]; exact hlt
        obtain ⟨c, hR, hat⟩ := HCH.out.at_ k L[k] (List.getElem?_eq_getElem hkL)
        have hzk : L.getD k stp0 = L[k] := by rw [List.getD_eq_getElem?_getD, List.getElem?_eq_getElem hkL]; rfl
        have hll := HLEN.out k
        rw [hzk] at hll
        obtain ⟨a, mm, rfl, fb, tb, hlm, hnl, hst⟩ := stripe_parts hR
        have o0 := hat 0 _ rfl
        have o1 := hat 1 _ rfl
        have o2 := hat 2 _ rfl
        rw [show StE.k = 3 from rfl] at o0 o1 o2
        rw [Nat.add_zero] at o0
        obtain ⟨s, hs⟩ : ∃ s, s = L[k] := ⟨_, rfl⟩
        rw [← hs] at hst hll hzk hlm fb tb o0 o1 o2
        clear hs hR hat
        obtain ⟨f, t, S⟩ := s
        dsimp only at hst hll hlm fb tb o0 o1 o2
        obtain ⟨l, hl⟩ : ∃ l, l = S.length := ⟨_, rfl⟩
        rw [← hl] at hst hll hlm o2
        have HLS := Lib.hid hl
        have HZK := Lib.hid hzk
        have hblk := HC.out.1
        have c0 := hblk.cell _ (HC.out.2.2.2 _ _ (Nat.le_refl _) o0)
        have c1 := hblk.cell _ (HC.out.2.2.2 _ _ (by omega) o1)
        have c2 := hblk.cell _ (HC.out.2.2.2 _ _ (by omega) o2)
        have hgl := hblk.lt
        have e2 : (k : Int) < n := by omega
        have e3 : IntKind.i64.wrap ((k : Int) + 1) = ((k + 1 : Nat) : Int) := IntWalk.i64_in _ (by omega)
        have hbA := below_one wr (.cells (stc f t a l mm) 128)
        have hbW : Below w.heap.size w (wr.alloc (.cells (stc f t a l mm) 128)) := hbd.trans (hbA.mono hbd.size)
        have hbw : Below w.heap.size w (wr.alloc (.cells (stc f t a l mm) 128)).drew := hbW.trans ((below_one' _).mono hbW.size)
        have hXA := hX.below hbA
        have hYA := hY.below hbA
        have hCA := HC.out.below hbA
        have hSA := Blk.new wr (stc f t a l mm) 128
        have hszA : (wr.alloc (.cells (stc f t a l mm) 128)).drew.heap.size = wr.heap.size + 1 := by show (wr.alloc _).heap.size = _; simp
        have hwr := hbd.size
        have hgw : g ≠ wr.heap.size := by omega
        have hstw : Sts (wr.alloc (.cells (stc f t a l mm) 128)).drew (fun b => b < w.heap.size) a l S := hst.keep fun b hb9 _ => (hbw.block b hb9).trans (HB0.out.block b hb9).symm
        have hcon := stcopy_any f t a l mm S (wr.alloc (.cells (stc f t a l mm) 128)).drew (hstw.mono fun b hb9 _ => by have := hbw.size; omega) hlm hnl (by have := hll.1; omega) hll.2
        have hS : CpR w.heap.size (prc e (some ⟨g, 0, none⟩) n cap) wr.heap.size (stc f t a l mm) (wr.alloc (.cells (stc f t a l mm) 128)).drew := ⟨hXA.drew, hSA.drew⟩
        have L1 : ∀ w', CpR w.heap.size (prc e (some ⟨g, 0, none⟩) n cap) wr.heap.size (stc f t a l mm) w' → w'.cell? ⟨w.heap.size, 1, none⟩ = some (.slice (some ⟨g, 0, none⟩) n cap) := fun w' h => h.1.c2.2
        have L2 : ∀ w', CpR w.heap.size (prc e (some ⟨g, 0, none⟩) n cap) wr.heap.size (stc f t a l mm) w' → w'.cell? ⟨wr.heap.size, 0, none⟩ = some (.int .u64 f) ∧ w'.cell? ⟨wr.heap.size, 1, none⟩ = some (.int .u64 t) ∧ w'.cell? ⟨wr.heap.size, 2, none⟩ = some (.slice a l mm) := fun w' h => h.2.c3
        have hYd : Blk (wr.alloc (.cells (stc f t a l mm) 128)).drew (w.heap.size + 1) (prc 0 none 0 0) 30 := hYA
        have hCd := hCA.below (below_one' _)
        have HC4 := Lib.hid HC.out.2.2.2
        have O0 := Lib.hid o0
        have O1 := Lib.hid o1
        have O2 := Lib.hid o2
        have HBW := Lib.hid hbw
        have HSZ := Lib.hid hszA
        have HFB := Lib.hid fb
        have HTB := Lib.hid tb
        clear hst hzk hl hblk o0 o1 o2 hX hY hbd HC hbA hbW hbw hXA hYA hCA hSA hszA hstw hlm hnl hll fb tb
        go_wp2
        clear c0 c1 c2 x0 x1
        refine Seq.wp_region_last (CpR w.heap.size (prc e (some ⟨g, 0, none⟩) n cap) wr.heap.size (stc f t a l mm)) (by kernel_rfl) (by kernel_rfl) (by kernel_rfl) hS ?_
        generalize (wr.alloc (.cells (stc f t a l mm) 128)).drew = wd at *
        repeat (first | (refine Seq.SeqE.skip (by rfl) ?_; (try simp only [Act.put, List.setIfInBounds_toArray, List.set_cons_zero, List.set_cons_succ])) | (refine Seq.SeqE.det ?_ (by rfl) (fun w hS => ?_) ?_; rotate_left; ((try dsimp only at hS); go_simp; (try rw [if_pos (by omega)]); with_reducible rfl); (try simp only [Act.put, List.setIfInBounds_toArray, List.set_cons_zero, List.set_cons_succ])))
        refine Seq.SeqE.make (by rfl) (by rfl) (fun K Q' hK => ?_)
        go_simp
        go_at_call 127
        refine hcon.mono ?_
        rintro en w5 ⟨A5, m5, rfl, hb5, hst5, hm5, hn5⟩
        have hS5 : CpR w.heap.size (prc e (some ⟨g, 0, none⟩) n cap) wr.heap.size (stc f t a l mm) w5 := ⟨hS.1.below hb5, hS.2.below hb5⟩
        have hY5 := hYd.below hb5
        have hC5 := hCd.below hb5
        have hbd5 := HBW.out.trans (hb5.mono HBW.out.size)
        have hel := StE.mk HFB.out HTB.out HLS.out.symm hm5 hn5 (hst5.mono (Q := fun b => w.heap.size + 2 ≤ b ∧ b ≠ g) (fun b hb9 _ => by have := HSZ.out; have h2 : wd.heap.size ≤ b := hb9; omega))
        have h5 := hC5.1
        have q0 := h5.cell _ (HC4.out _ _ (Nat.le_refl _) O0.out)
        have q1 := h5.cell _ (HC4.out _ _ (by omega) O1.out)
        have q2 := h5.cell _ (HC4.out _ _ (by omega) O2.out)
        have r0 := h5.free (k * 3)
        have r1 := h5.free (k * 3 + 1)
        have r2 := h5.free (k * 3 + 2)
        have hnx := hC5.next hlt (by rw [HZK.out]; exact hel)
        clear hcon hb5 hst5 hm5 hn5 hYd hCd hS h5
        refine hK.out _ _ (hS5) ?_
        clear hK K
        try simp only [Act.put, List.setIfInBounds_toArray, List.set_cons_zero, List.set_cons_succ]
        repeat (first | (refine Seq.SeqE.skip (by rfl) ?_; (try simp only [Act.put, List.setIfInBounds_toArray, List.set_cons_zero, List.set_cons_succ])) | (refine Seq.SeqE.det ?_ (by rfl) (fun w hS => ?_) ?_; rotate_left; ((try dsimp only at hS); go_simp; (try rw [if_pos (by omega)]); with_reducible rfl); (try simp only [Act.put, List.setIfInBounds_toArray, List.set_cons_zero, List.set_cons_succ])))
        refine Seq.SeqE.last (by rfl) (by rfl) (fun K Q' hK => ?_)
        go_simp
        refine hK.out _ _ ?_
        clear hK K
        try simp only [Act.put, List.setIfInBounds_toArray, List.set_cons_zero, List.set_cons_succ]
        clear q0 q1 q2 r0 r1 r2 L1 L2
        have HX9 := Lib.hid (((hS5.1.far (g := g) (k * 3) (.int .u64 f) (by omega)).far (g := g) (k * 3 + 1) (.int .u64 t) (by omega)).far (g := g) (k * 3 + 2) (.slice A5 l m5) (by omega))
        have HY9 := Lib.hid (((hY5.far (g := g) (k * 3) (.int .u64 f) (by omega)).far (g := g) (k * 3 + 1) (.int .u64 t) (by omega)).far (g := g) (k * 3 + 2) (.slice A5 l m5) (by omega))
        have HC9 := Lib.hid hnx
        have HSZ9 : Hid ((((cur.set! (k * 3) (.int .u64 f)).set! (k * 3 + 1) (.int .u64 t)).set! (k * 3 + 2) (.slice A5 l m5)).size = cap * 3) := Lib.hid (by have := HCSZ.out; simpa using this)
        have hgw9 : w.heap.size ≤ g := by omega
        have HB9 := Lib.hid (Below.setCell (Below.setCell (Below.setCell hbd5 (p := ⟨g, k * 3, none⟩) hgw9 (.int .u64 f)) (p := ⟨g, k * 3 + 1, none⟩) hgw9 (.int .u64 t)) (p := ⟨g, k * 3 + 2, none⟩) hgw9 (.slice A5 l m5))
        clear hS5 hY5 hC5 hbd5 hel hnx
        go_wp2
        go_roundw
        case rel => exact ⟨k + 1, _, by omega, by go_num, HX9.out, HY9.out, HC9, HB9.out, HSZ9⟩
        case measure => simp [intOf]; omega
      · obtain rfl : k = n := by omega
        have HPT := Lib.hid (fun w' hk => own_of_cpp (w' := w') (B' := w.heap.size) HC.out HL.out hcap HMX.out HCSZ.out hgB (by omega) hk)
        obtain ⟨y0, y1⟩ := hY.c2
        have f0 := hY.free 0
        have f1 := hY.free 1
        clear HC hlt
        go_wp2
        refine bodyPost_ret (v := pragg e (some ⟨g, 0, none⟩) k cap) (by simp [results, Tryz.results76, go_sem, y0, y1]) rfl ⟨_, rfl, ?_, HPT.out _ fun b hb9 _ => ?_⟩
        · iterate 2 (refine Below.setCell ?_ (by simp) _)
          exact hbd
        · rw [Below.heap_setCell _ _ _ _ (by simp; omega), Below.heap_setCell _ _ _ _ (by simp; omega)]
theorem prcopy_any (e : Int) (A : Option Addr) (n m : Nat) (L : List Stp) (w : World) (hz : Pts w (fun b => b < w.heap.size) A n L) (hm : n ≤ m) (hnil : A = none → m = 0) (hn : n ≤ 100000) (hlen : plen 100000 L) :
    Calls Tryz.prog 76 #[pragg e A n m] w (PCpPost e n L w) :=
  (prcopyo_any e A n m L w hz hm hnil hn hlen).mono fun en w' ⟨v, h1, h2, h3⟩ => by
    have hge : ∀ g, v.ownBlock = some g → w.heap.size ≤ g := by
      obtain ⟨cs, _, h, _⟩ := h3
      exact own_ge h
    obtain ⟨A', c, rfl, k1, k2, k3⟩ := OwnQ.slice h3
    rw [hz.1] at h1 k1
    exact ⟨A', c, h1, h2, ⟨hz.1, k3.mono fun b hb _ => by
      rcases hb with hb | hb
      · exact hb.1
      · exact hge b hb⟩, k1, k2⟩
end Go.Proofs.YtmiimjgfainclaaGreat.Cur
namespace Go.Proofs.YtmiimjgfainclaaGreat.Cur
open Go.RowKit Mem
set_option linter.unusedVariables false
set_option maxRecDepth 100000
theorem opens_stripes : Opens (SlE StE) 28 := opens_slice Tryz.underlying28 (by kernel_rfl) (by decide) opens_stripe
theorem opens_prj : Opens (PrE U64E (SlE StE)) 30 := opens_pair Tryz.underlying30 rfl rfl (by kernel_rfl) (by kernel_rfl) (by kernel_rfl) (opens_u64 Tryz.underlying22) opens_stripes
section
variable {H : Type} {enc : TypeId × Value → H} {w : World} {base : Nat} {v : Value} {d : DataW H} {p : List MemPlace}
end
def LgpPost (n : Nat) (L : List Stp) (w : World) (e : Ending) (w' : World) : Prop := ∃ b, e = .returned (.bool b) ∧ Below w.heap.size w w' ∧ (b = false → n ≤ 70 ∧ plen 20 L)
set_option maxHeartbeats 2000000 in
theorem long20_any (P : Nat → Prop) (e : Int) (A : Option Addr) (n m : Nat) (L : List Stp) (w : World) (hz : Pts w P A n L) :
    Calls Tryz.prog 30 #[pragg e A n m] w (LgpPost n L w) := by
  have hX := Blk.new w (prc e A n m) 30
  have hb := below_one w (.cells (prc e A n m) 30)
  have HL := Lib.hid hz.1
  have HC := Lib.hid (fun h => (hz.below hb).cells h)
  have HX := Lib.hid hX
  obtain ⟨x0, x1⟩ := hX.c2
  clear hz hX
  go_enter Tryz.func30, Tryz.ntmps30
  go_wp2
  clear x0 x1
  generalize w.alloc (.cells (prc e A n m) 30) = w0 at *
  go_loopw [3] (fun i wr => ∃ k : Nat, k ≤ n ∧ k ≤ 70 ∧ i = .int .i64 k ∧ Hid (∀ j, j < k → (L.getD j stp0).2.2.length ≤ 20 ∧ ∀ l ∈ (L.getD j stp0).2.2, l.length ≤ 20) ∧ Below w0.heap.size w0 wr) (fun i _ => 70 - (intOf i).toNat)
  case atStart => exact ⟨0, by omega, by omega, rfl, Lib.hid (by intro j hj; omega), Below.refl _ _⟩
  case round =>
    obtain ⟨k, hk, hk20, rfl, hj, hb0⟩ := hrel
    obtain ⟨x0, x1⟩ := (HX.out.below hb0).c2
    have hbd := hb.trans (hb0.mono hb.size)
    by_cases hlt : k < n
    · have e1 : (k : Int) < n := by omega
      by_cases h20 : k < 70
      · have e2 : (k : Int) < 70 := by omega
        obtain ⟨g, o, rfl, _, hg, hc⟩ := HC.out (by omega)
        obtain ⟨f, t, S, a, l, mm, he, _, _, hl, hlm, han, hst, hcell⟩ := hc k hlt
        obtain ⟨c0, c1, c2⟩ := hcell wr hb0
        have hcon := long19_any P f t a l mm S wr (hst.below hb0)
        have HE := Lib.hid he
        have HLL := Lib.hid hl
        have e3 : IntKind.i64.wrap ((k : Int) + 1) = ((k + 1 : Nat) : Int) := IntWalk.i64_in _ (by omega)
        clear hc hl hst hcell han he hb
        go_wp2_with fail
        refine hcon.mono ?_
        rintro en w1 ⟨bv, rfl, hb1, hlv⟩
        have hb2 := hb0.trans (hb1.mono hb0.size)
        replace hbd := hbd.trans (hb1.mono hbd.size)
        clear hcon hb0 hb1 x0 x1 c0 c1 c2
        cases bv
        · have HLV := Lib.hid (hlv rfl)
          clear hlv
          go_wp2
          go_roundw
          case rel => exact ⟨k + 1, by omega, by omega, by go_num, Lib.hid (fun j hjk => by
            rcases Nat.lt_or_ge j k with h | h
            · exact hj.out j h
            · obtain rfl : j = k := by omega
              rw [HE.out]; exact ⟨by show S.length ≤ 20; rw [HLL.out]; exact HLV.out.1, HLV.out.2⟩), hb2⟩
          case measure => simp [intOf]; omega
        · clear hlv
          go_wp2
          go_ret
          exact ⟨true, rfl, hbd, fun h => by cases h⟩
      · have e2 : ¬ (k : Int) < 70 := by omega
        have e3 : 70 < (n : Int) := by omega
        go_wp2
        go_ret
        exact ⟨true, rfl, hbd, fun h => by cases h⟩
    · obtain rfl : k = n := by omega
      have e3 : ¬ 70 < (k : Int) := by omega
      have HN : Hid (plen 20 L) := Lib.hid fun s hs => by
        obtain ⟨j, hj2, e⟩ := List.mem_iff_getElem.1 hs
        have := hj.out j (by rw [← HL.out]; exact hj2)
        rw [List.getD_eq_getElem?_getD, List.getElem?_eq_getElem hj2, Option.getD_some, e] at this
        exact this
      go_wp2
      go_ret
      exact ⟨false, rfl, hbd, fun _ => ⟨hk20, HN.out⟩⟩
end Go.Proofs.YtmiimjgfainclaaGreat.Cur

/- Projections written: Put, Bytes. -/
import Derived.Test.YtghlediibhnloaaPrjB
import Derived.Test.YtghlediibhnloaaStpF
namespace Go.Proofs.Ytghlediibhnloaa.Cur
open Go.RowKit Mem
set_option linter.unusedVariables false
set_option maxRecDepth 100000


/-- The cells of stripe k, in whatever world in which only other blocks have changed. -/
theorem Pts.ks_cells {S0 : Nat → Prop} {w : World} {P : Nat → Prop} {g o n : Nat} {L : List Stp} (h : Pts w P (some ⟨g, o, none⟩) n L) (hoff : ∀ b, P b → ¬ S0 b) {k : Nat} (hk : k < n) :
    ∃ f t S a l m, L.getD k stp0 = (f, t, S) ∧ (0 ≤ f ∧ f < 18446744073709551616) ∧ (0 ≤ t ∧ t < 18446744073709551616) ∧ S.length = l ∧ l ≤ m ∧ (a = none → m = 0) ∧
      ∀ w', Ks S0 w w' → (w'.cell? ⟨g, o + k * 3, none⟩ = some (.int .u64 f) ∧ w'.cell? ⟨g, o + k * 3 + 1, none⟩ = some (.int .u64 t) ∧ w'.cell? ⟨g, o + k * 3 + 2, none⟩ = some (.slice a l m)) ∧ Sts w' P a l S := by
  obtain ⟨g', o', e, hP, hg, hc⟩ := h.cells (by omega)
  injection e with e
  injection e with e1 e2
  subst e1 e2
  obtain ⟨f, t, S, a, l, m, h1, h2, h3, h4, h5, h6, h7, h8⟩ := hc k hk
  refine ⟨f, t, S, a, l, m, h1, h2, h3, h4, h5, h6, fun w' hk' => ⟨?_, h7.keep fun b hb hl => hk'.block b hl (hoff b hb)⟩⟩
  obtain ⟨c0, c1, c2⟩ := h8 w (Below.refl _ _)
  have hcell : ∀ x, w'.cell? ⟨g, x, none⟩ = w.cell? ⟨g, x, none⟩ := fun x => World.cell?_of_block (hk'.block g hg (hoff g hP))
  exact ⟨(hcell _).trans c0, (hcell _).trans c1, (hcell _).trans c2⟩
/-- The first so many parts of a projection's encoding. -/
def ppk (e : Int) (L : List Stp) (k : Nat) : List Int := vz e ++ vz L.length ++ psb (L.take k)
theorem ppk_end (e : Int) (L : List Stp) : ppk e L L.length = prb (e, L) := by unfold ppk prb; rw [List.take_length]
theorem ppk_succ {e : Int} {L : List Stp} {k : Nat} (hk : k < L.length) : ppk e L (k + 1) = ppk e L k ++ stb (L.getD k stp0) := by
  unfold ppk psb
  rw [List.take_add_one, List.getElem?_eq_getElem hk, Option.toList_some, List.flatMap_append, List.getD_eq_getElem?_getD, List.getElem?_eq_getElem hk, Option.getD_some, List.append_assoc, List.append_assoc, List.append_assoc]
  simp
theorem prok_at {e : Int} {L : List Stp} (h : prok (e, L) = true) {k : Nat} (hk : k < L.length) : stok (L.getD k stp0) = true :=
  (((pch_iff L 0 _).1 (prok_parts h).2.2.2).1 k hk).2
theorem ppk_len {e : Int} {L : List Stp} (h : prok (e, L) = true) : ∀ k, k ≤ L.length → (ppk e L k).length ≤ 20 + 740 * k
  | 0, _ => by
    unfold ppk psb
    rw [List.take_zero, List.flatMap_nil, List.append_nil, List.length_append, vz_length, vz_length]
    have := vsz_le e
    have := vsz_le L.length
    omega
  | k + 1, hk => by
    have ih := ppk_len h k (by omega)
    have := stb_len (prok_at h (show k < L.length by omega))
    rw [ppk_succ (by omega), List.length_append]
    omega
theorem prb_len {e : Int} {L : List Stp} (h : prok (e, L) = true) : (prb (e, L)).length ≤ 47380 := by
  rw [← ppk_end]
  have := ppk_len h L.length (Nat.le_refl _)
  have h2 := (prok_parts h).2.2.1
  replace h2 : L.length ≤ 64 := h2
  omega

set_option maxHeartbeats 4000000 in
theorem prput_yes {w : World} {B b : Nat} {r : Option Nat} {M : Int} (P : Nat → Prop) (e : Int) (A : Option Addr) (n m : Nat) (L : List Stp) (hok : prok (e, L) = true) (h : Wr w B b r [] M 0) (hz : Pts w P A n L) (hlen : plen 1000000 L)
    (hoff : ∀ b', P b' → b' < B) (hM : 47380 ≤ M) (hBw : B ≤ w.heap.size) :
    Calls Try.prog 11 #[.pointer (some ⟨b, 0, none⟩), pragg e A n m] w (PRPost B b r (prb (e, L)) M w) := by
  have hX := Blk.new w (prc e A n m) 25
  have hb := below_one w (.cells (prc e A n m) 25)
  obtain ⟨k1, k2, k3, _⟩ := prok_parts hok
  replace k2 : 1 ≤ n := by rw [← hz.1]; exact k2
  replace k3 : n ≤ 64 := by rw [← hz.1]; exact k3
  have HL := Lib.hid hz.1
  have hep := epk_bd k1
  replace hep : 1 ≤ e ∧ e ≤ 4611686018427387903 := hep
  have hrcon := prright_any P e A n m L _ (hz.below hb) (by omega) hlen
  rw [hok] at hrcon
  unfold BPost at hrcon
  obtain ⟨g, o, rfl, hPg, hg, _⟩ := hz.cells (by omega)
  have HC := Lib.hid (fun k (hk : k < n) => hz.ks_cells (S0 := WS b r) (fun b' h1 => h.off_lt (hoff b' h1)) hk)
  have HE : Hid (ppk e L n = prb (e, L)) := Lib.hid (by rw [← hz.1]; exact ppk_end e L)
  have HSU := Lib.hid (fun k (hk : k < L.length) => ppk_succ (e := e) hk)
  have HLE := Lib.hid (fun k (hk : k ≤ L.length) => ppk_len hok k hk)
  have H0 : Hid (ppk e L 0 = vz e ++ vz n) := Lib.hid (by unfold ppk psb; rw [hz.1]; simp)
  have HOK := Lib.hid (fun k (hk : k < L.length) => prok_at hok hk)
  have HLN := Lib.hid (fun k => hlen.at_ k)
  have HOFF := Lib.hid hoff
  have hXo := h.off (Nat.le_refl _)
  have hks0 : Ks (WS b r) w (w.alloc (.cells (prc e (some ⟨g, o, none⟩) n m) 25)) := Ks.of_below hb
  have h1 := h.below hb
  generalize prb (e, L) = ST at *
  generalize ppk e L = sk at *
  have e2 : IntKind.u64.wrap (n : Int) = n := IntWalk.u64_in _ (by omega)
  clear hok hz hoff k1 h hb hlen
  obtain ⟨x0, x1⟩ := hX.c2
  go_enter Try.func11, Try.ntmps11
  go_wp2_with fail
  refine hrcon.mono ?_
  rintro en w1 ⟨rfl, hb1⟩
  replace hX := hX.below hb1
  have hks1 := hks0.trans (Ks.of_below hb1)
  replace h1 := h1.below hb1
  clear hrcon hb1 hks0 x0 x1
  obtain ⟨x0, x1⟩ := hX.c2
  have hB2 := Nat.le_trans hBw hks1.size
  have hX2l := hX.lt
  have v1 := vsz_le e
  have v2 := vsz_le (n : Int)
  go_wp2_with fail
  refine (eput_any e h1 (by omega) (by omega) (by simp) hB2).mono ?_
  rintro en w3 (⟨_, r3, rfl, hk3, hg3, hw3⟩ | ⟨hf, _⟩)
  case inr => exact absurd hf (by have : epk e = true := epk_yes hep.1 hep.2; rw [this]; simp)
  have hfit := putZ_fits (z := []) (y := vz e) (M := M) (by rw [vz_length]; simp; omega)
  rw [hfit.1, hfit.2, List.nil_append] at hw3
  replace hX := hX.ks hk3 hXo
  have hks3 := Ks.wr hks1 (Gr.refl _ _) hk3
  have hgr3 : Gr r r3 w := (Gr.refl _ _).trans hg3 hks1.size
  have hXo3 : ¬ WS b r3 w.heap.size := fun hs => by
    rcases hs with e | e
    · exact hXo (.inl e)
    · rcases hg3 with e2 | ⟨g', e2, hg'⟩
      · exact hXo (.inr (by rw [← e2]; exact e))
      · rw [e2] at e; injection e with e; omega
  clear hfit hk3 h1 hg3 hks1 x0 x1
  obtain ⟨x0, x1⟩ := hX.c2
  have hB3 := Nat.le_trans hBw hks3.size
  go_wp2_with fail
  refine (vput_any _ hw3 (by omega) (by omega) (by rw [vz_length]; omega) hB3).mono ?_
  rintro en w4 ⟨r4, rfl, hk4, hg4, hw4⟩
  have hfit := putZ_fits (z := vz e) (y := vz n) (M := M) (by rw [vz_length, vz_length]; omega)
  rw [hfit.1, hfit.2, ← H0.out] at hw4
  replace hX := hX.ks hk4 hXo3
  have hks4 := Ks.wr hks3 hgr3 hk4
  have hgr4 : Gr r r4 w := hgr3.trans hg4 hks3.size
  clear hfit hk4 hw3 hg4 hks3 hgr3 x0 x1 v1 v2 hXo3 hX2l
  obtain ⟨x0, x1⟩ := hX.c2
  go_wp2
  clear x0 x1 hX hXo
  go_loopw [24] (fun i wr => ∃ (k : Nat) (r' : Option Nat), k ≤ n ∧ i = .int .i64 k ∧ Ks (WS b r) w wr ∧ Gr r r' w ∧ Wr wr B b r' (sk k) M 0) (fun i _ => n - (intOf i).toNat)
  case atStart => exact ⟨0, r4, by omega, rfl, hks4, hgr4, hw4⟩
  case round =>
    clear hks4 hgr4 hw4
    obtain ⟨k, r', hk, rfl, hks, hgr, hw⟩ := hrel
    by_cases hlt : k < n
    · obtain ⟨f, t, S, a, l, mm, he, ⟨f0, _⟩, _, hl, hlm, han, hcell⟩ := HC.out k hlt
      obtain ⟨⟨c0, c1, c2⟩, hst⟩ := hcell wr hks
      have hkL : k < L.length := by rw [HL.out]; exact hlt
      have hokk := HOK.out k hkL
      have hsu := HSU.out k hkL
      have hle0 := HLE.out k (by omega)
      rw [he] at hokk hsu
      have HSN := Lib.hid hsu
      have hX := below_one wr (.cells (stc f t a l mm) 60)
      have hwX := hw.below hX
      have hstX := hst.below hX
      have hksX := hks.trans (Ks.of_below hX)
      have hlen2 := stb_len hokk
      have e4 : (k : Int) < n := by omega
      have e5 : IntKind.i64.wrap ((k : Int) + 1) = ((k + 1 : Nat) : Int) := IntWalk.i64_in _ (by omega)
      have hBX := Nat.le_trans hBw hksX.size
      have hpc := stput_yes P f t a l mm S hokk f0 hwX hstX hlm (fun b' h1 _ => hwX.off_lt (HOFF.out b' h1)) (by omega) (by omega) hBX
      have x0 := (Blk.new wr (stc f t a l mm) 60).c3
      obtain ⟨x0, x1, x2⟩ := x0
      clear hcell hsu hle0 hst hstX hX hokk hlen2 hl han
      go_wp2_with fail
      refine hpc.mono ?_
      rintro en w5 ⟨r5, rfl, hk5, hg5, hw5⟩
      rw [← HSN.out] at hw5
      have hks5 := Ks.wr hksX hgr hk5
      have hgr5 : Gr r r5 w := hgr.trans hg5 hksX.size
      clear hpc hk5 hg5 hksX hgr hw hwX hks c0 c1 c2 x0 x1 x2
      go_wp2
      go_roundw
      case rel => exact ⟨k + 1, r5, by omega, by go_num, hks5, hgr5, hw5⟩
      case measure => simp [intOf]; omega
    · obtain rfl : k = n := by omega
      rw [HE.out] at hw
      go_wp2
      go_end0
      exact ⟨r', rfl, hks, hgr, hw⟩

set_option maxHeartbeats 2000000 in
theorem prput_no {w : World} {B b : Nat} {r : Option Nat} {y : List Int} {M c : Int} (P : Nat → Prop) (e : Int) (A : Option Addr) (n m : Nat) (L : List Stp) (hok : prok (e, L) = false) (h : Wr w B b r y M c) (hz : Pts w P A n L) (hn : n ≤ 1000000) (hlen : plen 1000000 L) :
    Calls Try.prog 11 #[.pointer (some ⟨b, 0, none⟩), pragg e A n m] w (WFailPost B b r y M c 3 w) := by
  have hX := Blk.new w (prc e A n m) 25
  have hb := below_one w (.cells (prc e A n m) 25)
  have hrcon := prright_any P e A n m L _ (hz.below hb) hn hlen
  rw [hok] at hrcon
  unfold BPost at hrcon
  have h1 := h.below hb
  obtain ⟨x0, x1⟩ := hX.c2
  clear hX hz hlen hok
  go_enter Try.func11, Try.ntmps11
  go_wp2_with fail
  refine hrcon.mono ?_
  rintro en w1 ⟨rfl, hb1⟩
  replace h1 := h1.below hb1
  replace hb := hb.trans (hb1.mono hb.size)
  clear hb1 x0 x1 hrcon
  go_wp2_with fail
  refine (wfail_any 3 h1).mono ?_
  rintro en w' ⟨rfl, hk, hw⟩
  have HW := Lib.hid hw
  clear hw
  go_wp2
  go_end0
  exact ⟨rfl, (Ks.of_below hb).trans hk, HW.out⟩

/-- A projection's bytes, or none. -/
def PrByPost (p : Prj) (w : World) (e : Ending) (w' : World) : Prop :=
  Below w.heap.size w w' ∧ ((prok p = true ∧ ∃ g, e = .returned (.tuple #[.slice (some ⟨g, 0, none⟩) (prb p).length (prb p).length, .int .i64 0]) ∧ w.heap.size ≤ g ∧ Bs w' (some ⟨g, 0, none⟩) (prb p).length (prb p)) ∨
    (prok p = false ∧ e = .returned (.tuple #[.slice none 0 0, .int .i64 3])))
set_option maxHeartbeats 2000000 in
theorem prbytes_any (P : Nat → Prop) (e : Int) (A : Option Addr) (n m : Nat) (L : List Stp) (w : World) (hz : Pts w P A n L) (hP : ∀ b, P b → b < w.heap.size) (hn : n ≤ 1000000) (hlen : plen 1000000 L) :
    Calls Try.prog 9 #[pragg e A n m] w (PrByPost (e, L) w) := by
  have hX := Blk.new w (prc e A n m) 25
  have hb := below_one w (.cells (prc e A n m) 25)
  have hz1 := hz.below hb
  have HLN := Lib.hid hlen
  obtain ⟨x0, x1⟩ := hX.c2
  clear hz hlen
  go_enter Try.func9, Try.ntmps9
  go_wp2_with fail
  refine (wnew_any _ _ (by omega)).mono ?_
  rintro en w1 ⟨b, rfl, hg1, hb1, hw1⟩
  rw [if_neg (by omega)] at hw1
  replace hX := hX.below hb1
  replace hz1 := hz1.below hb1
  have hbd := hb.trans (hb1.mono hb.size)
  have hBX := hb1.size
  have hPB : ∀ b', P b' → b' < (w.alloc (.cells (prc e A n m) 25)).heap.size := fun b' h1 => by have := hP b' h1; simp; omega
  clear x0 x1 hb1
  obtain ⟨x0, x1⟩ := hX.c2
  cases hok : prok (e, L)
  · go_wp2_with fail
    refine (prput_no P e A n m L hok hw1 hz1 hn HLN.out).mono ?_
    rintro en w2 ⟨rfl, hk, hw2⟩
    rw [if_pos rfl] at hw2
    have hbd2 := hw1.belowOf hbd (Nat.le_refl _) hk hb.size
    clear x0 x1
    go_wp2_with fail
    refine (wbytes_bad hw2 (by decide)).mono ?_
    rintro en w3 ⟨rfl, rfl⟩
    go_wp2
    go_ret2
    exact ⟨hbd2, .inr ⟨hok, rfl⟩⟩
  · have HOK := Lib.hid hok
    have HLE := Lib.hid (prb_len hok)
    go_wp2_with fail
    refine (prput_yes P e A n m L hok hw1 hz1 HLN.out hPB (by omega) hBX).mono ?_
    rintro en w2 ⟨r2, rfl, hk, _, hw2⟩
    have hbd2 := hw1.belowOf hbd (Nat.le_refl _) hk hb.size
    clear x0 x1 hok
    go_wp2_with fail
    refine (wbytes_good (z := prb (e, L)) hw2 (by have := HLE.out; omega)).mono ?_
    rintro en w3 ⟨g, rfl, hg, hb3, hblk⟩
    have hs3 := Bs.of_block hblk
    have hbd3 := hbd2.trans (hb3.mono hbd2.size)
    have hgw : w.heap.size ≤ g := Nat.le_trans hbd2.size hg
    go_wp2
    go_ret2
    exact ⟨hbd3, .inl ⟨HOK.out, g, rfl, hgw, hs3⟩⟩
end Go.Proofs.Ytghlediibhnloaa.Cur

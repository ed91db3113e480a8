/- K24: StpF StpG StpH StpI StpJ StpK StpL StpN -/
import Derived.Test.YthpgandifeiejaaK23
import Derived.Test.YthpgandifeiejaaK5
import Derived.Test.YthpgandifeiejaaK6
import Derived.Test.YthpgandifeiejaaK3
import Derived.Test.YthpgandifeiejaaK4
/- Stripes written: Put, Bytes. -/
/- Stripes written by the document: Bytes. -/
/- Stripes read by the program: one set. -/
/- Stripes read by the program: sets, one behind the other. -/
/- Stripes read by the program: Read. -/
/- Stripes read by the document. -/
/- Stripes read by the document: Read. -/
/- Stripes read by the document: Read, walked. -/
namespace Go.Proofs.Ythpgandifeiejaa.Cur
open Go.RowKit Mem
set_option linter.unusedVariables false
set_option maxRecDepth 100000


/-- The cells of set k, in whatever world in which only other blocks have changed. -/
theorem Sts.ks_cells {S0 : Nat → Prop} {w : World} {P : Nat → Prop} {g o n : Nat} {S : List (List Int)} (h : Sts w P (some ⟨g, o, none⟩) n S) (hoff : ∀ b, P b → b < w.heap.size → ¬ S0 b) {k : Nat} (hk : k < n) :
    ∃ a l m, (S.getD k []).length = l ∧ l ≤ m ∧ (a = none → m = 0) ∧ (0 < l → ∀ ad, a = some ad → P ad.block ∧ ad.block < w.heap.size) ∧ (∀ x ∈ S.getD k [], 0 ≤ x ∧ x < 18446744073709551616) ∧
      ∀ w', Ks S0 w w' → w'.cell? ⟨g, o + k, none⟩ = some (.slice a l m) ∧ Us w' a l (S.getD k []) := by
  obtain ⟨g', o', e, hP, hg, hc⟩ := h.cells (by omega)
  injection e with e
  injection e with e1 e2
  subst e1 e2
  obtain ⟨a, l, m, h1, h2, h3, h4, h5, h6, h7⟩ := hc k hk
  have h8 : 0 < l → ∀ ad, a = some ad → P ad.block ∧ ad.block < w.heap.size := fun h0 ad ha => ⟨h5 h0 ad ha, h4.2.lt (by rw [List.length_map, h4.1]; exact h0) ad ha⟩
  refine ⟨a, l, m, h1, h2, h3, h8, h6, fun w' hk' => ⟨?_, h4.ks hk' fun h0 ad ha => ?_⟩⟩
  · rw [← h7 w (Below.refl _ _)]
    exact World.cell?_of_block (hk'.block g hg (hoff g hP hg))
  · obtain ⟨h9, h10⟩ := h8 h0 ad ha
    exact hoff _ h9 h10
/-- The first so many parts of a stripe's encoding. -/
def stk (f t : Int) (S : List (List Int)) (k : Nat) : List Int := vz (t - f - 1) ++ vz S.length ++ ssb (S.take k)
theorem stk_end (f t : Int) (S : List (List Int)) : stk f t S S.length = stb (f, t, S) := by unfold stk stb; rw [List.take_length]
theorem stk_succ {f t : Int} {S : List (List Int)} {k : Nat} (hk : k < S.length) : stk f t S (k + 1) = stk f t S k ++ (vz ((S.getD k []).length : Nat) ++ rz (S.getD k [])) := by
  unfold stk ssb
  rw [List.take_add_one, List.getElem?_eq_getElem hk, Option.toList_some, List.flatMap_append, List.getD_eq_getElem?_getD, List.getElem?_eq_getElem hk, Option.getD_some, List.append_assoc, List.append_assoc, List.append_assoc]
  simp [seb]
theorem stk_mono {f t : Int} {S : List (List Int)} : ∀ (k : Nat), k ≤ S.length → (stk f t S (S.length - k)).length ≤ (stb (f, t, S)).length
  | 0, _ => by rw [Nat.sub_zero, stk_end]; exact Nat.le_refl _
  | k + 1, h => by
    have ih := stk_mono (f := f) (t := t) (S := S) k (by omega)
    have e : S.length - k = S.length - (k + 1) + 1 := by omega
    rw [e, stk_succ (by omega), List.length_append] at ih
    omega
theorem stk_le {f t : Int} {S : List (List Int)} {k : Nat} (h : k ≤ S.length) : (stk f t S k).length ≤ (stb (f, t, S)).length := by
  have := stk_mono (f := f) (t := t) (S := S) (S.length - k) (by omega)
  rwa [show S.length - (S.length - k) = k by omega] at this
theorem rz_len (l : List Int) : (rz l).length ≤ 10 * l.length := rzk_len l l.length
theorem ssb_len : ∀ {S : List (List Int)}, (∀ l ∈ S, l.length ≤ 8) → (ssb S).length ≤ 90 * S.length
  | [], _ => by simp [ssb]
  | l :: S, h => by
    have ih := ssb_len (S := S) fun m hm => h m (by simp [hm])
    have h1 := h l (by simp)
    have h2 := rz_len l
    have h3 := vsz_le l.length
    unfold ssb at ih ⊢
    rw [List.flatMap_cons, List.length_append, List.length_cons]
    have : (seb l).length ≤ 90 := by unfold seb; rw [List.length_append, vz_length]; omega
    omega
theorem sok_fine {S A : List (List Int)} (h : sok A S = true) : ∀ k, k < S.length → fne (S.getD k []) = true := by
  intro k hk
  rw [sok_eq, Bool.and_eq_true] at h
  rw [List.getD_eq_getElem?_getD, List.getElem?_eq_getElem hk]
  exact List.all_eq_true.1 h.1 _ (List.getElem_mem hk)
theorem fne_parts {l : List Int} (h : fne l = true) : 1 ≤ l.length ∧ l.length ≤ 8 ∧ risesB l = true ∧ ndb l = true := by
  unfold fne at h
  simp only [Bool.and_eq_true, decide_eq_true_eq] at h
  exact ⟨h.1.1.1, h.1.1.2, h.1.2, h.2⟩
theorem sok_lens {S A : List (List Int)} (h : sok A S = true) : ∀ l ∈ S, l.length ≤ 8 := by
  intro l hl
  obtain ⟨k, hk, e⟩ := List.mem_iff_getElem.1 hl
  have := fne_parts (sok_fine h k hk)
  rw [List.getD_eq_getElem?_getD, List.getElem?_eq_getElem hk, Option.getD_some, e] at this
  exact this.2.1
theorem stb_len {s : Stp} (h : stok s = true) : (stb s).length ≤ 740 := by
  obtain ⟨_, _, _, k4, k5⟩ := stok_parts h
  have h1 := ssb_len (sok_lens k5)
  have h2 := vsz_le (s.2.1 - s.1 - 1)
  have h3 := vsz_le s.2.2.length
  unfold stb
  rw [List.length_append, List.length_append, vz_length, vz_length]
  omega

theorem stb_byte {s : Stp} (h : stok s = true) (hf : 0 ≤ s.1) (hb : sbds s.2.2) : ∀ b ∈ stb s, 0 ≤ b ∧ b < 256 := fun b hm => by
  obtain ⟨k1, k2, k3, k4, k5⟩ := stok_parts h
  unfold stb at hm
  rcases List.mem_append.1 hm with hm | hm
  · rcases List.mem_append.1 hm with hm | hm
    · exact vz_byte _ (by omega) (by omega) b hm
    · exact vz_byte _ (by omega) (by omega) b hm
  · exact ssb_byte k5 hb b hm
theorem positions_any (f t : Int) (A : Option Addr) (n m : Nat) (w : World) (h0 : 0 ≤ f) (h1 : f ≤ t) (h2 : t ≤ 4611686018427387904) :
    Calls Try.prog 57 #[stagg f t A n m] w (BPost (.int .u64 (t - f)) w) := by
  have hX := Blk.new w (stc f t A n m) 31
  have hb := below_one w (.cells (stc f t A n m) 31)
  obtain ⟨x0, x1, x2⟩ := hX.c3
  have e1 : IntKind.u64.wrap (t - f) = t - f := IntWalk.u64_in _ (by omega)
  unfold BPost
  clear hX
  go_enter Try.func57, Try.ntmps57
  go_wp2
  go_ret
  exact ⟨rfl, hb⟩

set_option maxHeartbeats 4000000 in
theorem stput_yes {w : World} {B b : Nat} {r : Option Nat} {y : List Int} {M : Int} (P : Nat → Prop) (f t : Int) (A : Option Addr) (n m : Nat) (S : List (List Int)) (hok : stok (f, t, S) = true) (hf : 0 ≤ f) (h : Wr w B b r y M 0) (hz : Sts w P A n S) (hm : n ≤ m)
    (hoff : ∀ b', P b' → b' < w.heap.size → ¬ WS b r b') (hM : (y.length : Int) + (stb (f, t, S)).length ≤ M) (hy : y.length ≤ 90000) (hBw : B ≤ w.heap.size) :
    Calls Try.prog 41 #[.pointer (some ⟨b, 0, none⟩), stagg f t A n m] w (PRPost B b r (y ++ stb (f, t, S)) M w) := by
  have hX := Blk.new w (stc f t A n m) 31
  have hb := below_one w (.cells (stc f t A n m) 31)
  have hlenB := stb_len hok
  obtain ⟨k1, k2, k3, k4, k5⟩ := stok_parts hok
  dsimp only at k1 k2 k3 k4 k5
  have HL := Lib.hid hz.1
  have HFN := Lib.hid (sok_fine k5)
  have hn8 : n ≤ 8 := by rw [← hz.1]; exact k4
  have hn1 : 1 ≤ n := by rw [← hz.1]; exact k3
  have hrcon := stright_any P f t A n m S _ (hz.below hb) hm (by omega) (fun l hl => Nat.le_trans (sok_lens k5 l hl) (by omega))
  rw [hok] at hrcon
  unfold BPost at hrcon
  have hpos := fun w' => positions_any f t A n m w' hf (by omega) k2
  unfold BPost at hpos
  obtain ⟨g, o, rfl, hPg, hg, _⟩ := hz.cells (by omega)
  have HC := Lib.hid (fun k (hk : k < n) => hz.ks_cells hoff hk)
  have HOFF := Lib.hid hoff
  have HE : Hid (stk f t S n = stb (f, t, S)) := Lib.hid (by rw [← hz.1]; exact stk_end f t S)
  have HSU := Lib.hid (fun k (hk : k < S.length) => stk_succ (f := f) (t := t) hk)
  have HLE := Lib.hid (fun k (hk : k ≤ S.length) => stk_le (f := f) (t := t) hk)
  have H0 : Hid (stk f t S 0 = vz (t - f - 1) ++ vz n) := Lib.hid (by unfold stk ssb; rw [hz.1]; simp)
  have HM := Lib.hid hM
  have HLB := Lib.hid hlenB
  have hXo := h.off (Nat.le_refl _)
  have hks0 : Ks (WS b r) w (w.alloc (.cells (stc f t (some ⟨g, o, none⟩) n m) 31)) := Ks.of_below hb
  have h1 := h.below hb
  generalize stb (f, t, S) = ST at *
  generalize stk f t S = sk at *
  have e1 : IntKind.u64.wrap ((t - f) - 1) = t - f - 1 := IntWalk.u64_in _ (by omega)
  have e2 : IntKind.u64.wrap (n : Int) = n := IntWalk.u64_in _ (by omega)
  have e0 : 0 ≤ t - f - 1 ∧ t - f - 1 < 18446744073709551616 := by omega
  clear hok hz hoff k1 k2 k3 k4 k5 hM hlenB h hb
  obtain ⟨x0, x1, x2⟩ := hX.c3
  obtain ⟨d, hd⟩ : ∃ d, d = t - f := ⟨_, rfl⟩
  rw [← hd] at e1 e0 hpos H0
  have HD := Lib.hid hd
  clear hd
  go_enter Try.func41, Try.ntmps41
  go_wp2_with fail
  refine hrcon.mono ?_
  rintro e w1 ⟨rfl, hb1⟩
  replace hX := hX.below hb1
  have hks1 := hks0.trans (Ks.of_below hb1)
  replace h1 := h1.below hb1
  clear hrcon hb1 hks0 x0 x1 x2
  obtain ⟨x0, x1, x2⟩ := hX.c3
  go_wp2_with fail
  refine (hpos _).mono ?_
  rintro e w2 ⟨rfl, hb2⟩
  replace hX := hX.below hb2
  have hks2 := hks1.trans (Ks.of_below hb2)
  replace h1 := h1.below hb2
  clear hpos hb2 hks1 x0 x1 x2
  obtain ⟨x0, x1, x2⟩ := hX.c3
  have hB2 := Nat.le_trans hBw hks2.size
  have hX2l := hX.lt
  go_wp2_with fail
  refine (vput_any _ h1 e0.1 e0.2 (by omega) hB2).mono ?_
  rintro e w3 ⟨r3, rfl, hk3, hg3, hw3⟩
  have l1 := HLE.out 0 (Nat.zero_le _)
  rw [H0.out, List.length_append, vz_length, vz_length] at l1
  have hfit := putZ_fits (z := y) (y := vz (d - 1)) (M := M) (by rw [vz_length]; have := HM.out; omega)
  rw [hfit.1, hfit.2] at hw3
  replace hX := hX.ks hk3 hXo
  have hks3 := Ks.wr hks2 (Gr.refl _ _) hk3
  have hgr3 : Gr r r3 w := (Gr.refl _ _).trans hg3 hks2.size
  have hXo3 : ¬ WS b r3 w.heap.size := fun hs => by
    rcases hs with e | e
    · exact hXo (.inl e)
    · rcases hg3 with e2 | ⟨g', e2, hg'⟩
      · exact hXo (.inr (by rw [← e2]; exact e))
      · rw [e2] at e; injection e with e; have := hX2l; omega
  clear hfit hk3 h1 hg3 hks2 x0 x1 x2 e0
  obtain ⟨x0, x1, x2⟩ := hX.c3
  have hB3 := Nat.le_trans hBw hks3.size
  have v1 := vsz_le (d - 1)
  go_wp2_with fail
  refine (vput_any _ hw3 (by omega) (by omega) (by rw [List.length_append, vz_length]; omega) hB3).mono ?_
  rintro e w4 ⟨r4, rfl, hk4, hg4, hw4⟩
  have hfit := putZ_fits (z := y ++ vz (d - 1)) (y := vz n) (M := M) (by rw [List.length_append, vz_length, vz_length]; have := HM.out; push_cast at *; omega)
  rw [hfit.1, hfit.2, List.append_assoc, ← H0.out] at hw4
  replace hX := hX.ks hk4 hXo3
  have hks4 := Ks.wr hks3 hgr3 hk4
  have hgr4 : Gr r r4 w := hgr3.trans hg4 hks3.size
  clear hfit hk4 hw3 hg4 hks3 hgr3 x0 x1 x2 v1 l1 hXo3 hX2l
  obtain ⟨x0, x1, x2⟩ := hX.c3
  go_wp2
  clear x0 x1 x2 hX hXo
  go_loopw [25] (fun i wr => ∃ (k : Nat) (r' : Option Nat), k ≤ n ∧ i = .int .i64 k ∧ Ks (WS b r) w wr ∧ Gr r r' w ∧ Wr wr B b r' (y ++ sk k) M 0) (fun i _ => n - (intOf i).toNat)
  case atStart => exact ⟨0, r4, by omega, rfl, hks4, hgr4, hw4⟩
  case round =>
    obtain ⟨k, r', hk, rfl, hks, hgr, hw⟩ := hrel
    by_cases hlt : k < n
    · obtain ⟨a, l, mm, hl, hlm, han, hbl, hby, hcell⟩ := HC.out k hlt
      obtain ⟨c0, hus⟩ := hcell wr hks
      have hkS : k < S.length := by rw [HL.out]; exact hlt
      obtain ⟨q1, q2, q3, _⟩ := fne_parts (HFN.out k hkS)
      have hsu := HSU.out k hkS
      have hle0 := HLE.out k (by omega)
      have hle := HLE.out (k + 1) (by omega)
      rw [hsu, List.length_append, List.length_append, vz_length] at hle
      rw [hl] at hsu hle q1 q2
      obtain ⟨z, hz⟩ : ∃ z, z = S.getD k [] := ⟨_, rfl⟩
      rw [← hz] at hus hby q3 hsu hle hl
      have HSN := Lib.hid hsu
      have HBY := Lib.hid hby
      have HRI := Lib.hid q3
      have HA : Hid (0 < l → ∀ ad, a = some ad → ad.block < w.heap.size ∧ ¬ WS b r ad.block) := Lib.hid fun h0 ad ha => by
        obtain ⟨h1, h2⟩ := hbl h0 ad ha
        exact ⟨h2, HOFF.out _ h1 h2⟩
      have HF1 : Hid (((y ++ sk k).length : Int) + (vz (l : Int)).length ≤ M) := Lib.hid (by have := HM.out; rw [List.length_append, vz_length]; push_cast at *; omega)
      have HF2 : Hid (((y ++ sk k ++ vz (l : Int)).length : Int) + (rz z).length ≤ M) := Lib.hid (by have := HM.out; rw [List.length_append, List.length_append, vz_length]; push_cast at *; omega)
      have HY : Hid ((y ++ sk k).length ≤ 90740) := Lib.hid (by have := HLB.out; rw [List.length_append]; omega)
      have v3 := vsz_le (l : Int)
      have HY2 : Hid ((y ++ sk k ++ vz (l : Int)).length ≤ 90760) := Lib.hid (by have := HY.out; rw [List.length_append, vz_length]; omega)
      have e3 : IntKind.u64.wrap (l : Int) = l := IntWalk.u64_in _ (by omega)
      have e4 : (k : Int) < n := by omega
      have e5 : IntKind.i64.wrap ((k : Int) + 1) = ((k + 1 : Nat) : Int) := IntWalk.i64_in _ (by omega)
      have hB5 := Nat.le_trans hBw hks.size
      clear hcell hsu hle hle0 hby q3 han hbl hz hl v3
      go_wp2_with fail
      refine (vput_any _ hw (by omega) (by omega) (by have := HY.out; omega) hB5).mono ?_
      rintro e w5 ⟨r5, rfl, hk5, hg5, hw5⟩
      have hfit := putZ_fits HF1.out
      rw [hfit.1, hfit.2] at hw5
      have hno : 0 < l → ∀ ad, a = some ad → ¬ WS b r' ad.block := fun h0 ad ha hws => by
        obtain ⟨h1, h2⟩ := HA.out h0 ad ha
        rcases hws with e | e
        · exact h2 (.inl e)
        · rcases hgr with rfl | ⟨g', rfl, hg'⟩
          · exact h2 (.inr e)
          · injection e with e; omega
      have hus5 := hus.ks hk5 hno
      have hks5 := Ks.wr hks hgr hk5
      have hgr5 : Gr r r5 w := hgr.trans hg5 hks.size
      have hno5 : 0 < l → ∀ ad, a = some ad → ¬ WS b r5 ad.block := fun h0 ad ha hws => by
        obtain ⟨h1, h2⟩ := HA.out h0 ad ha
        rcases hws with e | e
        · exact h2 (.inl e)
        · rcases hgr5 with rfl | ⟨g', rfl, hg'⟩
          · exact h2 (.inr e)
          · injection e with e; omega
      have hB6 := Nat.le_trans hBw hks5.size
      clear hfit hk5 hg5 hw hno hks hgr hus c0
      go_wp2_with fail
      refine (putrising_yes a l mm z hw5 hus5 hno5 (by omega) HBY.out HRI.out HF2.out (by have := HY2.out; omega) hB6).mono ?_
      rintro e w6 ⟨r6, rfl, hk6, hg6, hw6⟩
      rw [List.append_assoc, List.append_assoc, ← HSN.out] at hw6
      have hks6 := Ks.wr hks5 hgr5 hk6
      have hgr6 : Gr r r6 w := hgr5.trans hg6 hks5.size
      clear hw5 hus5 hno5 hk6 hg6 hks5 hgr5
      go_wp2
      go_roundw
      case rel => exact ⟨k + 1, r6, by omega, by go_num, hks6, hgr6, hw6⟩
      case measure => simp [intOf]; omega
    · obtain rfl : k = n := by omega
      rw [HE.out] at hw
      go_wp2
      go_end0
      exact ⟨r', rfl, hks, hgr, hw⟩

set_option maxHeartbeats 2000000 in
theorem stput_no {w : World} {B b : Nat} {r : Option Nat} {y : List Int} {M c : Int} (P : Nat → Prop) (f t : Int) (A : Option Addr) (n m : Nat) (S : List (List Int)) (hok : stok (f, t, S) = false) (h : Wr w B b r y M c) (hz : Sts w P A n S) (hm : n ≤ m) (hn : n ≤ 1000000) (hlen : ∀ l ∈ S, l.length ≤ 1000000) :
    Calls Try.prog 41 #[.pointer (some ⟨b, 0, none⟩), stagg f t A n m] w (WFailPost B b r y M c 3 w) := by
  have hX := Blk.new w (stc f t A n m) 31
  have hb := below_one w (.cells (stc f t A n m) 31)
  have hrcon := stright_any P f t A n m S _ (hz.below hb) hm hn hlen
  rw [hok] at hrcon
  unfold BPost at hrcon
  have h1 := h.below hb
  obtain ⟨x0, x1, x2⟩ := hX.c3
  clear hX hz hlen hok
  go_enter Try.func41, Try.ntmps41
  go_wp2_with fail
  refine hrcon.mono ?_
  rintro e w1 ⟨rfl, hb1⟩
  replace h1 := h1.below hb1
  replace hb := hb.trans (hb1.mono hb.size)
  clear hb1 x0 x1 x2 hrcon
  go_wp2_with fail
  refine (wfail_any 3 h1).mono ?_
  rintro e w' ⟨rfl, hk, hw⟩
  have HW := Lib.hid hw
  clear hw
  go_wp2
  go_end0
  exact ⟨rfl, (Ks.of_below hb).trans hk, HW.out⟩

/-- A stripe's bytes, or none. -/
def StByPost (s : Stp) (w : World) (e : Ending) (w' : World) : Prop :=
  Below w.heap.size w w' ∧ ((stok s = true ∧ ∃ g, e = .returned (.tuple #[.slice (some ⟨g, 0, none⟩) (stb s).length (stb s).length, .int .i64 0]) ∧ w.heap.size ≤ g ∧ Bs w' (some ⟨g, 0, none⟩) (stb s).length (stb s)) ∨
    (stok s = false ∧ e = .returned (.tuple #[.slice none 0 0, .int .i64 3])))
end Go.Proofs.Ythpgandifeiejaa.Cur

namespace Go.Proofs.Ythpgandifeiejaa.Cur
open Go.RowKit Mem
set_option linter.unusedVariables false
set_option maxRecDepth 100000


theorem len_app1 {y : List Int} {x : Int} {M : Nat} (h : y.length + 1 ≤ M) (hM : M ≤ 1000000) : y.length + [x].length ≤ 1000000 := by simp; omega

end Go.Proofs.Ythpgandifeiejaa.Cur

namespace Go.Proofs.Ythpgandifeiejaa.Cur
open Go.RowKit Mem
set_option linter.unusedVariables false
set_option maxRecDepth 100000


/-- Sets in a row of the call's own. -/
def OwnSts (w : World) (B : Nat) (v : Value) (S : List (List Int)) : Prop := OwnQ (SlE U64E) 46 w B (fun k => B ≤ k ∧ v.ownBlock ≠ some k) v S
theorem OwnSts.nil (w : World) (B : Nat) : OwnSts w B (.slice none 0 0) [] := OwnQ.nil _ _ _ _ _
theorem OwnSts.ge {w : World} {B : Nat} {v : Value} {S : List (List Int)} (h : OwnSts w B v S) : ∀ g, v.ownBlock = some g → B ≤ g := by
  obtain ⟨cs, h1, h2, h3⟩ := h
  exact own_ge h2
theorem OwnSts.lt {w : World} {B : Nat} {v : Value} {S : List (List Int)} (h : OwnSts w B v S) : ∀ g, v.ownBlock = some g → g < w.heap.size := by
  obtain ⟨cs, h1, h2, h3⟩ := h
  exact fun g hg => (World.ownsRow.lt h2 g hg).2
theorem OwnSts.keep {w w' : World} {B : Nat} {v : Value} {S : List (List Int)} (h : OwnSts w B v S) (hk : ∀ b, B ≤ b → b < w.heap.size → w'.heap[b]? = w.heap[b]?) : OwnSts w' B v S := by
  have hge := h.ge
  have hlt := h.lt
  obtain ⟨cs, h1, h2, h3⟩ := h
  exact ⟨cs, h1.keep fun b hb hlt => hk b hb.1 hlt, own_block h2 fun k hk' => hk k (hge k hk') (hlt k hk'), h3⟩
theorem OwnSts.below {w w' : World} {B : Nat} {v : Value} {S : List (List Int)} (h : OwnSts w B v S) (hb : Below w.heap.size w w') : OwnSts w' B v S := h.keep fun b _ hlt => hb.block b hlt
theorem OwnSts.ks {S0 : Nat → Prop} {w w' : World} {B : Nat} {v : Value} {S : List (List Int)} (h : OwnSts w B v S) (k : Ks S0 w w') (h0 : ∀ g, S0 g → g < B) : OwnSts w' B v S := h.keep fun b hb hlt => k.block b hlt fun hs => by have := h0 b hs; omega
theorem OwnSts.kp {b : Nat} {w w' : World} {B : Nat} {v : Value} {S : List (List Int)} (h : OwnSts w B v S) (k : Kp b w w') (h0 : b < B) : OwnSts w' B v S := h.keep fun g hb hlt => k.block g hlt (by omega)
theorem OwnSts.sts {w : World} {B : Nat} {v : Value} {S : List (List Int)} (h : OwnSts w B v S) : ∃ A c, v = .slice A S.length c ∧ S.length ≤ c ∧ (A = none → c = 0) ∧ Sts w (fun k => B ≤ k) A S.length S := by
  have hge := h.ge
  obtain ⟨A, c, e, h1, h2, h3⟩ := OwnQ.slice h
  exact ⟨A, c, e, h1, h2, rfl, h3.mono fun b hb _ => by
    rcases hb with hb | hb
    · exact hb.1
    · exact hge b hb⟩
/-- One more set, behind an append. -/
theorem OwnSts.snoc {w w' : World} {B : Nat} {v v' : Value} {S : List (List Int)} {cs : List (List Value)} {c : List Value} {x : List Int}
    (h1 : Ch (SlE U64E) w (fun k => B ≤ k ∧ v.ownBlock ≠ some k) cs S) (h3 : ∀ g, v.ownBlock = some g → ¬ (fun k => B ≤ k ∧ v.ownBlock ≠ some k) g)
    (hx : (SlE U64E).R w (fun k => B ≤ k ∧ v.ownBlock ≠ some k) c x) (ho : w'.ownsRow B 46 1 v' (S.length + 1) (cs.flatten ++ c)) (hg : w.grownBy w' v.ownBlock) (hgr : Gr v.ownBlock v'.ownBlock w) : OwnSts w' B v' (S ++ [x]) := by
  have h := OwnQ.snoc (E := SlE U64E) (e := 46) h1 h3 hx ho hg hgr
  refine h.mono (fun b hb _ => ⟨hb.1.1, fun e => ?_⟩) (fun g hg2 hh => hh.2 hg2)
  rcases hgr with e2 | ⟨g', e2, hg'⟩
  · exact hb.1.2 (by rw [← e2]; exact e)
  · rw [e2] at e
    injection e with e
    have := hb.2
    omega
theorem kindSU : Kind 27 46 (.slice none 0 0) 1 24 := ⟨Try.underlying27, by kernel_rfl, rfl, by decide⟩

theorem St.fail {α : Type} {d d' : α} {n : Nat} {g : Rs α} {p c q p' x cc pp c2 q2 : Int} (e : g = (d', x, cc, pp)) (hcc : cc ≠ 0) (h0 : 0 ≤ p') (h1 : p' ≤ n) (h : FailSt c q cc pp c2 q2) : St d n g p c q d p' c2 q2 := by
  subst e
  refine ⟨h0, h1, ?_⟩
  rcases h with ⟨a0, rfl, rfl⟩ | ⟨a0, rfl, rfl⟩
  · exact .inr (.inr ⟨a0, hcc, rfl, rfl, by unfold fq; rw [if_neg hcc]⟩)
  · exact .inl ⟨a0, rfl, rfl, rfl⟩
theorem mny_bd {n : Nat} {z : List Int} {mo p c q k p' c' q' : Int} (h : St 0 n (mny z mo p) p c q k p' c' q') (hz : z.length = n) (h0 : 0 ≤ p) (h1 : p ≤ n) (hby : ∀ x ∈ z, 0 ≤ x ∧ x < 256) : 0 ≤ k ∧ (k ≤ mo ∨ k = 0) ∧ (c' = 0 → 1 ≤ k) := by
  obtain ⟨_, _, ⟨hc, rfl, rfl, _⟩ | ⟨_, g0, rfl, _, rfl, _⟩ | ⟨_, g0, rfl, rfl, _⟩⟩ := h
  · exact ⟨Int.le_refl _, .inr rfl, fun e => absurd e hc⟩
  · obtain ⟨k, p', e, k1, k2, _⟩ := mny_once hby h0 (by rw [hz]; exact h1) g0
    rw [e]
    exact ⟨by show 0 ≤ k; omega, .inl k2, fun _ => k1⟩
  · exact ⟨Int.le_refl _, .inr rfl, fun e => absurd e g0⟩
theorem rg_len {n : Nat} {z : List Int} {p c q : Int} {N : Nat} {l : List Int} {p' c' q' : Int} (h : RgSt n z p c q N l p' c' q') (hz : z.length = n) (h0 : 0 ≤ p) (h1 : p ≤ n) (hby : ∀ x ∈ z, 0 ≤ x ∧ x < 256) : l.length ≤ N ∧ (c' = 0 → l.length = N ∧ risesB l = true) := by
  by_cases hc : c' = 0
  · subst hc
    obtain ⟨_, g0, gl, _⟩ := St.good h.st
    obtain ⟨l2, p2, e, e2, e3, _⟩ := rg_once hby h0 (by rw [hz]; exact h1) g0
    rw [e] at gl
    have : l = l2 := gl
    subst this
    exact ⟨by omega, fun _ => ⟨e2, e3⟩⟩
  · rw [h.nil hc]
    exact ⟨by simp, fun e => absurd e hc⟩

def NumPost (b : Nat) (s : Value) (n : Nat) (g : Rs Int) (p c q : Int) (w : World) (e : Ending) (w' : World) : Prop :=
  ∃ k p' c' q', e = .returned (.int .i64 k) ∧ Kp b w w' ∧ IsRd w' b s p' c' q' ∧ St 0 n g p c q k p' c' q'
set_option maxHeartbeats 1000000 in
theorem snum_any (b : Nat) (a : Option Addr) (n m : Nat) (z : List Int) (p c q mo : Int) (w : World) (h : IsRd w b (.slice a n m) p c q) (hz : Bs w a n z) (h0 : 0 ≤ p) (h1 : p ≤ n) (hn : n ≤ 100000) (hby : ∀ x ∈ z, 0 ≤ x ∧ x < 256) (hmo : mo ≤ 9223372036854775807) :
    Calls Try.prog 71 #[.pointer (some ⟨b, 0, none⟩), .int .i64 mo] w (NumPost b (.slice a n m) n (mny z mo p) p c q w) := by
  have hn' := hn
  replace hn : n ≤ 1000000 := by omega
  have HZL := hz.1
  have HBY := Lib.hid hby
  clear hby
  go_enter Try.func71, Try.ntmps71
  go_wp2_with fail
  refine (at_any b _ p c q w h).mono ?_
  rintro e w' ⟨rfl, rfl⟩
  go_wp2_with fail
  refine (vint_any _ _ _ _ _ _ _ _ _ _ h hz h0 h1 hn HBY.out hmo).mono ?_
  rintro e w1 ⟨v, p1, c1, q1, rfl, hk1, hr1, hs1⟩
  have hst := hs1.st hz.1 h0 h1 HBY.out
  obtain ⟨p10, p11⟩ := hst.place
  obtain ⟨v0, _⟩ := vm_bd hst HBY.out
  have HS := Lib.hid hst
  clear hs1 hst HZL
  by_cases hv : v = 0
  · subst hv
    go_wp2_with fail
    refine (fail_any _ _ _ _ _ 3 p _ hr1).mono ?_
    rintro e w2 ⟨c2, q2, rfl, hk2, hr2, hf⟩
    have HM : Hid (St 0 n (mny z mo p) p c q 0 p1 c2 q2) := Lib.hid (HS.out.bind (f := fun k p1 => if k = 0 then (0, 0, 3, p) else (k, p1, 0, 0)) (St.fail (d' := 0) (x := 0) (by rw [if_pos rfl]) (by decide) p10 p11 hf))
    have HK := Lib.hid (hk1.trans hk2)
    clear hk1 hk2 hf
    go_wp2
    go_ret
    exact ⟨0, p1, c2, q2, rfl, HK.out, hr2, HM.out⟩
  · have hvb : (v == 0) = false := by simpa using hv
    have HM : Hid (St 0 n (mny z mo p) p c q v p1 c1 q1) := Lib.hid (HS.out.bind (f := fun k p1 => if k = 0 then (0, 0, 3, p) else (k, p1, 0, 0)) (by
      rw [if_neg hv]
      by_cases hc : c1 = 0
      · subst hc; exact St.done rfl p10 p11
      · exact absurd (HS.out.nil hc) hv))
    clear hv
    go_wp2
    go_ret
    exact ⟨v, p1, c1, q1, rfl, hk1, hr1, HM.out⟩

/-- Where a stripe ends. -/
def srt (z : List Int) (f p : Int) : Rs Int := if 4611686018427387904 < f then (0, 0, 3, p) else (vg z p).bind 0 fun n p1 => if 4611686018427387904 - f ≤ n then (0, 0, 3, p) else (f + n + 1, p1, 0, 0)
theorem Rs.bind_assoc {α β γ : Type} (g : Rs α) (d1 : β) (f : α → Int → Rs β) (d : γ) (h : β → Int → Rs γ) : (g.bind d1 f).bind d h = g.bind d fun a p => (f a p).bind d h := by
  by_cases hg : g.2.2.1 = 0
  · have e1 : g.bind d1 f = f g.1 g.2.1 := by unfold Rs.bind; rw [if_neg (by simp [hg])]
    have e2 : (g.bind d fun a p => (f a p).bind d h) = (f g.1 g.2.1).bind d h := if_neg (by simp [hg])
    rw [e1, e2]
  · have e1 : g.bind d1 f = (d1, 0, g.2.2.1, g.2.2.2) := by unfold Rs.bind; rw [if_pos hg]
    have e2 : (g.bind d fun a p => (f a p).bind d h) = (d, 0, g.2.2.1, g.2.2.2) := if_pos hg
    rw [e1, e2]; unfold Rs.bind; rw [if_pos hg]
theorem str_eq (z : List Int) (f p : Int) : str z f p = (srt z f p).bind stp0 fun t p1 => (mny z 8 p1).bind stp0 fun k p2 => (ssg z k.toNat p2 []).bind stp0 fun S p3 => ((f, t, S), p3, 0, 0) := by
  unfold str srt
  by_cases hf : 4611686018427387904 < f
  · rw [if_pos hf, if_pos hf]; rfl
  · rw [if_neg hf, if_neg hf, Rs.bind_assoc]
    congr 1
    funext n p1
    by_cases hn : 4611686018427387904 - f ≤ n
    · rw [if_pos hn, if_pos hn]; rfl
    · rw [if_neg hn, if_neg hn]; rfl
def ToPost (b : Nat) (s : Value) (n : Nat) (g : Rs Int) (p c q : Int) (w : World) (e : Ending) (w' : World) : Prop :=
  ∃ t p' c' q', e = .returned (.int .u64 t) ∧ 0 ≤ t ∧ t < 18446744073709551616 ∧ Kp b w w' ∧ IsRd w' b s p' c' q' ∧ St 0 n g p c q (if c' = 0 then t else 0) p' c' q'
theorem wrap_bd (x : Int) : 0 ≤ IntKind.u64.wrap x ∧ IntKind.u64.wrap x < 18446744073709551616 := by rw [wrapu]; omega
set_option maxHeartbeats 2000000 in
theorem sto_any (b : Nat) (a : Option Addr) (n m : Nat) (z : List Int) (p c q f : Int) (w : World) (h : IsRd w b (.slice a n m) p c q) (hz : Bs w a n z) (h0 : 0 ≤ p) (h1 : p ≤ n) (hn : n ≤ 1000000) (hby : ∀ x ∈ z, 0 ≤ x ∧ x < 256) (f0 : 0 ≤ f) (f1 : f < 18446744073709551616) :
    Calls Try.prog 70 #[.pointer (some ⟨b, 0, none⟩), .int .u64 f] w (ToPost b (.slice a n m) n (srt z f p) p c q w) := by
  have HBY := Lib.hid hby
  clear hby
  by_cases hf : 4611686018427387904 < f
  · have HE : Hid (srt z f p = (0, 0, 3, p)) := Lib.hid (by unfold srt; rw [if_pos hf])
    generalize srt z f p = G at *
    go_enter Try.func70, Try.ntmps70
    go_wp2_with fail
    refine (at_any b _ p c q w h).mono ?_
    rintro e w' ⟨rfl, rfl⟩
    go_wp2_with fail
    refine (fail_any _ _ _ _ _ 3 p _ h).mono ?_
    rintro e w1 ⟨c1, q1, rfl, hk1, hr1, hfs⟩
    have hz1 := hz.kp h (by simp) hk1
    have hc1 : c1 ≠ 0 := by
      rcases hfs with ⟨_, rfl, _⟩ | ⟨h, rfl, _⟩
      · decide
      · exact h
    go_wp2_with fail
    refine (vread_any _ _ _ _ _ _ _ _ _ hr1 hz1 h0 h1 hn HBY.out).mono ?_
    rintro e w2 ⟨v, p2, c2, q2, rfl, hk2, hr2, hs2⟩
    have hst := hs2.st hz1.1 h0 h1 HBY.out
    obtain ⟨p20, p21⟩ := hst.place
    obtain ⟨rfl, rfl, rfl⟩ := hst.bad hc1
    have HF := Lib.hid (St.fail (d := (0 : Int)) (p := p) HE.out (by decide) p20 p21 hfs)
    have HK := Lib.hid (hk1.trans hk2)
    have HC := Lib.hid hc1
    have e1 : IntKind.u64.wrap (4611686018427387904 - f) = 18446744073709551616 + 4611686018427387904 - f := by rw [wrapu]; omega
    clear hk1 hk2 hs2 hst hz1 hfs hc1 hr1 h hz
    obtain ⟨T, hT⟩ : ∃ T, T = IntKind.u64.wrap (IntKind.u64.wrap (f + 0) + 1) := ⟨_, rfl⟩
    have hTb := wrap_bd (IntKind.u64.wrap (f + 0) + 1)
    rw [← hT] at hTb
    rw [Int.add_zero] at hT
    have hff : IntKind.u64.wrap f = f := IntWalk.u64_in _ (by omega)
    rw [hff] at hT
    have hT2 : IntKind.u64.wrap (f + 1) = T := hT.symm
    have HT := Lib.hid hTb
    clear hT hTb
    go_wp2
    go_ret
    exact ⟨T, p2, _, _, rfl, HT.out.1, HT.out.2, HK.out, hr2, by rw [if_neg HC.out]; exact HF.out⟩
  · have HE : Hid (srt z f p = (vg z p).bind 0 fun n p1 => if 4611686018427387904 - f ≤ n then (0, 0, 3, p) else (f + n + 1, p1, 0, 0)) := Lib.hid (by unfold srt; rw [if_neg hf])
    generalize srt z f p = G at *
    have e1 : IntKind.u64.wrap (4611686018427387904 - f) = 4611686018427387904 - f := IntWalk.u64_in _ (by omega)
    go_enter Try.func70, Try.ntmps70
    go_wp2_with fail
    refine (at_any b _ p c q w h).mono ?_
    rintro e w' ⟨rfl, rfl⟩
    go_wp2_with fail
    refine (vread_any _ _ _ _ _ _ _ _ _ h hz h0 h1 hn HBY.out).mono ?_
    rintro e w2 ⟨v, p2, c2, q2, rfl, hk2, hr2, hs2⟩
    have hst := hs2.st hz.1 h0 h1 HBY.out
    have hvb := rd_lt hs2 hz.1 h0 h1 HBY.out
    obtain ⟨p20, p21⟩ := hst.place
    have HS := Lib.hid hst
    clear hs2 hst
    by_cases hv : 4611686018427387904 - f ≤ v
    · have hT := wrap_bd (IntKind.u64.wrap (f + v) + 1)
      have HT := Lib.hid hT
      clear hT
      go_wp2_with fail
      refine (fail_any _ _ _ _ _ 3 p _ hr2).mono ?_
      rintro e w3 ⟨c3, q3, rfl, hk3, hr3, hfs⟩
      have hc3 : c3 ≠ 0 := by
        rcases hfs with ⟨_, rfl, _⟩ | ⟨h, rfl, _⟩
        · decide
        · exact h
      have HF : Hid (St 0 n G p c q 0 p2 c3 q3) := Lib.hid (by
        rw [HE.out]
        exact HS.out.bind (St.fail (d := (0 : Int)) (d' := 0) (x := 0) (by rw [if_pos hv]) (by decide) p20 p21 hfs))
      have HK := Lib.hid (hk2.trans hk3)
      have HC := Lib.hid hc3
      clear hk2 hk3 hfs hc3 hv hvb
      obtain ⟨T, hT⟩ : ∃ T, IntKind.u64.wrap (IntKind.u64.wrap (f + v) + 1) = T := ⟨_, rfl⟩
      rw [hT] at HT
      go_wp2
      go_ret
      exact ⟨T, p2, _, _, rfl, HT.out.1, HT.out.2, HK.out, hr3, by rw [if_neg HC.out]; exact HF.out⟩
    · have e2 : IntKind.u64.wrap (f + v) = f + v := IntWalk.u64_in _ (by omega)
      have e3 : IntKind.u64.wrap (f + v + 1) = f + v + 1 := IntWalk.u64_in _ (by omega)
      have HT : Hid (0 ≤ f + v + 1 ∧ f + v + 1 < 18446744073709551616) := Lib.hid (by omega)
      have HF : Hid (St 0 n G p c q (if c2 = 0 then f + v + 1 else 0) p2 c2 q2) := Lib.hid (by
        rw [HE.out]
        refine HS.out.bind ?_
        by_cases hc : c2 = 0
        · subst hc
          rw [if_pos rfl]
          exact St.done (by rw [if_neg hv]) p20 p21
        · rw [if_neg hc]
          exact St.stay p20 p21 hc)
      go_wp2
      go_ret
      exact ⟨f + v + 1, p2, c2, q2, rfl, HT.out.1, HT.out.2, hk2, hr2, HF.out⟩
end Go.Proofs.Ythpgandifeiejaa.Cur

namespace Go.Proofs.Ythpgandifeiejaa.Cur
open Go.RowKit Mem
set_option linter.unusedVariables false
set_option maxRecDepth 100000


theorem apB_iff (S : List (List Int)) : apB S = true ↔ ∀ i, i < S.length → tw (S.take i) (S.getD i []) = false := by
  constructor
  · intro h i hi
    cases e : tw (S.take i) (S.getD i []) with
    | false => rfl
    | true => rw [apB_no hi e] at h; cases h
  · exact apB_yes
theorem apB_snoc (S : List (List Int)) (l : List Int) : apB (S ++ [l]) = (apB S && !tw S l) := by
  rw [Bool.eq_iff_iff, Bool.and_eq_true, apB_iff, apB_iff, List.length_append, List.length_singleton]
  constructor
  · intro h
    refine ⟨fun i hi => ?_, ?_⟩
    · have := h i (by omega)
      rwa [List.take_append_of_le_length (by omega), List.getD_eq_getElem?_getD, List.getElem?_append_left hi, ← List.getD_eq_getElem?_getD] at this
    · have := h S.length (by omega)
      rw [List.take_append_of_le_length (Nat.le_refl _), List.take_length, List.getD_eq_getElem?_getD, List.getElem?_append_right (Nat.le_refl _), Nat.sub_self] at this
      have h2 : tw S l = false := this
      rw [h2]; rfl
  · rintro ⟨h1, h2⟩ i hi
    rcases Nat.lt_or_ge i S.length with h3 | h3
    · rw [List.take_append_of_le_length (by omega), List.getD_eq_getElem?_getD, List.getElem?_append_left h3, ← List.getD_eq_getElem?_getD]
      exact h1 i h3
    · obtain rfl : i = S.length := by omega
      rw [List.take_append_of_le_length (Nat.le_refl _), List.take_length, List.getD_eq_getElem?_getD, List.getElem?_append_right (Nat.le_refl _), Nat.sub_self]
      show tw S l = false
      simpa using h2
theorem stl_fin {n : Nat} {S : List (List Int)} {l : List Int} {p1 p2 c2 q2 c' q' : Int} (hc : c2 = 0 → risesB l = true ∧ 1 ≤ l.length ∧ apB S = true) (hl : c2 ≠ 0 → l = []) (p20 : 0 ≤ p2) (p21 : p2 ≤ n)
    (hx : (ndb l = false ∧ FailSt c2 q2 3 p1 c' q') ∨ (ndb l = true ∧ apB (S ++ [l]) = false ∧ FailSt c2 q2 13 p1 c' q') ∨ (ndb l = true ∧ apB (S ++ [l]) = true ∧ c' = c2 ∧ q' = q2)) :
    St [] n (if 4294967296 ≤ l.getD (l.length - 1) 0 then (([] : List Int), (0 : Int), (3 : Int), p1) else if tw S l then ([], 0, 13, p1) else (l, p2, 0, 0)) p2 c2 q2 (if c' = 0 then l else []) p2 c' q' := by
  by_cases hc2 : c2 = 0
  · obtain ⟨h1, h2, h3⟩ := hc hc2
    have hnd := ndb_last h1 h2
    rcases hx with ⟨a, b⟩ | ⟨a, b, d⟩ | ⟨a, b, d, e⟩
    · have hb := b
      rcases hb with ⟨_, rfl, rfl⟩ | ⟨h, _⟩
      · rw [a] at hnd
        rw [if_neg (show ¬ (3 : Int) = 0 by decide)]
        have h4 : 4294967296 ≤ l.getD (l.length - 1) 0 := by
          have := of_decide_eq_false hnd.symm
          omega
        exact St.fail (by rw [if_pos h4]) (by decide) p20 p21 b
      · exact absurd hc2 h
    · have hb := d
      rcases hb with ⟨_, rfl, rfl⟩ | ⟨h, _⟩
      · rw [a] at hnd
        rw [if_neg (show ¬ (13 : Int) = 0 by decide)]
        have h4 : ¬ 4294967296 ≤ l.getD (l.length - 1) 0 := by
          have := of_decide_eq_true hnd.symm
          omega
        have h5 : tw S l = true := by rw [apB_snoc, h3] at b; simpa using b
        exact St.fail (by rw [if_neg h4, if_pos h5]) (by decide) p20 p21 d
      · exact absurd hc2 h
    · subst d e hc2
      rw [if_pos rfl]
      rw [a] at hnd
      have h4 : ¬ 4294967296 ≤ l.getD (l.length - 1) 0 := by
        have := of_decide_eq_true hnd.symm
        omega
      have h5 : tw S l = false := by rw [apB_snoc, h3] at b; simpa using b
      exact St.done (by rw [if_neg h4, h5]; rfl) p20 p21
  · have hs : c' = c2 ∧ q' = q2 := by
      rcases hx with ⟨a, b⟩ | ⟨a, b, d⟩ | ⟨a, b, d, e⟩
      · rcases b with ⟨h, _⟩ | ⟨_, h1, h2⟩
        · exact absurd h hc2
        · exact ⟨h1, h2⟩
      · rcases d with ⟨h, _⟩ | ⟨_, h1, h2⟩
        · exact absurd h hc2
        · exact ⟨h1, h2⟩
      · exact ⟨d, e⟩
    obtain ⟨rfl, rfl⟩ := hs
    rw [if_neg hc2]
    exact St.stay p20 p21 hc2

def SetPost (B b : Nat) (s : Value) (n : Nat) (z : List Int) (S : List (List Int)) (v : Value) (p c q : Int) (w : World) (e : Ending) (w' : World) : Prop :=
  ∃ v' l p' c' q', e = .returned v' ∧ Ks (fun k => k = b ∨ v.ownBlock = some k) w w' ∧ IsRd w' b s p' c' q' ∧ OwnSts w' B v' (S ++ [l]) ∧ l.length ≤ 8 ∧ (∀ x ∈ l, 0 ≤ x ∧ x < 18446744073709551616) ∧ St [] n (stl z S p) p c q (if c' = 0 then l else []) p' c' q'

set_option maxHeartbeats 4000000 in
theorem sset_any (B b : Nat) (a : Option Addr) (n m : Nat) (z : List Int) (S : List (List Int)) (v : Value) (p c q : Int) (w : World) (h : IsRd w b (.slice a n m) p c q) (hz : Bs w a n z) (h0 : 0 ≤ p) (h1 : p ≤ n) (hn : n ≤ 100000) (hby : ∀ x ∈ z, 0 ≤ x ∧ x < 256)
    (ho : OwnSts w B v S) (hbB : b < B) (hBw : B ≤ w.heap.size) (hle : ∀ l ∈ S, l.length ≤ 8) (hSl : S.length ≤ 100) (hap : c = 0 → apB S = true) :
    Calls Try.prog 72 #[.pointer (some ⟨b, 0, none⟩), v] w (SetPost B b (.slice a n m) n z S v p c q w) := by
  have HBY := Lib.hid hby
  have HAP := Lib.hid hap
  have HLE := Lib.hid hle
  have HZL := Lib.hid hz.1
  clear hby hap hle
  obtain ⟨Av, cv, rfl, _⟩ := ho.sts
  go_enter Try.func72, Try.ntmps72
  go_wp2_with fail
  refine (snum_any b a n m z p c q 8 w h hz h0 h1 hn HBY.out (by omega)).mono ?_
  rintro e w1 ⟨k, p1, c1, q1, rfl, hk1, hr1, hs1⟩
  obtain ⟨p10, p11⟩ := hs1.place
  obtain ⟨k0, k8, k1⟩ := mny_bd hs1 hz.1 h0 h1 HBY.out
  have HS1 := Lib.hid hs1
  have hz1 := hz.kp h (by simp) hk1
  have ho1 := ho.kp hk1 hbB
  have HK1 := Lib.hid k1
  clear hs1 k1 hz ho h
  go_wp2_with fail
  refine (at_any b _ p1 c1 q1 w1 hr1).mono ?_
  rintro e w' ⟨rfl, rfl⟩
  go_wp2_with fail
  refine (rrising_any b a n m z p1 c1 q1 k w1 hr1 hz1 p10 p11 hn HBY.out).mono ?_
  rintro e w2 ⟨v2, l, p2, c2, q2, rfl, ho2, hk2, hr2, hs2, hlb⟩
  have hl8 := rg_len hs2 HZL.out p10 p11 HBY.out
  have HS2 := Lib.hid hs2.st
  have HP2 := Lib.hid hs2.st.place
  have HLN := Lib.hid (fun (hc : c2 ≠ 0) => hs2.nil hc)
  have HCC : Hid (c2 = 0 → risesB l = true ∧ 1 ≤ l.length ∧ apB S = true) := Lib.hid fun hc => by
    obtain ⟨e1, e2⟩ := hl8.2 hc
    have g1 := hs2.st
    rw [hc] at g1
    obtain ⟨hc1, _⟩ := St.good g1
    have g2 := HS1.out
    rw [hc1] at g2
    obtain ⟨hc0, _⟩ := St.good g2
    have := HK1.out hc1
    exact ⟨e2, by omega, HAP.out hc0⟩
  have hlen : l.length ≤ 8 := by have := hl8.1; omega
  have HLB := Lib.hid hlb
  have ho1' := ho1.kp hk2 hbB
  have hsz1 := hk1.size
  have hK12 := hk1.trans hk2
  obtain ⟨A2, m2, rfl⟩ := ho2.slice
  have hX := Blk.new w2 #[.slice A2 l.length m2] 46
  have hbX := below_one w2 (.cells #[.slice A2 l.length m2] 46)
  have hrwX := rw_new w2 [.slice A2 l.length m2] 46
  have hr3 := hr2.below hbX
  have hoS := ho1'.below hbX
  have hoL := own_below ho2 hbX
  have hltv := ho1.lt
  have hel := (SlE U64E).mono (OwnU.el (w := w2.alloc (.cells #[.slice A2 l.length m2] 46)) hoL hlb) (Q := fun k => B ≤ k ∧ (Value.slice Av S.length cv).ownBlock ≠ some k) (fun g hg _ => by
    have h1 := own_ge ho2 g hg
    exact ⟨by omega, fun e => by have := hltv g e; omega⟩)
  obtain ⟨cs, g1, g2', g3⟩ := hoS
  have g2 : (w2.alloc (.cells #[.slice A2 l.length m2] 46)).ownsRow B 46 1 (.slice Av S.length cv) S.length cs.flatten := g2'
  clear g2'
  have hge2 := own_ge g2
  have hlt2 := hltv
  have HL1 : Hid (S.length + 1 ≤ 1000000) := Lib.hid (by omega)
  have hB2 : B ≤ (w2.alloc (.cells #[.slice A2 l.length m2] 46)).heap.size := by have := hk2.size; simp; omega
  have HKX : Hid (Ks (fun k => k = b ∨ (Value.slice Av S.length cv).ownBlock = some k) w (w2.alloc (.cells #[.slice A2 l.length m2] 46))) := Lib.hid ((Ks.of_kp hK12 (.inl rfl)).trans (Ks.of_below hbX))
  have hge3 := own_ge ho2
  clear hs2 hl8 hlb hk1 hk2 hK12 hr1 hr2 hz1 ho1 ho1' hX hbX k8 k0
  go_wp2_with (at_builtin; go_must (refine list_append_rw kindSU rfl (.tmp 15) (.tmp 17) rfl B _ _ _ rfl g2 _ 1 _ [.slice A2 l.length m2] rfl rfl hrwX (by simp) (by simp [Value.oneCell']) HL1.out (by omega) hB2 ?_; intro v' w4 ho4 hg4 hgr4; have H4 := Lib.hid (OwnSts.snoc g1 g3 hel ho4 hg4 hgr4); have HG := Lib.hid (HKX.out.trans (Ks.of_grown hg4 fun k e => .inr e)); have hr4 := rd_grown hr3 hg4 (fun e => by have := hge2 b e; omega); have hoL4 : OwnU w4 w1.heap.size (.slice A2 l.length m2) l := own_ks hoL (Ks.of_grown (S := fun k => (Value.slice Av S.length cv).ownBlock = some k) hg4 (fun k e => e)) (fun g hg e => by have := hge3 g hg; have := hlt2 g e; omega); clear g1 g2 g3 hel ho4 hg4 hgr4 hrwX hr3 hoL hge2 hge3 hlt2 hltv hB2))
  obtain ⟨A4, c4, rfl, hle4, hnil4, hst4⟩ := H4.out.sts
  obtain ⟨_, _, _, hus4⟩ := OwnU.us hoL4
  have hncon := arenodes_any A2 l.length m2 l w4 hus4 (by omega)
  have hacon := fun w' (hk : Kp b w4 w') => apart_any _ A4 _ c4 (S ++ [l]) w' (hst4.keep fun g hg hlt => hk.block g hlt (by omega)) hle4 (by rw [List.length_append]; simp; omega) (fun x hx => by
    rcases List.mem_append.1 hx with hx | hx
    · have := HLE.out x hx; omega
    · rw [List.mem_singleton] at hx; subst hx; omega)
  unfold BPost at hncon hacon
  have hSl1 : (S ++ [l]).length = S.length + 1 := by simp
  rw [hSl1] at hacon H4
  have HACON := Lib.hid hacon
  have HEND : Hid (OwnSts w4 B (.slice A4 (S.length + 1) c4) (S ++ [l])) := H4
  clear hst4 hoL4 hacon hSl1 hus4 hle4 hnil4
  obtain ⟨nv, hnv⟩ : ∃ nv, nv = ndb l := ⟨_, rfl⟩
  obtain ⟨av, hav⟩ : ∃ av, av = apB (S ++ [l]) := ⟨_, rfl⟩
  rw [← hnv] at hncon
  rw [← hav] at HACON
  have HN := Lib.hid hnv
  have HA := Lib.hid hav
  clear hnv hav
  have e9 : ((S.length + 1 : Nat) : Int) = (S.length : Int) + 1 := by omega
  go_wp2_with fail
  refine hncon.mono ?_
  rintro e w5 ⟨rfl, hb5⟩
  have hr5 := hr4.below hb5
  have hk5 : Kp b w4 w5 := Kp.of_below hb5
  clear hncon hb5 hr4
  cases nv
  · go_wp2_with fail
    refine (fail_any _ _ _ _ _ 3 p1 _ hr5).mono ?_
    rintro e w6 ⟨c6, q6, rfl, hk6, hr6, hf6⟩
    have hk6' := hk5.trans hk6
    have hc6 : c6 ≠ 0 := by
      rcases hf6 with ⟨_, rfl, _⟩ | ⟨h, rfl, _⟩
      · decide
      · exact h
    have HF6 := Lib.hid hf6
    have HC6 := Lib.hid hc6
    have hacon := HACON.out w6 hk6'
    clear hk5 hk6 hr5 hf6 hc6
    go_wp2_with fail
    refine hacon.mono ?_
    rintro e w7 ⟨rfl, hb7⟩
    have hr7 := hr6.below hb7
    have hk7 := hk6'.trans (Kp.of_below (b := b) hb7)
    clear hacon hb7 hr6 hk6'
    have HFIN := Lib.hid (HS1.out.bind (f := fun m p1 => (rg z m.toNat p1).bind [] fun l p2 => if 4294967296 ≤ l.getD (l.length - 1) 0 then ([], 0, 3, p1) else if tw S l then ([], 0, 13, p1) else (l, p2, 0, 0)) (HS2.out.bind (f := fun l p2 => if 4294967296 ≤ l.getD (l.length - 1) 0 then ([], 0, 3, p1) else if tw S l then ([], 0, 13, p1) else (l, p2, 0, 0)) (stl_fin HCC.out HLN.out HP2.out.1 HP2.out.2 (.inl ⟨HN.out.symm, HF6.out⟩))))
    cases av
    · go_wp2_with fail
      refine (fail_any _ _ _ _ _ 13 p1 _ hr7).mono ?_
      rintro e w8 ⟨c8, q8, rfl, hk8, hr8, hf8⟩
      have hcq : c8 = c6 ∧ q8 = q6 := by
        rcases hf8 with ⟨h, _⟩ | ⟨_, h1, h2⟩
        · exact absurd h HC6.out
        · exact ⟨h1, h2⟩
      obtain ⟨rfl, rfl⟩ := hcq
      have HK8 := Lib.hid (hk7.trans hk8)
      clear hf8 hk7 hk8
      go_wp2
      go_ret
      exact ⟨_, l, p2, _, _, rfl, HG.out.trans (Ks.of_kp HK8.out (.inl rfl)), hr8, HEND.out.kp HK8.out hbB, hlen, HLB.out, HFIN.out⟩
    · have HK7 := Lib.hid hk7
      clear hk7
      go_wp2
      go_ret
      exact ⟨_, l, p2, _, _, rfl, HG.out.trans (Ks.of_kp HK7.out (.inl rfl)), hr7, HEND.out.kp HK7.out hbB, hlen, HLB.out, HFIN.out⟩
  · have hacon := HACON.out w5 hk5
    go_wp2_with fail
    refine hacon.mono ?_
    rintro e w7 ⟨rfl, hb7⟩
    have hr7 := hr5.below hb7
    have hk7 := hk5.trans (Kp.of_below (b := b) hb7)
    clear hacon hb7 hr5 hk5
    cases av
    · go_wp2_with fail
      refine (fail_any _ _ _ _ _ 13 p1 _ hr7).mono ?_
      rintro e w8 ⟨c8, q8, rfl, hk8, hr8, hf8⟩
      have HFIN := Lib.hid (HS1.out.bind (f := fun m p1 => (rg z m.toNat p1).bind [] fun l p2 => if 4294967296 ≤ l.getD (l.length - 1) 0 then ([], 0, 3, p1) else if tw S l then ([], 0, 13, p1) else (l, p2, 0, 0)) (HS2.out.bind (f := fun l p2 => if 4294967296 ≤ l.getD (l.length - 1) 0 then ([], 0, 3, p1) else if tw S l then ([], 0, 13, p1) else (l, p2, 0, 0)) (stl_fin HCC.out HLN.out HP2.out.1 HP2.out.2 (.inr (.inl ⟨HN.out.symm, HA.out.symm, hf8⟩)))))
      have HK8 := Lib.hid (hk7.trans hk8)
      clear hf8 hk7 hk8
      go_wp2
      go_ret
      exact ⟨_, l, p2, _, _, rfl, HG.out.trans (Ks.of_kp HK8.out (.inl rfl)), hr8, HEND.out.kp HK8.out hbB, hlen, HLB.out, HFIN.out⟩
    · have HFIN := Lib.hid (HS1.out.bind (f := fun m p1 => (rg z m.toNat p1).bind [] fun l p2 => if 4294967296 ≤ l.getD (l.length - 1) 0 then ([], 0, 3, p1) else if tw S l then ([], 0, 13, p1) else (l, p2, 0, 0)) (HS2.out.bind (f := fun l p2 => if 4294967296 ≤ l.getD (l.length - 1) 0 then ([], 0, 3, p1) else if tw S l then ([], 0, 13, p1) else (l, p2, 0, 0)) (stl_fin HCC.out HLN.out HP2.out.1 HP2.out.2 (.inr (.inr ⟨HN.out.symm, HA.out.symm, rfl, rfl⟩)))))
      have HK7 := Lib.hid hk7
      clear hk7
      go_wp2
      go_ret
      exact ⟨_, l, p2, _, _, rfl, HG.out.trans (Ks.of_kp HK7.out (.inl rfl)), hr7, HEND.out.kp HK7.out hbB, hlen, HLB.out, HFIN.out⟩
end Go.Proofs.Ythpgandifeiejaa.Cur

namespace Go.Proofs.Ythpgandifeiejaa.Cur
open Go.RowKit Mem
set_option linter.unusedVariables false
set_option maxRecDepth 100000


theorem Kp.ks {b : Nat} {S : Nat → Prop} {w w1 w2 : World} (h : Kp b w w1) (k : Ks S w1 w2) (hS : ∀ g, S g → g = b ∨ w.heap.size ≤ g) : Kp b w w2 :=
  ⟨k.os.trans h.os, k.tape.trans h.tape, k.output.trans h.output, Nat.le_trans h.size k.size, fun g hg hne => (k.block g (Nat.lt_of_lt_of_le hg h.size) fun hs => by
    rcases hS g hs with e | e
    · exact hne e
    · omega).trans (h.block g hg hne)⟩
/-- How far the sets are read. -/
def SsSt (n : Nat) (z : List Int) (N : Nat) (p2 c2 q2 : Int) (k : Nat) (S : List (List Int)) (pk ck qk : Int) : Prop :=
  (ck = 0 ∧ c2 = 0 ∧ qk = q2 ∧ ssg z N p2 [] = ssg z (N - k) pk S ∧ apB S = true) ∨ (ck ≠ 0 ∧ St [] n (ssg z N p2 []) p2 c2 q2 [] pk ck qk)
theorem SsSt.start {n : Nat} {z : List Int} {N : Nat} {p2 c2 q2 : Int} (h0 : 0 ≤ p2) (h1 : p2 ≤ n) : SsSt n z N p2 c2 q2 0 [] p2 c2 q2 := by
  by_cases hc : c2 = 0
  · exact .inl ⟨hc, hc, rfl, rfl, rfl⟩
  · exact .inr ⟨hc, St.stay h0 h1 hc⟩
theorem SsSt.next {n : Nat} {z : List Int} {N : Nat} {p2 c2 q2 : Int} {k : Nat} {S : List (List Int)} {pk ck qk : Int} (h : SsSt n z N p2 c2 q2 k S pk ck qk) (hk : k < N) {l : List Int} {p' c' q' : Int} (hs : St [] n (stl z S pk) pk ck qk (if c' = 0 then l else []) p' c' q') (hap : c' = 0 → tw S l = false) :
    SsSt n z N p2 c2 q2 (k + 1) (S ++ [l]) p' c' q' := by
  obtain ⟨s0, s1⟩ := hs.place
  rcases h with ⟨rfl, rfl, rfl, e, ha⟩ | ⟨hc, h⟩
  · have e2 : ssg z (N - k) pk S = (stl z S pk).bind [] fun l p' => ssg z (N - (k + 1)) p' (S ++ [l]) := by
      rw [show N - k = N - (k + 1) + 1 by omega]; rfl
    by_cases hc : c' = 0
    · subst hc
      rw [if_pos rfl] at hs
      obtain ⟨_, g0, gl, gp, gq⟩ := hs.good
      refine .inl ⟨rfl, rfl, gq, ?_, by rw [apB_snoc, ha, hap rfl]; rfl⟩
      rw [e, e2]
      unfold Rs.bind
      rw [if_neg (by simp [g0]), ← gl, ← gp]
    · rw [if_neg hc] at hs
      refine .inr ⟨hc, ?_⟩
      rw [e, e2]
      have := hs.bind (f := fun l p' => ssg z (N - (k + 1)) p' (S ++ [l])) (St.stay (d := []) s0 s1 hc)
      obtain ⟨a0, a1, a2⟩ := this
      refine ⟨a0, a1, ?_⟩
      rcases a2 with ⟨h, _⟩ | ⟨_, _, _, _, h, _⟩ | a2
      · exact absurd rfl h
      · exact absurd h hc
      · exact .inr (.inr a2)
  · have hb := hs.bad hc
    obtain ⟨_, rfl, rfl⟩ := hb
    refine .inr ⟨hc, ?_⟩
    obtain ⟨_, _, a2⟩ := h
    refine ⟨s0, s1, ?_⟩
    rcases a2 with a2 | ⟨_, _, _, _, h, _⟩ | a2
    · exact .inl a2
    · exact absurd h hc
    · exact .inr (.inr a2)
theorem SsSt.done {n : Nat} {z : List Int} {N : Nat} {p2 c2 q2 : Int} {S : List (List Int)} {pk ck qk : Int} (h : SsSt n z N p2 c2 q2 N S pk ck qk) (h0 : 0 ≤ pk) (h1 : pk ≤ n) : St [] n (ssg z N p2 []) p2 c2 q2 (if ck = 0 then S else []) pk ck qk := by
  rcases h with ⟨rfl, rfl, rfl, e, ha⟩ | ⟨hc, h⟩
  · rw [if_pos rfl]
    exact St.done (by rw [e, Nat.sub_self]; rfl) h0 h1
  · rw [if_neg hc]; exact h
/-- What it comes to. -/
theorem str_st {n : Nat} {z : List Int} {f p c q t p1 c1 q1 p2 c2 q2 pk ck qk : Int} {N : Nat} {S : List (List Int)} (h1 : St 0 n (srt z f p) p c q (if c1 = 0 then t else 0) p1 c1 q1) (h2 : St 0 n (mny z 8 p1) p1 c1 q1 (N : Int) p2 c2 q2) (h3 : St [] n (ssg z N p2 []) p2 c2 q2 (if ck = 0 then S else []) pk ck qk) :
    St stp0 n (str z f p) p c q (if ck = 0 then (f, t, S) else stp0) pk ck qk := by
  rw [str_eq]
  refine h1.bind (h2.bind ?_)
  rw [Int.toNat_natCast]
  refine h3.bind ?_
  by_cases hc : ck = 0
  · subst hc
    rw [if_pos rfl, if_pos rfl]
    obtain ⟨rfl, _⟩ := h3.good
    obtain ⟨rfl, _⟩ := h2.good
    rw [if_pos rfl]
    exact St.done rfl h3.place.1 h3.place.2
  · rw [if_neg hc, if_neg hc]
    exact St.stay h3.place.1 h3.place.2 hc

def StRdPost (b : Nat) (s : Value) (n : Nat) (z : List Int) (f p c q : Int) (w : World) (e : Ending) (w' : World) : Prop :=
  ∃ (f' t : Int) (A : Option Addr) (N m : Nat) (S : List (List Int)) (p' c' q' : Int), e = .returned (stagg f' t A N m) ∧ Kp b w w' ∧ IsRd w' b s p' c' q' ∧ Sts w' (fun k => w.heap.size ≤ k) A N S ∧ N ≤ m ∧ (A = none → m = 0) ∧
    (0 ≤ f' ∧ f' < 18446744073709551616) ∧ (0 ≤ t ∧ t < 18446744073709551616) ∧ sbds S ∧ (∀ l ∈ S, l.length ≤ 8) ∧ N ≤ 8 ∧ St stp0 n (str z f p) p c q (f', t, S) p' c' q'

set_option maxHeartbeats 4000000 in
theorem sread19_any (b : Nat) (a : Option Addr) (n m : Nat) (z : List Int) (f p c q : Int) (w : World) (h : IsRd w b (.slice a n m) p c q) (hz : Bs w a n z) (h0 : 0 ≤ p) (h1 : p ≤ n) (hn : n ≤ 100000) (hby : ∀ x ∈ z, 0 ≤ x ∧ x < 256) (f0 : 0 ≤ f) (f1 : f < 18446744073709551616) :
    Calls Try.prog 61 #[.pointer (some ⟨b, 0, none⟩), .int .u64 f] w (StRdPost b (.slice a n m) n z f p c q w) := by
  have HBY := Lib.hid hby
  have HZL := Lib.hid hz.1
  clear hby
  have hA := Blk.new w (stc 0 0 none 0 0) 31
  have hb1 := below_one w (.cells (stc 0 0 none 0 0) 31)
  have hbl := h.lt
  have hr := h.below hb1
  have HK := Lib.hid (Kp.of_below (b := b) hb1)
  have HZ : Hid (∀ w', Kp b w w' → Bs w' a n z) := Lib.hid fun w' hk => hz.kp h (by simp) hk
  clear hb1 h hz
  go_enter Try.func61, Try.ntmps61
  go_wp2_with fail
  refine (sto_any b a n m z p c q f _ hr (HZ.out _ HK.out) h0 h1 (by omega) HBY.out f0 f1).mono ?_
  rintro e w1 ⟨t, p1, c1, q1, rfl, t0, t1, hk1, hr1, hs1⟩
  have HS1 := Lib.hid hs1
  have hA1 := (blk_kp hA hk1 (by omega)).alloc (.cells (stc f t none 0 0) 31)
  have hS1 := Blk.new w1 (stc f t none 0 0) 31
  have hbS := below_one w1 (.cells (stc f t none 0 0) 31)
  have hr2 := hr1.below hbS
  have HK1 := Lib.hid ((HK.out.trans hk1).trans (Kp.of_below (b := b) hbS))
  have hxs : w.heap.size < w1.heap.size := by have := hk1.size; simp at this; omega
  have hpl := hs1.place
  have hsz : (w1.alloc (.cells (stc f t none 0 0) 31)).heap.size = w1.heap.size + 1 := by simp
  clear hs1 hk1 hA hr hr1 HK hbS
  go_wp2_with fail
  generalize w1.alloc (.cells (stc f t none 0 0) 31) = w2 at *
  generalize w1.heap.size = xs at *
  refine (snum_any b a n m z p1 c1 q1 8 _ hr2 (HZ.out _ HK1.out) hpl.1 hpl.2 hn HBY.out (by omega)).mono ?_
  rintro e w3 ⟨N, p2, c2, q2, rfl, hk3, hr3, hs3⟩
  obtain ⟨n0, n8, _⟩ := mny_bd hs3 HZL.out hpl.1 hpl.2 HBY.out
  have hN8 : N ≤ 8 := by omega
  obtain ⟨N, rfl⟩ := Int.eq_ofNat_of_zero_le n0
  have HS3 := Lib.hid hs3
  have hpl3 := hs3.place
  have hA3 := blk_kp hA1 hk3 (by omega)
  have hS3 := blk_kp hS1 hk3 (by omega)
  have HK3 := Lib.hid (HK1.out.trans hk3)
  have hsz3 := hk3.size
  clear hs3 hk3 hr2 hA1 hS1 HK1 n8 n0
  go_wp2
  go_loopw [13] (fun i wr => ∃ (k : Nat) (v : Value) (S : List (List Int)) (pk ck qk : Int), k ≤ N ∧ i = .int .i64 k ∧ Blk wr xs #[.int .u64 f, .int .u64 t, v] 31 ∧ Blk wr w.heap.size (stc 0 0 none 0 0) 31 ∧ OwnSts wr (xs + 1) v S ∧ S.length = k ∧ Hid (∀ l ∈ S, l.length ≤ 8) ∧ Hid (sbds S) ∧ IsRd wr b (.slice a n m) pk ck qk ∧ Hid (Kp b w wr) ∧ 0 ≤ pk ∧ pk ≤ n ∧ xs + 1 ≤ wr.heap.size ∧ Hid (SsSt n z N p2 c2 q2 k S pk ck qk)) (fun i _ => N - (intOf i).toNat)
  case atStart => exact ⟨0, .slice none 0 0, [], p2, c2, q2, by omega, rfl, hS3, hA3, OwnSts.nil _ _, rfl, Lib.hid (by simp), Lib.hid (fun l h => by simp at h), hr3, HK3, hpl3.1, hpl3.2, by omega, Lib.hid (SsSt.start hpl3.1 hpl3.2)⟩
  case round =>
    clear hA3 hS3 hr3 HK3 hsz3
    obtain ⟨k, v, S, pk, ck, qk, hk, rfl, hS, hA, ho, hSl, HLE, HSB, hr, HK, hp0, hp1, hsz4, HST⟩ := hrel
    obtain ⟨y0, y1, y2⟩ := hS.c3
    by_cases hlt : k < N
    · have hap : ck = 0 → apB S = true := fun hc => by
        rcases HST.out with ⟨_, _, _, _, h⟩ | ⟨h, _⟩
        · exact h
        · exact absurd hc h
      have hcon := sset_any (xs + 1) b a n m z S v pk ck qk wr hr (HZ.out _ HK.out) hp0 hp1 hn HBY.out ho (by omega) hsz4 HLE.out (by omega) hap
      have hge := ho.ge
      have HSL := Lib.hid hSl
      have e2 : (k : Int) < N := by omega
      have e3 : IntKind.i64.wrap ((k : Int) + 1) = ((k + 1 : Nat) : Int) := IntWalk.i64_in _ (by omega)
      clear hap hr ho hSl
      go_wp2_with fail
      refine hcon.mono ?_
      rintro e w5 ⟨v', l, p5, c5, q5, rfl, hks, hr5, ho5, hl8, hlb, hs5⟩
      obtain ⟨A5, cv5, hv5, _⟩ := ho5.sts
      rw [show (S ++ [l]).length = k + 1 by simp [HSL.out]] at hv5
      subst hv5
      have hS5 := hS.ks hks (fun hh => by
        rcases hh with e | e
        · omega
        · have := hge _ e; omega)
      have hA5 := hA.ks hks (fun hh => by
        rcases hh with e | e
        · omega
        · have := hge _ e; omega)
      have hK5 := HK.out.ks hks (fun g hh => by
        rcases hh with e | e
        · exact .inl e
        · have := hge _ e; exact .inr (by omega))
      have HS6 := Lib.hid (hS5.set 2 (.slice A5 (k + 1) cv5))
      have HA6 := Lib.hid (hA5.far (g := xs) 2 (.slice A5 (k + 1) cv5) (by omega))
      have HO6 := Lib.hid (ho5.ks (Ks.setCell (S := fun k => k = xs) w5 xs 2 (.slice A5 (k + 1) cv5) rfl) (fun g hg => by omega))
      have HR6 := Lib.hid (hr5.kp (Kp.setCell w5 xs 2 (.slice A5 (k + 1) cv5)) (by omega))
      have HK6 := Lib.hid (hK5.far (p := ⟨xs, 2, none⟩) (by show w.heap.size ≤ xs; omega) (.slice A5 (k + 1) cv5))
      have HL6 : Hid (∀ x ∈ S ++ [l], x.length ≤ 8) := Lib.hid fun x hx => by
        rcases List.mem_append.1 hx with hx | hx
        · exact HLE.out x hx
        · rw [List.mem_singleton] at hx; subst hx; exact hl8
      have HB6 : Hid (sbds (S ++ [l])) := Lib.hid fun x hx => by
        rcases List.mem_append.1 hx with hx | hx
        · exact HSB.out x hx
        · rw [List.mem_singleton] at hx; subst hx; exact hlb
      have hpl5 := hs5.place
      have HN6 : Hid (SsSt n z N p2 c2 q2 (k + 1) (S ++ [l]) p5 c5 q5) := Lib.hid (HST.out.next hlt hs5 fun hc => by
        rw [if_pos hc] at hs5
        rw [hc] at hs5
        obtain ⟨_, g0, gl, gp, gq⟩ := hs5.good
        obtain ⟨l2, p2', e, e2, _⟩ := stl_once HBY.out hp0 (by rw [HZL.out]; exact hp1) g0
        rw [e] at gl
        have gl' : l = l2 := gl
        subst gl'
        exact (seok_parts e2).2.2.2.2)
      have HZ5 : Hid (xs + 1 ≤ (w5.setCell ⟨xs, 2, none⟩ (.slice A5 (k + 1) cv5)).heap.size) := Lib.hid (by have := hks.size; simp; omega)
      obtain ⟨u0, u1, u2⟩ := hS5.c3
      have g0 := hS5.free 2
      clear hcon hks hr5 ho5 hlb hs5 hS5 hA5 hK5 y0 y1 y2 hS hA hge
      go_wp2
      go_roundw
      case rel => exact ⟨k + 1, .slice A5 (k + 1) cv5, S ++ [l], p5, c5, q5, by omega, by go_num, HS6.out, HA6.out, HO6.out, by simp [HSL.out], HL6, HB6, HR6.out, HK6, hpl5.1, hpl5.2, HZ5.out, HN6⟩
      case measure => simp [intOf]; omega
    · obtain rfl : k = N := by omega
      have HF := Lib.hid (str_st HS1.out HS3.out (HST.out.done hp0 hp1))
      obtain ⟨A, cv, rfl, hle, hnil, hst⟩ := ho.sts
      rw [hSl] at hst hle hS y2
      have HST2 := Lib.hid hst
      have HNIL := Lib.hid hnil
      clear hst hnil HST ho hlt HS1 HS3
      go_wp2_with fail
      refine (good_any _ _ _ _ _ _ hr).mono ?_
      rintro e w7 ⟨rfl, hb7⟩
      have hA7 := hA.below hb7
      have hS7 := hS.below hb7
      have HR7 := Lib.hid (hr.below hb7)
      have HK7 := Lib.hid (HK.out.trans (Kp.of_below (b := b) hb7))
      have HT7 := Lib.hid (HST2.out.below hb7)
      have hsz7 := Nat.le_trans hsz4 hb7.size
      clear y0 y1 y2
      obtain ⟨y0, y1, y2⟩ := hS7.c3
      obtain ⟨x0, x1, x2⟩ := hA7.c3
      have g0 := hA7.free 0
      have g1 := hA7.free 1
      have g2 := hA7.free 2
      clear hb7 hA hS hA7 hS7 hr HST2 HK
      by_cases hc : ck = 0
      · have hcb : (ck == 0) = true := by simpa using hc
        have HC := Lib.hid hc
        clear hc
        go_wp2
        refine bodyPost_ret (v := stagg f t A k cv) (by simp [results, Try.results61, go_sem, x0, x1, x2]) rfl ⟨f, t, A, k, cv, S, pk, ck, qk, rfl, ?_, ?_, ?_, hle, HNIL.out, ⟨f0, f1⟩, ⟨t0, t1⟩, HSB.out, HLE.out, by omega, by have := HF.out; rw [if_pos HC.out] at this; exact this⟩
        · iterate 3 (refine Kp.far ?_ (by simp) _)
          exact HK7.out
        · iterate 3 (refine IsRd.kp ?_ (Kp.setCell _ w.heap.size _ _) (by omega))
          exact HR7.out
        · refine Sts.mono (Sts.keep HT7.out (fun g hg hl => ?_)) (fun g hg _ => by omega)
          rw [Below.heap_setCell _ _ _ _ (by simp; omega), Below.heap_setCell _ _ _ _ (by simp; omega), Below.heap_setCell _ _ _ _ (by simp; omega)]
      · have hcb : (ck == 0) = false := by simpa using hc
        have HC := Lib.hid hc
        clear hc
        go_wp2
        refine bodyPost_ret (v := stagg 0 0 none 0 0) (by simp [results, Try.results61, go_sem, x0, x1, x2]) rfl ⟨0, 0, none, 0, 0, [], pk, ck, qk, rfl, ?_, ?_, ⟨rfl, Sq.nil _ _ _ _⟩, by omega, fun _ => rfl, by omega, by omega, (fun l h => by simp at h), (fun l h => by simp at h), by omega, by have := HF.out; rw [if_neg HC.out] at this; exact this⟩
        · iterate 3 (refine Kp.far ?_ (by simp) _)
          exact HK7.out
        · iterate 3 (refine IsRd.kp ?_ (Kp.setCell _ w.heap.size _ _) (by omega))
          exact HR7.out
end Go.Proofs.Ythpgandifeiejaa.Cur

namespace Go.Proofs.Ythpgandifeiejaa.Cur
open Go.RowKit Mem
set_option linter.unusedVariables false
set_option maxRecDepth 100000


def RNumPost (s : Value) (n : Nat) (g : Rs Int) (p c q : Int) (w : World) (e : Ending) (w' : World) : Prop :=
  ∃ k p' c' q', e = .returned (.tuple #[cv s p' c' q', .int .i64 k]) ∧ Below w.heap.size w w' ∧ St 0 n g p c q k p' c' q'
def RStPost (s : Value) (n : Nat) (z : List Int) (f p c q : Int) (w : World) (e : Ending) (w' : World) : Prop :=
  ∃ (f' t : Int) (A : Option Addr) (N m : Nat) (S : List (List Int)) (p' c' q' : Int), e = .returned (.tuple #[cv s p' c' q', stagg f' t A N m]) ∧ Below w.heap.size w w' ∧ Sts w' (fun k => w.heap.size ≤ k) A N S ∧ N ≤ m ∧ (A = none → m = 0) ∧
    (0 ≤ f' ∧ f' < 18446744073709551616) ∧ (0 ≤ t ∧ t < 18446744073709551616) ∧ sbds S ∧ (∀ l ∈ S, l.length ≤ 8) ∧ N ≤ 8 ∧ St stp0 n (str z f p) p c q (f', t, S) p' c' q'
theorem RStPost.zero {s : Value} {n : Nat} {z : List Int} {f p c q : Int} {w w' : World} {p' c' q' : Int} (hb : Below w.heap.size w w') (h : St stp0 n (str z f p) p c q stp0 p' c' q') : RStPost s n z f p c q w (.returned (.tuple #[cv s p' c' q', stagg 0 0 none 0 0])) w' :=
  ⟨0, 0, none, 0, 0, [], p', c', q', rfl, hb, ⟨rfl, Sq.nil _ _ _ _⟩, by omega, fun _ => rfl, by omega, by omega, fun l h => by simp at h, fun l h => by simp at h, by omega, h⟩

end Go.Proofs.Ythpgandifeiejaa.Cur

namespace Go.Proofs.Ythpgandifeiejaa.Cur
open Go.RowKit Mem
set_option linter.unusedVariables false
set_option maxRecDepth 100000


abbrev scs (a : Option Addr) (n m : Nat) (p c q : Int) : Array Value := cvs (.slice a n m) p c q
/-- What a set comes to by the document. -/
theorem rstl_fin {n : Nat} {S : List (List Int)} {l : List Int} {p1 p2 c2 q2 c' q' : Int} (hl : c2 ≠ 0 → l = []) (p20 : 0 ≤ p2) (p21 : p2 ≤ n)
    (hx : (c2 = 0 ∧ 4294967296 ≤ l.getD (l.length - 1) 0 ∧ FailSt c2 q2 3 p1 c' q') ∨ (c2 = 0 ∧ ¬ 4294967296 ≤ l.getD (l.length - 1) 0 ∧ tw S l = true ∧ FailSt c2 q2 13 p1 c' q') ∨ (c2 = 0 ∧ ¬ 4294967296 ≤ l.getD (l.length - 1) 0 ∧ tw S l = false ∧ c' = c2 ∧ q' = q2) ∨ (c2 ≠ 0 ∧ c' = c2 ∧ q' = q2)) :
    St [] n (if 4294967296 ≤ l.getD (l.length - 1) 0 then (([] : List Int), (0 : Int), (3 : Int), p1) else if tw S l then ([], 0, 13, p1) else (l, p2, 0, 0)) p2 c2 q2 (if c' = 0 then l else []) p2 c' q' := by
  rcases hx with ⟨rfl, h1, h2⟩ | ⟨rfl, h1, h2, h3⟩ | ⟨rfl, h1, h2, rfl, rfl⟩ | ⟨h, rfl, rfl⟩
  · have hb := h2
    rcases hb with ⟨_, rfl, rfl⟩ | ⟨h, _⟩
    · rw [if_neg (show ¬ (3 : Int) = 0 by decide)]
      exact St.fail (by rw [if_pos h1]) (by decide) p20 p21 h2
    · exact absurd rfl h
  · have hb := h3
    rcases hb with ⟨_, rfl, rfl⟩ | ⟨h, _⟩
    · rw [if_neg (show ¬ (13 : Int) = 0 by decide)]
      exact St.fail (by rw [if_neg h1, if_pos h2]) (by decide) p20 p21 h3
    · exact absurd rfl h
  · rw [if_pos rfl]
    exact St.done (by rw [if_neg h1, h2]; rfl) p20 p21
  · rw [if_neg h]
    exact St.stay p20 p21 h
theorem SsSt.fin {n : Nat} {z : List Int} {N : Nat} {p2 c2 q2 : Int} {k : Nat} {S : List (List Int)} {pk ck qk : Int} (h : SsSt n z N p2 c2 q2 k S pk ck qk) (hk : k = N ∨ ck ≠ 0) (h0 : 0 ≤ pk) (h1 : pk ≤ n) : St [] n (ssg z N p2 []) p2 c2 q2 (if ck = 0 then S else []) pk ck qk := by
  rcases hk with rfl | hk
  · exact h.done h0 h1
  · rcases h with ⟨h, _⟩ | ⟨_, h⟩
    · exact absurd h hk
    · rw [if_neg hk]; exact h
theorem stl_tw {z : List Int} {S : List (List Int)} {n : Nat} {p c q : Int} {l : List Int} {p' q' : Int} (h : St [] n (stl z S p) p c q l p' 0 q') (hz : z.length = n) (h0 : 0 ≤ p) (h1 : p ≤ n) (hby : ∀ x ∈ z, 0 ≤ x ∧ x < 256) : tw S l = false := by
  obtain ⟨_, g0, gl, _⟩ := h.good
  obtain ⟨l2, p2, e, e2, _⟩ := stl_once hby h0 (by rw [hz]; exact h1) g0
  rw [e] at gl
  have gl' : l = l2 := gl
  subst gl'
  exact (seok_parts e2).2.2.2.2
theorem heap_ne {w : World} {b o g : Nat} (v : Value) (h : b < g) : (w.setCell ⟨b, o, none⟩ v).heap[g]? = w.heap[g]? := Below.heap_setCell w _ v g (by show g ≠ b; omega)
theorem heap7 {w : World} {b1 b2 g : Nat} (h1 : b1 < g) (h2 : b2 < g) (u0 u1 u2 u3 u4 u5 u6 : Value) :
    (((((((w.setCell ⟨b1, 0, none⟩ u0).setCell ⟨b1, 1, none⟩ u1).setCell ⟨b1, 2, none⟩ u2).setCell ⟨b1, 3, none⟩ u3).setCell ⟨b2, 0, none⟩ u4).setCell ⟨b2, 1, none⟩ u5).setCell ⟨b2, 2, none⟩ u6).drew.heap[g]? = w.heap[g]? := by
  have e : ∀ w' : World, w'.drew.heap = w'.heap := fun _ => rfl
  rw [e]
  rw [heap_ne _ h2, heap_ne _ h2, heap_ne _ h2, heap_ne _ h1, heap_ne _ h1, heap_ne _ h1, heap_ne _ h1]
end Go.Proofs.Ythpgandifeiejaa.Cur

namespace Go.Proofs.Ythpgandifeiejaa.Cur
open Go.RowKit Mem
set_option linter.unusedVariables false
set_option maxRecDepth 100000



end Go.Proofs.Ythpgandifeiejaa.Cur

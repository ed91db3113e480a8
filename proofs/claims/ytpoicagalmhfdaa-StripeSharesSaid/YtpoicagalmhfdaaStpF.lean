/- Stripes written: Put, Bytes. -/
import Derived.Test.YtpoicagalmhfdaaStpD
import Derived.Test.YtpoicagalmhfdaaK5
import Derived.Test.YtpoicagalmhfdaaK6
import Derived.Test.YtpoicagalmhfdaaK3
namespace Go.Proofs.Ytpoicagalmhfdaa.Cur
open Go.RowKit Mem
set_option linter.unusedVariables false
set_option maxRecDepth 100000


/-- The cells of set k, in whatever world in which only other blocks have changed. -/
theorem Sts.ks_cells {S0 : Nat → Prop} {w : World} {P : Nat → Prop} {g o n : Nat} {S : List (List Int)} (h : Sts w P (some ⟨g, o, none⟩) n S) (hoff : ∀ b, P b → b < w.heap.size → ¬ S0 b) {k : Nat} (hk : k < n) :
    ∃ a l m, (S.getD k []).length = l ∧ l ≤ m ∧ (a = none → m = 0) ∧ (0 < l → ∀ ad, a = some ad → P ad.block ∧ ad.block < w.heap.size) ∧ (∀ x ∈ S.getD k [], 0 ≤ x ∧ x < 18446744073709551616) ∧
      ∀ w', Ks S0 w w' → w'.cell? ⟨g, o + k, none⟩ = some (.slice a l m) ∧ Us w' a l (S.getD k []) := by
  obtain ⟨g', o', e, hP, hg, hc⟩ := h.cells (by omega)
  injection e with e
  injection e with e1 e2
  subst e1 e2
  obtain ⟨a, l, m, h1, h2, h3, h4, h5, h6, h7⟩ := hc k hk
  have h8 : 0 < l → ∀ ad, a = some ad → P ad.block ∧ ad.block < w.heap.size := fun h0 ad ha => ⟨h5 h0 ad ha, h4.2.lt (by rw [List.length_map, h4.1]; exact h0) ad ha⟩
  refine ⟨a, l, m, h1, h2, h3, h8, h6, fun w' hk' => ⟨?_, h4.ks hk' fun h0 ad ha => ?_⟩⟩
  · rw [← h7 w (Below.refl _ _)]
    exact World.cell?_of_block (hk'.block g hg (hoff g hP hg))
  · obtain ⟨h9, h10⟩ := h8 h0 ad ha
    exact hoff _ h9 h10
/-- The first so many parts of a stripe's encoding. -/
def stk (f t : Int) (S : List (List Int)) (k : Nat) : List Int := vz (t - f - 1) ++ vz S.length ++ ssb (S.take k)
theorem stk_end (f t : Int) (S : List (List Int)) : stk f t S S.length = stb (f, t, S) := by unfold stk stb; rw [List.take_length]
theorem stk_succ {f t : Int} {S : List (List Int)} {k : Nat} (hk : k < S.length) : stk f t S (k + 1) = stk f t S k ++ (vz ((S.getD k []).length : Nat) ++ rz (S.getD k [])) := by
  unfold stk ssb
  rw [List.take_add_one, List.getElem?_eq_getElem hk, Option.toList_some, List.flatMap_append, List.getD_eq_getElem?_getD, List.getElem?_eq_getElem hk, Option.getD_some, List.append_assoc, List.append_assoc, List.append_assoc]
  simp [seb]
theorem stk_mono {f t : Int} {S : List (List Int)} : ∀ (k : Nat), k ≤ S.length → (stk f t S (S.length - k)).length ≤ (stb (f, t, S)).length
  | 0, _ => by rw [Nat.sub_zero, stk_end]; exact Nat.le_refl _
  | k + 1, h => by
    have ih := stk_mono (f := f) (t := t) (S := S) k (by omega)
    have e : S.length - k = S.length - (k + 1) + 1 := by omega
    rw [e, stk_succ (by omega), List.length_append] at ih
    omega
theorem stk_le {f t : Int} {S : List (List Int)} {k : Nat} (h : k ≤ S.length) : (stk f t S k).length ≤ (stb (f, t, S)).length := by
  have := stk_mono (f := f) (t := t) (S := S) (S.length - k) (by omega)
  rwa [show S.length - (S.length - k) = k by omega] at this
theorem rz_len (l : List Int) : (rz l).length ≤ 10 * l.length := rzk_len l l.length
theorem ssb_len : ∀ {S : List (List Int)}, (∀ l ∈ S, l.length ≤ 8) → (ssb S).length ≤ 90 * S.length
  | [], _ => by simp [ssb]
  | l :: S, h => by
    have ih := ssb_len (S := S) fun m hm => h m (by simp [hm])
    have h1 := h l (by simp)
    have h2 := rz_len l
    have h3 := vsz_le l.length
    unfold ssb at ih ⊢
    rw [List.flatMap_cons, List.length_append, List.length_cons]
    have : (seb l).length ≤ 90 := by unfold seb; rw [List.length_append, vz_length]; omega
    omega
theorem sok_fine {S A : List (List Int)} (h : sok A S = true) : ∀ k, k < S.length → fne (S.getD k []) = true := by
  intro k hk
  rw [sok_eq, Bool.and_eq_true] at h
  rw [List.getD_eq_getElem?_getD, List.getElem?_eq_getElem hk]
  exact List.all_eq_true.1 h.1 _ (List.getElem_mem hk)
theorem fne_parts {l : List Int} (h : fne l = true) : 1 ≤ l.length ∧ l.length ≤ 8 ∧ risesB l = true ∧ ndb l = true := by
  unfold fne at h
  simp only [Bool.and_eq_true, decide_eq_true_eq] at h
  exact ⟨h.1.1.1, h.1.1.2, h.1.2, h.2⟩
theorem sok_lens {S A : List (List Int)} (h : sok A S = true) : ∀ l ∈ S, l.length ≤ 8 := by
  intro l hl
  obtain ⟨k, hk, e⟩ := List.mem_iff_getElem.1 hl
  have := fne_parts (sok_fine h k hk)
  rw [List.getD_eq_getElem?_getD, List.getElem?_eq_getElem hk, Option.getD_some, e] at this
  exact this.2.1
theorem stb_len {s : Stp} (h : stok s = true) : (stb s).length ≤ 740 := by
  obtain ⟨_, _, _, k4, k5⟩ := stok_parts h
  have h1 := ssb_len (sok_lens k5)
  have h2 := vsz_le (s.2.1 - s.1 - 1)
  have h3 := vsz_le s.2.2.length
  unfold stb
  rw [List.length_append, List.length_append, vz_length, vz_length]
  omega

theorem stb_byte {s : Stp} (h : stok s = true) (hf : 0 ≤ s.1) (hb : sbds s.2.2) : ∀ b ∈ stb s, 0 ≤ b ∧ b < 256 := fun b hm => by
  obtain ⟨k1, k2, k3, k4, k5⟩ := stok_parts h
  unfold stb at hm
  rcases List.mem_append.1 hm with hm | hm
  · rcases List.mem_append.1 hm with hm | hm
    · exact vz_byte _ (by omega) (by omega) b hm
    · exact vz_byte _ (by omega) (by omega) b hm
  · exact ssb_byte k5 hb b hm
theorem positions_any (f t : Int) (A : Option Addr) (n m : Nat) (w : World) (h0 : 0 ≤ f) (h1 : f ≤ t) (h2 : t ≤ 4611686018427387904) :
    Calls Try.prog 35 #[stagg f t A n m] w (BPost (.int .u64 (t - f)) w) := by
  have hX := Blk.new w (stc f t A n m) 25
  have hb := below_one w (.cells (stc f t A n m) 25)
  obtain ⟨x0, x1, x2⟩ := hX.c3
  have e1 : IntKind.u64.wrap (t - f) = t - f := IntWalk.u64_in _ (by omega)
  unfold BPost
  clear hX
  go_enter Try.func35, Try.ntmps35
  go_wp2
  go_ret
  exact ⟨rfl, hb⟩

set_option maxHeartbeats 4000000 in
theorem stput_yes {w : World} {B b : Nat} {r : Option Nat} {y : List Int} {M : Int} (P : Nat → Prop) (f t : Int) (A : Option Addr) (n m : Nat) (S : List (List Int)) (hok : stok (f, t, S) = true) (hf : 0 ≤ f) (h : Wr w B b r y M 0) (hz : Sts w P A n S) (hm : n ≤ m)
    (hoff : ∀ b', P b' → b' < w.heap.size → ¬ WS b r b') (hM : (y.length : Int) + (stb (f, t, S)).length ≤ M) (hy : y.length ≤ 90000) (hBw : B ≤ w.heap.size) :
    Calls Try.prog 11 #[.pointer (some ⟨b, 0, none⟩), stagg f t A n m] w (PRPost B b r (y ++ stb (f, t, S)) M w) := by
  have hX := Blk.new w (stc f t A n m) 25
  have hb := below_one w (.cells (stc f t A n m) 25)
  have hlenB := stb_len hok
  obtain ⟨k1, k2, k3, k4, k5⟩ := stok_parts hok
  dsimp only at k1 k2 k3 k4 k5
  have HL := Lib.hid hz.1
  have HFN := Lib.hid (sok_fine k5)
  have hn8 : n ≤ 8 := by rw [← hz.1]; exact k4
  have hn1 : 1 ≤ n := by rw [← hz.1]; exact k3
  have hrcon := stright_any P f t A n m S _ (hz.below hb) hm (by omega) (fun l hl => Nat.le_trans (sok_lens k5 l hl) (by omega))
  rw [hok] at hrcon
  unfold BPost at hrcon
  have hpos := fun w' => positions_any f t A n m w' hf (by omega) k2
  unfold BPost at hpos
  obtain ⟨g, o, rfl, hPg, hg, _⟩ := hz.cells (by omega)
  have HC := Lib.hid (fun k (hk : k < n) => hz.ks_cells hoff hk)
  have HOFF := Lib.hid hoff
  have HE : Hid (stk f t S n = stb (f, t, S)) := Lib.hid (by rw [← hz.1]; exact stk_end f t S)
  have HSU := Lib.hid (fun k (hk : k < S.length) => stk_succ (f := f) (t := t) hk)
  have HLE := Lib.hid (fun k (hk : k ≤ S.length) => stk_le (f := f) (t := t) hk)
  have H0 : Hid (stk f t S 0 = vz (t - f - 1) ++ vz n) := Lib.hid (by unfold stk ssb; rw [hz.1]; simp)
  have HM := Lib.hid hM
  have HLB := Lib.hid hlenB
  have hXo := h.off (Nat.le_refl _)
  have hks0 : Ks (WS b r) w (w.alloc (.cells (stc f t (some ⟨g, o, none⟩) n m) 25)) := Ks.of_below hb
  have h1 := h.below hb
  generalize stb (f, t, S) = ST at *
  generalize stk f t S = sk at *
  have e1 : IntKind.u64.wrap ((t - f) - 1) = t - f - 1 := IntWalk.u64_in _ (by omega)
  have e2 : IntKind.u64.wrap (n : Int) = n := IntWalk.u64_in _ (by omega)
  have e0 : 0 ≤ t - f - 1 ∧ t - f - 1 < 18446744073709551616 := by omega
  clear hok hz hoff k1 k2 k3 k4 k5 hM hlenB h hb
  obtain ⟨x0, x1, x2⟩ := hX.c3
  obtain ⟨d, hd⟩ : ∃ d, d = t - f := ⟨_, rfl⟩
  rw [← hd] at e1 e0 hpos H0
  have HD := Lib.hid hd
  clear hd
  go_enter Try.func11, Try.ntmps11
  go_wp2_with fail
  refine hrcon.mono ?_
  rintro e w1 ⟨rfl, hb1⟩
  replace hX := hX.below hb1
  have hks1 := hks0.trans (Ks.of_below hb1)
  replace h1 := h1.below hb1
  clear hrcon hb1 hks0 x0 x1 x2
  obtain ⟨x0, x1, x2⟩ := hX.c3
  go_wp2_with fail
  refine (hpos _).mono ?_
  rintro e w2 ⟨rfl, hb2⟩
  replace hX := hX.below hb2
  have hks2 := hks1.trans (Ks.of_below hb2)
  replace h1 := h1.below hb2
  clear hpos hb2 hks1 x0 x1 x2
  obtain ⟨x0, x1, x2⟩ := hX.c3
  have hB2 := Nat.le_trans hBw hks2.size
  have hX2l := hX.lt
  go_wp2_with fail
  refine (vput_any _ h1 e0.1 e0.2 (by omega) hB2).mono ?_
  rintro e w3 ⟨r3, rfl, hk3, hg3, hw3⟩
  have l1 := HLE.out 0 (Nat.zero_le _)
  rw [H0.out, List.length_append, vz_length, vz_length] at l1
  have hfit := putZ_fits (z := y) (y := vz (d - 1)) (M := M) (by rw [vz_length]; have := HM.out; omega)
  rw [hfit.1, hfit.2] at hw3
  replace hX := hX.ks hk3 hXo
  have hks3 := Ks.wr hks2 (Gr.refl _ _) hk3
  have hgr3 : Gr r r3 w := (Gr.refl _ _).trans hg3 hks2.size
  have hXo3 : ¬ WS b r3 w.heap.size := fun hs => by
    rcases hs with e | e
    · exact hXo (.inl e)
    · rcases hg3 with e2 | ⟨g', e2, hg'⟩
      · exact hXo (.inr (by rw [← e2]; exact e))
      · rw [e2] at e; injection e with e; have := hX2l; omega
  clear hfit hk3 h1 hg3 hks2 x0 x1 x2 e0
  obtain ⟨x0, x1, x2⟩ := hX.c3
  have hB3 := Nat.le_trans hBw hks3.size
  have v1 := vsz_le (d - 1)
  go_wp2_with fail
  refine (vput_any _ hw3 (by omega) (by omega) (by rw [List.length_append, vz_length]; omega) hB3).mono ?_
  rintro e w4 ⟨r4, rfl, hk4, hg4, hw4⟩
  have hfit := putZ_fits (z := y ++ vz (d - 1)) (y := vz n) (M := M) (by rw [List.length_append, vz_length, vz_length]; have := HM.out; push_cast at *; omega)
  rw [hfit.1, hfit.2, List.append_assoc, ← H0.out] at hw4
  replace hX := hX.ks hk4 hXo3
  have hks4 := Ks.wr hks3 hgr3 hk4
  have hgr4 : Gr r r4 w := hgr3.trans hg4 hks3.size
  clear hfit hk4 hw3 hg4 hks3 hgr3 x0 x1 x2 v1 l1 hXo3 hX2l
  obtain ⟨x0, x1, x2⟩ := hX.c3
  go_wp2
  clear x0 x1 x2 hX hXo
  go_loopw [25] (fun i wr => ∃ (k : Nat) (r' : Option Nat), k ≤ n ∧ i = .int .i64 k ∧ Ks (WS b r) w wr ∧ Gr r r' w ∧ Wr wr B b r' (y ++ sk k) M 0) (fun i _ => n - (intOf i).toNat)
  case atStart => exact ⟨0, r4, by omega, rfl, hks4, hgr4, hw4⟩
  case round =>
    obtain ⟨k, r', hk, rfl, hks, hgr, hw⟩ := hrel
    by_cases hlt : k < n
    · obtain ⟨a, l, mm, hl, hlm, han, hbl, hby, hcell⟩ := HC.out k hlt
      obtain ⟨c0, hus⟩ := hcell wr hks
      have hkS : k < S.length := by rw [HL.out]; exact hlt
      obtain ⟨q1, q2, q3, _⟩ := fne_parts (HFN.out k hkS)
      have hsu := HSU.out k hkS
      have hle0 := HLE.out k (by omega)
      have hle := HLE.out (k + 1) (by omega)
      rw [hsu, List.length_append, List.length_append, vz_length] at hle
      rw [hl] at hsu hle q1 q2
      obtain ⟨z, hz⟩ : ∃ z, z = S.getD k [] := ⟨_, rfl⟩
      rw [← hz] at hus hby q3 hsu hle hl
      have HSN := Lib.hid hsu
      have HBY := Lib.hid hby
      have HRI := Lib.hid q3
      have HA : Hid (0 < l → ∀ ad, a = some ad → ad.block < w.heap.size ∧ ¬ WS b r ad.block) := Lib.hid fun h0 ad ha => by
        obtain ⟨h1, h2⟩ := hbl h0 ad ha
        exact ⟨h2, HOFF.out _ h1 h2⟩
      have HF1 : Hid (((y ++ sk k).length : Int) + (vz (l : Int)).length ≤ M) := Lib.hid (by have := HM.out; rw [List.length_append, vz_length]; push_cast at *; omega)
      have HF2 : Hid (((y ++ sk k ++ vz (l : Int)).length : Int) + (rz z).length ≤ M) := Lib.hid (by have := HM.out; rw [List.length_append, List.length_append, vz_length]; push_cast at *; omega)
      have HY : Hid ((y ++ sk k).length ≤ 90740) := Lib.hid (by have := HLB.out; rw [List.length_append]; omega)
      have v3 := vsz_le (l : Int)
      have HY2 : Hid ((y ++ sk k ++ vz (l : Int)).length ≤ 90760) := Lib.hid (by have := HY.out; rw [List.length_append, vz_length]; omega)
      have e3 : IntKind.u64.wrap (l : Int) = l := IntWalk.u64_in _ (by omega)
      have e4 : (k : Int) < n := by omega
      have e5 : IntKind.i64.wrap ((k : Int) + 1) = ((k + 1 : Nat) : Int) := IntWalk.i64_in _ (by omega)
      have hB5 := Nat.le_trans hBw hks.size
      clear hcell hsu hle hle0 hby q3 han hbl hz hl v3
      go_wp2_with fail
      refine (vput_any _ hw (by omega) (by omega) (by have := HY.out; omega) hB5).mono ?_
      rintro e w5 ⟨r5, rfl, hk5, hg5, hw5⟩
      have hfit := putZ_fits HF1.out
      rw [hfit.1, hfit.2] at hw5
      have hno : 0 < l → ∀ ad, a = some ad → ¬ WS b r' ad.block := fun h0 ad ha hws => by
        obtain ⟨h1, h2⟩ := HA.out h0 ad ha
        rcases hws with e | e
        · exact h2 (.inl e)
        · rcases hgr with rfl | ⟨g', rfl, hg'⟩
          · exact h2 (.inr e)
          · injection e with e; omega
      have hus5 := hus.ks hk5 hno
      have hks5 := Ks.wr hks hgr hk5
      have hgr5 : Gr r r5 w := hgr.trans hg5 hks.size
      have hno5 : 0 < l → ∀ ad, a = some ad → ¬ WS b r5 ad.block := fun h0 ad ha hws => by
        obtain ⟨h1, h2⟩ := HA.out h0 ad ha
        rcases hws with e | e
        · exact h2 (.inl e)
        · rcases hgr5 with rfl | ⟨g', rfl, hg'⟩
          · exact h2 (.inr e)
          · injection e with e; omega
      have hB6 := Nat.le_trans hBw hks5.size
      clear hfit hk5 hg5 hw hno hks hgr hus c0
      go_wp2_with fail
      refine (putrising_yes a l mm z hw5 hus5 hno5 (by omega) HBY.out HRI.out HF2.out (by have := HY2.out; omega) hB6).mono ?_
      rintro e w6 ⟨r6, rfl, hk6, hg6, hw6⟩
      rw [List.append_assoc, List.append_assoc, ← HSN.out] at hw6
      have hks6 := Ks.wr hks5 hgr5 hk6
      have hgr6 : Gr r r6 w := hgr5.trans hg6 hks5.size
      clear hw5 hus5 hno5 hk6 hg6 hks5 hgr5
      go_wp2
      go_roundw
      case rel => exact ⟨k + 1, r6, by omega, by go_num, hks6, hgr6, hw6⟩
      case measure => simp [intOf]; omega
    · obtain rfl : k = n := by omega
      rw [HE.out] at hw
      go_wp2
      go_end0
      exact ⟨r', rfl, hks, hgr, hw⟩

set_option maxHeartbeats 2000000 in
theorem stput_no {w : World} {B b : Nat} {r : Option Nat} {y : List Int} {M c : Int} (P : Nat → Prop) (f t : Int) (A : Option Addr) (n m : Nat) (S : List (List Int)) (hok : stok (f, t, S) = false) (h : Wr w B b r y M c) (hz : Sts w P A n S) (hm : n ≤ m) (hn : n ≤ 1000000) (hlen : ∀ l ∈ S, l.length ≤ 1000000) :
    Calls Try.prog 11 #[.pointer (some ⟨b, 0, none⟩), stagg f t A n m] w (WFailPost B b r y M c 3 w) := by
  have hX := Blk.new w (stc f t A n m) 25
  have hb := below_one w (.cells (stc f t A n m) 25)
  have hrcon := stright_any P f t A n m S _ (hz.below hb) hm hn hlen
  rw [hok] at hrcon
  unfold BPost at hrcon
  have h1 := h.below hb
  obtain ⟨x0, x1, x2⟩ := hX.c3
  clear hX hz hlen hok
  go_enter Try.func11, Try.ntmps11
  go_wp2_with fail
  refine hrcon.mono ?_
  rintro e w1 ⟨rfl, hb1⟩
  replace h1 := h1.below hb1
  replace hb := hb.trans (hb1.mono hb.size)
  clear hb1 x0 x1 x2 hrcon
  go_wp2_with fail
  refine (wfail_any 3 h1).mono ?_
  rintro e w' ⟨rfl, hk, hw⟩
  have HW := Lib.hid hw
  clear hw
  go_wp2
  go_end0
  exact ⟨rfl, (Ks.of_below hb).trans hk, HW.out⟩

/-- A stripe's bytes, or none. -/
def StByPost (s : Stp) (w : World) (e : Ending) (w' : World) : Prop :=
  Below w.heap.size w w' ∧ ((stok s = true ∧ ∃ g, e = .returned (.tuple #[.slice (some ⟨g, 0, none⟩) (stb s).length (stb s).length, .int .i64 0]) ∧ w.heap.size ≤ g ∧ Bs w' (some ⟨g, 0, none⟩) (stb s).length (stb s)) ∨
    (stok s = false ∧ e = .returned (.tuple #[.slice none 0 0, .int .i64 3])))
set_option maxHeartbeats 2000000 in
theorem stbytes_any (P : Nat → Prop) (f t : Int) (A : Option Addr) (n m : Nat) (S : List (List Int)) (hf : 0 ≤ f) (w : World) (hz : Sts w P A n S) (hP : ∀ b, P b → b < w.heap.size) (hm : n ≤ m) (hn : n ≤ 1000000) (hlen : ∀ l ∈ S, l.length ≤ 1000000) :
    Calls Try.prog 9 #[stagg f t A n m] w (StByPost (f, t, S) w) := by
  have hX := Blk.new w (stc f t A n m) 25
  have hb := below_one w (.cells (stc f t A n m) 25)
  have hz1 := hz.below hb
  have HLN := Lib.hid hlen
  obtain ⟨x0, x1, x2⟩ := hX.c3
  clear hz hlen
  go_enter Try.func9, Try.ntmps9
  go_wp2_with fail
  refine (wnew_any _ _ (by omega)).mono ?_
  rintro e w1 ⟨b, rfl, hg1, hb1, hw1⟩
  rw [if_neg (by omega)] at hw1
  replace hX := hX.below hb1
  replace hz1 := hz1.below hb1
  have hbd := hb.trans (hb1.mono hb.size)
  have hBX := hb1.size
  have hBn : ∀ b', P b' → b' < w1.heap.size → ¬ WS b none b' := fun b' h1 h2 hs => by
    rcases hs with e | e
    · have := hP b' h1; simp at hg1; omega
    · cases e
  clear x0 x1 x2 hb1
  obtain ⟨x0, x1, x2⟩ := hX.c3
  cases hok : stok (f, t, S)
  · go_wp2_with fail
    refine (stput_no P f t A n m S hok hw1 hz1 hm hn HLN.out).mono ?_
    rintro e w2 ⟨rfl, hk, hw2⟩
    rw [if_pos rfl] at hw2
    have hbd2 := hw1.belowOf hbd (Nat.le_refl _) hk hb.size
    clear x0 x1 x2
    go_wp2_with fail
    refine (wbytes_bad hw2 (by decide)).mono ?_
    rintro e w3 ⟨rfl, rfl⟩
    go_wp2
    go_ret2
    exact ⟨hbd2, .inr ⟨hok, rfl⟩⟩
  · have HOK := Lib.hid hok
    have HLE := Lib.hid (stb_len hok)
    go_wp2_with fail
    refine (stput_yes P f t A n m S hok hf hw1 hz1 hm hBn (by have := HLE.out; simp; omega) (by simp) hBX).mono ?_
    rintro e w2 ⟨r2, rfl, hk, _, hw2⟩
    rw [List.nil_append] at hw2
    have hbd2 := hw1.belowOf hbd (Nat.le_refl _) hk hb.size
    clear x0 x1 x2 hok
    go_wp2_with fail
    refine (wbytes_good (z := stb (f, t, S)) hw2 (by have := HLE.out; omega)).mono ?_
    rintro e w3 ⟨g, rfl, hg, hb3, hblk⟩
    have hs3 := Bs.of_block hblk
    have hbd3 := hbd2.trans (hb3.mono hbd2.size)
    have hgw : w.heap.size ≤ g := Nat.le_trans hbd2.size hg
    go_wp2
    go_ret2
    exact ⟨hbd3, .inl ⟨HOK.out, g, rfl, hgw, hs3⟩⟩
end Go.Proofs.Ytpoicagalmhfdaa.Cur

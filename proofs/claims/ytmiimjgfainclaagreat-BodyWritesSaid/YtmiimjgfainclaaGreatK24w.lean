/- As the seat's text, without what nothing here names. -/
import Derived.Test.YtmiimjgfainclaaGreatK23w
import Derived.Test.YtmiimjgfainclaaGreatK5w
import Derived.Test.YtmiimjgfainclaaGreatK6w
import Derived.Test.YtmiimjgfainclaaGreatK3w
import Derived.Test.YtmiimjgfainclaaGreatK4w
namespace Go.Proofs.YtmiimjgfainclaaGreat.Cur
open Go.RowKit Mem
set_option linter.unusedVariables false
set_option maxRecDepth 100000
theorem Sts.ks_cells {S0 : Nat → Prop} {w : World} {P : Nat → Prop} {g o n : Nat} {S : List (List Int)} (h : Sts w P (some ⟨g, o, none⟩) n S) (hoff : ∀ b, P b → b < w.heap.size → ¬ S0 b) {k : Nat} (hk : k < n) :
    ∃ a l m, (S.getD k []).length = l ∧ l ≤ m ∧ (a = none → m = 0) ∧ (0 < l → ∀ ad, a = some ad → P ad.block ∧ ad.block < w.heap.size) ∧ (∀ x ∈ S.getD k [], 0 ≤ x ∧ x < 18446744073709551616) ∧
      ∀ w', Ks S0 w w' → w'.cell? ⟨g, o + k, none⟩ = some (.slice a l m) ∧ Us w' a l (S.getD k []) := by
  obtain ⟨g', o', e, hP, hg, hc⟩ := h.cells (by omega)
  injection e with e
  injection e with e1 e2
  subst e1 e2
  obtain ⟨a, l, m, h1, h2, h3, h4, h5, h6, h7⟩ := hc k hk
  have h8 : 0 < l → ∀ ad, a = some ad → P ad.block ∧ ad.block < w.heap.size := fun h0 ad ha => ⟨h5 h0 ad ha, h4.2.lt (by rw [List.length_map, h4.1]; exact h0) ad ha⟩
  refine ⟨a, l, m, h1, h2, h3, h8, h6, fun w' hk' => ⟨?_, h4.ks hk' fun h0 ad ha => ?_⟩⟩
  · rw [← h7 w (Below.refl _ _)]
    exact World.cell?_of_block (hk'.block g hg (hoff g hP hg))
  · obtain ⟨h9, h10⟩ := h8 h0 ad ha
    exact hoff _ h9 h10
def stk (f t : Int) (S : List (List Int)) (k : Nat) : List Int := vz (t - f - 1) ++ vz S.length ++ ssb (S.take k)
theorem stk_end (f t : Int) (S : List (List Int)) : stk f t S S.length = stb (f, t, S) := by unfold stk stb; rw [List.take_length]
theorem stk_succ {f t : Int} {S : List (List Int)} {k : Nat} (hk : k < S.length) : stk f t S (k + 1) = stk f t S k ++ (vz ((S.getD k []).length : Nat) ++ rz (S.getD k [])) := by
  unfold stk ssb
  rw [List.take_add_one, List.getElem?_eq_getElem hk, Option.toList_some, List.flatMap_append, List.getD_eq_getElem?_getD, List.getElem?_eq_getElem hk, Option.getD_some, List.append_assoc, List.append_assoc, List.append_assoc]
  simp [seb]
theorem stk_mono {f t : Int} {S : List (List Int)} : ∀ (k : Nat), k ≤ S.length → (stk f t S (S.length - k)).length ≤ (stb (f, t, S)).length
  | 0, _ => by rw [Nat.sub_zero, stk_end]; exact Nat.le_refl _
  | k + 1, h => by
    have ih := stk_mono (f := f) (t := t) (S := S) k (by omega)
    have e : S.length - k = S.length - (k + 1) + 1 := by omega
    rw [e, stk_succ (by omega), List.length_append] at ih
    omega
theorem stk_le {f t : Int} {S : List (List Int)} {k : Nat} (h : k ≤ S.length) : (stk f t S k).length ≤ (stb (f, t, S)).length := by
  have := stk_mono (f := f) (t := t) (S := S) (S.length - k) (by omega)
  rwa [show S.length - (S.length - k) = k by omega] at this
theorem rz_len (l : List Int) : (rz l).length ≤ 10 * l.length := rzk_len l l.length
theorem ssb_len : ∀ {S : List (List Int)}, (∀ l ∈ S, l.length ≤ 8) → (ssb S).length ≤ 90 * S.length
  | [], _ => by simp [ssb]
  | l :: S, h => by
    have ih := ssb_len (S := S) fun m hm => h m (by simp [hm])
    have h1 := h l (by simp)
    have h2 := rz_len l
    have h3 := vsz_le l.length
    unfold ssb at ih ⊢
    rw [List.flatMap_cons, List.length_append, List.length_cons]
    have : (seb l).length ≤ 90 := by unfold seb; rw [List.length_append, vz_length]; omega
    omega
theorem sok_fine {S A : List (List Int)} (h : sok A S = true) : ∀ k, k < S.length → fne (S.getD k []) = true := by
  intro k hk
  rw [sok_eq, Bool.and_eq_true] at h
  rw [List.getD_eq_getElem?_getD, List.getElem?_eq_getElem hk]
  exact List.all_eq_true.1 h.1 _ (List.getElem_mem hk)
theorem fne_parts {l : List Int} (h : fne l = true) : 1 ≤ l.length ∧ l.length ≤ 8 ∧ risesB l = true ∧ ndb l = true := by
  unfold fne at h
  simp only [Bool.and_eq_true, decide_eq_true_eq] at h
  exact ⟨h.1.1.1, h.1.1.2, h.1.2, h.2⟩
theorem sok_lens {S A : List (List Int)} (h : sok A S = true) : ∀ l ∈ S, l.length ≤ 8 := by
  intro l hl
  obtain ⟨k, hk, e⟩ := List.mem_iff_getElem.1 hl
  have := fne_parts (sok_fine h k hk)
  rw [List.getD_eq_getElem?_getD, List.getElem?_eq_getElem hk, Option.getD_some, e] at this
  exact this.2.1
theorem stb_len {s : Stp} (h : stok s = true) : (stb s).length ≤ 740 := by
  obtain ⟨_, _, _, k4, k5⟩ := stok_parts h
  have h1 := ssb_len (sok_lens k5)
  have h2 := vsz_le (s.2.1 - s.1 - 1)
  have h3 := vsz_le s.2.2.length
  unfold stb
  rw [List.length_append, List.length_append, vz_length, vz_length]
  omega
theorem positions_any (f t : Int) (A : Option Addr) (n m : Nat) (w : World) (h0 : 0 ≤ f) (h1 : f ≤ t) (h2 : t ≤ 4611686018427387904) :
    Calls Tryz.prog 165 #[stagg f t A n m] w (BPost (.int .u64 (t - f)) w) := by
  have hX := Blk.new w (stc f t A n m) 128
  have hb := below_one w (.cells (stc f t A n m) 128)
  obtain ⟨x0, x1, x2⟩ := hX.c3
  have e1 : IntKind.u64.wrap (t - f) = t - f := IntWalk.u64_in _ (by omega)
  unfold BPost
  clear hX
  go_enter Tryz.func165, Tryz.ntmps165
  go_wp2
  go_ret
  exact ⟨rfl, hb⟩
set_option maxHeartbeats 4000000 in
theorem stput_yes {w : World} {B b : Nat} {r : Option Nat} {y : List Int} {M : Int} (P : Nat → Prop) (f t : Int) (A : Option Addr) (n m : Nat) (S : List (List Int)) (hok : stok (f, t, S) = true) (hf : 0 ≤ f) (h : Wr w B b r y M 0) (hz : Sts w P A n S) (hm : n ≤ m)
    (hoff : ∀ b', P b' → b' < w.heap.size → ¬ WS b r b') (hM : (y.length : Int) + (stb (f, t, S)).length ≤ M) (hy : y.length ≤ 90000) (hBw : B ≤ w.heap.size) :
    Calls Tryz.prog 108 #[.pointer (some ⟨b, 0, none⟩), stagg f t A n m] w (PRPost B b r (y ++ stb (f, t, S)) M w) := by
  have hX := Blk.new w (stc f t A n m) 128
  have hb := below_one w (.cells (stc f t A n m) 128)
  have hlenB := stb_len hok
  obtain ⟨k1, k2, k3, k4, k5⟩ := stok_parts hok
  dsimp only at k1 k2 k3 k4 k5
  have HL := Lib.hid hz.1
  have HFN := Lib.hid (sok_fine k5)
  have hn8 : n ≤ 8 := by rw [← hz.1]; exact k4
  have hn1 : 1 ≤ n := by rw [← hz.1]; exact k3
  have hrcon := stright_any P f t A n m S _ (hz.below hb) hm (by omega) (fun l hl => Nat.le_trans (sok_lens k5 l hl) (by omega))
  rw [hok] at hrcon
  unfold BPost at hrcon
  have hpos := fun w' => positions_any f t A n m w' hf (by omega) k2
  unfold BPost at hpos
  obtain ⟨g, o, rfl, hPg, hg, _⟩ := hz.cells (by omega)
  have HC := Lib.hid (fun k (hk : k < n) => hz.ks_cells hoff hk)
  have HOFF := Lib.hid hoff
  have HE : Hid (stk f t S n = stb (f, t, S)) := Lib.hid (by rw [← hz.1]; exact stk_end f t S)
  have HSU := Lib.hid (fun k (hk : k < S.length) => stk_succ (f := f) (t := t) hk)
  have HLE := Lib.hid (fun k (hk : k ≤ S.length) => stk_le (f := f) (t := t) hk)
  have H0 : Hid (stk f t S 0 = vz (t - f - 1) ++ vz n) := Lib.hid (by unfold stk ssb; rw [hz.1]; simp)
  have HM := Lib.hid hM
  have HLB := Lib.hid hlenB
  have hXo := h.off (Nat.le_refl _)
  have hks0 : Ks (WS b r) w (w.alloc (.cells (stc f t (some ⟨g, o, none⟩) n m) 128)) := Ks.of_below hb
  have h1 := h.below hb
  generalize stb (f, t, S) = ST at *
  generalize stk f t S = sk at *
  have e1 : IntKind.u64.wrap ((t - f) - 1) = t - f - 1 := IntWalk.u64_in _ (by omega)
  have e2 : IntKind.u64.wrap (n : Int) = n := IntWalk.u64_in _ (by omega)
  have e0 : 0 ≤ t - f - 1 ∧ t - f - 1 < 18446744073709551616 := by omega
  clear hok hz hoff k1 k2 k3 k4 k5 hM hlenB h hb
  obtain ⟨x0, x1, x2⟩ := hX.c3
  obtain ⟨d, hd⟩ : ∃ d, d = t - f := ⟨_, rfl⟩
  rw [← hd] at e1 e0 hpos H0
  have HD := Lib.hid hd
  clear hd
  go_enter Tryz.func108, Tryz.ntmps108
  go_wp2_with fail
  refine hrcon.mono ?_
  rintro e w1 ⟨rfl, hb1⟩
  replace hX := hX.below hb1
  have hks1 := hks0.trans (Ks.of_below hb1)
  replace h1 := h1.below hb1
  clear hrcon hb1 hks0 x0 x1 x2
  obtain ⟨x0, x1, x2⟩ := hX.c3
  go_wp2_with fail
  refine (hpos _).mono ?_
  rintro e w2 ⟨rfl, hb2⟩
  replace hX := hX.below hb2
  have hks2 := hks1.trans (Ks.of_below hb2)
  replace h1 := h1.below hb2
  clear hpos hb2 hks1 x0 x1 x2
  obtain ⟨x0, x1, x2⟩ := hX.c3
  have hB2 := Nat.le_trans hBw hks2.size
  have hX2l := hX.lt
  go_wp2_with fail
  refine (vput_any _ h1 e0.1 e0.2 (by omega) hB2).mono ?_
  rintro e w3 ⟨r3, rfl, hk3, hg3, hw3⟩
  have l1 := HLE.out 0 (Nat.zero_le _)
  rw [H0.out, List.length_append, vz_length, vz_length] at l1
  have hfit := putZ_fits (z := y) (y := vz (d - 1)) (M := M) (by rw [vz_length]; have := HM.out; omega)
  rw [hfit.1, hfit.2] at hw3
  replace hX := hX.ks hk3 hXo
  have hks3 := Ks.wr hks2 (Gr.refl _ _) hk3
  have hgr3 : Gr r r3 w := (Gr.refl _ _).trans hg3 hks2.size
  have hXo3 : ¬ WS b r3 w.heap.size := fun hs => by
    rcases hs with e | e
    · exact hXo (.inl e)
    · rcases hg3 with e2 | ⟨g', e2, hg'⟩
      · exact hXo (.inr (by rw [← e2]; exact e))
      · rw [e2] at e; injection e with e; have := hX2l; omega
  clear hfit hk3 h1 hg3 hks2 x0 x1 x2 e0
  obtain ⟨x0, x1, x2⟩ := hX.c3
  have hB3 := Nat.le_trans hBw hks3.size
  have v1 := vsz_le (d - 1)
  go_wp2_with fail
  refine (vput_any _ hw3 (by omega) (by omega) (by rw [List.length_append, vz_length]; omega) hB3).mono ?_
  rintro e w4 ⟨r4, rfl, hk4, hg4, hw4⟩
  have hfit := putZ_fits (z := y ++ vz (d - 1)) (y := vz n) (M := M) (by rw [List.length_append, vz_length, vz_length]; have := HM.out; push_cast at *; omega)
  rw [hfit.1, hfit.2, List.append_assoc, ← H0.out] at hw4
  replace hX := hX.ks hk4 hXo3
  have hks4 := Ks.wr hks3 hgr3 hk4
  have hgr4 : Gr r r4 w := hgr3.trans hg4 hks3.size
  clear hfit hk4 hw3 hg4 hks3 hgr3 x0 x1 x2 v1 l1 hXo3 hX2l
  obtain ⟨x0, x1, x2⟩ := hX.c3
  go_wp2
  clear x0 x1 x2 hX hXo
  go_loopw [25] (fun i wr => ∃ (k : Nat) (r' : Option Nat), k ≤ n ∧ i = .int .i64 k ∧ Ks (WS b r) w wr ∧ Gr r r' w ∧ Wr wr B b r' (y ++ sk k) M 0) (fun i _ => n - (intOf i).toNat)
  case atStart => exact ⟨0, r4, by omega, rfl, hks4, hgr4, hw4⟩
  case round =>
    obtain ⟨k, r', hk, rfl, hks, hgr, hw⟩ := hrel
    by_cases hlt : k < n
    · obtain ⟨a, l, mm, hl, hlm, han, hbl, hby, hcell⟩ := HC.out k hlt
      obtain ⟨c0, hus⟩ := hcell wr hks
      have hkS : k < S.length := by rw [HL.out]; exact hlt
      obtain ⟨q1, q2, q3, _⟩ := fne_parts (HFN.out k hkS)
      have hsu := HSU.out k hkS
      have hle0 := HLE.out k (by omega)
      have hle := HLE.out (k + 1) (by omega)
      rw [hsu, List.length_append, List.length_append, vz_length] at hle
      rw [hl] at hsu hle q1 q2
      obtain ⟨z, hz⟩ : ∃ z, z = S.getD k [] := ⟨_, rfl⟩
      rw [← hz] at hus hby q3 hsu hle hl
      have HSN := Lib.hid hsu
      have HBY := Lib.hid hby
      have HRI := Lib.hid q3
      have HA : Hid (0 < l → ∀ ad, a = some ad → ad.block < w.heap.size ∧ ¬ WS b r ad.block) := Lib.hid fun h0 ad ha => by
        obtain ⟨h1, h2⟩ := hbl h0 ad ha
        exact ⟨h2, HOFF.out _ h1 h2⟩
      have HF1 : Hid (((y ++ sk k).length : Int) + (vz (l : Int)).length ≤ M) := Lib.hid (by have := HM.out; rw [List.length_append, vz_length]; push_cast at *; omega)
      have HF2 : Hid (((y ++ sk k ++ vz (l : Int)).length : Int) + (rz z).length ≤ M) := Lib.hid (by have := HM.out; rw [List.length_append, List.length_append, vz_length]; push_cast at *; omega)
      have HY : Hid ((y ++ sk k).length ≤ 90740) := Lib.hid (by have := HLB.out; rw [List.length_append]; omega)
      have v3 := vsz_le (l : Int)
      have HY2 : Hid ((y ++ sk k ++ vz (l : Int)).length ≤ 90760) := Lib.hid (by have := HY.out; rw [List.length_append, vz_length]; omega)
      have e3 : IntKind.u64.wrap (l : Int) = l := IntWalk.u64_in _ (by omega)
      have e4 : (k : Int) < n := by omega
      have e5 : IntKind.i64.wrap ((k : Int) + 1) = ((k + 1 : Nat) : Int) := IntWalk.i64_in _ (by omega)
      have hB5 := Nat.le_trans hBw hks.size
      clear hcell hsu hle hle0 hby q3 han hbl hz hl v3
      go_wp2_with fail
      refine (vput_any _ hw (by omega) (by omega) (by have := HY.out; omega) hB5).mono ?_
      rintro e w5 ⟨r5, rfl, hk5, hg5, hw5⟩
      have hfit := putZ_fits HF1.out
      rw [hfit.1, hfit.2] at hw5
      have hno : 0 < l → ∀ ad, a = some ad → ¬ WS b r' ad.block := fun h0 ad ha hws => by
        obtain ⟨h1, h2⟩ := HA.out h0 ad ha
        rcases hws with e | e
        · exact h2 (.inl e)
        · rcases hgr with rfl | ⟨g', rfl, hg'⟩
          · exact h2 (.inr e)
          · injection e with e; omega
      have hus5 := hus.ks hk5 hno
      have hks5 := Ks.wr hks hgr hk5
      have hgr5 : Gr r r5 w := hgr.trans hg5 hks.size
      have hno5 : 0 < l → ∀ ad, a = some ad → ¬ WS b r5 ad.block := fun h0 ad ha hws => by
        obtain ⟨h1, h2⟩ := HA.out h0 ad ha
        rcases hws with e | e
        · exact h2 (.inl e)
        · rcases hgr5 with rfl | ⟨g', rfl, hg'⟩
          · exact h2 (.inr e)
          · injection e with e; omega
      have hB6 := Nat.le_trans hBw hks5.size
      clear hfit hk5 hg5 hw hno hks hgr hus c0
      go_wp2_with fail
      refine (putrising_yes a l mm z hw5 hus5 hno5 (by omega) HBY.out HRI.out HF2.out (by have := HY2.out; omega) hB6).mono ?_
      rintro e w6 ⟨r6, rfl, hk6, hg6, hw6⟩
      rw [List.append_assoc, List.append_assoc, ← HSN.out] at hw6
      have hks6 := Ks.wr hks5 hgr5 hk6
      have hgr6 : Gr r r6 w := hgr5.trans hg6 hks5.size
      clear hw5 hus5 hno5 hk6 hg6 hks5 hgr5
      go_wp2
      go_roundw
      case rel => exact ⟨k + 1, r6, by omega, by go_num, hks6, hgr6, hw6⟩
      case measure => simp [intOf]; omega
    · obtain rfl : k = n := by omega
      rw [HE.out] at hw
      go_wp2
      go_end0
      exact ⟨r', rfl, hks, hgr, hw⟩
end Go.Proofs.YtmiimjgfainclaaGreat.Cur
namespace Go.Proofs.YtmiimjgfainclaaGreat.Cur
open Go.RowKit Mem
set_option linter.unusedVariables false
set_option maxRecDepth 100000
set_option maxHeartbeats 4000000 in
theorem rstbytes_any (P : Nat → Prop) (f t : Int) (A : Option Addr) (n m : Nat) (S : List (List Int)) (hok : stok (f, t, S) = true) (hf : 0 ≤ f) (w : World) (hz : Sts w P A n S) (hm : n ≤ m) :
    Calls Tryz.prog 132 #[stagg f t A n m] w (RowPost (stb (f, t, S)) w) := by
  have hX := Blk.new w (stc f t A n m) 128
  have hb := below_one w (.cells (stc f t A n m) 128)
  have hw0 : (w.alloc (.cells (stc f t A n m) 128)).heap.size = w.heap.size + 1 := by simp
  have hlenB := stb_len hok
  obtain ⟨k1, k2, k3, k4, k5⟩ := stok_parts hok
  dsimp only at k1 k2 k3 k4 k5
  have HL := Lib.hid hz.1
  have HFN := Lib.hid (sok_fine k5)
  have hn8 : n ≤ 8 := by rw [← hz.1]; exact k4
  have hn1 : 1 ≤ n := by rw [← hz.1]; exact k3
  obtain ⟨g, o, rfl, _, hg, _⟩ := hz.cells (by omega)
  have HC := Lib.hid (hz.below hb)
  have HE : Hid (stk f t S n = stb (f, t, S)) := Lib.hid (by rw [← hz.1]; exact stk_end f t S)
  have HSU := Lib.hid (fun k (hk : k < S.length) => stk_succ (f := f) (t := t) hk)
  have HLE := Lib.hid (fun k (hk : k ≤ S.length) => stk_le (f := f) (t := t) hk)
  have H0 : Hid (stk f t S 0 = vz (t - f - 1) ++ vz n) := Lib.hid (by unfold stk ssb; rw [hz.1]; simp)
  have HLB := Lib.hid hlenB
  generalize stb (f, t, S) = ST at *
  generalize stk f t S = sk at *
  have e1 : IntKind.u64.wrap (t - f) = t - f := IntWalk.u64_in _ (by omega)
  have e1b : IntKind.u64.wrap ((t - f) - 1) = t - f - 1 := IntWalk.u64_in _ (by omega)
  have e2 : IntKind.u8.wrap (n : Int) = n := IntWalk.u8_in _ (by omega)
  have e0 : 0 ≤ t - f - 1 ∧ t - f - 1 < 18446744073709551616 := by omega
  have HVN : Hid (vz (n : Int) = [(n : Int)]) := Lib.hid (vz_lt _ (by omega))
  clear hok hz k1 k2 k3 k4 k5 hlenB
  obtain ⟨x0, x1, x2⟩ := hX.c3
  obtain ⟨d, hd⟩ : ∃ d, d = t - f := ⟨_, rfl⟩
  rw [← hd] at e1 e1b e0 H0
  have HD := Lib.hid hd
  have e1' : IntKind.u64.wrap (t - f) = d := by rw [← HD.out]; exact e1
  clear hd e1
  go_enter Tryz.func132, Tryz.ntmps132
  go_wp2_with fail
  generalize w.alloc (.cells (stc f t (some ⟨g, o, none⟩) n m) 128) = w0 at *
  refine (rbytes_any 10 _ _ (vsz_le _) e0.1 e0.2).mono ?_
  rintro e w1 ⟨A1, m1, rfl, hb1, _, _, _, ho1⟩
  have hX1 := hX.below hb1
  have HX := Lib.hid hX
  have HN := Lib.hid (vz_length (d - 1))
  have HV1 := Lib.hid (vsz_le (d - 1))
  clear x0 x1 x2 e0 hX
  obtain ⟨x0, x1, x2⟩ := hX1.c3
  have hA := below_one w1 (.cells #[.int .u8 (n : Int)] 5)
  have hoA := ho1.below hA
  have hbA := hb1.trans (hA.mono hb1.size)
  have hXA := hX1.below hA
  have hbsA := (Own.built w1 (n : Int)).bs.2
  have hBA := hbA.size
  have hLA : (vz (d - 1)).length + [(n : Int)].length ≤ 1000000 := by rw [HN.out]; have := HV1.out; simp; omega
  clear hX1 ho1 hb1 hA
  go_wp2_with (at_builtin; go_must (refine list_append_gr rfl (.tmp 12) (.tmp 17) rfl w0.heap.size _ _ rfl hoA _ 1 1 [(n : Int)] rfl hbsA (by simp) hLA hBA ?_; intro v2 w2 ho2 hg2 hgr2; have hb2 := Own.belowOf hbA hBA hoA hg2; clear hoA hbA hXA hbsA hBA hLA hg2 hgr2 x0 x1 x2))
  rw [← HVN.out, ← H0.out] at ho2
  go_loopw [3, 4] (fun v i wr => ∃ k : Nat, k ≤ n ∧ i = .int .i64 k ∧ Own wr w0.heap.size v (sk k) ∧ Below w0.heap.size w0 wr) (fun _ i _ => n - (intOf i).toNat)
  case atStart => exact ⟨0, by omega, rfl, ho2, hb2⟩
  case round =>
    clear ho2 hb2
    obtain ⟨k, hk, rfl, ho, hbr⟩ := hrel
    have hX := HX.out.below hbr
    obtain ⟨x0, x1, x2⟩ := hX.c3
    by_cases hlt : k < n
    · obtain ⟨g', o', e, _, _, hc⟩ := HC.out.cells (by omega)
      injection e with e
      injection e with ea eb
      subst ea eb
      obtain ⟨a, l, mm, hl, hlm, han, hus, hbl, hby, hcell⟩ := hc k hlt
      have c0 := hcell wr hbr
      have hkS : k < S.length := by rw [HL.out]; exact hlt
      obtain ⟨q1, q2, q3, _⟩ := fne_parts (HFN.out k hkS)
      have hsu := HSU.out k hkS
      have hle0 := HLE.out k (by omega)
      rw [hl] at hsu q1 q2
      obtain ⟨z, hz⟩ : ∃ z, z = S.getD k [] := ⟨_, rfl⟩
      rw [← hz] at hus hby q3 hsu hl
      have HSN := Lib.hid hsu
      have HBY := Lib.hid hby
      have HRI := Lib.hid q3
      have HUS := Lib.hid hus
      have HCELL := Lib.hid hcell
      have HVL : Hid (vz (l : Int) = [(l : Int)]) := Lib.hid (vz_lt _ (by omega))
      have HY : Hid ((sk k).length ≤ 740) := Lib.hid (Nat.le_trans hle0 HLB.out)
      have e3 : IntKind.u8.wrap (l : Int) = l := IntWalk.u8_in _ (by omega)
      have e4 : (k : Int) < n := by omega
      have e5 : IntKind.i64.wrap ((k : Int) + 1) = ((k + 1 : Nat) : Int) := IntWalk.i64_in _ (by omega)
      have hA := below_one wr (.cells #[.int .u8 (l : Int)] 5)
      have hoA := ho.below hA
      have hbA := hbr.trans (hA.mono hbr.size)
      have hbsA := (Own.built wr (l : Int)).bs.2
      have hBA := hbA.size
      have hLA : (sk k).length + [(l : Int)].length ≤ 1000000 := by have := HY.out; simp; omega
      obtain ⟨Av, cv, rfl⟩ := ho.slice
      clear hc hcell hus hby q3 han hbl hz hl hsu hle0 ho hA
      go_wp2_with (at_builtin; go_must (refine list_append_gr rfl (.tmp 26) (.tmp 34) rfl w0.heap.size _ _ rfl hoA _ 1 1 [(l : Int)] rfl hbsA (by simp) hLA hBA ?_; intro v2 w2 ho2 hg2 hgr2; have hb2 := Own.belowOf hbA hBA hoA hg2; clear hoA hbA hbsA hBA hLA hg2 hgr2 x0 x1 x2 hX c0 hbr; obtain ⟨x0, x1, x2⟩ := (HX.out.below hb2).c3; have c0 := HCELL.out _ hb2))
      have hus2 := HUS.out.below hb2
      have hL2 : (sk k ++ [(l : Int)]).length ≤ 741 := by have := HY.out; rw [List.length_append]; simp; omega
      obtain ⟨y2, hy2⟩ : ∃ y2, y2 = sk k ++ [(l : Int)] := ⟨_, rfl⟩
      rw [← hy2] at ho2 hL2
      have HY2 := Lib.hid hy2
      obtain ⟨A2, c2, rfl⟩ := ho2.slice
      clear hy2
      refine (rrz_any a l mm z w2 hus2 (by omega) HBY.out HRI.out).mono ?_
      rintro e w3 ⟨A3, m3, rfl, hb3, hbs3, hnil3, _, _⟩
      have ho3 := ho2.below hb3
      have hbd3 := hb2.trans (hb3.mono hb2.size)
      have hB3 := hbd3.size
      have hlz := rz_len z
      have hzl := HUS.out.1
      have hL3 : y2.length + (rz z).length ≤ 1000000 := by omega
      have HZR := Lib.hid (rfl : rz z = rz z)
      obtain ⟨u, hu⟩ : ∃ u, u = rz z := ⟨_, rfl⟩
      rw [← hu] at hbs3 hL3 ⊢
      have HU := Lib.hid hu
      clear hb3 ho2 hb2 x0 x1 x2 c0 hus2 hlz hzl hu
      go_wp2_with (at_builtin; go_must (refine list_append_gr rfl (.tmp 36) (.tmp 42) rfl w0.heap.size _ _ rfl ho3 _ _ _ u rfl hbs3 hnil3 hL3 hB3 ?_; intro v4 w4 ho4 hg4 hgr4; have hb4 := Own.belowOf hbd3 hB3 ho3 hg4; clear ho3 hbd3 hbs3 hB3 hL3 hg4 hgr4))
      go_roundw
      case rel => exact ⟨k + 1, by omega, by go_num, by rw [HSN.out, HVL.out, ← List.append_assoc, ← HY2.out, ← HU.out]; exact ho4, hb4⟩
      case measure => simp [intOf]; omega
    · obtain rfl : k = n := by omega
      rw [HE.out] at ho
      have HO := Lib.hid (ho.base (B' := w.heap.size) fun g hg => by have := ho.ge g hg; omega)
      have HB := Lib.hid (hb.trans (hbr.mono hb.size))
      obtain ⟨Av, cv, rfl⟩ := ho.slice
      clear ho hbr hb hX
      go_wp2
      go_ret
      exact Own.rowPost (B := 0) HO.out HB.out
end Go.Proofs.YtmiimjgfainclaaGreat.Cur
namespace Go.Proofs.YtmiimjgfainclaaGreat.Cur
open Go.RowKit Mem
set_option linter.unusedVariables false
set_option maxRecDepth 100000
def OwnSts (w : World) (B : Nat) (v : Value) (S : List (List Int)) : Prop := OwnQ (SlE U64E) 23 w B (fun k => B ≤ k ∧ v.ownBlock ≠ some k) v S
theorem OwnSts.nil (w : World) (B : Nat) : OwnSts w B (.slice none 0 0) [] := OwnQ.nil _ _ _ _ _
theorem OwnSts.ge {w : World} {B : Nat} {v : Value} {S : List (List Int)} (h : OwnSts w B v S) : ∀ g, v.ownBlock = some g → B ≤ g := by
  obtain ⟨cs, h1, h2, h3⟩ := h
  exact own_ge h2
theorem OwnSts.lt {w : World} {B : Nat} {v : Value} {S : List (List Int)} (h : OwnSts w B v S) : ∀ g, v.ownBlock = some g → g < w.heap.size := by
  obtain ⟨cs, h1, h2, h3⟩ := h
  exact fun g hg => (World.ownsRow.lt h2 g hg).2
theorem OwnSts.keep {w w' : World} {B : Nat} {v : Value} {S : List (List Int)} (h : OwnSts w B v S) (hk : ∀ b, B ≤ b → b < w.heap.size → w'.heap[b]? = w.heap[b]?) : OwnSts w' B v S := by
  have hge := h.ge
  have hlt := h.lt
  obtain ⟨cs, h1, h2, h3⟩ := h
  exact ⟨cs, h1.keep fun b hb hlt => hk b hb.1 hlt, own_block h2 fun k hk' => hk k (hge k hk') (hlt k hk'), h3⟩
theorem OwnSts.below {w w' : World} {B : Nat} {v : Value} {S : List (List Int)} (h : OwnSts w B v S) (hb : Below w.heap.size w w') : OwnSts w' B v S := h.keep fun b _ hlt => hb.block b hlt
theorem OwnSts.ks {S0 : Nat → Prop} {w w' : World} {B : Nat} {v : Value} {S : List (List Int)} (h : OwnSts w B v S) (k : Ks S0 w w') (h0 : ∀ g, S0 g → g < B) : OwnSts w' B v S := h.keep fun b hb hlt => k.block b hlt fun hs => by have := h0 b hs; omega
theorem OwnSts.kp {b : Nat} {w w' : World} {B : Nat} {v : Value} {S : List (List Int)} (h : OwnSts w B v S) (k : Kp b w w') (h0 : b < B) : OwnSts w' B v S := h.keep fun g hb hlt => k.block g hlt (by omega)
theorem OwnSts.sts {w : World} {B : Nat} {v : Value} {S : List (List Int)} (h : OwnSts w B v S) : ∃ A c, v = .slice A S.length c ∧ S.length ≤ c ∧ (A = none → c = 0) ∧ Sts w (fun k => B ≤ k) A S.length S := by
  have hge := h.ge
  obtain ⟨A, c, e, h1, h2, h3⟩ := OwnQ.slice h
  exact ⟨A, c, e, h1, h2, rfl, h3.mono fun b hb _ => by
    rcases hb with hb | hb
    · exact hb.1
    · exact hge b hb⟩
theorem OwnSts.snoc {w w' : World} {B : Nat} {v v' : Value} {S : List (List Int)} {cs : List (List Value)} {c : List Value} {x : List Int}
    (h1 : Ch (SlE U64E) w (fun k => B ≤ k ∧ v.ownBlock ≠ some k) cs S) (h3 : ∀ g, v.ownBlock = some g → ¬ (fun k => B ≤ k ∧ v.ownBlock ≠ some k) g)
    (hx : (SlE U64E).R w (fun k => B ≤ k ∧ v.ownBlock ≠ some k) c x) (ho : w'.ownsRow B 23 1 v' (S.length + 1) (cs.flatten ++ c)) (hg : w.grownBy w' v.ownBlock) (hgr : Gr v.ownBlock v'.ownBlock w) : OwnSts w' B v' (S ++ [x]) := by
  have h := OwnQ.snoc (E := SlE U64E) (e := 23) h1 h3 hx ho hg hgr
  refine h.mono (fun b hb _ => ⟨hb.1.1, fun e => ?_⟩) (fun g hg2 hh => hh.2 hg2)
  rcases hgr with e2 | ⟨g', e2, hg'⟩
  · exact hb.1.2 (by rw [← e2]; exact e)
  · rw [e2] at e
    injection e with e
    have := hb.2
    omega
theorem kindSU : Kind 126 23 (.slice none 0 0) 1 24 := ⟨Tryz.underlying126, by kernel_rfl, rfl, by decide⟩
end Go.Proofs.YtmiimjgfainclaaGreat.Cur
namespace Go.Proofs.YtmiimjgfainclaaGreat.Cur
open Go.RowKit Mem
set_option linter.unusedVariables false
set_option maxRecDepth 100000
theorem apB_iff (S : List (List Int)) : apB S = true ↔ ∀ i, i < S.length → tw (S.take i) (S.getD i []) = false := by
  constructor
  · intro h i hi
    cases e : tw (S.take i) (S.getD i []) with
    | false => rfl
    | true => rw [apB_no hi e] at h; cases h
  · exact apB_yes
theorem apB_snoc (S : List (List Int)) (l : List Int) : apB (S ++ [l]) = (apB S && !tw S l) := by
  rw [Bool.eq_iff_iff, Bool.and_eq_true, apB_iff, apB_iff, List.length_append, List.length_singleton]
  constructor
  · intro h
    refine ⟨fun i hi => ?_, ?_⟩
    · have := h i (by omega)
      rwa [List.take_append_of_le_length (by omega), List.getD_eq_getElem?_getD, List.getElem?_append_left hi, ← List.getD_eq_getElem?_getD] at this
    · have := h S.length (by omega)
      rw [List.take_append_of_le_length (Nat.le_refl _), List.take_length, List.getD_eq_getElem?_getD, List.getElem?_append_right (Nat.le_refl _), Nat.sub_self] at this
      have h2 : tw S l = false := this
      rw [h2]; rfl
  · rintro ⟨h1, h2⟩ i hi
    rcases Nat.lt_or_ge i S.length with h3 | h3
    · rw [List.take_append_of_le_length (by omega), List.getD_eq_getElem?_getD, List.getElem?_append_left h3, ← List.getD_eq_getElem?_getD]
      exact h1 i h3
    · obtain rfl : i = S.length := by omega
      rw [List.take_append_of_le_length (Nat.le_refl _), List.take_length, List.getD_eq_getElem?_getD, List.getElem?_append_right (Nat.le_refl _), Nat.sub_self]
      show tw S l = false
      simpa using h2
end Go.Proofs.YtmiimjgfainclaaGreat.Cur
namespace Go.Proofs.YtmiimjgfainclaaGreat.Cur
open Go.RowKit Mem
set_option linter.unusedVariables false
set_option maxRecDepth 100000
theorem Kp.ks {b : Nat} {S : Nat → Prop} {w w1 w2 : World} (h : Kp b w w1) (k : Ks S w1 w2) (hS : ∀ g, S g → g = b ∨ w.heap.size ≤ g) : Kp b w w2 :=
  ⟨k.os.trans h.os, k.tape.trans h.tape, k.output.trans h.output, Nat.le_trans h.size k.size, fun g hg hne => (k.block g (Nat.lt_of_lt_of_le hg h.size) fun hs => by
    rcases hS g hs with e | e
    · exact hne e
    · omega).trans (h.block g hg hne)⟩
def SsSt (n : Nat) (z : List Int) (N : Nat) (p2 c2 q2 : Int) (k : Nat) (S : List (List Int)) (pk ck qk : Int) : Prop :=
  (ck = 0 ∧ c2 = 0 ∧ qk = q2 ∧ ssg z N p2 [] = ssg z (N - k) pk S ∧ apB S = true) ∨ (ck ≠ 0 ∧ St [] n (ssg z N p2 []) p2 c2 q2 [] pk ck qk)
theorem SsSt.start {n : Nat} {z : List Int} {N : Nat} {p2 c2 q2 : Int} (h0 : 0 ≤ p2) (h1 : p2 ≤ n) : SsSt n z N p2 c2 q2 0 [] p2 c2 q2 := by
  by_cases hc : c2 = 0
  · exact .inl ⟨hc, hc, rfl, rfl, rfl⟩
  · exact .inr ⟨hc, St.stay h0 h1 hc⟩
theorem SsSt.next {n : Nat} {z : List Int} {N : Nat} {p2 c2 q2 : Int} {k : Nat} {S : List (List Int)} {pk ck qk : Int} (h : SsSt n z N p2 c2 q2 k S pk ck qk) (hk : k < N) {l : List Int} {p' c' q' : Int} (hs : St [] n (stl z S pk) pk ck qk (if c' = 0 then l else []) p' c' q') (hap : c' = 0 → tw S l = false) :
    SsSt n z N p2 c2 q2 (k + 1) (S ++ [l]) p' c' q' := by
  obtain ⟨s0, s1⟩ := hs.place
  rcases h with ⟨rfl, rfl, rfl, e, ha⟩ | ⟨hc, h⟩
  · have e2 : ssg z (N - k) pk S = (stl z S pk).bind [] fun l p' => ssg z (N - (k + 1)) p' (S ++ [l]) := by
      rw [show N - k = N - (k + 1) + 1 by omega]; rfl
    by_cases hc : c' = 0
    · subst hc
      rw [if_pos rfl] at hs
      obtain ⟨_, g0, gl, gp, gq⟩ := hs.good
      refine .inl ⟨rfl, rfl, gq, ?_, by rw [apB_snoc, ha, hap rfl]; rfl⟩
      rw [e, e2]
      unfold Rs.bind
      rw [if_neg (by simp [g0]), ← gl, ← gp]
    · rw [if_neg hc] at hs
      refine .inr ⟨hc, ?_⟩
      rw [e, e2]
      have := hs.bind (f := fun l p' => ssg z (N - (k + 1)) p' (S ++ [l])) (St.stay (d := []) s0 s1 hc)
      obtain ⟨a0, a1, a2⟩ := this
      refine ⟨a0, a1, ?_⟩
      rcases a2 with ⟨h, _⟩ | ⟨_, _, _, _, h, _⟩ | a2
      · exact absurd rfl h
      · exact absurd h hc
      · exact .inr (.inr a2)
  · have hb := hs.bad hc
    obtain ⟨_, rfl, rfl⟩ := hb
    refine .inr ⟨hc, ?_⟩
    obtain ⟨_, _, a2⟩ := h
    refine ⟨s0, s1, ?_⟩
    rcases a2 with a2 | ⟨_, _, _, _, h, _⟩ | a2
    · exact .inl a2
    · exact absurd h hc
    · exact .inr (.inr a2)
theorem SsSt.done {n : Nat} {z : List Int} {N : Nat} {p2 c2 q2 : Int} {S : List (List Int)} {pk ck qk : Int} (h : SsSt n z N p2 c2 q2 N S pk ck qk) (h0 : 0 ≤ pk) (h1 : pk ≤ n) : St [] n (ssg z N p2 []) p2 c2 q2 (if ck = 0 then S else []) pk ck qk := by
  rcases h with ⟨rfl, rfl, rfl, e, ha⟩ | ⟨hc, h⟩
  · rw [if_pos rfl]
    exact St.done (by rw [e, Nat.sub_self]; rfl) h0 h1
  · rw [if_neg hc]; exact h
end Go.Proofs.YtmiimjgfainclaaGreat.Cur
namespace Go.Proofs.YtmiimjgfainclaaGreat.Cur
open Go.RowKit Mem
set_option linter.unusedVariables false
set_option maxRecDepth 100000
def RStPost (s : Value) (n : Nat) (z : List Int) (f p c q : Int) (w : World) (e : Ending) (w' : World) : Prop :=
  ∃ (f' t : Int) (A : Option Addr) (N m : Nat) (S : List (List Int)) (p' c' q' : Int), e = .returned (.tuple #[cv s p' c' q', stagg f' t A N m]) ∧ Below w.heap.size w w' ∧ Sts w' (fun k => w.heap.size ≤ k) A N S ∧ N ≤ m ∧ (A = none → m = 0) ∧
    (0 ≤ f' ∧ f' < 18446744073709551616) ∧ (0 ≤ t ∧ t < 18446744073709551616) ∧ sbds S ∧ (∀ l ∈ S, l.length ≤ 8) ∧ N ≤ 8 ∧ St stp0 n (str z f p) p c q (f', t, S) p' c' q'
theorem RStPost.zero {s : Value} {n : Nat} {z : List Int} {f p c q : Int} {w w' : World} {p' c' q' : Int} (hb : Below w.heap.size w w') (h : St stp0 n (str z f p) p c q stp0 p' c' q') : RStPost s n z f p c q w (.returned (.tuple #[cv s p' c' q', stagg 0 0 none 0 0])) w' :=
  ⟨0, 0, none, 0, 0, [], p', c', q', rfl, hb, ⟨rfl, Sq.nil _ _ _ _⟩, by omega, fun _ => rfl, by omega, by omega, fun l h => by simp at h, fun l h => by simp at h, by omega, h⟩
end Go.Proofs.YtmiimjgfainclaaGreat.Cur
namespace Go.Proofs.YtmiimjgfainclaaGreat.Cur
open Go.RowKit Mem
set_option linter.unusedVariables false
set_option maxRecDepth 100000
abbrev scs (a : Option Addr) (n m : Nat) (p c q : Int) : Array Value := cvs (.slice a n m) p c q
def RSL (a : Option Addr) (n m : Nat) (z : List Int) (f t : Int) (W : World) (d sx N : Nat) (p2 c2 q2 : Int) (k : Nat) (v : Value) (S : List (List Int)) (pk ck qk : Int) (wr : World) : Prop :=
  Blk wr d (scs a n m pk ck qk) 56 ∧ Blk wr sx #[.int .u64 f, .int .u64 t, v] 128 ∧ Blk wr (W.heap.size + 1) (cvs (.slice none 0 0) 0 0 0) 56 ∧ Blk wr (W.heap.size + 1 + 1) (stc 0 0 none 0 0) 128 ∧
  OwnSts wr (sx + 1) v S ∧ S.length = k ∧ (∀ l ∈ S, l.length ≤ 8) ∧ sbds S ∧ Below W.heap.size W wr ∧ 0 ≤ pk ∧ pk ≤ n ∧ SsSt n z N p2 c2 q2 k S pk ck qk
theorem RSL.below {a : Option Addr} {n m : Nat} {z : List Int} {f t : Int} {W : World} {d sx N : Nat} {p2 c2 q2 : Int} {k : Nat} {v : Value} {S : List (List Int)} {pk ck qk : Int} {wr w' : World} (h : RSL a n m z f t W d sx N p2 c2 q2 k v S pk ck qk wr) (hb : Below wr.heap.size wr w') :
    RSL a n m z f t W d sx N p2 c2 q2 k v S pk ck qk w' := by
  obtain ⟨h1, h2, h3, h4, h5, h6, h7, h8, h9, h10⟩ := h
  exact ⟨h1.below hb, h2.below hb, h3.below hb, h4.below hb, h5.below hb, h6, h7, h8, h9.trans (hb.mono h9.size), h10⟩
theorem RSL.next {a : Option Addr} {n m : Nat} {z : List Int} {f t : Int} {W : World} {d sx N : Nat} {p2 c2 q2 : Int} {k : Nat} {v v' : Value} {S : List (List Int)} {l : List Int} {pk ck qk p' c' q' : Int} {w4 : World}
    (hD : Blk w4 d (scs a n m pk ck qk) 56) (hS : Blk w4 sx #[.int .u64 f, .int .u64 t, v] 128) (hR : Blk w4 (W.heap.size + 1) (cvs (.slice none 0 0) 0 0 0) 56) (hZ : Blk w4 (W.heap.size + 1 + 1) (stc 0 0 none 0 0) 128)
    (ho : OwnSts w4 (sx + 1) v' (S ++ [l])) (hk : S.length = k) (h7 : ∀ l ∈ S, l.length ≤ 8) (hl : l.length ≤ 8) (h8 : sbds S) (hlb : ∀ x ∈ l, 0 ≤ x ∧ x < 18446744073709551616) (hb : Below W.heap.size W w4) (hp0 : 0 ≤ p') (hp1 : p' ≤ n) (hst : SsSt n z N p2 c2 q2 (k + 1) (S ++ [l]) p' c' q')
    (hd0 : W.heap.size + 1 + 1 < d) (hds : d < sx) :
    RSL a n m z f t W d sx N p2 c2 q2 (k + 1) v' (S ++ [l]) p' c' q' (((((w4.setCell ⟨sx, 2, none⟩ v').setCell ⟨d, 0, none⟩ (.slice a n m)).setCell ⟨d, 1, none⟩ (.int .i64 p')).setCell ⟨d, 2, none⟩ (.int .i64 c')).setCell ⟨d, 3, none⟩ (.int .i64 q')) := by
  have hD1 := blk_kp hD (Kp.setCell w4 sx 2 v') (by omega)
  have hS1 : Blk _ sx #[.int .u64 f, .int .u64 t, v'] 128 := hS.set 2 v'
  have hR1 := blk_kp hR (Kp.setCell w4 sx 2 v') (by omega)
  have hZ1 := blk_kp hZ (Kp.setCell w4 sx 2 v') (by omega)
  have ho1 := ho.ks (Ks.setCell (S := fun k => k = sx) w4 sx 2 v' rfl) (fun g hg => by omega)
  have hb1 := below_set hb (b := sx) (by omega) 2 v'
  obtain ⟨x1, x2⟩ := set4 hD1 (.slice a n m) (.int .i64 p') (.int .i64 c') (.int .i64 q')
  refine ⟨x1, blk_kp hS1 x2 (by omega), blk_kp hR1 x2 (by omega), blk_kp hZ1 x2 (by omega), ho1.kp x2 (by omega), by simp [hk], fun x hx => ?_, fun x hx => ?_, Kp.below hb1 (Nat.le_refl _) x2 (by omega), hp0, hp1, hst⟩
  · rcases List.mem_append.1 hx with hx | hx
    · exact h7 x hx
    · rw [List.mem_singleton] at hx; subst hx; exact hl
  · rcases List.mem_append.1 hx with hx | hx
    · exact h8 x hx
    · rw [List.mem_singleton] at hx; subst hx; exact hlb
theorem SsSt.fin {n : Nat} {z : List Int} {N : Nat} {p2 c2 q2 : Int} {k : Nat} {S : List (List Int)} {pk ck qk : Int} (h : SsSt n z N p2 c2 q2 k S pk ck qk) (hk : k = N ∨ ck ≠ 0) (h0 : 0 ≤ pk) (h1 : pk ≤ n) : St [] n (ssg z N p2 []) p2 c2 q2 (if ck = 0 then S else []) pk ck qk := by
  rcases hk with rfl | hk
  · exact h.done h0 h1
  · rcases h with ⟨h, _⟩ | ⟨_, h⟩
    · exact absurd h hk
    · rw [if_neg hk]; exact h
end Go.Proofs.YtmiimjgfainclaaGreat.Cur
namespace Go.Proofs.YtmiimjgfainclaaGreat.Cur
open Go.RowKit Mem
set_option linter.unusedVariables false
set_option maxRecDepth 100000
end Go.Proofs.YtmiimjgfainclaaGreat.Cur

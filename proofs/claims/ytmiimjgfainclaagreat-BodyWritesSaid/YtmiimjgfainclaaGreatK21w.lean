/- As the seat's text, without what nothing here names. -/
import Derived.Test.YtmiimjgfainclaaGreatK20w
import Derived.Test.YtmiimjgfainclaaGreatK1w
import Derived.Deep.Slices
import Derived.Test.YtmiimjgfainclaaGreatK6w
import Derived.BigRegion
namespace Go.Proofs.YtmiimjgfainclaaGreat.Cur
open Go.RowKit Mem Go.ChangeShapes Go.WideShapes
set_option linter.unusedVariables false
set_option maxRecDepth 100000
abbrev Sl3 := Int × Int × Int
abbrev sagg (s : Sl3) : Value := .agg #[.int .u64 s.1, .int .u64 s.2.1, .int .u64 s.2.2]
def svs : List Sl3 → List Value
  | [] => []
  | s :: l => .int .u64 s.1 :: .int .u64 s.2.1 :: .int .u64 s.2.2 :: svs l
theorem svs_len : ∀ l, (svs l).length = l.length * 3
  | [] => rfl
  | p :: l => by simp [svs, svs_len l]; omega
theorem svs_get : ∀ (l : List Sl3) (j : Nat), j < l.length → (svs l)[j * 3]? = some (.int .u64 (l.getD j (0, 0, 0)).1) ∧ (svs l)[j * 3 + 1]? = some (.int .u64 (l.getD j (0, 0, 0)).2.1) ∧ (svs l)[j * 3 + 2]? = some (.int .u64 (l.getD j (0, 0, 0)).2.2)
  | [], j, h => absurd h (by simp)
  | p :: l, 0, h => by simp [svs]
  | p :: l, j + 1, h => by
    have := svs_get l j (by simpa using h)
    rw [show (j + 1) * 3 = j * 3 + 1 + 1 + 1 by omega]
    simp only [svs, List.getElem?_cons_succ, List.getD_cons_succ]
    exact this
def sbd (s : Sl3) : Prop := (0 ≤ s.1 ∧ s.1 < 18446744073709551616) ∧ (0 ≤ s.2.1 ∧ s.2.1 < 18446744073709551616) ∧ (0 ≤ s.2.2 ∧ s.2.2 < 18446744073709551616)
theorem sbd_of {x y u : Int} (h0 : 0 ≤ x) (h1 : x < 18446744073709551616) (h2 : 0 ≤ y) (h3 : y < 18446744073709551616) (h4 : 0 ≤ u) (h5 : u < 18446744073709551616) : sbd (x, y, u) := ⟨⟨h0, h1⟩, ⟨h2, h3⟩, ⟨h4, h5⟩⟩
def Sls (w : World) (A : Option Addr) (n : Nat) (l : List Sl3) : Prop := l.length = n ∧ Rw w A (svs l)
theorem Sls.below {w w' : World} {A : Option Addr} {n : Nat} {z : List Sl3} (h : Sls w A n z) (hb : Below w.heap.size w w') : Sls w' A n z := ⟨h.1, h.2.below hb⟩
theorem Sls.cells {w : World} {A : Option Addr} {n : Nat} {z : List Sl3} (h : Sls w A n z) (hn : 0 < n) : ∃ g o, A = some ⟨g, o, none⟩ ∧ g < w.heap.size ∧ ∀ w', Below w.heap.size w w' → ∀ k, k < n →
    w'.cell? ⟨g, o + k * 3, none⟩ = some (.int .u64 (z.getD k (0, 0, 0)).1) ∧ w'.cell? ⟨g, o + k * 3 + 1, none⟩ = some (.int .u64 (z.getD k (0, 0, 0)).2.1) ∧ w'.cell? ⟨g, o + k * 3 + 2, none⟩ = some (.int .u64 (z.getD k (0, 0, 0)).2.2) := by
  have hl : 0 < (svs z).length := by rw [svs_len, h.1]; omega
  obtain ⟨g, o, e, hc⟩ := h.2 hl
  refine ⟨g, o, e, lt_of_cell (hc 0 _ (List.getElem?_eq_getElem hl)), fun w' hb k hk => ?_⟩
  obtain ⟨g', o', e', hc'⟩ := h.2.below hb hl
  rw [e] at e'
  injection e' with e'
  injection e' with e1 e2
  subst e1 e2
  obtain ⟨s0, s1, s2⟩ := svs_get z k (by rw [h.1]; exact hk)
  refine ⟨hc' _ _ s0, ?_, ?_⟩
  · have := hc' _ _ s1; rwa [← Nat.add_assoc] at this
  · have := hc' _ _ s2; rwa [← Nat.add_assoc] at this
def OwnL (w : World) (B : Nat) (v : Value) (l : List Sl3) : Prop := w.ownsRow B 27 3 v l.length (svs l)
theorem OwnL.nil (w : World) (B : Nat) : OwnL w B (.slice none 0 0) [] := World.ownsRow_nil w B 27 3
theorem OwnL.slice {w : World} {B : Nat} {v : Value} {l : List Sl3} (h : OwnL w B v l) : ∃ A c, v = .slice A l.length c ∧ l.length ≤ c ∧ (A = none → c = 0) ∧ Sls w A l.length l := by
  obtain ⟨A, c, rfl, h0, h1⟩ := own_slice h
  exact ⟨A, c, rfl, h1, h0, rfl, (own_rw h rfl).2.2.2⟩
def slok (s : Sl3) : Bool := epk s.1 && decide (s.2.1 ≤ 4294967295) && decide (s.2.2 ≤ 4611686018427387904)
theorem sright_any (s : Sl3) (w : World) : Calls Tryz.prog 55 #[sagg s] w (BPost (.bool (slok s)) w) := by
  have hX := Blk.new w #[.int .u64 s.1, .int .u64 s.2.1, .int .u64 s.2.2] 27
  have hb := below_one w (.cells #[.int .u64 s.1, .int .u64 s.2.1, .int .u64 s.2.2] 27)
  obtain ⟨x0, x1, x2⟩ := hX.c3
  have HX := Lib.hid hX
  clear hX
  unfold BPost
  obtain ⟨a, b, c⟩ := s
  have hv : slok (a, b, c) = (epk a && decide (b ≤ 4294967295) && decide (c ≤ 4611686018427387904)) := rfl
  generalize slok (a, b, c) = V at hv
  dsimp only at *
  cases hE : epk a
  · rw [hE] at hv
    go_enter Tryz.func55, Tryz.ntmps55
    go_wp2_with fail
    refine (eright_any _ _).mono ?_
    rintro e w' ⟨rfl, rfl⟩
    go_wp2
    go_ret
    first | exact ⟨rfl, hb⟩ | exact ⟨by rw [hv]; rfl, hb⟩
  · rw [hE] at hv
    by_cases hn : b ≤ 4294967295
    · rw [decide_eq_true hn] at hv
      go_enter Tryz.func55, Tryz.ntmps55
      go_wp2_with fail
      refine (eright_any _ _).mono ?_
      rintro e w' ⟨rfl, rfl⟩
      go_wp2
      go_ret
      first | exact ⟨rfl, hb⟩ | exact ⟨by rw [hv]; rfl, hb⟩
    · rw [decide_eq_false hn] at hv
      go_enter Tryz.func55, Tryz.ntmps55
      go_wp2_with fail
      refine (eright_any _ _).mono ?_
      rintro e w' ⟨rfl, rfl⟩
      go_wp2
      go_ret
      first | exact ⟨rfl, hb⟩ | exact ⟨by rw [hv]; rfl, hb⟩
theorem rright18_any (s : Sl3) (h0 : 0 ≤ s.1) (w : World) : Calls Tryz.prog 65 #[sagg s] w (BPost (.bool (slok s)) w) := by
  have hX := Blk.new w #[.int .u64 s.1, .int .u64 s.2.1, .int .u64 s.2.2] 27
  have hb := below_one w (.cells #[.int .u64 s.1, .int .u64 s.2.1, .int .u64 s.2.2] 27)
  obtain ⟨x0, x1, x2⟩ := hX.c3
  have HX := Lib.hid hX
  clear hX
  unfold BPost
  obtain ⟨a, b, c⟩ := s
  have hv : slok (a, b, c) = (epk a && decide (b ≤ 4294967295) && decide (c ≤ 4611686018427387904)) := rfl
  generalize slok (a, b, c) = V at hv
  dsimp only at *
  cases hE : epk a
  · rw [hE] at hv
    go_enter Tryz.func65, Tryz.ntmps65
    go_wp2_with fail
    refine (rright17_any _ h0 _).mono ?_
    rintro e w' ⟨rfl, rfl⟩
    go_wp2
    go_ret
    first | exact ⟨rfl, hb⟩ | exact ⟨by rw [hv]; rfl, hb⟩
  · rw [hE] at hv
    by_cases hn : b ≤ 4294967295
    · rw [decide_eq_true hn] at hv
      go_enter Tryz.func65, Tryz.ntmps65
      go_wp2_with fail
      refine (rright17_any _ h0 _).mono ?_
      rintro e w' ⟨rfl, rfl⟩
      go_wp2
      go_ret
      first | exact ⟨rfl, hb⟩ | exact ⟨by rw [hv]; rfl, hb⟩
    · rw [decide_eq_false hn] at hv
      go_enter Tryz.func65, Tryz.ntmps65
      go_wp2_with fail
      refine (rright17_any _ h0 _).mono ?_
      rintro e w' ⟨rfl, rfl⟩
      go_wp2
      go_ret
      first | exact ⟨rfl, hb⟩ | exact ⟨by rw [hv]; rfl, hb⟩
section
variable {H : Type} {enc : TypeId × Value → H} {w : World} {base : Nat} {v : Value} {d : DataW H} {p : List MemPlace}
end
end Go.Proofs.YtmiimjgfainclaaGreat.Cur
namespace Go.Proofs.YtmiimjgfainclaaGreat.Cur
open Go.RowKit Mem
set_option linter.unusedVariables false
set_option maxRecDepth 100000
def sits (s : Sl3) : List (List Int) := [vz s.1, vz s.2.1, vz s.2.2]
def sby (s : Sl3) : List Int := (sits s).flatten
theorem sby_eq (s : Sl3) : sby s = vz s.1 ++ vz s.2.1 ++ vz s.2.2 := by unfold sby sits; simp
theorem sby_len (s : Sl3) : (sby s).length ≤ 30 := by
  rw [sby_eq, List.length_append, List.length_append, vz_length, vz_length, vz_length]
  have := vsz_le s.1
  have := vsz_le s.2.1
  have := vsz_le s.2.2
  omega
theorem slok_epk {s : Sl3} (h : slok s = true) : epk s.1 = true := by
  unfold slok at h
  rw [Bool.and_eq_true, Bool.and_eq_true] at h
  exact h.1.1
set_option maxHeartbeats 1000000 in
theorem sput_yes {w : World} {B b : Nat} {r : Option Nat} {z : List Int} {M c : Int} (s : Sl3) (hok : slok s = true) (hs : sbd s) (h : Wr w B b r z M c) (hsz : z.length ≤ 800000) (hBw : B ≤ w.heap.size) :
    Calls Tryz.prog 46 #[.pointer (some ⟨b, 0, none⟩), sagg s] w (WPutsPost B b r z (sits s) M c w) := by
  have HE := Lib.hid (slok_epk hok)
  have hX := Blk.new w #[.int .u64 s.1, .int .u64 s.2.1, .int .u64 s.2.2] 27
  have hb := below_one w (.cells #[.int .u64 s.1, .int .u64 s.2.1, .int .u64 s.2.2] 27)
  have HR := fun w' => sright_any s w'
  rw [hok] at HR
  have HP : Hid (puts (sits s) z M c = (putZ (putZ (putZ z (vz s.1) M c) (vz s.2.1) M (putC z (vz s.1) M c)) (vz s.2.2) M (putC (putZ z (vz s.1) M c) (vz s.2.1) M (putC z (vz s.1) M c)),
    putC (putZ (putZ z (vz s.1) M c) (vz s.2.1) M (putC z (vz s.1) M c)) (vz s.2.2) M (putC (putZ z (vz s.1) M c) (vz s.2.1) M (putC z (vz s.1) M c)))) := Lib.hid rfl
  have l1 := putZ_le z (vz s.1) M c
  have l2 := putZ_le (putZ z (vz s.1) M c) (vz s.2.1) M (putC z (vz s.1) M c)
  rw [vz_length] at l1 l2
  have v1 := vsz_le s.1
  have v2 := vsz_le s.2.1
  have HL1 : Hid ((putZ z (vz s.1) M c).length ≤ 900000) := Lib.hid (by omega)
  have HL2 : Hid ((putZ (putZ z (vz s.1) M c) (vz s.2.1) M (putC z (vz s.1) M c)).length ≤ 900000) := Lib.hid (by omega)
  clear l1 l2 v1 v2 hok
  obtain ⟨⟨a0, a1⟩, ⟨b0, b1⟩, ⟨c0, c1⟩⟩ := hs
  have h1 := h.below hb
  obtain ⟨x0, x1, x2⟩ := hX.c3
  go_enter Tryz.func46, Tryz.ntmps46
  go_wp2_with fail
  refine (HR _).mono ?_
  rintro e w1 ⟨rfl, hb1⟩
  replace h1 := h1.below hb1
  replace hX := hX.below hb1
  replace hb := hb.trans (hb1.mono hb.size)
  clear hb1 x0 x1 x2 HR
  obtain ⟨x0, x1, x2⟩ := hX.c3
  go_wp2_with fail
  refine (eput_any s.1 h1 a0 a1 (by omega) (Nat.le_trans hBw hb.size)).mono ?_
  rintro e w2 (⟨_, r2, rfl, hk2, hg2, hw2⟩ | ⟨hf, _⟩)
  · have hX2 := hX.ks hk2 (h.off (Nat.le_refl _))
    clear x0 x1 x2
    obtain ⟨x0, x1, x2⟩ := hX2.c3
    have hB2 := Nat.le_trans (Nat.le_trans hBw hb.size) hk2.size
    go_wp2_with fail
    refine (vput_any _ hw2 b0 b1 HL1.out hB2).mono ?_
    rintro e w3 ⟨r3, rfl, hk3, hg3, hw3⟩
    have hG3 := ((Gr.refl _ _).trans hg2 hb.size).trans hg3 (Nat.le_trans hb.size hk2.size)
    have hX3 := hX2.ks hk3 (fun hh => by
      rcases hh with hh | hh
      · have := h.lt; omega
      · rcases (Gr.refl _ _).trans hg2 hb.size with rfl | ⟨g, rfl, hg⟩
        · exact h.off (Nat.le_refl _) (.inr hh)
        · rcases hg2 with e | ⟨g', e, hg'⟩
          · exact h.off (Nat.le_refl _) (.inr (by rw [← e]; exact hh))
          · injection hh with hh; injection e with e; have := hX.lt; omega)
    have hk23 := (Ks.of_below hb).trans (Ks.wr hk2 hg2 hk3)
    clear x0 x1 x2
    obtain ⟨x0, x1, x2⟩ := hX3.c3
    have hB3 := Nat.le_trans hB2 hk3.size
    go_wp2_with fail
    refine (vput_any _ hw3 c0 c1 HL2.out hB3).mono ?_
    rintro e w4 ⟨r4, rfl, hk4, hg4, hw4⟩
    go_wp2
    go_end0
    exact ⟨r4, rfl, Ks.wr hk23 hG3 hk4, hG3.trans hg4 hk23.size, by rw [HP.out]; exact hw4⟩
  · rw [HE.out] at hf; cases hf
end Go.Proofs.YtmiimjgfainclaaGreat.Cur
namespace Go.Proofs.YtmiimjgfainclaaGreat.Cur
open Go.RowKit Mem
set_option linter.unusedVariables false
set_option maxRecDepth 100000
theorem St.last {n : Nat} {d x : Sl3} {p c q : Int} (h0 : 0 ≤ p) (h1 : p ≤ n) (hq : c = 0 → q = 0 ∨ True) : St d n (x, p, (0 : Int), (0 : Int)) p c q (if c = 0 then x else d) p c q := by
  refine ⟨h0, h1, ?_⟩
  by_cases hc : c = 0
  · subst hc
    rw [if_pos rfl]
    exact .inr (.inl ⟨rfl, rfl, rfl, rfl, rfl, rfl⟩)
  · rw [if_neg hc]
    exact .inl ⟨hc, rfl, rfl, rfl⟩
end Go.Proofs.YtmiimjgfainclaaGreat.Cur
namespace Go.Proofs.YtmiimjgfainclaaGreat.Cur
open Go.RowKit Mem
set_option linter.unusedVariables false
set_option maxRecDepth 100000
end Go.Proofs.YtmiimjgfainclaaGreat.Cur
namespace Go.Proofs.YtmiimjgfainclaaGreat.Cur
open Go.RowKit Mem
set_option linter.unusedVariables false
set_option maxRecDepth 100000
end Go.Proofs.YtmiimjgfainclaaGreat.Cur
namespace Go.Proofs.YtmiimjgfainclaaGreat.Cur
open Go.RowKit Mem
set_option linter.unusedVariables false
set_option maxRecDepth 100000
set_option maxHeartbeats 1000000 in
theorem rbytes18_any (s : Sl3) (hs : sbd s) (w : World) : Calls Tryz.prog 81 #[sagg s] w (RowPost (sby s) w) := by
  have hX := Blk.new w #[.int .u64 s.1, .int .u64 s.2.1, .int .u64 s.2.2] 27
  have hb := below_one w (.cells #[.int .u64 s.1, .int .u64 s.2.1, .int .u64 s.2.2] 27)
  have HE := Lib.hid (sby_eq s)
  obtain ⟨⟨a0, a1⟩, ⟨b0, b1⟩, ⟨c0, c1⟩⟩ := hs
  have l1 := vsz_le s.1
  have l2 := vsz_le s.2.1
  have l3 := vsz_le s.2.2
  have HL1 := Lib.hid (vz_length s.1)
  have HL2 := Lib.hid (vz_length s.2.1)
  have HL3 := Lib.hid (vz_length s.2.2)
  obtain ⟨x0, x1, x2⟩ := hX.c3
  go_enter Tryz.func81, Tryz.ntmps81
  go_wp2_with fail
  refine (rbytes_any 10 _ _ l1 a0 a1).mono ?_
  rintro e w1 ⟨A1, m1, rfl, hb1, _, _, _, ho1⟩
  replace ho1 := Own.base ho1 (B' := w.heap.size) (fun g hg => by have := ho1.ge g hg; rw [World.size_alloc] at this; omega)
  replace hX := hX.below hb1
  have hbd := hb.trans (hb1.mono hb.size)
  clear x0 x1 x2 hb1
  obtain ⟨x0, x1, x2⟩ := hX.c3
  go_wp2_with fail
  refine (rbytes_any 10 _ _ l2 b0 b1).mono ?_
  rintro e w2 ⟨A2, m2, rfl, hb2, hbs2, hnil2, _⟩
  replace ho1 := ho1.below hb2
  replace hX := hX.below hb2
  replace hbd := hbd.trans (hb2.mono hbd.size)
  have hB2 := hbd.size
  clear x0 x1 x2 hb2
  go_wp2_with (at_builtin; go_must (refine list_append_gr rfl (.tmp 7) (.tmp 10) rfl w.heap.size _ _ rfl ho1 _ _ _ _ rfl hbs2 hnil2 (by rw [HL1.out, HL2.out]; omega) hB2 ?_; intro v3 w3 ho3 hg3 hgr3; have hbd3 := Own.belowOf hbd hB2 ho1 hg3; have hX3 : Blk w3 w.heap.size _ _ := (hg3.block _ hX.lt (fun e => own_ne_blk ho1 hX (by decide) e.symm)).trans hX; obtain ⟨x0, x1, x2⟩ := hX3.c3; clear hX hg3 hgr3 ho1 hbd hB2 hbs2))
  obtain ⟨A3, c3', rfl⟩ := ho3.slice
  have hL3 : (vz s.1 ++ vz s.2.1).length ≤ 20 := by rw [List.length_append, HL1.out, HL2.out]; omega
  obtain ⟨y, hy⟩ : ∃ y, y = vz s.1 ++ vz s.2.1 := ⟨_, rfl⟩
  rw [← hy] at hL3 ho3 HE ⊢
  clear hy
  refine (rbytes_any 10 _ _ l3 c0 c1).mono ?_
  rintro e w4 ⟨A4, m4, rfl, hb4, hbs4, hnil4, _⟩
  replace ho3 := ho3.below hb4
  replace hbd3 := hbd3.trans (hb4.mono hbd3.size)
  have hB4 := hbd3.size
  clear x0 x1 x2 hb4 hX3
  go_wp2_with (at_builtin; go_must (refine list_append_gr rfl (.tmp 12) (.tmp 15) rfl w.heap.size _ _ rfl ho3 _ _ _ _ rfl hbs4 hnil4 (by rw [HL3.out]; omega) hB4 ?_; intro v5 w5 ho5 hg5 hgr5; have HB5 := Lib.hid (Own.belowOf hbd3 hB4 ho3 hg5); have HO5 := Lib.hid ho5; clear hg5 hgr5 ho3 hbd3 hB4 hbs4 ho5))
  have ho5 := HO5.out
  rw [← HE.out] at ho5
  obtain ⟨A5, c5, rfl⟩ := ho5.slice
  go_ret
  exact Own.rowPost (B := 0) ho5 HB5.out
end Go.Proofs.YtmiimjgfainclaaGreat.Cur
namespace Go.Proofs.YtmiimjgfainclaaGreat.Cur
open Go.RowKit Mem
set_option linter.unusedVariables false
end Go.Proofs.YtmiimjgfainclaaGreat.Cur

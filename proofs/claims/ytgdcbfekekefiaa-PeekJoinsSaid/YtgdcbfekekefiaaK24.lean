/- K24: StpF StpG StpH StpI StpJ StpK StpL StpN -/
import Derived.Test.YtgdcbfekekefiaaK23
import Derived.Test.YtgdcbfekekefiaaK5
import Derived.Test.YtgdcbfekekefiaaK6
import Derived.Test.YtgdcbfekekefiaaK3
import Derived.Test.YtgdcbfekekefiaaK4
/- Stripes written: Put, Bytes. -/
/- Stripes written by the document: Bytes. -/
/- Stripes read by the program: one set. -/
/- Stripes read by the program: sets, one behind the other. -/
/- Stripes read by the program: Read. -/
/- Stripes read by the document. -/
/- Stripes read by the document: Read. -/
/- Stripes read by the document: Read, walked. -/
namespace Go.Proofs.Ytgdcbfekekefiaa.Cur
open Go.RowKit Mem
set_option linter.unusedVariables false
set_option maxRecDepth 100000


/-- The cells of set k, in whatever world in which only other blocks have changed. -/
theorem Sts.ks_cells {S0 : Nat → Prop} {w : World} {P : Nat → Prop} {g o n : Nat} {S : List (List Int)} (h : Sts w P (some ⟨g, o, none⟩) n S) (hoff : ∀ b, P b → b < w.heap.size → ¬ S0 b) {k : Nat} (hk : k < n) :
    ∃ a l m, (S.getD k []).length = l ∧ l ≤ m ∧ (a = none → m = 0) ∧ (0 < l → ∀ ad, a = some ad → P ad.block ∧ ad.block < w.heap.size) ∧ (∀ x ∈ S.getD k [], 0 ≤ x ∧ x < 18446744073709551616) ∧
      ∀ w', Ks S0 w w' → w'.cell? ⟨g, o + k, none⟩ = some (.slice a l m) ∧ Us w' a l (S.getD k []) := by
  obtain ⟨g', o', e, hP, hg, hc⟩ := h.cells (by omega)
  injection e with e
  injection e with e1 e2
  subst e1 e2
  obtain ⟨a, l, m, h1, h2, h3, h4, h5, h6, h7⟩ := hc k hk
  have h8 : 0 < l → ∀ ad, a = some ad → P ad.block ∧ ad.block < w.heap.size := fun h0 ad ha => ⟨h5 h0 ad ha, h4.2.lt (by rw [List.length_map, h4.1]; exact h0) ad ha⟩
  refine ⟨a, l, m, h1, h2, h3, h8, h6, fun w' hk' => ⟨?_, h4.ks hk' fun h0 ad ha => ?_⟩⟩
  · rw [← h7 w (Below.refl _ _)]
    exact World.cell?_of_block (hk'.block g hg (hoff g hP hg))
  · obtain ⟨h9, h10⟩ := h8 h0 ad ha
    exact hoff _ h9 h10
/-- The first so many parts of a stripe's encoding. -/
def stk (f t : Int) (S : List (List Int)) (k : Nat) : List Int := vz (t - f - 1) ++ vz S.length ++ ssb (S.take k)
theorem stk_end (f t : Int) (S : List (List Int)) : stk f t S S.length = stb (f, t, S) := by unfold stk stb; rw [List.take_length]
theorem stk_succ {f t : Int} {S : List (List Int)} {k : Nat} (hk : k < S.length) : stk f t S (k + 1) = stk f t S k ++ (vz ((S.getD k []).length : Nat) ++ rz (S.getD k [])) := by
  unfold stk ssb
  rw [List.take_add_one, List.getElem?_eq_getElem hk, Option.toList_some, List.flatMap_append, List.getD_eq_getElem?_getD, List.getElem?_eq_getElem hk, Option.getD_some, List.append_assoc, List.append_assoc, List.append_assoc]
  simp [seb]
theorem stk_mono {f t : Int} {S : List (List Int)} : ∀ (k : Nat), k ≤ S.length → (stk f t S (S.length - k)).length ≤ (stb (f, t, S)).length
  | 0, _ => by rw [Nat.sub_zero, stk_end]; exact Nat.le_refl _
  | k + 1, h => by
    have ih := stk_mono (f := f) (t := t) (S := S) k (by omega)
    have e : S.length - k = S.length - (k + 1) + 1 := by omega
    rw [e, stk_succ (by omega), List.length_append] at ih
    omega
theorem stk_le {f t : Int} {S : List (List Int)} {k : Nat} (h : k ≤ S.length) : (stk f t S k).length ≤ (stb (f, t, S)).length := by
  have := stk_mono (f := f) (t := t) (S := S) (S.length - k) (by omega)
  rwa [show S.length - (S.length - k) = k by omega] at this
theorem rz_len (l : List Int) : (rz l).length ≤ 10 * l.length := rzk_len l l.length
theorem ssb_len : ∀ {S : List (List Int)}, (∀ l ∈ S, l.length ≤ 8) → (ssb S).length ≤ 90 * S.length
  | [], _ => by simp [ssb]
  | l :: S, h => by
    have ih := ssb_len (S := S) fun m hm => h m (by simp [hm])
    have h1 := h l (by simp)
    have h2 := rz_len l
    have h3 := vsz_le l.length
    unfold ssb at ih ⊢
    rw [List.flatMap_cons, List.length_append, List.length_cons]
    have : (seb l).length ≤ 90 := by unfold seb; rw [List.length_append, vz_length]; omega
    omega
theorem sok_fine {S A : List (List Int)} (h : sok A S = true) : ∀ k, k < S.length → fne (S.getD k []) = true := by
  intro k hk
  rw [sok_eq, Bool.and_eq_true] at h
  rw [List.getD_eq_getElem?_getD, List.getElem?_eq_getElem hk]
  exact List.all_eq_true.1 h.1 _ (List.getElem_mem hk)
theorem fne_parts {l : List Int} (h : fne l = true) : 1 ≤ l.length ∧ l.length ≤ 8 ∧ risesB l = true ∧ ndb l = true := by
  unfold fne at h
  simp only [Bool.and_eq_true, decide_eq_true_eq] at h
  exact ⟨h.1.1.1, h.1.1.2, h.1.2, h.2⟩
theorem sok_lens {S A : List (List Int)} (h : sok A S = true) : ∀ l ∈ S, l.length ≤ 8 := by
  intro l hl
  obtain ⟨k, hk, e⟩ := List.mem_iff_getElem.1 hl
  have := fne_parts (sok_fine h k hk)
  rw [List.getD_eq_getElem?_getD, List.getElem?_eq_getElem hk, Option.getD_some, e] at this
  exact this.2.1
theorem stb_len {s : Stp} (h : stok s = true) : (stb s).length ≤ 740 := by
  obtain ⟨_, _, _, k4, k5⟩ := stok_parts h
  have h1 := ssb_len (sok_lens k5)
  have h2 := vsz_le (s.2.1 - s.1 - 1)
  have h3 := vsz_le s.2.2.length
  unfold stb
  rw [List.length_append, List.length_append, vz_length, vz_length]
  omega

theorem stb_byte {s : Stp} (h : stok s = true) (hf : 0 ≤ s.1) (hb : sbds s.2.2) : ∀ b ∈ stb s, 0 ≤ b ∧ b < 256 := fun b hm => by
  obtain ⟨k1, k2, k3, k4, k5⟩ := stok_parts h
  unfold stb at hm
  rcases List.mem_append.1 hm with hm | hm
  · rcases List.mem_append.1 hm with hm | hm
    · exact vz_byte _ (by omega) (by omega) b hm
    · exact vz_byte _ (by omega) (by omega) b hm
  · exact ssb_byte k5 hb b hm
/-- A stripe's bytes, or none. -/
def StByPost (s : Stp) (w : World) (e : Ending) (w' : World) : Prop :=
  Below w.heap.size w w' ∧ ((stok s = true ∧ ∃ g, e = .returned (.tuple #[.slice (some ⟨g, 0, none⟩) (stb s).length (stb s).length, .int .i64 0]) ∧ w.heap.size ≤ g ∧ Bs w' (some ⟨g, 0, none⟩) (stb s).length (stb s)) ∨
    (stok s = false ∧ e = .returned (.tuple #[.slice none 0 0, .int .i64 3])))
end Go.Proofs.Ytgdcbfekekefiaa.Cur

namespace Go.Proofs.Ytgdcbfekekefiaa.Cur
open Go.RowKit Mem
set_option linter.unusedVariables false
set_option maxRecDepth 100000


theorem len_app1 {y : List Int} {x : Int} {M : Nat} (h : y.length + 1 ≤ M) (hM : M ≤ 1000000) : y.length + [x].length ≤ 1000000 := by simp; omega

end Go.Proofs.Ytgdcbfekekefiaa.Cur

namespace Go.Proofs.Ytgdcbfekekefiaa.Cur
open Go.RowKit Mem
set_option linter.unusedVariables false
set_option maxRecDepth 100000


/-- Sets in a row of the call's own. -/
def OwnSts (w : World) (B : Nat) (v : Value) (S : List (List Int)) : Prop := OwnQ (SlE U64E) 34 w B (fun k => B ≤ k ∧ v.ownBlock ≠ some k) v S
theorem OwnSts.nil (w : World) (B : Nat) : OwnSts w B (.slice none 0 0) [] := OwnQ.nil _ _ _ _ _
theorem OwnSts.ge {w : World} {B : Nat} {v : Value} {S : List (List Int)} (h : OwnSts w B v S) : ∀ g, v.ownBlock = some g → B ≤ g := by
  obtain ⟨cs, h1, h2, h3⟩ := h
  exact own_ge h2
theorem OwnSts.lt {w : World} {B : Nat} {v : Value} {S : List (List Int)} (h : OwnSts w B v S) : ∀ g, v.ownBlock = some g → g < w.heap.size := by
  obtain ⟨cs, h1, h2, h3⟩ := h
  exact fun g hg => (World.ownsRow.lt h2 g hg).2
theorem OwnSts.keep {w w' : World} {B : Nat} {v : Value} {S : List (List Int)} (h : OwnSts w B v S) (hk : ∀ b, B ≤ b → b < w.heap.size → w'.heap[b]? = w.heap[b]?) : OwnSts w' B v S := by
  have hge := h.ge
  have hlt := h.lt
  obtain ⟨cs, h1, h2, h3⟩ := h
  exact ⟨cs, h1.keep fun b hb hlt => hk b hb.1 hlt, own_block h2 fun k hk' => hk k (hge k hk') (hlt k hk'), h3⟩
theorem OwnSts.below {w w' : World} {B : Nat} {v : Value} {S : List (List Int)} (h : OwnSts w B v S) (hb : Below w.heap.size w w') : OwnSts w' B v S := h.keep fun b _ hlt => hb.block b hlt
theorem OwnSts.ks {S0 : Nat → Prop} {w w' : World} {B : Nat} {v : Value} {S : List (List Int)} (h : OwnSts w B v S) (k : Ks S0 w w') (h0 : ∀ g, S0 g → g < B) : OwnSts w' B v S := h.keep fun b hb hlt => k.block b hlt fun hs => by have := h0 b hs; omega
theorem OwnSts.kp {b : Nat} {w w' : World} {B : Nat} {v : Value} {S : List (List Int)} (h : OwnSts w B v S) (k : Kp b w w') (h0 : b < B) : OwnSts w' B v S := h.keep fun g hb hlt => k.block g hlt (by omega)
theorem OwnSts.sts {w : World} {B : Nat} {v : Value} {S : List (List Int)} (h : OwnSts w B v S) : ∃ A c, v = .slice A S.length c ∧ S.length ≤ c ∧ (A = none → c = 0) ∧ Sts w (fun k => B ≤ k) A S.length S := by
  have hge := h.ge
  obtain ⟨A, c, e, h1, h2, h3⟩ := OwnQ.slice h
  exact ⟨A, c, e, h1, h2, rfl, h3.mono fun b hb _ => by
    rcases hb with hb | hb
    · exact hb.1
    · exact hge b hb⟩
/-- One more set, behind an append. -/
theorem OwnSts.snoc {w w' : World} {B : Nat} {v v' : Value} {S : List (List Int)} {cs : List (List Value)} {c : List Value} {x : List Int}
    (h1 : Ch (SlE U64E) w (fun k => B ≤ k ∧ v.ownBlock ≠ some k) cs S) (h3 : ∀ g, v.ownBlock = some g → ¬ (fun k => B ≤ k ∧ v.ownBlock ≠ some k) g)
    (hx : (SlE U64E).R w (fun k => B ≤ k ∧ v.ownBlock ≠ some k) c x) (ho : w'.ownsRow B 34 1 v' (S.length + 1) (cs.flatten ++ c)) (hg : w.grownBy w' v.ownBlock) (hgr : Gr v.ownBlock v'.ownBlock w) : OwnSts w' B v' (S ++ [x]) := by
  have h := OwnQ.snoc (E := SlE U64E) (e := 34) h1 h3 hx ho hg hgr
  refine h.mono (fun b hb _ => ⟨hb.1.1, fun e => ?_⟩) (fun g hg2 hh => hh.2 hg2)
  rcases hgr with e2 | ⟨g', e2, hg'⟩
  · exact hb.1.2 (by rw [← e2]; exact e)
  · rw [e2] at e
    injection e with e
    have := hb.2
    omega
theorem St.fail {α : Type} {d d' : α} {n : Nat} {g : Rs α} {p c q p' x cc pp c2 q2 : Int} (e : g = (d', x, cc, pp)) (hcc : cc ≠ 0) (h0 : 0 ≤ p') (h1 : p' ≤ n) (h : FailSt c q cc pp c2 q2) : St d n g p c q d p' c2 q2 := by
  subst e
  refine ⟨h0, h1, ?_⟩
  rcases h with ⟨a0, rfl, rfl⟩ | ⟨a0, rfl, rfl⟩
  · exact .inr (.inr ⟨a0, hcc, rfl, rfl, by unfold fq; rw [if_neg hcc]⟩)
  · exact .inl ⟨a0, rfl, rfl, rfl⟩
theorem mny_bd {n : Nat} {z : List Int} {mo p c q k p' c' q' : Int} (h : St 0 n (mny z mo p) p c q k p' c' q') (hz : z.length = n) (h0 : 0 ≤ p) (h1 : p ≤ n) (hby : ∀ x ∈ z, 0 ≤ x ∧ x < 256) : 0 ≤ k ∧ (k ≤ mo ∨ k = 0) ∧ (c' = 0 → 1 ≤ k) := by
  obtain ⟨_, _, ⟨hc, rfl, rfl, _⟩ | ⟨_, g0, rfl, _, rfl, _⟩ | ⟨_, g0, rfl, rfl, _⟩⟩ := h
  · exact ⟨Int.le_refl _, .inr rfl, fun e => absurd e hc⟩
  · obtain ⟨k, p', e, k1, k2, _⟩ := mny_once hby h0 (by rw [hz]; exact h1) g0
    rw [e]
    exact ⟨by show 0 ≤ k; omega, .inl k2, fun _ => k1⟩
  · exact ⟨Int.le_refl _, .inr rfl, fun e => absurd e g0⟩
theorem rg_len {n : Nat} {z : List Int} {p c q : Int} {N : Nat} {l : List Int} {p' c' q' : Int} (h : RgSt n z p c q N l p' c' q') (hz : z.length = n) (h0 : 0 ≤ p) (h1 : p ≤ n) (hby : ∀ x ∈ z, 0 ≤ x ∧ x < 256) : l.length ≤ N ∧ (c' = 0 → l.length = N ∧ risesB l = true) := by
  by_cases hc : c' = 0
  · subst hc
    obtain ⟨_, g0, gl, _⟩ := St.good h.st
    obtain ⟨l2, p2, e, e2, e3, _⟩ := rg_once hby h0 (by rw [hz]; exact h1) g0
    rw [e] at gl
    have : l = l2 := gl
    subst this
    exact ⟨by omega, fun _ => ⟨e2, e3⟩⟩
  · rw [h.nil hc]
    exact ⟨by simp, fun e => absurd e hc⟩

/-- Where a stripe ends. -/
def srt (z : List Int) (f p : Int) : Rs Int := if 4611686018427387904 < f then (0, 0, 3, p) else (vg z p).bind 0 fun n p1 => if 4611686018427387904 - f ≤ n then (0, 0, 3, p) else (f + n + 1, p1, 0, 0)
theorem Rs.bind_assoc {α β γ : Type} (g : Rs α) (d1 : β) (f : α → Int → Rs β) (d : γ) (h : β → Int → Rs γ) : (g.bind d1 f).bind d h = g.bind d fun a p => (f a p).bind d h := by
  by_cases hg : g.2.2.1 = 0
  · have e1 : g.bind d1 f = f g.1 g.2.1 := by unfold Rs.bind; rw [if_neg (by simp [hg])]
    have e2 : (g.bind d fun a p => (f a p).bind d h) = (f g.1 g.2.1).bind d h := if_neg (by simp [hg])
    rw [e1, e2]
  · have e1 : g.bind d1 f = (d1, 0, g.2.2.1, g.2.2.2) := by unfold Rs.bind; rw [if_pos hg]
    have e2 : (g.bind d fun a p => (f a p).bind d h) = (d, 0, g.2.2.1, g.2.2.2) := if_pos hg
    rw [e1, e2]; unfold Rs.bind; rw [if_pos hg]
theorem str_eq (z : List Int) (f p : Int) : str z f p = (srt z f p).bind stp0 fun t p1 => (mny z 8 p1).bind stp0 fun k p2 => (ssg z k.toNat p2 []).bind stp0 fun S p3 => ((f, t, S), p3, 0, 0) := by
  unfold str srt
  by_cases hf : 4611686018427387904 < f
  · rw [if_pos hf, if_pos hf]; rfl
  · rw [if_neg hf, if_neg hf, Rs.bind_assoc]
    congr 1
    funext n p1
    by_cases hn : 4611686018427387904 - f ≤ n
    · rw [if_pos hn, if_pos hn]; rfl
    · rw [if_neg hn, if_neg hn]; rfl
theorem wrap_bd (x : Int) : 0 ≤ IntKind.u64.wrap x ∧ IntKind.u64.wrap x < 18446744073709551616 := by rw [wrapu]; omega
end Go.Proofs.Ytgdcbfekekefiaa.Cur

namespace Go.Proofs.Ytgdcbfekekefiaa.Cur
open Go.RowKit Mem
set_option linter.unusedVariables false
set_option maxRecDepth 100000


theorem apB_iff (S : List (List Int)) : apB S = true ↔ ∀ i, i < S.length → tw (S.take i) (S.getD i []) = false := by
  constructor
  · intro h i hi
    cases e : tw (S.take i) (S.getD i []) with
    | false => rfl
    | true => rw [apB_no hi e] at h; cases h
  · exact apB_yes
theorem apB_snoc (S : List (List Int)) (l : List Int) : apB (S ++ [l]) = (apB S && !tw S l) := by
  rw [Bool.eq_iff_iff, Bool.and_eq_true, apB_iff, apB_iff, List.length_append, List.length_singleton]
  constructor
  · intro h
    refine ⟨fun i hi => ?_, ?_⟩
    · have := h i (by omega)
      rwa [List.take_append_of_le_length (by omega), List.getD_eq_getElem?_getD, List.getElem?_append_left hi, ← List.getD_eq_getElem?_getD] at this
    · have := h S.length (by omega)
      rw [List.take_append_of_le_length (Nat.le_refl _), List.take_length, List.getD_eq_getElem?_getD, List.getElem?_append_right (Nat.le_refl _), Nat.sub_self] at this
      have h2 : tw S l = false := this
      rw [h2]; rfl
  · rintro ⟨h1, h2⟩ i hi
    rcases Nat.lt_or_ge i S.length with h3 | h3
    · rw [List.take_append_of_le_length (by omega), List.getD_eq_getElem?_getD, List.getElem?_append_left h3, ← List.getD_eq_getElem?_getD]
      exact h1 i h3
    · obtain rfl : i = S.length := by omega
      rw [List.take_append_of_le_length (Nat.le_refl _), List.take_length, List.getD_eq_getElem?_getD, List.getElem?_append_right (Nat.le_refl _), Nat.sub_self]
      show tw S l = false
      simpa using h2
theorem stl_fin {n : Nat} {S : List (List Int)} {l : List Int} {p1 p2 c2 q2 c' q' : Int} (hc : c2 = 0 → risesB l = true ∧ 1 ≤ l.length ∧ apB S = true) (hl : c2 ≠ 0 → l = []) (p20 : 0 ≤ p2) (p21 : p2 ≤ n)
    (hx : (ndb l = false ∧ FailSt c2 q2 3 p1 c' q') ∨ (ndb l = true ∧ apB (S ++ [l]) = false ∧ FailSt c2 q2 13 p1 c' q') ∨ (ndb l = true ∧ apB (S ++ [l]) = true ∧ c' = c2 ∧ q' = q2)) :
    St [] n (if 4294967296 ≤ l.getD (l.length - 1) 0 then (([] : List Int), (0 : Int), (3 : Int), p1) else if tw S l then ([], 0, 13, p1) else (l, p2, 0, 0)) p2 c2 q2 (if c' = 0 then l else []) p2 c' q' := by
  by_cases hc2 : c2 = 0
  · obtain ⟨h1, h2, h3⟩ := hc hc2
    have hnd := ndb_last h1 h2
    rcases hx with ⟨a, b⟩ | ⟨a, b, d⟩ | ⟨a, b, d, e⟩
    · have hb := b
      rcases hb with ⟨_, rfl, rfl⟩ | ⟨h, _⟩
      · rw [a] at hnd
        rw [if_neg (show ¬ (3 : Int) = 0 by decide)]
        have h4 : 4294967296 ≤ l.getD (l.length - 1) 0 := by
          have := of_decide_eq_false hnd.symm
          omega
        exact St.fail (by rw [if_pos h4]) (by decide) p20 p21 b
      · exact absurd hc2 h
    · have hb := d
      rcases hb with ⟨_, rfl, rfl⟩ | ⟨h, _⟩
      · rw [a] at hnd
        rw [if_neg (show ¬ (13 : Int) = 0 by decide)]
        have h4 : ¬ 4294967296 ≤ l.getD (l.length - 1) 0 := by
          have := of_decide_eq_true hnd.symm
          omega
        have h5 : tw S l = true := by rw [apB_snoc, h3] at b; simpa using b
        exact St.fail (by rw [if_neg h4, if_pos h5]) (by decide) p20 p21 d
      · exact absurd hc2 h
    · subst d e hc2
      rw [if_pos rfl]
      rw [a] at hnd
      have h4 : ¬ 4294967296 ≤ l.getD (l.length - 1) 0 := by
        have := of_decide_eq_true hnd.symm
        omega
      have h5 : tw S l = false := by rw [apB_snoc, h3] at b; simpa using b
      exact St.done (by rw [if_neg h4, h5]; rfl) p20 p21
  · have hs : c' = c2 ∧ q' = q2 := by
      rcases hx with ⟨a, b⟩ | ⟨a, b, d⟩ | ⟨a, b, d, e⟩
      · rcases b with ⟨h, _⟩ | ⟨_, h1, h2⟩
        · exact absurd h hc2
        · exact ⟨h1, h2⟩
      · rcases d with ⟨h, _⟩ | ⟨_, h1, h2⟩
        · exact absurd h hc2
        · exact ⟨h1, h2⟩
      · exact ⟨d, e⟩
    obtain ⟨rfl, rfl⟩ := hs
    rw [if_neg hc2]
    exact St.stay p20 p21 hc2

end Go.Proofs.Ytgdcbfekekefiaa.Cur

namespace Go.Proofs.Ytgdcbfekekefiaa.Cur
open Go.RowKit Mem
set_option linter.unusedVariables false
set_option maxRecDepth 100000


theorem Kp.ks {b : Nat} {S : Nat → Prop} {w w1 w2 : World} (h : Kp b w w1) (k : Ks S w1 w2) (hS : ∀ g, S g → g = b ∨ w.heap.size ≤ g) : Kp b w w2 :=
  ⟨k.os.trans h.os, k.tape.trans h.tape, k.output.trans h.output, Nat.le_trans h.size k.size, fun g hg hne => (k.block g (Nat.lt_of_lt_of_le hg h.size) fun hs => by
    rcases hS g hs with e | e
    · exact hne e
    · omega).trans (h.block g hg hne)⟩
/-- How far the sets are read. -/
def SsSt (n : Nat) (z : List Int) (N : Nat) (p2 c2 q2 : Int) (k : Nat) (S : List (List Int)) (pk ck qk : Int) : Prop :=
  (ck = 0 ∧ c2 = 0 ∧ qk = q2 ∧ ssg z N p2 [] = ssg z (N - k) pk S ∧ apB S = true) ∨ (ck ≠ 0 ∧ St [] n (ssg z N p2 []) p2 c2 q2 [] pk ck qk)
theorem SsSt.start {n : Nat} {z : List Int} {N : Nat} {p2 c2 q2 : Int} (h0 : 0 ≤ p2) (h1 : p2 ≤ n) : SsSt n z N p2 c2 q2 0 [] p2 c2 q2 := by
  by_cases hc : c2 = 0
  · exact .inl ⟨hc, hc, rfl, rfl, rfl⟩
  · exact .inr ⟨hc, St.stay h0 h1 hc⟩
theorem SsSt.next {n : Nat} {z : List Int} {N : Nat} {p2 c2 q2 : Int} {k : Nat} {S : List (List Int)} {pk ck qk : Int} (h : SsSt n z N p2 c2 q2 k S pk ck qk) (hk : k < N) {l : List Int} {p' c' q' : Int} (hs : St [] n (stl z S pk) pk ck qk (if c' = 0 then l else []) p' c' q') (hap : c' = 0 → tw S l = false) :
    SsSt n z N p2 c2 q2 (k + 1) (S ++ [l]) p' c' q' := by
  obtain ⟨s0, s1⟩ := hs.place
  rcases h with ⟨rfl, rfl, rfl, e, ha⟩ | ⟨hc, h⟩
  · have e2 : ssg z (N - k) pk S = (stl z S pk).bind [] fun l p' => ssg z (N - (k + 1)) p' (S ++ [l]) := by
      rw [show N - k = N - (k + 1) + 1 by omega]; rfl
    by_cases hc : c' = 0
    · subst hc
      rw [if_pos rfl] at hs
      obtain ⟨_, g0, gl, gp, gq⟩ := hs.good
      refine .inl ⟨rfl, rfl, gq, ?_, by rw [apB_snoc, ha, hap rfl]; rfl⟩
      rw [e, e2]
      unfold Rs.bind
      rw [if_neg (by simp [g0]), ← gl, ← gp]
    · rw [if_neg hc] at hs
      refine .inr ⟨hc, ?_⟩
      rw [e, e2]
      have := hs.bind (f := fun l p' => ssg z (N - (k + 1)) p' (S ++ [l])) (St.stay (d := []) s0 s1 hc)
      obtain ⟨a0, a1, a2⟩ := this
      refine ⟨a0, a1, ?_⟩
      rcases a2 with ⟨h, _⟩ | ⟨_, _, _, _, h, _⟩ | a2
      · exact absurd rfl h
      · exact absurd h hc
      · exact .inr (.inr a2)
  · have hb := hs.bad hc
    obtain ⟨_, rfl, rfl⟩ := hb
    refine .inr ⟨hc, ?_⟩
    obtain ⟨_, _, a2⟩ := h
    refine ⟨s0, s1, ?_⟩
    rcases a2 with a2 | ⟨_, _, _, _, h, _⟩ | a2
    · exact .inl a2
    · exact absurd h hc
    · exact .inr (.inr a2)
theorem SsSt.done {n : Nat} {z : List Int} {N : Nat} {p2 c2 q2 : Int} {S : List (List Int)} {pk ck qk : Int} (h : SsSt n z N p2 c2 q2 N S pk ck qk) (h0 : 0 ≤ pk) (h1 : pk ≤ n) : St [] n (ssg z N p2 []) p2 c2 q2 (if ck = 0 then S else []) pk ck qk := by
  rcases h with ⟨rfl, rfl, rfl, e, ha⟩ | ⟨hc, h⟩
  · rw [if_pos rfl]
    exact St.done (by rw [e, Nat.sub_self]; rfl) h0 h1
  · rw [if_neg hc]; exact h
/-- What it comes to. -/
theorem str_st {n : Nat} {z : List Int} {f p c q t p1 c1 q1 p2 c2 q2 pk ck qk : Int} {N : Nat} {S : List (List Int)} (h1 : St 0 n (srt z f p) p c q (if c1 = 0 then t else 0) p1 c1 q1) (h2 : St 0 n (mny z 8 p1) p1 c1 q1 (N : Int) p2 c2 q2) (h3 : St [] n (ssg z N p2 []) p2 c2 q2 (if ck = 0 then S else []) pk ck qk) :
    St stp0 n (str z f p) p c q (if ck = 0 then (f, t, S) else stp0) pk ck qk := by
  rw [str_eq]
  refine h1.bind (h2.bind ?_)
  rw [Int.toNat_natCast]
  refine h3.bind ?_
  by_cases hc : ck = 0
  · subst hc
    rw [if_pos rfl, if_pos rfl]
    obtain ⟨rfl, _⟩ := h3.good
    obtain ⟨rfl, _⟩ := h2.good
    rw [if_pos rfl]
    exact St.done rfl h3.place.1 h3.place.2
  · rw [if_neg hc, if_neg hc]
    exact St.stay h3.place.1 h3.place.2 hc

end Go.Proofs.Ytgdcbfekekefiaa.Cur

namespace Go.Proofs.Ytgdcbfekekefiaa.Cur
open Go.RowKit Mem
set_option linter.unusedVariables false
set_option maxRecDepth 100000


def RNumPost (s : Value) (n : Nat) (g : Rs Int) (p c q : Int) (w : World) (e : Ending) (w' : World) : Prop :=
  ∃ k p' c' q', e = .returned (.tuple #[cv s p' c' q', .int .i64 k]) ∧ Below w.heap.size w w' ∧ St 0 n g p c q k p' c' q'
def RStPost (s : Value) (n : Nat) (z : List Int) (f p c q : Int) (w : World) (e : Ending) (w' : World) : Prop :=
  ∃ (f' t : Int) (A : Option Addr) (N m : Nat) (S : List (List Int)) (p' c' q' : Int), e = .returned (.tuple #[cv s p' c' q', stagg f' t A N m]) ∧ Below w.heap.size w w' ∧ Sts w' (fun k => w.heap.size ≤ k) A N S ∧ N ≤ m ∧ (A = none → m = 0) ∧
    (0 ≤ f' ∧ f' < 18446744073709551616) ∧ (0 ≤ t ∧ t < 18446744073709551616) ∧ sbds S ∧ (∀ l ∈ S, l.length ≤ 8) ∧ N ≤ 8 ∧ St stp0 n (str z f p) p c q (f', t, S) p' c' q'
theorem RStPost.zero {s : Value} {n : Nat} {z : List Int} {f p c q : Int} {w w' : World} {p' c' q' : Int} (hb : Below w.heap.size w w') (h : St stp0 n (str z f p) p c q stp0 p' c' q') : RStPost s n z f p c q w (.returned (.tuple #[cv s p' c' q', stagg 0 0 none 0 0])) w' :=
  ⟨0, 0, none, 0, 0, [], p', c', q', rfl, hb, ⟨rfl, Sq.nil _ _ _ _⟩, by omega, fun _ => rfl, by omega, by omega, fun l h => by simp at h, fun l h => by simp at h, by omega, h⟩

end Go.Proofs.Ytgdcbfekekefiaa.Cur

namespace Go.Proofs.Ytgdcbfekekefiaa.Cur
open Go.RowKit Mem
set_option linter.unusedVariables false
set_option maxRecDepth 100000


abbrev scs (a : Option Addr) (n m : Nat) (p c q : Int) : Array Value := cvs (.slice a n m) p c q
/-- What a set comes to by the document. -/
theorem rstl_fin {n : Nat} {S : List (List Int)} {l : List Int} {p1 p2 c2 q2 c' q' : Int} (hl : c2 ≠ 0 → l = []) (p20 : 0 ≤ p2) (p21 : p2 ≤ n)
    (hx : (c2 = 0 ∧ 4294967296 ≤ l.getD (l.length - 1) 0 ∧ FailSt c2 q2 3 p1 c' q') ∨ (c2 = 0 ∧ ¬ 4294967296 ≤ l.getD (l.length - 1) 0 ∧ tw S l = true ∧ FailSt c2 q2 13 p1 c' q') ∨ (c2 = 0 ∧ ¬ 4294967296 ≤ l.getD (l.length - 1) 0 ∧ tw S l = false ∧ c' = c2 ∧ q' = q2) ∨ (c2 ≠ 0 ∧ c' = c2 ∧ q' = q2)) :
    St [] n (if 4294967296 ≤ l.getD (l.length - 1) 0 then (([] : List Int), (0 : Int), (3 : Int), p1) else if tw S l then ([], 0, 13, p1) else (l, p2, 0, 0)) p2 c2 q2 (if c' = 0 then l else []) p2 c' q' := by
  rcases hx with ⟨rfl, h1, h2⟩ | ⟨rfl, h1, h2, h3⟩ | ⟨rfl, h1, h2, rfl, rfl⟩ | ⟨h, rfl, rfl⟩
  · have hb := h2
    rcases hb with ⟨_, rfl, rfl⟩ | ⟨h, _⟩
    · rw [if_neg (show ¬ (3 : Int) = 0 by decide)]
      exact St.fail (by rw [if_pos h1]) (by decide) p20 p21 h2
    · exact absurd rfl h
  · have hb := h3
    rcases hb with ⟨_, rfl, rfl⟩ | ⟨h, _⟩
    · rw [if_neg (show ¬ (13 : Int) = 0 by decide)]
      exact St.fail (by rw [if_neg h1, if_pos h2]) (by decide) p20 p21 h3
    · exact absurd rfl h
  · rw [if_pos rfl]
    exact St.done (by rw [if_neg h1, h2]; rfl) p20 p21
  · rw [if_neg h]
    exact St.stay p20 p21 h
theorem SsSt.fin {n : Nat} {z : List Int} {N : Nat} {p2 c2 q2 : Int} {k : Nat} {S : List (List Int)} {pk ck qk : Int} (h : SsSt n z N p2 c2 q2 k S pk ck qk) (hk : k = N ∨ ck ≠ 0) (h0 : 0 ≤ pk) (h1 : pk ≤ n) : St [] n (ssg z N p2 []) p2 c2 q2 (if ck = 0 then S else []) pk ck qk := by
  rcases hk with rfl | hk
  · exact h.done h0 h1
  · rcases h with ⟨h, _⟩ | ⟨_, h⟩
    · exact absurd h hk
    · rw [if_neg hk]; exact h
theorem stl_tw {z : List Int} {S : List (List Int)} {n : Nat} {p c q : Int} {l : List Int} {p' q' : Int} (h : St [] n (stl z S p) p c q l p' 0 q') (hz : z.length = n) (h0 : 0 ≤ p) (h1 : p ≤ n) (hby : ∀ x ∈ z, 0 ≤ x ∧ x < 256) : tw S l = false := by
  obtain ⟨_, g0, gl, _⟩ := h.good
  obtain ⟨l2, p2, e, e2, _⟩ := stl_once hby h0 (by rw [hz]; exact h1) g0
  rw [e] at gl
  have gl' : l = l2 := gl
  subst gl'
  exact (seok_parts e2).2.2.2.2
theorem heap_ne {w : World} {b o g : Nat} (v : Value) (h : b < g) : (w.setCell ⟨b, o, none⟩ v).heap[g]? = w.heap[g]? := Below.heap_setCell w _ v g (by show g ≠ b; omega)
theorem heap7 {w : World} {b1 b2 g : Nat} (h1 : b1 < g) (h2 : b2 < g) (u0 u1 u2 u3 u4 u5 u6 : Value) :
    (((((((w.setCell ⟨b1, 0, none⟩ u0).setCell ⟨b1, 1, none⟩ u1).setCell ⟨b1, 2, none⟩ u2).setCell ⟨b1, 3, none⟩ u3).setCell ⟨b2, 0, none⟩ u4).setCell ⟨b2, 1, none⟩ u5).setCell ⟨b2, 2, none⟩ u6).drew.heap[g]? = w.heap[g]? := by
  have e : ∀ w' : World, w'.drew.heap = w'.heap := fun _ => rfl
  rw [e]
  rw [heap_ne _ h2, heap_ne _ h2, heap_ne _ h2, heap_ne _ h1, heap_ne _ h1, heap_ne _ h1, heap_ne _ h1]
end Go.Proofs.Ytgdcbfekekefiaa.Cur

namespace Go.Proofs.Ytgdcbfekekefiaa.Cur
open Go.RowKit Mem
set_option linter.unusedVariables false
set_option maxRecDepth 100000



end Go.Proofs.Ytgdcbfekekefiaa.Cur

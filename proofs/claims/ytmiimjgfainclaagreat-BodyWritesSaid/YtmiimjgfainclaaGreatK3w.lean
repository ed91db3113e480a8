/- As the seat's text, without what nothing here names. -/
import Derived.Test.YtmiimjgfainclaaGreatK1w
import Derived.WalkKit
import Derived.WalkSpells
import Derived.WalkLawsBesides
import Derived.Lib.Hide
import Derived.Deep.QuietTactic
import Derived.BigQuiet
import Derived.IntWalk
import Derived.Outline
namespace Go.Proofs.YtmiimjgfainclaaGreat.Cur
open Go.RowKit Mem
set_option linter.unusedVariables false
def Wr (w : World) (B b : Nat) (r : Option Nat) (z : List Int) (M c : Int) : Prop :=
  ∃ v, v.ownBlock = r ∧ Blk w b #[v, .int .i64 M, .int .i64 c] 66 ∧ Own w B v z ∧ B ≤ b ∧ (z.length : Int) ≤ M ∧ M ≤ 9223372036854775807
def WS (b : Nat) (r : Option Nat) (k : Nat) : Prop := k = b ∨ r = some k
theorem WS.ge {w : World} {B b : Nat} {r : Option Nat} {z : List Int} {M c : Int} (h : Wr w B b r z M c) : ∀ k, WS b r k → B ≤ k := by
  obtain ⟨v, rfl, _, ho, hB, _⟩ := h
  rintro k (rfl | e)
  · exact hB
  · exact ho.ge k e
theorem Ks.wr {w w1 w2 : World} {b : Nat} {r r1 : Option Nat} (h : Ks (WS b r) w w1) (g : Gr r r1 w) (k : Ks (WS b r1) w1 w2) : Ks (WS b r) w w2 :=
  h.trans' k fun i hi hs => by
    rcases hs with rfl | e
    · exact .inl rfl
    · rcases g with rfl | ⟨j, rfl, hj⟩
      · exact .inr e
      · injection e with e; omega
theorem Wr.lt {w : World} {B b : Nat} {r : Option Nat} {z : List Int} {M c : Int} (h : Wr w B b r z M c) : b < w.heap.size := by
  obtain ⟨v, _, hb, _⟩ := h; exact hb.lt
theorem Wr.below {w w' : World} {B b : Nat} {r : Option Nat} {z : List Int} {M c : Int} (h : Wr w B b r z M c) (k : Below w.heap.size w w') : Wr w' B b r z M c := by
  obtain ⟨v, hr, hb, ho, h1⟩ := h
  exact ⟨v, hr, hb.below k, ho.below k, h1⟩
theorem Wr.ks {w w' : World} {S : Nat → Prop} {B b : Nat} {r : Option Nat} {z : List Int} {M c : Int} (h : Wr w B b r z M c) (k : Ks S w w') (hS : ∀ i, S i → ¬ WS b r i) : Wr w' B b r z M c := by
  obtain ⟨v, rfl, hb, ho, h1⟩ := h
  exact ⟨v, rfl, hb.ks k (fun e => hS _ e (.inl rfl)), ho.ks k (fun g hg e => hS _ e (.inr hg)), h1⟩
theorem Wr.drewN {w : World} {B b : Nat} {r : Option Nat} {z : List Int} {M c : Int} (h : Wr w B b r z M c) (k : Nat) : Wr (w.drewN k) B b r z M c := h
theorem Wr.belowOf {w0 w w' : World} {B0 B b : Nat} {r : Option Nat} {z : List Int} {M c : Int} (h0 : Below B0 w0 w) (hB : B0 ≤ w0.heap.size) (h : Wr w B b r z M c) (k : Ks (WS b r) w w') (hb : B0 ≤ B) : Below B0 w0 w' :=
  k.below h0 hB fun i hi => Nat.le_trans hb (WS.ge h i hi)
def WNewPost (M : Int) (w : World) (e : Ending) (w' : World) : Prop := ∃ b, e = .returned (.pointer (some ⟨b, 0, none⟩)) ∧ w.heap.size ≤ b ∧ Below w.heap.size w w' ∧ Wr w' w.heap.size b none [] M 0
set_option maxHeartbeats 400000 in
theorem wnew_any (x : Int) (w : World) (hx : x ≤ 9223372036854775807) :
    Calls Tryz.prog 10 #[.int .i64 x] w (WNewPost (if x < 0 then 0 else x) w) := by
  by_cases h0 : x < 0
  · rw [if_pos h0]
    have h0' : ¬ 0 ≤ x := by omega
    go_enter Tryz.func10, Tryz.ntmps10
    go_wp2
    go_ret
    exact ⟨_, rfl, Nat.le_refl _, below_one _ _, .slice none 0 0, rfl, Blk.new _ _ _, Own.nil _ _, Nat.le_refl _, by simp, by omega⟩
  · rw [if_neg h0]
    have h0' : 0 ≤ x := by omega
    go_enter Tryz.func10, Tryz.ntmps10
    go_wp2
    go_ret
    exact ⟨_, rfl, Nat.le_refl _, below_one _ _, .slice none 0 0, rfl, Blk.new _ _ _, Own.nil _ _, Nat.le_refl _, by simpa using h0', by omega⟩
set_option maxHeartbeats 400000 in
theorem wcode_any {w : World} {B b : Nat} {r : Option Nat} {z : List Int} {M c : Int} (h : Wr w B b r z M c) :
    Calls Tryz.prog 49 #[.pointer (some ⟨b, 0, none⟩)] w fun e w' => e = .returned (.int .i64 c) ∧ w = w' := by
  obtain ⟨v, rfl, hb, ho, _, h1, h2⟩ := h
  obtain ⟨c0, c1, c2⟩ := hb.c3
  clear c0 c1 hb ho h1 h2
  go_enter Tryz.func49, Tryz.ntmps49
  go_wp2
  go_ret
  exact ⟨rfl, rfl⟩
set_option maxHeartbeats 400000 in
theorem wroom_any {w : World} {B b : Nat} {r : Option Nat} {z : List Int} {M c : Int} (h : Wr w B b r z M c) :
    Calls Tryz.prog 159 #[.pointer (some ⟨b, 0, none⟩)] w fun e w' => e = .returned (.int .i64 (M - z.length)) ∧ ∃ k, w' = w.drewN k := by
  obtain ⟨v, rfl, hb, ho, _, h1, h2⟩ := h
  obtain ⟨A, cap, rfl⟩ := ho.slice
  obtain ⟨c0, c1, c2⟩ := hb.c3
  clear c2 hb ho
  go_enter Tryz.func159, Tryz.ntmps159
  go_wp2
  go_quiet (fail)
  go_wp2
  go_ret
  exact ⟨rfl, nq, rfl⟩
theorem Wr.setCode {w : World} {B b : Nat} {r : Option Nat} {z : List Int} {M c : Int} (h : Wr w B b r z M c) (c' : Int) : Wr (w.setCell ⟨b, 2, none⟩ (.int .i64 c')) B b r z M c' := by
  obtain ⟨v, rfl, hb, ho, h1⟩ := h
  refine ⟨v, rfl, hb.set 2 _, ho.block fun k hk => Below.heap_setCell w _ _ k ?_, h1⟩
  rintro rfl
  exact ho.ne_blk hb (by decide) hk
def WFailPost (B b : Nat) (r : Option Nat) (z : List Int) (M c c' : Int) (w : World) (e : Ending) (w' : World) : Prop :=
  e = .returned (.tuple #[]) ∧ Ks (WS b r) w w' ∧ Wr w' B b r z M (if c = 0 then c' else c)
set_option maxHeartbeats 400000 in
theorem wfail_any {w : World} {B b : Nat} {r : Option Nat} {z : List Int} {M c : Int} (c' : Int) (h : Wr w B b r z M c) :
    Calls Tryz.prog 31 #[.pointer (some ⟨b, 0, none⟩), .int .i64 c'] w (WFailPost B b r z M c c' w) := by
  by_cases hc : c = 0
  · subst hc
    go_enter Tryz.func31, Tryz.ntmps31
    go_wp2_with fail
    refine (wcode_any h).mono ?_
    rintro e w1 ⟨rfl, rfl⟩
    have h' := h
    obtain ⟨v, rfl, hb, ho, _, h1, h2⟩ := h'
    obtain ⟨c0, c1, c2⟩ := hb.c3
    have f2 := hb.free 2
    clear c0 c1 hb ho h1 h2
    go_wp2
    go_end0
    exact ⟨rfl, Ks.setCell _ _ _ _ (.inl rfl), by rw [if_pos rfl]; exact h.setCode c'⟩
  · have hcb : (c == 0) = false := by simpa using hc
    have H := Lib.hid hc
    clear hc
    go_enter Tryz.func31, Tryz.ntmps31
    go_wp2_with fail
    refine (wcode_any h).mono ?_
    rintro e w1 ⟨rfl, rfl⟩
    go_wp2
    go_end0
    exact ⟨rfl, Ks.refl _ _, by rw [if_neg H.out]; exact h⟩
def fitsB (M c : Int) (l : Nat) (n : Int) : Bool := decide (c = 0 ∧ n ≤ M - l)
def fitsC (M c : Int) (l : Nat) (n : Int) : Int := if c = 0 ∧ M - l < n then 2 else c
def WFitsPost (B b : Nat) (r : Option Nat) (z : List Int) (M c n : Int) (w : World) (e : Ending) (w' : World) : Prop :=
  e = .returned (.bool (fitsB M c z.length n)) ∧ Ks (WS b r) w w' ∧ Wr w' B b r z M (fitsC M c z.length n)
set_option maxHeartbeats 400000 in
theorem wfits_any {w : World} {B b : Nat} {r : Option Nat} {z : List Int} {M c : Int} (n : Int) (h : Wr w B b r z M c) :
    Calls Tryz.prog 102 #[.pointer (some ⟨b, 0, none⟩), .int .i64 n] w (WFitsPost B b r z M c n w) := by
  by_cases hn : M - z.length < n
  · have hC : (if c = 0 then 2 else c) = fitsC M c z.length n := by
      unfold fitsC
      by_cases hc : c = 0 <;> simp [hc, hn]
    have hB : ((fitsC M c z.length n) == 0) = fitsB M c z.length n := by
      rw [← hC]; unfold fitsB
      by_cases hc : c = 0
      · simp [hc]; omega
      · simp [hc]
    have HC := Lib.hid hC
    have HB := Lib.hid hB
    clear hC hB
    go_enter Tryz.func102, Tryz.ntmps102
    go_wp2_with fail
    refine (wroom_any h).mono ?_
    rintro e w1 ⟨rfl, k, rfl⟩
    go_wp2_with fail
    refine (wfail_any _ (h.drewN k)).mono ?_
    rintro e w2 ⟨rfl, hk, h2⟩
    rw [HC.out] at h2
    go_wp2_with fail
    refine (wcode_any h2).mono ?_
    rintro e w3 ⟨rfl, rfl⟩
    go_wp2
    go_ret
    exact ⟨by rw [← HB.out]; rfl, (Ks.drewN _ _ _).trans hk, h2⟩
  · have hC : fitsC M c z.length n = c := by
      unfold fitsC; rw [if_neg (by omega)]
    have hB : (c == 0) = fitsB M c z.length n := by
      unfold fitsB
      by_cases hc : c = 0
      · simp [hc]; omega
      · simp [hc]
    have HC := Lib.hid hC
    have HB := Lib.hid hB
    clear hC hB
    go_enter Tryz.func102, Tryz.ntmps102
    go_wp2_with fail
    refine (wroom_any h).mono ?_
    rintro e w1 ⟨rfl, k, rfl⟩
    go_wp2_with fail
    refine (wcode_any (h.drewN k)).mono ?_
    rintro e w3 ⟨rfl, rfl⟩
    go_wp2
    go_ret
    exact ⟨by rw [← HB.out]; rfl, Ks.drewN _ _ _, by rw [HC.out]; exact h.drewN k⟩
end Go.Proofs.YtmiimjgfainclaaGreat.Cur
namespace Go.Proofs.YtmiimjgfainclaaGreat.Cur
open Go.RowKit Mem
set_option linter.unusedVariables false
def putZ (z y : List Int) (M c : Int) : List Int := if c = 0 ∧ (y.length : Int) ≤ M - z.length then z ++ y else z
def putC (z y : List Int) (M c : Int) : Int := fitsC M c z.length y.length
def WPutPost (B b : Nat) (r : Option Nat) (z y : List Int) (M c : Int) (w : World) (e : Ending) (w' : World) : Prop :=
  ∃ r', e = .returned (.tuple #[]) ∧ Ks (WS b r) w w' ∧ Gr r r' w ∧ Wr w' B b r' (putZ z y M c) M (putC z y M c)
theorem fits_yes {M c : Int} {l : Nat} {n : Int} (h : fitsB M c l n = true) : c = 0 ∧ n ≤ M - l ∧ fitsC M c l n = 0 := by
  unfold fitsB at h
  have := of_decide_eq_true h
  refine ⟨this.1, this.2, ?_⟩
  unfold fitsC
  rw [if_neg (by omega)]
  exact this.1
theorem fits_no {M c : Int} {l : Nat} {n : Int} (h : fitsB M c l n = false) : ¬ (c = 0 ∧ n ≤ M - l) := by
  unfold fitsB at h
  exact of_decide_eq_false h
theorem Wr.put {w w1 : World} {B b : Nat} {v v' : Value} {z y : List Int} {M c : Int} (hb : Blk w b #[v, .int .i64 M, .int .i64 c] 66) (ho : Own w B v z) (hB : B ≤ b) (hM : M ≤ 9223372036854775807) (hy : (y.length : Int) ≤ M - z.length)
    (ho' : Own w1 B v' (z ++ y)) (hg : w.grownBy w1 v.ownBlock) :
    Wr (w1.setCell ⟨b, 0, none⟩ v') B b v'.ownBlock (z ++ y) M c ∧ Ks (WS b v.ownBlock) w (w1.setCell ⟨b, 0, none⟩ v') := by
  have hb1 : Blk w1 b #[v, .int .i64 M, .int .i64 c] 66 := hb.ks (Ks.of_grown (S := fun k => v.ownBlock = some k) hg fun k hk => hk) (ho.ne_blk hb (by decide))
  refine ⟨⟨v', rfl, hb1.set 0 _, ho'.block fun k hk => Below.heap_setCell w1 _ _ k ?_, hB, by rw [List.length_append]; omega, hM⟩, (Ks.of_grown hg fun k hk => .inr hk).trans (Ks.setCell _ _ _ _ (.inl rfl))⟩
  rintro rfl
  exact ho'.ne_blk hb1 (by decide) hk
set_option maxHeartbeats 400000 in
theorem wput_any {w : World} {B b : Nat} {r : Option Nat} {z y : List Int} {M c : Int} (A : Option Addr) (m cap : Nat) (h : Wr w B b r z M c) (hy : Bs w A m y) (hA : A = none → cap = 0) (hoff : 0 < m → ∀ a, A = some a → ¬ WS b r a.block)
    (hsz : z.length + m ≤ 1000000) (hBw : B ≤ w.heap.size) :
    Calls Tryz.prog 38 #[.pointer (some ⟨b, 0, none⟩), .slice A m cap] w (WPutPost B b r z y M c w) := by
  have hl := hy.1
  subst hl
  go_enter Tryz.func38, Tryz.ntmps38
  go_wp2_with fail
  refine (wfits_any _ h).mono ?_
  rintro e w1 ⟨rfl, hk, h2⟩
  cases hf : fitsB M c z.length (y.length : Int)
  · have hno := fits_no hf
    have HN := Lib.hid hno
    clear hno hf
    go_wp2
    go_end0
    exact ⟨r, rfl, hk, .inl rfl, by unfold putZ putC; rw [if_neg HN.out]; exact h2⟩
  · obtain ⟨rfl, hle, hC⟩ := fits_yes hf
    have hy1 := hy.ks hk hoff
    rw [hC] at h2
    have HC := Lib.hid hC
    clear hC hf
    obtain ⟨v, hr, hb, ho, hB, h3, h4⟩ := h2
    have HR := Lib.hid hr
    clear hr
    obtain ⟨A1, cap1, rfl⟩ := ho.slice
    obtain ⟨c0, c1, c2⟩ := hb.c3
    have f0 := hb.free 0
    have hsize := Nat.le_trans hBw hk.size
    clear c1 c2
    go_wp2_with (at_builtin; go_must (refine list_append_gr rfl (.tmp 12) (.tmp 13) rfl B (.slice A1 z.length cap1) z rfl ho _ _ _ _ rfl hy1 hA hsz hsize ?_; intro v' w2 ho' hg hgr; obtain ⟨A2, cap2, hv⟩ := ho'.slice; subst hv; have hp := Wr.put hb ho hB h4 hle ho' hg; have HP := Lib.hid hp; have hbb := hb.ks (Ks.of_grown (S := fun k => (Value.slice A1 z.length cap1).ownBlock = some k) hg fun k hk => hk) (ho.ne_blk hb (by decide)); have c0' := hbb.c3.1; have f0' := hbb.free 0; clear c0 f0 hp ho' ho hbb))
    go_end0
    rw [HR.out] at hgr HP
    rw [List.length_append] at HP hgr
    obtain ⟨hw, hks⟩ := HP.out
    refine ⟨(Value.slice A2 (z.length + y.length) cap2).ownBlock, rfl, hk.trans hks, ?_, ?_⟩
    · rcases hgr with e | ⟨g, e, hg⟩
      · exact .inl e
      · exact .inr ⟨g, e, Nat.le_trans hk.size hg⟩
    · unfold putZ putC
      rw [if_pos ⟨rfl, hle⟩, HC.out]
      exact hw
def WBytesPost (z : List Int) (w : World) (e : Ending) (w' : World) : Prop :=
  ∃ g, e = .returned (.tuple #[.slice (some ⟨g, 0, none⟩) z.length z.length, .int .i64 0]) ∧ w.heap.size ≤ g ∧ Below w.heap.size w w' ∧ Blk w' g (z.map (Value.int .u8)).toArray 5
set_option maxHeartbeats 800000 in
theorem wbytes_good {w : World} {B b : Nat} {r : Option Nat} {z : List Int} {M : Int} (h : Wr w B b r z M 0) (hsz : z.length ≤ 1000000) :
    Calls Tryz.prog 12 #[.pointer (some ⟨b, 0, none⟩)] w (WBytesPost z w) := by
  obtain ⟨i0, hi, hz0, hz1, hz2⟩ := info_parts info5
  have hmk := fun w => run_make (P := Tryz.prog) w 25 5 i0 (.int .u8 0) Tryz.underlying25 hi hz0 .i64 .i64 (z.length : Int) (z.length : Int) (by omega) (by omega) (by rw [hz2]; omega) (by omega)
  have h' := h
  obtain ⟨v, hr, hb, ho, hB, h3, h4⟩ := h'
  have HR := Lib.hid hr
  clear hr
  obtain ⟨A1, cap1, rfl⟩ := ho.slice
  obtain ⟨c0, c1, c2⟩ := hb.c3
  have hbl := hb.lt
  have l1 : (z.map (Value.int .u8)).length = Nat.min z.length z.length := by simp
  have l2 : 0 + (z.map (Value.int .u8)).length ≤ (madeCells #[.int .u8 0] z.length).toList.length := by simp [size_madeCells]
  have l3 : ∀ v ∈ z.map (Value.int .u8), v.oneCell' = true := by intro v hv; obtain ⟨x, _, rfl⟩ := List.mem_map.1 hv; rfl
  have hbs := (ho.bs.2).below (below_one w (.cells (madeCells #[.int .u8 0] z.length) 5))
  have l4 : 0 < (z.map (Value.int .u8)).length → ∃ ad, A1 = some ad ∧ ∀ j v, (z.map (Value.int .u8))[j]? = some v → (w.alloc (.cells (madeCells #[.int .u8 0] z.length) 5)).cell? (ad.add j) = some v := by
    intro hpos
    obtain ⟨g, o, e, _⟩ := hbs.2 (by simpa using hpos)
    subst e
    exact ⟨_, rfl, bs_news hbs⟩
  have hsp : splice (madeCells #[.int .u8 0] z.length).toList 0 (z.map (Value.int .u8)) = z.map (Value.int .u8) := by
    simp [splice, size_madeCells]
  have L1 := Lib.hid l1
  have L2 := Lib.hid l2
  have L3 := Lib.hid l3
  have L4 := Lib.hid l4
  have HS := Lib.hid hsp
  clear l1 l2 l3 l4 hsp hbs c1 c2 hb ho h3 h4 hB
  go_enter Tryz.func12, Tryz.ntmps12
  go_wp2_with fail
  refine (wcode_any h).mono ?_
  rintro e w1 ⟨rfl, rfl⟩
  go_wp2_with (with_reducible refine wpList_copy_splice rfl (.tmp 17) (.tmp 21) 25 25 rfl 5 Tryz.underlying25 size5 _ _ _ _ _ _ rfl rfl w.heap.size 0 (madeCells #[.int .u8 0] z.length).toList 5 (heap_alloc_new _ _) (z.map (Value.int .u8)) L1.out (fun hp => ⟨rfl, L4.out hp⟩) L2.out L3.out w.heap.size w ((Below.refl _ _).alloc (Nat.le_refl _) _) (Nat.le_refl _) ?_; intro w4 hg4 hb4)
  go_ret2
  exact ⟨w.heap.size, rfl, Nat.le_refl _, hb4, by have := hg4.out; rw [HS.out] at this; exact this⟩
set_option maxHeartbeats 400000 in
theorem wbytes_bad {w : World} {B b : Nat} {r : Option Nat} {z : List Int} {M c : Int} (h : Wr w B b r z M c) (hc : (c != 0) = true) :
    Calls Tryz.prog 12 #[.pointer (some ⟨b, 0, none⟩)] w fun e w' => e = .returned (.tuple #[.slice none 0 0, .int .i64 c]) ∧ w = w' := by
  go_enter Tryz.func12, Tryz.ntmps12
  go_wp2_with fail
  refine (wcode_any h).mono ?_
  rintro e w1 ⟨rfl, rfl⟩
  go_wp2
  go_ret2
  exact ⟨rfl, rfl⟩
end Go.Proofs.YtmiimjgfainclaaGreat.Cur
namespace Go.Proofs.YtmiimjgfainclaaGreat.Cur
open Go.RowKit Mem
set_option linter.unusedVariables false
end Go.Proofs.YtmiimjgfainclaaGreat.Cur

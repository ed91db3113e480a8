/- The contracts of the writer's functions (package pen), second part: Put, Text, Bytes. -/
import Derived.Test.YtkedmhopajpkhaaPenA
import Derived.Outline
namespace Go.Proofs.Ytkedmhopajpkhaa.Cur
open Go.RowKit Mem
set_option linter.unusedVariables false

/-- What is there behind a Put of y, and which code. -/
def putZ (z y : List Int) (M c : Int) : List Int := if c = 0 ∧ (y.length : Int) ≤ M - z.length then z ++ y else z
def putC (z y : List Int) (M c : Int) : Int := fitsC M c z.length y.length
def WPutPost (B b : Nat) (r : Option Nat) (z y : List Int) (M c : Int) (w : World) (e : Ending) (w' : World) : Prop :=
  ∃ r', e = .returned (.tuple #[]) ∧ Ks (WS b r) w w' ∧ Gr r r' w ∧ Wr w' B b r' (putZ z y M c) M (putC z y M c)

theorem fits_yes {M c : Int} {l : Nat} {n : Int} (h : fitsB M c l n = true) : c = 0 ∧ n ≤ M - l ∧ fitsC M c l n = 0 := by
  unfold fitsB at h
  have := of_decide_eq_true h
  refine ⟨this.1, this.2, ?_⟩
  unfold fitsC
  rw [if_neg (by omega)]
  exact this.1
theorem fits_no {M c : Int} {l : Nat} {n : Int} (h : fitsB M c l n = false) : ¬ (c = 0 ∧ n ≤ M - l) := by
  unfold fitsB at h
  exact of_decide_eq_false h

/-- The step behind the append: the row is stored into the writer. -/
theorem Wr.put {w w1 : World} {B b : Nat} {v v' : Value} {z y : List Int} {M c : Int} (hb : Blk w b #[v, .int .i64 M, .int .i64 c] 63) (ho : Own w B v z) (hB : B ≤ b) (hM : M ≤ 9223372036854775807) (hy : (y.length : Int) ≤ M - z.length)
    (ho' : Own w1 B v' (z ++ y)) (hg : w.grownBy w1 v.ownBlock) :
    Wr (w1.setCell ⟨b, 0, none⟩ v') B b v'.ownBlock (z ++ y) M c ∧ Ks (WS b v.ownBlock) w (w1.setCell ⟨b, 0, none⟩ v') := by
  have hb1 : Blk w1 b #[v, .int .i64 M, .int .i64 c] 63 := hb.ks (Ks.of_grown (S := fun k => v.ownBlock = some k) hg fun k hk => hk) (ho.ne_blk hb (by decide))
  refine ⟨⟨v', rfl, hb1.set 0 _, ho'.block fun k hk => Below.heap_setCell w1 _ _ k ?_, hB, by rw [List.length_append]; omega, hM⟩, (Ks.of_grown hg fun k hk => .inr hk).trans (Ks.setCell _ _ _ _ (.inl rfl))⟩
  rintro rfl
  exact ho'.ne_blk hb1 (by decide) hk

set_option maxHeartbeats 400000 in
theorem wput_any {w : World} {B b : Nat} {r : Option Nat} {z y : List Int} {M c : Int} (A : Option Addr) (m cap : Nat) (h : Wr w B b r z M c) (hy : Bs w A m y) (hA : A = none → cap = 0) (hoff : 0 < m → ∀ a, A = some a → ¬ WS b r a.block)
    (hsz : z.length + m ≤ 1000000) (hBw : B ≤ w.heap.size) :
    Calls Try.prog 28 #[.pointer (some ⟨b, 0, none⟩), .slice A m cap] w (WPutPost B b r z y M c w) := by
  have hl := hy.1
  subst hl
  go_enter Try.func28, Try.ntmps28
  go_wp2_with fail
  refine (wfits_any _ h).mono ?_
  rintro e w1 ⟨rfl, hk, h2⟩
  cases hf : fitsB M c z.length (y.length : Int)
  · have hno := fits_no hf
    have HN := Lib.hid hno
    clear hno hf
    go_wp2
    go_end0
    exact ⟨r, rfl, hk, .inl rfl, by unfold putZ putC; rw [if_neg HN.out]; exact h2⟩
  · obtain ⟨rfl, hle, hC⟩ := fits_yes hf
    have hy1 := hy.ks hk hoff
    rw [hC] at h2
    have HC := Lib.hid hC
    clear hC hf
    obtain ⟨v, hr, hb, ho, hB, h3, h4⟩ := h2
    have HR := Lib.hid hr
    clear hr
    obtain ⟨A1, cap1, rfl⟩ := ho.slice
    obtain ⟨c0, c1, c2⟩ := hb.c3
    have f0 := hb.free 0
    have hsize := Nat.le_trans hBw hk.size
    clear c1 c2
    go_wp2_with (at_builtin; go_must (refine list_append_gr rfl (.tmp 12) (.tmp 13) rfl B (.slice A1 z.length cap1) z rfl ho _ _ _ _ rfl hy1 hA hsz hsize ?_; intro v' w2 ho' hg hgr; obtain ⟨A2, cap2, hv⟩ := ho'.slice; subst hv; have hp := Wr.put hb ho hB h4 hle ho' hg; have HP := Lib.hid hp; have hbb := hb.ks (Ks.of_grown (S := fun k => (Value.slice A1 z.length cap1).ownBlock = some k) hg fun k hk => hk) (ho.ne_blk hb (by decide)); have c0' := hbb.c3.1; have f0' := hbb.free 0; clear c0 f0 hp ho' ho hbb))
    go_end0
    rw [HR.out] at hgr HP
    rw [List.length_append] at HP hgr
    obtain ⟨hw, hks⟩ := HP.out
    refine ⟨(Value.slice A2 (z.length + y.length) cap2).ownBlock, rfl, hk.trans hks, ?_, ?_⟩
    · rcases hgr with e | ⟨g, e, hg⟩
      · exact .inl e
      · exact .inr ⟨g, e, Nat.le_trans hk.size hg⟩
    · unfold putZ putC
      rw [if_pos ⟨rfl, hle⟩, HC.out]
      exact hw

set_option maxHeartbeats 400000 in
theorem wput_none (A : Option Addr) (m cap : Nat) (w : World) :
    Calls Try.prog 28 #[.pointer none, .slice A m cap] w fun e w' => e = .returned (.tuple #[]) ∧ w = w' := by
  go_enter Try.func28, Try.ntmps28
  go_wp2_with fail
  refine (wfits_none _ _).mono ?_
  rintro e w1 ⟨rfl, rfl⟩
  go_wp2
  go_end0
  exact ⟨rfl, rfl⟩

/-- What Bytes hands back of a writer without a code: a new row. -/
def WBytesPost (z : List Int) (w : World) (e : Ending) (w' : World) : Prop :=
  ∃ g, e = .returned (.tuple #[.slice (some ⟨g, 0, none⟩) z.length z.length, .int .i64 0]) ∧ w.heap.size ≤ g ∧ Below w.heap.size w w' ∧ Blk w' g (z.map (Value.int .u8)).toArray 5

theorem Own.at_block {w : World} {B g n c : Nat} {z : List Int} (h : Own w B (.slice (some ⟨g, 0, none⟩) n c) z) : ∀ j v, (z.map (Value.int .u8))[j]? = some v → w.cell? ((⟨g, 0, none⟩ : Addr).add j) = some v := World.ownsRow.cells h (g := g) rfl

set_option maxHeartbeats 800000 in
theorem wbytes_good {w : World} {B b : Nat} {r : Option Nat} {z : List Int} {M : Int} (h : Wr w B b r z M 0) (hsz : z.length ≤ 1000000) :
    Calls Try.prog 11 #[.pointer (some ⟨b, 0, none⟩)] w (WBytesPost z w) := by
  obtain ⟨i0, hi, hz0, hz1, hz2⟩ := info_parts info5
  have hmk := fun w => run_make (P := Try.prog) w 22 5 i0 (.int .u8 0) Try.underlying22 hi hz0 .i64 .i64 (z.length : Int) (z.length : Int) (by omega) (by omega) (by rw [hz2]; omega) (by omega)
  have h' := h
  obtain ⟨v, hr, hb, ho, hB, h3, h4⟩ := h'
  have HR := Lib.hid hr
  clear hr
  obtain ⟨A1, cap1, rfl⟩ := ho.slice
  obtain ⟨c0, c1, c2⟩ := hb.c3
  have hbl := hb.lt
  have l1 : (z.map (Value.int .u8)).length = Nat.min z.length z.length := by simp
  have l2 : 0 + (z.map (Value.int .u8)).length ≤ (madeCells #[.int .u8 0] z.length).toList.length := by simp [size_madeCells]
  have l3 : ∀ v ∈ z.map (Value.int .u8), v.oneCell' = true := by intro v hv; obtain ⟨x, _, rfl⟩ := List.mem_map.1 hv; rfl
  have hbs := (ho.bs.2).below (below_one w (.cells (madeCells #[.int .u8 0] z.length) 5))
  have l4 : 0 < (z.map (Value.int .u8)).length → ∃ ad, A1 = some ad ∧ ∀ j v, (z.map (Value.int .u8))[j]? = some v → (w.alloc (.cells (madeCells #[.int .u8 0] z.length) 5)).cell? (ad.add j) = some v := by
    intro hpos
    obtain ⟨g, o, e, _⟩ := hbs.2 (by simpa using hpos)
    subst e
    exact ⟨_, rfl, bs_news hbs⟩
  have hsp : splice (madeCells #[.int .u8 0] z.length).toList 0 (z.map (Value.int .u8)) = z.map (Value.int .u8) := by
    simp [splice, size_madeCells]
  have L1 := Lib.hid l1
  have L2 := Lib.hid l2
  have L3 := Lib.hid l3
  have L4 := Lib.hid l4
  have HS := Lib.hid hsp
  clear l1 l2 l3 l4 hsp hbs c1 c2 hb ho h3 h4 hB
  go_enter Try.func11, Try.ntmps11
  go_wp2_with fail
  refine (wcode_any h).mono ?_
  rintro e w1 ⟨rfl, rfl⟩
  go_wp2_with (with_reducible refine wpList_copy_splice rfl (.tmp 17) (.tmp 21) 22 22 rfl 5 Try.underlying22 size5 _ _ _ _ _ _ rfl rfl w.heap.size 0 (madeCells #[.int .u8 0] z.length).toList 5 (heap_alloc_new _ _) (z.map (Value.int .u8)) L1.out (fun hp => ⟨rfl, L4.out hp⟩) L2.out L3.out w.heap.size w ((Below.refl _ _).alloc (Nat.le_refl _) _) (Nat.le_refl _) ?_; intro w4 hg4 hb4)
  go_ret2
  exact ⟨w.heap.size, rfl, Nat.le_refl _, hb4, by have := hg4.out; rw [HS.out] at this; exact this⟩

set_option maxHeartbeats 400000 in
theorem wbytes_bad {w : World} {B b : Nat} {r : Option Nat} {z : List Int} {M c : Int} (h : Wr w B b r z M c) (hc : (c != 0) = true) :
    Calls Try.prog 11 #[.pointer (some ⟨b, 0, none⟩)] w fun e w' => e = .returned (.tuple #[.slice none 0 0, .int .i64 c]) ∧ w = w' := by
  go_enter Try.func11, Try.ntmps11
  go_wp2_with fail
  refine (wcode_any h).mono ?_
  rintro e w1 ⟨rfl, rfl⟩
  go_wp2
  go_ret2
  exact ⟨rfl, rfl⟩

set_option maxHeartbeats 400000 in
theorem wbytes_none (w : World) :
    Calls Try.prog 11 #[.pointer none] w fun e w' => e = .returned (.tuple #[.slice none 0 0, .int .i64 19]) ∧ w = w' := by
  go_enter Try.func11, Try.ntmps11
  go_wp2_with fail
  refine (wcode_none _).mono ?_
  rintro e w1 ⟨rfl, rfl⟩
  go_wp2
  go_ret2
  exact ⟨rfl, rfl⟩

/-- Bytes of whatever writer. -/
def WBytesAny (z : List Int) (c : Int) (w : World) (e : Ending) (w' : World) : Prop :=
  ∃ A n cap, e = .returned (.tuple #[.slice A n cap, .int .i64 c]) ∧ Below w.heap.size w w' ∧ Bs w' A n (if c = 0 then z else []) ∧ (0 < n → ∀ a, A = some a → w.heap.size ≤ a.block)
theorem wbytes_any {w : World} {B b : Nat} {r : Option Nat} {z : List Int} {M c : Int} (h : Wr w B b r z M c) (hsz : z.length ≤ 1000000) :
    Calls Try.prog 11 #[.pointer (some ⟨b, 0, none⟩)] w (WBytesAny z c w) := by
  by_cases hc : c = 0
  · subst hc
    refine (wbytes_good h hsz).mono ?_
    rintro e w' ⟨g, rfl, hg, hb, hblk⟩
    refine ⟨_, _, _, rfl, hb, by rw [if_pos rfl]; exact Bs.of_block hblk, fun _ a ha => ?_⟩
    injection ha with ha; subst ha; exact hg
  · refine (wbytes_bad h (by simpa using hc)).mono ?_
    rintro e w' ⟨rfl, rfl⟩
    exact ⟨_, _, _, rfl, Below.refl _ _, by rw [if_neg hc]; exact ⟨rfl, fun h => absurd h (by omega)⟩, fun h => absurd h (by omega)⟩
end Go.Proofs.Ytkedmhopajpkhaa.Cur

/- The contracts of package varint: Put; the document's Bytes. -/
import Derived.Test.YtkedmhopajpkhaaVarA
namespace Go.Proofs.Ytkedmhopajpkhaa.Cur
open Go.RowKit Mem
set_option linter.unusedVariables false

def VPutPost (B b : Nat) (r : Option Nat) (z : List Int) (M c x : Int) (w : World) (e : Ending) (w' : World) : Prop := WPutPost B b r z (vz x) M c w e w'
set_option maxHeartbeats 400000 in
theorem vput_any {w : World} {B b : Nat} {r : Option Nat} {z : List Int} {M c : Int} (x : Int) (h : Wr w B b r z M c) (h0 : 0 ≤ x) (h1 : x < 18446744073709551616) (hsz : z.length ≤ 900000) (hBw : B ≤ w.heap.size) :
    Calls Try.prog 31 #[.pointer (some ⟨b, 0, none⟩), .int .u64 x] w (VPutPost B b r z M c x w) := by
  have hk := vsz_le x
  go_enter Try.func31, Try.ntmps31
  go_wp2_with fail
  refine (vbytes_any _ _ h0 h1).mono ?_
  rintro e w1 ⟨g, rfl, hg, hb, hblk⟩
  have h2 := h.below hb
  have hbs : Bs w1 (some ⟨g, 0, none⟩) (vsz x) (vz x) := by
    have := Bs.of_block hblk
    rw [vz_length] at this
    exact this
  have hoff : 0 < vsz x → ∀ a, some (⟨g, 0, none⟩ : Addr) = some a → ¬ WS b r a.block := by
    rintro _ a ha
    injection ha with ha
    subst ha
    obtain ⟨v, rfl, hbb, ho, _⟩ := h
    rintro (e | e)
    · have := hbb.lt; simp at e; omega
    · have := ho.lt _ e; simp at this; omega
  go_wp2_with fail
  refine (wput_any _ _ _ h2 hbs (by simp) hoff (by omega) (Nat.le_trans hBw hb.size)).mono ?_
  rintro e w2 ⟨r', rfl, hks, hgr, hw⟩
  go_wp2
  go_end0
  refine ⟨r', rfl, (Ks.of_below hb).trans hks, ?_, hw⟩
  rcases hgr with e | ⟨g, e, hg⟩
  · exact .inl e
  · exact .inr ⟨g, e, Nat.le_trans hb.size hg⟩

/-- Bytes in memory that were made since. -/
def RowPost (z : List Int) (w : World) (e : Ending) (w' : World) : Prop :=
  ∃ A m, e = .returned (.slice A z.length m) ∧ Below w.heap.size w w' ∧ Bs w' A z.length z ∧ (A = none → m = 0) ∧ (∀ a, A = some a → w.heap.size ≤ a.block) ∧ Own w' w.heap.size (.slice A z.length m) z

theorem Own.built (w : World) (b : Int) : Own (w.alloc (.cells #[.int .u8 b] 5)) w.heap.size (.slice (some ⟨w.heap.size, 0, none⟩) 1 1) [b] :=
  ⟨by simp, .inr ⟨w.heap.size, 1, #[.int .u8 b], rfl, Nat.le_refl _, heap_alloc_new w _, Nat.le_refl _, by simp [maxLen], rfl, rfl⟩⟩
theorem Own.rowPost {w w' : World} {B n m : Nat} {A : Option Addr} {z : List Int} (h : Own w' w.heap.size (.slice A n m) z) (hb : Below w.heap.size w w') : RowPost z w (.returned (.slice A n m)) w' := by
  obtain ⟨rfl, hbs⟩ := h.bs
  refine ⟨A, m, rfl, hb, hbs, ?_, ?_, h⟩
  · intro e
    subst e
    rcases h.2 with ⟨e, _⟩ | ⟨g, cap, cur, e, _⟩
    · injection e
    · injection e with e; cases e
  · intro a ha
    subst ha
    rcases h.2 with ⟨e, _⟩ | ⟨g, cap, cur, e, hg, _⟩
    · injection e with e; cases e
    · injection e with e; injection e with e; subst e; exact hg

set_option maxHeartbeats 800000 in
theorem rbytes_any (k : Nat) : ∀ (x : Int) (w : World), vsz x ≤ k → 0 ≤ x → x < 18446744073709551616 → Calls Try.prog 33 #[.int .u64 x] w (RowPost (vz x) w) := by
  induction k with
  | zero => intro x w hk; have := vsz_pos x; omega
  | succ k ih =>
    intro x w hk h0 h1
    by_cases hx : x < 128
    · rw [vz_lt x hx]
      have e : x % 256 = x := by omega
      have hp : RowPost [x % 256] w (.returned (.slice (some ⟨w.heap.size, 0, none⟩) 1 1)) (w.alloc (.cells #[.int .u8 (x % 256)] 5)) :=
        Own.rowPost (B := 0) (Own.built w _) (below_one _ _)
      rw [e] at hp
      have HP := Lib.hid hp
      clear hp e
      go_enter Try.func33, Try.ntmps33
      go_wp2
      go_ret
      exact HP.out
    · rw [vz_ge x (by omega) h1]
      have hs := vsz_div x (by omega) h1
      have hc := ih (x / 128) (w.alloc (.cells #[.int .u8 (128 + x % 128)] 5)) (by omega) (by omega) (by omega)
      have hown := Own.built w (128 + x % 128)
      have hle := vsz_le (x / 128)
      have HO := Lib.hid hown
      have e0 : 0 ≤ x % 128 := by omega
      have e1 : x % 128 < 128 := by omega
      clear hs hown ih hk
      have hx' : ¬ x < 128 := hx
      go_enter Try.func33, Try.ntmps33
      go_wp2_with fail
      refine hc.mono ?_
      rintro e w1 ⟨A, m, rfl, hb, hbs, hnil, _⟩
      have hb1 := (below_one w (.cells #[.int .u8 (128 + x % 128)] 5)).trans (hb.mono (by simp))
      have HL := Lib.hid (vz_length (x / 128))
      have hown1 := HO.out.below hb
      have hB := hb1.size
      clear hc
      go_wp2_with (at_builtin; go_must (refine list_append_gr rfl (.tmp 12) (.tmp 15) rfl w.heap.size (.slice (some ⟨w.heap.size, 0, none⟩) 1 1) [128 + x % 128] rfl hown1 _ _ _ _ rfl hbs hnil (by rw [HL.out]; simp; omega) hB ?_; intro v' w2 ho' hg hgr; have hb2 := Own.belowOf hb1 hB hown1 hg; obtain ⟨A2, cap2, hv⟩ := ho'.slice; subst hv))
      go_ret
      exact Own.rowPost (B := 0) ho' hb2
end Go.Proofs.Ytkedmhopajpkhaa.Cur

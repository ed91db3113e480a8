/- As the seat's text, without what nothing here names. -/
import Derived.Test.YtmiimjgfainclaaGreatK5w
import Derived.Deep.LoopGhost
import Derived.Test.YtmiimjgfainclaaGreatK3w
import Derived.Deep.Cut
namespace Go.Proofs.YtmiimjgfainclaaGreat.Cur
open Go.RowKit Mem
set_option linter.unusedVariables false
def puts : List (List Int) → List Int → Int → Int → List Int × Int
  | [], z, _, c => (z, c)
  | y :: ys, z, M, c => puts ys (putZ z y M c) M (putC z y M c)
theorem puts_append (xs ys : List (List Int)) (z : List Int) (M c : Int) : puts (xs ++ ys) z M c = puts ys (puts xs z M c).1 M (puts xs z M c).2 := by
  induction xs generalizing z c with
  | nil => rfl
  | cons x xs ih => exact ih _ _
theorem puts_snoc (xs : List (List Int)) (y z : List Int) (M c : Int) : puts (xs ++ [y]) z M c = (putZ (puts xs z M c).1 y M (puts xs z M c).2, putC (puts xs z M c).1 y M (puts xs z M c).2) := by
  rw [puts_append]; rfl
theorem putZ_le (z y : List Int) (M c : Int) : (putZ z y M c).length ≤ z.length + y.length := by
  unfold putZ; split
  · rw [List.length_append]; exact Nat.le_refl _
  · omega
theorem puts_le (xs : List (List Int)) (z : List Int) (M c : Int) : (puts xs z M c).1.length ≤ z.length + xs.flatten.length := by
  induction xs generalizing z c with
  | nil => simp [puts]
  | cons x xs ih =>
    have h1 := ih (putZ z x M c) (putC z x M c)
    have h2 := putZ_le z x M c
    rw [List.flatten_cons, List.length_append]
    show (puts xs (putZ z x M c) M (putC z x M c)).1.length ≤ _
    omega
theorem putC_bad {z y : List Int} {M c : Int} (hc : c ≠ 0) : putZ z y M c = z ∧ putC z y M c = c := by
  unfold putZ putC fitsC
  rw [if_neg (fun h => hc h.1), if_neg (fun h => hc h.1)]
  exact ⟨rfl, rfl⟩
theorem puts_bad (xs : List (List Int)) {z : List Int} {M c : Int} (hc : c ≠ 0) : puts xs z M c = (z, c) := by
  induction xs with
  | nil => rfl
  | cons x xs ih =>
    obtain ⟨h1, h2⟩ := putC_bad (z := z) (y := x) (M := M) hc
    show puts xs (putZ z x M c) M (putC z x M c) = _
    rw [h1, h2, ih]
theorem puts_fits {xs : List (List Int)} {z : List Int} {M : Int} (h : (z.length : Int) + xs.flatten.length ≤ M) : puts xs z M 0 = (z ++ xs.flatten, 0) := by
  induction xs generalizing z with
  | nil => simp [puts]
  | cons x xs ih =>
    rw [List.flatten_cons, List.length_append] at h
    have h1 : putZ z x M 0 = z ++ x := by unfold putZ; rw [if_pos ⟨rfl, by omega⟩]
    have h2 : putC z x M 0 = 0 := by unfold putC fitsC; rw [if_neg (by omega)]
    show puts xs (putZ z x M 0) M (putC z x M 0) = _
    rw [h1, h2, ih (by rw [List.length_append]; omega), List.flatten_cons, List.append_assoc]
def WPutsPost (B b : Nat) (r : Option Nat) (z : List Int) (xs : List (List Int)) (M c : Int) (w : World) (e : Ending) (w' : World) : Prop :=
  ∃ r', e = .returned (.tuple #[]) ∧ Ks (WS b r) w w' ∧ Gr r r' w ∧ Wr w' B b r' (puts xs z M c).1 M (puts xs z M c).2
theorem off_gr {w : World} {b : Nat} {r r' : Option Nat} {n : Nat} {A : Option Addr} (hlt : 0 < n → ∀ a, A = some a → a.block < w.heap.size) (hoff : 0 < n → ∀ a, A = some a → ¬ WS b r a.block) (hg : Gr r r' w) : 0 < n → ∀ a, A = some a → ¬ WS b r' a.block := by
  intro h0 a ha
  have h1 := hlt h0 a ha
  have h2 := hoff h0 a ha
  rintro (e | e)
  · exact h2 (.inl e)
  · rcases hg with rfl | ⟨g, rfl, hg⟩
    · exact h2 (.inr e)
    · injection e with e; omega
end Go.Proofs.YtmiimjgfainclaaGreat.Cur
namespace Go.Proofs.YtmiimjgfainclaaGreat.Cur
open Go.RowKit Mem
set_option linter.unusedVariables false
set_option maxHeartbeats 400000 in
theorem bput_any {w : World} {B b : Nat} {r : Option Nat} {z y : List Int} {M c : Int} (A : Option Addr) (m cap : Nat) (h : Wr w B b r z M c) (hy : Bs w A m y) (hA : A = none → cap = 0) (hoff : 0 < m → ∀ a, A = some a → ¬ WS b r a.block)
    (hsz : z.length + m ≤ 800000) (hBw : B ≤ w.heap.size) :
    Calls Tryz.prog 163 #[.pointer (some ⟨b, 0, none⟩), .slice A m cap] w (WPutsPost B b r z [vz m, y] M c w) := by
  have hlt : 0 < m → ∀ a, A = some a → a.block < w.heap.size := fun h0 => hy.lt h0
  have hle := putZ_le z (vz m) M c
  rw [vz_length] at hle
  have hv := vsz_le (m : Int)
  have HLE : Hid ((putZ z (vz m) M c).length + m ≤ 1000000) := Lib.hid (by omega)
  have HOFF := Lib.hid hoff
  have HLT := Lib.hid hlt
  clear hle hv hoff hlt
  have hm0 : (0 : Int) ≤ m := by omega
  have hm1 : (m : Int) < 18446744073709551616 := by omega
  go_enter Tryz.func163, Tryz.ntmps163
  go_wp2_with fail
  refine (vput_any _ h hm0 hm1 (by omega) hBw).mono ?_
  rintro e w1 ⟨r1, rfl, hk1, hg1, hw1⟩
  have hy1 := hy.ks hk1 (fun h0 a ha => HOFF.out h0 a ha)
  go_wp2_with fail
  refine (wput_any _ _ _ hw1 hy1 hA (off_gr HLT.out HOFF.out hg1) HLE.out (Nat.le_trans hBw hk1.size)).mono ?_
  rintro e w2 ⟨r2, rfl, hk2, hg2, hw2⟩
  go_wp2
  go_end0
  exact ⟨r2, rfl, Ks.wr hk1 hg1 hk2, hg1.trans hg2 hk1.size, hw2⟩
set_option maxHeartbeats 400000 in
theorem bsize_any (n : Int) (w : World) (h1 : n ≤ 4611686018427387904) :
    Calls Tryz.prog 197 #[.int .i64 n] w fun e w' => e = .returned (.int .i64 ((vsz (max n 0) : Int) + max n 0)) ∧ w = w' := by
  have hv := vsz_le (max n 0)
  have h0 : 0 ≤ max n 0 := by omega
  have h2 : max n 0 ≤ 4611686018427387904 := by omega
  go_enter Tryz.func197, Tryz.ntmps197
  go_wp2_with fail
  refine (vsize_any _ _ h0 (by omega)).mono ?_
  rintro e w1 ⟨rfl, rfl⟩
  go_wp2
  go_ret
  exact ⟨rfl, rfl⟩
set_option maxRecDepth 100000 in
set_option maxHeartbeats 800000 in
theorem rbbytes_any (A : Option Addr) (n m : Nat) (z : List Int) (w : World) (hz : Bs w A n z) (hA : A = none → m = 0) (hn : n ≤ 900000) :
    Calls Tryz.prog 130 #[.slice A n m] w (RowPost (vz n ++ z) w) := by
  have hn0 : (0 : Int) ≤ n := by omega
  have hn1 : (n : Int) < 18446744073709551616 := by omega
  have HZ := Lib.hid hz.1
  have HL := Lib.hid (vz_length (n : Int))
  have hv := vsz_le (n : Int)
  go_enter Tryz.func130, Tryz.ntmps130
  go_wp2_with fail
  refine (rbytes_any 10 _ _ (vsz_le _) hn0 hn1).mono ?_
  rintro e w1 ⟨A1, m1, rfl, hb1, _, _, _, ho1⟩
  have hz1 := hz.below hb1
  have hB := hb1.size
  clear hn0 hn1
  go_wp2_with (at_builtin; go_must (refine list_append_gr rfl (.tmp 6) (.tmp 7) rfl w.heap.size _ _ rfl ho1 _ _ _ _ rfl hz1 hA (by rw [HL.out]; omega) hB ?_; intro v' w2 ho' hg hgr; have hb2 := Own.belowOf hb1 hB ho1 hg; obtain ⟨A2, cap2, hv⟩ := ho'.slice; rw [List.length_append] at hv; subst hv))
  go_ret
  exact Own.rowPost (B := 0) ho' hb2
def litems (l : List Int) : List (List Int) := vz l.length :: l.map vz
def lz (l : List Int) : List Int := (litems l).flatten
def lzk (l : List Int) : Nat → List Int
  | 0 => vz l.length
  | k + 1 => lzk l k ++ vz (l.getD k 0)
theorem lzk_eq (l : List Int) : ∀ k, k ≤ l.length → lzk l k = vz l.length ++ ((l.take k).map vz).flatten
  | 0, _ => by simp [lzk]
  | k + 1, h => by
    rw [lzk, lzk_eq l k (by omega), List.take_succ_eq_append_getElem (by omega : k < l.length), List.map_append, List.flatten_append, List.append_assoc]
    congr 1
    simp [List.getD_eq_getElem?_getD, List.getElem?_eq_getElem (by omega : k < l.length)]
theorem lz_eq (l : List Int) : lz l = lzk l l.length := by
  rw [lzk_eq l _ (Nat.le_refl _), List.take_length]; rfl
theorem lzk_len (l : List Int) (k : Nat) : (lzk l k).length ≤ 10 * k + 10 := by
  induction k with
  | zero => rw [lzk, vz_length]; have := vsz_le (l.length : Int); omega
  | succ k ih => rw [lzk, List.length_append, vz_length]; have := vsz_le (l.getD k 0); omega
theorem litems_take (l : List Int) (k : Nat) (h : k < l.length) : vz l.length :: (l.take (k + 1)).map vz = (vz l.length :: (l.take k).map vz) ++ [vz (l.getD k 0)] := by
  rw [List.take_succ_eq_append_getElem h, List.map_append, List.cons_append]
  simp [List.getD_eq_getElem?_getD, List.getElem?_eq_getElem h]
theorem flatten_le (l : List Int) : ∀ k, k ≤ l.length → (vz l.length :: (l.take k).map vz).flatten.length ≤ 10 * k + 10 := by
  intro k hk
  have := lzk_len l k
  rw [lzk_eq l k hk] at this
  exact this
end Go.Proofs.YtmiimjgfainclaaGreat.Cur
namespace Go.Proofs.YtmiimjgfainclaaGreat.Cur
open Go.RowKit Mem
set_option linter.unusedVariables false
end Go.Proofs.YtmiimjgfainclaaGreat.Cur
namespace Go.Proofs.YtmiimjgfainclaaGreat.Cur
open Go.RowKit Mem
set_option linter.unusedVariables false
end Go.Proofs.YtmiimjgfainclaaGreat.Cur
namespace Go.Proofs.YtmiimjgfainclaaGreat.Cur
open Go.RowKit Mem
set_option linter.unusedVariables false
end Go.Proofs.YtmiimjgfainclaaGreat.Cur
namespace Go.Proofs.YtmiimjgfainclaaGreat.Cur
open Go.RowKit Mem
set_option linter.unusedVariables false
theorem bs_new (w : World) (z : List Int) (t : Nat) : Bs (w.alloc (.cells (z.map (Value.int .u8)).toArray t)) (some ⟨w.heap.size, 0, none⟩) z.length z := Bs.of_block (heap_alloc_new _ _)
theorem Wr.off_lt {w : World} {B b : Nat} {r : Option Nat} {z : List Int} {M c : Int} (h : Wr w B b r z M c) {g : Nat} (hg : g < B) : ¬ WS b r g := fun hs => by have := WS.ge h g hs; omega
theorem Wr.off {w : World} {B b : Nat} {r : Option Nat} {z : List Int} {M c : Int} (h : Wr w B b r z M c) {g : Nat} (hg : w.heap.size ≤ g) : ¬ WS b r g := by
  have h1 := h.lt
  obtain ⟨v, rfl, _, ho, _⟩ := h
  rintro (e | e)
  · omega
  · have := ho.lt g e; omega
end Go.Proofs.YtmiimjgfainclaaGreat.Cur

/- As the seat's text, without what nothing here names. -/
import Derived.Test.YtlealkfkddhnnaaGreatK5v
import Derived.Deep.LoopGhost
import Derived.Test.YtlealkfkddhnnaaGreatK3v
import Derived.Deep.Cut
namespace Go.Proofs.YtlealkfkddhnnaaGreat.Cur
open Go.RowKit Mem
set_option linter.unusedVariables false
def puts : List (List Int) → List Int → Int → Int → List Int × Int
  | [], z, _, c => (z, c)
  | y :: ys, z, M, c => puts ys (putZ z y M c) M (putC z y M c)
theorem puts_append (xs ys : List (List Int)) (z : List Int) (M c : Int) : puts (xs ++ ys) z M c = puts ys (puts xs z M c).1 M (puts xs z M c).2 := by
  induction xs generalizing z c with
  | nil => rfl
  | cons x xs ih => exact ih _ _
theorem puts_snoc (xs : List (List Int)) (y z : List Int) (M c : Int) : puts (xs ++ [y]) z M c = (putZ (puts xs z M c).1 y M (puts xs z M c).2, putC (puts xs z M c).1 y M (puts xs z M c).2) := by
  rw [puts_append]; rfl
theorem putZ_le (z y : List Int) (M c : Int) : (putZ z y M c).length ≤ z.length + y.length := by
  unfold putZ; split
  · rw [List.length_append]; exact Nat.le_refl _
  · omega
theorem puts_le (xs : List (List Int)) (z : List Int) (M c : Int) : (puts xs z M c).1.length ≤ z.length + xs.flatten.length := by
  induction xs generalizing z c with
  | nil => simp [puts]
  | cons x xs ih =>
    have h1 := ih (putZ z x M c) (putC z x M c)
    have h2 := putZ_le z x M c
    rw [List.flatten_cons, List.length_append]
    show (puts xs (putZ z x M c) M (putC z x M c)).1.length ≤ _
    omega
theorem putC_bad {z y : List Int} {M c : Int} (hc : c ≠ 0) : putZ z y M c = z ∧ putC z y M c = c := by
  unfold putZ putC fitsC
  rw [if_neg (fun h => hc h.1), if_neg (fun h => hc h.1)]
  exact ⟨rfl, rfl⟩
theorem puts_bad (xs : List (List Int)) {z : List Int} {M c : Int} (hc : c ≠ 0) : puts xs z M c = (z, c) := by
  induction xs with
  | nil => rfl
  | cons x xs ih =>
    obtain ⟨h1, h2⟩ := putC_bad (z := z) (y := x) (M := M) hc
    show puts xs (putZ z x M c) M (putC z x M c) = _
    rw [h1, h2, ih]
theorem puts_fits {xs : List (List Int)} {z : List Int} {M : Int} (h : (z.length : Int) + xs.flatten.length ≤ M) : puts xs z M 0 = (z ++ xs.flatten, 0) := by
  induction xs generalizing z with
  | nil => simp [puts]
  | cons x xs ih =>
    rw [List.flatten_cons, List.length_append] at h
    have h1 : putZ z x M 0 = z ++ x := by unfold putZ; rw [if_pos ⟨rfl, by omega⟩]
    have h2 : putC z x M 0 = 0 := by unfold putC fitsC; rw [if_neg (by omega)]
    show puts xs (putZ z x M 0) M (putC z x M 0) = _
    rw [h1, h2, ih (by rw [List.length_append]; omega), List.flatten_cons, List.append_assoc]
def WPutsPost (B b : Nat) (r : Option Nat) (z : List Int) (xs : List (List Int)) (M c : Int) (w : World) (e : Ending) (w' : World) : Prop :=
  ∃ r', e = .returned (.tuple #[]) ∧ Ks (WS b r) w w' ∧ Gr r r' w ∧ Wr w' B b r' (puts xs z M c).1 M (puts xs z M c).2
theorem off_gr {w : World} {b : Nat} {r r' : Option Nat} {n : Nat} {A : Option Addr} (hlt : 0 < n → ∀ a, A = some a → a.block < w.heap.size) (hoff : 0 < n → ∀ a, A = some a → ¬ WS b r a.block) (hg : Gr r r' w) : 0 < n → ∀ a, A = some a → ¬ WS b r' a.block := by
  intro h0 a ha
  have h1 := hlt h0 a ha
  have h2 := hoff h0 a ha
  rintro (e | e)
  · exact h2 (.inl e)
  · rcases hg with rfl | ⟨g, rfl, hg⟩
    · exact h2 (.inr e)
    · injection e with e; omega
end Go.Proofs.YtlealkfkddhnnaaGreat.Cur
namespace Go.Proofs.YtlealkfkddhnnaaGreat.Cur
open Go.RowKit Mem
set_option linter.unusedVariables false
set_option maxHeartbeats 400000 in
theorem bput_any {w : World} {B b : Nat} {r : Option Nat} {z y : List Int} {M c : Int} (A : Option Addr) (m cap : Nat) (h : Wr w B b r z M c) (hy : Bs w A m y) (hA : A = none → cap = 0) (hoff : 0 < m → ∀ a, A = some a → ¬ WS b r a.block)
    (hsz : z.length + m ≤ 800000) (hBw : B ≤ w.heap.size) :
    Calls Tryz.prog 71 #[.pointer (some ⟨b, 0, none⟩), .slice A m cap] w (WPutsPost B b r z [vz m, y] M c w) := by
  have hlt : 0 < m → ∀ a, A = some a → a.block < w.heap.size := fun h0 => hy.lt h0
  have hle := putZ_le z (vz m) M c
  rw [vz_length] at hle
  have hv := vsz_le (m : Int)
  have HLE : Hid ((putZ z (vz m) M c).length + m ≤ 1000000) := Lib.hid (by omega)
  have HOFF := Lib.hid hoff
  have HLT := Lib.hid hlt
  clear hle hv hoff hlt
  have hm0 : (0 : Int) ≤ m := by omega
  have hm1 : (m : Int) < 18446744073709551616 := by omega
  go_enter Tryz.func71, Tryz.ntmps71
  go_wp2_with fail
  refine (vput_any _ h hm0 hm1 (by omega) hBw).mono ?_
  rintro e w1 ⟨r1, rfl, hk1, hg1, hw1⟩
  have hy1 := hy.ks hk1 (fun h0 a ha => HOFF.out h0 a ha)
  go_wp2_with fail
  refine (wput_any _ _ _ hw1 hy1 hA (off_gr HLT.out HOFF.out hg1) HLE.out (Nat.le_trans hBw hk1.size)).mono ?_
  rintro e w2 ⟨r2, rfl, hk2, hg2, hw2⟩
  go_wp2
  go_end0
  exact ⟨r2, rfl, Ks.wr hk1 hg1 hk2, hg1.trans hg2 hk1.size, hw2⟩
set_option maxHeartbeats 400000 in
theorem bsize_any (n : Int) (w : World) (h1 : n ≤ 4611686018427387904) :
    Calls Tryz.prog 111 #[.int .i64 n] w fun e w' => e = .returned (.int .i64 ((vsz (max n 0) : Int) + max n 0)) ∧ w = w' := by
  have hv := vsz_le (max n 0)
  have h0 : 0 ≤ max n 0 := by omega
  have h2 : max n 0 ≤ 4611686018427387904 := by omega
  go_enter Tryz.func111, Tryz.ntmps111
  go_wp2_with fail
  refine (vsize_any _ _ h0 (by omega)).mono ?_
  rintro e w1 ⟨rfl, rfl⟩
  go_wp2
  go_ret
  exact ⟨rfl, rfl⟩
set_option maxRecDepth 100000 in
set_option maxHeartbeats 800000 in
theorem rbbytes_any (A : Option Addr) (n m : Nat) (z : List Int) (w : World) (hz : Bs w A n z) (hA : A = none → m = 0) (hn : n ≤ 900000) :
    Calls Tryz.prog 83 #[.slice A n m] w (RowPost (vz n ++ z) w) := by
  have hn0 : (0 : Int) ≤ n := by omega
  have hn1 : (n : Int) < 18446744073709551616 := by omega
  have HZ := Lib.hid hz.1
  have HL := Lib.hid (vz_length (n : Int))
  have hv := vsz_le (n : Int)
  go_enter Tryz.func83, Tryz.ntmps83
  go_wp2_with fail
  refine (rbytes_any 10 _ _ (vsz_le _) hn0 hn1).mono ?_
  rintro e w1 ⟨A1, m1, rfl, hb1, _, _, _, ho1⟩
  have hz1 := hz.below hb1
  have hB := hb1.size
  clear hn0 hn1
  go_wp2_with (at_builtin; go_must (refine list_append_gr rfl (.tmp 6) (.tmp 7) rfl w.heap.size _ _ rfl ho1 _ _ _ _ rfl hz1 hA (by rw [HL.out]; omega) hB ?_; intro v' w2 ho' hg hgr; have hb2 := Own.belowOf hb1 hB ho1 hg; obtain ⟨A2, cap2, hv⟩ := ho'.slice; rw [List.length_append] at hv; subst hv))
  go_ret
  exact Own.rowPost (B := 0) ho' hb2
def litems (l : List Int) : List (List Int) := vz l.length :: l.map vz
def lz (l : List Int) : List Int := (litems l).flatten
def lzk (l : List Int) : Nat → List Int
  | 0 => vz l.length
  | k + 1 => lzk l k ++ vz (l.getD k 0)
theorem lzk_eq (l : List Int) : ∀ k, k ≤ l.length → lzk l k = vz l.length ++ ((l.take k).map vz).flatten
  | 0, _ => by simp [lzk]
  | k + 1, h => by
    rw [lzk, lzk_eq l k (by omega), List.take_succ_eq_append_getElem (by omega : k < l.length), List.map_append, List.flatten_append, List.append_assoc]
    congr 1
    simp [List.getD_eq_getElem?_getD, List.getElem?_eq_getElem (by omega : k < l.length)]
theorem lzk_len (l : List Int) (k : Nat) : (lzk l k).length ≤ 10 * k + 10 := by
  induction k with
  | zero => rw [lzk, vz_length]; have := vsz_le (l.length : Int); omega
  | succ k ih => rw [lzk, List.length_append, vz_length]; have := vsz_le (l.getD k 0); omega
theorem litems_take (l : List Int) (k : Nat) (h : k < l.length) : vz l.length :: (l.take (k + 1)).map vz = (vz l.length :: (l.take k).map vz) ++ [vz (l.getD k 0)] := by
  rw [List.take_succ_eq_append_getElem h, List.map_append, List.cons_append]
  simp [List.getD_eq_getElem?_getD, List.getElem?_eq_getElem h]
theorem flatten_le (l : List Int) : ∀ k, k ≤ l.length → (vz l.length :: (l.take k).map vz).flatten.length ≤ 10 * k + 10 := by
  intro k hk
  have := lzk_len l k
  rw [lzk_eq l k hk] at this
  exact this
end Go.Proofs.YtlealkfkddhnnaaGreat.Cur
namespace Go.Proofs.YtlealkfkddhnnaaGreat.Cur
open Go.RowKit Mem
set_option linter.unusedVariables false
def bl (z : List Int) (mo p : Int) : Rs (List Int) := (vm z mo p).bind [] fun x p1 => tk z x p1
def BRPost (b : Nat) (s : Value) (n : Nat) (g : Rs (List Int)) (p c q : Int) (w : World) (e : Ending) (w' : World) : Prop :=
  ∃ v l p' c' q', e = .returned v ∧ Own w' w.heap.size v l ∧ Kp b w w' ∧ IsRd w' b s p' c' q' ∧ St [] n g p c q l p' c' q'
theorem take_st (b : Nat) (a : Option Addr) (n m : Nat) (z : List Int) (p c q x : Int) (w : World) (h : IsRd w b (.slice a n m) p c q) (hz : Bs w a n z) (h0 : 0 ≤ p) (h1 : p ≤ n) (hm : n ≤ m) (hn : n ≤ 1000000) :
    Calls Tryz.prog 153 #[.pointer (some ⟨b, 0, none⟩), .int .i64 x] w (BRPost b (.slice a n m) n (tk z x p) p c q w) := by
  refine (take_any b a n m z p c q x w h hz h0 h1 hm hn).mono ?_
  rintro e w' ⟨ok, p', c', q', hk, hr, hs, h⟩
  have hst := hs.st hz.1 h0 h1
  rcases h with ⟨rfl, g, rfl, hg, hblk⟩ | ⟨rfl, rfl⟩
  · have hx : 0 ≤ x ∧ x ≤ n - p := by
      rcases hs with ⟨_, h, _⟩ | ⟨_, _, h, _⟩ | ⟨_, _, h, _⟩ | ⟨_, a2, a3, _⟩
      · cases h
      · cases h
      · cases h
      · exact ⟨a2, a3⟩
    have hl : (piece z p.toNat (p + x).toNat).length = x.toNat := by rw [length_piece hz.1 (by omega)]; omega
    have ho := own_of_row hblk hg (by rw [hl]; omega)
    rw [hl] at ho
    exact ⟨_, _, _, _, _, rfl, ho, hk, hr, hst⟩
  · exact ⟨_, _, _, _, _, rfl, Own.nil _ _, hk, hr, hst⟩
set_option maxHeartbeats 400000 in
theorem bread_any (b : Nat) (a : Option Addr) (n m : Nat) (z : List Int) (p c q mo : Int) (w : World) (h : IsRd w b (.slice a n m) p c q) (hz : Bs w a n z) (h0 : 0 ≤ p) (h1 : p ≤ n) (hm : n ≤ m) (hn : n ≤ 1000000) (hby : ∀ x ∈ z, 0 ≤ x ∧ x < 256) (hmo : mo ≤ 9223372036854775807) :
    Calls Tryz.prog 154 #[.pointer (some ⟨b, 0, none⟩), .int .i64 mo] w (BRPost b (.slice a n m) n (bl z mo p) p c q w) := by
  go_enter Tryz.func154, Tryz.ntmps154
  go_wp2_with fail
  refine (vint_any _ _ _ _ _ _ _ _ _ _ h hz h0 h1 hn hby hmo).mono ?_
  rintro e w1 ⟨x, p1, c1, q1, rfl, hk1, hr1, hs1⟩
  have hst := hs1.st hz.1 h0 h1 hby
  have hz1 := hz.kp h (by simp) hk1
  obtain ⟨p10, p11⟩ := hst.place
  have HS := Lib.hid hst
  clear hs1 hst
  go_wp2_with fail
  refine (take_st _ _ _ _ _ _ _ _ _ _ hr1 hz1 p10 p11 hm hn).mono ?_
  rintro e w2 ⟨v, l, p2, c2, q2, rfl, ho, hk2, hr2, hs2⟩
  have HS2 := Lib.hid (HS.out.bind (f := fun x p1 => tk z x p1) hs2)
  have ho2 : Own w2 w.heap.size v l := Own.base ho fun g hg => Nat.le_trans hk1.size (ho.ge g hg)
  clear hs2 ho
  go_wp2
  go_ret
  exact ⟨v, l, p2, c2, q2, rfl, ho2, hk1.trans hk2, hr2, HS2.out⟩
def BLPost (b : Nat) (s : Value) (n : Nat) (g : Rs (List Int)) (p c q : Int) (w : World) (e : Ending) (w' : World) : Prop :=
  ∃ v l p' c' q', e = .returned v ∧ OwnU w' w.heap.size v l ∧ Kp b w w' ∧ IsRd w' b s p' c' q' ∧ St [] n g p c q l p' c' q' ∧ ∀ x ∈ l, 0 ≤ x ∧ x < 18446744073709551616
theorem vg_shape {z : List Int} {p : Int} (h : (vg z p).2.2.1 = 0) : vg z p = ((vg z p).1, (vg z p).2.1, 0, 0) := by
  have e : (vg z p).2.2.2 = 0 := by
    exact if_pos h
  exact Prod.ext rfl (Prod.ext rfl (Prod.ext h e))
theorem vm_shape {z : List Int} {mo p : Int} (h : (vm z mo p).2.2.1 = 0) : vm z mo p = ((vm z mo p).1, (vm z mo p).2.1, 0, 0) := by
  obtain ⟨h1, _, h3⟩ := vm_ok h
  rw [h3]
  exact vg_shape h1
end Go.Proofs.YtlealkfkddhnnaaGreat.Cur
namespace Go.Proofs.YtlealkfkddhnnaaGreat.Cur
open Go.RowKit Mem
set_option linter.unusedVariables false
end Go.Proofs.YtlealkfkddhnnaaGreat.Cur
namespace Go.Proofs.YtlealkfkddhnnaaGreat.Cur
open Go.RowKit Mem
set_option linter.unusedVariables false
theorem bl_once {z : List Int} {mo p : Int} (hby : ∀ x ∈ z, 0 ≤ x ∧ x < 256) (h0 : 0 ≤ p) (h1 : p ≤ z.length) (h : (bl z mo p).2.2.1 = 0) :
    vz (bl z mo p).1.length ++ (bl z mo p).1 = piece z p.toNat (bl z mo p).2.1.toNat ∧ ((bl z mo p).1.length : Int) ≤ mo ∧ p ≤ (bl z mo p).2.1 ∧ (bl z mo p).2.1 ≤ z.length := by
  unfold bl at h ⊢
  obtain ⟨g0, e⟩ := Rs.bind_ok h
  rw [e] at h ⊢
  obtain ⟨v0, v1, v2⟩ := vm_ok g0
  rw [v2] at h ⊢
  obtain ⟨a1, a2, a3, a4, a5⟩ := vg_once hby h0 h1 v0
  obtain ⟨t1, t2, t3⟩ := tk_once (by omega) a5 h
  rw [t3]
  show vz (piece z (vg z p).2.1.toNat ((vg z p).2.1 + (vg z p).1).toNat).length ++ piece z (vg z p).2.1.toNat ((vg z p).2.1 + (vg z p).1).toNat = piece z p.toNat ((vg z p).2.1 + (vg z p).1).toNat ∧ ((piece z (vg z p).2.1.toNat ((vg z p).2.1 + (vg z p).1).toNat).length : Int) ≤ mo ∧ p ≤ (vg z p).2.1 + (vg z p).1 ∧ (vg z p).2.1 + (vg z p).1 ≤ z.length
  rw [length_piece (n := z.length) rfl (by omega), show (((vg z p).2.1 + (vg z p).1).toNat - (vg z p).2.1.toNat : Nat) = (vg z p).1.toNat by omega, show (((vg z p).1.toNat : Nat) : Int) = (vg z p).1 by omega, a1]
  exact ⟨piece_append (by omega) (by omega) (by omega), v1, by omega, by omega⟩
end Go.Proofs.YtlealkfkddhnnaaGreat.Cur
namespace Go.Proofs.YtlealkfkddhnnaaGreat.Cur
open Go.RowKit Mem
set_option linter.unusedVariables false
theorem bs_new (w : World) (z : List Int) (t : Nat) : Bs (w.alloc (.cells (z.map (Value.int .u8)).toArray t)) (some ⟨w.heap.size, 0, none⟩) z.length z := Bs.of_block (heap_alloc_new _ _)
theorem Wr.off_lt {w : World} {B b : Nat} {r : Option Nat} {z : List Int} {M c : Int} (h : Wr w B b r z M c) {g : Nat} (hg : g < B) : ¬ WS b r g := fun hs => by have := WS.ge h g hs; omega
theorem Wr.off {w : World} {B b : Nat} {r : Option Nat} {z : List Int} {M c : Int} (h : Wr w B b r z M c) {g : Nat} (hg : w.heap.size ≤ g) : ¬ WS b r g := by
  have h1 := h.lt
  obtain ⟨v, rfl, _, ho, _⟩ := h
  rintro (e | e)
  · omega
  · have := ho.lt g e; omega
def RRLPost (s : Value) (n : Nat) (g : Rs (List Int)) (p c q : Int) (w : World) (e : Ending) (w' : World) : Prop :=
  ∃ v l p' c' q', e = .returned (.tuple #[cv s p' c' q', v]) ∧ OwnU w' w.heap.size v l ∧ Below w.heap.size w w' ∧ St [] n g p c q l p' c' q' ∧ ∀ x ∈ l, 0 ≤ x ∧ x < 18446744073709551616
end Go.Proofs.YtlealkfkddhnnaaGreat.Cur

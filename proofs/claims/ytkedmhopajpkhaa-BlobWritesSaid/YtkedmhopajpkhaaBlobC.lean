/- Blobs and lists: a fixed number read; the document's readers. -/
import Derived.Test.YtkedmhopajpkhaaBlobB
import Derived.Test.YtkedmhopajpkhaaZigH
namespace Go.Proofs.Ytkedmhopajpkhaa.Cur
open Go.RowKit Mem
set_option linter.unusedVariables false

theorem pow256_pos (s : Nat) : (0 : Int) < 256 ^ s := Int.pow_pos (by omega)
theorem lev_bd : ∀ (l : List Int), (∀ x ∈ l, 0 ≤ x ∧ x < 256) → 0 ≤ lev l ∧ lev l < 256 ^ l.length
  | [], _ => by simp [lev]
  | b :: l, h => by
    obtain ⟨h1, h2⟩ := lev_bd l fun x hx => h x (List.mem_cons_of_mem _ hx)
    obtain ⟨h3, h4⟩ := h b (List.mem_cons_self ..)
    rw [List.length_cons, Int.pow_succ]
    unfold lev
    omega
theorem lev_snoc (l : List Int) (b : Int) : lev (l ++ [b]) = lev l + b * 256 ^ l.length := by
  induction l with
  | nil => simp [lev]
  | cons x l ih =>
    rw [List.cons_append, lev, ih, lev, List.length_cons, Int.pow_succ, Int.mul_add, ← Int.add_assoc]
    congr 1
    rw [← Int.mul_assoc, Int.mul_comm 256 b, Int.mul_assoc, Int.mul_comm 256]
theorem lev_take_succ {l : List Int} {k : Nat} (h : k < l.length) : lev (l.take (k + 1)) = lev (l.take k) + l.getD k 0 * 256 ^ k := by
  rw [List.take_succ_eq_append_getElem h, lev_snoc, List.length_take, Nat.min_eq_left (by omega), List.getD_eq_getElem?_getD, List.getElem?_eq_getElem h]
  rfl
theorem lev_drop {l : List Int} {k : Nat} (h : k < l.length) : lev (l.drop k) = l.getD k 0 + 256 * lev (l.drop (k + 1)) := by
  rw [List.drop_eq_getElem_cons h, lev, List.getD_eq_getElem?_getD, List.getElem?_eq_getElem h]
  rfl
theorem lev_take_bd {l : List Int} {k : Nat} (hb : ∀ x ∈ l, 0 ≤ x ∧ x < 256) (h : k ≤ l.length) : 0 ≤ lev (l.take k) ∧ lev (l.take k) < 256 ^ k := by
  have := lev_bd (l.take k) fun x hx => hb x (List.mem_of_mem_take hx)
  rwa [List.length_take, Nat.min_eq_left h] at this
theorem pow256_mono {a b : Nat} (h : a ≤ b) : (256 : Int) ^ a ≤ 256 ^ b := by
  obtain ⟨c, rfl⟩ := Nat.exists_eq_add_of_le h
  rw [Int.pow_add]
  have h1 := pow256_pos a
  have h2 := pow256_pos c
  have : (256 : Int) ^ a * 1 ≤ 256 ^ a * 256 ^ c := Int.mul_le_mul_of_nonneg_left (by omega) (by omega)
  omega
theorem pow256_8 : (256 : Int) ^ 8 = 18446744073709551616 := by decide
theorem lev_lt {l : List Int} (hb : ∀ x ∈ l, 0 ≤ x ∧ x < 256) (h : l.length ≤ 8) : 0 ≤ lev l ∧ lev l < 18446744073709551616 := by
  have h1 := lev_bd l hb
  have h2 := pow256_mono h
  rw [pow256_8] at h2
  omega
theorem pow8' (i : Nat) : (2 : Int) ^ (8 * i) = 256 ^ i := by rw [Int.pow_mul]; rfl
def orf (k : Nat) (X b : Int) : Int := bits BinOp.or IntKind.u64 X (IntKind.u64.wrap (b * 2 ^ (8 * k)))
theorem orf_eq (k : Nat) (X b : Int) (hk : k ≤ 7) (X0 : 0 ≤ X) (X1 : X < 256 ^ k) (b0 : 0 ≤ b) (b1 : b < 256) : orf k X b = X + b * 256 ^ k := by
  have hm : b * 256 ^ k ≤ 255 * 256 ^ 7 ∧ 0 ≤ b * 256 ^ k := by
    have hp := pow256_pos k
    have h7 := pow256_mono hk
    exact ⟨Int.mul_le_mul (by omega) h7 (by omega) (by omega), Int.mul_nonneg (by omega) (by omega)⟩
  have h7 : (255 : Int) * 256 ^ 7 < 18446744073709551616 := by decide
  have hX : X < 18446744073709551616 := Int.lt_of_lt_of_le X1 (Int.le_trans (pow256_mono (show k ≤ 8 by omega)) (by decide))
  unfold orf
  rw [pow8', wrap_u64 _ hm.2 (by omega)]
  obtain ⟨x, rfl⟩ := Int.eq_ofNat_of_zero_le X0
  obtain ⟨y, rfl⟩ := Int.eq_ofNat_of_zero_le b0
  have e : (y : Int) * 256 ^ k = ((2 ^ (8 * k) * y : Nat) : Int) := by rw [Int.mul_comm]; push_cast; rw [pow8']
  rw [e] at hm ⊢
  rw [u64_or_nat _ _ (by omega) (by omega), Nat.or_comm, ← Nat.two_pow_add_eq_or_of_lt]
  · push_cast; omega
  · have : ((x : Nat) : Int) < ((2 ^ (8 * k) : Nat) : Int) := by push_cast; rw [pow8']; exact X1
    exact_mod_cast this

theorem tk_len {n : Nat} {z : List Int} {x p c q : Int} {l : List Int} {p' c' q' : Int} (h : St [] n (tk z x p) p c q l p' c' q') (hz : z.length = n) (h0 : 0 ≤ p) (h1 : p ≤ n) (hx : 0 ≤ x) : (l.length : Int) ≤ x ∧ ∀ b ∈ l, b ∈ z := by
  obtain ⟨_, _, ⟨_, rfl, _⟩ | ⟨_, g0, rfl, _⟩ | ⟨_, _, rfl, _⟩⟩ := h
  · simp [hx]
  · obtain ⟨t1, t2, t3⟩ := tk_once h0 (by rw [hz]; exact h1) g0
    rw [t3]
    refine ⟨?_, fun b hb => ?_⟩
    · show ((piece z p.toNat (p + x).toNat).length : Int) ≤ x
      rw [length_piece hz (by rw [hz] at t2; omega)]; omega
    · exact List.mem_of_mem_drop (List.mem_of_mem_take hb)
  · simp [hx]

def FxPost (b : Nat) (s : Value) (n : Nat) (g : Rs Int) (p c q : Int) (w : World) (e : Ending) (w' : World) : Prop :=
  ∃ v p' c' q', e = .returned (.int .u64 v) ∧ Kp b w w' ∧ IsRd w' b s p' c' q' ∧ St 0 n g p c q v p' c' q' ∧ 0 ≤ v ∧ v < 18446744073709551616

set_option maxRecDepth 100000 in
set_option maxHeartbeats 1000000 in
theorem bfixed_any (b : Nat) (a : Option Addr) (n m : Nat) (z : List Int) (p c q nn : Int) (w : World) (h : IsRd w b (.slice a n m) p c q) (hz : Bs w a n z) (h0 : 0 ≤ p) (h1 : p ≤ n) (hm : n ≤ m) (hn : n ≤ 1000000) (hby : ∀ x ∈ z, 0 ≤ x ∧ x < 256) :
    Calls Try.prog 24 #[.pointer (some ⟨b, 0, none⟩), .int .i64 nn] w (FxPost b (.slice a n m) n (fx z (min (max nn 0) 8) p) p c q w) := by
  have HBY := Lib.hid hby
  have HKK : Hid (0 ≤ min (max nn 0) 8 ∧ min (max nn 0) 8 ≤ 8) := Lib.hid (by omega)
  clear hby
  go_enter Try.func24, Try.ntmps24
  go_wp2_with fail
  refine (take_st _ _ _ _ _ _ _ _ _ _ h hz h0 h1 hm hn).mono ?_
  rintro e w1 ⟨v, l, p', c', q', rfl, ho, hk1, hr1, hs1⟩
  have hl := tk_len hs1 hz.1 h0 h1 HKK.out.1
  have HS := Lib.hid hs1
  have hl8 : l.length ≤ 8 := by have := HKK.out.2; omega
  have HLB : Hid (∀ x ∈ l, 0 ≤ x ∧ x < 256) := Lib.hid fun x hx => HBY.out x (hl.2 x hx)
  have hk1s := hk1.size
  obtain ⟨A1, cc1, rfl⟩ := ho.slice
  obtain ⟨_, hbs⟩ := ho.bs
  have hkb := hk1
  clear hs1 hl hk1
  go_wp2
  go_loopw [5, 14] (fun x i wr => ∃ k : Nat, k ≤ l.length ∧ i = .int .i64 k ∧ x = .int .u64 (lev (l.take k)) ∧ Below w1.heap.size w1 wr) (fun _ i _ => 8 - (intOf i).toNat)
  case atStart => exact ⟨0, by omega, rfl, rfl, Below.refl _ _⟩
  case round =>
    obtain ⟨k, hk, rfl, rfl, hb⟩ := hrel
    by_cases hlt : k < l.length
    · obtain ⟨g, o, rfl, hc⟩ := (hbs.below hb).at_ hlt
      have hx := HLB.out _ (getD_mem (z := l) (k := k) hlt)
      obtain ⟨X0, X1⟩ := lev_take_bd HLB.out (k := k) (by omega)
      have HT := Lib.hid (lev_take_succ hlt)
      have HO := Lib.hid (orf_eq k (lev (l.take k)) (l.getD k 0) (by omega) X0 X1 hx.1 hx.2)
      have hX2 : lev (l.take k) < 18446744073709551616 := by
        have := pow256_mono (show k ≤ 8 by omega)
        rw [pow256_8] at this
        omega
      clear X1
      generalize lev (l.take k) = X at *
      generalize l.getD k 0 = bb at *
      have e8 : (8 * (k : Int)).toNat = 8 * k := by omega
      have e9 : 0 ≤ 8 * (k : Int) := by omega
      have e10 : 8 * (k : Int) ≤ 64 := by omega
      go_wp2
      go_roundw
      case rel => exact ⟨k + 1, hlt, by go_num, by rw [HT.out, ← HO.out]; unfold orf; rfl, hb⟩
      case measure => simp [intOf]; omega
    · obtain rfl : k = l.length := by omega
      rw [List.take_length]
      have hlv := lev_lt HLB.out hl8
      have HLV := Lib.hid hlv
      clear hlv
      go_wp2
      go_ret
      exact ⟨lev l, p', c', q', rfl, hkb.trans (Kp.of_below hb), hr1.below hb, HS.out.map lev, HLV.out.1, HLV.out.2⟩

/-- What the document's readers of bytes hand back. -/
def RBRPost (s : Value) (n : Nat) (g : Rs (List Int)) (p c q : Int) (w : World) (e : Ending) (w' : World) : Prop :=
  ∃ A k m l p' c' q', e = .returned (.tuple #[cv s p' c' q', .slice A k m]) ∧ Below w.heap.size w w' ∧ St [] n g p c q l p' c' q' ∧ Bs w' A k l ∧ k ≤ m
theorem rtake_st (a : Option Addr) (n m : Nat) (z : List Int) (p c q x : Int) (w : World) (hz : Bs w a n z) (ha : a = none → m = 0) (h0 : 0 ≤ p) (h1 : p ≤ n) (hm : n ≤ m) (hn : n ≤ 1000000) :
    Calls Try.prog 36 #[cv (.slice a n m) p c q, .int .i64 x] w (RBRPost (.slice a n m) n (tk z x p) p c q w) := by
  refine (rtake_any a n m z p c q x w hz ha h0 h1 hm hn).mono ?_
  rintro e w' ⟨ok, p', c', q', A, k, m', rfl, hb, hs, hbs, hk⟩
  exact ⟨A, k, m', _, p', c', q', rfl, hb, hs.st hz.1 h0 h1, hbs, hk⟩

set_option maxRecDepth 100000 in
set_option maxHeartbeats 1000000 in
theorem rbread_any (a : Option Addr) (n m : Nat) (z : List Int) (p c q mo : Int) (w : World) (hz : Bs w a n z) (ha : a = none → m = 0) (h0 : 0 ≤ p) (h1 : p ≤ n) (hm : n ≤ m) (hn : n ≤ 1000000) (hby : ∀ x ∈ z, 0 ≤ x ∧ x < 256) (hmo : mo ≤ 9223372036854775807) :
    Calls Try.prog 18 #[cv (.slice a n m) p c q, .int .i64 mo] w (RBRPost (.slice a n m) n (bl z mo p) p c q w) := by
  have HBY := Lib.hid hby
  clear hby
  go_enter Try.func18, Try.ntmps18
  go_wp2_with fail
  refine (rint_any _ _ _ _ _ _ _ _ _ (hz.below (below_two _ _ _)) h0 h1 hm hn HBY.out hmo).mono ?_
  rintro e w1 ⟨x, p1, c1, q1, rfl, hb1, hs1⟩
  obtain ⟨hC, hR, hbd⟩ := two_new hb1
  have hst := hs1.st hz.1 h0 h1 HBY.out
  obtain ⟨p10, p11⟩ := hst.place
  have HS := Lib.hid hst
  have hbd2 := hbd.alloc hbd.size (.cells (cvs (.slice a n m) p1 c1 q1) 43)
  have hR2 := hR.alloc (.cells (cvs (.slice a n m) p1 c1 q1) 43)
  clear hs1 hst hb1 hC hR hbd
  go_wp2_with fail
  refine (rtake_st _ _ _ _ _ _ _ _ _ (hz.below hbd2) ha p10 p11 hm hn).mono ?_
  rintro e w2 ⟨A2, k2, m2, l, p2, c2, q2, rfl, hb2, hs2, hbs2, hkm⟩
  have HS2 := Lib.hid (HS.out.bind (f := fun x p1 => tk z x p1) hs2)
  have hR3 := hR2.below hb2
  have hbd3 := hbd2.trans (hb2.mono hbd2.size)
  obtain ⟨r0, r1, r2, r3⟩ := hR3.c4
  obtain ⟨g0, g1, g2, g3⟩ := hR3.f4
  have hbs3 : Bs ((((w2.setCell ⟨w.heap.size + 1, 0, none⟩ (.slice a n m)).setCell ⟨w.heap.size + 1, 1, none⟩ (.int .i64 p2)).setCell ⟨w.heap.size + 1, 2, none⟩ (.int .i64 c2)).setCell ⟨w.heap.size + 1, 3, none⟩ (.int .i64 q2)) A2 k2 l := by
    obtain ⟨_, hkp⟩ := set4 hR3 (.slice a n m) (.int .i64 p2) (.int .i64 c2) (.int .i64 q2)
    exact hbs2.kp4 hR3 (by intro x; simp) (by intro x; simp) (by intro x; simp) (by intro x; simp) hkp
  clear hs2 hb2 hbd2 hR2
  go_wp2
  refine bodyPost_ret (v := .tuple #[cv (.slice a n m) p2 c2 q2, .slice A2 k2 m2]) (by simp [results, Try.results18, go_sem, r0, r1, r2, r3]) rfl ⟨A2, k2, m2, l, p2, c2, q2, rfl, ?_, HS2.out, hbs3, hkm⟩
  exact set4_below hbd3 (by omega) _ _ _ _

/-- What the document's readers of a fixed number hand back. -/
def RFxPost (s : Value) (n : Nat) (g : Rs Int) (p c q : Int) (w : World) (e : Ending) (w' : World) : Prop :=
  ∃ v p' c' q', e = .returned (.tuple #[cv s p' c' q', .int .u64 v]) ∧ Below w.heap.size w w' ∧ St 0 n g p c q v p' c' q'

set_option maxRecDepth 100000 in
set_option maxHeartbeats 1000000 in
theorem rfixed_any (a : Option Addr) (n m : Nat) (z : List Int) (p c q nn : Int) (w : World) (hz : Bs w a n z) (ha : a = none → m = 0) (h0 : 0 ≤ p) (h1 : p ≤ n) (hm : n ≤ m) (hn : n ≤ 1000000) (hby : ∀ x ∈ z, 0 ≤ x ∧ x < 256) :
    Calls Try.prog 20 #[cv (.slice a n m) p c q, .int .i64 nn] w (RFxPost (.slice a n m) n (fx z (min (max nn 0) 8) p) p c q w) := by
  have HBY := Lib.hid hby
  have HKK : Hid (0 ≤ min (max nn 0) 8 ∧ min (max nn 0) 8 ≤ 8) := Lib.hid (by omega)
  clear hby
  go_enter Try.func20, Try.ntmps20
  go_wp2_with fail
  refine (rtake_st _ _ _ _ _ _ _ _ _ (hz.below (below_two _ _ _)) ha h0 h1 hm hn).mono ?_
  rintro e w1 ⟨A1, k1, m1, l, p1, c1, q1, rfl, hb1, hs1, hbs1, hkm⟩
  obtain ⟨hC, hR, hbd⟩ := two_new hb1
  have hl := tk_len hs1 hz.1 h0 h1 HKK.out.1
  have HS := Lib.hid hs1
  have hl8 : l.length ≤ 8 := by have := HKK.out.2; omega
  have HLB : Hid (∀ x ∈ l, 0 ≤ x ∧ x < 256) := Lib.hid fun x hx => HBY.out x (hl.2 x hx)
  obtain rfl := hbs1.1
  have hbd2 := hbd.alloc hbd.size (.cells (cvs (.slice a n m) p1 c1 q1) 43)
  have hR2 := hR.alloc (.cells (cvs (.slice a n m) p1 c1 q1) 43)
  have hD2 := Blk.new w1 (cvs (.slice a n m) p1 c1 q1) 43
  have hbs2 := hbs1.alloc (.cells (cvs (.slice a n m) p1 c1 q1) 43)
  have hlt1 : w.heap.size + 1 < w1.heap.size := hR.lt
  clear hb1 hC hR hbd hbs1 hs1 hl
  go_wp2
  generalize w1.alloc (.cells (cvs (.slice a n m) p1 c1 q1) 43) = w2 at *
  generalize w1.heap.size = db at *
  go_loopw [8, 9] (fun x i wr => ∃ k : Nat, k ≤ l.length ∧ i = .int .i64 ((k : Int) - 1) ∧ x = .int .u64 (lev (l.drop k)) ∧ Below w2.heap.size w2 wr) (fun _ i _ => (intOf i + 1).toNat)
  case atStart => exact ⟨l.length, by omega, rfl, by rw [List.drop_length]; rfl, Below.refl _ _⟩
  case round =>
    obtain ⟨k, hk, rfl, rfl, hb⟩ := hrel
    rcases k with _ | j
    · have hlv := lev_lt HLB.out hl8
      have HLV := Lib.hid hlv
      have hD3 := hD2.below hb
      have hR3 := hR2.below hb
      have hbd3 := hbd2.trans (hb.mono hbd2.size)
      obtain ⟨d0, d1, d2, d3⟩ := hD3.c4
      obtain ⟨r0, r1, r2, r3⟩ := hR3.c4
      obtain ⟨g0, g1, g2, g3⟩ := hR3.f4
      rw [List.drop_zero, show ((0 : Nat) : Int) - 1 = -1 by omega]
      clear hlv
      go_wp2
      refine bodyPost_ret (v := .tuple #[cv (.slice a n m) p1 c1 q1, .int .u64 (lev l)]) (by simp [results, Try.results20, go_sem, r0, r1, r2, r3]) rfl ⟨lev l, p1, c1, q1, rfl, ?_, HS.out.map lev⟩
      exact set4_below hbd3 (by omega) _ _ _ _
    · have hlt : j < l.length := by omega
      obtain ⟨g, o, rfl, hc⟩ := (hbs2.below hb).at_ hlt
      have hx := HLB.out _ (getD_mem (z := l) (k := j) hlt)
      have hdr := lev_bd (l.drop (j + 1)) fun x hx => HLB.out x (List.mem_of_mem_drop hx)
      have HT := Lib.hid (lev_drop hlt)
      have hX2 : lev (l.drop (j + 1)) < 72057594037927936 := by
        have := pow256_mono (show (l.drop (j + 1)).length ≤ 7 by rw [List.length_drop]; omega)
        rw [show (256 : Int) ^ 7 = 72057594037927936 by decide] at this
        omega
      have hX0 := hdr.1
      clear hdr
      generalize lev (l.drop (j + 1)) = X at *
      generalize l.getD j 0 = bb at *
      rw [show ((j + 1 : Nat) : Int) - 1 = (j : Int) by omega]
      have e2 : (j : Int) < l.length := by omega
      have e3 : (0 : Int) ≤ j := by omega
      obtain ⟨x0, x1⟩ := hx
      go_wp2
      go_roundw
      case rel => exact ⟨j, by omega, by go_num, by rw [HT.out, Int.add_comm], hb⟩
      case measure => simp [intOf]
end Go.Proofs.Ytkedmhopajpkhaa.Cur

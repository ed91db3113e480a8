/- Entries: the head, read, by the program and by the document. -/
import Derived.Test.YtoeedhdckccajaaEntB
import Derived.Test.YtoeedhdckccajaaK24
namespace Go.Proofs.Ytoeedhdckccajaa.Cur
open Go.RowKit Mem
set_option linter.unusedVariables false
set_option maxRecDepth 100000


/-- A head: the links, how many bytes. -/
abbrev Hd := List Lk × Int
def hd0 : Hd := ([], 0)
def hrd (z : List Int) (pos mo p : Int) : Rs Hd := (lrd z pos p).bind hd0 fun L p1 => (vm z mo p1).bind hd0 fun v p2 => ((L, v), p2, 0, 0)
theorem hrd_st {n : Nat} {z : List Int} {pos mo p c q : Int} {L : List Lk} {p1 c1 q1 v p2 c2 q2 : Int} (h1 : St [] n (lrd z pos p) p c q L p1 c1 q1) (h2 : St 0 n (vm z mo p1) p1 c1 q1 v p2 c2 q2) :
    St hd0 n (hrd z pos mo p) p c q (if c2 = 0 then (L, v) else hd0) p2 c2 q2 := by
  unfold hrd
  refine h1.bind (h2.bind ?_)
  by_cases hc : c2 = 0
  · subst hc
    rw [if_pos rfl]
    exact St.done rfl h2.place.1 h2.place.2
  · rw [if_neg hc]
    exact St.stay h2.place.1 h2.place.2 hc
theorem hrd_put {z pre rest : List Int} {L : List Lk} {r : Nat} {pos mo : Int} (hz : z = pre ++ (lkz pos L ++ vz r) ++ rest) (q0 : pos < 18446744073709551616) (hok : lkok pos L = true) (hb : lbd L) (hr : (r : Int) ≤ mo) (hr2 : (r : Int) < 18446744073709551616) :
    hrd z pos mo pre.length = ((L, (r : Int)), ((pre.length + (lkz pos L ++ vz r).length : Nat) : Int), 0, 0) := by
  have g := lrd_put (z := z) (pre := pre) (rest := vz r ++ rest) (l := L) (pos := pos) (by rw [hz]; simp) q0 hok hb
  unfold hrd
  rw [Rs.bind_of g]
  have h2 := vm_put (z := z) (pre := pre ++ lkz pos L) (rest := rest) (x := (r : Int)) (mo := mo) (by rw [hz]; simp) (by omega) hr2 hr
  rw [List.length_append] at h2
  rw [Rs.bind_of h2, List.length_append, vz_length, Nat.add_assoc]

def EhPost (b : Nat) (s : Value) (n : Nat) (z : List Int) (pos mo p c q : Int) (w : World) (e : Ending) (w' : World) : Prop :=
  ∃ A m N L v p' c' q', e = .returned (.tuple #[enagg A N m none 0 0, .int .i64 v]) ∧ Kp b w w' ∧ IsRd w' b s p' c' q' ∧ Lks w' (fun k => w.heap.size ≤ k) A N L ∧ N ≤ m ∧ (A = none → m = 0) ∧ N ≤ 16 ∧ blen 4 L ∧ St hd0 n (hrd z pos mo p) p c q (L, v) p' c' q'
set_option maxHeartbeats 4000000 in
theorem readhead_any (b : Nat) (a : Option Addr) (n m : Nat) (z : List Int) (pos mo p c q : Int) (w : World) (h : IsRd w b (.slice a n m) p c q) (hz : Bs w a n z) (h0 : 0 ≤ p) (h1 : p ≤ n) (hn : n ≤ 100000) (hby : ∀ x ∈ z, 0 ≤ x ∧ x < 256) (p0 : 0 ≤ pos) (p1' : pos < 18446744073709551616) (hmo : mo ≤ 9223372036854775807) :
    Calls Try.prog 16 #[.pointer (some ⟨b, 0, none⟩), .int .u64 pos, .int .i64 mo] w (EhPost b (.slice a n m) n z pos mo p c q w) := by
  have hX := Blk.new w (enc' none 0 0 none 0 0) 26
  have hbX := below_one w (.cells (enc' none 0 0 none 0 0) 26)
  have hbw := h.lt
  have hr := h.below hbX
  have HK := Lib.hid (Kp.of_below (b := b) hbX)
  have HBY := Lib.hid hby
  have HZL := Lib.hid hz.1
  have HE := Lib.hid (And.intro p0 p1')
  have HZ : Hid (∀ w', Kp b w w' → Bs w' a n z) := Lib.hid fun w' hk => hz.kp h (by simp) hk
  have hsz : (w.alloc (.cells (enc' none 0 0 none 0 0) 26)).heap.size = w.heap.size + 1 := by simp
  clear hby p0 p1' hbX h hz
  go_enter Try.func16, Try.ntmps16
  go_wp2_with fail
  generalize w.alloc (.cells (enc' none 0 0 none 0 0) 26) = w0 at *
  refine (lread_any b a n m z pos p c q w0 hr (HZ.out _ HK.out) h0 h1 hn HBY.out HE.out.1 HE.out.2).mono ?_
  rintro en w1 ⟨v1, L, p1, c1, q1, rfl, hk1, hr1, ho1, hl16, hb4, hs1⟩
  have hpl := hs1.place
  have HS1 := Lib.hid hs1
  have HK1 := Lib.hid (HK.out.trans hk1)
  have hX1 := blk_kp hX hk1 (by omega)
  have HB4 := Lib.hid hb4
  clear hs1 hk1 hr hX hb4
  go_wp2_with fail
  refine (vint_any _ _ _ _ _ _ _ _ _ _ hr1 (HZ.out _ HK1.out) hpl.1 hpl.2 (by omega) HBY.out hmo).mono ?_
  rintro en w2 ⟨x, p2, c2, q2, rfl, hk2, hr2, hs2⟩
  have hst := hs2.st HZL.out hpl.1 hpl.2 HBY.out
  have HS2 := Lib.hid (hrd_st HS1.out hst)
  have HK2 := Lib.hid (HK1.out.trans hk2)
  have hX2 := blk_kp hX1 hk2 (by omega)
  have ho2 := ho1.kp hk2 (by omega)
  clear hs2 hst hk2 hr1 hX1 ho1 HS1
  go_wp2_with fail
  refine (good_any _ _ _ _ _ _ hr2).mono ?_
  rintro en w3 ⟨rfl, hb3⟩
  have HR3 := Lib.hid (hr2.below hb3)
  have HK3 := Lib.hid (HK2.out.trans (Kp.of_below (b := b) hb3))
  have hX3 := hX2.below hb3
  have ho3 := ho2.below hb3
  obtain ⟨x0, x1⟩ := hX3.c2
  have f0 := hX3.free 0
  have f1 := hX3.free 1
  clear hr2 hX2 ho2 hb3 hX3
  by_cases hc : c2 = 0
  · have hcb : (c2 == 0) = true := by simpa using hc
    obtain ⟨A1, m1, rfl, k1, k2, k3⟩ := ho3.lks
    have HSF : Hid (St hd0 n (hrd z pos mo p) p c q (L, x) p2 c2 q2) := Lib.hid (by have := HS2.out; rwa [if_pos hc] at this)
    have HLK := Lib.hid k3
    have HNN := Lib.hid (And.intro k1 k2)
    obtain ⟨N, hN⟩ : ∃ N, N = L.length := ⟨_, rfl⟩
    rw [← hN] at HLK HNN hl16 ⊢
    clear hc ho3 k1 k2 k3 hN
    go_wp2
    refine bodyPost_ret (v := .tuple #[enagg A1 N m1 none 0 0, .int .i64 x]) (by simp [results, Try.results16, go_sem, x0, x1]) rfl ⟨A1, m1, N, L, x, p2, c2, q2, rfl, ?_, ?_, ?_, HNN.out.1, HNN.out.2, hl16, HB4.out, HSF.out⟩
    · iterate 2 (refine Kp.far ?_ (by simp) _)
      exact HK3.out
    · iterate 2 (refine IsRd.kp ?_ (Kp.setCell _ w.heap.size _ _) (by omega))
      exact HR3.out
    · refine Lks.mono (Lks.keep HLK.out (fun g hg hl => ?_)) (fun g hg _ => by have h2 : w0.heap.size ≤ g := hg; omega)
      have h2 : w0.heap.size ≤ g := hg
      rw [Below.heap_setCell _ _ _ _ (by simp; omega), Below.heap_setCell _ _ _ _ (by simp; omega)]
  · have hcb : (c2 == 0) = false := by simpa using hc
    have HSF : Hid (St hd0 n (hrd z pos mo p) p c q hd0 p2 c2 q2) := Lib.hid (by have := HS2.out; rwa [if_neg hc] at this)
    clear hc ho3
    go_wp2
    refine bodyPost_ret (v := .tuple #[enagg none 0 0 none 0 0, .int .i64 0]) (by simp [results, Try.results16, go_sem, x0, x1]) rfl ⟨none, 0, 0, [], 0, p2, c2, q2, rfl, ?_, ?_, ⟨rfl, Sq.nil _ _ _ _⟩, Nat.le_refl _, (fun _ => rfl), by omega, (fun s hs => by simp at hs), HSF.out⟩
    · iterate 2 (refine Kp.far ?_ (by simp) _)
      exact HK3.out
    · iterate 2 (refine IsRd.kp ?_ (Kp.setCell _ w.heap.size _ _) (by omega))
      exact HR3.out

def REhPost (s : Value) (n : Nat) (z : List Int) (pos mo p c q : Int) (w : World) (e : Ending) (w' : World) : Prop :=
  ∃ v L x p' c' q', e = .returned (.tuple #[cv s p' c' q', v, .int .i64 x]) ∧ Below w.heap.size w w' ∧ OwnLks w' w.heap.size v L ∧ L.length ≤ 16 ∧ blen 4 L ∧ St hd0 n (hrd z pos mo p) p c q (L, x) p' c' q'
set_option maxHeartbeats 4000000 in
theorem rreadhead_any (a : Option Addr) (n m : Nat) (z : List Int) (pos mo p c q : Int) (w : World) (hz : Bs w a n z) (h0 : 0 ≤ p) (h1 : p ≤ n) (hm : n ≤ m) (hn : n ≤ 100000) (hby : ∀ x ∈ z, 0 ≤ x ∧ x < 256) (q0 : 0 ≤ pos) (q1' : pos < 18446744073709551616) (hmo : mo ≤ 9223372036854775807) :
    Calls Try.prog 22 #[cv (.slice a n m) p c q, .int .u64 pos, .int .i64 mo] w (REhPost (.slice a n m) n z pos mo p c q w) := by
  have HBY := Lib.hid hby
  have HZL := Lib.hid hz.1
  have HZ := Lib.hid hz
  have HP := Lib.hid (And.intro q0 q1')
  clear hby q0 q1'
  go_enter Try.func22, Try.ntmps22
  go_wp2_with fail
  refine (rlread_any _ _ _ _ _ _ _ _ _ (hz.below (below_two _ _ _)) h0 h1 hm hn HBY.out HP.out.1 HP.out.2).mono ?_
  rintro e w1 ⟨v1, L, p1, c1, q1, rfl, hb1, ho1, hl16, hb4, hs1⟩
  obtain ⟨hC0, hR0, hbd0⟩ := two_new hb1
  have hpl := hs1.place
  have HS1 := Lib.hid hs1
  have HB4 := Lib.hid hb4
  have hD := Blk.new w1 (cvs (.slice a n m) p1 c1 q1) 49
  have hbD := below_one w1 (.cells (cvs (.slice a n m) p1 c1 q1) 49)
  have hR := hR0.below hbD
  have ho := ho1.below hbD
  have hbd := hbd0.trans (hbD.mono hbd0.size)
  have hwD : w.heap.size + 1 < w1.heap.size := hR0.lt
  clear hb1 hC0 hR0 hbd0 hs1 hbD ho1 hz hb4
  obtain ⟨d0, d1, d2, d3⟩ := hD.c4
  go_wp2_with fail
  generalize w1.alloc (.cells (cvs (.slice a n m) p1 c1 q1) 49) = w2 at *
  generalize w1.heap.size = D at *
  refine (rint_any _ _ _ _ _ _ _ _ _ (HZ.out.below hbd) hpl.1 hpl.2 hm (by omega) HBY.out hmo).mono ?_
  rintro e w3 ⟨x, p2, c2, q2, rfl, hb3, hs2⟩
  have hst := hs2.st HZL.out hpl.1 hpl.2 HBY.out
  have HS2 := Lib.hid (hrd_st HS1.out hst)
  have hF := Blk.new w3 (cvs (.slice a n m) p2 c2 q2) 49
  have hbF := hb3.trans ((below_one w3 (.cells (cvs (.slice a n m) p2 c2 q2) 49)).mono hb3.size)
  replace hR := hR.below hbF
  replace ho := ho.below hbF
  replace hbd := hbd.trans (hbF.mono hbd.size)
  clear hs2 hst hb3 hbF hD d0 d1 d2 d3 HS1
  go_upto_region 3 with (fail)
  generalize w3.alloc (.cells (cvs (.slice a n m) p2 c2 q2) 49) = w4 at *
  generalize w3.heap.size = F at *
  obtain ⟨y0, y1, y2, y3⟩ := hF.c4
  obtain ⟨r0, r1, r2, r3⟩ := hR.c4
  obtain ⟨g0, g1, g2, g3⟩ := hR.f4
  obtain ⟨_, hkR⟩ := set4 hR (.slice a n m) (.int .i64 p2) (.int .i64 c2) (.int .i64 q2)
  have HBE := Lib.hid (Kp.below hbd (Nat.le_refl _) hkR (by omega))
  have HO := Lib.hid ((ho.kp hkR (by simp)).base (B' := w.heap.size) (by simp; omega))
  clear hR hkR hbd ho hF
  by_cases hc : c2 = 0
  · have hcb : (c2 != 0) = false := by simpa using hc
    have HSF : Hid (St hd0 n (hrd z pos mo p) p c q (L, x) p2 c2 q2) := Lib.hid (by have := HS2.out; rwa [if_pos hc] at this)
    clear hc
    go_wp2
    refine bodyPost_ret (v := .tuple #[cv (.slice a n m) p2 c2 q2, v1, .int .i64 x]) (by simp [results, Try.results22, go_sem, r0, r1, r2, r3]) rfl ⟨v1, L, x, p2, c2, q2, rfl, HBE.out, HO.out, hl16, HB4.out, HSF.out⟩
  · have hcb : (c2 != 0) = true := by simpa using hc
    have HSF : Hid (St hd0 n (hrd z pos mo p) p c q hd0 p2 c2 q2) := Lib.hid (by have := HS2.out; rwa [if_neg hc] at this)
    clear hc
    go_wp2
    refine bodyPost_ret (v := .tuple #[cv (.slice a n m) p2 c2 q2, .slice none 0 0, .int .i64 0]) (by simp [results, Try.results22, go_sem, r0, r1, r2, r3]) rfl ⟨.slice none 0 0, [], 0, p2, c2, q2, rfl, HBE.out, OwnLks.nil _ _, by simp, (fun s hs => by simp at hs), HSF.out⟩
end Go.Proofs.Ytoeedhdckccajaa.Cur

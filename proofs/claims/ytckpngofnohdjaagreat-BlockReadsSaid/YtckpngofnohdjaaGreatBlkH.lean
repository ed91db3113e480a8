/- Blocks: the document's reader, the strict way. -/
import Derived.Test.YtckpngofnohdjaaGreatBlkG
namespace Go.Proofs.YtckpngofnohdjaaGreat.Cur
open Go.RowKit Go.Shelf Mem
attribute [local go_sem] Oper.semAt_some
set_option linter.unusedVariables false
set_option maxRecDepth 100000

/-- What the document's Read hands back. -/
def RrPost (s : Value) (z : List Int) (n : Nat) (most : Int) (w : World) (e : Ending) (w' : World) : Prop :=
  ∃ A k m l p' c' q', e = .returned (.tuple #[cv s p' c' q', .slice A k m]) ∧ Below w.heap.size w w' ∧ St [] n (bks z most 0) 0 0 0 l p' c' q' ∧ Bs w' A k l ∧ (∀ x ∈ l, 0 ≤ x ∧ x < 256)
set_option maxHeartbeats 4000000 in
theorem rread16_any (a : Option Addr) (n m : Nat) (z : List Int) (most : Int) (w : World) (hz : Bs w a n z) (ha : a = none → m = 0) (hm : n ≤ m) (hn : n ≤ 10000) (hby : ∀ x ∈ z, 0 ≤ x ∧ x < 256) (hmo : most ≤ 10000) :
    Calls Tryz.prog 7 #[cv (.slice a n m) 0 0 0, .int .i64 most] w (RrPost (.slice a n m) z n most w) := by
  have hL := fun W (h : Below w.heap.size w W) => rloose16_any a n m z most W (hz.below h) ha hm hn hby hmo
  unfold RlPost at hL
  have HL := Lib.hid hL
  clear hz hby ha hL hmo
  go_enter Tryz.func7, Tryz.ntmps7
  go_wp2_with fail
  with_reducible refine (HL.out _ (below_two _ _ _)).mono ?_
  rintro e w1 ⟨A, k, m1, l, p', c', q', rfl, hb1, hs1, hbs1, hlb⟩
  obtain ⟨hC, hR, hbd⟩ := two_new hb1
  obtain ⟨p10, p11⟩ := hs1.place
  obtain ⟨ow, how⟩ : ∃ ow, ow = (decide (c' = 0) && decide (piece z 0 p'.toNat = bkb l)) := ⟨_, rfl⟩
  rw [← how]
  have HS := Lib.hid hs1
  have HLB := Lib.hid hlb
  have HOW := Lib.hid how
  have hD := Blk.new w1 (cvs (.slice a n m) p' c' q') 31
  replace hbd := hbd.alloc hbd.size (.cells (cvs (.slice a n m) p' c' q') 31)
  have hlt1 : w.heap.size + 1 < w1.heap.size := hR.lt
  replace hR := hR.alloc (.cells (cvs (.slice a n m) p' c' q') 31)
  replace hbs1 := hbs1.alloc (.cells (cvs (.slice a n m) p' c' q') 31)
  clear hb1 hs1 hC hlb how HL
  go_upto_region 2 with (fail)
  generalize w1.alloc (.cells (cvs (.slice a n m) p' c' q') 31) = w2 at *
  generalize w1.heap.size = db at *
  obtain ⟨d0, d1, d2, d3⟩ := hD.c4
  by_cases hc : c' = 0
  · subst hc
    by_cases ho : piece z 0 p'.toNat = bkb l
    · have hw : ow = true := by rw [HOW.out, decide_eq_true rfl, decide_eq_true ho]; rfl
      have HST : Hid (St [] n (bks z most 0) 0 0 0 l p' 0 q') := Lib.hid (by
        unfold bks
        refine HS.out.bind ?_
        exact St.done (if_pos ho) p10 p11)
      clear ho HOW
      subst hw
      obtain ⟨c', hc'⟩ : ∃ c' : Int, c' = 0 := ⟨_, rfl⟩
      clear c' hc'
      obtain ⟨r0, r1, r2, r3⟩ := hR.c4
      obtain ⟨g0, g1, g2, g3⟩ := hR.f4
      obtain ⟨_, hk3⟩ := set4 hR (.slice a n m) (.int .i64 p') (.int .i64 0) (.int .i64 q')
      have HBD := Lib.hid (set4_below hbd (show w.heap.size ≤ w.heap.size + 1 by omega) (.slice a n m) (.int .i64 p') (.int .i64 0) (.int .i64 q'))
      have HBS := Lib.hid (hbs1.kp4 hR (by intro x; simp) (by intro x; simp) (by intro x; simp) (by intro x; simp) hk3)
      clear hbd hR hk3 hbs1 hD
      go_wp2
      refine bodyPost_ret (v := .tuple #[cv (.slice a n m) p' 0 q', .slice A k m1]) (by simp [results, Tryz.results7, go_sem, r0, r1, r2, r3]) rfl ⟨A, k, m1, l, p', 0, q', rfl, HBD.out, HST.out, HBS.out, HLB.out⟩
    · have hw : ow = false := by rw [HOW.out, decide_eq_true rfl, decide_eq_false ho]; rfl
      have HO := Lib.hid ho
      clear ho HOW
      subst hw
      go_wp2_with fail
      refine (rfail_any _ _ _ _ _ _ _ _ _).mono ?_
      rintro e w5 ⟨c5, q5, rfl, hb5, hf⟩
      have h5 : c5 = 12 ∧ q5 = p' := by
        rcases hf with ⟨_, e1, e2⟩ | ⟨h, _⟩
        · exact ⟨e1, by rw [e2]; rfl⟩
        · exact absurd rfl h
      obtain ⟨rfl, rfl⟩ := h5
      have HST : Hid (St [] n (bks z most 0) 0 0 0 [] q5 12 q5) := Lib.hid (by
        unfold bks
        refine HS.out.bind ?_
        exact St.fault (x := []) (y := 0) (if_neg HO.out) (by decide) p10 p11)
      replace hbd := hbd.trans (hb5.mono hbd.size)
      replace hR := hR.below hb5
      obtain ⟨r0, r1, r2, r3⟩ := hR.c4
      obtain ⟨g0, g1, g2, g3⟩ := hR.f4
      have HBD := Lib.hid (set4_below hbd (show w.heap.size ≤ w.heap.size + 1 by omega) (.slice a n m) (.int .i64 q5) (.int .i64 12) (.int .i64 q5))
      clear hbd hR hbs1 hD d0 d1 d2 d3 hb5 hf
      go_wp2
      refine bodyPost_ret (v := .tuple #[cv (.slice a n m) q5 12 q5, .slice none 0 0]) (by simp [results, Tryz.results7, go_sem, r0, r1, r2, r3]) rfl ⟨none, 0, 0, [], q5, 12, q5, rfl, HBD.out, HST.out, Bs.none _, by simp⟩
  · have hcb : (c' == 0) = false := by simpa using hc
    have hl := HS.out.nil hc
    subst hl
    have HST : Hid (St [] n (bks z most 0) 0 0 0 [] p' c' q') := Lib.hid (by
      unfold bks
      refine HS.out.bind ?_
      exact St.stay p10 p11 hc)
    clear hc HOW
    obtain ⟨r0, r1, r2, r3⟩ := hR.c4
    obtain ⟨g0, g1, g2, g3⟩ := hR.f4
    obtain ⟨_, hk3⟩ := set4 hR (.slice a n m) (.int .i64 p') (.int .i64 c') (.int .i64 q')
    have HBD := Lib.hid (set4_below hbd (show w.heap.size ≤ w.heap.size + 1 by omega) (.slice a n m) (.int .i64 p') (.int .i64 c') (.int .i64 q'))
    have HBS := Lib.hid (hbs1.kp4 hR (by intro x; simp) (by intro x; simp) (by intro x; simp) (by intro x; simp) hk3)
    clear hbd hR hk3 hbs1 hD
    go_wp2
    refine bodyPost_ret (v := .tuple #[cv (.slice a n m) p' c' q', .slice A k m1]) (by simp [results, Tryz.results7, go_sem, r0, r1, r2, r3]) rfl ⟨A, k, m1, _, p', c', q', rfl, HBD.out, HST.out, HBS.out, HLB.out⟩
end Go.Proofs.YtckpngofnohdjaaGreat.Cur

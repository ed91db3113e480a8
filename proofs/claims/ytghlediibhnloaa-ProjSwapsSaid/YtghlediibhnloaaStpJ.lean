/- Stripes read by the program: Read. -/
import Derived.Test.YtghlediibhnloaaStpI
namespace Go.Proofs.Ytghlediibhnloaa.Cur
open Go.RowKit Mem
set_option linter.unusedVariables false
set_option maxRecDepth 100000


theorem Kp.ks {b : Nat} {S : Nat → Prop} {w w1 w2 : World} (h : Kp b w w1) (k : Ks S w1 w2) (hS : ∀ g, S g → g = b ∨ w.heap.size ≤ g) : Kp b w w2 :=
  ⟨k.os.trans h.os, k.tape.trans h.tape, k.output.trans h.output, Nat.le_trans h.size k.size, fun g hg hne => (k.block g (Nat.lt_of_lt_of_le hg h.size) fun hs => by
    rcases hS g hs with e | e
    · exact hne e
    · omega).trans (h.block g hg hne)⟩
/-- How far the sets are read. -/
def SsSt (n : Nat) (z : List Int) (N : Nat) (p2 c2 q2 : Int) (k : Nat) (S : List (List Int)) (pk ck qk : Int) : Prop :=
  (ck = 0 ∧ c2 = 0 ∧ qk = q2 ∧ ssg z N p2 [] = ssg z (N - k) pk S ∧ apB S = true) ∨ (ck ≠ 0 ∧ St [] n (ssg z N p2 []) p2 c2 q2 [] pk ck qk)
theorem SsSt.start {n : Nat} {z : List Int} {N : Nat} {p2 c2 q2 : Int} (h0 : 0 ≤ p2) (h1 : p2 ≤ n) : SsSt n z N p2 c2 q2 0 [] p2 c2 q2 := by
  by_cases hc : c2 = 0
  · exact .inl ⟨hc, hc, rfl, rfl, rfl⟩
  · exact .inr ⟨hc, St.stay h0 h1 hc⟩
theorem SsSt.next {n : Nat} {z : List Int} {N : Nat} {p2 c2 q2 : Int} {k : Nat} {S : List (List Int)} {pk ck qk : Int} (h : SsSt n z N p2 c2 q2 k S pk ck qk) (hk : k < N) {l : List Int} {p' c' q' : Int} (hs : St [] n (stl z S pk) pk ck qk (if c' = 0 then l else []) p' c' q') (hap : c' = 0 → tw S l = false) :
    SsSt n z N p2 c2 q2 (k + 1) (S ++ [l]) p' c' q' := by
  obtain ⟨s0, s1⟩ := hs.place
  rcases h with ⟨rfl, rfl, rfl, e, ha⟩ | ⟨hc, h⟩
  · have e2 : ssg z (N - k) pk S = (stl z S pk).bind [] fun l p' => ssg z (N - (k + 1)) p' (S ++ [l]) := by
      rw [show N - k = N - (k + 1) + 1 by omega]; rfl
    by_cases hc : c' = 0
    · subst hc
      rw [if_pos rfl] at hs
      obtain ⟨_, g0, gl, gp, gq⟩ := hs.good
      refine .inl ⟨rfl, rfl, gq, ?_, by rw [apB_snoc, ha, hap rfl]; rfl⟩
      rw [e, e2]
      unfold Rs.bind
      rw [if_neg (by simp [g0]), ← gl, ← gp]
    · rw [if_neg hc] at hs
      refine .inr ⟨hc, ?_⟩
      rw [e, e2]
      have := hs.bind (f := fun l p' => ssg z (N - (k + 1)) p' (S ++ [l])) (St.stay (d := []) s0 s1 hc)
      obtain ⟨a0, a1, a2⟩ := this
      refine ⟨a0, a1, ?_⟩
      rcases a2 with ⟨h, _⟩ | ⟨_, _, _, _, h, _⟩ | a2
      · exact absurd rfl h
      · exact absurd h hc
      · exact .inr (.inr a2)
  · have hb := hs.bad hc
    obtain ⟨_, rfl, rfl⟩ := hb
    refine .inr ⟨hc, ?_⟩
    obtain ⟨_, _, a2⟩ := h
    refine ⟨s0, s1, ?_⟩
    rcases a2 with a2 | ⟨_, _, _, _, h, _⟩ | a2
    · exact .inl a2
    · exact absurd h hc
    · exact .inr (.inr a2)
theorem SsSt.done {n : Nat} {z : List Int} {N : Nat} {p2 c2 q2 : Int} {S : List (List Int)} {pk ck qk : Int} (h : SsSt n z N p2 c2 q2 N S pk ck qk) (h0 : 0 ≤ pk) (h1 : pk ≤ n) : St [] n (ssg z N p2 []) p2 c2 q2 (if ck = 0 then S else []) pk ck qk := by
  rcases h with ⟨rfl, rfl, rfl, e, ha⟩ | ⟨hc, h⟩
  · rw [if_pos rfl]
    exact St.done (by rw [e, Nat.sub_self]; rfl) h0 h1
  · rw [if_neg hc]; exact h
/-- What it comes to. -/
theorem str_st {n : Nat} {z : List Int} {f p c q t p1 c1 q1 p2 c2 q2 pk ck qk : Int} {N : Nat} {S : List (List Int)} (h1 : St 0 n (srt z f p) p c q (if c1 = 0 then t else 0) p1 c1 q1) (h2 : St 0 n (mny z 8 p1) p1 c1 q1 (N : Int) p2 c2 q2) (h3 : St [] n (ssg z N p2 []) p2 c2 q2 (if ck = 0 then S else []) pk ck qk) :
    St stp0 n (str z f p) p c q (if ck = 0 then (f, t, S) else stp0) pk ck qk := by
  rw [str_eq]
  refine h1.bind (h2.bind ?_)
  rw [Int.toNat_natCast]
  refine h3.bind ?_
  by_cases hc : ck = 0
  · subst hc
    rw [if_pos rfl, if_pos rfl]
    obtain ⟨rfl, _⟩ := h3.good
    obtain ⟨rfl, _⟩ := h2.good
    rw [if_pos rfl]
    exact St.done rfl h3.place.1 h3.place.2
  · rw [if_neg hc, if_neg hc]
    exact St.stay h3.place.1 h3.place.2 hc

def StRdPost (b : Nat) (s : Value) (n : Nat) (z : List Int) (f p c q : Int) (w : World) (e : Ending) (w' : World) : Prop :=
  ∃ (f' t : Int) (A : Option Addr) (N m : Nat) (S : List (List Int)) (p' c' q' : Int), e = .returned (stagg f' t A N m) ∧ Kp b w w' ∧ IsRd w' b s p' c' q' ∧ Sts w' (fun k => w.heap.size ≤ k) A N S ∧ N ≤ m ∧ (A = none → m = 0) ∧
    (0 ≤ f' ∧ f' < 18446744073709551616) ∧ (0 ≤ t ∧ t < 18446744073709551616) ∧ sbds S ∧ (∀ l ∈ S, l.length ≤ 8) ∧ N ≤ 8 ∧ St stp0 n (str z f p) p c q (f', t, S) p' c' q'

set_option maxHeartbeats 4000000 in
theorem sread19_any (b : Nat) (a : Option Addr) (n m : Nat) (z : List Int) (f p c q : Int) (w : World) (h : IsRd w b (.slice a n m) p c q) (hz : Bs w a n z) (h0 : 0 ≤ p) (h1 : p ≤ n) (hn : n ≤ 100000) (hby : ∀ x ∈ z, 0 ≤ x ∧ x < 256) (f0 : 0 ≤ f) (f1 : f < 18446744073709551616) :
    Calls Try.prog 61 #[.pointer (some ⟨b, 0, none⟩), .int .u64 f] w (StRdPost b (.slice a n m) n z f p c q w) := by
  have HBY := Lib.hid hby
  have HZL := Lib.hid hz.1
  clear hby
  have hA := Blk.new w (stc 0 0 none 0 0) 60
  have hb1 := below_one w (.cells (stc 0 0 none 0 0) 60)
  have hbl := h.lt
  have hr := h.below hb1
  have HK := Lib.hid (Kp.of_below (b := b) hb1)
  have HZ : Hid (∀ w', Kp b w w' → Bs w' a n z) := Lib.hid fun w' hk => hz.kp h (by simp) hk
  clear hb1 h hz
  go_enter Try.func61, Try.ntmps61
  go_wp2_with fail
  refine (sto_any b a n m z p c q f _ hr (HZ.out _ HK.out) h0 h1 (by omega) HBY.out f0 f1).mono ?_
  rintro e w1 ⟨t, p1, c1, q1, rfl, t0, t1, hk1, hr1, hs1⟩
  have HS1 := Lib.hid hs1
  have hA1 := (blk_kp hA hk1 (by omega)).alloc (.cells (stc f t none 0 0) 60)
  have hS1 := Blk.new w1 (stc f t none 0 0) 60
  have hbS := below_one w1 (.cells (stc f t none 0 0) 60)
  have hr2 := hr1.below hbS
  have HK1 := Lib.hid ((HK.out.trans hk1).trans (Kp.of_below (b := b) hbS))
  have hxs : w.heap.size < w1.heap.size := by have := hk1.size; simp at this; omega
  have hpl := hs1.place
  have hsz : (w1.alloc (.cells (stc f t none 0 0) 60)).heap.size = w1.heap.size + 1 := by simp
  clear hs1 hk1 hA hr hr1 HK hbS
  go_wp2_with fail
  generalize w1.alloc (.cells (stc f t none 0 0) 60) = w2 at *
  generalize w1.heap.size = xs at *
  refine (snum_any b a n m z p1 c1 q1 8 _ hr2 (HZ.out _ HK1.out) hpl.1 hpl.2 hn HBY.out (by omega)).mono ?_
  rintro e w3 ⟨N, p2, c2, q2, rfl, hk3, hr3, hs3⟩
  obtain ⟨n0, n8, _⟩ := mny_bd hs3 HZL.out hpl.1 hpl.2 HBY.out
  have hN8 : N ≤ 8 := by omega
  obtain ⟨N, rfl⟩ := Int.eq_ofNat_of_zero_le n0
  have HS3 := Lib.hid hs3
  have hpl3 := hs3.place
  have hA3 := blk_kp hA1 hk3 (by omega)
  have hS3 := blk_kp hS1 hk3 (by omega)
  have HK3 := Lib.hid (HK1.out.trans hk3)
  have hsz3 := hk3.size
  clear hs3 hk3 hr2 hA1 hS1 HK1 n8 n0
  go_wp2
  go_loopw [13] (fun i wr => ∃ (k : Nat) (v : Value) (S : List (List Int)) (pk ck qk : Int), k ≤ N ∧ i = .int .i64 k ∧ Blk wr xs #[.int .u64 f, .int .u64 t, v] 60 ∧ Blk wr w.heap.size (stc 0 0 none 0 0) 60 ∧ OwnSts wr (xs + 1) v S ∧ S.length = k ∧ Hid (∀ l ∈ S, l.length ≤ 8) ∧ Hid (sbds S) ∧ IsRd wr b (.slice a n m) pk ck qk ∧ Hid (Kp b w wr) ∧ 0 ≤ pk ∧ pk ≤ n ∧ xs + 1 ≤ wr.heap.size ∧ Hid (SsSt n z N p2 c2 q2 k S pk ck qk)) (fun i _ => N - (intOf i).toNat)
  case atStart => exact ⟨0, .slice none 0 0, [], p2, c2, q2, by omega, rfl, hS3, hA3, OwnSts.nil _ _, rfl, Lib.hid (by simp), Lib.hid (fun l h => by simp at h), hr3, HK3, hpl3.1, hpl3.2, by omega, Lib.hid (SsSt.start hpl3.1 hpl3.2)⟩
  case round =>
    clear hA3 hS3 hr3 HK3 hsz3
    obtain ⟨k, v, S, pk, ck, qk, hk, rfl, hS, hA, ho, hSl, HLE, HSB, hr, HK, hp0, hp1, hsz4, HST⟩ := hrel
    obtain ⟨y0, y1, y2⟩ := hS.c3
    by_cases hlt : k < N
    · have hap : ck = 0 → apB S = true := fun hc => by
        rcases HST.out with ⟨_, _, _, _, h⟩ | ⟨h, _⟩
        · exact h
        · exact absurd hc h
      have hcon := sset_any (xs + 1) b a n m z S v pk ck qk wr hr (HZ.out _ HK.out) hp0 hp1 hn HBY.out ho (by omega) hsz4 HLE.out (by omega) hap
      have hge := ho.ge
      have HSL := Lib.hid hSl
      have e2 : (k : Int) < N := by omega
      have e3 : IntKind.i64.wrap ((k : Int) + 1) = ((k + 1 : Nat) : Int) := IntWalk.i64_in _ (by omega)
      clear hap hr ho hSl
      go_wp2_with fail
      refine hcon.mono ?_
      rintro e w5 ⟨v', l, p5, c5, q5, rfl, hks, hr5, ho5, hl8, hlb, hs5⟩
      obtain ⟨A5, cv5, hv5, _⟩ := ho5.sts
      rw [show (S ++ [l]).length = k + 1 by simp [HSL.out]] at hv5
      subst hv5
      have hS5 := hS.ks hks (fun hh => by
        rcases hh with e | e
        · omega
        · have := hge _ e; omega)
      have hA5 := hA.ks hks (fun hh => by
        rcases hh with e | e
        · omega
        · have := hge _ e; omega)
      have hK5 := HK.out.ks hks (fun g hh => by
        rcases hh with e | e
        · exact .inl e
        · have := hge _ e; exact .inr (by omega))
      have HS6 := Lib.hid (hS5.set 2 (.slice A5 (k + 1) cv5))
      have HA6 := Lib.hid (hA5.far (g := xs) 2 (.slice A5 (k + 1) cv5) (by omega))
      have HO6 := Lib.hid (ho5.ks (Ks.setCell (S := fun k => k = xs) w5 xs 2 (.slice A5 (k + 1) cv5) rfl) (fun g hg => by omega))
      have HR6 := Lib.hid (hr5.kp (Kp.setCell w5 xs 2 (.slice A5 (k + 1) cv5)) (by omega))
      have HK6 := Lib.hid (hK5.far (p := ⟨xs, 2, none⟩) (by show w.heap.size ≤ xs; omega) (.slice A5 (k + 1) cv5))
      have HL6 : Hid (∀ x ∈ S ++ [l], x.length ≤ 8) := Lib.hid fun x hx => by
        rcases List.mem_append.1 hx with hx | hx
        · exact HLE.out x hx
        · rw [List.mem_singleton] at hx; subst hx; exact hl8
      have HB6 : Hid (sbds (S ++ [l])) := Lib.hid fun x hx => by
        rcases List.mem_append.1 hx with hx | hx
        · exact HSB.out x hx
        · rw [List.mem_singleton] at hx; subst hx; exact hlb
      have hpl5 := hs5.place
      have HN6 : Hid (SsSt n z N p2 c2 q2 (k + 1) (S ++ [l]) p5 c5 q5) := Lib.hid (HST.out.next hlt hs5 fun hc => by
        rw [if_pos hc] at hs5
        rw [hc] at hs5
        obtain ⟨_, g0, gl, gp, gq⟩ := hs5.good
        obtain ⟨l2, p2', e, e2, _⟩ := stl_once HBY.out hp0 (by rw [HZL.out]; exact hp1) g0
        rw [e] at gl
        have gl' : l = l2 := gl
        subst gl'
        exact (seok_parts e2).2.2.2.2)
      have HZ5 : Hid (xs + 1 ≤ (w5.setCell ⟨xs, 2, none⟩ (.slice A5 (k + 1) cv5)).heap.size) := Lib.hid (by have := hks.size; simp; omega)
      obtain ⟨u0, u1, u2⟩ := hS5.c3
      have g0 := hS5.free 2
      clear hcon hks hr5 ho5 hlb hs5 hS5 hA5 hK5 y0 y1 y2 hS hA hge
      go_wp2
      go_roundw
      case rel => exact ⟨k + 1, .slice A5 (k + 1) cv5, S ++ [l], p5, c5, q5, by omega, by go_num, HS6.out, HA6.out, HO6.out, by simp [HSL.out], HL6, HB6, HR6.out, HK6, hpl5.1, hpl5.2, HZ5.out, HN6⟩
      case measure => simp [intOf]; omega
    · obtain rfl : k = N := by omega
      have HF := Lib.hid (str_st HS1.out HS3.out (HST.out.done hp0 hp1))
      obtain ⟨A, cv, rfl, hle, hnil, hst⟩ := ho.sts
      rw [hSl] at hst hle hS y2
      have HST2 := Lib.hid hst
      have HNIL := Lib.hid hnil
      clear hst hnil HST ho hlt HS1 HS3
      go_wp2_with fail
      refine (good_any _ _ _ _ _ _ hr).mono ?_
      rintro e w7 ⟨rfl, hb7⟩
      have hA7 := hA.below hb7
      have hS7 := hS.below hb7
      have HR7 := Lib.hid (hr.below hb7)
      have HK7 := Lib.hid (HK.out.trans (Kp.of_below (b := b) hb7))
      have HT7 := Lib.hid (HST2.out.below hb7)
      have hsz7 := Nat.le_trans hsz4 hb7.size
      clear y0 y1 y2
      obtain ⟨y0, y1, y2⟩ := hS7.c3
      obtain ⟨x0, x1, x2⟩ := hA7.c3
      have g0 := hA7.free 0
      have g1 := hA7.free 1
      have g2 := hA7.free 2
      clear hb7 hA hS hA7 hS7 hr HST2 HK
      by_cases hc : ck = 0
      · have hcb : (ck == 0) = true := by simpa using hc
        have HC := Lib.hid hc
        clear hc
        go_wp2
        refine bodyPost_ret (v := stagg f t A k cv) (by simp [results, Try.results61, go_sem, x0, x1, x2]) rfl ⟨f, t, A, k, cv, S, pk, ck, qk, rfl, ?_, ?_, ?_, hle, HNIL.out, ⟨f0, f1⟩, ⟨t0, t1⟩, HSB.out, HLE.out, by omega, by have := HF.out; rw [if_pos HC.out] at this; exact this⟩
        · iterate 3 (refine Kp.far ?_ (by simp) _)
          exact HK7.out
        · iterate 3 (refine IsRd.kp ?_ (Kp.setCell _ w.heap.size _ _) (by omega))
          exact HR7.out
        · refine Sts.mono (Sts.keep HT7.out (fun g hg hl => ?_)) (fun g hg _ => by omega)
          rw [Below.heap_setCell _ _ _ _ (by simp; omega), Below.heap_setCell _ _ _ _ (by simp; omega), Below.heap_setCell _ _ _ _ (by simp; omega)]
      · have hcb : (ck == 0) = false := by simpa using hc
        have HC := Lib.hid hc
        clear hc
        go_wp2
        refine bodyPost_ret (v := stagg 0 0 none 0 0) (by simp [results, Try.results61, go_sem, x0, x1, x2]) rfl ⟨0, 0, none, 0, 0, [], pk, ck, qk, rfl, ?_, ?_, ⟨rfl, Sq.nil _ _ _ _⟩, by omega, fun _ => rfl, by omega, by omega, (fun l h => by simp at h), (fun l h => by simp at h), by omega, by have := HF.out; rw [if_neg HC.out] at this; exact this⟩
        · iterate 3 (refine Kp.far ?_ (by simp) _)
          exact HK7.out
        · iterate 3 (refine IsRd.kp ?_ (Kp.setCell _ w.heap.size _ _) (by omega))
          exact HR7.out
end Go.Proofs.Ytghlediibhnloaa.Cur

/- K27: PrjH PrjI PrjJ PrjK -/
import Derived.Test.YthpgandifeiejaaK26
import Derived.Test.YthpgandifeiejaaK24
import Derived.Test.YthpgandifeiejaaK1
import Derived.BigRegion
/- Projections read: the number of stripes, Read. -/
/- Projections read by the program: Read. -/
/- Projections read: Get. -/
/- Projections read: Decode. -/
namespace Go.Proofs.Ythpgandifeiejaa.Cur
open Go.RowKit Mem
set_option linter.unusedVariables false
set_option maxRecDepth 100000



set_option maxHeartbeats 1000000 in
theorem pnum_any (b : Nat) (a : Option Addr) (n m : Nat) (z : List Int) (p c q : Int) (w : World) (h : IsRd w b (.slice a n m) p c q) (hz : Bs w a n z) (h0 : 0 ≤ p) (h1 : p ≤ n) (hn : n ≤ 1000000) (hby : ∀ x ∈ z, 0 ≤ x ∧ x < 256) :
    Calls Try.prog 60 #[.pointer (some ⟨b, 0, none⟩)] w (NumPost b (.slice a n m) n (mny z 64 p) p c q w) := by
  have HZL := hz.1
  have HBY := Lib.hid hby
  clear hby
  go_enter Try.func60, Try.ntmps60
  go_wp2_with fail
  refine (at_any b _ p c q w h).mono ?_
  rintro e w' ⟨rfl, rfl⟩
  go_wp2_with fail
  refine (vint_any _ _ _ _ _ _ _ _ _ _ h hz h0 h1 hn HBY.out (by omega)).mono ?_
  rintro e w1 ⟨v, p1, c1, q1, rfl, hk1, hr1, hs1⟩
  have hst := hs1.st hz.1 h0 h1 HBY.out
  obtain ⟨p10, p11⟩ := hst.place
  obtain ⟨v0, _⟩ := vm_bd hst HBY.out
  have HS := Lib.hid hst
  clear hs1 hst HZL
  by_cases hv : v = 0
  · subst hv
    go_wp2_with fail
    refine (fail_any _ _ _ _ _ 3 p _ hr1).mono ?_
    rintro e w2 ⟨c2, q2, rfl, hk2, hr2, hf⟩
    have HM : Hid (St 0 n (mny z 64 p) p c q 0 p1 c2 q2) := Lib.hid (HS.out.bind (f := fun k p1 => if k = 0 then (0, 0, 3, p) else (k, p1, 0, 0)) (St.fail (d' := 0) (x := 0) (by rw [if_pos rfl]) (by decide) p10 p11 hf))
    have HK := Lib.hid (hk1.trans hk2)
    clear hk1 hk2 hf
    go_wp2
    go_ret
    exact ⟨0, p1, c2, q2, rfl, HK.out, hr2, HM.out⟩
  · have hvb : (v == 0) = false := by simpa using hv
    have HM : Hid (St 0 n (mny z 64 p) p c q v p1 c1 q1) := Lib.hid (HS.out.bind (f := fun k p1 => if k = 0 then (0, 0, 3, p) else (k, p1, 0, 0)) (by
      rw [if_neg hv]
      by_cases hc : c1 = 0
      · subst hc; exact St.done rfl p10 p11
      · exact absurd (HS.out.nil hc) hv))
    clear hv
    go_wp2
    go_ret
    exact ⟨v, p1, c1, q1, rfl, hk1, hr1, HM.out⟩

/-! ### Rows of stripes of the call's own -/
def OwnPts (w : World) (B : Nat) (v : Value) (L : List Stp) : Prop := OwnQ StE 31 w B (fun k => B ≤ k ∧ v.ownBlock ≠ some k) v L
theorem OwnPts.nil (w : World) (B : Nat) : OwnPts w B (.slice none 0 0) [] := OwnQ.nil _ _ _ _ _
theorem OwnPts.ge {w : World} {B : Nat} {v : Value} {L : List Stp} (h : OwnPts w B v L) : ∀ g, v.ownBlock = some g → B ≤ g := by
  obtain ⟨cs, h1, h2, h3⟩ := h
  exact own_ge h2
theorem OwnPts.lt {w : World} {B : Nat} {v : Value} {L : List Stp} (h : OwnPts w B v L) : ∀ g, v.ownBlock = some g → g < w.heap.size := by
  obtain ⟨cs, h1, h2, h3⟩ := h
  exact fun g hg => (World.ownsRow.lt h2 g hg).2
theorem OwnPts.keep {w w' : World} {B : Nat} {v : Value} {L : List Stp} (h : OwnPts w B v L) (hk : ∀ b, B ≤ b → b < w.heap.size → w'.heap[b]? = w.heap[b]?) : OwnPts w' B v L := by
  have hge := h.ge
  have hlt := h.lt
  obtain ⟨cs, h1, h2, h3⟩ := h
  exact ⟨cs, h1.keep fun b hb hlt => hk b hb.1 hlt, own_block h2 fun k hk' => hk k (hge k hk') (hlt k hk'), h3⟩
theorem OwnPts.below {w w' : World} {B : Nat} {v : Value} {L : List Stp} (h : OwnPts w B v L) (hb : Below w.heap.size w w') : OwnPts w' B v L := h.keep fun b _ hlt => hb.block b hlt
theorem OwnPts.ks {S0 : Nat → Prop} {w w' : World} {B : Nat} {v : Value} {L : List Stp} (h : OwnPts w B v L) (k : Ks S0 w w') (h0 : ∀ g, S0 g → g < B) : OwnPts w' B v L := h.keep fun b hb hlt => k.block b hlt fun hs => by have := h0 b hs; omega
theorem OwnPts.kp {b : Nat} {w w' : World} {B : Nat} {v : Value} {L : List Stp} (h : OwnPts w B v L) (k : Kp b w w') (h0 : b < B) : OwnPts w' B v L := h.keep fun g hb hlt => k.block g hlt (by omega)
theorem OwnPts.pts {w : World} {B : Nat} {v : Value} {L : List Stp} (h : OwnPts w B v L) : ∃ A c, v = .slice A L.length c ∧ L.length ≤ c ∧ (A = none → c = 0) ∧ Pts w (fun k => B ≤ k) A L.length L := by
  have hge := h.ge
  obtain ⟨A, c, e, h1, h2, h3⟩ := OwnQ.slice h
  exact ⟨A, c, e, h1, h2, rfl, h3.mono fun b hb _ => by
    rcases hb with hb | hb
    · exact hb.1
    · exact hge b hb⟩
/-- One more stripe, behind an append. -/
theorem OwnPts.snoc {w w' : World} {B : Nat} {v v' : Value} {L : List Stp} {cs : List (List Value)} {c : List Value} {x : Stp}
    (h1 : Ch StE w (fun k => B ≤ k ∧ v.ownBlock ≠ some k) cs L) (h3 : ∀ g, v.ownBlock = some g → ¬ (fun k => B ≤ k ∧ v.ownBlock ≠ some k) g)
    (hx : StE.R w (fun k => B ≤ k ∧ v.ownBlock ≠ some k) c x) (ho : w'.ownsRow B 31 3 v' (L.length + 1) (cs.flatten ++ c)) (hg : w.grownBy w' v.ownBlock) (hgr : Gr v.ownBlock v'.ownBlock w) : OwnPts w' B v' (L ++ [x]) := by
  have h := OwnQ.snoc (E := StE) (e := 31) h1 h3 hx ho hg hgr
  refine h.mono (fun b hb _ => ⟨hb.1.1, fun e => ?_⟩) (fun g hg2 hh => hh.2 hg2)
  rcases hgr with e2 | ⟨g', e2, hg'⟩
  · exact hb.1.2 (by rw [← e2]; exact e)
  · rw [e2] at e
    injection e with e
    have := hb.2
    omega

/-! ### How far the stripes are read -/
def PsSt (n : Nat) (z : List Int) (N : Nat) (p2 c2 q2 : Int) (k : Nat) (L : List Stp) (f pk ck qk : Int) : Prop :=
  (ck = 0 ∧ c2 = 0 ∧ qk = q2 ∧ psg z N 0 p2 [] = psg z (N - k) f pk L) ∨ (ck ≠ 0 ∧ St (([] : List Stp), (0 : Int)) n (psg z N 0 p2 []) p2 c2 q2 ([], 0) pk ck qk)
theorem PsSt.start {n : Nat} {z : List Int} {N : Nat} {p2 c2 q2 : Int} (h0 : 0 ≤ p2) (h1 : p2 ≤ n) : PsSt n z N p2 c2 q2 0 [] 0 p2 c2 q2 := by
  by_cases hc : c2 = 0
  · exact .inl ⟨hc, hc, rfl, rfl⟩
  · exact .inr ⟨hc, St.stay h0 h1 hc⟩
theorem PsSt.next {n : Nat} {z : List Int} {N : Nat} {p2 c2 q2 : Int} {k : Nat} {L : List Stp} {f pk ck qk : Int} (h : PsSt n z N p2 c2 q2 k L f pk ck qk) (hk : k < N) {s : Stp} {p' c' q' : Int} (hs : St stp0 n (str z f pk) pk ck qk s p' c' q') :
    PsSt n z N p2 c2 q2 (k + 1) (L ++ [s]) s.2.1 p' c' q' := by
  obtain ⟨s0, s1⟩ := hs.place
  rcases h with ⟨rfl, rfl, rfl, e⟩ | ⟨hc, h⟩
  · have e2 : psg z (N - k) f pk L = (str z f pk).bind ([], 0) fun s p' => psg z (N - (k + 1)) s.2.1 p' (L ++ [s]) := by
      rw [show N - k = N - (k + 1) + 1 by omega]; rfl
    by_cases hc : c' = 0
    · subst hc
      obtain ⟨_, g0, gl, gp, gq⟩ := hs.good
      refine .inl ⟨rfl, rfl, gq, ?_⟩
      rw [e, e2]
      unfold Rs.bind
      rw [if_neg (by simp [g0]), ← gl, ← gp]
    · refine .inr ⟨hc, ?_⟩
      rw [e, e2]
      have := hs.bind (f := fun s p' => psg z (N - (k + 1)) s.2.1 p' (L ++ [s])) (St.stay (d := (([] : List Stp), (0 : Int))) s0 s1 hc)
      obtain ⟨a0, a1, a2⟩ := this
      refine ⟨a0, a1, ?_⟩
      rcases a2 with ⟨h, _⟩ | ⟨_, _, _, _, h, _⟩ | a2
      · exact absurd rfl h
      · exact absurd h hc
      · exact .inr (.inr a2)
  · have hb := hs.bad hc
    obtain ⟨_, rfl, rfl⟩ := hb
    refine .inr ⟨hc, ?_⟩
    obtain ⟨_, _, a2⟩ := h
    refine ⟨s0, s1, ?_⟩
    rcases a2 with a2 | ⟨_, _, _, _, h, _⟩ | a2
    · exact .inl a2
    · exact absurd h hc
    · exact .inr (.inr a2)
theorem PsSt.fin {n : Nat} {z : List Int} {N : Nat} {p2 c2 q2 : Int} {k : Nat} {L : List Stp} {f pk ck qk : Int} (h : PsSt n z N p2 c2 q2 k L f pk ck qk) (hk : k = N ∨ ck ≠ 0) (h0 : 0 ≤ pk) (h1 : pk ≤ n) : St (([] : List Stp), (0 : Int)) n (psg z N 0 p2 []) p2 c2 q2 (if ck = 0 then (L, f) else ([], 0)) pk ck qk := by
  rcases h with ⟨rfl, rfl, rfl, e⟩ | ⟨hc, h⟩
  · obtain rfl : k = N := by rcases hk with h | h; exact h; exact absurd rfl h
    rw [if_pos rfl]
    exact St.done (by rw [e, Nat.sub_self]; rfl) h0 h1
  · rw [if_neg hc]; exact h
/-- Where a stripe that is read ends. -/
theorem str_to {n : Nat} {z : List Int} {f p c q : Int} {s : Stp} {p' c' q' : Int} (h : St stp0 n (str z f p) p c q s p' c' q') (hz : z.length = n) (hf : 0 ≤ f) (h0 : 0 ≤ p) (h1 : p ≤ n) (hby : ∀ x ∈ z, 0 ≤ x ∧ x < 256) : 0 ≤ s.2.1 ∧ s.2.1 ≤ 4611686018427387904 := by
  by_cases hc : c' = 0
  · subst hc
    obtain ⟨_, g0, gl, _⟩ := h.good
    obtain ⟨s', p2, e, e1, e2, _⟩ := str_once hby hf h0 (by rw [hz]; exact h1) g0
    rw [e] at gl
    have : s = s' := gl
    subst this
    have := stok_parts e2
    omega
  · rw [h.nil hc]
    exact ⟨by show (0 : Int) ≤ 0; omega, by show (0 : Int) ≤ _; omega⟩
/-- What it comes to. -/
theorem prd_bad {n : Nat} {z : List Int} {p c q e p1 c1 q1 p2 c2 q2 f pk ck qk c' q' : Int} {N : Nat} {L : List Stp} (h1 : St 0 n (ve epk z p) p c q e p1 c1 q1) (h2 : St 0 n (mny z 64 p1) p1 c1 q1 (N : Int) p2 c2 q2)
    (h3 : St (([] : List Stp), (0 : Int)) n (psg z N 0 p2 []) p2 c2 q2 (if ck = 0 then (L, f) else ([], 0)) pk ck qk) (hf : f < 4611686018427387904) (hx : FailSt ck qk 3 pk c' q') : St prj0 n (prd z p) p c q prj0 pk c' q' := by
  unfold prd
  refine h1.bind (h2.bind ?_)
  rw [Int.toNat_natCast]
  refine h3.bind ?_
  by_cases hc : ck = 0
  · subst hc
    rw [if_pos rfl]
    exact St.fail (by rw [if_pos (show ((L, f) : List Stp × Int).2 ≠ 4611686018427387904 by dsimp only; omega)]) (by decide) h3.place.1 h3.place.2 hx
  · rcases hx with ⟨h, _⟩ | ⟨_, rfl, rfl⟩
    · exact absurd h hc
    · exact St.stay h3.place.1 h3.place.2 hc
theorem prd_good {n : Nat} {z : List Int} {p c q e p1 c1 q1 p2 c2 q2 f pk ck qk : Int} {N : Nat} {L : List Stp} (h1 : St 0 n (ve epk z p) p c q e p1 c1 q1) (h2 : St 0 n (mny z 64 p1) p1 c1 q1 (N : Int) p2 c2 q2)
    (h3 : St (([] : List Stp), (0 : Int)) n (psg z N 0 p2 []) p2 c2 q2 (if ck = 0 then (L, f) else ([], 0)) pk ck qk) (hf : f = 4611686018427387904) : St prj0 n (prd z p) p c q (if ck = 0 then (e, L) else prj0) pk ck qk := by
  unfold prd
  refine h1.bind (h2.bind ?_)
  rw [Int.toNat_natCast]
  refine h3.bind ?_
  by_cases hc : ck = 0
  · subst hc
    rw [if_pos rfl, if_pos rfl]
    exact St.done (by rw [if_neg (by simp [hf])]) h3.place.1 h3.place.2
  · rw [if_neg hc, if_neg hc]
    exact St.stay h3.place.1 h3.place.2 hc

def PRdPost (b : Nat) (s : Value) (n : Nat) (z : List Int) (p c q : Int) (w : World) (en : Ending) (w' : World) : Prop :=
  ∃ (e : Int) (A : Option Addr) (N m : Nat) (L : List Stp) (p' c' q' : Int), en = .returned (pragg e A N m) ∧ Kp b w w' ∧ IsRd w' b s p' c' q' ∧ Pts w' (fun k => w.heap.size ≤ k) A N L ∧ N ≤ m ∧ (A = none → m = 0) ∧
    N ≤ 64 ∧ plen 8 L ∧ St prj0 n (prd z p) p c q (e, L) p' c' q'
end Go.Proofs.Ythpgandifeiejaa.Cur

namespace Go.Proofs.Ythpgandifeiejaa.Cur
open Go.RowKit Mem
set_option linter.unusedVariables false
set_option maxRecDepth 100000


set_option maxHeartbeats 4000000 in
theorem pread_any (b : Nat) (a : Option Addr) (n m : Nat) (z : List Int) (p c q : Int) (w : World) (h : IsRd w b (.slice a n m) p c q) (hz : Bs w a n z) (h0 : 0 ≤ p) (h1 : p ≤ n) (hn : n ≤ 100000) (hby : ∀ x ∈ z, 0 ≤ x ∧ x < 256) :
    Calls Try.prog 44 #[.pointer (some ⟨b, 0, none⟩)] w (PRdPost b (.slice a n m) n z p c q w) := by
  have HBY := Lib.hid hby
  have HZL := Lib.hid hz.1
  clear hby
  have hA := Blk.new w (prc 0 none 0 0) 25
  have hb1 := below_one w (.cells (prc 0 none 0 0) 25)
  have hbl := h.lt
  have hr := h.below hb1
  have HK := Lib.hid (Kp.of_below (b := b) hb1)
  have HZ : Hid (∀ w', Kp b w w' → Bs w' a n z) := Lib.hid fun w' hk => hz.kp h (by simp) hk
  clear hb1 h hz
  go_enter Try.func44, Try.ntmps44
  go_wp2_with fail
  refine (eread_any b a n m z p c q _ hr (HZ.out _ HK.out) h0 h1 (by omega) HBY.out).mono ?_
  rintro en w1 ⟨e, p1, c1, q1, rfl, hk1, hr1, hs1⟩
  have HS1 := Lib.hid hs1
  have hA1 := (blk_kp hA hk1 (by omega)).alloc (.cells (prc e none 0 0) 25)
  have hP1 := Blk.new w1 (prc e none 0 0) 25
  have hbS := below_one w1 (.cells (prc e none 0 0) 25)
  have hr2 := hr1.below hbS
  have HK1 := Lib.hid ((HK.out.trans hk1).trans (Kp.of_below (b := b) hbS))
  have hxs : w.heap.size < w1.heap.size := by have := hk1.size; simp at this; omega
  have hpl := hs1.place
  have hsz : (w1.alloc (.cells (prc e none 0 0) 25)).heap.size = w1.heap.size + 1 := by simp
  clear hs1 hk1 hA hr hr1 HK hbS
  go_wp2_with fail
  generalize w1.alloc (.cells (prc e none 0 0) 25) = w2 at *
  generalize w1.heap.size = xs at *
  refine (pnum_any b a n m z p1 c1 q1 _ hr2 (HZ.out _ HK1.out) hpl.1 hpl.2 (by omega) HBY.out).mono ?_
  rintro en w3 ⟨N, p2, c2, q2, rfl, hk3, hr3, hs3⟩
  obtain ⟨n0, n8, _⟩ := mny_bd hs3 HZL.out hpl.1 hpl.2 HBY.out
  have hN8 : N ≤ 64 := by omega
  obtain ⟨N, rfl⟩ := Int.eq_ofNat_of_zero_le n0
  have HS3 := Lib.hid hs3
  have hpl3 := hs3.place
  have hA3 := blk_kp hA1 hk3 (by omega)
  have hP3 := blk_kp hP1 hk3 (by omega)
  have HK3 := Lib.hid (HK1.out.trans hk3)
  have hsz3 := hk3.size
  clear hs3 hk3 hr2 hA1 hP1 HK1 n8 n0
  go_wp2
  go_loopw [4, 11] (fun fv i wr => ∃ (k : Nat) (v : Value) (L : List Stp) (f pk ck qk : Int), k ≤ N ∧ i = .int .i64 k ∧ fv = .int .u64 f ∧ 0 ≤ f ∧ f ≤ 4611686018427387904 ∧ Blk wr xs #[.int .u64 e, v] 25 ∧ Blk wr w.heap.size (prc 0 none 0 0) 25 ∧ OwnPts wr (xs + 1) v L ∧ L.length = k ∧ Hid (plen 8 L) ∧ IsRd wr b (.slice a n m) pk ck qk ∧ Hid (Kp b w wr) ∧ 0 ≤ pk ∧ pk ≤ n ∧ xs + 1 ≤ wr.heap.size ∧ Hid (PsSt n z N p2 c2 q2 k L f pk ck qk)) (fun _ i _ => N - (intOf i).toNat)
  case atStart => exact ⟨0, .slice none 0 0, [], 0, p2, c2, q2, by omega, rfl, rfl, by omega, by omega, hP3, hA3, OwnPts.nil _ _, rfl, Lib.hid (fun s h => by simp at h), hr3, HK3, hpl3.1, hpl3.2, by omega, Lib.hid (PsSt.start hpl3.1 hpl3.2)⟩
  case round =>
    clear hA3 hP3 hr3 HK3 hsz3
    obtain ⟨k, v, L, f, pk, ck, qk, hk, rfl, rfl, f0, f1, hP, hA, ho, hLl, HLE, hr, HK, hp0, hp1, hsz4, HST⟩ := hrel
    by_cases hlt : k < N
    · have hcon := sread19_any b a n m z f pk ck qk wr hr (HZ.out _ HK.out) hp0 hp1 hn HBY.out f0 (by omega)
      have HLL := Lib.hid hLl
      clear hLl
      have e2 : (k : Int) < N := by omega
      have e3 : IntKind.i64.wrap ((k : Int) + 1) = ((k + 1 : Nat) : Int) := IntWalk.i64_in _ (by omega)
      clear hr
      go_wp2_with fail
      refine hcon.mono ?_
      rintro en w5 ⟨f', t, A5, N5, m5, S5, p5, c5, q5, rfl, hk5, hr5, hst5, hm5, hn5, hf5, ht5, hsb5, hl5, hN5, hs5⟩
      have hto := str_to hs5 HZL.out f0 hp0 hp1 HBY.out
      replace hto : 0 ≤ t ∧ t ≤ 4611686018427387904 := hto
      have HNX := Lib.hid (HST.out.next hlt hs5)
      have hpl5 := hs5.place
      have hK5 := HK.out.trans hk5
      have hP5 := blk_kp hP hk5 (by omega)
      have hA5 := blk_kp hA hk5 (by omega)
      have ho5 := ho.kp hk5 (by omega)
      have hsz5 := Nat.le_trans hsz4 hk5.size
      have hltv := ho.lt
      have hwr5 := hk5.size
      obtain ⟨Av, cv, rfl, _⟩ := ho.pts
      clear hcon hs5 hk5 hP hA ho hsb5
      have hX := Blk.new w5 (stc f' t A5 N5 m5) 31
      have hbX := below_one w5 (.cells (stc f' t A5 N5 m5) 31)
      have hP6 := hP5.below hbX
      have hA6 := hA5.below hbX
      have ho6 := ho5.below hbX
      have hr6 := hr5.below hbX
      have hst6 := hst5.below hbX
      have HK6 := Lib.hid (hK5.trans (Kp.of_below (b := b) hbX))
      have hsx : xs + 1 ≤ w5.heap.size := by omega
      have hsz6 : xs + 1 ≤ (w5.alloc (.cells (stc f' t A5 N5 m5) 31)).heap.size := by simp; omega
      have hwr6 : wr.heap.size ≤ (w5.alloc (.cells (stc f' t A5 N5 m5) 31)).heap.size := by simp; omega
      have hbw : b < wr.heap.size := by omega
      obtain ⟨x0, x1, x2⟩ := hX.c3
      clear hP5 hA5 ho5 hr5 hst5 hK5 hsz5 hwr5 hbX
      go_upto_region 7 with (fail)
      generalize w5.alloc (.cells (stc f' t A5 N5 m5) 31) = w6 at *
      generalize w5.heap.size = sx at *
      obtain ⟨y0, y1⟩ := hP6.c2
      have hb7 := below_one w6 (.cells #[.int .u64 f', .int .u64 t, .slice A5 N5 m5] 31)
      have hrwX := rw_new w6 [.int .u64 f', .int .u64 t, .slice A5 N5 m5] 31
      have ho7 := ho6.below hb7
      have hst7 := hst6.below hb7
      have hr7 := hr6.below hb7
      have hP7 := hP6.below hb7
      have hA7 := hA6.below hb7
      have hK7 := HK6.out.trans (Kp.of_below (b := b) hb7)
      have hel := StE.mk hf5 ht5 hst7.1 hm5 hn5 (hst7.mono (Q := fun k => xs + 1 ≤ k ∧ (Value.slice Av L.length cv).ownBlock ≠ some k) (fun g hg _ => ⟨by have h2 : wr.heap.size ≤ g := hg; omega, fun e => by have := hltv g e; have h2 : wr.heap.size ≤ g := hg; omega⟩))
      obtain ⟨cs, g1, g2', g3⟩ := ho7
      have g2 : (w6.alloc (.cells #[.int .u64 f', .int .u64 t, .slice A5 N5 m5] 31)).ownsRow (xs + 1) 31 3 (.slice Av L.length cv) L.length cs.flatten := g2'
      clear g2'
      have hge2 := own_ge g2
      have HL1 : Hid (L.length + 1 ≤ 1000000) := Lib.hid (by rw [HLL.out]; omega)
      have hB7 : xs + 1 ≤ (w6.alloc (.cells #[.int .u64 f', .int .u64 t, .slice A5 N5 m5] 31)).heap.size := by simp; omega
      have HHL : Hid (∀ l ∈ S5, l.length ≤ 8) := Lib.hid hl5
      have HS5 := Lib.hid hst6.1
      clear hX hltv hP6 hA6 ho6 hr6 hst6 hst7 hb7 hl5
      go_wp2_with (at_builtin; go_must (refine list_append_rw kindST rfl (.tmp 19) (.tmp 21) rfl (xs + 1) _ _ _ rfl g2 _ 1 _ [.int .u64 f', .int .u64 t, .slice A5 N5 m5] rfl rfl hrwX (by simp) (by simp [Value.oneCell']) HL1.out (by omega) hB7 ?_; intro v' w8 ho8 hg8 hgr8; have H8 := OwnPts.snoc g1 g3 hel ho8 hg8 hgr8; have hr8 := rd_grown hr7 hg8 (fun e => by have := hge2 b e; omega); have hK8 := hK7.grown hg8 (fun g e => by have := hge2 g e; omega); have hP8 : Blk w8 xs #[.int .u64 e, .slice Av L.length cv] 25 := (hg8.block xs hP7.lt (fun e => by have := hge2 xs e.symm; omega)).trans hP7; have hA8 : Blk w8 w.heap.size (prc 0 none 0 0) 25 := (hg8.block w.heap.size hA7.lt (fun e => by have := hge2 w.heap.size e.symm; omega)).trans hA7; have hs8 := hg8.size; obtain ⟨A8, c8, hv8, _⟩ := H8.pts; rw [show (L ++ [(f', t, S5)]).length = k + 1 by simp [HLL.out]] at hv8; subst hv8; have HO9 := Lib.hid (H8.ks (Ks.setCell (S := fun k => k = xs) w8 xs 1 (.slice A8 (k + 1) c8) rfl) (fun g hg => by omega)); have HP9 := Lib.hid (hP8.set 1 (.slice A8 (k + 1) c8)); have HA9 := Lib.hid (hA8.far (g := xs) 1 (.slice A8 (k + 1) c8) (by omega)); have HR9 := Lib.hid (hr8.kp (Kp.setCell w8 xs 1 (.slice A8 (k + 1) c8)) (by omega)); have HK9 := Lib.hid (hK8.far (p := ⟨xs, 1, none⟩) (by show w.heap.size ≤ xs; omega) (.slice A8 (k + 1) c8)); have HSZ9 : Hid (xs + 1 ≤ (w8.setCell ⟨xs, 1, none⟩ (.slice A8 (k + 1) c8)).heap.size) := Lib.hid (by simp at *; omega); clear x0 x1 x2 y0 y1; obtain ⟨y0, y1⟩ := hP8.c2; have yf := hP8.free 1; clear g1 g2 g3 hel ho8 hg8 hgr8 hrwX hr7 hge2 hB7 H8 hr8 hK8 hP8 hA8 hs8 hP7 hA7 hK7))
      go_roundw
      case rel => exact ⟨k + 1, .slice A8 (k + 1) c8, L ++ [(f', t, S5)], t, p5, c5, q5, by omega, by go_num, rfl, hto.1, hto.2, HP9.out, HA9.out, HO9.out, by simp [HLL.out], Lib.hid (fun s hs => by
        rcases List.mem_append.1 hs with hs | hs
        · exact HLE.out s hs
        · rw [List.mem_singleton] at hs; subst hs; exact ⟨by show S5.length ≤ 8; rw [HS5.out]; exact hN5, HHL.out⟩), HR9.out, HK9, hpl5.1, hpl5.2, HSZ9.out, HNX⟩
      case measure => simp [intOf]; omega
    · obtain rfl : k = N := by omega
      have HF := Lib.hid (HST.out.fin (.inl rfl) hp0 hp1)
      obtain ⟨A0, cv, rfl, hle, hnil, hpt⟩ := ho.pts
      rw [hLl] at hpt hle hP
      have HPT := Lib.hid hpt
      have HNIL := Lib.hid hnil
      clear hpt hnil HST ho hlt hLl
      by_cases hfm : f < 4611686018427387904
      · have HG := Lib.hid (fun c' q' => prd_bad (c' := c') (q' := q') HS1.out HS3.out HF.out hfm)
        go_wp2_with fail
        refine (at_any b _ pk ck qk wr hr).mono ?_
        rintro en w' ⟨rfl, rfl⟩
        go_wp2_with fail
        refine (fail_any _ _ _ _ _ 3 pk _ hr).mono ?_
        rintro en w6 ⟨c6, q6, rfl, hk6, hr6, hf6⟩
        have hc6 : c6 ≠ 0 := by
          rcases hf6 with ⟨_, rfl, _⟩ | ⟨h, rfl, _⟩
          · decide
          · exact h
        have HFIN := Lib.hid (HG.out _ _ hf6)
        have hA6 := blk_kp hA hk6 (by omega)
        have hK6 := HK.out.trans hk6
        have hcb : (c6 == 0) = false := by simpa using hc6
        clear hf6 hk6 hr hA hP HF HG hc6 HK
        go_wp2_with fail
        refine (good_any _ _ _ _ _ _ hr6).mono ?_
        rintro en w7 ⟨rfl, hb7⟩
        have hA7 := hA6.below hb7
        have HR7 := Lib.hid (hr6.below hb7)
        have HK7 := Lib.hid (hK6.trans (Kp.of_below (b := b) hb7))
        obtain ⟨x0, x1⟩ := hA7.c2
        have g0 := hA7.free 0
        have g1 := hA7.free 1
        clear hb7 hA6 hA7 hr6 hK6 HPT
        go_wp2
        refine bodyPost_ret (v := pragg 0 none 0 0) (by simp [results, Try.results44, go_sem, x0, x1]) rfl ⟨0, none, 0, 0, [], pk, c6, q6, rfl, ?_, ?_, ⟨rfl, Sq.nil _ _ _ _⟩, by omega, fun _ => rfl, by omega, (fun s h => by simp at h), HFIN.out⟩
        · iterate 2 (refine Kp.far ?_ (by simp) _)
          exact HK7.out
        · iterate 2 (refine IsRd.kp ?_ (Kp.setCell _ w.heap.size _ _) (by omega))
          exact HR7.out
      · have HFIN := Lib.hid (prd_good HS1.out HS3.out HF.out (by omega))
        clear HF
        go_wp2_with fail
        refine (good_any _ _ _ _ _ _ hr).mono ?_
        rintro en w7 ⟨rfl, hb7⟩
        have hA7 := hA.below hb7
        have hP7 := hP.below hb7
        have HR7 := Lib.hid (hr.below hb7)
        have HK7 := Lib.hid (HK.out.trans (Kp.of_below (b := b) hb7))
        have HT7 := Lib.hid (HPT.out.below hb7)
        obtain ⟨x0, x1⟩ := hA7.c2
        obtain ⟨y0, y1⟩ := hP7.c2
        have g0 := hA7.free 0
        have g1 := hA7.free 1
        clear hb7 hA hA7 hP hP7 hr HPT HK hfm
        by_cases hc : ck = 0
        · have hcb : (ck == 0) = true := by simpa using hc
          have HC := Lib.hid hc
          clear hc
          go_wp2
          refine bodyPost_ret (v := pragg e A0 k cv) (by simp [results, Try.results44, go_sem, x0, x1]) rfl ⟨e, A0, k, cv, L, pk, ck, qk, rfl, ?_, ?_, ?_, hle, HNIL.out, by omega, HLE.out, by have := HFIN.out; rw [if_pos HC.out] at this; exact this⟩
          · iterate 2 (refine Kp.far ?_ (by simp) _)
            exact HK7.out
          · iterate 2 (refine IsRd.kp ?_ (Kp.setCell _ w.heap.size _ _) (by omega))
            exact HR7.out
          · refine Pts.mono (Pts.keep HT7.out (fun g hg hl => ?_)) (fun g hg _ => by omega)
            rw [Below.heap_setCell _ _ _ _ (by simp; omega), Below.heap_setCell _ _ _ _ (by simp; omega)]
        · have hcb : (ck == 0) = false := by simpa using hc
          have HC := Lib.hid hc
          clear hc
          go_wp2
          refine bodyPost_ret (v := pragg 0 none 0 0) (by simp [results, Try.results44, go_sem, x0, x1]) rfl ⟨0, none, 0, 0, [], pk, ck, qk, rfl, ?_, ?_, ⟨rfl, Sq.nil _ _ _ _⟩, by omega, fun _ => rfl, by omega, (fun s h => by simp at h), by have := HFIN.out; rw [if_neg HC.out] at this; exact this⟩
          · iterate 2 (refine Kp.far ?_ (by simp) _)
            exact HK7.out
          · iterate 2 (refine IsRd.kp ?_ (Kp.setCell _ w.heap.size _ _) (by omega))
            exact HR7.out
end Go.Proofs.Ythpgandifeiejaa.Cur

namespace Go.Proofs.Ythpgandifeiejaa.Cur
open Go.RowKit Mem
set_option linter.unusedVariables false
set_option maxRecDepth 100000


theorem heap4d {w : World} {b1 b2 g : Nat} (h1 : g ≠ b1) (h2 : g ≠ b2) (u0 u1 u2 u3 : Value) : ((((w.setCell ⟨b1, 0, none⟩ u0).setCell ⟨b1, 1, none⟩ u1).setCell ⟨b2, 0, none⟩ u2).setCell ⟨b2, 1, none⟩ u3).heap[g]? = w.heap[g]? := by
  rw [Below.heap_setCell _ _ _ _ h2, Below.heap_setCell _ _ _ _ h2, Below.heap_setCell _ _ _ _ h1, Below.heap_setCell _ _ _ _ h1]
def PGPost (n : Nat) (z : List Int) (w : World) (en : Ending) (w' : World) : Prop :=
  ∃ (e : Int) (A : Option Addr) (N m : Nat) (L : List Stp) (p' c' q' : Int), en = .returned (.tuple #[pragg e A N m, .int .i64 (if c' = 0 then p' else 0), .agg #[.int .i64 c', .int .i64 q']]) ∧ Below w.heap.size w w' ∧ Pts w' (fun k => w.heap.size ≤ k) A N L ∧ N ≤ m ∧ (A = none → m = 0) ∧
    N ≤ 64 ∧ plen 8 L ∧ St prj0 n (prd z 0) 0 0 0 (e, L) p' c' q'
set_option maxHeartbeats 2000000 in
theorem pget_any (a : Option Addr) (n m : Nat) (z : List Int) (w : World) (hz : Bs w a n z) (hm : n ≤ m) (hn : n ≤ 100000) (hby : ∀ x ∈ z, 0 ≤ x ∧ x < 256) :
    Calls Try.prog 22 #[.slice a n m] w (PGPost n z w) := by
  have HBY := Lib.hid hby
  clear hby
  have hA := (Blk.new w (prc 0 none 0 0) 25).alloc (.cells #[.int .i64 0, .int .i64 0] 40)
  have hF := Blk.new (w.alloc (.cells (prc 0 none 0 0) 25)) #[.int .i64 0, .int .i64 0] 40
  rw [show (w.alloc (.cells (prc 0 none 0 0) 25)).heap.size = w.heap.size + 1 by simp] at hF
  have hb2 := below_two w (.cells (prc 0 none 0 0) 25) (.cells #[.int .i64 0, .int .i64 0] 40)
  go_enter Try.func22, Try.ntmps22
  go_wp2_with fail
  have hsz : ((w.alloc (.cells (prc 0 none 0 0) 25)).alloc (.cells #[.int .i64 0, .int .i64 0] 40)).heap.size = w.heap.size + 2 := by simp
  generalize (w.alloc (.cells (prc 0 none 0 0) 25)).alloc (.cells #[.int .i64 0, .int .i64 0] 40) = w0 at *
  refine (new_some _ _ _ _ hm).mono ?_
  rintro en w1 ⟨rb, rfl, hrb, hb1, hr⟩
  replace hA := hA.below hb1
  replace hF := hF.below hb1
  have hbd := hb2.trans (hb1.mono hb2.size)
  have hrw : w.heap.size + 2 ≤ rb := by omega
  have hw1 : w.heap.size + 2 ≤ w1.heap.size := by have := hb1.size; omega
  clear hb1 hb2 hsz hrb
  go_wp2_with fail
  refine (pread_any _ _ _ _ _ _ _ _ _ hr (hz.below hbd) (by omega) (by omega) hn HBY.out).mono ?_
  rintro en w2 ⟨e, A, N, mm, L, p', c', q', rfl, hk, hr2, hpt, hNm, hnl, hN, hpl, hs⟩
  have HS := Lib.hid hs
  have HQ : Hid (c' = 0 → q' = 0) := Lib.hid fun h => (by subst h; exact hs.good.2.2.2.2)
  have hA2 := (blk_kp hA hk (by omega)).alloc (.cells (prc e A N mm) 25)
  have hF2 := (blk_kp hF hk (by omega)).alloc (.cells (prc e A N mm) 25)
  have hX2 := Blk.new w2 (prc e A N mm) 25
  have hbx := below_one w2 (.cells (prc e A N mm) 25)
  have hbd2 := Kp.below hbd (Nat.le_refl _) hk (by omega)
  have hbd3 := hbd2.trans (hbx.mono hbd2.size)
  have hr3 := hr2.below hbx
  have hpt3 := hpt.below hbx
  have hx2 : w.heap.size + 2 ≤ w2.heap.size := by have := hk.size; omega
  have HNL := Lib.hid hnl
  clear hs hA hF hbd hr hk hbx hbd2 hr2 hpt hnl
  go_wp2_with fail
  generalize w2.alloc (.cells (prc e A N mm) 25) = w3 at *
  generalize w2.heap.size = xb at *
  refine (good_any _ _ _ _ _ _ hr3).mono ?_
  rintro en w4 ⟨rfl, hb4⟩
  replace hA2 := hA2.below hb4
  replace hF2 := hF2.below hb4
  replace hX2 := hX2.below hb4
  replace hr3 := hr3.below hb4
  have HPT := Lib.hid (hpt3.below hb4)
  have hbd4 := hbd3.trans (hb4.mono hbd3.size)
  clear hb4 hbd3 hpt3
  by_cases hc : c' = 0
  · have hq := HQ.out hc
    subst hc hq
    obtain ⟨x0, x1⟩ := hA2.c2
    obtain ⟨y0, y1⟩ := hF2.c2
    obtain ⟨g0, g1⟩ := hF2.f2
    obtain ⟨d0, d1⟩ := hX2.c2
    obtain ⟨f0, f1⟩ := hA2.f2
    clear hX2 hA2 hF2
    go_wp2
    go_region_with (go_at_call 47; refine (at_any _ _ _ _ _ _ (by exact hr3)).mono ?_; rintro e w' ⟨rfl, rfl⟩)
    all_goals (go_wp2; refine bodyPost_ret (v := .tuple #[pragg e A N mm, .int .i64 p', .agg #[.int .i64 0, .int .i64 0]]) (by simp [results, Try.results22, go_sem, x0, x1, y0, y1]) rfl ⟨e, A, N, mm, L, p', 0, 0, by rw [if_pos rfl], ?_, ?_, hNm, HNL.out, hN, hpl, HS.out⟩)
    all_goals first
      | (refine Pts.mono (Pts.keep HPT.out (fun g hg hl => ?_)) (fun g hg _ => by have h2 : w1.heap.size ≤ g := hg; omega); have h2 : w1.heap.size ≤ g := hg; first | exact heap4d (by omega) (by omega) _ _ _ _)
      | (refine Below.drew ?_; exact Below.setCell (Below.setCell (Below.setCell (Below.setCell hbd4 (by simp) _) (by simp) _) (by simp) _) (by simp) _)
  · have hcb : (c' == 0) = false := by simpa using hc
    have HS0 := Lib.hid (HS.out.nil hc)
    have HC := Lib.hid hc
    clear hc
    go_wp2_with fail
    refine (fault_any _ _ _ _ _ _ hr3).mono ?_
    rintro en w5 ⟨rfl, hb5⟩
    replace hA2 := hA2.below hb5
    replace hF2 := hF2.below hb5
    have hbd5 := hbd4.trans (hb5.mono hbd4.size)
    obtain ⟨x0, x1⟩ := hA2.c2
    obtain ⟨y0, y1⟩ := hF2.c2
    obtain ⟨g0, g1⟩ := hF2.f2
    obtain ⟨f0, f1⟩ := hA2.f2
    clear hb5 hbd4 hX2 hr3 hA2 hF2
    go_wp2
    refine bodyPost_ret (v := .tuple #[pragg 0 none 0 0, .int .i64 0, .agg #[.int .i64 c', .int .i64 q']]) (by simp [results, Try.results22, go_sem, x0, x1, y0, y1]) rfl ⟨0, none, 0, 0, [], p', c', q', by rw [if_neg HC.out], ?_, ⟨rfl, Sq.nil _ _ _ _⟩, by omega, fun _ => rfl, by omega, (fun s h => by simp at h), by have := HS.out; rw [HS0.out] at this; exact this⟩
    iterate 4 (refine Below.setCell ?_ (by simp) _)
    exact hbd5
end Go.Proofs.Ythpgandifeiejaa.Cur

namespace Go.Proofs.Ythpgandifeiejaa.Cur
open Go.RowKit Mem
set_option linter.unusedVariables false
set_option maxRecDepth 100000

def PDPost (n : Nat) (z : List Int) (w : World) (en : Ending) (w' : World) : Prop :=
  ∃ (e : Int) (A : Option Addr) (N m : Nat) (L : List Stp) (p' c' q' : Int), St prj0 n (prd z 0) 0 0 0 (e, L) p' c' q' ∧ Below w.heap.size w w' ∧ N ≤ 64 ∧ plen 8 L ∧
    ((c' = 0 ∧ p' < n ∧ en = .returned (.tuple #[pragg 0 none 0 0, .agg #[.int .i64 9, .int .i64 p']])) ∨
      (¬ (c' = 0 ∧ p' < n) ∧ en = .returned (.tuple #[pragg e A N m, .agg #[.int .i64 c', .int .i64 q']]) ∧ Pts w' (fun k => w.heap.size ≤ k) A N L))
set_option maxHeartbeats 2000000 in
theorem pdecode_any (a : Option Addr) (n m : Nat) (z : List Int) (w : World) (hz : Bs w a n z) (hm : n ≤ m) (hn : n ≤ 100000) (hby : ∀ x ∈ z, 0 ≤ x ∧ x < 256) :
    Calls Try.prog 9 #[.slice a n m] w (PDPost n z w) := by
  have hA := (Blk.new w (prc 0 none 0 0) 25).alloc (.cells #[.int .i64 0, .int .i64 0] 40)
  have hF := Blk.new (w.alloc (.cells (prc 0 none 0 0) 25)) #[.int .i64 0, .int .i64 0] 40
  rw [show (w.alloc (.cells (prc 0 none 0 0) 25)).heap.size = w.heap.size + 1 by simp] at hF
  have hb2 := below_two w (.cells (prc 0 none 0 0) 25) (.cells #[.int .i64 0, .int .i64 0] 40)
  have hget := pget_any a n m z _ (hz.below hb2) hm hn hby
  have hsz : ((w.alloc (.cells (prc 0 none 0 0) 25)).alloc (.cells #[.int .i64 0, .int .i64 0] 40)).heap.size = w.heap.size + 2 := by simp
  go_enter Try.func9, Try.ntmps9
  go_wp2_with fail
  generalize (w.alloc (.cells (prc 0 none 0 0) 25)).alloc (.cells #[.int .i64 0, .int .i64 0] 40) = w0 at *
  refine hget.mono ?_
  rintro en w1 ⟨e, A, N, mm, L, p', c', q', rfl, hb1, hpt, hNm, hnl, hN, hpl, hs⟩
  obtain ⟨N', hN'⟩ : ∃ N' : Int, N' = (if c' = 0 then p' else 0) := ⟨_, rfl⟩
  rw [← hN']
  have HN' := Lib.hid hN'
  have HS := Lib.hid hs
  have hA1 := ((hA.below hb1).alloc (.cells (prc e A N mm) 25)).alloc (.cells #[.int .i64 c', .int .i64 q'] 40)
  have hF1 := ((hF.below hb1).alloc (.cells (prc e A N mm) 25)).alloc (.cells #[.int .i64 c', .int .i64 q'] 40)
  have hX1 := (Blk.new w1 (prc e A N mm) 25).alloc (.cells #[.int .i64 c', .int .i64 q'] 40)
  have hY1 := Blk.new (w1.alloc (.cells (prc e A N mm) 25)) #[.int .i64 c', .int .i64 q'] 40
  rw [show (w1.alloc (.cells (prc e A N mm) 25)).heap.size = w1.heap.size + 1 by simp] at hY1
  have hbx := below_two w1 (.cells (prc e A N mm) 25) (.cells #[.int .i64 c', .int .i64 q'] 40)
  have hbd := hb2.trans (hb1.mono hb2.size)
  replace hbd := hbd.trans (hbx.mono hbd.size)
  have hpt1 := hpt.below hbx
  have hw1 : w.heap.size + 2 ≤ w1.heap.size := by have := hb1.size; omega
  have hw0 : w.heap.size + 2 ≤ w0.heap.size := by omega
  have HNL := Lib.hid hnl
  obtain ⟨y0, y1⟩ := hY1.c2
  clear hb1 hb2 hbx hA hF hget hsz hN' hs hpt hnl
  go_wp2_with fail
  clear y0 y1
  generalize (w1.alloc (.cells (prc e A N mm) 25)).alloc (.cells #[.int .i64 c', .int .i64 q'] 40) = w2 at *
  generalize w1.heap.size = xb at *
  refine (fgood_any _ _ _).mono ?_
  rintro en w3 ⟨rfl, hb3⟩
  replace hA1 := hA1.below hb3
  replace hF1 := hF1.below hb3
  replace hX1 := hX1.below hb3
  replace hY1 := hY1.below hb3
  have HPT := Lib.hid (hpt1.below hb3)
  replace hbd := hbd.trans (hb3.mono hbd.size)
  clear hb3 hpt1
  by_cases hc : c' = 0 ∧ N' < n
  · obtain ⟨hc0, hlt⟩ := hc
    have hNp := HN'.out
    rw [if_pos hc0] at hNp
    subst hNp
    have HC := Lib.hid hc0
    have HLT := Lib.hid hlt
    subst hc0
    have HQ : Hid (fq 9 N' = N') := Lib.hid (by unfold fq; rw [if_neg (by decide)])
    go_wp2_with fail
    refine (fat_any _ _ _).mono ?_
    rintro en w4 ⟨rfl, hb4⟩
    rw [HQ.out]
    replace hA1 := hA1.below hb4
    replace hF1 := hF1.below hb4
    replace hbd := hbd.trans (hb4.mono hbd.size)
    obtain ⟨x0, x1⟩ := hA1.c2
    obtain ⟨u0, u1⟩ := hF1.c2
    obtain ⟨g0, g1⟩ := hF1.f2
    obtain ⟨f0, f1⟩ := hA1.f2
    clear hb4 hX1 hY1 hA1 hF1 HN' HQ
    go_wp2
    refine bodyPost_ret (v := .tuple #[pragg 0 none 0 0, .agg #[.int .i64 9, .int .i64 N']]) (by simp [results, Try.results9, go_sem, x0, x1, u0, u1]) rfl ⟨e, A, N, mm, L, N', 0, q', HS.out, ?_, hN, hpl, .inl ⟨rfl, HLT.out, rfl⟩⟩
    exact Below.setCell (Below.setCell (Below.setCell (Below.setCell hbd (by simp) _) (by simp) _) (by simp) _) (by simp) _
  · have HNO : Hid (¬ (c' = 0 ∧ p' < n)) := Lib.hid (fun h => hc (by rw [HN'.out, if_pos h.1]; exact h))
    obtain ⟨x0, x1⟩ := hA1.c2
    obtain ⟨u0, u1⟩ := hF1.c2
    obtain ⟨g0, g1⟩ := hF1.f2
    obtain ⟨d0, d1⟩ := hX1.c2
    obtain ⟨y0, y1⟩ := hY1.c2
    obtain ⟨f0, f1⟩ := hA1.f2
    clear hX1 hY1 hA1 hF1 HN'
    by_cases hc0 : c' = 0
    · subst hc0
      have hlt : ¬ N' < n := fun h => hc ⟨rfl, h⟩
      clear hc
      go_wp2
      go_region
      all_goals (go_wp2; refine bodyPost_ret (v := .tuple #[pragg e A N mm, .agg #[.int .i64 0, .int .i64 q']]) (by simp [results, Try.results9, go_sem, x0, x1, u0, u1]) rfl ⟨e, A, N, mm, L, p', 0, q', HS.out, ?_, hN, hpl, .inr ⟨fun h => HNO.out ⟨trivial, h.2⟩, rfl, ?_⟩⟩)
      all_goals first
        | (refine Pts.mono (Pts.keep HPT.out (fun g hg hl => ?_)) (fun g hg _ => by have h2 : w0.heap.size ≤ g := hg; omega); have h2 : w0.heap.size ≤ g := hg; exact heap4d (by omega) (by omega) _ _ _ _)
        | exact Below.drew (Below.setCell (Below.setCell (Below.setCell (Below.setCell hbd (by simp) _) (by simp) _) (by simp) _) (by simp) _)
        | exact Below.setCell (Below.setCell (Below.setCell (Below.setCell (below_drewN hbd _) (by simp) _) (by simp) _) (by simp) _) (by simp) _
    · have hcb : (c' == 0) = false := by simpa using hc0
      clear hc hc0
      go_wp2
      go_region
      all_goals (go_wp2; refine bodyPost_ret (v := .tuple #[pragg e A N mm, .agg #[.int .i64 c', .int .i64 q']]) (by simp [results, Try.results9, go_sem, x0, x1, u0, u1]) rfl ⟨e, A, N, mm, L, p', c', q', HS.out, ?_, hN, hpl, .inr ⟨HNO.out, rfl, ?_⟩⟩)
      all_goals first
        | (refine Pts.mono (Pts.keep HPT.out (fun g hg hl => ?_)) (fun g hg _ => by have h2 : w0.heap.size ≤ g := hg; omega); have h2 : w0.heap.size ≤ g := hg; exact heap4d (by omega) (by omega) _ _ _ _)
        | exact Below.drew (Below.setCell (Below.setCell (Below.setCell (Below.setCell hbd (by simp) _) (by simp) _) (by simp) _) (by simp) _)
        | exact Below.setCell (Below.setCell (Below.setCell (Below.setCell (below_drewN hbd _) (by simp) _) (by simp) _) (by simp) _) (by simp) _
end Go.Proofs.Ythpgandifeiejaa.Cur

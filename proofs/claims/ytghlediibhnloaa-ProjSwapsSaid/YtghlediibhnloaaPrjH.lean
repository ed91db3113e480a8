/- Projections read: the number of stripes, Read. -/
import Derived.Test.YtghlediibhnloaaPrjG
import Derived.Test.YtghlediibhnloaaStpJ
namespace Go.Proofs.Ytghlediibhnloaa.Cur
open Go.RowKit Mem
set_option linter.unusedVariables false
set_option maxRecDepth 100000



set_option maxHeartbeats 1000000 in
theorem pnum_any (b : Nat) (a : Option Addr) (n m : Nat) (z : List Int) (p c q : Int) (w : World) (h : IsRd w b (.slice a n m) p c q) (hz : Bs w a n z) (h0 : 0 ≤ p) (h1 : p ≤ n) (hn : n ≤ 1000000) (hby : ∀ x ∈ z, 0 ≤ x ∧ x < 256) :
    Calls Try.prog 60 #[.pointer (some ⟨b, 0, none⟩)] w (NumPost b (.slice a n m) n (mny z 64 p) p c q w) := by
  have HZL := hz.1
  have HBY := Lib.hid hby
  clear hby
  go_enter Try.func60, Try.ntmps60
  go_wp2_with fail
  refine (at_any b _ p c q w h).mono ?_
  rintro e w' ⟨rfl, rfl⟩
  go_wp2_with fail
  refine (vint_any _ _ _ _ _ _ _ _ _ _ h hz h0 h1 hn HBY.out (by omega)).mono ?_
  rintro e w1 ⟨v, p1, c1, q1, rfl, hk1, hr1, hs1⟩
  have hst := hs1.st hz.1 h0 h1 HBY.out
  obtain ⟨p10, p11⟩ := hst.place
  obtain ⟨v0, _⟩ := vm_bd hst HBY.out
  have HS := Lib.hid hst
  clear hs1 hst HZL
  by_cases hv : v = 0
  · subst hv
    go_wp2_with fail
    refine (fail_any _ _ _ _ _ 3 p _ hr1).mono ?_
    rintro e w2 ⟨c2, q2, rfl, hk2, hr2, hf⟩
    have HM : Hid (St 0 n (mny z 64 p) p c q 0 p1 c2 q2) := Lib.hid (HS.out.bind (f := fun k p1 => if k = 0 then (0, 0, 3, p) else (k, p1, 0, 0)) (St.fail (d' := 0) (x := 0) (by rw [if_pos rfl]) (by decide) p10 p11 hf))
    have HK := Lib.hid (hk1.trans hk2)
    clear hk1 hk2 hf
    go_wp2
    go_ret
    exact ⟨0, p1, c2, q2, rfl, HK.out, hr2, HM.out⟩
  · have hvb : (v == 0) = false := by simpa using hv
    have HM : Hid (St 0 n (mny z 64 p) p c q v p1 c1 q1) := Lib.hid (HS.out.bind (f := fun k p1 => if k = 0 then (0, 0, 3, p) else (k, p1, 0, 0)) (by
      rw [if_neg hv]
      by_cases hc : c1 = 0
      · subst hc; exact St.done rfl p10 p11
      · exact absurd (HS.out.nil hc) hv))
    clear hv
    go_wp2
    go_ret
    exact ⟨v, p1, c1, q1, rfl, hk1, hr1, HM.out⟩

/-! ### Rows of stripes of the call's own -/
def OwnPts (w : World) (B : Nat) (v : Value) (L : List Stp) : Prop := OwnQ StE 60 w B (fun k => B ≤ k ∧ v.ownBlock ≠ some k) v L
theorem OwnPts.nil (w : World) (B : Nat) : OwnPts w B (.slice none 0 0) [] := OwnQ.nil _ _ _ _ _
theorem OwnPts.ge {w : World} {B : Nat} {v : Value} {L : List Stp} (h : OwnPts w B v L) : ∀ g, v.ownBlock = some g → B ≤ g := by
  obtain ⟨cs, h1, h2, h3⟩ := h
  exact own_ge h2
theorem OwnPts.lt {w : World} {B : Nat} {v : Value} {L : List Stp} (h : OwnPts w B v L) : ∀ g, v.ownBlock = some g → g < w.heap.size := by
  obtain ⟨cs, h1, h2, h3⟩ := h
  exact fun g hg => (World.ownsRow.lt h2 g hg).2
theorem OwnPts.keep {w w' : World} {B : Nat} {v : Value} {L : List Stp} (h : OwnPts w B v L) (hk : ∀ b, B ≤ b → b < w.heap.size → w'.heap[b]? = w.heap[b]?) : OwnPts w' B v L := by
  have hge := h.ge
  have hlt := h.lt
  obtain ⟨cs, h1, h2, h3⟩ := h
  exact ⟨cs, h1.keep fun b hb hlt => hk b hb.1 hlt, own_block h2 fun k hk' => hk k (hge k hk') (hlt k hk'), h3⟩
theorem OwnPts.below {w w' : World} {B : Nat} {v : Value} {L : List Stp} (h : OwnPts w B v L) (hb : Below w.heap.size w w') : OwnPts w' B v L := h.keep fun b _ hlt => hb.block b hlt
theorem OwnPts.ks {S0 : Nat → Prop} {w w' : World} {B : Nat} {v : Value} {L : List Stp} (h : OwnPts w B v L) (k : Ks S0 w w') (h0 : ∀ g, S0 g → g < B) : OwnPts w' B v L := h.keep fun b hb hlt => k.block b hlt fun hs => by have := h0 b hs; omega
theorem OwnPts.kp {b : Nat} {w w' : World} {B : Nat} {v : Value} {L : List Stp} (h : OwnPts w B v L) (k : Kp b w w') (h0 : b < B) : OwnPts w' B v L := h.keep fun g hb hlt => k.block g hlt (by omega)
theorem OwnPts.pts {w : World} {B : Nat} {v : Value} {L : List Stp} (h : OwnPts w B v L) : ∃ A c, v = .slice A L.length c ∧ L.length ≤ c ∧ (A = none → c = 0) ∧ Pts w (fun k => B ≤ k) A L.length L := by
  have hge := h.ge
  obtain ⟨A, c, e, h1, h2, h3⟩ := OwnQ.slice h
  exact ⟨A, c, e, h1, h2, rfl, h3.mono fun b hb _ => by
    rcases hb with hb | hb
    · exact hb.1
    · exact hge b hb⟩
/-- One more stripe, behind an append. -/
theorem OwnPts.snoc {w w' : World} {B : Nat} {v v' : Value} {L : List Stp} {cs : List (List Value)} {c : List Value} {x : Stp}
    (h1 : Ch StE w (fun k => B ≤ k ∧ v.ownBlock ≠ some k) cs L) (h3 : ∀ g, v.ownBlock = some g → ¬ (fun k => B ≤ k ∧ v.ownBlock ≠ some k) g)
    (hx : StE.R w (fun k => B ≤ k ∧ v.ownBlock ≠ some k) c x) (ho : w'.ownsRow B 60 3 v' (L.length + 1) (cs.flatten ++ c)) (hg : w.grownBy w' v.ownBlock) (hgr : Gr v.ownBlock v'.ownBlock w) : OwnPts w' B v' (L ++ [x]) := by
  have h := OwnQ.snoc (E := StE) (e := 60) h1 h3 hx ho hg hgr
  refine h.mono (fun b hb _ => ⟨hb.1.1, fun e => ?_⟩) (fun g hg2 hh => hh.2 hg2)
  rcases hgr with e2 | ⟨g', e2, hg'⟩
  · exact hb.1.2 (by rw [← e2]; exact e)
  · rw [e2] at e
    injection e with e
    have := hb.2
    omega

/-! ### How far the stripes are read -/
def PsSt (n : Nat) (z : List Int) (N : Nat) (p2 c2 q2 : Int) (k : Nat) (L : List Stp) (f pk ck qk : Int) : Prop :=
  (ck = 0 ∧ c2 = 0 ∧ qk = q2 ∧ psg z N 0 p2 [] = psg z (N - k) f pk L) ∨ (ck ≠ 0 ∧ St (([] : List Stp), (0 : Int)) n (psg z N 0 p2 []) p2 c2 q2 ([], 0) pk ck qk)
theorem PsSt.start {n : Nat} {z : List Int} {N : Nat} {p2 c2 q2 : Int} (h0 : 0 ≤ p2) (h1 : p2 ≤ n) : PsSt n z N p2 c2 q2 0 [] 0 p2 c2 q2 := by
  by_cases hc : c2 = 0
  · exact .inl ⟨hc, hc, rfl, rfl⟩
  · exact .inr ⟨hc, St.stay h0 h1 hc⟩
theorem PsSt.next {n : Nat} {z : List Int} {N : Nat} {p2 c2 q2 : Int} {k : Nat} {L : List Stp} {f pk ck qk : Int} (h : PsSt n z N p2 c2 q2 k L f pk ck qk) (hk : k < N) {s : Stp} {p' c' q' : Int} (hs : St stp0 n (str z f pk) pk ck qk s p' c' q') :
    PsSt n z N p2 c2 q2 (k + 1) (L ++ [s]) s.2.1 p' c' q' := by
  obtain ⟨s0, s1⟩ := hs.place
  rcases h with ⟨rfl, rfl, rfl, e⟩ | ⟨hc, h⟩
  · have e2 : psg z (N - k) f pk L = (str z f pk).bind ([], 0) fun s p' => psg z (N - (k + 1)) s.2.1 p' (L ++ [s]) := by
      rw [show N - k = N - (k + 1) + 1 by omega]; rfl
    by_cases hc : c' = 0
    · subst hc
      obtain ⟨_, g0, gl, gp, gq⟩ := hs.good
      refine .inl ⟨rfl, rfl, gq, ?_⟩
      rw [e, e2]
      unfold Rs.bind
      rw [if_neg (by simp [g0]), ← gl, ← gp]
    · refine .inr ⟨hc, ?_⟩
      rw [e, e2]
      have := hs.bind (f := fun s p' => psg z (N - (k + 1)) s.2.1 p' (L ++ [s])) (St.stay (d := (([] : List Stp), (0 : Int))) s0 s1 hc)
      obtain ⟨a0, a1, a2⟩ := this
      refine ⟨a0, a1, ?_⟩
      rcases a2 with ⟨h, _⟩ | ⟨_, _, _, _, h, _⟩ | a2
      · exact absurd rfl h
      · exact absurd h hc
      · exact .inr (.inr a2)
  · have hb := hs.bad hc
    obtain ⟨_, rfl, rfl⟩ := hb
    refine .inr ⟨hc, ?_⟩
    obtain ⟨_, _, a2⟩ := h
    refine ⟨s0, s1, ?_⟩
    rcases a2 with a2 | ⟨_, _, _, _, h, _⟩ | a2
    · exact .inl a2
    · exact absurd h hc
    · exact .inr (.inr a2)
theorem PsSt.fin {n : Nat} {z : List Int} {N : Nat} {p2 c2 q2 : Int} {k : Nat} {L : List Stp} {f pk ck qk : Int} (h : PsSt n z N p2 c2 q2 k L f pk ck qk) (hk : k = N ∨ ck ≠ 0) (h0 : 0 ≤ pk) (h1 : pk ≤ n) : St (([] : List Stp), (0 : Int)) n (psg z N 0 p2 []) p2 c2 q2 (if ck = 0 then (L, f) else ([], 0)) pk ck qk := by
  rcases h with ⟨rfl, rfl, rfl, e⟩ | ⟨hc, h⟩
  · obtain rfl : k = N := by rcases hk with h | h; exact h; exact absurd rfl h
    rw [if_pos rfl]
    exact St.done (by rw [e, Nat.sub_self]; rfl) h0 h1
  · rw [if_neg hc]; exact h
/-- Where a stripe that is read ends. -/
theorem str_to {n : Nat} {z : List Int} {f p c q : Int} {s : Stp} {p' c' q' : Int} (h : St stp0 n (str z f p) p c q s p' c' q') (hz : z.length = n) (hf : 0 ≤ f) (h0 : 0 ≤ p) (h1 : p ≤ n) (hby : ∀ x ∈ z, 0 ≤ x ∧ x < 256) : 0 ≤ s.2.1 ∧ s.2.1 ≤ 4611686018427387904 := by
  by_cases hc : c' = 0
  · subst hc
    obtain ⟨_, g0, gl, _⟩ := h.good
    obtain ⟨s', p2, e, e1, e2, _⟩ := str_once hby hf h0 (by rw [hz]; exact h1) g0
    rw [e] at gl
    have : s = s' := gl
    subst this
    have := stok_parts e2
    omega
  · rw [h.nil hc]
    exact ⟨by show (0 : Int) ≤ 0; omega, by show (0 : Int) ≤ _; omega⟩
/-- What it comes to. -/
theorem prd_bad {n : Nat} {z : List Int} {p c q e p1 c1 q1 p2 c2 q2 f pk ck qk c' q' : Int} {N : Nat} {L : List Stp} (h1 : St 0 n (ve epk z p) p c q e p1 c1 q1) (h2 : St 0 n (mny z 64 p1) p1 c1 q1 (N : Int) p2 c2 q2)
    (h3 : St (([] : List Stp), (0 : Int)) n (psg z N 0 p2 []) p2 c2 q2 (if ck = 0 then (L, f) else ([], 0)) pk ck qk) (hf : f < 4611686018427387904) (hx : FailSt ck qk 3 pk c' q') : St prj0 n (prd z p) p c q prj0 pk c' q' := by
  unfold prd
  refine h1.bind (h2.bind ?_)
  rw [Int.toNat_natCast]
  refine h3.bind ?_
  by_cases hc : ck = 0
  · subst hc
    rw [if_pos rfl]
    exact St.fail (by rw [if_pos (show ((L, f) : List Stp × Int).2 ≠ 4611686018427387904 by dsimp only; omega)]) (by decide) h3.place.1 h3.place.2 hx
  · rcases hx with ⟨h, _⟩ | ⟨_, rfl, rfl⟩
    · exact absurd h hc
    · exact St.stay h3.place.1 h3.place.2 hc
theorem prd_good {n : Nat} {z : List Int} {p c q e p1 c1 q1 p2 c2 q2 f pk ck qk : Int} {N : Nat} {L : List Stp} (h1 : St 0 n (ve epk z p) p c q e p1 c1 q1) (h2 : St 0 n (mny z 64 p1) p1 c1 q1 (N : Int) p2 c2 q2)
    (h3 : St (([] : List Stp), (0 : Int)) n (psg z N 0 p2 []) p2 c2 q2 (if ck = 0 then (L, f) else ([], 0)) pk ck qk) (hf : f = 4611686018427387904) : St prj0 n (prd z p) p c q (if ck = 0 then (e, L) else prj0) pk ck qk := by
  unfold prd
  refine h1.bind (h2.bind ?_)
  rw [Int.toNat_natCast]
  refine h3.bind ?_
  by_cases hc : ck = 0
  · subst hc
    rw [if_pos rfl, if_pos rfl]
    exact St.done (by rw [if_neg (by simp [hf])]) h3.place.1 h3.place.2
  · rw [if_neg hc, if_neg hc]
    exact St.stay h3.place.1 h3.place.2 hc

def PRdPost (b : Nat) (s : Value) (n : Nat) (z : List Int) (p c q : Int) (w : World) (en : Ending) (w' : World) : Prop :=
  ∃ (e : Int) (A : Option Addr) (N m : Nat) (L : List Stp) (p' c' q' : Int), en = .returned (pragg e A N m) ∧ Kp b w w' ∧ IsRd w' b s p' c' q' ∧ Pts w' (fun k => w.heap.size ≤ k) A N L ∧ N ≤ m ∧ (A = none → m = 0) ∧
    N ≤ 64 ∧ plen 8 L ∧ St prj0 n (prd z p) p c q (e, L) p' c' q'
end Go.Proofs.Ytghlediibhnloaa.Cur

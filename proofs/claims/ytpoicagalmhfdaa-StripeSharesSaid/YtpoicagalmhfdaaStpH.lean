/- Stripes read by the program: one set. -/
import Derived.Test.YtpoicagalmhfdaaStpD
import Derived.Test.YtpoicagalmhfdaaK5
import Derived.Test.YtpoicagalmhfdaaK4
namespace Go.Proofs.Ytpoicagalmhfdaa.Cur
open Go.RowKit Mem
set_option linter.unusedVariables false
set_option maxRecDepth 100000


/-- Sets in a row of the call's own. -/
def OwnSts (w : World) (B : Nat) (v : Value) (S : List (List Int)) : Prop := OwnQ (SlE U64E) 58 w B (fun k => B ≤ k ∧ v.ownBlock ≠ some k) v S
theorem OwnSts.nil (w : World) (B : Nat) : OwnSts w B (.slice none 0 0) [] := OwnQ.nil _ _ _ _ _
theorem OwnSts.ge {w : World} {B : Nat} {v : Value} {S : List (List Int)} (h : OwnSts w B v S) : ∀ g, v.ownBlock = some g → B ≤ g := by
  obtain ⟨cs, h1, h2, h3⟩ := h
  exact own_ge h2
theorem OwnSts.lt {w : World} {B : Nat} {v : Value} {S : List (List Int)} (h : OwnSts w B v S) : ∀ g, v.ownBlock = some g → g < w.heap.size := by
  obtain ⟨cs, h1, h2, h3⟩ := h
  exact fun g hg => (World.ownsRow.lt h2 g hg).2
theorem OwnSts.keep {w w' : World} {B : Nat} {v : Value} {S : List (List Int)} (h : OwnSts w B v S) (hk : ∀ b, B ≤ b → b < w.heap.size → w'.heap[b]? = w.heap[b]?) : OwnSts w' B v S := by
  have hge := h.ge
  have hlt := h.lt
  obtain ⟨cs, h1, h2, h3⟩ := h
  exact ⟨cs, h1.keep fun b hb hlt => hk b hb.1 hlt, own_block h2 fun k hk' => hk k (hge k hk') (hlt k hk'), h3⟩
theorem OwnSts.below {w w' : World} {B : Nat} {v : Value} {S : List (List Int)} (h : OwnSts w B v S) (hb : Below w.heap.size w w') : OwnSts w' B v S := h.keep fun b _ hlt => hb.block b hlt
theorem OwnSts.ks {S0 : Nat → Prop} {w w' : World} {B : Nat} {v : Value} {S : List (List Int)} (h : OwnSts w B v S) (k : Ks S0 w w') (h0 : ∀ g, S0 g → g < B) : OwnSts w' B v S := h.keep fun b hb hlt => k.block b hlt fun hs => by have := h0 b hs; omega
theorem OwnSts.kp {b : Nat} {w w' : World} {B : Nat} {v : Value} {S : List (List Int)} (h : OwnSts w B v S) (k : Kp b w w') (h0 : b < B) : OwnSts w' B v S := h.keep fun g hb hlt => k.block g hlt (by omega)
theorem OwnSts.sts {w : World} {B : Nat} {v : Value} {S : List (List Int)} (h : OwnSts w B v S) : ∃ A c, v = .slice A S.length c ∧ S.length ≤ c ∧ (A = none → c = 0) ∧ Sts w (fun k => B ≤ k) A S.length S := by
  have hge := h.ge
  obtain ⟨A, c, e, h1, h2, h3⟩ := OwnQ.slice h
  exact ⟨A, c, e, h1, h2, rfl, h3.mono fun b hb _ => by
    rcases hb with hb | hb
    · exact hb.1
    · exact hge b hb⟩
/-- One more set, behind an append. -/
theorem OwnSts.snoc {w w' : World} {B : Nat} {v v' : Value} {S : List (List Int)} {cs : List (List Value)} {c : List Value} {x : List Int}
    (h1 : Ch (SlE U64E) w (fun k => B ≤ k ∧ v.ownBlock ≠ some k) cs S) (h3 : ∀ g, v.ownBlock = some g → ¬ (fun k => B ≤ k ∧ v.ownBlock ≠ some k) g)
    (hx : (SlE U64E).R w (fun k => B ≤ k ∧ v.ownBlock ≠ some k) c x) (ho : w'.ownsRow B 58 1 v' (S.length + 1) (cs.flatten ++ c)) (hg : w.grownBy w' v.ownBlock) (hgr : Gr v.ownBlock v'.ownBlock w) : OwnSts w' B v' (S ++ [x]) := by
  have h := OwnQ.snoc (E := SlE U64E) (e := 58) h1 h3 hx ho hg hgr
  refine h.mono (fun b hb _ => ⟨hb.1.1, fun e => ?_⟩) (fun g hg2 hh => hh.2 hg2)
  rcases hgr with e2 | ⟨g', e2, hg'⟩
  · exact hb.1.2 (by rw [← e2]; exact e)
  · rw [e2] at e
    injection e with e
    have := hb.2
    omega
theorem kindSU : Kind 23 58 (.slice none 0 0) 1 24 := ⟨Try.underlying23, by kernel_rfl, rfl, by decide⟩

theorem St.fail {α : Type} {d d' : α} {n : Nat} {g : Rs α} {p c q p' x cc pp c2 q2 : Int} (e : g = (d', x, cc, pp)) (hcc : cc ≠ 0) (h0 : 0 ≤ p') (h1 : p' ≤ n) (h : FailSt c q cc pp c2 q2) : St d n g p c q d p' c2 q2 := by
  subst e
  refine ⟨h0, h1, ?_⟩
  rcases h with ⟨a0, rfl, rfl⟩ | ⟨a0, rfl, rfl⟩
  · exact .inr (.inr ⟨a0, hcc, rfl, rfl, by unfold fq; rw [if_neg hcc]⟩)
  · exact .inl ⟨a0, rfl, rfl, rfl⟩
theorem mny_bd {n : Nat} {z : List Int} {mo p c q k p' c' q' : Int} (h : St 0 n (mny z mo p) p c q k p' c' q') (hz : z.length = n) (h0 : 0 ≤ p) (h1 : p ≤ n) (hby : ∀ x ∈ z, 0 ≤ x ∧ x < 256) : 0 ≤ k ∧ (k ≤ mo ∨ k = 0) ∧ (c' = 0 → 1 ≤ k) := by
  obtain ⟨_, _, ⟨hc, rfl, rfl, _⟩ | ⟨_, g0, rfl, _, rfl, _⟩ | ⟨_, g0, rfl, rfl, _⟩⟩ := h
  · exact ⟨Int.le_refl _, .inr rfl, fun e => absurd e hc⟩
  · obtain ⟨k, p', e, k1, k2, _⟩ := mny_once hby h0 (by rw [hz]; exact h1) g0
    rw [e]
    exact ⟨by show 0 ≤ k; omega, .inl k2, fun _ => k1⟩
  · exact ⟨Int.le_refl _, .inr rfl, fun e => absurd e g0⟩
theorem rg_len {n : Nat} {z : List Int} {p c q : Int} {N : Nat} {l : List Int} {p' c' q' : Int} (h : RgSt n z p c q N l p' c' q') (hz : z.length = n) (h0 : 0 ≤ p) (h1 : p ≤ n) (hby : ∀ x ∈ z, 0 ≤ x ∧ x < 256) : l.length ≤ N ∧ (c' = 0 → l.length = N ∧ risesB l = true) := by
  by_cases hc : c' = 0
  · subst hc
    obtain ⟨_, g0, gl, _⟩ := St.good h.st
    obtain ⟨l2, p2, e, e2, e3, _⟩ := rg_once hby h0 (by rw [hz]; exact h1) g0
    rw [e] at gl
    have : l = l2 := gl
    subst this
    exact ⟨by omega, fun _ => ⟨e2, e3⟩⟩
  · rw [h.nil hc]
    exact ⟨by simp, fun e => absurd e hc⟩

def NumPost (b : Nat) (s : Value) (n : Nat) (g : Rs Int) (p c q : Int) (w : World) (e : Ending) (w' : World) : Prop :=
  ∃ k p' c' q', e = .returned (.int .i64 k) ∧ Kp b w w' ∧ IsRd w' b s p' c' q' ∧ St 0 n g p c q k p' c' q'
set_option maxHeartbeats 1000000 in
theorem snum_any (b : Nat) (a : Option Addr) (n m : Nat) (z : List Int) (p c q mo : Int) (w : World) (h : IsRd w b (.slice a n m) p c q) (hz : Bs w a n z) (h0 : 0 ≤ p) (h1 : p ≤ n) (hn : n ≤ 100000) (hby : ∀ x ∈ z, 0 ≤ x ∧ x < 256) (hmo : mo ≤ 9223372036854775807) :
    Calls Try.prog 46 #[.pointer (some ⟨b, 0, none⟩), .int .i64 mo] w (NumPost b (.slice a n m) n (mny z mo p) p c q w) := by
  have hn' := hn
  replace hn : n ≤ 1000000 := by omega
  have HZL := hz.1
  have HBY := Lib.hid hby
  clear hby
  go_enter Try.func46, Try.ntmps46
  go_wp2_with fail
  refine (at_any b _ p c q w h).mono ?_
  rintro e w' ⟨rfl, rfl⟩
  go_wp2_with fail
  refine (vint_any _ _ _ _ _ _ _ _ _ _ h hz h0 h1 hn HBY.out hmo).mono ?_
  rintro e w1 ⟨v, p1, c1, q1, rfl, hk1, hr1, hs1⟩
  have hst := hs1.st hz.1 h0 h1 HBY.out
  obtain ⟨p10, p11⟩ := hst.place
  obtain ⟨v0, _⟩ := vm_bd hst HBY.out
  have HS := Lib.hid hst
  clear hs1 hst HZL
  by_cases hv : v = 0
  · subst hv
    go_wp2_with fail
    refine (fail_any _ _ _ _ _ 3 p _ hr1).mono ?_
    rintro e w2 ⟨c2, q2, rfl, hk2, hr2, hf⟩
    have HM : Hid (St 0 n (mny z mo p) p c q 0 p1 c2 q2) := Lib.hid (HS.out.bind (f := fun k p1 => if k = 0 then (0, 0, 3, p) else (k, p1, 0, 0)) (St.fail (d' := 0) (x := 0) (by rw [if_pos rfl]) (by decide) p10 p11 hf))
    have HK := Lib.hid (hk1.trans hk2)
    clear hk1 hk2 hf
    go_wp2
    go_ret
    exact ⟨0, p1, c2, q2, rfl, HK.out, hr2, HM.out⟩
  · have hvb : (v == 0) = false := by simpa using hv
    have HM : Hid (St 0 n (mny z mo p) p c q v p1 c1 q1) := Lib.hid (HS.out.bind (f := fun k p1 => if k = 0 then (0, 0, 3, p) else (k, p1, 0, 0)) (by
      rw [if_neg hv]
      by_cases hc : c1 = 0
      · subst hc; exact St.done rfl p10 p11
      · exact absurd (HS.out.nil hc) hv))
    clear hv
    go_wp2
    go_ret
    exact ⟨v, p1, c1, q1, rfl, hk1, hr1, HM.out⟩

/-- Where a stripe ends. -/
def srt (z : List Int) (f p : Int) : Rs Int := if 4611686018427387904 < f then (0, 0, 3, p) else (vg z p).bind 0 fun n p1 => if 4611686018427387904 - f ≤ n then (0, 0, 3, p) else (f + n + 1, p1, 0, 0)
theorem Rs.bind_assoc {α β γ : Type} (g : Rs α) (d1 : β) (f : α → Int → Rs β) (d : γ) (h : β → Int → Rs γ) : (g.bind d1 f).bind d h = g.bind d fun a p => (f a p).bind d h := by
  by_cases hg : g.2.2.1 = 0
  · have e1 : g.bind d1 f = f g.1 g.2.1 := by unfold Rs.bind; rw [if_neg (by simp [hg])]
    have e2 : (g.bind d fun a p => (f a p).bind d h) = (f g.1 g.2.1).bind d h := if_neg (by simp [hg])
    rw [e1, e2]
  · have e1 : g.bind d1 f = (d1, 0, g.2.2.1, g.2.2.2) := by unfold Rs.bind; rw [if_pos hg]
    have e2 : (g.bind d fun a p => (f a p).bind d h) = (d, 0, g.2.2.1, g.2.2.2) := if_pos hg
    rw [e1, e2]; unfold Rs.bind; rw [if_pos hg]
theorem str_eq (z : List Int) (f p : Int) : str z f p = (srt z f p).bind stp0 fun t p1 => (mny z 8 p1).bind stp0 fun k p2 => (ssg z k.toNat p2 []).bind stp0 fun S p3 => ((f, t, S), p3, 0, 0) := by
  unfold str srt
  by_cases hf : 4611686018427387904 < f
  · rw [if_pos hf, if_pos hf]; rfl
  · rw [if_neg hf, if_neg hf, Rs.bind_assoc]
    congr 1
    funext n p1
    by_cases hn : 4611686018427387904 - f ≤ n
    · rw [if_pos hn, if_pos hn]; rfl
    · rw [if_neg hn, if_neg hn]; rfl
def ToPost (b : Nat) (s : Value) (n : Nat) (g : Rs Int) (p c q : Int) (w : World) (e : Ending) (w' : World) : Prop :=
  ∃ t p' c' q', e = .returned (.int .u64 t) ∧ 0 ≤ t ∧ t < 18446744073709551616 ∧ Kp b w w' ∧ IsRd w' b s p' c' q' ∧ St 0 n g p c q (if c' = 0 then t else 0) p' c' q'
theorem wrap_bd (x : Int) : 0 ≤ IntKind.u64.wrap x ∧ IntKind.u64.wrap x < 18446744073709551616 := by rw [wrapu]; omega
set_option maxHeartbeats 2000000 in
theorem sto_any (b : Nat) (a : Option Addr) (n m : Nat) (z : List Int) (p c q f : Int) (w : World) (h : IsRd w b (.slice a n m) p c q) (hz : Bs w a n z) (h0 : 0 ≤ p) (h1 : p ≤ n) (hn : n ≤ 1000000) (hby : ∀ x ∈ z, 0 ≤ x ∧ x < 256) (f0 : 0 ≤ f) (f1 : f < 18446744073709551616) :
    Calls Try.prog 45 #[.pointer (some ⟨b, 0, none⟩), .int .u64 f] w (ToPost b (.slice a n m) n (srt z f p) p c q w) := by
  have HBY := Lib.hid hby
  clear hby
  by_cases hf : 4611686018427387904 < f
  · have HE : Hid (srt z f p = (0, 0, 3, p)) := Lib.hid (by unfold srt; rw [if_pos hf])
    generalize srt z f p = G at *
    go_enter Try.func45, Try.ntmps45
    go_wp2_with fail
    refine (at_any b _ p c q w h).mono ?_
    rintro e w' ⟨rfl, rfl⟩
    go_wp2_with fail
    refine (fail_any _ _ _ _ _ 3 p _ h).mono ?_
    rintro e w1 ⟨c1, q1, rfl, hk1, hr1, hfs⟩
    have hz1 := hz.kp h (by simp) hk1
    have hc1 : c1 ≠ 0 := by
      rcases hfs with ⟨_, rfl, _⟩ | ⟨h, rfl, _⟩
      · decide
      · exact h
    go_wp2_with fail
    refine (vread_any _ _ _ _ _ _ _ _ _ hr1 hz1 h0 h1 hn HBY.out).mono ?_
    rintro e w2 ⟨v, p2, c2, q2, rfl, hk2, hr2, hs2⟩
    have hst := hs2.st hz1.1 h0 h1 HBY.out
    obtain ⟨p20, p21⟩ := hst.place
    obtain ⟨rfl, rfl, rfl⟩ := hst.bad hc1
    have HF := Lib.hid (St.fail (d := (0 : Int)) (p := p) HE.out (by decide) p20 p21 hfs)
    have HK := Lib.hid (hk1.trans hk2)
    have HC := Lib.hid hc1
    have e1 : IntKind.u64.wrap (4611686018427387904 - f) = 18446744073709551616 + 4611686018427387904 - f := by rw [wrapu]; omega
    clear hk1 hk2 hs2 hst hz1 hfs hc1 hr1 h hz
    obtain ⟨T, hT⟩ : ∃ T, T = IntKind.u64.wrap (IntKind.u64.wrap (f + 0) + 1) := ⟨_, rfl⟩
    have hTb := wrap_bd (IntKind.u64.wrap (f + 0) + 1)
    rw [← hT] at hTb
    rw [Int.add_zero] at hT
    have hff : IntKind.u64.wrap f = f := IntWalk.u64_in _ (by omega)
    rw [hff] at hT
    have hT2 : IntKind.u64.wrap (f + 1) = T := hT.symm
    have HT := Lib.hid hTb
    clear hT hTb
    go_wp2
    go_ret
    exact ⟨T, p2, _, _, rfl, HT.out.1, HT.out.2, HK.out, hr2, by rw [if_neg HC.out]; exact HF.out⟩
  · have HE : Hid (srt z f p = (vg z p).bind 0 fun n p1 => if 4611686018427387904 - f ≤ n then (0, 0, 3, p) else (f + n + 1, p1, 0, 0)) := Lib.hid (by unfold srt; rw [if_neg hf])
    generalize srt z f p = G at *
    have e1 : IntKind.u64.wrap (4611686018427387904 - f) = 4611686018427387904 - f := IntWalk.u64_in _ (by omega)
    go_enter Try.func45, Try.ntmps45
    go_wp2_with fail
    refine (at_any b _ p c q w h).mono ?_
    rintro e w' ⟨rfl, rfl⟩
    go_wp2_with fail
    refine (vread_any _ _ _ _ _ _ _ _ _ h hz h0 h1 hn HBY.out).mono ?_
    rintro e w2 ⟨v, p2, c2, q2, rfl, hk2, hr2, hs2⟩
    have hst := hs2.st hz.1 h0 h1 HBY.out
    have hvb := rd_lt hs2 hz.1 h0 h1 HBY.out
    obtain ⟨p20, p21⟩ := hst.place
    have HS := Lib.hid hst
    clear hs2 hst
    by_cases hv : 4611686018427387904 - f ≤ v
    · have hT := wrap_bd (IntKind.u64.wrap (f + v) + 1)
      have HT := Lib.hid hT
      clear hT
      go_wp2_with fail
      refine (fail_any _ _ _ _ _ 3 p _ hr2).mono ?_
      rintro e w3 ⟨c3, q3, rfl, hk3, hr3, hfs⟩
      have hc3 : c3 ≠ 0 := by
        rcases hfs with ⟨_, rfl, _⟩ | ⟨h, rfl, _⟩
        · decide
        · exact h
      have HF : Hid (St 0 n G p c q 0 p2 c3 q3) := Lib.hid (by
        rw [HE.out]
        exact HS.out.bind (St.fail (d := (0 : Int)) (d' := 0) (x := 0) (by rw [if_pos hv]) (by decide) p20 p21 hfs))
      have HK := Lib.hid (hk2.trans hk3)
      have HC := Lib.hid hc3
      clear hk2 hk3 hfs hc3 hv hvb
      obtain ⟨T, hT⟩ : ∃ T, IntKind.u64.wrap (IntKind.u64.wrap (f + v) + 1) = T := ⟨_, rfl⟩
      rw [hT] at HT
      go_wp2
      go_ret
      exact ⟨T, p2, _, _, rfl, HT.out.1, HT.out.2, HK.out, hr3, by rw [if_neg HC.out]; exact HF.out⟩
    · have e2 : IntKind.u64.wrap (f + v) = f + v := IntWalk.u64_in _ (by omega)
      have e3 : IntKind.u64.wrap (f + v + 1) = f + v + 1 := IntWalk.u64_in _ (by omega)
      have HT : Hid (0 ≤ f + v + 1 ∧ f + v + 1 < 18446744073709551616) := Lib.hid (by omega)
      have HF : Hid (St 0 n G p c q (if c2 = 0 then f + v + 1 else 0) p2 c2 q2) := Lib.hid (by
        rw [HE.out]
        refine HS.out.bind ?_
        by_cases hc : c2 = 0
        · subst hc
          rw [if_pos rfl]
          exact St.done (by rw [if_neg hv]) p20 p21
        · rw [if_neg hc]
          exact St.stay p20 p21 hc)
      go_wp2
      go_ret
      exact ⟨f + v + 1, p2, c2, q2, rfl, HT.out.1, HT.out.2, hk2, hr2, HF.out⟩
end Go.Proofs.Ytpoicagalmhfdaa.Cur

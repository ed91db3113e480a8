/- As the seat's text, without what nothing here names. -/
import Derived.Test.YtmiimjgfainclaaGreatK33w
import Derived.Test.YtmiimjgfainclaaGreatK24w
import Derived.Test.YtmiimjgfainclaaGreatK32w
namespace Go.Proofs.YtmiimjgfainclaaGreat.Cur
open Go.RowKit Mem
set_option linter.unusedVariables false
set_option maxRecDepth 100000
theorem kindLK : Kind 24 124 (.agg #[.int .u64 0, .slice none 0 0]) 2 32 := ⟨Tryz.underlying24, by kernel_rfl, rfl, by decide⟩
def OwnLks (w : World) (B : Nat) (v : Value) (L : List Lk) : Prop := OwnQ LkE 124 w B (fun k => B ≤ k ∧ v.ownBlock ≠ some k) v L
theorem OwnLks.nil (w : World) (B : Nat) : OwnLks w B (.slice none 0 0) [] := OwnQ.nil _ _ _ _ _
theorem OwnLks.ge {w : World} {B : Nat} {v : Value} {L : List Lk} (h : OwnLks w B v L) : ∀ g, v.ownBlock = some g → B ≤ g := by
  obtain ⟨cs, h1, h2, h3⟩ := h
  exact own_ge h2
theorem OwnLks.lt {w : World} {B : Nat} {v : Value} {L : List Lk} (h : OwnLks w B v L) : ∀ g, v.ownBlock = some g → g < w.heap.size := by
  obtain ⟨cs, h1, h2, h3⟩ := h
  exact fun g hg => (World.ownsRow.lt h2 g hg).2
theorem OwnLks.keep {w w' : World} {B : Nat} {v : Value} {L : List Lk} (h : OwnLks w B v L) (hk : ∀ b, B ≤ b → b < w.heap.size → w'.heap[b]? = w.heap[b]?) : OwnLks w' B v L := by
  have hge := h.ge
  have hlt := h.lt
  obtain ⟨cs, h1, h2, h3⟩ := h
  exact ⟨cs, h1.keep fun b hb hlt => hk b hb.1 hlt, own_block h2 fun k hk' => hk k (hge k hk') (hlt k hk'), h3⟩
theorem OwnLks.below {w w' : World} {B : Nat} {v : Value} {L : List Lk} (h : OwnLks w B v L) (hb : Below w.heap.size w w') : OwnLks w' B v L := h.keep fun b _ hlt => hb.block b hlt
theorem OwnLks.ks {S0 : Nat → Prop} {w w' : World} {B : Nat} {v : Value} {L : List Lk} (h : OwnLks w B v L) (k : Ks S0 w w') (h0 : ∀ g, S0 g → g < B) : OwnLks w' B v L := h.keep fun b hb hlt => k.block b hlt fun hs => by have := h0 b hs; omega
theorem OwnLks.kp {b : Nat} {w w' : World} {B : Nat} {v : Value} {L : List Lk} (h : OwnLks w B v L) (k : Kp b w w') (h0 : b < B) : OwnLks w' B v L := h.keep fun g hb hlt => k.block g hlt (by omega)
theorem OwnLks.lks {w : World} {B : Nat} {v : Value} {L : List Lk} (h : OwnLks w B v L) : ∃ A c, v = .slice A L.length c ∧ L.length ≤ c ∧ (A = none → c = 0) ∧ Lks w (fun k => B ≤ k) A L.length L := by
  have hge := h.ge
  obtain ⟨A, c, e, h1, h2, h3⟩ := OwnQ.slice h
  exact ⟨A, c, e, h1, h2, rfl, h3.mono fun b hb _ => by
    rcases hb with hb | hb
    · exact hb.1
    · exact hge b hb⟩
theorem OwnLks.snoc {w w' : World} {B : Nat} {v v' : Value} {L : List Lk} {cs : List (List Value)} {c : List Value} {x : Lk}
    (h1 : Ch LkE w (fun k => B ≤ k ∧ v.ownBlock ≠ some k) cs L) (h3 : ∀ g, v.ownBlock = some g → ¬ (fun k => B ≤ k ∧ v.ownBlock ≠ some k) g)
    (hx : LkE.R w (fun k => B ≤ k ∧ v.ownBlock ≠ some k) c x) (ho : w'.ownsRow B 124 2 v' (L.length + 1) (cs.flatten ++ c)) (hg : w.grownBy w' v.ownBlock) (hgr : Gr v.ownBlock v'.ownBlock w) : OwnLks w' B v' (L ++ [x]) := by
  have h := OwnQ.snoc (E := LkE) (e := 124) h1 h3 hx ho hg hgr
  refine h.mono (fun b hb _ => ⟨hb.1.1, fun e => ?_⟩) (fun g hg2 hh => hh.2 hg2)
  rcases hgr with e2 | ⟨g', e2, hg'⟩
  · exact hb.1.2 (by rw [← e2]; exact e)
  · rw [e2] at e
    injection e with e
    have := hb.2
    omega
def LkSt (n : Nat) (z : List Int) (pos : Int) (N : Nat) (p1 c1 q1 : Int) (k : Nat) (L : List Lk) (pk ck qk : Int) : Prop :=
  (ck = 0 ∧ c1 = 0 ∧ qk = q1 ∧ lkgo z pos N (-1) p1 [] = lkgo z pos (N - k) (lkp (-1) L L.length) pk L) ∨ (ck ≠ 0 ∧ St [] n (lkgo z pos N (-1) p1 []) p1 c1 q1 [] pk ck qk)
theorem LkSt.start {n : Nat} {z : List Int} {pos : Int} {N : Nat} {p1 c1 q1 : Int} (h0 : 0 ≤ p1) (h1 : p1 ≤ n) : LkSt n z pos N p1 c1 q1 0 [] p1 c1 q1 := by
  by_cases hc : c1 = 0
  · exact .inl ⟨hc, hc, rfl, rfl⟩
  · exact .inr ⟨hc, St.stay h0 h1 hc⟩
theorem lkp_end (L : List Lk) (s : Lk) : lkp (-1) (L ++ [s]) (L ++ [s]).length = s.1 := by
  rw [List.length_append, List.length_singleton, lkp_succ, List.getD_eq_getElem?_getD, List.getElem?_append_right (Nat.le_refl _), Nat.sub_self]; rfl
theorem LkSt.next {n : Nat} {z : List Int} {pos : Int} {N : Nat} {p1 c1 q1 : Int} {k : Nat} {L : List Lk} {pk ck qk : Int} (h : LkSt n z pos N p1 c1 q1 k L pk ck qk) (hk : k < N) {s s2 : Lk} {p' c' q' : Int} (hs : St lk0 n (lkr z pos (lkp (-1) L L.length) pk) pk ck qk s p' c' q') (h2 : c' = 0 → s2 = s) :
    LkSt n z pos N p1 c1 q1 (k + 1) (L ++ [s2]) p' c' q' := by
  obtain ⟨s0, s1⟩ := hs.place
  rcases h with ⟨rfl, rfl, rfl, e⟩ | ⟨hc, h⟩
  · have e2 : lkgo z pos (N - k) (lkp (-1) L L.length) pk L = (lkr z pos (lkp (-1) L L.length) pk).bind [] fun s p' => lkgo z pos (N - (k + 1)) s.1 p' (L ++ [s]) := by
      rw [show N - k = N - (k + 1) + 1 by omega]; rfl
    by_cases hc : c' = 0
    · subst hc
      obtain rfl := h2 rfl
      obtain ⟨_, g0, gl, gp, gq⟩ := hs.good
      refine .inl ⟨rfl, rfl, gq, ?_⟩
      rw [e, e2, lkp_end]
      unfold Rs.bind
      rw [if_neg (by simp [g0]), ← gl, ← gp]
    · refine .inr ⟨hc, ?_⟩
      rw [e, e2]
      have := hs.bind (f := fun s p' => lkgo z pos (N - (k + 1)) s.1 p' (L ++ [s])) (St.stay (d := []) s0 s1 hc)
      obtain ⟨a0, a1, a2⟩ := this
      refine ⟨a0, a1, ?_⟩
      rcases a2 with ⟨h, _⟩ | ⟨_, _, _, _, h, _⟩ | a2
      · exact absurd rfl h
      · exact absurd h hc
      · exact .inr (.inr a2)
  · have hb := hs.bad hc
    obtain ⟨_, rfl, rfl⟩ := hb
    refine .inr ⟨hc, ?_⟩
    obtain ⟨_, _, a2⟩ := h
    refine ⟨s0, s1, ?_⟩
    rcases a2 with a2 | ⟨_, _, _, _, h, _⟩ | a2
    · exact .inl a2
    · exact absurd h hc
    · exact .inr (.inr a2)
theorem LkSt.fin {n : Nat} {z : List Int} {pos : Int} {p c q : Int} {N : Nat} {p1 c1 q1 : Int} {k : Nat} {L : List Lk} {pk ck qk : Int} (h : LkSt n z pos N p1 c1 q1 k L pk ck qk) (h1 : St 0 n (vm z 16 p) p c q (N : Int) p1 c1 q1) (hk : k = N ∨ ck ≠ 0) (h0 : 0 ≤ pk) (h2 : pk ≤ n) :
    St [] n (lrd z pos p) p c q (if ck = 0 then L else []) pk ck qk := by
  unfold lrd
  refine h1.bind ?_
  rw [Int.toNat_natCast]
  rcases h with ⟨rfl, rfl, rfl, e⟩ | ⟨hc, h⟩
  · obtain rfl : k = N := by rcases hk with h | h; exact h; exact absurd rfl h
    rw [if_pos rfl]
    exact St.done (by rw [e, Nat.sub_self]; rfl) h0 h2
  · rw [if_neg hc]; exact h
end Go.Proofs.YtmiimjgfainclaaGreat.Cur
namespace Go.Proofs.YtmiimjgfainclaaGreat.Cur
open Go.RowKit Mem
set_option linter.unusedVariables false
set_option maxRecDepth 100000
theorem own_sq {w : World} {B n c : Nat} {A : Option Addr} {z : List Int} (h : OwnU w B (.slice A n c) z) (hb : ∀ x ∈ z, 0 ≤ x ∧ x < 18446744073709551616) : z.length = n ∧ n ≤ c ∧ (A = none → c = 0) ∧ Sq U64E w (fun b => B ≤ b) A z := by
  obtain ⟨rfl, h1, h2, h3⟩ := OwnU.us h
  exact ⟨rfl, h1, h2, h3.sq hb fun _ a ha => own_ge h a.block (by rw [ha]; rfl)⟩
end Go.Proofs.YtmiimjgfainclaaGreat.Cur
namespace Go.Proofs.YtmiimjgfainclaaGreat.Cur
open Go.RowKit Mem
set_option linter.unusedVariables false
set_option maxRecDepth 100000
theorem OwnLks.base {w : World} {B B' : Nat} {v : Value} {L : List Lk} (h : OwnLks w B v L) (hB : B' ≤ B) : OwnLks w B' v L := by
  obtain ⟨cs, h1, h2, h3⟩ := h
  exact ⟨cs, h1.mono (fun b hb _ => ⟨Nat.le_trans hB hb.1, hb.2⟩), ⟨h2.1, h2.2.imp id fun ⟨g, cap, cur, e, hg, r⟩ => ⟨g, cap, cur, e, Nat.le_trans hB hg, r⟩⟩, fun g hg hh => hh.2 hg⟩
end Go.Proofs.YtmiimjgfainclaaGreat.Cur

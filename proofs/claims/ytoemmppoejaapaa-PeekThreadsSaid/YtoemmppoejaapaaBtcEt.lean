/- As the seat's text, without what nothing here names. -/
import Derived.Test.YtoemmppoejaapaaBtcMt
import Derived.Test.YtoemmppoejaapaaK34t
namespace Go.Proofs.Ytoemmppoejaapaa.Cur
open Go.RowKit Mem
set_option linter.unusedVariables false
set_option maxRecDepth 100000
theorem kindEN : Kind 23 31 (.agg #[.slice none 0 0, .slice none 0 0]) 2 48 := ⟨Try.underlying23, by kernel_rfl, rfl, by decide⟩
def OwnEns (w : World) (B : Nat) (v : Value) (L : List En) : Prop := OwnQ EnE 31 w B (fun k => B ≤ k ∧ v.ownBlock ≠ some k) v L
theorem OwnEns.nil (w : World) (B : Nat) : OwnEns w B (.slice none 0 0) [] := OwnQ.nil _ _ _ _ _
theorem OwnEns.ge {w : World} {B : Nat} {v : Value} {L : List En} (h : OwnEns w B v L) : ∀ g, v.ownBlock = some g → B ≤ g := by
  obtain ⟨cs, h1, h2, h3⟩ := h
  exact own_ge h2
theorem OwnEns.lt {w : World} {B : Nat} {v : Value} {L : List En} (h : OwnEns w B v L) : ∀ g, v.ownBlock = some g → g < w.heap.size := by
  obtain ⟨cs, h1, h2, h3⟩ := h
  exact fun g hg => (World.ownsRow.lt h2 g hg).2
theorem OwnEns.keep {w w' : World} {B : Nat} {v : Value} {L : List En} (h : OwnEns w B v L) (hk : ∀ b, B ≤ b → b < w.heap.size → w'.heap[b]? = w.heap[b]?) : OwnEns w' B v L := by
  have hge := h.ge
  have hlt := h.lt
  obtain ⟨cs, h1, h2, h3⟩ := h
  exact ⟨cs, h1.keep fun b hb hlt => hk b hb.1 hlt, own_block h2 fun k hk' => hk k (hge k hk') (hlt k hk'), h3⟩
theorem OwnEns.below {w w' : World} {B : Nat} {v : Value} {L : List En} (h : OwnEns w B v L) (hb : Below w.heap.size w w') : OwnEns w' B v L := h.keep fun b _ hlt => hb.block b hlt
theorem OwnEns.ks {S0 : Nat → Prop} {w w' : World} {B : Nat} {v : Value} {L : List En} (h : OwnEns w B v L) (k : Ks S0 w w') (h0 : ∀ g, S0 g → g < B) : OwnEns w' B v L := h.keep fun b hb hlt => k.block b hlt fun hs => by have := h0 b hs; omega
theorem OwnEns.ens {w : World} {B : Nat} {v : Value} {L : List En} (h : OwnEns w B v L) : ∃ A c, v = .slice A L.length c ∧ L.length ≤ c ∧ (A = none → c = 0) ∧ Ens w (fun k => B ≤ k) A L.length L := by
  have hge := h.ge
  obtain ⟨A, c, e, h1, h2, h3⟩ := OwnQ.slice h
  exact ⟨A, c, e, h1, h2, rfl, h3.mono fun b hb _ => by
    rcases hb with hb | hb
    · exact hb.1
    · exact hge b hb⟩
theorem OwnEns.snoc {w w' : World} {B : Nat} {v v' : Value} {L : List En} {cs : List (List Value)} {c : List Value} {x : En}
    (h1 : Ch EnE w (fun k => B ≤ k ∧ v.ownBlock ≠ some k) cs L) (h3 : ∀ g, v.ownBlock = some g → ¬ (fun k => B ≤ k ∧ v.ownBlock ≠ some k) g)
    (hx : EnE.R w (fun k => B ≤ k ∧ v.ownBlock ≠ some k) c x) (ho : w'.ownsRow B 31 2 v' (L.length + 1) (cs.flatten ++ c)) (hg : w.grownBy w' v.ownBlock) (hgr : Gr v.ownBlock v'.ownBlock w) : OwnEns w' B v' (L ++ [x]) := by
  have h := OwnQ.snoc (E := EnE) (e := 31) h1 h3 hx ho hg hgr
  refine h.mono (fun b hb _ => ⟨hb.1.1, fun e => ?_⟩) (fun g hg2 hh => hh.2 hg2)
  rcases hgr with e2 | ⟨g', e2, hg'⟩
  · exact hb.1.2 (by rw [← e2]; exact e)
  · rw [e2] at e
    injection e with e
    have := hb.2
    omega
def HgSt (n : Nat) (z : List Int) (b mx : Int) (N : Nat) (p1 c1 q1 : Int) (k : Nat) (H : List Hd) (pk ck qk : Int) : Prop :=
  (ck = 0 ∧ c1 = 0 ∧ qk = q1 ∧ hgo z N b mx p1 [] = hgo z (N - k) (b + k) (mx - hsum H) pk H) ∨ (ck ≠ 0 ∧ St [] n (hgo z N b mx p1 []) p1 c1 q1 [] pk ck qk)
theorem HgSt.start {n : Nat} {z : List Int} {b mx : Int} {N : Nat} {p1 c1 q1 : Int} (h0 : 0 ≤ p1) (h1 : p1 ≤ n) : HgSt n z b mx N p1 c1 q1 0 [] p1 c1 q1 := by
  by_cases hc : c1 = 0
  · refine .inl ⟨hc, hc, rfl, ?_⟩
    rw [show b + ((0 : Nat) : Int) = b by omega, show mx - hsum [] = mx by show mx - 0 = mx; omega]
    rfl
  · exact .inr ⟨hc, St.stay h0 h1 hc⟩
theorem hsum_snoc (H : List Hd) (h : Hd) : hsum (H ++ [h]) = hsum H + h.2 := by
  unfold hsum
  rw [List.map_append, List.sum_append]
  simp
theorem HgSt.next {n : Nat} {z : List Int} {b mx : Int} {N : Nat} {p1 c1 q1 : Int} {k : Nat} {H : List Hd} {pk ck qk : Int} (h : HgSt n z b mx N p1 c1 q1 k H pk ck qk) (hk : k < N) {s s2 : Hd} {p' c' q' : Int} (hs : St hd0 n (hrd z (b + k) (mx - hsum H) pk) pk ck qk s p' c' q') (h2 : c' = 0 → s2 = s) :
    HgSt n z b mx N p1 c1 q1 (k + 1) (H ++ [s2]) p' c' q' := by
  obtain ⟨s0, s1⟩ := hs.place
  rcases h with ⟨rfl, rfl, rfl, e⟩ | ⟨hc, h⟩
  · have e2 : hgo z (N - k) (b + k) (mx - hsum H) pk H = (hrd z (b + k) (mx - hsum H) pk).bind [] fun h p' => hgo z (N - (k + 1)) (b + k + 1) (mx - hsum H - h.2) p' (H ++ [h]) := by
      rw [show N - k = N - (k + 1) + 1 by omega]; rfl
    by_cases hc : c' = 0
    · subst hc
      obtain rfl := h2 rfl
      obtain ⟨_, g0, gl, gp, gq⟩ := hs.good
      refine .inl ⟨rfl, rfl, gq, ?_⟩
      rw [e, e2, hsum_snoc]
      unfold Rs.bind
      rw [if_neg (by simp [g0]), ← gl, ← gp]
      rw [show b + ((k + 1 : Nat) : Int) = b + k + 1 by omega, show mx - (hsum H + s2.2) = mx - hsum H - s2.2 by omega]
    · refine .inr ⟨hc, ?_⟩
      rw [e, e2]
      exact hs.bind (f := fun h p' => hgo z (N - (k + 1)) (b + k + 1) (mx - hsum H - h.2) p' (H ++ [h])) (St.stay (d := []) s0 s1 hc)
  · have hb := hs.bad hc
    obtain ⟨_, rfl, rfl⟩ := hb
    refine .inr ⟨hc, ?_⟩
    obtain ⟨_, _, a2⟩ := h
    refine ⟨s0, s1, ?_⟩
    rcases a2 with a2 | ⟨_, _, _, _, h, _⟩ | a2
    · exact .inl a2
    · exact absurd h hc
    · exact .inr (.inr a2)
end Go.Proofs.Ytoemmppoejaapaa.Cur

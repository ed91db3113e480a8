/- Stripes read by the document: Read. -/
import Derived.Test.YtghlediibhnloaaStpK
namespace Go.Proofs.Ytghlediibhnloaa.Cur
open Go.RowKit Mem
set_option linter.unusedVariables false
set_option maxRecDepth 100000


abbrev scs (a : Option Addr) (n m : Nat) (p c q : Int) : Array Value := cvs (.slice a n m) p c q
/-- The state of the document's loop. -/
def RSL (a : Option Addr) (n m : Nat) (z : List Int) (f t : Int) (W : World) (d sx N : Nat) (p2 c2 q2 : Int) (k : Nat) (v : Value) (S : List (List Int)) (pk ck qk : Int) (wr : World) : Prop :=
  Blk wr d (scs a n m pk ck qk) 48 ∧ Blk wr sx #[.int .u64 f, .int .u64 t, v] 60 ∧ Blk wr (W.heap.size + 1) (cvs (.slice none 0 0) 0 0 0) 48 ∧ Blk wr (W.heap.size + 1 + 1) (stc 0 0 none 0 0) 60 ∧
  OwnSts wr (sx + 1) v S ∧ S.length = k ∧ (∀ l ∈ S, l.length ≤ 8) ∧ sbds S ∧ Below W.heap.size W wr ∧ 0 ≤ pk ∧ pk ≤ n ∧ SsSt n z N p2 c2 q2 k S pk ck qk
theorem RSL.below {a : Option Addr} {n m : Nat} {z : List Int} {f t : Int} {W : World} {d sx N : Nat} {p2 c2 q2 : Int} {k : Nat} {v : Value} {S : List (List Int)} {pk ck qk : Int} {wr w' : World} (h : RSL a n m z f t W d sx N p2 c2 q2 k v S pk ck qk wr) (hb : Below wr.heap.size wr w') :
    RSL a n m z f t W d sx N p2 c2 q2 k v S pk ck qk w' := by
  obtain ⟨h1, h2, h3, h4, h5, h6, h7, h8, h9, h10⟩ := h
  exact ⟨h1.below hb, h2.below hb, h3.below hb, h4.below hb, h5.below hb, h6, h7, h8, h9.trans (hb.mono h9.size), h10⟩
/-- A round's end: the sets' cell and the reader's are stored. -/
theorem RSL.next {a : Option Addr} {n m : Nat} {z : List Int} {f t : Int} {W : World} {d sx N : Nat} {p2 c2 q2 : Int} {k : Nat} {v v' : Value} {S : List (List Int)} {l : List Int} {pk ck qk p' c' q' : Int} {w4 : World}
    (hD : Blk w4 d (scs a n m pk ck qk) 48) (hS : Blk w4 sx #[.int .u64 f, .int .u64 t, v] 60) (hR : Blk w4 (W.heap.size + 1) (cvs (.slice none 0 0) 0 0 0) 48) (hZ : Blk w4 (W.heap.size + 1 + 1) (stc 0 0 none 0 0) 60)
    (ho : OwnSts w4 (sx + 1) v' (S ++ [l])) (hk : S.length = k) (h7 : ∀ l ∈ S, l.length ≤ 8) (hl : l.length ≤ 8) (h8 : sbds S) (hlb : ∀ x ∈ l, 0 ≤ x ∧ x < 18446744073709551616) (hb : Below W.heap.size W w4) (hp0 : 0 ≤ p') (hp1 : p' ≤ n) (hst : SsSt n z N p2 c2 q2 (k + 1) (S ++ [l]) p' c' q')
    (hd0 : W.heap.size + 1 + 1 < d) (hds : d < sx) :
    RSL a n m z f t W d sx N p2 c2 q2 (k + 1) v' (S ++ [l]) p' c' q' (((((w4.setCell ⟨sx, 2, none⟩ v').setCell ⟨d, 0, none⟩ (.slice a n m)).setCell ⟨d, 1, none⟩ (.int .i64 p')).setCell ⟨d, 2, none⟩ (.int .i64 c')).setCell ⟨d, 3, none⟩ (.int .i64 q')) := by
  have hD1 := blk_kp hD (Kp.setCell w4 sx 2 v') (by omega)
  have hS1 : Blk _ sx #[.int .u64 f, .int .u64 t, v'] 60 := hS.set 2 v'
  have hR1 := blk_kp hR (Kp.setCell w4 sx 2 v') (by omega)
  have hZ1 := blk_kp hZ (Kp.setCell w4 sx 2 v') (by omega)
  have ho1 := ho.ks (Ks.setCell (S := fun k => k = sx) w4 sx 2 v' rfl) (fun g hg => by omega)
  have hb1 := below_set hb (b := sx) (by omega) 2 v'
  obtain ⟨x1, x2⟩ := set4 hD1 (.slice a n m) (.int .i64 p') (.int .i64 c') (.int .i64 q')
  refine ⟨x1, blk_kp hS1 x2 (by omega), blk_kp hR1 x2 (by omega), blk_kp hZ1 x2 (by omega), ho1.kp x2 (by omega), by simp [hk], fun x hx => ?_, fun x hx => ?_, Kp.below hb1 (Nat.le_refl _) x2 (by omega), hp0, hp1, hst⟩
  · rcases List.mem_append.1 hx with hx | hx
    · exact h7 x hx
    · rw [List.mem_singleton] at hx; subst hx; exact hl
  · rcases List.mem_append.1 hx with hx | hx
    · exact h8 x hx
    · rw [List.mem_singleton] at hx; subst hx; exact hlb
/-- What a set comes to by the document. -/
theorem rstl_fin {n : Nat} {S : List (List Int)} {l : List Int} {p1 p2 c2 q2 c' q' : Int} (hl : c2 ≠ 0 → l = []) (p20 : 0 ≤ p2) (p21 : p2 ≤ n)
    (hx : (c2 = 0 ∧ 4294967296 ≤ l.getD (l.length - 1) 0 ∧ FailSt c2 q2 3 p1 c' q') ∨ (c2 = 0 ∧ ¬ 4294967296 ≤ l.getD (l.length - 1) 0 ∧ tw S l = true ∧ FailSt c2 q2 13 p1 c' q') ∨ (c2 = 0 ∧ ¬ 4294967296 ≤ l.getD (l.length - 1) 0 ∧ tw S l = false ∧ c' = c2 ∧ q' = q2) ∨ (c2 ≠ 0 ∧ c' = c2 ∧ q' = q2)) :
    St [] n (if 4294967296 ≤ l.getD (l.length - 1) 0 then (([] : List Int), (0 : Int), (3 : Int), p1) else if tw S l then ([], 0, 13, p1) else (l, p2, 0, 0)) p2 c2 q2 (if c' = 0 then l else []) p2 c' q' := by
  rcases hx with ⟨rfl, h1, h2⟩ | ⟨rfl, h1, h2, h3⟩ | ⟨rfl, h1, h2, rfl, rfl⟩ | ⟨h, rfl, rfl⟩
  · have hb := h2
    rcases hb with ⟨_, rfl, rfl⟩ | ⟨h, _⟩
    · rw [if_neg (show ¬ (3 : Int) = 0 by decide)]
      exact St.fail (by rw [if_pos h1]) (by decide) p20 p21 h2
    · exact absurd rfl h
  · have hb := h3
    rcases hb with ⟨_, rfl, rfl⟩ | ⟨h, _⟩
    · rw [if_neg (show ¬ (13 : Int) = 0 by decide)]
      exact St.fail (by rw [if_neg h1, if_pos h2]) (by decide) p20 p21 h3
    · exact absurd rfl h
  · rw [if_pos rfl]
    exact St.done (by rw [if_neg h1, h2]; rfl) p20 p21
  · rw [if_neg h]
    exact St.stay p20 p21 h
theorem SsSt.fin {n : Nat} {z : List Int} {N : Nat} {p2 c2 q2 : Int} {k : Nat} {S : List (List Int)} {pk ck qk : Int} (h : SsSt n z N p2 c2 q2 k S pk ck qk) (hk : k = N ∨ ck ≠ 0) (h0 : 0 ≤ pk) (h1 : pk ≤ n) : St [] n (ssg z N p2 []) p2 c2 q2 (if ck = 0 then S else []) pk ck qk := by
  rcases hk with rfl | hk
  · exact h.done h0 h1
  · rcases h with ⟨h, _⟩ | ⟨_, h⟩
    · exact absurd h hk
    · rw [if_neg hk]; exact h
theorem stl_tw {z : List Int} {S : List (List Int)} {n : Nat} {p c q : Int} {l : List Int} {p' q' : Int} (h : St [] n (stl z S p) p c q l p' 0 q') (hz : z.length = n) (h0 : 0 ≤ p) (h1 : p ≤ n) (hby : ∀ x ∈ z, 0 ≤ x ∧ x < 256) : tw S l = false := by
  obtain ⟨_, g0, gl, _⟩ := h.good
  obtain ⟨l2, p2, e, e2, _⟩ := stl_once hby h0 (by rw [hz]; exact h1) g0
  rw [e] at gl
  have gl' : l = l2 := gl
  subst gl'
  exact (seok_parts e2).2.2.2.2
theorem heap_ne {w : World} {b o g : Nat} (v : Value) (h : b < g) : (w.setCell ⟨b, o, none⟩ v).heap[g]? = w.heap[g]? := Below.heap_setCell w _ v g (by show g ≠ b; omega)
theorem heap7 {w : World} {b1 b2 g : Nat} (h1 : b1 < g) (h2 : b2 < g) (u0 u1 u2 u3 u4 u5 u6 : Value) :
    (((((((w.setCell ⟨b1, 0, none⟩ u0).setCell ⟨b1, 1, none⟩ u1).setCell ⟨b1, 2, none⟩ u2).setCell ⟨b1, 3, none⟩ u3).setCell ⟨b2, 0, none⟩ u4).setCell ⟨b2, 1, none⟩ u5).setCell ⟨b2, 2, none⟩ u6).drew.heap[g]? = w.heap[g]? := by
  have e : ∀ w' : World, w'.drew.heap = w'.heap := fun _ => rfl
  rw [e]
  rw [heap_ne _ h2, heap_ne _ h2, heap_ne _ h2, heap_ne _ h1, heap_ne _ h1, heap_ne _ h1, heap_ne _ h1]
end Go.Proofs.Ytghlediibhnloaa.Cur

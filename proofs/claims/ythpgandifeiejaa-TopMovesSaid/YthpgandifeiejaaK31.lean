/- K31: PrjM PrjN PrjO PrjP PrjQ PrjR PrjU PrjV -/
import Derived.Test.YthpgandifeiejaaK27
import Derived.Test.YthpgandifeiejaaK24
import Derived.Test.YthpgandifeiejaaK26
import Derived.Test.YthpgandifeiejaaK20
import Derived.Test.YthpgandifeiejaaK1
import Derived.Test.YthpgandifeiejaaK25
/- Projections read by the document: Read. -/
/- Projections that grow: the plain facts, and what the closure does. -/
/- Projections that grow: the next one, and Grow. -/
/- Projections that grow: Grow of the program. -/
/- Projections copied by the document. -/
/- Projections that grow: the document's Grow. -/
/- Projections that grow: the document's Grow, whole. -/
/- Projections that grow: what the statement asks, plainly. -/
namespace Go.Proofs.Ythpgandifeiejaa.Cur
open Go.RowKit Mem
set_option linter.unusedVariables false
set_option maxRecDepth 100000


def RPPost (s : Value) (n : Nat) (z : List Int) (p c q : Int) (w : World) (en : Ending) (w' : World) : Prop :=
  ∃ (e : Int) (A : Option Addr) (N m : Nat) (L : List Stp) (p' c' q' : Int), en = .returned (.tuple #[cv s p' c' q', pragg e A N m]) ∧ Below w.heap.size w w' ∧ Pts w' (fun k => w.heap.size ≤ k) A N L ∧ N ≤ m ∧ (A = none → m = 0) ∧
    N ≤ 64 ∧ plen 8 L ∧ St prj0 n (prd z p) p c q (e, L) p' c' q'
/-- A fault is there already. -/
theorem prd_stop {n : Nat} {z : List Int} {p c q e p1 c1 q1 p2 c2 q2 f pk ck qk : Int} {N : Nat} {L : List Stp} (h1 : St 0 n (ve epk z p) p c q e p1 c1 q1) (h2 : St 0 n (mny z 64 p1) p1 c1 q1 (N : Int) p2 c2 q2)
    (h3 : St (([] : List Stp), (0 : Int)) n (psg z N 0 p2 []) p2 c2 q2 (if ck = 0 then (L, f) else ([], 0)) pk ck qk) (hc : ck ≠ 0) : St prj0 n (prd z p) p c q prj0 pk ck qk := by
  unfold prd
  refine h1.bind (h2.bind ?_)
  rw [Int.toNat_natCast]
  refine h3.bind ?_
  exact St.stay h3.place.1 h3.place.2 hc
theorem RPPost.zero {s : Value} {n : Nat} {z : List Int} {p c q : Int} {w w' : World} {p' c' q' : Int} (hb : Below w.heap.size w w') (h : St prj0 n (prd z p) p c q prj0 p' c' q') : RPPost s n z p c q w (.returned (.tuple #[cv s p' c' q', pragg 0 none 0 0])) w' :=
  ⟨0, none, 0, 0, [], p', c', q', rfl, hb, ⟨rfl, Sq.nil _ _ _ _⟩, by omega, fun _ => rfl, by omega, fun s h => by simp at h, h⟩
theorem heap6 {w : World} {b1 b2 g : Nat} (h1 : g ≠ b1) (h2 : g ≠ b2) (u0 u1 u2 u3 u4 u5 : Value) :
    ((((((w.setCell ⟨b1, 0, none⟩ u0).setCell ⟨b1, 1, none⟩ u1).setCell ⟨b1, 2, none⟩ u2).setCell ⟨b1, 3, none⟩ u3).setCell ⟨b2, 0, none⟩ u4).setCell ⟨b2, 1, none⟩ u5).heap[g]? = w.heap[g]? := by
  rw [Below.heap_setCell _ _ _ _ h2, Below.heap_setCell _ _ _ _ h2, Below.heap_setCell _ _ _ _ h1, Below.heap_setCell _ _ _ _ h1, Below.heap_setCell _ _ _ _ h1, Below.heap_setCell _ _ _ _ h1]

end Go.Proofs.Ythpgandifeiejaa.Cur

namespace Go.Proofs.Ythpgandifeiejaa.Cur
open Go.RowKit Mem
set_option linter.unusedVariables false
set_option maxRecDepth 100000


theorem oper_append_rw {sl e : TypeId} {zv : Value} {size bytes : Nat} (E : Kind sl e zv size bytes) {w : World} {o : Oper} {a : Act} {K : Act → World → Prop} {Q : Exit → Act → World → Prop} (s x : Operand)
    (ho : o.op = .call { callee := .builtin .append, args := #[s, x], argTypes := #[sl, sl] })
    (B : Nat) (v : Value) (n : Nat) (xs : List Value) (hs : a.eval s = v) (hown : w.ownsRow B e size v n xs) (A : Option Addr) (m c : Nat) (news : List Value) (hx : a.eval x = .slice A m c) (hl : news.length = m * size) (hr : Rw w A news) (hc : A = none → c = 0) (h1 : ∀ u ∈ news, u.oneCell' = true)
    (hsz : n + m ≤ 1000000) (hby : bytes ≤ 1000000) (hB : B ≤ w.heap.size)
    (h : ∀ v' w', w'.ownsRow B e size v' (n + m) (xs ++ news) → w.grownBy w' v.ownBlock → Gr v.ownBlock v'.ownBlock w → K (a.put o.dst v') w') : o.wp Try.prog a w K Q := by
  obtain ⟨v', w', hrun, h2, h3, h4⟩ := run_append_rw E w o.type B v n xs hown A m c news hl hr hc h1 hsz hby hB
  unfold Oper.wp
  simp [execOp, ho, resolve, invoke, builtin, hs, hx, hrun, Result.andThen]
  exact h v' w' h2 h3 h4

section
variable {α : Type}
theorem Ch.get {E : El α} {w : World} {P : Nat → Prop} : ∀ {cs : List (List Value)} {xs : List α}, Ch E w P cs xs → ∀ {k : Nat} {x : α}, xs[k]? = some x → ∃ c, cs[k]? = some c ∧ E.R w P c x
  | [], [], _, _, _, hx => by simp at hx
  | c :: cs, y :: xs, h, 0, x, hx => by simp at hx; subst hx; exact ⟨c, rfl, h.1⟩
  | c :: cs, y :: xs, h, k + 1, x, hx => by
    obtain ⟨d, h1, h2⟩ := Ch.get h.2 (k := k) (x := x) (by simpa using hx)
    exact ⟨d, by simpa using h1, h2⟩
  | [], _ :: _, h, _, _, _ => h.elim
  | _ :: _, [], h, _, _, _ => h.elim
theorem Ch.set {E : El α} {w : World} {P : Nat → Prop} : ∀ {cs : List (List Value)} {xs : List α}, Ch E w P cs xs → ∀ {k : Nat} {c : List Value} {x : α}, E.R w P c x → Ch E w P (cs.set k c) (xs.set k x)
  | [], [], _, _, _, _, _ => trivial
  | c :: cs, y :: xs, h, 0, d, x, hx => ⟨hx, h.2⟩
  | c :: cs, y :: xs, h, k + 1, d, x, hx => ⟨h.1, Ch.set h.2 hx⟩
  | [], _ :: _, h, _, _, _, _ => h.elim
  | _ :: _, [], h, _, _, _, _ => h.elim
theorem Ch.lens {E : El α} {w : World} {P : Nat → Prop} : ∀ {cs : List (List Value)} {xs : List α}, Ch E w P cs xs → ∀ d ∈ cs, d.length = E.k
  | [], [], _ => fun d hd => by simp at hd
  | c :: cs, y :: xs, h => fun d hd => by
    rcases List.mem_cons.1 hd with rfl | hd
    · exact E.len h.1
    · exact Ch.lens h.2 d hd
  | [], _ :: _, h => h.elim
  | _ :: _, [], h => h.elim
end
theorem flat_set {m j : Nat} {u : Value} : ∀ {cs : List (List Value)} {k : Nat} {c : List Value}, (∀ d ∈ cs, d.length = m) → cs[k]? = some c → j < m → (cs.set k (c.set j u)).flatten = cs.flatten.set (k * m + j) u
  | [], _, _, _, h, _ => by simp at h
  | d :: cs, 0, c, hl, h, hj => by
    simp at h; subst h
    rw [List.set_cons_zero, List.flatten_cons, List.flatten_cons, Nat.zero_mul, Nat.zero_add, List.set_append_left _ _ (by rw [hl d (by simp)]; exact hj)]
  | d :: cs, k + 1, c, hl, h, hj => by
    have hd := hl d (by simp)
    rw [List.set_cons_succ, List.flatten_cons, List.flatten_cons, flat_set (cs := cs) (fun e he => hl e (by simp [he])) (by simpa using h) hj, List.set_append_right _ _ (by rw [hd, Nat.succ_mul]; omega), hd, show (k + 1) * m + j - m = k * m + j by rw [Nat.succ_mul]; omega]
/-- The end of a stripe is set. -/
theorem own_to {w : World} {W g n cap k : Nat} {P : Nat → Prop} {L : List Stp} {s : Stp} {u : Int} (h : OwnQ StE 31 w W P (.slice (some ⟨g, 0, none⟩) n cap) L) (hk : L[k]? = some s) (h0 : 0 ≤ u) (h1 : u < 18446744073709551616) :
    OwnQ StE 31 (w.setCell ⟨g, k * 3 + 1, none⟩ (.int .u64 u)) W P (.slice (some ⟨g, 0, none⟩) n cap) (L.set k (s.1, u, s.2.2)) ∧
      (∃ x, w.cell? ⟨g, k * 3 + 1, none⟩ = some x) ∧ w.frozen? ⟨g, k * 3 + 1, none⟩ = false ∧ W ≤ g ∧ g < w.heap.size ∧ k < n := by
  obtain ⟨cs, hc, ho, hn⟩ := h
  have hkL := (List.getElem?_eq_some_iff.1 hk).1
  have hL : L.length = n := by
    rcases ho.2 with ⟨e, _⟩ | ⟨_, _, _, e, _⟩
    · cases e
    · injection e with _ e _; exact e.symm
  rw [hL] at ho
  obtain ⟨c, hck, hR⟩ := hc.get hk
  obtain ⟨A, m, rfl, fb, tb, hm, hnil, hst⟩ := stripe_parts hR
  have hst1 := ho.stored (k * 3 + 1) (.int .u64 u)
  have hfl : cs.flatten.length = n * 3 := by rw [hc.flat, hL]; rfl
  have hcell : w.cell? ⟨g, k * 3 + 1, none⟩ = cs.flatten[k * 3 + 1]? := World.ownsRow.cellAt ho _ (by show k * 3 + 1 < n * 3; omega)
  have hlt := World.ownsRow.lt ho g rfl
  refine ⟨⟨cs.set k [.int .u64 s.1, .int .u64 u, .slice A s.2.2.length m], ?_, ?_, hn⟩, ⟨_, hcell.trans (List.getElem?_eq_getElem (by omega))⟩, World.ownsRow.frozenAt ho _, hlt.1, hlt.2, by omega⟩
  · refine Ch.set (hc.keep fun b hb _ => Below.heap_setCell _ _ _ _ (fun e => ?_)) (StE.keep (StE.mk fb ⟨h0, h1⟩ rfl hm hnil hst) fun b hb _ => Below.heap_setCell _ _ _ _ (fun e => ?_))
    · have e2 : b = g := e; subst e2; exact hn b rfl hb
    · have e2 : b = g := e; subst e2; exact hn b rfl hb
  · have e2 : (cs.set k [.int .u64 s.1, .int .u64 u, .slice A s.2.2.length m]).flatten = cs.flatten.set (k * 3 + 1) (.int .u64 u) := flat_set (c := [.int .u64 s.1, .int .u64 s.2.1, .slice A s.2.2.length m]) (j := 1) (u := .int .u64 u) hc.lens hck (by show 1 < StE.k; decide)
    rw [List.length_set, hL, e2]
    exact hst1.1

/-- Stripes of the call's own, none of which lies in the block Q. -/
def OwnPq (w : World) (W Q : Nat) (v : Value) (L : List Stp) : Prop := OwnQ StE 31 w W (fun b => W ≤ b ∧ b ≠ Q ∧ v.ownBlock ≠ some b) v L ∧ v.ownBlock ≠ some Q
theorem OwnPq.ge {w : World} {W Q : Nat} {v : Value} {L : List Stp} (h : OwnPq w W Q v L) : ∀ g, v.ownBlock = some g → W ≤ g ∧ g < w.heap.size := by
  obtain ⟨⟨cs, h1, h2, h3⟩, _⟩ := h
  exact fun g hg => World.ownsRow.lt h2 g hg
theorem OwnPq.keep {w w' : World} {W Q : Nat} {v : Value} {L : List Stp} (h : OwnPq w W Q v L) (hk : ∀ b, W ≤ b → b ≠ Q → b < w.heap.size → w'.heap[b]? = w.heap[b]?) : OwnPq w' W Q v L := by
  have hge := h.ge
  obtain ⟨⟨cs, h1, h2, h3⟩, h4⟩ := h
  exact ⟨⟨cs, h1.keep fun b hb hlt => hk b hb.1 hb.2.1 hlt, own_block h2 fun k hk' => hk k (hge k hk').1 (fun e => h4 (by rw [← e]; exact hk')) (hge k hk').2, h3⟩, h4⟩
theorem OwnPq.below {w w' : World} {W Q : Nat} {v : Value} {L : List Stp} (h : OwnPq w W Q v L) (hb : Below w.heap.size w w') : OwnPq w' W Q v L := h.keep fun b _ _ hlt => hb.block b hlt
theorem OwnPq.snoc {w w' : World} {W Q : Nat} {v v' : Value} {L : List Stp} {cs : List (List Value)} {c : List Value} {x : Stp} (hq : v.ownBlock ≠ some Q) (hQ : Q < w.heap.size)
    (h1 : Ch StE w (fun b => W ≤ b ∧ b ≠ Q ∧ v.ownBlock ≠ some b) cs L) (h3 : ∀ g, v.ownBlock = some g → ¬ (fun b => W ≤ b ∧ b ≠ Q ∧ v.ownBlock ≠ some b) g)
    (hx : StE.R w (fun b => W ≤ b ∧ b ≠ Q ∧ v.ownBlock ≠ some b) c x) (ho : w'.ownsRow W 31 3 v' (L.length + 1) (cs.flatten ++ c)) (hg : w.grownBy w' v.ownBlock) (hgr : Gr v.ownBlock v'.ownBlock w) : OwnPq w' W Q v' (L ++ [x]) := by
  have h := OwnQ.snoc (E := StE) (e := 31) h1 h3 hx ho hg hgr
  refine ⟨h.mono (fun b hb _ => ⟨hb.1.1, hb.1.2.1, fun e => ?_⟩) (fun g hg2 hh => hh.2.2 hg2), fun e => ?_⟩
  · rcases hgr with e2 | ⟨g', e2, hg'⟩
    · exact hb.1.2.2 (by rw [← e2]; exact e)
    · rw [e2] at e
      injection e with e
      have := hb.2
      omega
  · rcases hgr with e2 | ⟨g', e2, hg'⟩
    · exact hq (by rw [← e2]; exact e)
    · rw [e2] at e
      injection e with e
      omega

/-- The last stripe ends at a position, and another one follows. -/
def grown (L : List Stp) (t : Int) (S : List (List Int)) : List Stp := L.set (L.length - 1) ((L.getD (L.length - 1) stp0).1, t, (L.getD (L.length - 1) stp0).2.2) ++ [(t, 4611686018427387904, S)]
/-- What comes of a changed copy. -/
def endv (e : Int) (G : List Stp) : Int × Prj := if nxk e then (if prok (e + 1, G) then (0, (e + 1, G)) else (3, prj0)) else (18, prj0)
def grw (e : Int) (L : List Stp) (t : Int) (S : List (List Int)) : Int × Prj :=
  if prok (e, L) = false then (3, prj0) else if t ≤ (L.getD (L.length - 1) stp0).1 ∨ 4611686018427387904 ≤ t then (17, prj0) else if L.length = 64 then (2, prj0) else endv e (grown L t S)
def PePost (P : Nat → Prop) (r : Int × Prj) (w : World) (en : Ending) (w' : World) : Prop :=
  ∃ (A : Option Addr) (N m : Nat), en = .returned (.tuple #[pragg r.2.1 A N m, .int .i64 r.1]) ∧ Below w.heap.size w w' ∧ Pts w' P A N r.2.2 ∧ N ≤ m ∧ (A = none → m = 0)
theorem PePost.zero {P : Nat → Prop} {c : Int} {w w' : World} (hb : Below w.heap.size w w') : PePost P (c, prj0) w (.returned (.tuple #[pragg 0 none 0 0, .int .i64 c])) w' := ⟨none, 0, 0, rfl, hb, ⟨rfl, Sq.nil _ _ _ _⟩, by omega, fun _ => rfl⟩

/-- What the closure reads. -/
def GcS (Q ca ce cs : Nat) (e : Int) (v : Value) (t : Int) (k : Nat) (s : Value) (w : World) : Prop := Blk w Q #[.int .u64 e, v] 25 ∧ Blk w ca #[.int .u64 t] 22 ∧ Blk w ce #[.int .i64 k] 3 ∧ Blk w cs #[s] 27
theorem GcS.keep {Q ca ce cs : Nat} {e : Int} {v : Value} {t : Int} {k : Nat} {s : Value} {w w' : World} (h : GcS Q ca ce cs e v t k s w) (hQ : w'.heap[Q]? = w.heap[Q]?) (ha : w'.heap[ca]? = w.heap[ca]?) (he : w'.heap[ce]? = w.heap[ce]?) (hs : w'.heap[cs]? = w.heap[cs]?) : GcS Q ca ce cs e v t k s w' :=
  ⟨hQ.trans h.1, ha.trans h.2.1, he.trans h.2.2.1, hs.trans h.2.2.2⟩
theorem GcS.below {Q ca ce cs : Nat} {e : Int} {v : Value} {t : Int} {k : Nat} {s : Value} {w w' : World} (h : GcS Q ca ce cs e v t k s w) (hb : Below w.heap.size w w') : GcS Q ca ce cs e v t k s w' := ⟨h.1.below hb, h.2.1.below hb, h.2.2.1.below hb, h.2.2.2.below hb⟩
def ChPost (W Q : Nat) (e : Int) (G : List Stp) (w : World) (en : Ending) (w' : World) : Prop :=
  ∃ v', en = .returned (.tuple #[]) ∧ Ks (fun b => W ≤ b) w w' ∧ Blk w' Q #[.int .u64 e, v'] 25 ∧ OwnPq w' W Q v' G
set_option maxHeartbeats 2000000 in
theorem growc_any (W Q ca ce cs : Nat) (e : Int) (v : Value) (L : List Stp) (t : Int) (k : Nat) (B : Option Addr) (l c : Nat) (S : List (List Int)) (w : World) (hS : GcS Q ca ce cs e v t k (.slice B l c) w) (ho : OwnPq w W Q v L) (hk : k + 1 = L.length) (hL : L.length ≤ 1000)
    (hst : Sts w (fun b => b < W) B l S) (hlc : l ≤ c) (hnil : B = none → c = 0) (hl : l ≤ 1000) (hlen : ∀ s ∈ S, s.length ≤ 1000) (hQ : W ≤ Q) (ha : ca < W) (he : ce < W) (hs : cs < W) (t0 : 0 ≤ t) (t1 : t < 18446744073709551616) :
    Calls Try.prog 17 #[.pointer (some ⟨Q, 0, none⟩), .pointer (some ⟨ca, 0, none⟩), .pointer (some ⟨ce, 0, none⟩), .pointer (some ⟨cs, 0, none⟩)] w (ChPost W Q e (grown L t S) w) := by
  obtain ⟨A, cap, rfl, hcap, hAn, _⟩ := OwnQ.slice ho.1
  obtain ⟨n, hn⟩ : ∃ n, n = L.length := ⟨_, rfl⟩
  rw [← hn] at hS ho hk hL hcap
  have hLk : L[k]? = some (L.getD k stp0) := by rw [List.getD_eq_getElem?_getD, List.getElem?_eq_getElem (by omega)]; rfl
  obtain ⟨g, rfl⟩ : ∃ g, A = some ⟨g, 0, none⟩ := by
    obtain ⟨⟨cs, _, h2, _⟩, _⟩ := ho
    rcases h2.2 with ⟨e, h0⟩ | ⟨g, _, _, e, _⟩
    · omega
    · injection e with e; exact ⟨g, e⟩
  have hto := fun w' (h : OwnPq w' W Q (.slice (some ⟨g, 0, none⟩) n cap) L) => own_to (u := t) h.1 hLk t0 t1
  have hoD : OwnPq w.drew W Q (.slice (some ⟨g, 0, none⟩) n cap) L := ho.below (below_one' w)
  have hSD : GcS Q ca ce cs e (.slice (some ⟨g, 0, none⟩) n cap) t k (.slice B l c) w.drew := hS.below (below_one' w)
  obtain ⟨ho1, ⟨x, hx⟩, hfz, hgW, hgl, hkn⟩ := hto _ hoD
  have hgQ : g ≠ Q := fun e => ho.2 (by rw [e]; rfl)
  have hkn2 : (k : Int) < n := by omega
  have hKs : Ks (fun b => W ≤ b) w (w.drew.setCell ⟨g, k * 3 + 1, none⟩ (.int .u64 t)) := (Ks.of_below (below_one' w)).trans (Ks.setCell _ _ _ _ hgW)
  have hS1 : GcS Q ca ce cs e (.slice (some ⟨g, 0, none⟩) n cap) t k (.slice B l c) (w.drew.setCell ⟨g, k * 3 + 1, none⟩ (.int .u64 t)) :=
    hSD.keep (Below.heap_setCell _ _ _ _ (fun e => hgQ e.symm)) (Below.heap_setCell _ _ _ _ (fun e => by have e2 : ca = g := e; omega)) (Below.heap_setCell _ _ _ _ (fun e => by have e2 : ce = g := e; omega)) (Below.heap_setCell _ _ _ _ (fun e => by have e2 : cs = g := e; omega))
  have hO1 : OwnPq (w.drew.setCell ⟨g, k * 3 + 1, none⟩ (.int .u64 t)) W Q (.slice (some ⟨g, 0, none⟩) n cap) (L.set k ((L.getD k stp0).1, t, (L.getD k stp0).2.2)) := ⟨ho1, ho.2⟩
  have HST : Hid (∀ w', Ks (fun b => W ≤ b) w w' → Sts w' (fun b => b < W) B l S) := Lib.hid fun w' h => hst.keep fun b hb hlt => h.block b hlt (by have : b < W := hb; omega)
  have HGR : Hid (grown L t S = L.set k ((L.getD k stp0).1, t, (L.getD k stp0).2.2) ++ [(t, 4611686018427387904, S)]) := Lib.hid (by unfold grown; rw [show L.length - 1 = k by omega])
  have HLL : Hid ((L.set k ((L.getD k stp0).1, t, (L.getD k stp0).2.2)).length = n) := Lib.hid (by rw [List.length_set, hn])
  have L1 : ∀ w', GcS Q ca ce cs e (.slice (some ⟨g, 0, none⟩) n cap) t k (.slice B l c) w' → w'.cell? ⟨Q, 1, none⟩ = some (.slice (some ⟨g, 0, none⟩) n cap) ∧ w'.cell? ⟨ca, 0, none⟩ = some (.int .u64 t) ∧ w'.cell? ⟨ce, 0, none⟩ = some (.int .i64 k) ∧ w'.cell? ⟨cs, 0, none⟩ = some (.slice B l c) := fun w' h => ⟨h.1.c2.2, h.2.1.c1, h.2.2.1.c1, h.2.2.2.c1⟩
  unfold ChPost
  rw [HGR.out]
  generalize L.set k ((L.getD k stp0).1, t, (L.getD k stp0).2.2) = M at *
  clear ho hS hoD ho1 hto hst hLk hn HGR hAn
  go_enter Try.func17, Try.ntmps17
  go_wp2
  refine Seq.wp_region_last (GcS Q ca ce cs e (.slice (some ⟨g, 0, none⟩) n cap) t k (.slice B l c)) (by kernel_rfl) (by kernel_rfl) (by kernel_rfl) hSD ?_
  have hwd := hSD.1.lt
  generalize w.drew = wd at *
  repeat (first | (refine Seq.SeqE.skip (by rfl) ?_; (try simp only [Act.put, List.setIfInBounds_toArray, List.set_cons_zero, List.set_cons_succ])) | (refine Seq.SeqE.det ?_ (by rfl) (fun w hS => ?_) ?_; rotate_left; ((try dsimp only at hS); go_simp; (try rw [if_pos (by omega)]); with_reducible rfl); (try simp only [Act.put, List.setIfInBounds_toArray, List.set_cons_zero, List.set_cons_succ])))
  refine Seq.SeqE.last (by rfl) (by rfl) (fun K Q' hK => ?_)
  go_simp
  refine hK.out _ _ ?_
  clear hK K
  try simp only [Act.put, List.setIfInBounds_toArray, List.set_cons_zero, List.set_cons_succ]
  clear hx hfz hSD
  generalize wd.setCell ⟨g, k * 3 + 1, none⟩ (.int .u64 t) = w1 at *
  have hS2 := hS1.below (below_one' w1)
  have hO2 := hO1.below (below_one' w1)
  replace hKs := hKs.trans (Ks.of_below (below_one' w1))
  clear hS1 hO1
  go_wp2
  refine Seq.wp_region_last (GcS Q ca ce cs e (.slice (some ⟨g, 0, none⟩) n cap) t k (.slice B l c)) (by kernel_rfl) (by kernel_rfl) (by kernel_rfl) hS2 ?_
  generalize w1.drew = w2 at *
  repeat (first | (refine Seq.SeqE.skip (by rfl) ?_; (try simp only [Act.put, List.setIfInBounds_toArray, List.set_cons_zero, List.set_cons_succ])) | (refine Seq.SeqE.det ?_ (by rfl) (fun w hS => ?_) ?_; rotate_left; ((try dsimp only at hS); go_simp; (try rw [if_pos (by omega)]); with_reducible rfl); (try simp only [Act.put, List.setIfInBounds_toArray, List.set_cons_zero, List.set_cons_succ])))
  refine Seq.SeqE.make (by rfl) (by rfl) (fun K Q' hK => ?_)
  go_simp
  go_at_call 18
  have hsz2 := hKs.size
  refine (stcopy_any t 4611686018427387904 B l c S w2 ((HST.out w2 hKs).mono fun b hb hlt => hlt) hlc hnil (by omega) (fun s hs => by have := hlen s hs; omega)).mono ?_
  rintro en w5 ⟨A5, m5, rfl, hb5, hst5, hm5, hn5⟩
  have hQ2 := hS2.1.lt
  have hgl2 := (hO2.ge g rfl).2
  have hW2 : W ≤ w2.heap.size := by omega
  have hS5 := hS2.below hb5
  have hO5 := hO2.below hb5
  replace hKs := hKs.trans (Ks.of_below hb5)
  have hel5 := StE.mk ⟨t0, t1⟩ (by decide : (0 : Int) ≤ 4611686018427387904 ∧ (4611686018427387904 : Int) < 18446744073709551616) hst5.1 hm5 hn5 (hst5.mono (Q := fun b => W ≤ b ∧ b ≠ Q ∧ (Value.slice (some ⟨g, 0, none⟩) n cap).ownBlock ≠ some b) (fun b hb9 _ => by
    have h9 : w2.heap.size ≤ b := hb9
    exact ⟨by omega, by omega, fun e => by injection e with e; have e2 : g = b := e; omega⟩))
  clear hb5 hst5 hm5 hn5 hS2 hO2
  refine hK.out _ _ (hS5) ?_
  clear hK K
  try simp only [Act.put, List.setIfInBounds_toArray, List.set_cons_zero, List.set_cons_succ]
  repeat (first | (refine Seq.SeqE.skip (by rfl) ?_; (try simp only [Act.put, List.setIfInBounds_toArray, List.set_cons_zero, List.set_cons_succ])) | (refine Seq.SeqE.det ?_ (by rfl) (fun w hS => ?_) ?_; rotate_left; ((try dsimp only at hS); go_simp; (try rw [if_pos (by omega)]); with_reducible rfl); (try simp only [Act.put, List.setIfInBounds_toArray, List.set_cons_zero, List.set_cons_succ])))
  refine Seq.SeqE.make (by rfl) (by rfl) (fun K Q' hK => ?_)
  go_simp
  have hb6 := below_one w5 (.cells #[.int .u64 t, .int .u64 4611686018427387904, .slice A5 l m5] 31)
  have hrw6 := rw_new w5 [.int .u64 t, .int .u64 4611686018427387904, .slice A5 l m5] 31
  have hS6 := hS5.below hb6
  have hO6 := hO5.below hb6
  have hel6 := StE.keep hel5 (fun b hb hlt => hb6.block b hlt)
  replace hKs := hKs.trans (Ks.of_below hb6)
  have hW6 : W ≤ (w5.alloc (.cells #[.int .u64 t, .int .u64 4611686018427387904, .slice A5 l m5] 31)).heap.size := by have := hS6.1.lt; omega
  clear hS5 hO5 hel5 hb6
  refine hK.out _ _ (hS6) ?_
  clear hK K
  try simp only [Act.put, List.setIfInBounds_toArray, List.set_cons_zero, List.set_cons_succ]
  repeat (first | (refine Seq.SeqE.skip (by rfl) ?_; (try simp only [Act.put, List.setIfInBounds_toArray, List.set_cons_zero, List.set_cons_succ])) | (refine Seq.SeqE.det ?_ (by rfl) (fun w hS => ?_) ?_; rotate_left; ((try dsimp only at hS); go_simp; (try rw [if_pos (by omega)]); with_reducible rfl); (try simp only [Act.put, List.setIfInBounds_toArray, List.set_cons_zero, List.set_cons_succ])))
  refine Seq.SeqE.make (by rfl) (by rfl) (fun K Q' hK => ?_)
  have hQ6 := hS6.1.lt
  have hq6 := hO6.2
  obtain ⟨⟨css, g1, g2, g3⟩, _⟩ := hO6
  rw [HLL.out] at g2
  refine oper_append_rw kindST (.tmp 17) (.tmp 22) rfl W _ n _ rfl g2 _ 1 _ [.int .u64 t, .int .u64 4611686018427387904, .slice A5 l m5] rfl rfl hrw6 (fun e => by cases e) (by simp [Value.oneCell']) (by omega) (by omega) hW6 ?_
  intro v' w9 ho9 hg9 hgr9
  have H9 := OwnPq.snoc hq6 hQ6 g1 g3 hel6 (by rw [HLL.out]; exact ho9) hg9 hgr9
  obtain ⟨A9, c9, hv9, _⟩ := OwnQ.slice H9.1
  subst hv9
  generalize (M ++ [(t, 4611686018427387904, S)]).length = n9 at *
  have hk9 := Ks.of_grown (S := fun b => b = g) hg9 (fun b e => by injection e with e; exact e.symm)
  have hS9 : GcS Q ca ce cs e (.slice (some ⟨g, 0, none⟩) n cap) t k (.slice B l c) w9 := hS6.keep (hk9.block _ hS6.1.lt (fun e => hgQ e.symm)) (hk9.block _ hS6.2.1.lt (fun e => by omega)) (hk9.block _ hS6.2.2.1.lt (fun e => by omega)) (hk9.block _ hS6.2.2.2.lt (fun e => by omega))
  replace hKs := hKs.trans (Ks.of_grown hg9 (fun b e => by injection e with e; have e2 : g = b := e; omega))
  have q1 := hS9.1.c2.2
  have q2 := hS9.1.free 1
  have HQ9 := Lib.hid (hS9.1.set 1 (.slice A9 n9 c9))
  have HK9 := Lib.hid (hKs.trans (Ks.setCell w9 Q 1 (.slice A9 n9 c9) hQ))
  have HO9 := Lib.hid (H9.keep (w' := w9.setCell ⟨Q, 1, none⟩ (.slice A9 n9 c9)) (fun b _ hb _ => Below.heap_setCell _ _ _ _ (fun e => hb e)))
  clear g1 g2 g3 hel6 hrw6 ho9 hg9 hgr9 hk9 H9 hKs hq6
  refine hK.out _ _ (hS9) ?_
  clear hK K
  try simp only [Act.put, List.setIfInBounds_toArray, List.set_cons_zero, List.set_cons_succ]
  repeat (first | (refine Seq.SeqE.skip (by rfl) ?_; (try simp only [Act.put, List.setIfInBounds_toArray, List.set_cons_zero, List.set_cons_succ])) | (refine Seq.SeqE.det ?_ (by rfl) (fun w hS => ?_) ?_; rotate_left; ((try dsimp only at hS); go_simp; (try rw [if_pos (by omega)]); with_reducible rfl); (try simp only [Act.put, List.setIfInBounds_toArray, List.set_cons_zero, List.set_cons_succ])))
  refine Seq.SeqE.last (by rfl) (by rfl) (fun K Q' hK => ?_)
  go_simp
  refine hK.out _ _ ?_
  clear hK K
  try simp only [Act.put, List.setIfInBounds_toArray, List.set_cons_zero, List.set_cons_succ]
  go_wp2
  go_end0
  exact ⟨_, rfl, HK9.out, HQ9.out, HO9.out⟩
end Go.Proofs.Ythpgandifeiejaa.Cur

namespace Go.Proofs.Ythpgandifeiejaa.Cur
open Go.RowKit Mem
set_option linter.unusedVariables false
set_option maxRecDepth 100000


theorem endv_no {e : Int} {G : List Stp} (h : nxk e = false) : endv e G = (18, prj0) := by unfold endv; rw [h]; rfl
theorem endv_bad {e : Int} {G : List Stp} (h : nxk e = true) (h2 : prok (e + 1, G) = false) : endv e G = (3, prj0) := by unfold endv; rw [h, h2]; rfl
theorem endv_ok {e : Int} {G : List Stp} (h : nxk e = true) (h2 : prok (e + 1, G) = true) : endv e G = (0, (e + 1, G)) := by unfold endv; rw [h, h2]; rfl
theorem OwnPq.of {w : World} {W : Nat} {v : Value} {L : List Stp} (h : OwnQ StE 31 w W (fun k => W ≤ k ∧ v.ownBlock ≠ some k) v L) : OwnPq w W w.heap.size v L := by
  have hlt : ∀ g, v.ownBlock = some g → g < w.heap.size := by
    obtain ⟨cs, h1, h2, h3⟩ := h
    exact fun g hg => (World.ownsRow.lt h2 g hg).2
  refine ⟨h.mono (fun b hb hl => ⟨hb.1, by omega, hb.2⟩) (fun g hg hh => hh.2.2 hg), fun e => by have := hlt _ e; omega⟩
theorem OwnPq.pts {w : World} {W Q : Nat} {v : Value} {L : List Stp} (h : OwnPq w W Q v L) : ∃ A c, v = .slice A L.length c ∧ L.length ≤ c ∧ (A = none → c = 0) ∧ Pts w (fun k => W ≤ k) A L.length L := by
  have hge := h.ge
  obtain ⟨A, c, e, h1, h2, h3⟩ := OwnQ.slice h.1
  exact ⟨A, c, e, h1, h2, rfl, h3.mono fun b hb _ => by
    rcases hb with hb | hb
    · exact hb.1
    · exact (hge b hb).1⟩
theorem plen.up {M N : Nat} {L : List Stp} (h : plen M L) (hM : M ≤ N) : plen N L := fun s hs => ⟨Nat.le_trans (h s hs).1 hM, fun l hl => Nat.le_trans ((h s hs).2 l hl) hM⟩
theorem grown_plen {M : Nat} {L : List Stp} {t : Int} {S : List (List Int)} (h : plen M L) (h1 : S.length ≤ M) (h2 : ∀ l ∈ S, l.length ≤ M) : plen M (grown L t S) := by
  intro s hs
  unfold grown at hs
  rcases List.mem_append.1 hs with hs | hs
  · rcases List.mem_or_eq_of_mem_set hs with hs | rfl
    · exact h s hs
    · exact h.at_ _
  · rw [List.mem_singleton] at hs; subst hs; exact ⟨h1, h2⟩
theorem grown_len (L : List Stp) (t : Int) (S : List (List Int)) : (grown L t S).length = L.length + 1 := by unfold grown; simp

set_option maxHeartbeats 4000000 in
theorem renewg_any (e : Int) (A : Option Addr) (n m : Nat) (L G : List Stp) (c1 c2 c3 : Nat) (w : World) (hz : Pts w (fun b => b < w.heap.size) A n L) (hm : n ≤ m) (hnil : A = none → m = 0) (hn : n ≤ 1000) (hlen : plen 1000 L) (e0 : 0 ≤ e) (e1 : e < 18446744073709551616)
    (hG : plen 1000 G) (hGn : G.length ≤ 2000)
    (hcon : ∀ (W Q : Nat) (v : Value) (w1 : World), w.heap.size ≤ W → W ≤ Q → Below w.heap.size w w1 → Blk w1 Q #[.int .u64 (e + 1), v] 25 → OwnPq w1 W Q v L → Calls Try.prog 17 #[.pointer (some ⟨Q, 0, none⟩), .pointer (some ⟨c1, 0, none⟩), .pointer (some ⟨c2, 0, none⟩), .pointer (some ⟨c3, 0, none⟩)] w1 (ChPost W Q (e + 1) G w1)) :
    Calls Try.prog 16 #[pragg e A n m, .func (.func 17) #[] #[.pointer (some ⟨c1, 0, none⟩), .pointer (some ⟨c2, 0, none⟩), .pointer (some ⟨c3, 0, none⟩)]] w (PePost (fun k => w.heap.size ≤ k) (endv e G) w) := by
  have hX := (Blk.new w (prc e A n m) 25).alloc (.cells (prc 0 none 0 0) 25)
  have hY := Blk.new (w.alloc (.cells (prc e A n m) 25)) (prc 0 none 0 0) 25
  rw [show (w.alloc (.cells (prc e A n m) 25)).heap.size = w.heap.size + 1 by simp] at hY
  have hb := below_two w (.cells (prc e A n m) 25) (.cells (prc 0 none 0 0) 25)
  have hw0 : ((w.alloc (.cells (prc e A n m) 25)).alloc (.cells (prc 0 none 0 0) 25)).heap.size = w.heap.size + 2 := by simp
  have HZ := Lib.hid hz
  have HCON := Lib.hid hcon
  have HG := Lib.hid hG
  have HLEN := Lib.hid hlen
  obtain ⟨x0, x1⟩ := hX.c2
  obtain ⟨R, hR⟩ : ∃ R, R = endv e G := ⟨_, rfl⟩
  rw [← hR]
  have HR := Lib.hid hR
  clear hz hcon hG hlen hR
  go_enter Try.func16, Try.ntmps16
  go_wp2_with fail
  generalize (w.alloc (.cells (prc e A n m) 25)).alloc (.cells (prc 0 none 0 0) 25) = w0 at *
  refine (enext_any e e0 e1 _).mono ?_
  rintro en w' ⟨rfl, rfl⟩
  by_cases hnx : nxk e = true
  case neg =>
    have hnx' : nxk e = false := by simpa using hnx
    clear hnx
    have HV := Lib.hid (endv_no (G := G) hnx')
    rw [hnx']
    obtain ⟨y0, y1⟩ := hY.c2
    obtain ⟨f0, f1⟩ := hY.f2
    go_wp2
    refine bodyPost_ret (v := .tuple #[pragg 0 none 0 0, .int .i64 18]) (by simp [results, Try.results16, go_sem, y0, y1]) rfl ?_
    rw [HR.out, HV.out]
    refine PePost.zero ?_
    iterate 2 (refine Below.setCell ?_ (by simp) _)
    exact hb
  have hv : nxv e = e + 1 := by unfold nxv; rw [hnx]; rfl
  have hE : e + 1 < 18446744073709551616 := by
    have := of_decide_eq_true hnx
    omega
  rw [hv, hnx]
  have HNX := Lib.hid hnx
  obtain ⟨E, hEE⟩ : ∃ E, E = e + 1 := ⟨_, rfl⟩
  rw [← hEE] at HCON hE ⊢
  have HEE := Lib.hid hEE
  have hE0 : 0 ≤ E := by omega
  clear hv hnx hEE
  go_wp2_with fail
  with_reducible refine (prcopyo_any e A n m L w0 ((HZ.out.below hb).mono fun b hb9 _ => by have h9 : b < w.heap.size := hb9; omega) hm hnil (by omega) (HLEN.out.up (by omega))).mono ?_
  rintro en w1 ⟨v, rfl, hb1, ho1⟩
  have ho2 := OwnPq.of ho1
  obtain ⟨Av, cv, hvv, _, _, _⟩ := ho2.pts
  subst hvv
  generalize L.length = nv at *
  have hsz1 := hb1.size
  have hA := below_one w1 (.cells #[.int .u64 e, .slice Av nv cv] 25)
  have hQ := Blk.new w1 #[.int .u64 e, .slice Av nv cv] 25
  have hX2 := (hX.below hb1).below hA
  have hY2 := (hY.below hb1).below hA
  have hb2 := hb.trans (hb1.mono hb.size)
  replace hb2 := hb2.trans (hA.mono hb2.size)
  have ho3 := ho2.below hA
  have hl2 : (w1.alloc (.cells #[.int .u64 e, .slice Av nv cv] 25)).heap.size = w1.heap.size + 1 := by simp
  clear hX hY hb1 ho1 ho2 hA x0 x1
  go_upto_region 5 with (fail)
  generalize w1.alloc (.cells #[.int .u64 e, .slice Av nv cv] 25) = w2 at *
  generalize w1.heap.size = Q at *
  have hQ3 := hQ.set 0 (.int .u64 E)
  have hX3 := hX2.far (g := Q) 0 (.int .u64 E) (by omega)
  have hY3 := hY2.far (g := Q) 0 (.int .u64 E) (by omega)
  have hb3 := Below.setCell hb2 (p := ⟨Q, 0, none⟩) (by show w.heap.size ≤ Q; omega) (.int .u64 E)
  have ho4 := ho3.keep (w' := w2.setCell ⟨Q, 0, none⟩ (.int .u64 E)) (fun b _ hb9 _ => Below.heap_setCell _ _ _ _ (fun e => hb9 e))
  obtain ⟨q0, q1⟩ := hQ.c2
  have q2 := hQ.free 0
  go_upto_region 6 with (fail)
  clear q0 q1 q2 hQ hX2 hY2 hb2 ho3
  generalize w2.setCell ⟨Q, 0, none⟩ (.int .u64 E) = w3 at *
  have hQ4 : Blk w3 Q #[.int .u64 E, .slice Av nv cv] 25 := hQ3
  have hc := HCON.out w0.heap.size Q (.slice Av nv cv) w3 (by omega) (by omega) hb3 hQ4 ho4
  clear HCON hQ3
  go_wp2_with fail
  with_reducible refine hc.mono ?_
  rintro en w4 ⟨v', rfl, hk4, hq4, ho5⟩
  have hX4 := hX3.ks hk4 (by omega)
  have hY4 := hY3.ks hk4 (by omega)
  have hb4 := Ks.below hb3 (Nat.le_refl _) hk4 (fun b h9 => by omega)
  obtain ⟨A', c', rfl, hc1, hc2, hpt⟩ := ho5.pts
  clear hc hX3 hY3 hb3 ho4 hk4 ho5 hQ4
  obtain ⟨N, hN⟩ : ∃ N, N = G.length := ⟨_, rfl⟩
  rw [← hN] at hq4 hc1 hpt
  have hN2 : N ≤ 2000 := by omega
  clear hN
  obtain ⟨q0, q1⟩ := hq4.c2
  go_wp2_with fail
  with_reducible refine (prright_any _ E A' N c' G w4 hpt (by omega) (HG.out.up (by omega))).mono ?_
  rintro en w5 ⟨rfl, hb5⟩
  replace hb4 := hb4.trans (hb5.mono hb4.size)
  have hY5 := hY4.below hb5
  have hq5 := hq4.below hb5
  have hpt5 := hpt.below hb5
  clear q0 q1 hX4 hY4 hq4 hpt hb5
  obtain ⟨y0, y1⟩ := hY5.c2
  obtain ⟨f0, f1⟩ := hY5.f2
  obtain ⟨q0, q1⟩ := hq5.c2
  by_cases hok : prok (E, G) = true
  · rw [hok]
    have HV : Hid (endv e G = (0, (E, G))) := Lib.hid (by rw [HEE.out] at hok ⊢; exact endv_ok HNX.out hok)
    clear hok
    have HP := Lib.hid hpt5
    clear hpt5
    go_wp2
    refine bodyPost_ret (v := .tuple #[pragg E A' N c', .int .i64 0]) (by simp [results, Try.results16, go_sem, y0, y1]) rfl ?_
    rw [HR.out, HV.out]
    refine ⟨A', N, c', rfl, ?_, ?_, hc1, hc2⟩
    · iterate 2 (refine Below.setCell ?_ (by simp) _)
      exact hb4
    · refine Pts.mono (Pts.keep HP.out (fun b hb9 _ => ?_)) (fun b hb9 _ => by have h9 : w0.heap.size ≤ b := hb9; show w.heap.size ≤ b; omega)
      have h9 : w0.heap.size ≤ b := hb9
      rw [Below.heap_setCell _ _ _ _ (by simp; omega), Below.heap_setCell _ _ _ _ (by simp; omega)]
  · have hok' : prok (E, G) = false := by simpa using hok
    rw [hok']
    have HV : Hid (endv e G = (3, prj0)) := Lib.hid (by rw [HEE.out] at hok'; exact endv_bad HNX.out hok')
    clear hok hok' hpt5
    go_wp2
    refine bodyPost_ret (v := .tuple #[pragg 0 none 0 0, .int .i64 3]) (by simp [results, Try.results16, go_sem, y0, y1]) rfl ?_
    rw [HR.out, HV.out]
    refine PePost.zero ?_
    iterate 2 (refine Below.setCell ?_ (by simp) _)
    exact hb4
end Go.Proofs.Ythpgandifeiejaa.Cur

namespace Go.Proofs.Ythpgandifeiejaa.Cur
open Go.RowKit Mem
set_option linter.unusedVariables false
set_option maxRecDepth 100000


theorem new4 (w : World) (c0 c1 c2 c3 : Array Value) (t0 t1 t2 t3 : Nat) : ∃ w', w' = (((w.alloc (.cells c0 t0)).alloc (.cells c1 t1)).alloc (.cells c2 t2)).alloc (.cells c3 t3) ∧
    Blk w' w.heap.size c0 t0 ∧ Blk w' (w.heap.size + 1) c1 t1 ∧ Blk w' (w.heap.size + 1 + 1) c2 t2 ∧ Blk w' (w.heap.size + 1 + 1 + 1) c3 t3 ∧ Below w.heap.size w w' ∧ w'.heap.size = w.heap.size + 4 := by
  refine ⟨_, rfl, (((Blk.new w c0 t0).alloc _).alloc _).alloc _, ?_, ?_, ?_, (below_three _ _ _ _).alloc (by simp; omega) _, by simp⟩
  · have := ((Blk.new (w.alloc (.cells c0 t0)) c1 t1).alloc (.cells c2 t2)).alloc (.cells c3 t3)
    simpa only [World.size_alloc] using this
  · have := (Blk.new ((w.alloc (.cells c0 t0)).alloc (.cells c1 t1)) c2 t2).alloc (.cells c3 t3)
    simpa only [World.size_alloc] using this
  · have := Blk.new (((w.alloc (.cells c0 t0)).alloc (.cells c1 t1)).alloc (.cells c2 t2)) c3 t3
    simpa only [World.size_alloc] using this
theorem grw_no {e : Int} {L : List Stp} {t : Int} {S : List (List Int)} (h : prok (e, L) = false) : grw e L t S = (3, prj0) := by unfold grw; rw [if_pos h]
theorem grw_arg {e : Int} {L : List Stp} {t : Int} {S : List (List Int)} (h : prok (e, L) = true) (h2 : t ≤ (L.getD (L.length - 1) stp0).1 ∨ 4611686018427387904 ≤ t) : grw e L t S = (17, prj0) := by unfold grw; rw [if_neg (by simp [h]), if_pos h2]
theorem grw_long {e : Int} {L : List Stp} {t : Int} {S : List (List Int)} (h : prok (e, L) = true) (h2 : ¬ (t ≤ (L.getD (L.length - 1) stp0).1 ∨ 4611686018427387904 ≤ t)) (h3 : L.length = 64) : grw e L t S = (2, prj0) := by unfold grw; rw [if_neg (by simp [h]), if_neg h2, if_pos h3]
theorem grw_end {e : Int} {L : List Stp} {t : Int} {S : List (List Int)} (h : prok (e, L) = true) (h2 : ¬ (t ≤ (L.getD (L.length - 1) stp0).1 ∨ 4611686018427387904 ≤ t)) (h3 : L.length ≠ 64) : grw e L t S = endv e (grown L t S) := by unfold grw; rw [if_neg (by simp [h]), if_neg h2, if_neg h3]
/-- The last stripe of a valid projection ends at the last position. -/
theorem last_to {e : Int} {L : List Stp} (h : prok (e, L) = true) : (L.getD (L.length - 1) stp0).2.1 = 4611686018427387904 ∧ 1 ≤ L.length ∧ L.length ≤ 64 := by
  obtain ⟨_, k2, k3, k4⟩ := prok_parts h
  have h2 := ((pch_iff L 0 4611686018427387904).1 k4).2
  unfold pe at h2
  dsimp only at k2
  rw [if_neg (by omega)] at h2
  exact ⟨h2, k2, k3⟩

set_option maxHeartbeats 4000000 in
theorem grow_any (e : Int) (A : Option Addr) (n m : Nat) (L : List Stp) (t : Int) (B : Option Addr) (l c : Nat) (S : List (List Int)) (w : World) (hz : Pts w (fun b => b < w.heap.size) A n L) (hm : n ≤ m) (hnil : A = none → m = 0) (hn : n ≤ 900) (hlen : plen 900 L) (e0 : 0 ≤ e) (e1 : e < 18446744073709551616)
    (t0 : 0 ≤ t) (t1 : t < 18446744073709551616) (hst : Sts w (fun b => b < w.heap.size) B l S) (hlc : l ≤ c) (hnilB : B = none → c = 0) (hl : l ≤ 900) (hls : ∀ s ∈ S, s.length ≤ 900) :
    Calls Try.prog 7 #[pragg e A n m, .int .u64 t, .slice B l c] w (PePost (fun k => w.heap.size ≤ k) (grw e L t S) w) := by
  obtain ⟨w4, hw4, hX, hca, hcs, hY, hb, hsz⟩ := new4 w (prc e A n m) #[.int .u64 t] #[.slice B l c] (prc 0 none 0 0) 25 22 27 25
  have HZ := Lib.hid hz
  have HST := Lib.hid hst
  have HLS := Lib.hid hls
  have HLEN := Lib.hid hlen
  have HL := Lib.hid hz.1
  obtain ⟨x0, x1⟩ := hX.c2
  obtain ⟨R, hR⟩ : ∃ R, R = grw e L t S := ⟨_, rfl⟩
  rw [← hR]
  have HR := Lib.hid hR
  clear hz hst hls hlen hR
  go_enter Try.func7, Try.ntmps7
  rw [hw4] at x0 x1
  go_wp2_with fail
  rw [← hw4] at x0 x1 ⊢
  clear hw4
  refine (prright_any _ e A n m L w4 (HZ.out.below hb) (by omega) (HLEN.out.up (by omega))).mono ?_
  rintro en w5 ⟨rfl, hb5⟩
  replace hX := hX.below hb5
  replace hca := hca.below hb5
  replace hcs := hcs.below hb5
  replace hY := hY.below hb5
  replace hb := hb.trans (hb5.mono hb.size)
  have hsz5 : w.heap.size + 4 ≤ w5.heap.size := by have := hb5.size; omega
  clear hb5 x0 x1 hsz
  obtain ⟨y0, y1⟩ := hY.c2
  obtain ⟨f0, f1⟩ := hY.f2
  obtain ⟨x0, x1⟩ := hX.c2
  by_cases hok : prok (e, L) = true
  case neg =>
    have hok' : prok (e, L) = false := by simpa using hok
    clear hok
    have HV := Lib.hid (grw_no (t := t) (S := S) hok')
    rw [hok']
    clear hok'
    go_wp2
    refine bodyPost_ret (v := .tuple #[pragg 0 none 0 0, .int .i64 3]) (by simp [results, Try.results7, go_sem, y0, y1]) rfl ?_
    rw [HR.out, HV.out]
    refine PePost.zero ?_
    iterate 2 (refine Below.setCell ?_ (by simp; omega) _)
    exact hb
  obtain ⟨hto, hn1, hn64⟩ := last_to hok
  rw [HL.out] at hn1 hn64
  obtain ⟨k, hk⟩ : ∃ k, k + 1 = n := ⟨n - 1, by omega⟩
  have HOK := Lib.hid hok
  obtain ⟨g, o, rfl, _, hg, hc⟩ := HZ.out.cells (by omega)
  obtain ⟨f, u, S0, a, l0, m0, he, hf, hu, hl0, hlm0, hn0, hst0, hcell⟩ := hc k (by omega)
  have hkl : L.length - 1 = k := by rw [HL.out]; omega
  rw [hkl, he] at hto
  dsimp only at hto
  subst hto
  have hgr := @grw_arg e L t S hok
  have hgl := @grw_long e L t S hok
  have hge := @grw_end e L t S hok
  rw [hkl, he] at hgr hgl hge
  dsimp only at hgr hgl hge
  have HA := Lib.hid hgr
  have HG := Lib.hid hgl
  have HE := Lib.hid hge
  have HC := Lib.hid hcell
  rw [hok]
  clear hc he hok hst0 hgr hgl hge hkl hcell hl0 hlm0 hn0
  have e3 : IntKind.i64.wrap ((n : Int) - 1) = (k : Int) := by rw [IntWalk.i64_in _ (by omega)]; omega
  have hbA := below_one w5 (.cells #[.int .i64 k] 3)
  have hce := Blk.new w5 #[.int .i64 (k : Int)] 3
  replace hX := hX.below hbA
  replace hca := hca.below hbA
  replace hcs := hcs.below hbA
  replace hY := hY.below hbA
  replace hb := hb.trans (hbA.mono hb.size)
  have hsz6 : (w5.alloc (.cells #[.int .i64 (k : Int)] 3)).heap.size = w5.heap.size + 1 := by simp
  clear hbA
  go_upto_region 4 with (fail)
  generalize w5.alloc (.cells #[.int .i64 (k : Int)] 3) = w6 at *
  generalize w5.heap.size = ce at *
  obtain ⟨z0, z1, z2⟩ := HC.out w6 hb
  obtain ⟨x0, x1⟩ := hX.c2
  have k0 : w6.cell? ⟨ce, 0, none⟩ = some (.int .i64 k) := hce.c1
  have hkn : (k : Int) < n := by omega
  have hbA := below_one w6 (.cells (stc f 4611686018427387904 a l0 m0) 31)
  have hLS := Blk.new w6 (stc f 4611686018427387904 a l0 m0) 31
  replace hX := hX.below hbA
  replace hca := hca.below hbA
  replace hcs := hcs.below hbA
  replace hY := hY.below hbA
  replace hce := hce.below hbA
  replace hb := hb.trans (hbA.mono hb.size)
  have hsz7 : (w6.alloc (.cells (stc f 4611686018427387904 a l0 m0) 31)).heap.size = w6.heap.size + 1 := by simp
  clear hbA HC y0 y1 f0 f1
  go_upto_region 5 with (fail)
  clear x0 x1 z0 z1 z2 k0
  generalize w6.alloc (.cells (stc f 4611686018427387904 a l0 m0) 31) = w7 at *
  have hsz8 : w6.heap.size < w7.heap.size := by omega
  clear hsz7
  generalize w6.heap.size = lb at *
  subst hsz6
  obtain ⟨x0, x1⟩ := hX.c2
  obtain ⟨y0, y1⟩ := hY.c2
  obtain ⟨f0, f1⟩ := hY.f2
  obtain ⟨z0, z1, z2⟩ := hLS.c3
  have q0 := hca.c1
  by_cases h1 : t ≤ f
  · have HV := Lib.hid (HA.out (.inl h1))
    go_wp2
    refine bodyPost_ret (v := .tuple #[pragg 0 none 0 0, .int .i64 17]) (by simp [results, Try.results7, go_sem, y0, y1]) rfl ?_
    rw [HR.out, HV.out]
    refine PePost.zero ?_
    iterate 2 (refine Below.setCell ?_ (by simp; omega) _)
    exact hb
  by_cases h2 : 4611686018427387904 ≤ t
  · have HV := Lib.hid (HA.out (.inr h2))
    go_wp2
    refine bodyPost_ret (v := .tuple #[pragg 0 none 0 0, .int .i64 17]) (by simp [results, Try.results7, go_sem, y0, y1]) rfl ?_
    rw [HR.out, HV.out]
    refine PePost.zero ?_
    iterate 2 (refine Below.setCell ?_ (by simp; omega) _)
    exact hb
  by_cases h3 : n = 64
  · have HV := Lib.hid (HG.out (fun h => h.elim h1 h2) (by rw [HL.out]; exact h3))
    have h3b : ((n : Int) == 64) = true := by rw [h3]; rfl
    clear h3
    go_wp2
    refine bodyPost_ret (v := .tuple #[pragg 0 none 0 0, .int .i64 2]) (by simp [results, Try.results7, go_sem, y0, y1]) rfl ?_
    rw [HR.out, HV.out]
    refine PePost.zero ?_
    iterate 2 (refine Below.setCell ?_ (by simp; omega) _)
    exact hb
  have HV := Lib.hid (HE.out (fun h => h.elim h1 h2) (by rw [HL.out]; exact h3))
  have h3b : ((n : Int) == 64) = false := by rw [beq_eq_false_iff_ne]; omega
  have hkL : k + 1 = L.length := by rw [HL.out]; exact hk
  have hG := grown_plen (t := t) HLEN.out (S := S) (by rw [HST.out.1]; exact hl) HLS.out
  have hGl := grown_len L t S
  rw [HL.out] at hGl
  have hcon := renewg_any e (some ⟨g, o, none⟩) n m L (grown L t S) (w.heap.size + 1) ce (w.heap.size + 1 + 1) w7 ((HZ.out.below hb).mono fun b h9 _ => by have h8 : b < w.heap.size := h9; have := hb.size; omega) hm hnil (by omega) (HLEN.out.up (by omega)) e0 e1 (hG.up (by omega)) (by omega)
    (fun W Q v w9 hW hQ hb9 hq ho => growc_any W Q (w.heap.size + 1) ce (w.heap.size + 1 + 1) (e + 1) v L t k B l c S w9 ⟨hq, hca.below hb9, hce.below hb9, hcs.below hb9⟩ ho hkL (by omega) (((HST.out.below hb).below hb9).mono fun b h9 _ => by have h8 : b < w.heap.size := h9; have := hb.size; omega) hlc hnilB (by omega) (fun s hs => by have := HLS.out s hs; omega) hQ (by have := hca.lt; omega) (by have := hce.lt; omega) (by have := hcs.lt; omega) t0 t1)
  rw [← HV.out, ← HR.out] at hcon
  have HX := hY
  clear h3 hkL hG hGl HE HG HA
  go_wp2_with fail
  with_reducible refine hcon.mono ?_
  rintro en w9 ⟨A', N', m', rfl, hb9, hpt, hm', hn'⟩
  replace hY := hY.below hb9
  replace hb := hb.trans (hb9.mono hb.size)
  have HP := Lib.hid hpt
  have h79 := hb9.size
  have HB7 := Lib.hid hb9
  clear hcon hpt hb9 x0 x1 y0 y1 f0 f1 z0 z1 z2 q0 HX
  obtain ⟨y0, y1⟩ := hY.c2
  obtain ⟨f0, f1⟩ := hY.f2
  obtain ⟨e', he'⟩ : ∃ e', e' = R.2.1 := ⟨_, rfl⟩
  obtain ⟨c', hc'⟩ : ∃ c', c' = R.1 := ⟨_, rfl⟩
  rw [← he', ← hc']
  have HE1 := Lib.hid he'
  have HC1 := Lib.hid hc'
  clear he' hc'
  go_wp2
  refine bodyPost_ret (v := .tuple #[pragg e' A' N' m', .int .i64 c']) (by simp [results, Try.results7, go_sem, y0, y1]) rfl ⟨A', N', m', by rw [HE1.out, HC1.out], ?_, ?_, hm', hn'⟩
  · iterate 2 (refine Below.setCell ?_ (by simp; omega) _)
    exact hb
  · refine Pts.mono (Pts.keep HP.out (fun b hb9 _ => ?_)) (fun b hb9 _ => by have h9 : w7.heap.size ≤ b := hb9; show w.heap.size ≤ b; omega)
    have h9 : w7.heap.size ≤ b := hb9
    rw [Below.heap_setCell _ _ _ _ (by simp; omega), Below.heap_setCell _ _ _ _ (by simp; omega)]
end Go.Proofs.Ythpgandifeiejaa.Cur

namespace Go.Proofs.Ythpgandifeiejaa.Cur
open Go.RowKit Mem
set_option linter.unusedVariables false
set_option maxRecDepth 100000


theorem take_snoc {α : Type} {l : List α} {k : Nat} {d : α} (h : k < l.length) : l.take k ++ [l.getD k d] = l.take (k + 1) := by
  rw [List.take_add_one, List.getD_eq_getElem?_getD, List.getElem?_eq_getElem h]; rfl
theorem OwnPts.mono3 {w : World} {B B' : Nat} {v : Value} {L : List Stp} (h : OwnPts w B v L) (hB : B' ≤ B) : OwnPts w B' v L := by
  obtain ⟨cs, h1, h2, h3⟩ := h
  exact ⟨cs, h1.mono fun b hb _ => ⟨by omega, hb.2⟩, ⟨h2.1, by
    rcases h2.2 with h | ⟨g, c, cur, a, b, d⟩
    · exact .inl h
    · exact .inr ⟨g, c, cur, a, by omega, d⟩⟩, fun g hg hh => hh.2 hg⟩
/-- What the region reads that makes a stripe. -/
def RcS (X : Nat) (u : Array Value) (g o : Nat) (f t : Int) (w : World) : Prop := Blk w X u 25 ∧ w.cell? ⟨g, o, none⟩ = some (.int .u64 f) ∧ w.cell? ⟨g, o + 1, none⟩ = some (.int .u64 t)
theorem RcS.below {X : Nat} {u : Array Value} {g o : Nat} {f t : Int} {w w' : World} (h : RcS X u g o f t w) (hb : Below w.heap.size w w') : RcS X u g o f t w' := ⟨h.1.below hb, (hb.cell (lt_of_cell h.2.1)).trans h.2.1, (hb.cell (lt_of_cell h.2.2)).trans h.2.2⟩
/-- The state of the outer loop. -/
def RcO (w : World) (e E : Int) (A : Option Addr) (n m : Nat) (L : List Stp) (k : Nat) (v : Value) (wr : World) : Prop :=
  Blk wr w.heap.size (prc e A n m) 25 ∧ Blk wr (w.heap.size + 1) (prc 0 none 0 0) 25 ∧ Blk wr (w.heap.size + 1 + 1) #[.int .u64 E, v] 25 ∧ OwnPts wr (w.heap.size + 3) v (L.take k) ∧ Below w.heap.size w wr
/-- The state of the inner loop. -/
def RcI (wr : World) (f t : Int) (S : List (List Int)) (j : Nat) (v : Value) (w2 : World) : Prop :=
  Blk w2 wr.heap.size #[.int .u64 f, .int .u64 t, v] 31 ∧ OwnSts w2 (wr.heap.size + 1) v (S.take j) ∧ Below wr.heap.size wr w2
theorem OwnU.sets {w : World} {B : Nat} {v : Value} {z : List Int} {T : Value} (h : OwnU w B v z) (hb : ∀ x ∈ z, 0 ≤ x ∧ x < 18446744073709551616) (hT : ∀ g, T.ownBlock = some g → v.ownBlock ≠ some g) : (SlE U64E).R w (fun b => B ≤ b ∧ T.ownBlock ≠ some b) [v] z :=
  (SlE U64E).mono (OwnU.el h hb) fun b hb9 _ => ⟨own_ge h b hb9, fun e => hT b e hb9⟩

end Go.Proofs.Ythpgandifeiejaa.Cur

namespace Go.Proofs.Ythpgandifeiejaa.Cur
open Go.RowKit Mem
set_option linter.unusedVariables false
set_option maxRecDepth 100000


theorem OwnR.snoc {R : Nat → Prop} {w w' : World} {W : Nat} {v v' : Value} {L : List Stp} {cs : List (List Value)} {c : List Value} {x : Stp}
    (h1 : Ch StE w (fun b => R b ∧ v.ownBlock ≠ some b) cs L) (h3 : ∀ g, v.ownBlock = some g → ¬ (fun b => R b ∧ v.ownBlock ≠ some b) g)
    (hx : StE.R w (fun b => R b ∧ v.ownBlock ≠ some b) c x) (ho : w'.ownsRow W 31 3 v' (L.length + 1) (cs.flatten ++ c)) (hg : w.grownBy w' v.ownBlock) (hgr : Gr v.ownBlock v'.ownBlock w) : OwnQ StE 31 w' W (fun b => R b ∧ v'.ownBlock ≠ some b) v' (L ++ [x]) := by
  have h := OwnQ.snoc (E := StE) (e := 31) h1 h3 hx ho hg hgr
  refine h.mono (fun b hb _ => ⟨hb.1.1, fun e => ?_⟩) (fun g hg2 hh => hh.2 hg2)
  rcases hgr with e2 | ⟨g', e2, hg'⟩
  · exact hb.1.2 (by rw [← e2]; exact e)
  · rw [e2] at e
    injection e with e
    have := hb.2
    omega
theorem OwnR.keep {R : Nat → Prop} {w w' : World} {W : Nat} {v : Value} {L : List Stp} (h : OwnQ StE 31 w W (fun b => R b ∧ v.ownBlock ≠ some b) v L) (hk : ∀ b, b < w.heap.size → (R b ∨ v.ownBlock = some b) → w'.heap[b]? = w.heap[b]?) : OwnQ StE 31 w' W (fun b => R b ∧ v.ownBlock ≠ some b) v L := by
  obtain ⟨cs, h1, h2, h3⟩ := h
  exact ⟨cs, h1.keep fun b hb hlt => hk b hlt (.inl hb.1), own_block h2 fun k hk' => hk k (World.ownsRow.lt h2 k hk').2 (.inr hk'), h3⟩

/-- What comes of a projection that was changed. -/
def endsv (e : Int) (L : List Stp) : Int × Prj := if epk e = false then (18, prj0) else if prok (e, L) then (0, (e, L)) else (3, prj0)
theorem endsv_next {e : Int} (L : List Stp) (h : epk e = true) : endsv (e + 1) L = endv e L := by
  have hb := epk_bd h
  have : nxk e = epk (e + 1) := by
    unfold nxk epk
    rw [decide_eq_decide]
    omega
  unfold endsv endv
  rw [this]
  cases epk (e + 1) <;> simp
theorem PePost.mk {P Q : Nat → Prop} {e c : Int} {A : Option Addr} {N m : Nat} {L : List Stp} {w w' w1 : World} (hp : Pts w P A N L) (hk : ∀ b, P b → b < w.heap.size → w'.heap[b]? = w.heap[b]?) (hq : ∀ b, P b → Q b) (hb : Below w1.heap.size w1 w') (hm : N ≤ m) (hn : A = none → m = 0) :
    PePost Q (c, (e, L)) w1 (.returned (.tuple #[pragg e A N m, .int .i64 c])) w' := ⟨A, N, m, rfl, hb, (hp.keep hk).mono fun b h _ => hq b h, hm, hn⟩
end Go.Proofs.Ythpgandifeiejaa.Cur

namespace Go.Proofs.Ythpgandifeiejaa.Cur
open Go.RowKit Mem
set_option linter.unusedVariables false
set_option maxRecDepth 100000


theorem gr_ne {w : World} {g Q : Nat} {v' : Value} (hgr : Gr (some g) v'.ownBlock w) (h1 : g ≠ Q) (h2 : Q < w.heap.size) : v'.ownBlock ≠ some Q := fun e => by
  rcases hgr with e2 | ⟨g', e2, hg'⟩
  · rw [e2] at e; injection e with e; exact h1 e
  · rw [e2] at e; injection e with e; omega
theorem OwnR.keepQ {R : Nat → Prop} {w : World} {W Q i : Nat} {u v : Value} {L : List Stp} (h : OwnQ StE 31 w W (fun b => (R b ∧ b ≠ Q) ∧ v.ownBlock ≠ some b) v L) (hn : v.ownBlock ≠ some Q) :
    OwnQ StE 31 (w.setCell ⟨Q, i, none⟩ u) W (fun b => (R b ∧ b ≠ Q) ∧ v.ownBlock ≠ some b) v L :=
  OwnR.keep (R := fun b => R b ∧ b ≠ Q) h fun b _ hb => Below.heap_setCell _ _ _ _ fun e => by
    have e2 : b = Q := e
    rcases hb with hb | hb
    · exact hb.2 e2
    · exact hn (by rw [hb, e2])
theorem own_pts {w : World} {W0 W Q N : Nat} {A : Option Addr} {c : Nat} {L : List Stp} (h : OwnQ StE 31 w W (fun b => ((b < W0 ∨ W ≤ b) ∧ b ≠ Q) ∧ (Value.slice A N c).ownBlock ≠ some b) (.slice A N c) L) (hl : L.length = N) :
    Pts w (fun b => b < W0 ∨ W ≤ b) A N L := by
  have hge : ∀ g, (Value.slice A N c).ownBlock = some g → W ≤ g := by
    obtain ⟨cs, _, h, _⟩ := h
    exact own_ge h
  obtain ⟨A', c', e, _, _, h3⟩ := OwnQ.slice h
  injection e with e1 e2 e3
  subst e1 e3
  exact ⟨hl, h3.mono fun b hb _ => by
    rcases hb with hb | hb
    · exact hb.1.1
    · exact .inr (hge b hb)⟩
end Go.Proofs.Ythpgandifeiejaa.Cur

namespace Go.Proofs.Ythpgandifeiejaa.Cur
open Go.RowKit Mem
set_option linter.unusedVariables false

theorem grw_cases (e : Int) (L : List Stp) (t : Int) (S : List (List Int)) :
    (grw e L t S = (0, (e + 1, grown L t S)) ∧ prok (e, L) = true ∧ (L.getD (L.length - 1) stp0).1 < t ∧ t < 4611686018427387904 ∧ prok (e + 1, grown L t S) = true) ∨ ((grw e L t S).1 ≠ 0 ∧ (grw e L t S).2 = prj0) := by
  by_cases h1 : prok (e, L) = true
  · by_cases h2 : t ≤ (L.getD (L.length - 1) stp0).1 ∨ 4611686018427387904 ≤ t
    · right; rw [grw_arg h1 h2]; exact ⟨by decide, rfl⟩
    · by_cases h3 : L.length = 64
      · right; rw [grw_long h1 h2 h3]; exact ⟨by decide, rfl⟩
      · rw [grw_end h1 h2 h3]
        by_cases h4 : nxk e = true
        · by_cases h5 : prok (e + 1, grown L t S) = true
          · left
            exact ⟨endv_ok h4 h5, h1, by omega, by omega, h5⟩
          · right; rw [endv_bad h4 (by simpa using h5)]; exact ⟨by decide, rfl⟩
        · right; rw [endv_no (by simpa using h4)]; exact ⟨by decide, rfl⟩
  · right; rw [grw_no (by simpa using h1)]; exact ⟨by decide, rfl⟩
/-- The stripes that were there begin as they did, and have the same sets. -/
theorem grown_at {L : List Stp} {t : Int} {S : List (List Int)} {i : Nat} (hi : i < L.length) : ∃ u, (grown L t S).getD i stp0 = ((L.getD i stp0).1, u, (L.getD i stp0).2.2) ∧ (i + 1 = L.length → u = t) := by
  unfold grown
  have e1 : ∀ (x : Stp) (j : Nat), (L.set j x ++ [(t, 4611686018427387904, S)]).getD i stp0 = if j = i then x else L.getD i stp0 := by
    intro x j
    rw [List.getD_eq_getElem?_getD, List.getElem?_append_left (by rw [List.length_set]; exact hi), List.getElem?_set]
    by_cases h : j = i
    · subst h; rw [if_pos rfl, if_pos hi, if_pos rfl]; rfl
    · rw [if_neg h, if_neg h, List.getD_eq_getElem?_getD]
  rw [e1]
  by_cases h : L.length - 1 = i
  · rw [if_pos h, h]; exact ⟨t, rfl, fun _ => rfl⟩
  · rw [if_neg h]; exact ⟨(L.getD i stp0).2.1, rfl, fun h2 => absurd h2 (by omega)⟩
theorem prok_at9 {e : Int} {L : List Stp} (h : prok (e, L) = true) {i : Nat} (hi : i < L.length) : stok (L.getD i stp0) = true := ((pch_iff L 0 4611686018427387904).1 (prok_parts h).2.2.2).1 i hi |>.2
/-- Both stripes deal out a position in the same way. -/
theorem deal_same {f t u x : Int} {S : List (List Int)} (h1 : stok (f, t, S) = true) (h2 : stok (f, u, S) = true) (hx : f ≤ x) (hxt : x < t) (hxu : x < u) :
    ∃ a b, dlv (f, t, S) x = .tuple #[.int .i64 a, .int .u64 b, .bool true] ∧ dlv (f, u, S) x = .tuple #[.int .i64 a, .int .u64 b, .bool true] :=
  ⟨_, _, dlv_yes ⟨h1, hx, hxt⟩, dlv_yes ⟨h2, hx, hxu⟩⟩
end Go.Proofs.Ythpgandifeiejaa.Cur

/- Projections that grow: the plain facts, and what the closure does. -/
import Derived.Test.YtghlediibhnloaaPrjG
import Derived.Test.YtghlediibhnloaaPrjH
import Derived.Test.YtghlediibhnloaaK20
import Derived.Test.YtghlediibhnloaaK1
namespace Go.Proofs.Ytghlediibhnloaa.Cur
open Go.RowKit Mem
set_option linter.unusedVariables false
set_option maxRecDepth 100000


theorem oper_append_rw {sl e : TypeId} {zv : Value} {size bytes : Nat} (E : Kind sl e zv size bytes) {w : World} {o : Oper} {a : Act} {K : Act → World → Prop} {Q : Exit → Act → World → Prop} (s x : Operand)
    (ho : o.op = .call { callee := .builtin .append, args := #[s, x], argTypes := #[sl, sl] })
    (B : Nat) (v : Value) (n : Nat) (xs : List Value) (hs : a.eval s = v) (hown : w.ownsRow B e size v n xs) (A : Option Addr) (m c : Nat) (news : List Value) (hx : a.eval x = .slice A m c) (hl : news.length = m * size) (hr : Rw w A news) (hc : A = none → c = 0) (h1 : ∀ u ∈ news, u.oneCell' = true)
    (hsz : n + m ≤ 1000000) (hby : bytes ≤ 1000000) (hB : B ≤ w.heap.size)
    (h : ∀ v' w', w'.ownsRow B e size v' (n + m) (xs ++ news) → w.grownBy w' v.ownBlock → Gr v.ownBlock v'.ownBlock w → K (a.put o.dst v') w') : o.wp Try.prog a w K Q := by
  obtain ⟨v', w', hrun, h2, h3, h4⟩ := run_append_rw E w o.type B v n xs hown A m c news hl hr hc h1 hsz hby hB
  unfold Oper.wp
  simp [execOp, ho, resolve, invoke, builtin, hs, hx, hrun, Result.andThen]
  exact h v' w' h2 h3 h4

section
variable {α : Type}
theorem Ch.get {E : El α} {w : World} {P : Nat → Prop} : ∀ {cs : List (List Value)} {xs : List α}, Ch E w P cs xs → ∀ {k : Nat} {x : α}, xs[k]? = some x → ∃ c, cs[k]? = some c ∧ E.R w P c x
  | [], [], _, _, _, hx => by simp at hx
  | c :: cs, y :: xs, h, 0, x, hx => by simp at hx; subst hx; exact ⟨c, rfl, h.1⟩
  | c :: cs, y :: xs, h, k + 1, x, hx => by
    obtain ⟨d, h1, h2⟩ := Ch.get h.2 (k := k) (x := x) (by simpa using hx)
    exact ⟨d, by simpa using h1, h2⟩
  | [], _ :: _, h, _, _, _ => h.elim
  | _ :: _, [], h, _, _, _ => h.elim
theorem Ch.set {E : El α} {w : World} {P : Nat → Prop} : ∀ {cs : List (List Value)} {xs : List α}, Ch E w P cs xs → ∀ {k : Nat} {c : List Value} {x : α}, E.R w P c x → Ch E w P (cs.set k c) (xs.set k x)
  | [], [], _, _, _, _, _ => trivial
  | c :: cs, y :: xs, h, 0, d, x, hx => ⟨hx, h.2⟩
  | c :: cs, y :: xs, h, k + 1, d, x, hx => ⟨h.1, Ch.set h.2 hx⟩
  | [], _ :: _, h, _, _, _, _ => h.elim
  | _ :: _, [], h, _, _, _, _ => h.elim
theorem Ch.lens {E : El α} {w : World} {P : Nat → Prop} : ∀ {cs : List (List Value)} {xs : List α}, Ch E w P cs xs → ∀ d ∈ cs, d.length = E.k
  | [], [], _ => fun d hd => by simp at hd
  | c :: cs, y :: xs, h => fun d hd => by
    rcases List.mem_cons.1 hd with rfl | hd
    · exact E.len h.1
    · exact Ch.lens h.2 d hd
  | [], _ :: _, h => h.elim
  | _ :: _, [], h => h.elim
end
theorem flat_set {m j : Nat} {u : Value} : ∀ {cs : List (List Value)} {k : Nat} {c : List Value}, (∀ d ∈ cs, d.length = m) → cs[k]? = some c → j < m → (cs.set k (c.set j u)).flatten = cs.flatten.set (k * m + j) u
  | [], _, _, _, h, _ => by simp at h
  | d :: cs, 0, c, hl, h, hj => by
    simp at h; subst h
    rw [List.set_cons_zero, List.flatten_cons, List.flatten_cons, Nat.zero_mul, Nat.zero_add, List.set_append_left _ _ (by rw [hl d (by simp)]; exact hj)]
  | d :: cs, k + 1, c, hl, h, hj => by
    have hd := hl d (by simp)
    rw [List.set_cons_succ, List.flatten_cons, List.flatten_cons, flat_set (cs := cs) (fun e he => hl e (by simp [he])) (by simpa using h) hj, List.set_append_right _ _ (by rw [hd, Nat.succ_mul]; omega), hd, show (k + 1) * m + j - m = k * m + j by rw [Nat.succ_mul]; omega]
/-- The end of a stripe is set. -/
theorem own_to {w : World} {W g n cap k : Nat} {P : Nat → Prop} {L : List Stp} {s : Stp} {u : Int} (h : OwnQ StE 60 w W P (.slice (some ⟨g, 0, none⟩) n cap) L) (hk : L[k]? = some s) (h0 : 0 ≤ u) (h1 : u < 18446744073709551616) :
    OwnQ StE 60 (w.setCell ⟨g, k * 3 + 1, none⟩ (.int .u64 u)) W P (.slice (some ⟨g, 0, none⟩) n cap) (L.set k (s.1, u, s.2.2)) ∧
      (∃ x, w.cell? ⟨g, k * 3 + 1, none⟩ = some x) ∧ w.frozen? ⟨g, k * 3 + 1, none⟩ = false ∧ W ≤ g ∧ g < w.heap.size ∧ k < n := by
  obtain ⟨cs, hc, ho, hn⟩ := h
  have hkL := (List.getElem?_eq_some_iff.1 hk).1
  have hL : L.length = n := by
    rcases ho.2 with ⟨e, _⟩ | ⟨_, _, _, e, _⟩
    · cases e
    · injection e with _ e _; exact e.symm
  rw [hL] at ho
  obtain ⟨c, hck, hR⟩ := hc.get hk
  obtain ⟨A, m, rfl, fb, tb, hm, hnil, hst⟩ := stripe_parts hR
  have hst1 := ho.stored (k * 3 + 1) (.int .u64 u)
  have hfl : cs.flatten.length = n * 3 := by rw [hc.flat, hL]; rfl
  have hcell : w.cell? ⟨g, k * 3 + 1, none⟩ = cs.flatten[k * 3 + 1]? := World.ownsRow.cellAt ho _ (by show k * 3 + 1 < n * 3; omega)
  have hlt := World.ownsRow.lt ho g rfl
  refine ⟨⟨cs.set k [.int .u64 s.1, .int .u64 u, .slice A s.2.2.length m], ?_, ?_, hn⟩, ⟨_, hcell.trans (List.getElem?_eq_getElem (by omega))⟩, World.ownsRow.frozenAt ho _, hlt.1, hlt.2, by omega⟩
  · refine Ch.set (hc.keep fun b hb _ => Below.heap_setCell _ _ _ _ (fun e => ?_)) (StE.keep (StE.mk fb ⟨h0, h1⟩ rfl hm hnil hst) fun b hb _ => Below.heap_setCell _ _ _ _ (fun e => ?_))
    · have e2 : b = g := e; subst e2; exact hn b rfl hb
    · have e2 : b = g := e; subst e2; exact hn b rfl hb
  · have e2 : (cs.set k [.int .u64 s.1, .int .u64 u, .slice A s.2.2.length m]).flatten = cs.flatten.set (k * 3 + 1) (.int .u64 u) := flat_set (c := [.int .u64 s.1, .int .u64 s.2.1, .slice A s.2.2.length m]) (j := 1) (u := .int .u64 u) hc.lens hck (by show 1 < StE.k; decide)
    rw [List.length_set, hL, e2]
    exact hst1.1

/-- Stripes of the call's own, none of which lies in the block Q. -/
def OwnPq (w : World) (W Q : Nat) (v : Value) (L : List Stp) : Prop := OwnQ StE 60 w W (fun b => W ≤ b ∧ b ≠ Q ∧ v.ownBlock ≠ some b) v L ∧ v.ownBlock ≠ some Q
theorem OwnPq.ge {w : World} {W Q : Nat} {v : Value} {L : List Stp} (h : OwnPq w W Q v L) : ∀ g, v.ownBlock = some g → W ≤ g ∧ g < w.heap.size := by
  obtain ⟨⟨cs, h1, h2, h3⟩, _⟩ := h
  exact fun g hg => World.ownsRow.lt h2 g hg
theorem OwnPq.keep {w w' : World} {W Q : Nat} {v : Value} {L : List Stp} (h : OwnPq w W Q v L) (hk : ∀ b, W ≤ b → b ≠ Q → b < w.heap.size → w'.heap[b]? = w.heap[b]?) : OwnPq w' W Q v L := by
  have hge := h.ge
  obtain ⟨⟨cs, h1, h2, h3⟩, h4⟩ := h
  exact ⟨⟨cs, h1.keep fun b hb hlt => hk b hb.1 hb.2.1 hlt, own_block h2 fun k hk' => hk k (hge k hk').1 (fun e => h4 (by rw [← e]; exact hk')) (hge k hk').2, h3⟩, h4⟩
theorem OwnPq.below {w w' : World} {W Q : Nat} {v : Value} {L : List Stp} (h : OwnPq w W Q v L) (hb : Below w.heap.size w w') : OwnPq w' W Q v L := h.keep fun b _ _ hlt => hb.block b hlt
theorem OwnPq.snoc {w w' : World} {W Q : Nat} {v v' : Value} {L : List Stp} {cs : List (List Value)} {c : List Value} {x : Stp} (hq : v.ownBlock ≠ some Q) (hQ : Q < w.heap.size)
    (h1 : Ch StE w (fun b => W ≤ b ∧ b ≠ Q ∧ v.ownBlock ≠ some b) cs L) (h3 : ∀ g, v.ownBlock = some g → ¬ (fun b => W ≤ b ∧ b ≠ Q ∧ v.ownBlock ≠ some b) g)
    (hx : StE.R w (fun b => W ≤ b ∧ b ≠ Q ∧ v.ownBlock ≠ some b) c x) (ho : w'.ownsRow W 60 3 v' (L.length + 1) (cs.flatten ++ c)) (hg : w.grownBy w' v.ownBlock) (hgr : Gr v.ownBlock v'.ownBlock w) : OwnPq w' W Q v' (L ++ [x]) := by
  have h := OwnQ.snoc (E := StE) (e := 60) h1 h3 hx ho hg hgr
  refine ⟨h.mono (fun b hb _ => ⟨hb.1.1, hb.1.2.1, fun e => ?_⟩) (fun g hg2 hh => hh.2.2 hg2), fun e => ?_⟩
  · rcases hgr with e2 | ⟨g', e2, hg'⟩
    · exact hb.1.2.2 (by rw [← e2]; exact e)
    · rw [e2] at e
      injection e with e
      have := hb.2
      omega
  · rcases hgr with e2 | ⟨g', e2, hg'⟩
    · exact hq (by rw [← e2]; exact e)
    · rw [e2] at e
      injection e with e
      omega

/-- The last stripe ends at a position, and another one follows. -/
def grown (L : List Stp) (t : Int) (S : List (List Int)) : List Stp := L.set (L.length - 1) ((L.getD (L.length - 1) stp0).1, t, (L.getD (L.length - 1) stp0).2.2) ++ [(t, 4611686018427387904, S)]
/-- What comes of a changed copy. -/
def endv (e : Int) (G : List Stp) : Int × Prj := if nxk e then (if prok (e + 1, G) then (0, (e + 1, G)) else (3, prj0)) else (18, prj0)
def grw (e : Int) (L : List Stp) (t : Int) (S : List (List Int)) : Int × Prj :=
  if prok (e, L) = false then (3, prj0) else if t ≤ (L.getD (L.length - 1) stp0).1 ∨ 4611686018427387904 ≤ t then (17, prj0) else if L.length = 64 then (2, prj0) else endv e (grown L t S)
def PePost (P : Nat → Prop) (r : Int × Prj) (w : World) (en : Ending) (w' : World) : Prop :=
  ∃ (A : Option Addr) (N m : Nat), en = .returned (.tuple #[pragg r.2.1 A N m, .int .i64 r.1]) ∧ Below w.heap.size w w' ∧ Pts w' P A N r.2.2 ∧ N ≤ m ∧ (A = none → m = 0)
theorem PePost.zero {P : Nat → Prop} {c : Int} {w w' : World} (hb : Below w.heap.size w w') : PePost P (c, prj0) w (.returned (.tuple #[pragg 0 none 0 0, .int .i64 c])) w' := ⟨none, 0, 0, rfl, hb, ⟨rfl, Sq.nil _ _ _ _⟩, by omega, fun _ => rfl⟩

/-- What the closure reads. -/
def GcS (Q ca ce cs : Nat) (e : Int) (v : Value) (t : Int) (k : Nat) (s : Value) (w : World) : Prop := Blk w Q #[.int .u64 e, v] 25 ∧ Blk w ca #[.int .u64 t] 22 ∧ Blk w ce #[.int .i64 k] 3 ∧ Blk w cs #[s] 57
theorem GcS.keep {Q ca ce cs : Nat} {e : Int} {v : Value} {t : Int} {k : Nat} {s : Value} {w w' : World} (h : GcS Q ca ce cs e v t k s w) (hQ : w'.heap[Q]? = w.heap[Q]?) (ha : w'.heap[ca]? = w.heap[ca]?) (he : w'.heap[ce]? = w.heap[ce]?) (hs : w'.heap[cs]? = w.heap[cs]?) : GcS Q ca ce cs e v t k s w' :=
  ⟨hQ.trans h.1, ha.trans h.2.1, he.trans h.2.2.1, hs.trans h.2.2.2⟩
theorem GcS.below {Q ca ce cs : Nat} {e : Int} {v : Value} {t : Int} {k : Nat} {s : Value} {w w' : World} (h : GcS Q ca ce cs e v t k s w) (hb : Below w.heap.size w w') : GcS Q ca ce cs e v t k s w' := ⟨h.1.below hb, h.2.1.below hb, h.2.2.1.below hb, h.2.2.2.below hb⟩
def ChPost (W Q : Nat) (e : Int) (G : List Stp) (w : World) (en : Ending) (w' : World) : Prop :=
  ∃ v', en = .returned (.tuple #[]) ∧ Ks (fun b => W ≤ b) w w' ∧ Blk w' Q #[.int .u64 e, v'] 25 ∧ OwnPq w' W Q v' G
set_option maxHeartbeats 2000000 in
theorem growc_any (W Q ca ce cs : Nat) (e : Int) (v : Value) (L : List Stp) (t : Int) (k : Nat) (B : Option Addr) (l c : Nat) (S : List (List Int)) (w : World) (hS : GcS Q ca ce cs e v t k (.slice B l c) w) (ho : OwnPq w W Q v L) (hk : k + 1 = L.length) (hL : L.length ≤ 1000)
    (hst : Sts w (fun b => b < W) B l S) (hlc : l ≤ c) (hnil : B = none → c = 0) (hl : l ≤ 1000) (hlen : ∀ s ∈ S, s.length ≤ 1000) (hQ : W ≤ Q) (ha : ca < W) (he : ce < W) (hs : cs < W) (t0 : 0 ≤ t) (t1 : t < 18446744073709551616) :
    Calls Try.prog 64 #[.pointer (some ⟨Q, 0, none⟩), .pointer (some ⟨ca, 0, none⟩), .pointer (some ⟨ce, 0, none⟩), .pointer (some ⟨cs, 0, none⟩)] w (ChPost W Q e (grown L t S) w) := by
  obtain ⟨A, cap, rfl, hcap, hAn, _⟩ := OwnQ.slice ho.1
  obtain ⟨n, hn⟩ : ∃ n, n = L.length := ⟨_, rfl⟩
  rw [← hn] at hS ho hk hL hcap
  have hLk : L[k]? = some (L.getD k stp0) := by rw [List.getD_eq_getElem?_getD, List.getElem?_eq_getElem (by omega)]; rfl
  obtain ⟨g, rfl⟩ : ∃ g, A = some ⟨g, 0, none⟩ := by
    obtain ⟨⟨cs, _, h2, _⟩, _⟩ := ho
    rcases h2.2 with ⟨e, h0⟩ | ⟨g, _, _, e, _⟩
    · omega
    · injection e with e; exact ⟨g, e⟩
  have hto := fun w' (h : OwnPq w' W Q (.slice (some ⟨g, 0, none⟩) n cap) L) => own_to (u := t) h.1 hLk t0 t1
  have hoD : OwnPq w.drew W Q (.slice (some ⟨g, 0, none⟩) n cap) L := ho.below (below_one' w)
  have hSD : GcS Q ca ce cs e (.slice (some ⟨g, 0, none⟩) n cap) t k (.slice B l c) w.drew := hS.below (below_one' w)
  obtain ⟨ho1, ⟨x, hx⟩, hfz, hgW, hgl, hkn⟩ := hto _ hoD
  have hgQ : g ≠ Q := fun e => ho.2 (by rw [e]; rfl)
  have hkn2 : (k : Int) < n := by omega
  have hKs : Ks (fun b => W ≤ b) w (w.drew.setCell ⟨g, k * 3 + 1, none⟩ (.int .u64 t)) := (Ks.of_below (below_one' w)).trans (Ks.setCell _ _ _ _ hgW)
  have hS1 : GcS Q ca ce cs e (.slice (some ⟨g, 0, none⟩) n cap) t k (.slice B l c) (w.drew.setCell ⟨g, k * 3 + 1, none⟩ (.int .u64 t)) :=
    hSD.keep (Below.heap_setCell _ _ _ _ (fun e => hgQ e.symm)) (Below.heap_setCell _ _ _ _ (fun e => by have e2 : ca = g := e; omega)) (Below.heap_setCell _ _ _ _ (fun e => by have e2 : ce = g := e; omega)) (Below.heap_setCell _ _ _ _ (fun e => by have e2 : cs = g := e; omega))
  have hO1 : OwnPq (w.drew.setCell ⟨g, k * 3 + 1, none⟩ (.int .u64 t)) W Q (.slice (some ⟨g, 0, none⟩) n cap) (L.set k ((L.getD k stp0).1, t, (L.getD k stp0).2.2)) := ⟨ho1, ho.2⟩
  have HST : Hid (∀ w', Ks (fun b => W ≤ b) w w' → Sts w' (fun b => b < W) B l S) := Lib.hid fun w' h => hst.keep fun b hb hlt => h.block b hlt (by have : b < W := hb; omega)
  have HGR : Hid (grown L t S = L.set k ((L.getD k stp0).1, t, (L.getD k stp0).2.2) ++ [(t, 4611686018427387904, S)]) := Lib.hid (by unfold grown; rw [show L.length - 1 = k by omega])
  have HLL : Hid ((L.set k ((L.getD k stp0).1, t, (L.getD k stp0).2.2)).length = n) := Lib.hid (by rw [List.length_set, hn])
  have L1 : ∀ w', GcS Q ca ce cs e (.slice (some ⟨g, 0, none⟩) n cap) t k (.slice B l c) w' → w'.cell? ⟨Q, 1, none⟩ = some (.slice (some ⟨g, 0, none⟩) n cap) ∧ w'.cell? ⟨ca, 0, none⟩ = some (.int .u64 t) ∧ w'.cell? ⟨ce, 0, none⟩ = some (.int .i64 k) ∧ w'.cell? ⟨cs, 0, none⟩ = some (.slice B l c) := fun w' h => ⟨h.1.c2.2, h.2.1.c1, h.2.2.1.c1, h.2.2.2.c1⟩
  unfold ChPost
  rw [HGR.out]
  generalize L.set k ((L.getD k stp0).1, t, (L.getD k stp0).2.2) = M at *
  clear ho hS hoD ho1 hto hst hLk hn HGR hAn
  go_enter Try.func64, Try.ntmps64
  go_wp2
  refine Seq.wp_region_last (GcS Q ca ce cs e (.slice (some ⟨g, 0, none⟩) n cap) t k (.slice B l c)) (by kernel_rfl) (by kernel_rfl) (by kernel_rfl) hSD ?_
  have hwd := hSD.1.lt
  generalize w.drew = wd at *
  repeat (first | (refine Seq.SeqE.skip (by rfl) ?_; (try simp only [Act.put, List.setIfInBounds_toArray, List.set_cons_zero, List.set_cons_succ])) | (refine Seq.SeqE.det ?_ (by rfl) (fun w hS => ?_) ?_; rotate_left; ((try dsimp only at hS); go_simp; (try rw [if_pos (by omega)]); with_reducible rfl); (try simp only [Act.put, List.setIfInBounds_toArray, List.set_cons_zero, List.set_cons_succ])))
  refine Seq.SeqE.last (by rfl) (by rfl) (fun K Q' hK => ?_)
  go_simp
  refine hK.out _ _ ?_
  clear hK K
  try simp only [Act.put, List.setIfInBounds_toArray, List.set_cons_zero, List.set_cons_succ]
  clear hx hfz hSD
  generalize wd.setCell ⟨g, k * 3 + 1, none⟩ (.int .u64 t) = w1 at *
  have hS2 := hS1.below (below_one' w1)
  have hO2 := hO1.below (below_one' w1)
  replace hKs := hKs.trans (Ks.of_below (below_one' w1))
  clear hS1 hO1
  go_wp2
  refine Seq.wp_region_last (GcS Q ca ce cs e (.slice (some ⟨g, 0, none⟩) n cap) t k (.slice B l c)) (by kernel_rfl) (by kernel_rfl) (by kernel_rfl) hS2 ?_
  generalize w1.drew = w2 at *
  repeat (first | (refine Seq.SeqE.skip (by rfl) ?_; (try simp only [Act.put, List.setIfInBounds_toArray, List.set_cons_zero, List.set_cons_succ])) | (refine Seq.SeqE.det ?_ (by rfl) (fun w hS => ?_) ?_; rotate_left; ((try dsimp only at hS); go_simp; (try rw [if_pos (by omega)]); with_reducible rfl); (try simp only [Act.put, List.setIfInBounds_toArray, List.set_cons_zero, List.set_cons_succ])))
  refine Seq.SeqE.make (by rfl) (by rfl) (fun K Q' hK => ?_)
  go_simp
  go_at_call 48
  have hsz2 := hKs.size
  refine (stcopy_any t 4611686018427387904 B l c S w2 ((HST.out w2 hKs).mono fun b hb hlt => hlt) hlc hnil (by omega) (fun s hs => by have := hlen s hs; omega)).mono ?_
  rintro en w5 ⟨A5, m5, rfl, hb5, hst5, hm5, hn5⟩
  have hQ2 := hS2.1.lt
  have hgl2 := (hO2.ge g rfl).2
  have hW2 : W ≤ w2.heap.size := by omega
  have hS5 := hS2.below hb5
  have hO5 := hO2.below hb5
  replace hKs := hKs.trans (Ks.of_below hb5)
  have hel5 := StE.mk ⟨t0, t1⟩ (by decide : (0 : Int) ≤ 4611686018427387904 ∧ (4611686018427387904 : Int) < 18446744073709551616) hst5.1 hm5 hn5 (hst5.mono (Q := fun b => W ≤ b ∧ b ≠ Q ∧ (Value.slice (some ⟨g, 0, none⟩) n cap).ownBlock ≠ some b) (fun b hb9 _ => by
    have h9 : w2.heap.size ≤ b := hb9
    exact ⟨by omega, by omega, fun e => by injection e with e; have e2 : g = b := e; omega⟩))
  clear hb5 hst5 hm5 hn5 hS2 hO2
  refine hK.out _ _ (hS5) ?_
  clear hK K
  try simp only [Act.put, List.setIfInBounds_toArray, List.set_cons_zero, List.set_cons_succ]
  repeat (first | (refine Seq.SeqE.skip (by rfl) ?_; (try simp only [Act.put, List.setIfInBounds_toArray, List.set_cons_zero, List.set_cons_succ])) | (refine Seq.SeqE.det ?_ (by rfl) (fun w hS => ?_) ?_; rotate_left; ((try dsimp only at hS); go_simp; (try rw [if_pos (by omega)]); with_reducible rfl); (try simp only [Act.put, List.setIfInBounds_toArray, List.set_cons_zero, List.set_cons_succ])))
  refine Seq.SeqE.make (by rfl) (by rfl) (fun K Q' hK => ?_)
  go_simp
  have hb6 := below_one w5 (.cells #[.int .u64 t, .int .u64 4611686018427387904, .slice A5 l m5] 60)
  have hrw6 := rw_new w5 [.int .u64 t, .int .u64 4611686018427387904, .slice A5 l m5] 60
  have hS6 := hS5.below hb6
  have hO6 := hO5.below hb6
  have hel6 := StE.keep hel5 (fun b hb hlt => hb6.block b hlt)
  replace hKs := hKs.trans (Ks.of_below hb6)
  have hW6 : W ≤ (w5.alloc (.cells #[.int .u64 t, .int .u64 4611686018427387904, .slice A5 l m5] 60)).heap.size := by have := hS6.1.lt; omega
  clear hS5 hO5 hel5 hb6
  refine hK.out _ _ (hS6) ?_
  clear hK K
  try simp only [Act.put, List.setIfInBounds_toArray, List.set_cons_zero, List.set_cons_succ]
  repeat (first | (refine Seq.SeqE.skip (by rfl) ?_; (try simp only [Act.put, List.setIfInBounds_toArray, List.set_cons_zero, List.set_cons_succ])) | (refine Seq.SeqE.det ?_ (by rfl) (fun w hS => ?_) ?_; rotate_left; ((try dsimp only at hS); go_simp; (try rw [if_pos (by omega)]); with_reducible rfl); (try simp only [Act.put, List.setIfInBounds_toArray, List.set_cons_zero, List.set_cons_succ])))
  refine Seq.SeqE.make (by rfl) (by rfl) (fun K Q' hK => ?_)
  have hQ6 := hS6.1.lt
  have hq6 := hO6.2
  obtain ⟨⟨css, g1, g2, g3⟩, _⟩ := hO6
  rw [HLL.out] at g2
  refine oper_append_rw kindST (.tmp 17) (.tmp 22) rfl W _ n _ rfl g2 _ 1 _ [.int .u64 t, .int .u64 4611686018427387904, .slice A5 l m5] rfl rfl hrw6 (fun e => by cases e) (by simp [Value.oneCell']) (by omega) (by omega) hW6 ?_
  intro v' w9 ho9 hg9 hgr9
  have H9 := OwnPq.snoc hq6 hQ6 g1 g3 hel6 (by rw [HLL.out]; exact ho9) hg9 hgr9
  obtain ⟨A9, c9, hv9, _⟩ := OwnQ.slice H9.1
  subst hv9
  generalize (M ++ [(t, 4611686018427387904, S)]).length = n9 at *
  have hk9 := Ks.of_grown (S := fun b => b = g) hg9 (fun b e => by injection e with e; exact e.symm)
  have hS9 : GcS Q ca ce cs e (.slice (some ⟨g, 0, none⟩) n cap) t k (.slice B l c) w9 := hS6.keep (hk9.block _ hS6.1.lt (fun e => hgQ e.symm)) (hk9.block _ hS6.2.1.lt (fun e => by omega)) (hk9.block _ hS6.2.2.1.lt (fun e => by omega)) (hk9.block _ hS6.2.2.2.lt (fun e => by omega))
  replace hKs := hKs.trans (Ks.of_grown hg9 (fun b e => by injection e with e; have e2 : g = b := e; omega))
  have q1 := hS9.1.c2.2
  have q2 := hS9.1.free 1
  have HQ9 := Lib.hid (hS9.1.set 1 (.slice A9 n9 c9))
  have HK9 := Lib.hid (hKs.trans (Ks.setCell w9 Q 1 (.slice A9 n9 c9) hQ))
  have HO9 := Lib.hid (H9.keep (w' := w9.setCell ⟨Q, 1, none⟩ (.slice A9 n9 c9)) (fun b _ hb _ => Below.heap_setCell _ _ _ _ (fun e => hb e)))
  clear g1 g2 g3 hel6 hrw6 ho9 hg9 hgr9 hk9 H9 hKs hq6
  refine hK.out _ _ (hS9) ?_
  clear hK K
  try simp only [Act.put, List.setIfInBounds_toArray, List.set_cons_zero, List.set_cons_succ]
  repeat (first | (refine Seq.SeqE.skip (by rfl) ?_; (try simp only [Act.put, List.setIfInBounds_toArray, List.set_cons_zero, List.set_cons_succ])) | (refine Seq.SeqE.det ?_ (by rfl) (fun w hS => ?_) ?_; rotate_left; ((try dsimp only at hS); go_simp; (try rw [if_pos (by omega)]); with_reducible rfl); (try simp only [Act.put, List.setIfInBounds_toArray, List.set_cons_zero, List.set_cons_succ])))
  refine Seq.SeqE.last (by rfl) (by rfl) (fun K Q' hK => ?_)
  go_simp
  refine hK.out _ _ ?_
  clear hK K
  try simp only [Act.put, List.setIfInBounds_toArray, List.set_cons_zero, List.set_cons_succ]
  go_wp2
  go_end0
  exact ⟨_, rfl, HK9.out, HQ9.out, HO9.out⟩
end Go.Proofs.Ytghlediibhnloaa.Cur

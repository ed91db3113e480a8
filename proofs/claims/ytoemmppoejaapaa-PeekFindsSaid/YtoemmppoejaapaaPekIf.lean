/- As the seat's text, without what nothing here names. -/
import Derived.Test.YtoemmppoejaapaaPekDf
import Derived.Test.YtoemmppoejaapaaPekHf
import Derived.Test.YtoemmppoejaapaaK35f
import Derived.BigRegion
import Derived.Deep.Cut
namespace Go.Proofs.Ytoemmppoejaapaa.Cur
open Go.RowKit Mem
set_option linter.unusedVariables false
set_option maxRecDepth 100000
def TT (p : Int) (l : List Lk) (T : TL) : Nat → TL
  | 0 => T
  | i + 1 => fun t => if t = (l.getD i lk0).1 then some (p :: ((TT p l T i (l.getD i lk0).1).getD []).take 3) else TT p l T i t
def TE (b : Int) (Ls : List (List Lk)) (T : TL) : Nat → TL
  | 0 => T
  | k + 1 => TT (b + k) (Ls.getD k []) (TE b Ls T k) (Ls.getD k []).length
def nwl (p : Int) (l : List Lk) (T : TL) (i : Nat) : Lk := ((l.getD i lk0).1, (TT p l T i (l.getD i lk0).1).getD [])
def thS (mb n : Nat) (gk : Nat → Nat) (Ls : List (List Lk)) (x : Nat) : Prop := x = mb ∨ ∃ j, j < n ∧ 0 < (Ls.getD j []).length ∧ x = gk j
def thP (B0 mb n : Nat) (gk : Nat → Nat) (Ls : List (List Lk)) (x : Nat) : Prop := B0 ≤ x ∧ ¬ thS mb n gk Ls x
def LnB (w : World) (P : Nat → Prop) (g : Nat) (l : List Lk) (i : Nat) (nw : Nat → Lk) : Prop :=
  0 < l.length → ∃ cur, Blk w g cur 51 ∧ l.length * 2 ≤ cur.size ∧ ∀ j, j < l.length → cur[j * 2]? = some (.int .u64 (l.getD j lk0).1) ∧
    (j < i → ∃ A m, cur[j * 2 + 1]? = some (.slice A (nw j).2.length m) ∧ LkE.R w P [.int .u64 (nw j).1, .slice A (nw j).2.length m] (nw j))
theorem LnB.keep {w w' : World} {P : Nat → Prop} {g : Nat} {l : List Lk} {i : Nat} {nw : Nat → Lk} (h : LnB w P g l i nw) (hk : ∀ b, P b → b < w.heap.size → w'.heap[b]? = w.heap[b]?) (hg : 0 < l.length → w'.heap[g]? = w.heap[g]?) : LnB w' P g l i nw := fun h0 => by
  obtain ⟨cur, h1, h2, h3⟩ := h h0
  refine ⟨cur, (hg h0).trans h1, h2, fun j hj => ⟨(h3 j hj).1, fun hi => ?_⟩⟩
  obtain ⟨A, m, q1, q2⟩ := (h3 j hj).2 hi
  exact ⟨A, m, q1, LkE.keep q2 hk⟩
def ThI (B0 eb mb n N0 : Nat) (b : Int) (gk : Nat → Nat) (Ls : List (List Lk)) (T0 : TL) (k i : Nat) (w : World) : Prop :=
  Blk w eb #[.map (some mb)] 61 ∧ (∃ nn D f, nn ≤ N0 + k * 100 + i ∧ MapV w mb nn D ∧ MV D f ∧ TlE w (thP B0 mb n gk Ls) f (TT (b + k) (Ls.getD k []) (TE b Ls T0 k) i)) ∧
  (∀ j, j < n → LnB w (thP B0 mb n gk Ls) (gk j) (Ls.getD j []) (if j < k then (Ls.getD j []).length else if j = k then i else 0) (nwl (b + j) (Ls.getD j []) (TE b Ls T0 j))) ∧
  (∀ x, thS mb n gk Ls x → x < w.heap.size)
theorem ThI.below {B0 eb mb n N0 : Nat} {b : Int} {gk : Nat → Nat} {Ls : List (List Lk)} {T0 : TL} (k i : Nat) (w w' : World) (h : ThI B0 eb mb n N0 b gk Ls T0 k i w) (hb : Below w.heap.size w w') : ThI B0 eb mb n N0 b gk Ls T0 k i w' := by
  obtain ⟨h1, ⟨nn, D, f, q1, q2, q3, q4⟩, h3, h4⟩ := h
  refine ⟨h1.below hb, ⟨nn, D, f, q1, q2.below hb, q3, q4.below hb⟩, fun j hj => (h3 j hj).keep (fun x _ hl => hb.block x hl) fun h0 => ?_, fun x hx => Nat.lt_of_lt_of_le (h4 x hx) hb.size⟩
  obtain ⟨cur, e1, _⟩ := h3 j hj h0
  exact hb.block _ e1.lt
theorem ThI.next {B0 eb mb n N0 : Nat} {b : Int} {gk : Nat → Nat} {Ls : List (List Lk)} {T0 : TL} (hl : ∀ k, (Ls.getD k []).length ≤ 100) (k : Nat) (w : World) (h : ThI B0 eb mb n N0 b gk Ls T0 k (Ls.getD k []).length w) : ThI B0 eb mb n N0 b gk Ls T0 (k + 1) 0 w := by
  obtain ⟨h1, ⟨nn, D, f, q1, q2, q3, q4⟩, h3, h4⟩ := h
  have := hl k
  refine ⟨h1, ⟨nn, D, f, by omega, q2, q3, q4⟩, fun j hj => ?_, h4⟩
  have h5 := h3 j hj
  by_cases hjk : j < k
  · rw [if_pos hjk] at h5; rw [if_pos (by omega)]; exact h5
  · by_cases he : j = k
    · subst he; rw [if_neg hjk, if_pos rfl] at h5; rw [if_pos (by omega)]; exact h5
    · rw [if_neg hjk, if_neg he] at h5
      rw [if_neg (by omega)]
      split <;> exact h5
theorem blk_ne26 {w : World} {b b' : Nat} {c c' : Array Value} {t t' : Nat} (h : Blk w b c t) (h' : Blk w b' c' t') (ht : t ≠ t') : b ≠ b' := fun e => by
  subst e
  have := (show w.heap[b]? = _ from h).symm.trans h'
  injection this with this
  injection this with _ this
  exact ht this
theorem lkfield (s : Int) (A : Option Addr) (n m : Nat) (w : World) : (Instr.field 51 (lkagg s A n m) 1).run Try.prog w = .ok (.slice A n m) w := by kernel_rfl
set_option maxHeartbeats 4000000 in
theorem thread_step {B0 eb mb n N0 : Nat} {b : Int} {gk : Nat → Nat} {Ls : List (List Lk)} {T0 : TL} {hd : Hdr} (w : World) (hlen : Ls.length = n) (hl : ∀ k, (Ls.getD k []).length ≤ 100) (hn : n ≤ 1000) (hN : N0 ≤ 1000000) (b0 : 0 ≤ b)
    (hhd : ∀ k, k < n → (hd k).2.1 = (Ls.getD k []).length ∧ (0 < (hd k).2.1 → (hd k).1 = some ⟨gk k, 0, none⟩)) (hdis : ∀ j k, j < n → k < n → j ≠ k → 0 < (Ls.getD j []).length → 0 < (Ls.getD k []).length → gk j ≠ gk k)
    (hst : ∀ l ∈ Ls, ∀ x ∈ l, 0 ≤ x.1 ∧ x.1 < 18446744073709551616) (hB0 : B0 ≤ w.heap.size) :
    VisStep 33 #[.pointer (some ⟨eb, 0, none⟩)] b n hd (thS mb n gk Ls) (ThI B0 eb mb n N0 b gk Ls T0) w := by
  intro hbn k i g o wr hk hi hA hks hI
  obtain ⟨h1, ⟨nn, D, f, q1, q2, q3, q4⟩, h3, h4⟩ := hI
  obtain ⟨e1, e2⟩ := hhd k hk
  rw [e1] at hi
  have e3 := e2 (by omega)
  rw [hA] at e3
  injection e3 with e3
  injection e3 with e4 e5
  subst e4 e5
  obtain ⟨cur, c1, c2, c3⟩ := h3 k hk (by omega)
  obtain ⟨l, hll⟩ : ∃ l, Ls.getD k [] = l := ⟨_, rfl⟩
  rw [hll] at hi c2 c3 q4
  have hlm : l ∈ Ls := by
    rw [← hll, List.getD_eq_getElem?_getD, List.getElem?_eq_getElem (by omega)]
    exact List.getElem_mem _
  obtain ⟨s, hs⟩ : ∃ s, s = (l.getD i lk0).1 := ⟨_, rfl⟩
  have hsb : 0 ≤ s ∧ s < 18446744073709551616 := by
    rw [hs, List.getD_eq_getElem?_getD, List.getElem?_eq_getElem hi]
    exact hst l hlm _ (List.getElem_mem _)
  have hcs := (c3 i hi).1
  rw [← hs] at hcs
  have hlook := fun w' (h : Below wr.heap.size wr w') => MapV.look (q2.below h) q3 hsb.1 hsb.2
  obtain ⟨A, m, z, hv, hz, hR, hzl⟩ : ∃ A m z, (f s).getD zlk = .agg #[.int .u64 (if f s = none then 0 else s), .slice A z.length m] ∧ (TT (b + k) l (TE b Ls T0 k) i s).getD [] = z ∧ LkE.R wr (thP B0 mb n gk Ls) [.int .u64 s, .slice A z.length m] (s, z) ∧ z.length ≤ 100000 := by
    rcases hfs : f s with _ | u
    · refine ⟨none, 0, [], rfl, ?_, LkE.mk hsb rfl (Nat.le_refl _) (fun _ => rfl) (Sq.nil _ _ _ _), by simp⟩
      rw [(q4 s).1 hfs]; rfl
    · obtain ⟨A, m, z, h5, h6, h7, h8⟩ := (q4 s).2 u hfs
      exact ⟨A, m, z, by rw [if_neg (by simp)]; exact h5, by rw [h6]; rfl, h7, h8⟩
  have c0 := c1.cell (i * 2) hcs
  obtain ⟨old, hold⟩ : ∃ old, cur[i * 2 + 1]? = some old := ⟨_, Array.getElem?_eq_getElem (by omega)⟩
  have c0' := c1.cell (i * 2 + 1) hold
  have cf := c1.free (i * 2 + 1)
  have x0 := h1.c1
  have hL0 := hlook wr (Below.refl _ _)
  have hL1 := hlook wr.drew (below_one' _)
  rw [hv] at hL0 hL1
  have hF0 := lkfield (if f s = none then 0 else s) A z.length m wr
  have hF1 := lkfield (if f s = none then 0 else s) A z.length m wr.drew
  generalize (if f s = none then 0 else s) = s' at *
  have HQ := Lib.hid (And.intro q1 (And.intro q2 (And.intro q3 q4)))
  have H3 := Lib.hid h3
  have H4 := Lib.hid h4
  have HC := Lib.hid (And.intro c1 (And.intro c2 c3))
  have HZ := Lib.hid (And.intro hz (And.intro hR hzl))
  have HKS := Lib.hid hks
  have H1 := Lib.hid h1
  have HSB := Lib.hid hsb
  have HHS := Lib.hid hs
  have HLL := Lib.hid hll
  have HLK := Lib.hid hlook
  clear q1 q2 q3 q4 h3 h4 c1 c2 c3 hz hR hzl hks h1 hsb hs hll hlm hcs hlook hold hA hv hhd hst hd e1 e2
  simp only [List.append_toArray, List.cons_append, List.nil_append]
  generalize hp : b + (k : Int) = p at *
  go_enter Try.func33, Try.ntmps33
  go_wp2
  go_region
  clear x0 c0 c0' cf hL0 hL1 hF0 hF1
  have hk1 : Kp (gk k) wr (wr.setCell ⟨gk k, i * 2 + 1, none⟩ (.slice A z.length m)).drew := (Kp.setCell wr (gk k) (i * 2 + 1) _).drew
  have hX1 : Blk (wr.setCell ⟨gk k, i * 2 + 1, none⟩ (.slice A z.length m)).drew (gk k) (cur.setIfInBounds (i * 2 + 1) (.slice A z.length m)) 51 := (HC.out.1.set _ _).drew
  generalize (wr.setCell ⟨gk k, i * 2 + 1, none⟩ (.slice A z.length m)).drew = w1 at *
  have hlpos : 0 < (Ls.getD k []).length := by rw [HLL.out]; omega
  have hSg : thS mb n gk Ls (gk k) := .inr ⟨k, hk, hlpos, rfl⟩
  have hge : eb ≠ gk k := (fun e => blk_ne26 HC.out.1 H1.out (by decide) e.symm)
  have hgm : mb ≠ gk k := fun e => MapV.ne_blk HQ.out.2.1 HC.out.1 e.symm
  have hB1 : Blk w1 eb #[.map (some mb)] 61 := (hk1.block eb H1.out.lt hge).trans H1.out
  have hM1 : MapV w1 mb nn D := HQ.out.2.1.block (hk1.block mb (World.ownsMap.lt HQ.out.2.1) hgm)
  have hnP : ∀ x, thP B0 mb n gk Ls x → x < wr.heap.size → w1.heap[x]? = wr.heap[x]? := fun x hx hl => hk1.block x hl (fun e => hx.2 (by rw [e]; exact hSg))
  have hT1 := HQ.out.2.2.2.keep hnP
  have hR1 := LkE.keep HZ.out.2.1 hnP
  have hcx : (cur.setIfInBounds (i * 2 + 1) (.slice A z.length m))[i * 2]? = some (.int .u64 s) := by
    rw [Array.getElem?_setIfInBounds, if_neg (by omega)]
    have := (HC.out.2.2 i hi).1
    rw [← HHS.out] at this
    exact this
  have hcy : (cur.setIfInBounds (i * 2 + 1) (.slice A z.length m))[i * 2 + 1]? = some (.slice A z.length m) := by
    rw [Array.getElem?_setIfInBounds, if_pos rfl, if_pos (by have := HC.out.2.1; omega)]
  have L : ∀ w', Below w1.heap.size w1 w' → (w'.cell? ⟨eb, 0, none⟩ = some (.map (some mb)) ∧ w'.cell? ⟨gk k, i * 2, none⟩ = some (.int .u64 s)) ∧ w'.cell? ⟨gk k, i * 2 + 1, none⟩ = some (.slice A z.length m) :=
    fun w' h => ⟨⟨(hB1.below h).c1, (hX1.below h).cell _ hcx⟩, (hX1.below h).cell _ hcy⟩
  obtain ⟨A0, m0, hc0, b1, b2, b3, b4, b5, b6, b7⟩ := link_parts hR1
  obtain ⟨rfl, rfl⟩ : A = A0 ∧ m = m0 := by simpa using hc0
  dsimp only at b2 b4 b5
  have hex := fun w' (h : Below w1.heap.size w1 w') => lextend_any s A z.length m z p w' HSB.out (b4.below h) b5 b2 b3 (by have := HZ.out.2.2; omega) (by omega) (by omega)
  unfold LOwPost at hex
  have HEX := Lib.hid hex
  have HM1 := Lib.hid hM1
  have HT1 := Lib.hid hT1
  have HR1 := Lib.hid hR1
  have HB1 := Lib.hid hB1
  have HX1 := Lib.hid hX1
  have HK1 := Lib.hid hk1
  have HNE := Lib.hid (And.intro hge (And.intro hgm hSg))
  clear hex hM1 hT1 hR1 hB1 hX1 hk1 hge hgm hSg hnP hcx hcy hc0 b1 b2 b3 b4 b5 b6 b7 hlpos
  go_wp2
  have hS : Below w1.heap.size w1 w1.drew := below_one' _
  refine Seq.wp_region_last (fun w' => Below w1.heap.size w1 w') (by kernel_rfl) (by kernel_rfl) (by kernel_rfl) hS ?_
  generalize w1.drew = wd at *
  repeat (first | (refine Seq.SeqE.skip (by rfl) ?_; (try simp only [Act.put, List.setIfInBounds_toArray, List.set_cons_zero, List.set_cons_succ])) | (refine Seq.SeqE.det ?_ (by rfl) (fun w hS => ?_) ?_; rotate_left; ((try dsimp only at hS); go_simp; (try rw [if_pos (by omega)]); with_reducible rfl); (try simp only [Act.put, List.setIfInBounds_toArray, List.set_cons_zero, List.set_cons_succ])))
  refine Seq.SeqE.make (by rfl) (by rfl) (fun K Q' hK => ?_)
  go_simp
  go_at_call 34
  refine (HEX.out _ hS).mono ?_
  rintro en v1 ⟨A2, m2, rfl, hb2, hR2⟩
  have hR3 := LkE.mono hR2 (Q := thP B0 mb n gk Ls) fun x hx _ => ⟨by have h5 := HKS.out.size; have h6 := HK1.out.size; have h7 := hS.size; have h8 : _ ≤ x := hx; omega, fun h9 => by have h5 := H4.out x h9; have h6 := HK1.out.size; have h7 := hS.size; have h8 : _ ≤ x := hx; omega⟩
  replace hS := Below.trans hS (hb2.mono hS.size)
  have HR3 := Lib.hid hR3
  clear hb2 hR2 hR3
  refine hK.out _ _ (hS) ?_
  clear hK K
  try simp only [Act.put, List.setIfInBounds_toArray, List.set_cons_zero, List.set_cons_succ]
  repeat (first | (refine Seq.SeqE.skip (by rfl) ?_; (try simp only [Act.put, List.setIfInBounds_toArray, List.set_cons_zero, List.set_cons_succ])) | (refine Seq.SeqE.det ?_ (by rfl) (fun w hS => ?_) ?_; rotate_left; ((try dsimp only at hS); go_simp; (try rw [if_pos (by omega)]); with_reducible rfl); (try simp only [Act.put, List.setIfInBounds_toArray, List.set_cons_zero, List.set_cons_succ])))
  obtain ⟨w9, hrun, hm9, hf9, hg9⟩ := MapV.upd (HM1.out.below hS) HQ.out.2.2.1 (by have := HQ.out.1; have := hN; have := hn; have := hk; have := hl k; rw [HLL.out] at this; simp only [maxLen]; omega) HSB.out.1 HSB.out.2 (lkagg (ext p (s, z)).1 A2 (ext p (s, z)).2.length m2)
  refine Seq.SeqE.last (by rfl) (by rfl) (fun K Q' hK => ?_)
  go_simp
  refine hK.out _ _ ?_
  clear hK K
  try simp only [Act.put, List.setIfInBounds_toArray, List.set_cons_zero, List.set_cons_succ]
  have hgm := HNE.out.2.1
  have hSg := HNE.out.2.2
  have hem : eb ≠ mb := MapV.ne_blk HM1.out HB1.out
  have hz1 : wr.heap.size ≤ w1.heap.size := HK1.out.size
  have hz2 : w1.heap.size ≤ v1.heap.size := Below.size hS
  have hkeep1 : ∀ x, x ≠ mb → x < w1.heap.size → w9.heap[x]? = w1.heap[x]? := fun x h2 hl => (hg9.block x (by omega) (fun e => h2 (by injection e))).trans (Below.block hS x hl)
  have hkeep : ∀ x, x ≠ gk k → x ≠ mb → x < wr.heap.size → w9.heap[x]? = wr.heap[x]? := fun x h1 h2 hl => (hkeep1 x h2 (by omega)).trans (HK1.out.block x hl h1)
  have hPk : ∀ x, thP B0 mb n gk Ls x → x < wr.heap.size → w9.heap[x]? = wr.heap[x]? := fun x hx hl => hkeep x (fun e => hx.2 (by rw [e]; exact hSg)) (fun e => hx.2 (.inl e)) hl
  have hPk1 : ∀ x, thP B0 mb n gk Ls x → x < w1.heap.size → w9.heap[x]? = w1.heap[x]? := fun x hx hl => hkeep1 x (fun e => hx.2 (.inl e)) hl
  have hKS : Ks (thS mb n gk Ls) wr w9 := ((Ks.of_kp HK1.out hSg).trans (Ks.of_below hS)).trans (Ks.of_grown hg9 (fun x e => .inl (by injection e with e; exact e.symm)))
  have hfin : ThI B0 eb mb n N0 b gk Ls T0 k (i + 1) w9 := by
    refine ⟨(hkeep1 eb hem HB1.out.lt).trans HB1.out, ⟨nn + 1, _, _, by have := HQ.out.1; omega, hm9, hf9, ?_⟩, fun j hj => ?_, fun x hx => ?_⟩
    · have h5 := (HT1.out.keep hPk1).put (s := s) (A := A2) (m := m2) (z := (ext p (s, z)).2) (LkE.keep HR3.out fun x hx hl => hg9.block x hl (fun e => hx.2 (.inl (by injection e)))) (by show (p :: z.take 3).length ≤ 100000; simp; omega)
      have h6 : TT (b + k) (Ls.getD k []) (TE b Ls T0 k) (i + 1) = fun t => if t = s then some (ext p (s, z)).2 else TT p l (TE b Ls T0 k) i t := by
        rw [HLL.out, hp]
        show (fun t => if t = (l.getD i lk0).1 then some (p :: ((TT p l (TE b Ls T0 k) i (l.getD i lk0).1).getD []).take 3) else TT p l (TE b Ls T0 k) i t) = _
        rw [← HHS.out, HZ.out.1]
        rfl
      rw [h6]
      exact h5
    · by_cases hjk : j = k
      · subst hjk
        rw [if_neg (by omega), if_pos rfl, HLL.out, hp]
        intro hpos
        refine ⟨_, (hkeep1 _ (fun e => hgm e.symm) HX1.out.lt).trans HX1.out, by have := HC.out.2.1; simpa using this, fun j' hj' => ?_⟩
        obtain ⟨d1, d2⟩ := HC.out.2.2 j' hj'
        refine ⟨by rw [Array.getElem?_setIfInBounds, if_neg (by omega)]; exact d1, fun hji => ?_⟩
        by_cases he : j' = i
        · subst he
          have hnw : nwl p l (TE b Ls T0 j) j' = (s, z) := by
            unfold nwl
            rw [← HHS.out, HZ.out.1]
          rw [hnw]
          exact ⟨A, m, by rw [Array.getElem?_setIfInBounds, if_pos rfl, if_pos (by have := HC.out.2.1; omega)], LkE.keep HR1.out hPk1⟩
        · obtain ⟨A', m', d3, d4⟩ := d2 (by simp only [Nat.lt_irrefl, if_false, if_true]; omega)
          exact ⟨A', m', by rw [Array.getElem?_setIfInBounds, if_neg (by omega)]; exact d3, LkE.keep d4 hPk⟩
      · have h5 := H3.out j hj
        have h6 : (if j < k then (Ls.getD j []).length else if j = k then i + 1 else 0) = (if j < k then (Ls.getD j []).length else if j = k then i else 0) := by rw [if_neg hjk, if_neg hjk]
        rw [h6]
        refine h5.keep hPk fun h0 => ?_
        obtain ⟨cur', e1, _⟩ := h5 h0
        have hlk : 0 < (Ls.getD k []).length := by rw [HLL.out]; omega
        exact hkeep (gk j) (hdis j k hj hk hjk h0 hlk) (fun e => MapV.ne_blk HQ.out.2.1 e1 e) e1.lt
    · have := H4.out x hx
      have := hKS.size
      omega
  have HFIN := Lib.hid (And.intro hfin hKS)
  clear hfin hKS hPk hPk1 hkeep hkeep1 hm9 hf9 hg9 hrun
  go_wp2
  go_end0
  exact ⟨rfl, HFIN.out.1, HFIN.out.2⟩
end Go.Proofs.Ytoemmppoejaapaa.Cur

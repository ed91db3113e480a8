/- Projections copied, each set into a block of its own. -/
import Derived.Test.YtghlediibhnloaaSwpB
namespace Go.Proofs.Ytghlediibhnloaa.Cur
open Go.RowKit Mem
set_option linter.unusedVariables false
set_option maxRecDepth 100000


/-- No list of sets is empty, and no set. -/
def pne (L : List Stp) : Prop := ∀ s ∈ L, 1 ≤ s.2.2.length ∧ ∀ l ∈ s.2.2, 1 ≤ l.length
abbrev slen (L : List Stp) : Nat → Nat := fun i => (L.getD i stp0).2.2.length
def PCpdPost (e : Int) (L : List Stp) (w : World) (en : Ending) (w' : World) : Prop :=
  ∃ (v : Value) (a : Nat → Nat) (b : Nat → Nat → Nat), en = .returned (.agg #[.int .u64 e, v]) ∧ Below w.heap.size w w' ∧ StpD w' w.heap.size v L a b ∧ Apt L.length (slen L) a b
theorem get3l {cs : List Value} {p : Nat} (a b c : Value) (hp : p + 3 ≤ cs.length) (x : Nat) : (((cs.set p a).set (p + 1) b).set (p + 2) c)[x]? = if x = p + 2 then some c else if x = p + 1 then some b else if x = p then some a else cs[x]? := by
  simp only [List.getElem?_set, List.length_set]
  by_cases h1 : x = p + 2
  · subst h1; rw [if_pos rfl, if_pos (by omega), if_pos rfl]
  · rw [if_neg (fun e => h1 e.symm), if_neg h1]
    by_cases h2 : x = p + 1
    · subst h2; rw [if_pos rfl, if_pos (by omega), if_pos rfl]
    · rw [if_neg (fun e => h2 e.symm), if_neg h2]
      by_cases h3 : x = p
      · subst h3; rw [if_pos rfl, if_pos (by omega), if_pos rfl]
      · rw [if_neg (fun e => h3 e.symm), if_neg h3]
/-- Stripe i stands in the cells. -/
def StpAt (w : World) (W : Nat) (cs : List Value) (s : Stp) (a : Nat) (b : Nat → Nat) (i : Nat) : Prop := ∃ u, cs[i * 3]? = some (.int .u64 s.1) ∧ cs[i * 3 + 1]? = some (.int .u64 s.2.1) ∧ cs[i * 3 + 2]? = some u ∧
  (0 ≤ s.1 ∧ s.1 < 18446744073709551616) ∧ (0 ≤ s.2.1 ∧ s.2.1 < 18446744073709551616) ∧ u.ownBlock = some a ∧ ArrD w W u s.2.2 b
theorem StpAt.lt {w : World} {W : Nat} {cs : List Value} {s : Stp} {a : Nat} {b : Nat → Nat} {i : Nat} (h : StpAt w W cs s a b i) : (W ≤ a ∧ a < w.heap.size ∧ ∃ cur, Blk w a cur 101) ∧ ∀ k, k < s.2.2.length → W ≤ b k ∧ b k < w.heap.size ∧ ∃ cur, Blk w (b k) cur 22 := by
  obtain ⟨u, _, _, _, _, _, hu, hA⟩ := h
  refine ⟨⟨(hA.blk hu).2.1, (hA.blk hu).2.2.1, (hA.blk hu).1⟩, fun k hk => ?_⟩
  obtain ⟨cs2, _, h4⟩ := hA
  obtain ⟨u2, _, h5⟩ := h4 k hk
  exact ⟨h5.blk.2.1, h5.blk.2.2.1, h5.blk.1⟩
theorem StpAt.keep {w w' : World} {W : Nat} {cs cs' : List Value} {s : Stp} {a : Nat} {b : Nat → Nat} {i : Nat} (h : StpAt w W cs s a b i) (hcs : ∀ j, j < 3 → cs'[i * 3 + j]? = cs[i * 3 + j]?) (ha : w'.heap[a]? = w.heap[a]?) (hb : ∀ k, k < s.2.2.length → w'.heap[b k]? = w.heap[b k]?) : StpAt w' W cs' s a b i := by
  obtain ⟨u, c0, c1, c2, f0, t0, hu, hA⟩ := h
  exact ⟨u, (hcs 0 (by omega)).trans c0, (hcs 1 (by omega)).trans c1, (hcs 2 (by omega)).trans c2, f0, t0, hu, hA.keep hu ha hb⟩
/-- The first k of n stripes are copies in blocks of their own, the others are as they were. -/
def CpQ (w : World) (B g n cap k : Nat) (L : List Stp) (old cs : List Value) (a : Nat → Nat) (b : Nat → Nat → Nat) : Prop :=
  w.ownsRow B 60 3 (.slice (some ⟨g, 0, none⟩) n cap) n cs ∧ (∀ i, i < k → StpAt w B cs (L.getD i stp0) (a i) (b i) i) ∧ (∀ j, k * 3 ≤ j → cs[j]? = old[j]?) ∧ Apt k (slen L) a b
theorem CpQ.keep {w w' : World} {B g n cap k : Nat} {L : List Stp} {old cs : List Value} {a : Nat → Nat} {b : Nat → Nat → Nat} (h : CpQ w B g n cap k L old cs a b) (hk : ∀ x, B ≤ x → x < w.heap.size → w'.heap[x]? = w.heap[x]?) : CpQ w' B g n cap k L old cs a b := by
  obtain ⟨h1, h2, h3, h4⟩ := h
  refine ⟨own_block h1 fun x hx => hk x (World.ownsRow.lt h1 x hx).1 (World.ownsRow.lt h1 x hx).2, fun i hi => ?_, h3, h4⟩
  have hl := (h2 i hi).lt
  exact (h2 i hi).keep (fun j _ => rfl) (hk _ hl.1.1 hl.1.2.1) fun x hx => hk _ (hl.2 x hx).1 (hl.2 x hx).2.1
theorem CpQ.below {w w' : World} {B g n cap k : Nat} {L : List Stp} {old cs : List Value} {a : Nat → Nat} {b : Nat → Nat → Nat} (h : CpQ w B g n cap k L old cs a b) (hb : Below w.heap.size w w') : CpQ w' B g n cap k L old cs a b := h.keep fun x _ hl => hb.block x hl
theorem CpQ.next {w : World} {B g n cap k sz a' : Nat} {L : List Stp} {old cs : List Value} {a : Nat → Nat} {b : Nat → Nat → Nat} {b' : Nat → Nat} {f t : Int} {S : List (List Int)} {u : Value} (h : CpQ w B g n cap k L old cs a b) (hk : k < n) (hL : L.getD k stp0 = (f, t, S))
    (hf : 0 ≤ f ∧ f < 18446744073709551616) (ht : 0 ≤ t ∧ t < 18446744073709551616) (hu : u.ownBlock = some a') (hA : ArrD w B u S b') (ha : sz ≤ a') (hb : ∀ j, j < S.length → sz ≤ b' j) (hinc : ∀ j l, j < l → l < S.length → b' j < b' l)
    (hlt : ∀ i, i < k → a i < sz ∧ ∀ j, j < slen L i → b i j < sz) :
    CpQ (((w.setCell ⟨g, k * 3, none⟩ (.int .u64 f)).setCell ⟨g, k * 3 + 1, none⟩ (.int .u64 t)).setCell ⟨g, k * 3 + 2, none⟩ u) B g n cap (k + 1) L old (((cs.set (k * 3) (.int .u64 f)).set (k * 3 + 1) (.int .u64 t)).set (k * 3 + 2) u) (fun i => if i = k then a' else a i) (fun i => if i = k then b' else b i) := by
  obtain ⟨h1, h2, h3, h4⟩ := h
  have hs := (World.ownsRow.stored (World.ownsRow.stored (World.ownsRow.stored h1 (k * 3) (.int .u64 f)).1 (k * 3 + 1) (.int .u64 t)).1 (k * 3 + 2) u).1
  obtain ⟨⟨cg, hgb⟩, _⟩ := row_blk (g := g) h1 rfl
  have hcl : cs.length = n * 3 := h1.1
  have hg3 := get3l (cs := cs) (p := k * 3) (.int .u64 f) (.int .u64 t) u (by omega)
  have hkp : ∀ {x : Nat} {c : Array Value} {T : Nat}, Blk w x c T → T ≠ 60 → (((w.setCell ⟨g, k * 3, none⟩ (.int .u64 f)).setCell ⟨g, k * 3 + 1, none⟩ (.int .u64 t)).setCell ⟨g, k * 3 + 2, none⟩ u).heap[x]? = w.heap[x]? := fun {x c T} hx hT => by
    have hne : x ≠ g := blk_ne hx hgb hT
    rw [Below.heap_setCell _ _ _ _ hne, Below.heap_setCell _ _ _ _ hne, Below.heap_setCell _ _ _ _ hne]
  have hlk : slen L k = S.length := by show (L.getD k stp0).2.2.length = _; rw [hL]
  refine ⟨hs, fun i hi => ?_, fun j hj => ?_, h4.next hlt ha (fun j hj => hb j (by rw [← hlk]; exact hj)) fun j l hj hl e => ?_⟩
  · by_cases hik : i = k
    · subst hik
      simp only [if_true]
      rw [hL]
      refine ⟨u, by rw [hg3, if_neg (by omega), if_neg (by omega), if_pos rfl], by rw [hg3, if_neg (by omega), if_pos rfl], by rw [hg3, if_pos rfl], hf, ht, hu, hA.keep hu ?_ fun x hx => ?_⟩
      · obtain ⟨c, hc⟩ := (hA.blk hu).1
        exact hkp hc (by decide)
      · obtain ⟨cs2, _, h6⟩ := hA
        obtain ⟨u2, _, h5⟩ := h6 x hx
        obtain ⟨c, hc⟩ := h5.blk.1
        exact hkp hc (by decide)
    · simp only [hik, if_false]
      have hl := (h2 i (by omega)).lt
      obtain ⟨_, _, c, hc⟩ := hl.1
      refine (h2 i (by omega)).keep (fun j hj => ?_) (hkp hc (by decide)) fun x hx => ?_
      · rw [hg3, if_neg (by omega), if_neg (by omega), if_neg (by omega)]
      · obtain ⟨_, _, c, hc⟩ := hl.2 x hx
        exact hkp hc (by decide)
  · rw [hg3, if_neg (by omega), if_neg (by omega), if_neg (by omega)]
    exact h3 j (by omega)
  · rw [hlk] at hj hl
    rcases Nat.lt_trichotomy j l with h | h | h
    · have := hinc j l h hl; omega
    · exact h
    · have := hinc l j h hj; omega

set_option maxHeartbeats 4000000 in
theorem prcopyd_any (e : Int) (A : Option Addr) (n m : Nat) (L : List Stp) (w : World) (hz : Pts w (fun b => b < w.heap.size) A n L) (hm : n ≤ m) (hnil : A = none → m = 0) (hn : n ≤ 100000) (hlen : plen 100000 L) (hn1 : 1 ≤ n) (hne : pne L) :
    Calls Try.prog 18 #[pragg e A n m] w (PCpdPost e L w) := by
  have hX := (Blk.new w (prc e A n m) 25).alloc (.cells (prc 0 none 0 0) 25)
  have hY := Blk.new (w.alloc (.cells (prc e A n m) 25)) (prc 0 none 0 0) 25
  rw [show (w.alloc (.cells (prc e A n m) 25)).heap.size = w.heap.size + 1 by simp] at hY
  have hb := below_two w (.cells (prc e A n m) 25) (.cells (prc 0 none 0 0) 25)
  have hw0 : ((w.alloc (.cells (prc e A n m) 25)).alloc (.cells (prc 0 none 0 0) 25)).heap.size = w.heap.size + 2 := by simp
  have HZ := Lib.hid hz
  have HB0 := Lib.hid hb
  have HLEN := Lib.hid (fun k => hlen.at_ k)
  have HNE := Lib.hid hne
  have HL := Lib.hid hz.1
  obtain ⟨old, hch, hol, hraw, hone⟩ := (hz.below hb).2.raw
  rw [hz.1, show StE.k = 3 from rfl] at hol
  have hcl := clonep_any A n m old.flatten _ hol hraw hone hnil (by omega)
  have HCH := Lib.hid hch
  have HOL := Lib.hid hol
  clear hz hlen hch hraw hone hol hne
  obtain ⟨x0, x1⟩ := hX.c2
  go_enter Try.func18, Try.ntmps18
  go_wp2_with fail
  generalize (w.alloc (.cells (prc e A n m) 25)).alloc (.cells (prc 0 none 0 0) 25) = w0 at *
  refine hcl.mono ?_
  rintro en w1 ⟨v, rfl, ho, hb1⟩
  have hX1 := hX.below hb1
  have hY1 := hY.below hb1
  have hbd1 := hb.trans (hb1.mono hb.size)
  have hsz1 := hb1.size
  obtain ⟨g, hvg⟩ : ∃ g, v.ownBlock = some g := by
    rcases ho.2 with ⟨_, h0⟩ | ⟨g, _, _, e, _⟩
    · omega
    · exact ⟨g, by rw [e]; rfl⟩
  obtain ⟨⟨cg, hgb⟩, hB, _, cap, rfl, hcap⟩ := row_blk ho hvg
  clear hcl x0 x1 hX hY hvg
  have hC1 : CpQ w1 (w.heap.size + 2) g n cap 0 L old.flatten old.flatten (fun _ => 0) (fun _ _ => 0) := ⟨by rw [← hw0]; exact ho, fun i hi => absurd hi (by omega), fun i _ => rfl, fun i j hi => absurd hi (by omega), fun i k j l hi => absurd hi (by omega)⟩
  have hX2 := hX1.set 1 (.slice (some ⟨g, 0, none⟩) n cap)
  have hY2 := hY1.far (g := w.heap.size) 1 (.slice (some ⟨g, 0, none⟩) n cap) (by omega)
  have hbd2 := Below.setCell hbd1 (p := ⟨w.heap.size, 1, none⟩) (Nat.le_refl _) (.slice (some ⟨g, 0, none⟩) n cap)
  have hC2 := hC1.keep (w' := w1.setCell ⟨w.heap.size, 1, none⟩ (.slice (some ⟨g, 0, none⟩) n cap)) (fun x hx _ => Below.heap_setCell _ _ _ _ (fun e => by have e2 : x = w.heap.size := e; omega))
  have hgB : w.heap.size + 2 ≤ g := by omega
  obtain ⟨x0, x1⟩ := hX1.c2
  have i2 := hX1.free 1
  clear ho hC1 hB hgb
  go_upto_region 2 with (fail)
  clear x0 x1 i2 hX1 hY1 hbd1
  generalize w1.setCell ⟨w.heap.size, 1, none⟩ (.slice (some ⟨g, 0, none⟩) n cap) = w2 at *
  have hX3 : Blk w2 w.heap.size (prc e (some ⟨g, 0, none⟩) n cap) 25 := hX2
  clear hX2
  obtain ⟨x0, x1⟩ := hX3.c2
  go_wp2
  clear x0 x1
  go_loopw [12] (fun i wr => ∃ (k : Nat) (cs : List Value) (a : Nat → Nat) (b : Nat → Nat → Nat), k ≤ n ∧ i = .int .i64 k ∧ Blk wr w.heap.size (prc e (some ⟨g, 0, none⟩) n cap) 25 ∧ Blk wr (w.heap.size + 1) (prc 0 none 0 0) 25 ∧ Hid (CpQ wr (w.heap.size + 2) g n cap k L old.flatten cs a b) ∧ Below w.heap.size w wr) (fun i _ => n - (intOf i).toNat)
  case atStart => exact ⟨0, _, _, _, by omega, rfl, hX3, hY2, Lib.hid hC2, hbd2⟩
  case round =>
    clear hX3 hY2 hC2 hbd2
    obtain ⟨k, cs, aa, bb, hk, rfl, hX, hY, HC, hbd⟩ := hrel
    obtain ⟨x0, x1⟩ := hX.c2
    by_cases hlt : k < n
    · have hkL : k < L.length := by rw [HL.out]; exact hlt
      obtain ⟨c, hR, hat⟩ := HCH.out.at_ k L[k] (List.getElem?_eq_getElem hkL)
      have hzk : L.getD k stp0 = L[k] := by rw [List.getD_eq_getElem?_getD, List.getElem?_eq_getElem hkL]; rfl
      have hll := HLEN.out k
      have hnn := HNE.out _ (List.getElem_mem hkL)
      rw [hzk] at hll
      obtain ⟨a, mm, rfl, fb, tb, hlm, hnl, hst⟩ := stripe_parts hR
      have o0 := hat 0 _ rfl
      have o1 := hat 1 _ rfl
      have o2 := hat 2 _ rfl
      rw [show StE.k = 3 from rfl] at o0 o1 o2
      rw [Nat.add_zero] at o0
      obtain ⟨s, hs⟩ : ∃ s, s = L[k] := ⟨_, rfl⟩
      rw [← hs] at hst hll hzk hlm fb tb o0 o1 o2 hnn
      clear hs hR hat
      obtain ⟨f, t, S⟩ := s
      dsimp only at hst hll hlm fb tb o0 o1 o2 hnn
      obtain ⟨l, hl⟩ : ∃ l, l = S.length := ⟨_, rfl⟩
      rw [← hl] at hst hll hlm o2 hnn
      have HLS := Lib.hid hl
      have HZK := Lib.hid hzk
      have hrow := HC.out.1
      have c0 := (World.ownsRow.cellAt hrow (k * 3) (by omega)).trans ((HC.out.2.2.1 _ (Nat.le_refl _)).trans o0)
      have c1 := (World.ownsRow.cellAt hrow (k * 3 + 1) (by omega)).trans ((HC.out.2.2.1 _ (by omega)).trans o1)
      have c2 := (World.ownsRow.cellAt hrow (k * 3 + 2) (by omega)).trans ((HC.out.2.2.1 _ (by omega)).trans o2)
      have hgl := (World.ownsRow.lt hrow g rfl).2
      have e2 : (k : Int) < n := by omega
      have e3 : IntKind.i64.wrap ((k : Int) + 1) = ((k + 1 : Nat) : Int) := IntWalk.i64_in _ (by omega)
      have hbA := below_one wr (.cells (stc f t a l mm) 60)
      have hbW : Below w.heap.size w (wr.alloc (.cells (stc f t a l mm) 60)) := hbd.trans (hbA.mono hbd.size)
      have hbw : Below w.heap.size w (wr.alloc (.cells (stc f t a l mm) 60)).drew := hbW.trans ((below_one' _).mono hbW.size)
      have hXA := hX.below hbA
      have hYA := hY.below hbA
      have hCA := HC.out.below hbA
      have hSA := Blk.new wr (stc f t a l mm) 60
      have hszA : (wr.alloc (.cells (stc f t a l mm) 60)).drew.heap.size = wr.heap.size + 1 := by show (wr.alloc _).heap.size = _; simp
      have hwr := hbd.size
      have hgw : g ≠ wr.heap.size := by omega
      have hstw : Sts (wr.alloc (.cells (stc f t a l mm) 60)).drew (fun b => b < w.heap.size) a l S := hst.keep fun b hb9 _ => (hbw.block b hb9).trans (HB0.out.block b hb9).symm
      have hcon := stcopyd_any f t a l mm S (wr.alloc (.cells (stc f t a l mm) 60)).drew (hstw.mono fun b hb9 _ => by have := hbw.size; omega) hlm hnl (by have := hll.1; omega) hll.2 hnn.1 hnn.2
      have hS : CpR w.heap.size (prc e (some ⟨g, 0, none⟩) n cap) wr.heap.size (stc f t a l mm) (wr.alloc (.cells (stc f t a l mm) 60)).drew := ⟨hXA.drew, hSA.drew⟩
      have L1 : ∀ w', CpR w.heap.size (prc e (some ⟨g, 0, none⟩) n cap) wr.heap.size (stc f t a l mm) w' → w'.cell? ⟨w.heap.size, 1, none⟩ = some (.slice (some ⟨g, 0, none⟩) n cap) := fun w' h => h.1.c2.2
      have L2 : ∀ w', CpR w.heap.size (prc e (some ⟨g, 0, none⟩) n cap) wr.heap.size (stc f t a l mm) w' → w'.cell? ⟨wr.heap.size, 0, none⟩ = some (.int .u64 f) ∧ w'.cell? ⟨wr.heap.size, 1, none⟩ = some (.int .u64 t) ∧ w'.cell? ⟨wr.heap.size, 2, none⟩ = some (.slice a l mm) := fun w' h => h.2.c3
      have hYd : Blk (wr.alloc (.cells (stc f t a l mm) 60)).drew (w.heap.size + 1) (prc 0 none 0 0) 25 := hYA
      have hCd := hCA.below (below_one' _)
      have HLT : Hid (∀ i, i < k → aa i < wr.heap.size ∧ ∀ j, j < slen L i → bb i j < wr.heap.size) := Lib.hid fun i hi => ⟨(HC.out.2.1 i hi).lt.1.2.1, fun j hj => ((HC.out.2.1 i hi).lt.2 j hj).2.1⟩
      have hw2r : w.heap.size + 2 ≤ wr.heap.size := by omega
      have HBW := Lib.hid hbw
      have HSZ := Lib.hid hszA
      have HFB := Lib.hid fb
      have HTB := Lib.hid tb
      clear hst hzk hl hrow o0 o1 o2 hX hY hbd HC hbA hbW hbw hXA hYA hCA hSA hszA hstw hlm hnl hll fb tb hnn
      go_wp2
      clear c0 c1 c2 x0 x1
      refine Seq.wp_region_last (CpR w.heap.size (prc e (some ⟨g, 0, none⟩) n cap) wr.heap.size (stc f t a l mm)) (by kernel_rfl) (by kernel_rfl) (by kernel_rfl) hS ?_
      generalize (wr.alloc (.cells (stc f t a l mm) 60)).drew = wd at *
      repeat (first | (refine Seq.SeqE.skip (by rfl) ?_; (try simp only [Act.put, List.setIfInBounds_toArray, List.set_cons_zero, List.set_cons_succ])) | (refine Seq.SeqE.det ?_ (by rfl) (fun w hS => ?_) ?_; rotate_left; ((try dsimp only at hS); go_simp; (try rw [if_pos (by omega)]); with_reducible rfl); (try simp only [Act.put, List.setIfInBounds_toArray, List.set_cons_zero, List.set_cons_succ])))
      refine Seq.SeqE.make (by rfl) (by rfl) (fun K Q' hK => ?_)
      go_simp
      go_at_call 48
      refine hcon.mono ?_
      rintro en w5 ⟨v, a5, b5, rfl, hb5, hva, hA5, hinc⟩
      obtain ⟨_, ha5, _, c5, rfl, hc5⟩ := hA5.blk hva
      have hS5 : CpR w.heap.size (prc e (some ⟨g, 0, none⟩) n cap) wr.heap.size (stc f t a l mm) w5 := ⟨hS.1.below hb5, hS.2.below hb5⟩
      have hY5 := hYd.below hb5
      have hC5 := hCd.below hb5
      have hbd5 := HBW.out.trans (hb5.mono HBW.out.size)
      have hwd := HSZ.out
      have hA6 : ArrD w5 (w.heap.size + 2) (.slice (some ⟨a5, 0, none⟩) S.length c5) S b5 := by
        obtain ⟨cs2, h1, h2⟩ := hA5
        refine ⟨cs2, ⟨h1.1, h1.2.imp id fun ⟨g, c, cur, e1, e2, e3⟩ => ⟨g, c, cur, e1, by omega, e3⟩⟩, fun i hi => ?_⟩
        obtain ⟨u, hu, hd⟩ := h2 i hi
        exact ⟨u, hu, hd.1, ⟨hd.2.1.1, hd.2.1.2.imp id fun ⟨g, c, cur, e1, e2, e3⟩ => ⟨g, c, cur, e1, by omega, e3⟩⟩, hd.2.2⟩
      have hbl5 : ∀ j, j < S.length → wr.heap.size ≤ b5 j := fun j hj => by have := (hA5.lt hj).1; omega
      have hnx := hC5.next (u := .slice (some ⟨a5, 0, none⟩) S.length c5) hlt HZK.out HFB.out HTB.out hva hA6 (by omega : wr.heap.size ≤ a5) hbl5 hinc HLT.out
      have hrow5 := hC5.1
      have q0 : ∃ x, w5.cell? ⟨g, k * 3, none⟩ = some x := ⟨_, (World.ownsRow.cellAt hrow5 _ (by omega)).trans (List.getElem?_eq_getElem (by have := hrow5.1; omega))⟩
      have q1 : ∃ x, w5.cell? ⟨g, k * 3 + 1, none⟩ = some x := ⟨_, (World.ownsRow.cellAt hrow5 _ (by omega)).trans (List.getElem?_eq_getElem (by have := hrow5.1; omega))⟩
      have q2 : ∃ x, w5.cell? ⟨g, k * 3 + 2, none⟩ = some x := ⟨_, (World.ownsRow.cellAt hrow5 _ (by omega)).trans (List.getElem?_eq_getElem (by have := hrow5.1; omega))⟩
      obtain ⟨_, q0⟩ := q0
      obtain ⟨_, q1⟩ := q1
      obtain ⟨_, q2⟩ := q2
      have r0 := World.ownsRow.frozenAt hrow5 (k * 3)
      have r1 := World.ownsRow.frozenAt hrow5 (k * 3 + 1)
      have r2 := World.ownsRow.frozenAt hrow5 (k * 3 + 2)
      clear hcon hb5 hva hA5 hinc hYd hCd hS hA6 hbl5 hwd
      generalize S.length = ls at *
      refine hK.out _ _ (hS5) ?_
      clear hK K
      try simp only [Act.put, List.setIfInBounds_toArray, List.set_cons_zero, List.set_cons_succ]
      repeat (first | (refine Seq.SeqE.skip (by rfl) ?_; (try simp only [Act.put, List.setIfInBounds_toArray, List.set_cons_zero, List.set_cons_succ])) | (refine Seq.SeqE.det ?_ (by rfl) (fun w hS => ?_) ?_; rotate_left; ((try dsimp only at hS); go_simp; (try rw [if_pos (by omega)]); with_reducible rfl); (try simp only [Act.put, List.setIfInBounds_toArray, List.set_cons_zero, List.set_cons_succ])))
      refine Seq.SeqE.last (by rfl) (by rfl) (fun K Q' hK => ?_)
      go_simp
      refine hK.out _ _ ?_
      clear hK K
      try simp only [Act.put, List.setIfInBounds_toArray, List.set_cons_zero, List.set_cons_succ]
      clear q0 q1 q2 r0 r1 r2 L1 L2
      have HX9 := Lib.hid (((hS5.1.far (g := g) (k * 3) (.int .u64 f) (by omega)).far (g := g) (k * 3 + 1) (.int .u64 t) (by omega)).far (g := g) (k * 3 + 2) (.slice (some ⟨a5, 0, none⟩) ls c5) (by omega))
      have HY9 := Lib.hid (((hY5.far (g := g) (k * 3) (.int .u64 f) (by omega)).far (g := g) (k * 3 + 1) (.int .u64 t) (by omega)).far (g := g) (k * 3 + 2) (.slice (some ⟨a5, 0, none⟩) ls c5) (by omega))
      have HC9 := Lib.hid hnx
      have hgw9 : w.heap.size ≤ g := by omega
      have HB9 := Lib.hid (Below.setCell (Below.setCell (Below.setCell hbd5 (p := ⟨g, k * 3, none⟩) hgw9 (.int .u64 f)) (p := ⟨g, k * 3 + 1, none⟩) hgw9 (.int .u64 t)) (p := ⟨g, k * 3 + 2, none⟩) hgw9 (.slice (some ⟨a5, 0, none⟩) ls c5))
      clear hS5 hY5 hC5 hbd5 hnx hrow5
      go_wp2
      go_roundw
      case rel => exact ⟨k + 1, _, _, _, by omega, by go_num, HX9.out, HY9.out, HC9, HB9.out⟩
      case measure => simp [intOf]; omega
    · obtain rfl : k = n := by omega
      obtain ⟨y0, y1⟩ := hY.c2
      have f0 := hY.free 0
      have f1 := hY.free 1
      clear hlt
      go_wp2
      refine bodyPost_ret (v := pragg e (some ⟨g, 0, none⟩) k cap) (by simp [results, Try.results18, go_sem, y0, y1]) rfl ⟨_, aa, bb, rfl, ?_, ?_, by rw [HL.out]; exact HC.out.2.2.2⟩
      · iterate 2 (refine Below.setCell ?_ (by simp) _)
        exact hbd
      · have hC9 := HC.out.keep (w' := (wr.setCell ⟨w.heap.size + 1, 0, none⟩ (.int .u64 e)).setCell ⟨w.heap.size + 1, 1, none⟩ (.slice (some ⟨g, 0, none⟩) k cap)) (fun x hx _ => by
          rw [Below.heap_setCell _ _ _ _ (by simp; omega), Below.heap_setCell _ _ _ _ (by simp; omega)])
        obtain ⟨h1, h2, _, _⟩ := hC9
        refine StpD.mono3 ⟨cs, by rw [HL.out]; exact h1, fun i hi => h2 i (by rw [← HL.out]; exact hi)⟩ (by omega)
end Go.Proofs.Ytghlediibhnloaa.Cur

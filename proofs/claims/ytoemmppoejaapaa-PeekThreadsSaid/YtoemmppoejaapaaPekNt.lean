/- As the seat's text, without what nothing here names. -/
import Derived.Test.YtoemmppoejaapaaPekKt
import Derived.Test.YtoemmppoejaapaaK25t
import Derived.Test.YtoemmppoejaapaaK35t
import Derived.Deep.Cut
import Derived.BigRegion
namespace Go.Proofs.Ytoemmppoejaapaa.Cur
open Go.RowKit Mem
set_option linter.unusedVariables false
set_option maxRecDepth 100000
def CT (p : Int) (l : List Lk) (T : TL) : Nat → TL
  | 0 => T
  | i + 1 => fun t => if t = (l.getD i lk0).1 then some (p :: (l.getD i lk0).2.take 3) else CT p l T i t
def CE (b : Int) (Ls : List (List Lk)) (T : TL) : Nat → TL
  | 0 => T
  | k + 1 => CT (b + k) (Ls.getD k []) (CE b Ls T k) (Ls.getD k []).length
def cgo (T : TL) (x : Lk) : Bool := match T x.1 with
  | none => true
  | some z => decide (x.2 = z)
def cok (p : Int) (l : List Lk) (T : TL) : Nat → Bool
  | 0 => true
  | i + 1 => cok p l T i && cgo (CT p l T i) (l.getD i lk0)
def coe (b : Int) (Ls : List (List Lk)) (T : TL) : Nat → Bool
  | 0 => true
  | k + 1 => coe b Ls T k && cok (b + k) (Ls.getD k []) (CE b Ls T k) (Ls.getD k []).length
def chS (mb cb : Nat) (x : Nat) : Prop := x = mb ∨ x = cb
def ChnI (B0 eb mb cb : Nat) (b : Int) (L : List En) (k i : Nat) (w : World) : Prop :=
  Blk w eb #[.map (some mb)] 61 ∧ Blk w cb #[.bool (coe b (lksOf L) tl0 k && cok (b + k) ((lksOf L).getD k []) (CE b (lksOf L) tl0 k) i)] 4 ∧
  (∃ nn D f, nn ≤ k * 100 + i ∧ MapV w mb nn D ∧ MV D f ∧ TlE w (fun x => B0 ≤ x ∧ ¬ chS mb cb x) f (CT (b + k) ((lksOf L).getD k []) (CE b (lksOf L) tl0 k) i))
theorem ChnI.below {B0 eb mb cb : Nat} {b : Int} {L : List En} (k i : Nat) (w w' : World) (h : ChnI B0 eb mb cb b L k i w) (hb : Below w.heap.size w w') : ChnI B0 eb mb cb b L k i w' := by
  obtain ⟨h1, h2, nn, D, f, q1, q2, q3, q4⟩ := h
  exact ⟨h1.below hb, h2.below hb, nn, D, f, q1, q2.below hb, q3, q4.below hb⟩
theorem ChnI.next {B0 eb mb cb : Nat} {b : Int} {L : List En} (hl : ∀ k, ((lksOf L).getD k []).length ≤ 100) (k : Nat) (w : World) (h : ChnI B0 eb mb cb b L k ((lksOf L).getD k []).length w) : ChnI B0 eb mb cb b L (k + 1) 0 w := by
  obtain ⟨h1, h2, nn, D, f, q1, q2, q3, q4⟩ := h
  have := hl k
  refine ⟨h1, ?_, nn, D, f, by omega, q2, q3, q4⟩
  have e : (coe b (lksOf L) tl0 (k + 1) && cok (b + (k + 1 : Nat)) ((lksOf L).getD (k + 1) []) (CE b (lksOf L) tl0 (k + 1)) 0) = (coe b (lksOf L) tl0 k && cok (b + k) ((lksOf L).getD k []) (CE b (lksOf L) tl0 k) ((lksOf L).getD k []).length) := Bool.and_true _
  rw [e]
  exact h2
set_option maxHeartbeats 4000000 in
theorem chained_step {B0 eb mb cb n : Nat} {b : Int} {P : Nat → Prop} {A0 : Option Addr} {L : List En} {hd : Hdr} (w w0 : World) (hz : Ens w0 P A0 n L) (hbw : Below w0.heap.size w0 w) (hl : ∀ k, ((lksOf L).getD k []).length ≤ 100) (hbl : ∀ k, blen 1000 ((lksOf L).getD k [])) (hn : n ≤ 1000) (b0 : 0 ≤ b)
    (hhd : ∀ k, k < n → ∃ m, hd k = ((hd k).1, ((lksOf L).getD k []).length, m) ∧ Lks w0 P (hd k).1 ((lksOf L).getD k []).length ((lksOf L).getD k []))
    (hB0 : B0 ≤ w.heap.size) (hsz : mb < w.heap.size ∧ cb < w.heap.size ∧ eb < w.heap.size ∧ w0.heap.size ≤ mb ∧ w0.heap.size ≤ cb) (hne : eb ≠ mb ∧ eb ≠ cb ∧ mb ≠ cb) :
    VisStep 44 #[.pointer (some ⟨eb, 0, none⟩), .pointer (some ⟨cb, 0, none⟩)] b n hd (chS mb cb) (ChnI B0 eb mb cb b L) w := by
  intro hbn k i g o wr hk hi hA hks hI
  obtain ⟨h1, h2, nn, D, f, q1, q2, q3, q4⟩ := hI
  obtain ⟨mm, e1, e2⟩ := hhd k hk
  obtain ⟨l, hll⟩ : ∃ l, (lksOf L).getD k [] = l := ⟨_, rfl⟩
  have hl9 := hl k
  have hb9 := (hbl k).at_ i
  rw [hll] at e1 e2 q4 h2 hl9 hb9
  have hi2 : i < l.length := by rw [e1] at hi; exact hi
  obtain ⟨g', o', e3, _, _, hc⟩ := e2.cells (by omega)
  rw [hA] at e3
  injection e3 with e3
  injection e3 with e4 e5 _
  subst e4 e5
  obtain ⟨s, z, a, lz', mz, he, hsb, hzl, hlm, hnl, hus, hzb, hblk, hsq, hcell⟩ := hc i hi2
  subst hzl
  have hbwr : Below w0.heap.size w0 wr := Ks.below hbw (Nat.le_refl _) hks (fun x hx => by rcases hx with rfl | rfl <;> omega)
  have hlook := fun w' (h : Below wr.heap.size wr w') => MapV.look2 (q2.below h) q3 hsb.1 hsb.2
  obtain ⟨T, hT⟩ : ∃ T, T = CT (b + k) l (CE b (lksOf L) tl0 k) i := ⟨_, rfl⟩
  rw [← hT] at q4
  have hcs := fun w' (h : Below wr.heap.size wr w') => hcell w' (hbwr.trans (h.mono hbwr.size))
  have hstp : CT (b + k) l (CE b (lksOf L) tl0 k) (i + 1) = fun t => if t = s then some (ext (b + k) (s, z)).2 else T t := by
    rw [hT]
    show (fun t => if t = (l.getD i lk0).1 then some ((b + k) :: (l.getD i lk0).2.take 3) else CT (b + k) l (CE b (lksOf L) tl0 k) i t) = _
    rw [he]; rfl
  have hck : cok (b + k) l (CE b (lksOf L) tl0 k) (i + 1) = (cok (b + k) l (CE b (lksOf L) tl0 k) i && cgo T (s, z)) := by
    show (cok (b + k) l (CE b (lksOf L) tl0 k) i && cgo (CT (b + k) l (CE b (lksOf L) tl0 k) i) (l.getD i lk0)) = _
    rw [← hT, he]
  obtain ⟨fl0, hfl⟩ : ∃ fl0, fl0 = (coe b (lksOf L) tl0 k && cok (b + k) l (CE b (lksOf L) tl0 k) i) := ⟨_, rfl⟩
  rw [← hfl] at h2
  have hfl2 : (coe b (lksOf L) tl0 k && cok (b + k) l (CE b (lksOf L) tl0 k) (i + 1)) = (fl0 && cgo T (s, z)) := by rw [hck, hfl, Bool.and_assoc]
  have HW := Lib.hid (And.intro h1 (And.intro h2 (And.intro q1 (And.intro q2 (And.intro q3 q4)))))
  have HE := Lib.hid (And.intro hsb (And.intro hzb (And.intro hlm (And.intro hnl hb9))))
  have HU := Lib.hid (hus.below hbwr)
  have HF2 := Lib.hid hfl2
  have HST := Lib.hid hstp
  have HLL := Lib.hid hll
  rw [he] at hb9
  have hzl9 : z.length ≤ 1000 := hb9
  have hex := fun w' (h : Below w0.heap.size w0 w') => lextend_any s a z.length mz z (b + k) w' hsb (hus.below h) hzb hlm hnl (by omega) (by omega) (by omega)
  unfold LOwPost at hex
  have HEX := Lib.hid hex
  have hL : ∀ w', Below wr.heap.size wr w' → (w'.cell? ⟨eb, 0, none⟩ = some (.map (some mb)) ∧ w'.cell? ⟨g, o + i * 2, none⟩ = some (.int .u64 s)) ∧ w'.cell? ⟨g, o + i * 2 + 1, none⟩ = some (.slice a z.length mz) :=
    fun w' h => ⟨⟨(h1.below h).c1, (hcs w' h).1⟩, (hcs w' h).2⟩
  obtain ⟨p, hp⟩ : ∃ p, p = b + (k : Int) := ⟨_, rfl⟩
  have HP := Lib.hid hp
  simp only [List.append_toArray, List.cons_append, List.nil_append]
  rw [← hp] at HEX ⊢
  have HLK := Lib.hid hlook
  have HCL := Lib.hid hcell
  have HKS := Lib.hid hks
  have HBWR := Lib.hid hbwr
  have HUS := Lib.hid hus
  clear h1 h2 q1 q2 q3 hcell hcs hstp hck hfl2 hfl hll hc hbl hl hhd hz e1 e2 hex hA he hb9 hzb hus hlm hnl hsq hblk hlook hp
  rcases hfs : f s with _ | u
  · have hT0 : T s = none := (q4 s).1 hfs
    have hLK : ∀ w', Below wr.heap.size wr w' → (Instr.lookup 61 (.map (some mb)) (.int .u64 s) true).run Try.prog w' = .ok (.tuple #[lkagg 0 none 0 0, .bool false]) w' := fun w' h => by
      have := HLK.out w' h
      rw [hfs] at this
      exact this
    have HCG : Hid (cgo T (s, z) = true) := Lib.hid (by unfold cgo; dsimp only; rw [hT0])
    clear q4 hfs
    go_enter Try.func44, Try.ntmps44
    go_wp2
    have hS : Below wr.heap.size wr wr.drew := below_one' _
    refine Seq.wp_region_seq (fun w' => Below wr.heap.size wr w') (by kernel_rfl) (by kernel_rfl) hS ?_
    generalize wr.drew = wd at *
    repeat (first | (refine Seq.Seq.skip (by rfl) ?_; (try simp only [Act.put, List.setIfInBounds_toArray, List.set_cons_zero, List.set_cons_succ])) | (refine Seq.Seq.det ?_ (by rfl) (fun w hS => ?_) ?_; rotate_left; ((try dsimp only at hS); go_simp; (try rw [if_pos (by omega)]); with_reducible rfl); (try simp only [Act.put, List.setIfInBounds_toArray, List.set_cons_zero, List.set_cons_succ])))
    refine Seq.Seq.make (by rfl) (by rfl) (fun K Q' hK => ?_)
    go_simp
    have hS2 := Below.trans hS ((below_one wd (.cells (lkc 0 none 0 0) 51)).mono (Below.size hS))
    have hX2 := Blk.new wd (lkc 0 none 0 0) 51
    have htb : wr.heap.size ≤ wd.heap.size := Below.size hS
    refine hK.out _ _ (hS2) ?_
    clear hK K
    try simp only [Act.put, List.setIfInBounds_toArray, List.set_cons_zero, List.set_cons_succ]
    generalize wd.alloc (.cells (lkc 0 none 0 0) 51) = wf at *
    generalize wd.heap.size = tb at *
    clear hS
    obtain ⟨t0, t1⟩ := hX2.c2
    obtain ⟨u0, u1⟩ := hX2.f2
    repeat (first | (refine Seq.Seq.skip (by rfl) ?_; (try simp only [Act.put, List.setIfInBounds_toArray, List.set_cons_zero, List.set_cons_succ])) | (refine Seq.Seq.det ?_ (by rfl) (fun w hS => ?_) ?_; rotate_left; ((try dsimp only at hS); go_simp; (try rw [if_pos (by omega)]); with_reducible rfl); (try simp only [Act.put, List.setIfInBounds_toArray, List.set_cons_zero, List.set_cons_succ])))
    refine Seq.Seq.make (by rfl) (by rfl) (fun K Q' hK => ?_)
    go_simp
    obtain ⟨hX3, hk3⟩ := set2k hX2 (.int .u64 0) (.slice none 0 0)
    have hS3 := Kp.below hS2 (Nat.le_refl _) hk3 htb
    clear hX2 hk3 hS2 t0 t1 u0 u1
    refine hK.out _ _ (hS3) ?_
    clear hK K
    try simp only [Act.put, List.setIfInBounds_toArray, List.set_cons_zero, List.set_cons_succ]
    generalize (wf.setCell ⟨tb, 0, none⟩ (.int .u64 0)).setCell ⟨tb, 1, none⟩ (.slice none 0 0) = w3 at *
    repeat (first | (refine Seq.Seq.skip (by rfl) ?_; (try simp only [Act.put, List.setIfInBounds_toArray, List.set_cons_zero, List.set_cons_succ])) | (refine Seq.Seq.det ?_ (by rfl) (fun w hS => ?_) ?_; rotate_left; ((try dsimp only at hS); go_simp; (try rw [if_pos (by omega)]); with_reducible rfl); (try simp only [Act.put, List.setIfInBounds_toArray, List.set_cons_zero, List.set_cons_succ])))
    refine Seq.Seq.nil ?_
    clear hL
    go_wp2
    have hS : Below w3.heap.size w3 w3.drew := below_one' _
    refine Seq.wp_region_seq (fun w' => Below w3.heap.size w3 w') (by kernel_rfl) (by kernel_rfl) hS ?_
    generalize w3.drew = w5 at *
    repeat (first | (refine Seq.Seq.skip (by rfl) ?_; (try simp only [Act.put, List.setIfInBounds_toArray, List.set_cons_zero, List.set_cons_succ])) | (refine Seq.Seq.det ?_ (by rfl) (fun w hS => ?_) ?_; rotate_left; ((try dsimp only at hS); go_simp; (try rw [if_pos (by omega)]); with_reducible rfl); (try simp only [Act.put, List.setIfInBounds_toArray, List.set_cons_zero, List.set_cons_succ])))
    refine Seq.Seq.nil ?_
    have hb35 : Below wr.heap.size wr w5 := hS3.trans (hS.mono hS3.size)
    have hb05 := HBWR.out.trans (hb35.mono HBWR.out.size)
    have h51 := HW.out.1.below hb35
    have h52 : Blk w5 cb #[.bool (fl0 && cgo T (s, z))] 4 := by rw [HCG.out, Bool.and_true]; exact HW.out.2.1.below hb35
    have hk5 := Ks.of_below (S := chS mb cb) hb35
    have hmb5 := hb35.block mb (World.ownsMap.lt HW.out.2.2.2.1)
    clear hS hS3 hb35 hX3
    have hMb : w5.heap[mb]? = wr.heap[mb]? := hmb5
    have hM5 := HW.out.2.2.2.1.block hMb
    have hT5 := HW.out.2.2.2.2.2.keep fun x hx hl => hk5.block x hl hx.2
    have hz5 : wr.heap.size ≤ w5.heap.size := hk5.size
    have L5 : ∀ w', Below w5.heap.size w5 w' → (w'.cell? ⟨eb, 0, none⟩ = some (.map (some mb)) ∧ w'.cell? ⟨g, o + i * 2, none⟩ = some (.int .u64 s)) ∧ w'.cell? ⟨g, o + i * 2 + 1, none⟩ = some (.slice a z.length mz) :=
      fun w' h => ⟨⟨(h51.below h).c1, (HCL.out w' (hb05.trans (h.mono hb05.size))).1⟩, (HCL.out w' (hb05.trans (h.mono hb05.size))).2⟩
    have H51 := Lib.hid h51
    have H52 := Lib.hid h52
    have HK5 := Lib.hid hk5
    have HM5 := Lib.hid hM5
    have HT5 := Lib.hid hT5
    have HB05 := Lib.hid hb05
    clear h51 h52 hk5 hM5 hT5 hMb hmb5 hb05
    go_wp2
    have hS : Below w5.heap.size w5 w5.drew := below_one' _
    refine Seq.wp_region_last (fun w' => Below w5.heap.size w5 w') (by kernel_rfl) (by kernel_rfl) (by kernel_rfl) hS ?_
    generalize w5.drew = wd5 at *
    repeat (first | (refine Seq.SeqE.skip (by rfl) ?_; (try simp only [Act.put, List.setIfInBounds_toArray, List.set_cons_zero, List.set_cons_succ])) | (refine Seq.SeqE.det ?_ (by rfl) (fun w hS => ?_) ?_; rotate_left; ((try dsimp only at hS); go_simp; (try rw [if_pos (by omega)]); with_reducible rfl); (try simp only [Act.put, List.setIfInBounds_toArray, List.set_cons_zero, List.set_cons_succ])))
    refine Seq.SeqE.make (by rfl) (by rfl) (fun K Q' hK => ?_)
    go_simp
    go_at_call 34
    refine (HEX.out _ (HB05.out.trans (Below.mono hS HB05.out.size))).mono ?_
    rintro en v1 ⟨A2, m2, rfl, hb2, hR2⟩
    have hz6 := Below.size hS
    have hR3 := LkE.mono hR2 (Q := fun x => B0 ≤ x ∧ ¬ chS mb cb x) fun x hx _ => by
      have h8 : wd5.heap.size ≤ x := hx
      exact ⟨by have := HKS.out.size; omega, fun h9 => by rcases h9 with h9 | h9 <;> (have := HKS.out.size; omega)⟩
    replace hS := Below.trans hS (hb2.mono (Below.size hS))
    have HR3 := Lib.hid hR3
    clear hb2 hR2 hR3
    refine hK.out _ _ (hS) ?_
    clear hK K
    try simp only [Act.put, List.setIfInBounds_toArray, List.set_cons_zero, List.set_cons_succ]
    repeat (first | (refine Seq.SeqE.skip (by rfl) ?_; (try simp only [Act.put, List.setIfInBounds_toArray, List.set_cons_zero, List.set_cons_succ])) | (refine Seq.SeqE.det ?_ (by rfl) (fun w hS => ?_) ?_; rotate_left; ((try dsimp only at hS); go_simp; (try rw [if_pos (by omega)]); with_reducible rfl); (try simp only [Act.put, List.setIfInBounds_toArray, List.set_cons_zero, List.set_cons_succ])))
    obtain ⟨w9, hrun, hm9, hf9, hg9⟩ := MapV.upd (HM5.out.below hS) HW.out.2.2.2.2.1 (by have := HW.out.2.2.1; simp only [maxLen]; omega) HE.out.1.1 HE.out.1.2 (lkagg (ext p (s, z)).1 A2 (ext p (s, z)).2.length m2)
    refine Seq.SeqE.last (by rfl) (by rfl) (fun K Q' hK => ?_)
    go_simp
    refine hK.out _ _ ?_
    clear hK K
    try simp only [Act.put, List.setIfInBounds_toArray, List.set_cons_zero, List.set_cons_succ]
    have hz7 := Below.size hS
    have hkp : ∀ x, x ≠ mb → x < w5.heap.size → w9.heap[x]? = w5.heap[x]? := fun x h2 hl => (hg9.block x (by omega) (fun e => h2 (by injection e))).trans (Below.block hS x hl)
    have hKS : Ks (chS mb cb) wr w9 := (HK5.out.trans (Ks.of_below hS)).trans (Ks.of_grown hg9 (fun x e => .inl (by injection e with e; exact e.symm)))
    have htl := (HT5.out.keep (fun x hx hl => hkp x (fun e => hx.2 (.inl e)) hl)).put (s := s) (A := A2) (m := m2) (z := (ext p (s, z)).2) (LkE.keep HR3.out fun x hx hl => hg9.block x hl (fun e => hx.2 (.inl (by injection e)))) (by show (p :: z.take 3).length ≤ 100000; simp; omega)
    have hfin : ChnI B0 eb mb cb b L k (i + 1) w9 := by
      refine ⟨(hkp eb hne.1 H51.out.lt).trans H51.out, ?_, nn + 1, _, _, by have := HW.out.2.2.1; omega, hm9, hf9, ?_⟩
      · rw [HLL.out, HF2.out]
        exact (hkp cb (fun e => hne.2.2 e.symm) H52.out.lt).trans H52.out
      · rw [HLL.out, HST.out, ← HP.out]
        exact htl
    have HFIN := Lib.hid (And.intro hfin hKS)
    clear hfin hKS hkp htl hm9 hf9 hg9 hrun
    go_wp2
    go_end0
    exact ⟨rfl, HFIN.out.1, HFIN.out.2⟩
  · obtain ⟨A1, m1, z1, rfl, hT1, hR1, hz1⟩ := (q4 s).2 u hfs
    have hLK : ∀ w', Below wr.heap.size wr w' → (Instr.lookup 61 (.map (some mb)) (.int .u64 s) true).run Try.prog w' = .ok (.tuple #[lkagg s A1 z1.length m1, .bool true]) w' := fun w' h => by
      have := HLK.out w' h
      rw [hfs] at this
      exact this
    obtain ⟨A0', m0', hc0', _, _, _, hus1, _⟩ := link_parts hR1
    obtain ⟨rfl, rfl⟩ : A1 = A0' ∧ m1 = m0' := by simpa using hc0'
    have HUS1 := Lib.hid (show Us wr A1 z1.length z1 from hus1)
    have HZ1 := Lib.hid hz1
    have HT1 := Lib.hid hT1
    clear q4 hfs hR1 hc0' hus1 hT1 hz1
    go_enter Try.func44, Try.ntmps44
    go_wp2
    have hS : Below wr.heap.size wr wr.drew := below_one' _
    refine Seq.wp_region_seq (fun w' => Below wr.heap.size wr w') (by kernel_rfl) (by kernel_rfl) hS ?_
    generalize wr.drew = wd at *
    repeat (first | (refine Seq.Seq.skip (by rfl) ?_; (try simp only [Act.put, List.setIfInBounds_toArray, List.set_cons_zero, List.set_cons_succ])) | (refine Seq.Seq.det ?_ (by rfl) (fun w hS => ?_) ?_; rotate_left; ((try dsimp only at hS); go_simp; (try rw [if_pos (by omega)]); with_reducible rfl); (try simp only [Act.put, List.setIfInBounds_toArray, List.set_cons_zero, List.set_cons_succ])))
    refine Seq.Seq.make (by rfl) (by rfl) (fun K Q' hK => ?_)
    go_simp
    have hS2 := Below.trans hS ((below_one wd (.cells (lkc 0 none 0 0) 51)).mono (Below.size hS))
    have hX2 := Blk.new wd (lkc 0 none 0 0) 51
    have htb : wr.heap.size ≤ wd.heap.size := Below.size hS
    refine hK.out _ _ (hS2) ?_
    clear hK K
    try simp only [Act.put, List.setIfInBounds_toArray, List.set_cons_zero, List.set_cons_succ]
    generalize wd.alloc (.cells (lkc 0 none 0 0) 51) = wf at *
    generalize wd.heap.size = tb at *
    clear hS
    obtain ⟨t0, t1⟩ := hX2.c2
    obtain ⟨u0, u1⟩ := hX2.f2
    repeat (first | (refine Seq.Seq.skip (by rfl) ?_; (try simp only [Act.put, List.setIfInBounds_toArray, List.set_cons_zero, List.set_cons_succ])) | (refine Seq.Seq.det ?_ (by rfl) (fun w hS => ?_) ?_; rotate_left; ((try dsimp only at hS); go_simp; (try rw [if_pos (by omega)]); with_reducible rfl); (try simp only [Act.put, List.setIfInBounds_toArray, List.set_cons_zero, List.set_cons_succ])))
    refine Seq.Seq.make (by rfl) (by rfl) (fun K Q' hK => ?_)
    go_simp
    obtain ⟨hX3, hk3⟩ := set2k hX2 (.int .u64 s) (.slice A1 z1.length m1)
    have hS3 := Kp.below hS2 (Nat.le_refl _) hk3 htb
    clear hX2 hk3 hS2 t0 t1 u0 u1
    refine hK.out _ _ (hS3) ?_
    clear hK K
    try simp only [Act.put, List.setIfInBounds_toArray, List.set_cons_zero, List.set_cons_succ]
    generalize (wf.setCell ⟨tb, 0, none⟩ (.int .u64 s)).setCell ⟨tb, 1, none⟩ (.slice A1 z1.length m1) = w3 at *
    repeat (first | (refine Seq.Seq.skip (by rfl) ?_; (try simp only [Act.put, List.setIfInBounds_toArray, List.set_cons_zero, List.set_cons_succ])) | (refine Seq.Seq.det ?_ (by rfl) (fun w hS => ?_) ?_; rotate_left; ((try dsimp only at hS); go_simp; (try rw [if_pos (by omega)]); with_reducible rfl); (try simp only [Act.put, List.setIfInBounds_toArray, List.set_cons_zero, List.set_cons_succ])))
    refine Seq.Seq.nil ?_
    clear hL
    go_wp2
    have hS : Below w3.heap.size w3 w3.drew := below_one' _
    refine Seq.wp_region_seq (fun w' => Below w3.heap.size w3 w') (by kernel_rfl) (by kernel_rfl) hS ?_
    have LB : ∀ w', Below w3.heap.size w3 w' → w'.cell? ⟨g, o + i * 2 + 1, none⟩ = some (.slice a z.length mz) ∧ w'.cell? ⟨tb, 1, none⟩ = some (.slice A1 z1.length m1) := fun w' h =>
      ⟨(HCL.out w' (HBWR.out.trans ((hS3.trans (h.mono hS3.size)).mono HBWR.out.size))).2, (hX3.below h).c2.2⟩
    generalize w3.drew = wd3 at *
    repeat (first | (refine Seq.Seq.skip (by rfl) ?_; (try simp only [Act.put, List.setIfInBounds_toArray, List.set_cons_zero, List.set_cons_succ])) | (refine Seq.Seq.det ?_ (by rfl) (fun w hS => ?_) ?_; rotate_left; ((try dsimp only at hS); go_simp; (try rw [if_pos (by omega)]); with_reducible rfl); (try simp only [Act.put, List.setIfInBounds_toArray, List.set_cons_zero, List.set_cons_succ])))
    refine Seq.Seq.make (by rfl) (by rfl) (fun K Q' hK => ?_)
    go_simp
    go_at_call 45
    have hb3 := hS3.trans (hS.mono hS3.size)
    refine (sequal_any a A1 z.length z1.length mz m1 z z1 _ (HUS.out.below (HBWR.out.trans (hb3.mono HBWR.out.size))) (HUS1.out.below hb3) (by omega) (by have := HZ1.out; omega)).mono ?_
    rintro en v3 ⟨rfl, hbv⟩
    replace hS := Below.trans hS (hbv.mono (Below.size hS))
    clear hb3 hbv
    by_cases heq : z = z1
    · rw [decide_eq_true heq]
      have HCG : Hid (cgo T (s, z) = true) := Lib.hid (by unfold cgo; dsimp only; rw [HT1.out]; exact decide_eq_true heq)
      clear heq
      refine hK.out _ _ (hS) ?_
      clear hK K
      try simp only [Act.put, List.setIfInBounds_toArray, List.set_cons_zero, List.set_cons_succ]
      repeat (first | (refine Seq.Seq.skip (by rfl) ?_; (try simp only [Act.put, List.setIfInBounds_toArray, List.set_cons_zero, List.set_cons_succ])) | (refine Seq.Seq.det ?_ (by rfl) (fun w hS => ?_) ?_; rotate_left; ((try dsimp only at hS); go_simp; (try rw [if_pos (by omega)]); with_reducible rfl); (try simp only [Act.put, List.setIfInBounds_toArray, List.set_cons_zero, List.set_cons_succ])))
      refine Seq.Seq.nil ?_
      generalize v3 = w5 at *
      have hb35 : Below wr.heap.size wr w5 := hS3.trans (hS.mono hS3.size)
      have hb05 := HBWR.out.trans (hb35.mono HBWR.out.size)
      have h51 := HW.out.1.below hb35
      have h52 : Blk w5 cb #[.bool (fl0 && cgo T (s, z))] 4 := by rw [HCG.out, Bool.and_true]; exact HW.out.2.1.below hb35
      have hk5 := Ks.of_below (S := chS mb cb) hb35
      have hmb5 := hb35.block mb (World.ownsMap.lt HW.out.2.2.2.1)
      clear hS hS3 hb35 hX3 LB
      have hMb : w5.heap[mb]? = wr.heap[mb]? := hmb5
      have hM5 := HW.out.2.2.2.1.block hMb
      have hT5 := HW.out.2.2.2.2.2.keep fun x hx hl => hk5.block x hl hx.2
      have hz5 : wr.heap.size ≤ w5.heap.size := hk5.size
      have L5 : ∀ w', Below w5.heap.size w5 w' → (w'.cell? ⟨eb, 0, none⟩ = some (.map (some mb)) ∧ w'.cell? ⟨g, o + i * 2, none⟩ = some (.int .u64 s)) ∧ w'.cell? ⟨g, o + i * 2 + 1, none⟩ = some (.slice a z.length mz) :=
        fun w' h => ⟨⟨(h51.below h).c1, (HCL.out w' (hb05.trans (h.mono hb05.size))).1⟩, (HCL.out w' (hb05.trans (h.mono hb05.size))).2⟩
      have H51 := Lib.hid h51
      have H52 := Lib.hid h52
      have HK5 := Lib.hid hk5
      have HM5 := Lib.hid hM5
      have HT5 := Lib.hid hT5
      have HB05 := Lib.hid hb05
      clear h51 h52 hk5 hM5 hT5 hMb hmb5 hb05
      go_wp2
      have hS : Below w5.heap.size w5 w5.drew := below_one' _
      refine Seq.wp_region_last (fun w' => Below w5.heap.size w5 w') (by kernel_rfl) (by kernel_rfl) (by kernel_rfl) hS ?_
      generalize w5.drew = wd5 at *
      repeat (first | (refine Seq.SeqE.skip (by rfl) ?_; (try simp only [Act.put, List.setIfInBounds_toArray, List.set_cons_zero, List.set_cons_succ])) | (refine Seq.SeqE.det ?_ (by rfl) (fun w hS => ?_) ?_; rotate_left; ((try dsimp only at hS); go_simp; (try rw [if_pos (by omega)]); with_reducible rfl); (try simp only [Act.put, List.setIfInBounds_toArray, List.set_cons_zero, List.set_cons_succ])))
      refine Seq.SeqE.make (by rfl) (by rfl) (fun K Q' hK => ?_)
      go_simp
      go_at_call 34
      refine (HEX.out _ (HB05.out.trans (Below.mono hS HB05.out.size))).mono ?_
      rintro en v1 ⟨A2, m2, rfl, hb2, hR2⟩
      have hz6 := Below.size hS
      have hR3 := LkE.mono hR2 (Q := fun x => B0 ≤ x ∧ ¬ chS mb cb x) fun x hx _ => by
        have h8 : wd5.heap.size ≤ x := hx
        exact ⟨by have := HKS.out.size; omega, fun h9 => by rcases h9 with h9 | h9 <;> (have := HKS.out.size; omega)⟩
      replace hS := Below.trans hS (hb2.mono (Below.size hS))
      have HR3 := Lib.hid hR3
      clear hb2 hR2 hR3
      refine hK.out _ _ (hS) ?_
      clear hK K
      try simp only [Act.put, List.setIfInBounds_toArray, List.set_cons_zero, List.set_cons_succ]
      repeat (first | (refine Seq.SeqE.skip (by rfl) ?_; (try simp only [Act.put, List.setIfInBounds_toArray, List.set_cons_zero, List.set_cons_succ])) | (refine Seq.SeqE.det ?_ (by rfl) (fun w hS => ?_) ?_; rotate_left; ((try dsimp only at hS); go_simp; (try rw [if_pos (by omega)]); with_reducible rfl); (try simp only [Act.put, List.setIfInBounds_toArray, List.set_cons_zero, List.set_cons_succ])))
      obtain ⟨w9, hrun, hm9, hf9, hg9⟩ := MapV.upd (HM5.out.below hS) HW.out.2.2.2.2.1 (by have := HW.out.2.2.1; simp only [maxLen]; omega) HE.out.1.1 HE.out.1.2 (lkagg (ext p (s, z)).1 A2 (ext p (s, z)).2.length m2)
      refine Seq.SeqE.last (by rfl) (by rfl) (fun K Q' hK => ?_)
      go_simp
      refine hK.out _ _ ?_
      clear hK K
      try simp only [Act.put, List.setIfInBounds_toArray, List.set_cons_zero, List.set_cons_succ]
      have hz7 := Below.size hS
      have hkp : ∀ x, x ≠ mb → x < w5.heap.size → w9.heap[x]? = w5.heap[x]? := fun x h2 hl => (hg9.block x (by omega) (fun e => h2 (by injection e))).trans (Below.block hS x hl)
      have hKS : Ks (chS mb cb) wr w9 := (HK5.out.trans (Ks.of_below hS)).trans (Ks.of_grown hg9 (fun x e => .inl (by injection e with e; exact e.symm)))
      have htl := (HT5.out.keep (fun x hx hl => hkp x (fun e => hx.2 (.inl e)) hl)).put (s := s) (A := A2) (m := m2) (z := (ext p (s, z)).2) (LkE.keep HR3.out fun x hx hl => hg9.block x hl (fun e => hx.2 (.inl (by injection e)))) (by show (p :: z.take 3).length ≤ 100000; simp; omega)
      have hfin : ChnI B0 eb mb cb b L k (i + 1) w9 := by
        refine ⟨(hkp eb hne.1 H51.out.lt).trans H51.out, ?_, nn + 1, _, _, by have := HW.out.2.2.1; omega, hm9, hf9, ?_⟩
        · rw [HLL.out, HF2.out]
          exact (hkp cb (fun e => hne.2.2 e.symm) H52.out.lt).trans H52.out
        · rw [HLL.out, HST.out, ← HP.out]
          exact htl
      have HFIN := Lib.hid (And.intro hfin hKS)
      clear hfin hKS hkp htl hm9 hf9 hg9 hrun
      go_wp2
      go_end0
      exact ⟨rfl, HFIN.out.1, HFIN.out.2⟩
    · rw [decide_eq_false heq]
      have HCG : Hid (cgo T (s, z) = false) := Lib.hid (by unfold cgo; dsimp only; rw [HT1.out]; exact decide_eq_false heq)
      clear heq
      refine hK.out _ _ (hS) ?_
      clear hK K
      try simp only [Act.put, List.setIfInBounds_toArray, List.set_cons_zero, List.set_cons_succ]
      repeat (first | (refine Seq.Seq.skip (by rfl) ?_; (try simp only [Act.put, List.setIfInBounds_toArray, List.set_cons_zero, List.set_cons_succ])) | (refine Seq.Seq.det ?_ (by rfl) (fun w hS => ?_) ?_; rotate_left; ((try dsimp only at hS); go_simp; (try rw [if_pos (by omega)]); with_reducible rfl); (try simp only [Act.put, List.setIfInBounds_toArray, List.set_cons_zero, List.set_cons_succ])))
      refine Seq.Seq.nil ?_
      have hb35 : Below wr.heap.size wr v3 := hS3.trans (hS.mono hS3.size)
      have hcb := HW.out.2.1.below hb35
      have y0 := hcb.c1
      have y1 := hcb.free 0
      have hcb2 := hcb.set 0 (.bool false)
      have hk5 : Ks (chS mb cb) wr (v3.setCell ⟨cb, 0, none⟩ (.bool false)) := (Ks.of_below hb35).trans (Ks.setCell v3 cb 0 _ (.inr rfl))
      have h51 : Blk (v3.setCell ⟨cb, 0, none⟩ (.bool false)) eb #[.map (some mb)] 61 := (HW.out.1.below hb35).far 0 _ hne.2.1
      have hmb5 : (v3.setCell ⟨cb, 0, none⟩ (.bool false)).heap[mb]? = wr.heap[mb]? := (Below.heap_setCell v3 ⟨cb, 0, none⟩ (.bool false) mb hne.2.2).trans (hb35.block mb (World.ownsMap.lt HW.out.2.2.2.1))
      have hb05 : Below w0.heap.size w0 (v3.setCell ⟨cb, 0, none⟩ (.bool false)) := Ks.below HBWR.out (Nat.le_refl _) hk5 (fun x hx => by rcases hx with rfl | rfl <;> omega)
      have h52 : Blk (v3.setCell ⟨cb, 0, none⟩ (.bool false)) cb #[.bool (fl0 && cgo T (s, z))] 4 := by rw [HCG.out, Bool.and_false]; exact hcb2
      clear hS hS3 hX3 LB hcb hcb2 hb35
      go_upto_region 3 with (fail)
      clear y0 y1
      generalize v3.setCell ⟨cb, 0, none⟩ (.bool false) = w5 at *
      have hMb : w5.heap[mb]? = wr.heap[mb]? := hmb5
      have hM5 := HW.out.2.2.2.1.block hMb
      have hT5 := HW.out.2.2.2.2.2.keep fun x hx hl => hk5.block x hl hx.2
      have hz5 : wr.heap.size ≤ w5.heap.size := hk5.size
      have L5 : ∀ w', Below w5.heap.size w5 w' → (w'.cell? ⟨eb, 0, none⟩ = some (.map (some mb)) ∧ w'.cell? ⟨g, o + i * 2, none⟩ = some (.int .u64 s)) ∧ w'.cell? ⟨g, o + i * 2 + 1, none⟩ = some (.slice a z.length mz) :=
        fun w' h => ⟨⟨(h51.below h).c1, (HCL.out w' (hb05.trans (h.mono hb05.size))).1⟩, (HCL.out w' (hb05.trans (h.mono hb05.size))).2⟩
      have H51 := Lib.hid h51
      have H52 := Lib.hid h52
      have HK5 := Lib.hid hk5
      have HM5 := Lib.hid hM5
      have HT5 := Lib.hid hT5
      have HB05 := Lib.hid hb05
      clear h51 h52 hk5 hM5 hT5 hMb hmb5 hb05
      go_wp2
      have hS : Below w5.heap.size w5 w5.drew := below_one' _
      refine Seq.wp_region_last (fun w' => Below w5.heap.size w5 w') (by kernel_rfl) (by kernel_rfl) (by kernel_rfl) hS ?_
      generalize w5.drew = wd5 at *
      repeat (first | (refine Seq.SeqE.skip (by rfl) ?_; (try simp only [Act.put, List.setIfInBounds_toArray, List.set_cons_zero, List.set_cons_succ])) | (refine Seq.SeqE.det ?_ (by rfl) (fun w hS => ?_) ?_; rotate_left; ((try dsimp only at hS); go_simp; (try rw [if_pos (by omega)]); with_reducible rfl); (try simp only [Act.put, List.setIfInBounds_toArray, List.set_cons_zero, List.set_cons_succ])))
      refine Seq.SeqE.make (by rfl) (by rfl) (fun K Q' hK => ?_)
      go_simp
      go_at_call 34
      refine (HEX.out _ (HB05.out.trans (Below.mono hS HB05.out.size))).mono ?_
      rintro en v1 ⟨A2, m2, rfl, hb2, hR2⟩
      have hz6 := Below.size hS
      have hR3 := LkE.mono hR2 (Q := fun x => B0 ≤ x ∧ ¬ chS mb cb x) fun x hx _ => by
        have h8 : wd5.heap.size ≤ x := hx
        exact ⟨by have := HKS.out.size; omega, fun h9 => by rcases h9 with h9 | h9 <;> (have := HKS.out.size; omega)⟩
      replace hS := Below.trans hS (hb2.mono (Below.size hS))
      have HR3 := Lib.hid hR3
      clear hb2 hR2 hR3
      refine hK.out _ _ (hS) ?_
      clear hK K
      try simp only [Act.put, List.setIfInBounds_toArray, List.set_cons_zero, List.set_cons_succ]
      repeat (first | (refine Seq.SeqE.skip (by rfl) ?_; (try simp only [Act.put, List.setIfInBounds_toArray, List.set_cons_zero, List.set_cons_succ])) | (refine Seq.SeqE.det ?_ (by rfl) (fun w hS => ?_) ?_; rotate_left; ((try dsimp only at hS); go_simp; (try rw [if_pos (by omega)]); with_reducible rfl); (try simp only [Act.put, List.setIfInBounds_toArray, List.set_cons_zero, List.set_cons_succ])))
      obtain ⟨w9, hrun, hm9, hf9, hg9⟩ := MapV.upd (HM5.out.below hS) HW.out.2.2.2.2.1 (by have := HW.out.2.2.1; simp only [maxLen]; omega) HE.out.1.1 HE.out.1.2 (lkagg (ext p (s, z)).1 A2 (ext p (s, z)).2.length m2)
      refine Seq.SeqE.last (by rfl) (by rfl) (fun K Q' hK => ?_)
      go_simp
      refine hK.out _ _ ?_
      clear hK K
      try simp only [Act.put, List.setIfInBounds_toArray, List.set_cons_zero, List.set_cons_succ]
      have hz7 := Below.size hS
      have hkp : ∀ x, x ≠ mb → x < w5.heap.size → w9.heap[x]? = w5.heap[x]? := fun x h2 hl => (hg9.block x (by omega) (fun e => h2 (by injection e))).trans (Below.block hS x hl)
      have hKS : Ks (chS mb cb) wr w9 := (HK5.out.trans (Ks.of_below hS)).trans (Ks.of_grown hg9 (fun x e => .inl (by injection e with e; exact e.symm)))
      have htl := (HT5.out.keep (fun x hx hl => hkp x (fun e => hx.2 (.inl e)) hl)).put (s := s) (A := A2) (m := m2) (z := (ext p (s, z)).2) (LkE.keep HR3.out fun x hx hl => hg9.block x hl (fun e => hx.2 (.inl (by injection e)))) (by show (p :: z.take 3).length ≤ 100000; simp; omega)
      have hfin : ChnI B0 eb mb cb b L k (i + 1) w9 := by
        refine ⟨(hkp eb hne.1 H51.out.lt).trans H51.out, ?_, nn + 1, _, _, by have := HW.out.2.2.1; omega, hm9, hf9, ?_⟩
        · rw [HLL.out, HF2.out]
          exact (hkp cb (fun e => hne.2.2 e.symm) H52.out.lt).trans H52.out
        · rw [HLL.out, HST.out, ← HP.out]
          exact htl
      have HFIN := Lib.hid (And.intro hfin hKS)
      clear hfin hKS hkp htl hm9 hf9 hg9 hrun
      go_wp2
      go_end0
      exact ⟨rfl, HFIN.out.1, HFIN.out.2⟩
end Go.Proofs.Ytoemmppoejaapaa.Cur

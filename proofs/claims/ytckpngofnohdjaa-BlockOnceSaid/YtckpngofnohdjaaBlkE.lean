/- Blocks: Read, ReadLoose, Get, GetLoose. -/
import Derived.Test.YtckpngofnohdjaaBlkD
namespace Go.Proofs.Ytckpngofnohdjaa.Cur
open Go.RowKit Go.Shelf Mem
attribute [local go_sem] Oper.semAt_some
set_option linter.unusedVariables false
set_option maxRecDepth 100000


theorem kRead_any (b : Nat) (a : Option Addr) (k m : Nat) (z : List Int) (p c q most : Int) (w : World) (h : IsRd w b (.slice a k m) p c q) (hz : Bs w a k z) (h0 : 0 ≤ p) (h1 : p ≤ k) (hm : k ≤ m) (hk : k ≤ 10000) (hby : ∀ x ∈ z, 0 ≤ x ∧ x < 256) (hmo : most ≤ 10000) (hq : c = 0 → q = 0) :
    Calls Try.prog 29 #[.pointer (some ⟨b, 0, none⟩), .int .i64 most] w (KrdPost b (.slice a k m) k (bks z most p) p c q w) := by
  have hR := kread_strict b a k m z p c q most w h hz h0 h1 hm hk hby hmo hq
  unfold KrdPost at hR
  clear h hz hby hq
  go_enter Try.func29, Try.ntmps29
  go_wp2_with fail
  with_reducible refine hR.mono ?_
  rintro e w1 ⟨v, l, p', c', q', rfl, ho, hb⟩
  obtain ⟨Av, cv, rfl⟩ := ho.slice
  have HO := Lib.hid (And.intro ho hb)
  clear hR ho hb
  go_wp2
  go_ret
  exact ⟨_, l, p', c', q', rfl, HO.out⟩

/-- What ReadLoose hands back. -/
def KRlPost (b : Nat) (s : Value) (k : Nat) (z : List Int) (most p c q : Int) (w : World) (e : Ending) (w' : World) : Prop :=
  ∃ v l p' c' q', e = .returned (.tuple #[v, .bool (decide (c' = 0) && decide (piece z p.toNat p'.toNat = bkb l))]) ∧ Own w' w.heap.size v l ∧ (∀ x ∈ l, 0 ≤ x ∧ x < 256) ∧ l.length ≤ 10000 ∧ Kp b w w' ∧ IsRd w' b s p' c' q' ∧ St [] k (bk z most p) p c q l p' c' q'
set_option maxHeartbeats 4000000 in
theorem kReadLoose_any (b : Nat) (a : Option Addr) (k m : Nat) (z : List Int) (p c q most : Int) (w : World) (h : IsRd w b (.slice a k m) p c q) (hz : Bs w a k z) (h0 : 0 ≤ p) (h1 : p ≤ k) (hm : k ≤ m) (hk : k ≤ 10000) (hby : ∀ x ∈ z, 0 ≤ x ∧ x < 256) (hmo : most ≤ 10000) (hq : c = 0 → q = 0) :
    Calls Try.prog 32 #[.pointer (some ⟨b, 0, none⟩), .int .i64 most] w (KRlPost b (.slice a k m) k z most p c q w) := by
  have hbN := below_one w (.cells #[.bool false] 70)
  have hbl : b < w.heap.size := Blk.lt h
  have hR := kread_loose b w.heap.size a k m z p c q most (w.alloc (.cells #[.bool false] 70)) (h.below hbN) (Blk.new w #[.bool false] 70) (by omega) (hz.below hbN) h0 h1 hm hk hby hmo hq
  unfold KrlPost at hR
  have HBN := Lib.hid hbN
  clear h hz hby hq hbN
  go_enter Try.func32, Try.ntmps32
  go_wp2_with fail
  with_reducible refine hR.mono ?_
  rintro e w1 ⟨v, l, p', c', q', f, rfl, ho, hlb, hll, hk1, hr1, hn1, hs1, hf⟩
  obtain ⟨Av, cv, rfl⟩ := ho.slice
  have HO := Lib.hid (own_base0 ho HBN.out.size)
  have HS := Lib.hid hs1
  have HF := Lib.hid hf
  have HLB := Lib.hid hlb
  have hkb : Kp b w w1 := by
    have h1 := HBN.out
    refine ⟨hk1.os.trans h1.os, hk1.tape.trans h1.tape, hk1.output.trans h1.output, Nat.le_trans h1.size hk1.size, fun j hj hne => ?_⟩
    exact (hk1.block j (Nat.lt_of_lt_of_le hj h1.size) (by rintro (e | e) <;> omega)).trans (h1.block j hj)
  have HKB := Lib.hid hkb
  obtain ⟨ll, hll2⟩ : ∃ ll, ll = l.length := ⟨_, rfl⟩
  rw [← hll2] at hll ⊢
  have HLL := Lib.hid hll2
  have hS : Blk w1.drew w.heap.size #[.bool f] 70 ∧ True := ⟨hn1, trivial⟩
  have L : ∀ w', (Blk w' w.heap.size #[.bool f] 70 ∧ True) → w'.cell? ⟨w.heap.size, 0, none⟩ = some (.bool f) := fun w' h => h.1.c1
  have HR1 := Lib.hid (hr1.drewN 1)
  clear hR ho hlb hk1 hr1 hn1 hs1 hf hkb hll2
  by_cases hc : c' = 0
  · subst hc
    have HFR : Hid (Value.bool (!f) = Value.bool (decide ((0 : Int) = 0) && decide (piece z p.toNat p'.toNat = bkb l))) := Lib.hid (by
      rw [HF.out]
      cases decide (piece z p.toNat p'.toNat = bkb l) <;> rfl)
    go_wp2_with fail
    refine Seq.wp_region_seq (fun w' => Blk w' w.heap.size #[.bool f] 70 ∧ True) (by kernel_rfl) (by kernel_rfl) hS ?_
    repeat (first | (refine Seq.Seq.skip (by rfl) ?_; (try simp only [Act.put, List.setIfInBounds_toArray, List.set_cons_zero, List.set_cons_succ])) | (refine Seq.Seq.det ?_ (by rfl) (fun w hS => ?_) ?_; rotate_left; ((try dsimp only at hS); go_simp; (try rw [if_pos (by omega)]); with_reducible rfl); (try simp only [Act.put, List.setIfInBounds_toArray, List.set_cons_zero, List.set_cons_succ])))
    refine Seq.Seq.make (by rfl) (by rfl) (fun K Q' hK => ?_)
    go_simp
    go_at_call 41
    refine (good_any _ _ _ _ _ _ HR1.out).mono ?_
    rintro e w2 ⟨rfl, hb2⟩
    have hS2 : Blk w2 w.heap.size #[.bool f] 70 ∧ True := ⟨hS.1.below hb2, trivial⟩
    have HB2 := Lib.hid ((below_one' w1).trans (hb2.mono (below_one' w1).size))
    have HR2 := Lib.hid (HR1.out.below hb2)
    clear hb2
    refine hK.out _ _ (hS2) ?_
    clear hK K
    try simp only [Act.put, List.setIfInBounds_toArray, List.set_cons_zero, List.set_cons_succ]
    repeat (first | (refine Seq.Seq.skip (by rfl) ?_; (try simp only [Act.put, List.setIfInBounds_toArray, List.set_cons_zero, List.set_cons_succ])) | (refine Seq.Seq.det ?_ (by rfl) (fun w hS => ?_) ?_; rotate_left; ((try dsimp only at hS); go_simp; (try rw [if_pos (by omega)]); with_reducible rfl); (try simp only [Act.put, List.setIfInBounds_toArray, List.set_cons_zero, List.set_cons_succ])))
    refine Seq.Seq.nil ?_
    clear L hS hS2
    go_wp2
    go_ret2
    refine ⟨.slice Av ll cv, l, p', 0, q', ?_, by rw [HLL.out]; exact own_below HO.out HB2.out, HLB.out, by rw [← HLL.out]; exact hll, HKB.out.trans (Kp.of_below HB2.out), HR2.out, HS.out⟩
    show Ending.returned (.tuple #[.slice Av ll cv, .bool (!f)]) = _
    exact congrArg (fun u => Ending.returned (.tuple #[.slice Av ll cv, u])) HFR.out
  · have hcb : (c' == 0) = false := by simpa using hc
    have HFR : Hid (Value.bool false = Value.bool (decide (c' = 0) && decide (piece z p.toNat p'.toNat = bkb l))) := Lib.hid (by rw [decide_eq_false hc]; rfl)
    clear hc
    go_wp2_with fail
    refine Seq.wp_region_seq (fun w' => Blk w' w.heap.size #[.bool f] 70 ∧ True) (by kernel_rfl) (by kernel_rfl) hS ?_
    repeat (first | (refine Seq.Seq.skip (by rfl) ?_; (try simp only [Act.put, List.setIfInBounds_toArray, List.set_cons_zero, List.set_cons_succ])) | (refine Seq.Seq.det ?_ (by rfl) (fun w hS => ?_) ?_; rotate_left; ((try dsimp only at hS); go_simp; (try rw [if_pos (by omega)]); with_reducible rfl); (try simp only [Act.put, List.setIfInBounds_toArray, List.set_cons_zero, List.set_cons_succ])))
    refine Seq.Seq.make (by rfl) (by rfl) (fun K Q' hK => ?_)
    go_simp
    go_at_call 41
    refine (good_any _ _ _ _ _ _ HR1.out).mono ?_
    rintro e w2 ⟨rfl, hb2⟩
    rw [hcb]
    have hS2 : Blk w2 w.heap.size #[.bool f] 70 ∧ True := ⟨hS.1.below hb2, trivial⟩
    have HB2 := Lib.hid ((below_one' w1).trans (hb2.mono (below_one' w1).size))
    have HR2 := Lib.hid (HR1.out.below hb2)
    clear hb2
    refine hK.out _ _ (hS2) ?_
    clear hK K
    try simp only [Act.put, List.setIfInBounds_toArray, List.set_cons_zero, List.set_cons_succ]
    repeat (first | (refine Seq.Seq.skip (by rfl) ?_; (try simp only [Act.put, List.setIfInBounds_toArray, List.set_cons_zero, List.set_cons_succ])) | (refine Seq.Seq.det ?_ (by rfl) (fun w hS => ?_) ?_; rotate_left; ((try dsimp only at hS); go_simp; (try rw [if_pos (by omega)]); with_reducible rfl); (try simp only [Act.put, List.setIfInBounds_toArray, List.set_cons_zero, List.set_cons_succ])))
    refine Seq.Seq.nil ?_
    clear L hS hS2
    go_wp2
    go_ret2
    refine ⟨.slice Av ll cv, l, p', c', q', ?_, by rw [HLL.out]; exact own_below HO.out HB2.out, HLB.out, by rw [← HLL.out]; exact hll, HKB.out.trans (Kp.of_below HB2.out), HR2.out, HS.out⟩
    exact congrArg (fun u => Ending.returned (.tuple #[.slice Av ll cv, u])) HFR.out

theorem ksize_rd (b : Nat) (s : Value) (p c q : Int) (w : World) (h : IsRd w b s p c q) :
    Calls Try.prog 30 #[.pointer (some ⟨b, 0, none⟩)] w fun e w' => e = .returned (.int .i64 (if c = 0 then p else 0)) ∧ Below w.heap.size w w' := by
  by_cases hc : c = 0
  · subst hc
    rw [if_pos rfl]
    go_enter Try.func30, Try.ntmps30
    go_wp2_with fail
    refine (good_any _ _ _ _ _ _ h).mono ?_
    rintro e w1 ⟨rfl, hb1⟩
    have h1 := h.below hb1
    have HB := Lib.hid hb1
    clear h hb1
    go_wp2_with fail
    refine (at_any _ _ _ _ _ _ h1).mono ?_
    rintro e w2 ⟨rfl, rfl⟩
    go_wp2
    go_ret
    exact ⟨rfl, HB.out⟩
  · rw [if_neg hc]
    have hcb : (c == 0) = false := by simpa using hc
    clear hc
    go_enter Try.func30, Try.ntmps30
    go_wp2_with fail
    refine (good_any _ _ _ _ _ _ h).mono ?_
    rintro e w1 ⟨rfl, hb1⟩
    rw [hcb]
    have HB := Lib.hid hb1
    clear h hb1
    go_wp2
    go_ret
    exact ⟨rfl, HB.out⟩

/-- What a reader read, as Get tells it. -/
def gvl (G : Rs (List Int)) : List Int := if G.2.2.1 = 0 then G.1 else []
def gpl (G : Rs (List Int)) : Int := if G.2.2.1 = 0 then G.2.1 else 0
def gq (G : Rs (List Int)) : Int := if G.2.2.1 = 0 then 0 else G.2.2.2
theorem St.get {k : Nat} {G : Rs (List Int)} {l : List Int} {p' c' q' : Int} (h : St [] k G 0 0 0 l p' c' q') : c' = G.2.2.1 ∧ q' = gq G ∧ l = gvl G ∧ (if c' = 0 then p' else 0) = gpl G := by
  unfold gvl gpl gq
  obtain ⟨_, _, ⟨h0, _⟩ | ⟨_, h1, rfl, rfl, rfl, rfl⟩ | ⟨_, h1, rfl, rfl, rfl⟩⟩ := h
  · exact absurd rfl h0
  · rw [if_pos h1, if_pos h1, if_pos h1]
    exact ⟨h1.symm, rfl, rfl, if_pos rfl⟩
  · rw [if_neg h1, if_neg h1, if_neg h1]
    refine ⟨rfl, rfl, rfl, ?_⟩
    rw [if_neg h1]
def KGetPost (G : Rs (List Int)) (w : World) (e : Ending) (w' : World) : Prop :=
  ∃ v, e = .returned (.tuple #[v, .int .i64 (gpl G), .agg #[.int .i64 G.2.2.1, .int .i64 (gq G)]]) ∧ Own w' w.heap.size v (gvl G) ∧ Below w.heap.size w w' ∧ (gvl G).length ≤ 10000 ∧ ∀ x ∈ gvl G, 0 ≤ x ∧ x < 256
set_option maxHeartbeats 4000000 in
theorem kget_any {w : World} (a : Option Addr) (k m : Nat) {z : List Int} (most : Int) (hz : Bs w a k z) (hm : k ≤ m) (hk : k ≤ 10000) (hby : ∀ x ∈ z, 0 ≤ x ∧ x < 256) (hmo : most ≤ 10000) :
    Calls Try.prog 17 #[.slice a k m, .int .i64 most] w (KGetPost (bks z most 0) w) := by
  have HZ := Lib.hid hz
  have HBY := Lib.hid hby
  have hF := Blk.new w #[.int .i64 0, .int .i64 0] 37
  have hbF := below_one w (.cells #[.int .i64 0, .int .i64 0] 37)
  have HF := Lib.hid hF
  have HBF := Lib.hid hbF
  clear hz hby hF hbF
  go_enter Try.func17, Try.ntmps17
  go_wp2_with fail
  refine (new_any a k m _ hm).mono ?_
  rintro e w1 ⟨rfl, hb1, _, hr1⟩
  rw [World.size_alloc] at hr1 ⊢
  have hbd1 := HBF.out.trans (hb1.mono HBF.out.size)
  have HF1 := Lib.hid (HF.out.below hb1)
  have HBD1 := Lib.hid hbd1
  have hR := kRead_any _ a k k z 0 0 0 most w1 hr1 (HZ.out.below hbd1) (Int.le_refl _) (by omega) (Nat.le_refl _) hk HBY.out hmo (fun _ => rfl)
  unfold KrdPost at hR
  clear hb1 hbd1
  go_wp2_with fail
  with_reducible refine hR.mono ?_
  rintro e w2 ⟨v, l, p', c', q', rfl, ho2, hlb, hll, hk2, hr2, hs2⟩
  obtain ⟨e1, e2, e3, e4⟩ := hs2.get
  obtain ⟨Av, cv, rfl⟩ := ho2.slice
  have hbd2 := Kp.below HBD1.out (Nat.le_refl _) hk2 (by omega)
  have HF2 := Lib.hid (blk_kp HF1.out hk2 (by omega))
  have HW1 := Lib.hid (show w.heap.size + 2 ≤ w1.heap.size from Nat.succ_le_of_lt (Blk.lt hr1))
  have HE1 := Lib.hid e1
  have HE2 := Lib.hid e2
  have HE3 := Lib.hid e3
  have HE4 := Lib.hid e4
  have HLB := Lib.hid hlb
  have HLL := Lib.hid hll
  have HBD2 := Lib.hid hbd2
  have HO2 := Lib.hid ho2
  have hsz := ksize_rd _ _ _ _ _ _ hr2
  rw [HE4.out] at hsz
  obtain ⟨ll, hll2⟩ : ∃ ll, ll = l.length := ⟨_, rfl⟩
  rw [← hll2]
  have HLE := Lib.hid hll2
  clear hR hr1 hk2 e1 e2 e3 e4 hlb hll hbd2 ho2 hs2 hll2
  go_wp2_with fail
  with_reducible refine hsz.mono ?_
  rintro e w3 ⟨rfl, hb3⟩
  have hr3 := hr2.below hb3
  have HF3 := Lib.hid (HF2.out.below hb3)
  have HO3 := Lib.hid (own_below HO2.out hb3)
  have HBD3 := Lib.hid (HBD2.out.trans (hb3.mono HBD2.out.size))
  clear hsz hr2 hb3
  go_wp2_with fail
  refine (fault_any _ _ _ _ _ _ hr3).mono ?_
  rintro e w4 ⟨rfl, hb4⟩
  have hF4 := HF3.out.below hb4
  have HO4 := Lib.hid (own_below HO3.out hb4)
  have HBD4 := Lib.hid (HBD3.out.trans (hb4.mono HBD3.out.size))
  obtain ⟨f0, f1⟩ := hF4.c2
  obtain ⟨k0, k1⟩ := hF4.f2
  have HF4 := Lib.hid hF4
  clear hr3 hb4 hF4
  go_wp2
  have hFd : Blk ((w4.setCell ⟨w.heap.size, 0, none⟩ (.int .i64 c')).setCell ⟨w.heap.size, 1, none⟩ (.int .i64 q')) w.heap.size #[.int .i64 c', .int .i64 q'] 37 := (HF4.out.set 0 _).set 1 _
  have hOd : Own ((w4.setCell ⟨w.heap.size, 0, none⟩ (.int .i64 c')).setCell ⟨w.heap.size, 1, none⟩ (.int .i64 q')) w.heap.size (.slice Av l.length cv) l := by
    have h1 := Own.far (p := ⟨w.heap.size, 1, none⟩) (Own.far (p := ⟨w.heap.size, 0, none⟩) HO4.out (by show w.heap.size < w1.heap.size; have := HW1.out; omega) (.int .i64 c')) (by show w.heap.size < w1.heap.size; have := HW1.out; omega) (.int .i64 q')
    exact own_base0 h1 (by have := HW1.out; omega)
  have hBd : Below w.heap.size w ((w4.setCell ⟨w.heap.size, 0, none⟩ (.int .i64 c')).setCell ⟨w.heap.size, 1, none⟩ (.int .i64 q')) := (HBD4.out.setCell (p := ⟨w.heap.size, 0, none⟩) (Nat.le_refl _) _).setCell (p := ⟨w.heap.size, 1, none⟩) (Nat.le_refl _) _
  generalize (w4.setCell ⟨w.heap.size, 0, none⟩ (.int .i64 c')).setCell ⟨w.heap.size, 1, none⟩ (.int .i64 q') = Wf at hFd hOd hBd ⊢
  obtain ⟨d0, d1⟩ := hFd.c2
  refine bodyPost_ret (v := .tuple #[.slice Av ll cv, .int .i64 (gpl (bks z most 0)), .agg #[.int .i64 c', .int .i64 q']]) (by simp [results, Try.results17, go_sem, d0, d1]) rfl ⟨_, by rw [← HE1.out, ← HE2.out], ?_, hBd, by rw [← HE3.out]; exact HLL.out, by rw [← HE3.out]; exact HLB.out⟩
  rw [← HE3.out, HLE.out]
  exact hOd

/-- Is the block that is read the own one? -/
def ownf (z : List Int) (G : Rs (List Int)) : Bool := decide (G.2.2.1 = 0) && decide (piece z 0 (gpl G).toNat = bkb (gvl G))
def KGlPost (z : List Int) (most : Int) (w : World) (e : Ending) (w' : World) : Prop :=
  ∃ v, e = .returned (.tuple #[v, .bool (ownf z (bk z most 0)), .int .i64 (gpl (bk z most 0)), .agg #[.int .i64 (bk z most 0).2.2.1, .int .i64 (gq (bk z most 0))]]) ∧ Own w' w.heap.size v (gvl (bk z most 0)) ∧ Below w.heap.size w w' ∧ (gvl (bk z most 0)).length ≤ 10000 ∧ ∀ x ∈ gvl (bk z most 0), 0 ≤ x ∧ x < 256
set_option maxHeartbeats 4000000 in
theorem kgetloose_any {w : World} (a : Option Addr) (k m : Nat) {z : List Int} (most : Int) (hz : Bs w a k z) (hm : k ≤ m) (hk : k ≤ 10000) (hby : ∀ x ∈ z, 0 ≤ x ∧ x < 256) (hmo : most ≤ 10000) :
    Calls Try.prog 18 #[.slice a k m, .int .i64 most] w (KGlPost z most w) := by
  have HZ := Lib.hid hz
  have HBY := Lib.hid hby
  have hF := Blk.new w #[.int .i64 0, .int .i64 0] 37
  have hbF := below_one w (.cells #[.int .i64 0, .int .i64 0] 37)
  have HF := Lib.hid hF
  have HBF := Lib.hid hbF
  clear hz hby hF hbF
  go_enter Try.func18, Try.ntmps18
  go_wp2_with fail
  refine (new_any a k m _ hm).mono ?_
  rintro e w1 ⟨rfl, hb1, _, hr1⟩
  rw [World.size_alloc] at hr1 ⊢
  have hbd1 := HBF.out.trans (hb1.mono HBF.out.size)
  have HF1 := Lib.hid (HF.out.below hb1)
  have HBD1 := Lib.hid hbd1
  have hR := kReadLoose_any _ a k k z 0 0 0 most w1 hr1 (HZ.out.below hbd1) (Int.le_refl _) (by omega) (Nat.le_refl _) hk HBY.out hmo (fun _ => rfl)
  unfold KRlPost at hR
  clear hb1 hbd1
  go_wp2_with fail
  with_reducible refine hR.mono ?_
  rintro e w2 ⟨v, l, p', c', q', rfl, ho2, hlb, hll, hk2, hr2, hs2⟩
  obtain ⟨e1, e2, e3, e4⟩ := hs2.get
  have eow : (decide (c' = 0) && decide (piece z (0 : Int).toNat p'.toNat = bkb l)) = ownf z (bk z most 0) := by
    unfold ownf
    rw [← e1]
    by_cases hc : c' = 0
    · rw [← e3, ← e4, if_pos hc]
      rfl
    · rw [decide_eq_false hc]
      rfl
  rw [eow]
  generalize hof : ownf z (bk z most 0) = of at *
  have HOF := Lib.hid hof
  obtain ⟨Av, cv, rfl⟩ := ho2.slice
  have hbd2 := Kp.below HBD1.out (Nat.le_refl _) hk2 (by omega)
  have HF2 := Lib.hid (blk_kp HF1.out hk2 (by omega))
  have HW1 := Lib.hid (show w.heap.size + 2 ≤ w1.heap.size from Nat.succ_le_of_lt (Blk.lt hr1))
  have HE1 := Lib.hid e1
  have HE2 := Lib.hid e2
  have HE3 := Lib.hid e3
  have HE4 := Lib.hid e4
  have HLB := Lib.hid hlb
  have HLL := Lib.hid hll
  have HBD2 := Lib.hid hbd2
  have HO2 := Lib.hid ho2
  have hsz := ksize_rd _ _ _ _ _ _ hr2
  rw [HE4.out] at hsz
  obtain ⟨ll, hll2⟩ : ∃ ll, ll = l.length := ⟨_, rfl⟩
  rw [← hll2]
  have HLE := Lib.hid hll2
  clear eow hof hR hr1 hk2 e1 e2 e3 e4 hlb hll hbd2 ho2 hs2 hll2
  go_wp2_with fail
  with_reducible refine hsz.mono ?_
  rintro e w3 ⟨rfl, hb3⟩
  have hr3 := hr2.below hb3
  have HF3 := Lib.hid (HF2.out.below hb3)
  have HO3 := Lib.hid (own_below HO2.out hb3)
  have HBD3 := Lib.hid (HBD2.out.trans (hb3.mono HBD2.out.size))
  clear hsz hr2 hb3
  go_wp2_with fail
  refine (fault_any _ _ _ _ _ _ hr3).mono ?_
  rintro e w4 ⟨rfl, hb4⟩
  have hF4 := HF3.out.below hb4
  have HO4 := Lib.hid (own_below HO3.out hb4)
  have HBD4 := Lib.hid (HBD3.out.trans (hb4.mono HBD3.out.size))
  obtain ⟨f0, f1⟩ := hF4.c2
  obtain ⟨k0, k1⟩ := hF4.f2
  have HF4 := Lib.hid hF4
  clear hr3 hb4 hF4
  go_wp2
  have hFd : Blk ((w4.setCell ⟨w.heap.size, 0, none⟩ (.int .i64 c')).setCell ⟨w.heap.size, 1, none⟩ (.int .i64 q')) w.heap.size #[.int .i64 c', .int .i64 q'] 37 := (HF4.out.set 0 _).set 1 _
  have hOd : Own ((w4.setCell ⟨w.heap.size, 0, none⟩ (.int .i64 c')).setCell ⟨w.heap.size, 1, none⟩ (.int .i64 q')) w.heap.size (.slice Av l.length cv) l := by
    have h1 := Own.far (p := ⟨w.heap.size, 1, none⟩) (Own.far (p := ⟨w.heap.size, 0, none⟩) HO4.out (by show w.heap.size < w1.heap.size; have := HW1.out; omega) (.int .i64 c')) (by show w.heap.size < w1.heap.size; have := HW1.out; omega) (.int .i64 q')
    exact own_base0 h1 (by have := HW1.out; omega)
  have hBd : Below w.heap.size w ((w4.setCell ⟨w.heap.size, 0, none⟩ (.int .i64 c')).setCell ⟨w.heap.size, 1, none⟩ (.int .i64 q')) := (HBD4.out.setCell (p := ⟨w.heap.size, 0, none⟩) (Nat.le_refl _) _).setCell (p := ⟨w.heap.size, 1, none⟩) (Nat.le_refl _) _
  generalize (w4.setCell ⟨w.heap.size, 0, none⟩ (.int .i64 c')).setCell ⟨w.heap.size, 1, none⟩ (.int .i64 q') = Wf at hFd hOd hBd ⊢
  obtain ⟨d0, d1⟩ := hFd.c2
  refine bodyPost_ret (v := .tuple #[.slice Av ll cv, .bool of, .int .i64 (gpl (bk z most 0)), .agg #[.int .i64 c', .int .i64 q']]) (by simp [results, Try.results18, go_sem, d0, d1]) rfl ⟨_, by rw [← HE1.out, ← HE2.out, HOF.out], ?_, hBd, by rw [← HE3.out]; exact HLL.out, by rw [← HE3.out]; exact HLB.out⟩
  rw [← HE3.out, HLE.out]
  exact hOd
end Go.Proofs.Ytckpngofnohdjaa.Cur

/- LinkChanges: called with any links, any link and any number, the law returns true; no condition. -/
import Derived.Test.YtbdelphocjdiiaaRows
import Derived.Test.YtbdelphocjdiiaaLnkP
import Derived.Test.YtbdelphocjdiiaaK36
import Derived.Test.YtbdelphocjdiiaaK35
import Derived.ProofKit
import Derived.OpenShut
import Derived.ShutString
import Derived.ChangeOld
namespace Go.Proofs.Ytbdelphocjdiiaa.linkChanges
open Go.ChangeShapes Go.WideShapes Go.ChangeAt Go.RowKit
open Go.ChangeMaps (open_string shut_string)
set_option linter.unusedVariables false

theorem own : ownKnob Try.prog.godebug = none := by kernel_rfl
theorem laidOut : laidOutB Try.prog = true := by kernel_rfl
open Cur Mem

set_option maxRecDepth 100000

/-- What the law reads. -/
def LcS (X Y : Nat) (u v : Array Value) (w : World) : Prop := Blk w X u 53 ∧ Blk w Y v 53
theorem LcS.below {X Y : Nat} {u v : Array Value} {w w' : World} (h : LcS X Y u v w) (hb : Below w.heap.size w w') : LcS X Y u v w' := ⟨h.1.below hb, h.2.below hb⟩
/-- A link that was handed back, as it lies. -/
theorem low_us {s : Lk} {w : World} {P : Nat → Prop} {A : Option Addr} {m : Nat} (h : LkE.R w P [.int .u64 s.1, .slice A s.2.length m] s) : Us w A s.2.length s.2 := by
  obtain ⟨A', m', hc, _, _, _, h4, _⟩ := link_parts h
  injection hc with _ hc
  injection hc with hc _
  injection hc with e1 _ _
  subst e1
  exact h4
set_option maxHeartbeats 16000000 in
theorem walk {H : Type} (enc : TypeId × Value → H) (w : World) (base : Nat) (v0 : Value) (d0 : DataW H) (p0 : List MemPlace) (g0 : Value.okWide Try.prog w .any base 23 v0) (h0 : DataW.Trod enc Try.prog w 0 (fun _ => true) true 23 v0 d0 p0) (v1 : Value) (d1 : DataW H) (p1 : List MemPlace) (g1 : Value.okWide Try.prog w .any base 53 v1) (h1 : DataW.Trod enc Try.prog w 0 (fun _ => true) true 53 v1 d1 p1) (v2 : Value) (d2 : DataW H) (p2 : List MemPlace) (g2 : Value.okWide Try.prog w .any base 22 v2) (h2 : DataW.Trod enc Try.prog w 0 (fun _ => true) true 22 v2 d2 p2) :
    Calls Try.prog 5 #[v0, v1, v2] w fun e w' => e = .returned (.bool true) ∧ Below w.heap.size w w' := by
  obtain ⟨A, n, m, L, rfl, hnm, hnilA, hz⟩ := open_links g0 h0
  obtain ⟨x, B, nb, cb, z, rfl, hx, hnb, hbn, hu, hzb, _⟩ := open_link g1 h1
  obtain ⟨pos, rfl, p0', p1'⟩ := open_u64 g2 h2
  clear g0 h0 g1 h1 g2 h2
  have HZ := Lib.hid hz
  have HL := Lib.hid hz.1
  have HU := Lib.hid hu
  have HX := Lib.hid hx
  have HZB := Lib.hid hzb
  have HNB := Lib.hid (And.intro hnb hbn)
  have HNA := Lib.hid (And.intro hnm hnilA)
  have HP := Lib.hid (And.intro p0' p1')
  have hX := Blk.new w (lkc x B nb cb) 53
  have hbX := below_one w (.cells (lkc x B nb cb) 53)
  clear hz hu hx hzb hnb hbn hnm hnilA p0' p1'
  go_enter Try.func5, Try.ntmps5
  go_wp2_with fail
  generalize w.alloc (.cells (lkc x B nb cb) 53) = wx at *
  refine (long23_any _ A n m L wx (HZ.out.below hbX)).mono ?_
  rintro e w0 ⟨lb, rfl, hb0, hlong⟩
  have hbd := hbX.trans (hb0.mono hbX.size)
  replace hX := hX.below hb0
  clear hb0 hbX
  obtain ⟨x0, x1⟩ := hX.c2
  cases lb
  case true =>
    clear hlong
    go_wp2_with fail
    refine (live23_any _).mono ?_
    rintro e wl ⟨rfl, hbl⟩
    replace hbd := hbd.trans (hbl.mono hbd.size)
    go_wp2
    go_ret
    exact ⟨rfl, hbd⟩
  by_cases hnb5 : 50 < (nb : Int)
  · clear hlong
    go_wp2_with fail
    refine (live23_any _).mono ?_
    rintro e wl ⟨rfl, hbl⟩
    replace hbd := hbd.trans (hbl.mono hbd.size)
    go_wp2
    go_ret
    exact ⟨rfl, hbd⟩
  obtain ⟨hn50, hbl50⟩ := hlong rfl
  have HBL := Lib.hid hbl50
  clear hlong hbl50
  obtain ⟨EZ, hEZ⟩ : ∃ EZ, EZ = (ext pos (x, z)).2 := ⟨_, rfl⟩
  have hE : ext pos (x, z) = (x, EZ) := by rw [hEZ]; rfl
  have hEl : EZ.length ≤ 4 := by rw [hEZ]; unfold ext; rw [List.length_cons, List.length_take]; omega
  have HXC : Hid (∀ w', Below w.heap.size w w' → Calls Try.prog 27 #[lkagg x B nb cb, .int .u64 pos] w' (fun e w2 => ∃ A m, e = .returned (lkagg x A EZ.length m) ∧ Below w'.heap.size w' w2 ∧ Us w2 A EZ.length EZ)) := Lib.hid (fun w' h => by
    have hc := lextend_any x B nb cb z pos w' HX.out (HU.out.below h) HZB.out HNB.out.1 HNB.out.2 (by omega) HP.out.1 HP.out.2
    rw [hE] at hc
    exact hc.mono (fun e w2 ⟨A, m, h1, h2, h3⟩ => ⟨A, m, h1, h2, low_us h3⟩))
  have HXR : Hid (∀ w', Below w.heap.size w w' → Calls Try.prog 28 #[lkagg x B nb cb, .int .u64 pos] w' (fun e w2 => ∃ A m, e = .returned (lkagg x A EZ.length m) ∧ Below w'.heap.size w' w2 ∧ Us w2 A EZ.length EZ)) := Lib.hid (fun w' h => by
    have hc := rextend_any x B nb cb z pos w' HX.out (HU.out.below h) HZB.out (by omega) HP.out.1 HP.out.2
    rw [hE] at hc
    exact hc.mono (fun e w2 ⟨A, m, h1, h2, h3⟩ => ⟨A, m, h1, h2, low_us h3⟩))
  obtain ⟨W, hW⟩ : ∃ W, W = wth L (x, z) := ⟨_, rfl⟩
  obtain ⟨NW, hNW⟩ : ∃ NW, NW = W.length := ⟨_, rfl⟩
  have hNWl : NW ≤ 51 := by have := (wth_len L (x, z)).1; rw [HL.out] at this; rw [hNW, hW]; omega
  have HWB : Hid (blen 1000000 W) := Lib.hid (by rw [hW]; exact wth_blen (HBL.out.le (by omega)) (by show z.length ≤ 1000000; rw [HU.out.1]; omega))
  have HBM := Lib.hid (HBL.out.le (N := 1000000) (by omega))
  have HWC : Hid (∀ w', Below w.heap.size w w' → Calls Try.prog 29 #[.slice A n m, lkagg x B nb cb] w' (fun e w2 => ∃ A m, e = .returned (.slice A NW m) ∧ Below w'.heap.size w' w2 ∧ Lks w2 (fun _ => True) A NW W)) := Lib.hid (fun w' h => by
    have hc := lwith_any _ A n m L x B nb cb z w' (HZ.out.below h) HNA.out.1 HNA.out.2 (by omega) (HBL.out.le (by omega)) HX.out (HU.out.below h) HZB.out HNB.out.1 HNB.out.2 (by omega)
    rw [← hW] at hc
    exact hc.mono (fun e w2 ⟨v, h1, h2, h3⟩ => by
      obtain ⟨A', c', rfl, _, _, h4⟩ := h3.lks
      rw [← hNW] at h1 h4
      exact ⟨A', c', h1, h2, h4.mono (fun _ _ _ => trivial)⟩))
  have HWR : Hid (∀ w', Below w.heap.size w w' → Calls Try.prog 30 #[.slice A n m, lkagg x B nb cb] w' (fun e w2 => ∃ A m, e = .returned (.slice A NW m) ∧ Below w'.heap.size w' w2 ∧ Lks w2 (fun _ => True) A NW W)) := Lib.hid (fun w' h => by
    have hc := rwith_any _ A n m L x B nb cb z w' (HZ.out.below h) (by omega) HX.out (HU.out.below h) HZB.out HNB.out.1 HNB.out.2
    rw [← hW] at hc
    exact hc.mono (fun e w2 ⟨A', n', m', h1, h2, h3, _⟩ => by
      have e9 : n' = NW := by rw [hNW]; exact h3.1.symm
      subst e9
      exact ⟨A', m', h1, h2, h3⟩))
  have HCP : Hid (∀ w', Below w.heap.size w w' → Calls Try.prog 32 #[.slice A n m] w' (fun e w2 => ∃ A m, e = .returned (.slice A n m) ∧ Below w'.heap.size w' w2 ∧ Lks w2 (fun _ => True) A n L)) := Lib.hid (fun w' h => by
    have hc := lcopy_any _ A n m L w' (HZ.out.below h) HNA.out.2 (by omega) (HBL.out.le (by omega))
    exact hc.mono (fun e w2 ⟨v, h1, h2, h3⟩ => by
      obtain ⟨A', c', rfl, _, _, h4⟩ := h3.lks
      rw [HL.out] at h1 h4
      exact ⟨A', c', h1, h2, h4.mono (fun _ _ _ => trivial)⟩))
  clear hE hEZ hW hNW
  have hfc := lfind_any _ A n m L x w0 (HZ.out.below hbd) (by omega) (HBL.out.le (by omega))
  unfold LFdPost at hfc
  go_wp2_with fail
  with_reducible refine hfc.mono ?_
  rintro e w1 ⟨y, zy, A3, m3, hfd, rfl, hb1, hel⟩
  have HEL := Lib.hid (low_us (s := (y, zy)) hel)
  have HFD := Lib.hid hfd
  replace hbd := hbd.trans (hb1.mono hbd.size)
  replace hX := hX.below hb1
  clear hfc hb1 hel hfd x0 x1
  have hY := Blk.new w1 (lkc y A3 zy.length m3) 53
  have hbY := below_one w1 (.cells (lkc y A3 zy.length m3) 53)
  have HEL2 := Lib.hid (HEL.out.below hbY)
  replace hbd := hbd.trans (hbY.mono hbd.size)
  replace hX := hX.below hbY
  obtain ⟨x0, x1⟩ := hX.c2
  have hrfc := rfind_any _ A n m L x _ (HZ.out.below hbd) (by omega)
  unfold BPost at hrfc
  clear hbY HEL
  go_wp2_with fail
  generalize w1.alloc (.cells (lkc y A3 zy.length m3) 53) = w2 at *
  generalize w1.heap.size = yb at *
  with_reducible refine hrfc.mono ?_
  rintro e wq ⟨rfl, hb3⟩
  have HY3 := Lib.hid (HEL2.out.below hb3)
  replace hbd := hbd.trans (hb3.mono hbd.size)
  have hS : LcS w.heap.size yb (lkc x B nb cb) (lkc y A3 zy.length m3) wq.drew := LcS.below (w := wq) ⟨hX.below hb3, hY.below hb3⟩ (below_one' wq)
  replace hbd := hbd.trans ((below_one' wq).mono hbd.size)
  replace HY3 := Lib.hid (HY3.out.below (below_one' wq))
  have L0 : ∀ w', LcS w.heap.size yb (lkc x B nb cb) (lkc y A3 zy.length m3) w' → (w'.cell? ⟨w.heap.size, 0, none⟩ = some (.int .u64 x) ∧ w'.cell? ⟨w.heap.size, 1, none⟩ = some (.slice B nb cb)) ∧ (w'.cell? ⟨yb, 0, none⟩ = some (.int .u64 y) ∧ w'.cell? ⟨yb, 1, none⟩ = some (.slice A3 zy.length m3)) := fun w' h => ⟨h.1.c2, h.2.c2⟩
  clear hX hY hb3 hrfc HEL2 x0 x1
  have hzy : zy.length ≤ 1000000 := by
    have h9 := HBL.out.at_ (fnl L x).toNat
    have h8 := HFD.out
    unfold fnd at h8
    split at h8
    · rw [h8] at h9; have h7 : zy.length ≤ 50 := h9; omega
    · have : zy = [] := (congrArg Prod.snd h8).symm
      rw [this]; simp
  by_cases hf : 0 ≤ fnl L x
  · have hfd := HFD.out
    unfold fnd at hfd
    rw [if_pos hf] at hfd
    have hfn := fnl_bd L x
    obtain ⟨k, hk⟩ := Int.eq_ofNat_of_zero_le hf
    rw [hk] at hf hfd hfn ⊢
    rw [Int.toNat_natCast] at hfd
    have hkn : k < n := by rw [HL.out] at hfn; omega
    obtain ⟨g, o, rfl, _, hg, hc⟩ := HZ.out.cells (by omega)
    obtain ⟨x2, z2, a2, l2, m2, he, _, hl, _, _, hus, _, _, _, hcell⟩ := hc k hkn
    have hbl2 := HBL.out.at_ k
    rw [he] at hbl2
    have hl2 : l2 ≤ 50 := by rw [← hl]; exact hbl2
    have L1 : ∀ w', Below w.heap.size w w' → w'.cell? ⟨g, o + k * 2, none⟩ = some (.int .u64 x2) ∧ w'.cell? ⟨g, o + k * 2 + 1, none⟩ = some (.slice a2 l2 m2) := fun w' h => hcell w' h
    have HON := Lib.hid (rone_any y A3 zy.length m3 zy x2 a2 l2 m2 z2 wq.drew HY3.out (hus.below hbd) hzy (by omega))
    rw [show decide (((y, zy) : Lk) = (x2, z2)) = true from decide_eq_true (by rw [← hfd, he])] at HON
    unfold BPost at HON
    have d0 : decide (0 ≤ (k : Int)) = true := decide_eq_true hf
    have e1 : (k : Int) < n := by omega
    have hS1 : LcS w.heap.size yb (lkc x B nb cb) (lkc y A3 zy.length m3) wq.drew ∧ Below w.heap.size w wq.drew := ⟨hS, hbd⟩
    have L3 : ∀ w', (LcS w.heap.size yb (lkc x B nb cb) (lkc y A3 zy.length m3) w' ∧ Below w.heap.size w w') → ((w'.cell? ⟨w.heap.size, 0, none⟩ = some (.int .u64 x) ∧ w'.cell? ⟨w.heap.size, 1, none⟩ = some (.slice B nb cb)) ∧ (w'.cell? ⟨yb, 0, none⟩ = some (.int .u64 y) ∧ w'.cell? ⟨yb, 1, none⟩ = some (.slice A3 zy.length m3))) ∧ (w'.cell? ⟨g, o + k * 2, none⟩ = some (.int .u64 x2) ∧ w'.cell? ⟨g, o + k * 2 + 1, none⟩ = some (.slice a2 l2 m2)) := fun w' h => ⟨L0 w' h.1, L1 w' h.2⟩
    clear hc hcell he hl hus hfd hfn hbl2 hl2 hk hzy L1 hf
    go_wp2
    refine Seq.wp_region_seq (fun w' => LcS w.heap.size yb (lkc x B nb cb) (lkc y A3 zy.length m3) w' ∧ Below w.heap.size w w') (by kernel_rfl) (by kernel_rfl) hS1 ?_
    generalize wq.drew = wd at *
    repeat (first | (refine Seq.Seq.skip (by rfl) ?_; (try simp only [Act.put, List.setIfInBounds_toArray, List.set_cons_zero, List.set_cons_succ])) | (refine Seq.Seq.det ?_ (by rfl) (fun w hS => ?_) ?_; rotate_left; ((try dsimp only at hS); go_simp; (try rw [if_pos (by omega)]); with_reducible rfl); (try simp only [Act.put, List.setIfInBounds_toArray, List.set_cons_zero, List.set_cons_succ])))
    refine Seq.Seq.make (by rfl) (by rfl) (fun K Q' hK => ?_)
    go_simp
    go_at_call 26
    refine HON.out.mono ?_
    rintro en w5 ⟨rfl, hc1⟩
    replace hbd := hbd.trans (hc1.mono hbd.size)
    replace hS := hS.below hc1
    clear hc1
    refine hK.out _ _ (⟨hS, hbd⟩) ?_
    clear hK K
    try simp only [Act.put, List.setIfInBounds_toArray, List.set_cons_zero, List.set_cons_succ]
    repeat (first | (refine Seq.Seq.skip (by rfl) ?_; (try simp only [Act.put, List.setIfInBounds_toArray, List.set_cons_zero, List.set_cons_succ])) | (refine Seq.Seq.det ?_ (by rfl) (fun w hS => ?_) ?_; rotate_left; ((try dsimp only at hS); go_simp; (try rw [if_pos (by omega)]); with_reducible rfl); (try simp only [Act.put, List.setIfInBounds_toArray, List.set_cons_zero, List.set_cons_succ])))
    refine Seq.Seq.nil ?_
    clear L3 hS1 HON
    have hSD := hS.below (below_one' w5)
    have hbD := hbd.trans ((below_one' w5).mono hbd.size)
    clear hS hbd
    go_wp2
    refine Seq.wp_region_seq (fun w' => LcS w.heap.size yb (lkc x B nb cb) (lkc y A3 zy.length m3) w') (by kernel_rfl) (by kernel_rfl) hSD ?_
    generalize (w5).drew = wd at *
    have hS := hSD
    have hbd := hbD
    clear hSD hbD
    repeat (first | (refine Seq.Seq.skip (by rfl) ?_; (try simp only [Act.put, List.setIfInBounds_toArray, List.set_cons_zero, List.set_cons_succ])) | (refine Seq.Seq.det ?_ (by rfl) (fun w hS => ?_) ?_; rotate_left; ((try dsimp only at hS); go_simp; (try rw [if_pos (by omega)]); with_reducible rfl); (try simp only [Act.put, List.setIfInBounds_toArray, List.set_cons_zero, List.set_cons_succ])))
    refine Seq.Seq.make (by rfl) (by rfl) (fun K Q' hK => ?_)
    go_simp
    go_at_call 27
    refine (HXC.out _ hbd).mono ?_
    rintro en v1 ⟨A4, m4, rfl, hc1, hu4⟩
    replace hbd := hbd.trans (hc1.mono hbd.size)
    replace hS := hS.below hc1
    clear hc1
    refine hK.out _ _ (hS) ?_
    clear hK K
    try simp only [Act.put, List.setIfInBounds_toArray, List.set_cons_zero, List.set_cons_succ]
    repeat (first | (refine Seq.Seq.skip (by rfl) ?_; (try simp only [Act.put, List.setIfInBounds_toArray, List.set_cons_zero, List.set_cons_succ])) | (refine Seq.Seq.det ?_ (by rfl) (fun w hS => ?_) ?_; rotate_left; ((try dsimp only at hS); go_simp; (try rw [if_pos (by omega)]); with_reducible rfl); (try simp only [Act.put, List.setIfInBounds_toArray, List.set_cons_zero, List.set_cons_succ])))
    refine Seq.Seq.make (by rfl) (by rfl) (fun K Q' hK => ?_)
    go_simp
    go_at_call 28
    refine (HXR.out _ hbd).mono ?_
    rintro en v2 ⟨A5, m5, rfl, hc1, hu5⟩
    replace hbd := hbd.trans (hc1.mono hbd.size)
    replace hS := hS.below hc1
    replace hu4 := hu4.below hc1
    clear hc1
    refine hK.out _ _ (hS) ?_
    clear hK K
    try simp only [Act.put, List.setIfInBounds_toArray, List.set_cons_zero, List.set_cons_succ]
    repeat (first | (refine Seq.Seq.skip (by rfl) ?_; (try simp only [Act.put, List.setIfInBounds_toArray, List.set_cons_zero, List.set_cons_succ])) | (refine Seq.Seq.det ?_ (by rfl) (fun w hS => ?_) ?_; rotate_left; ((try dsimp only at hS); go_simp; (try rw [if_pos (by omega)]); with_reducible rfl); (try simp only [Act.put, List.setIfInBounds_toArray, List.set_cons_zero, List.set_cons_succ])))
    refine Seq.Seq.make (by rfl) (by rfl) (fun K Q' hK => ?_)
    go_simp
    go_at_call 26
    have hon := rone_any x A4 EZ.length m4 EZ x A5 EZ.length m5 EZ v2 hu4 hu5 (by omega) (by omega)
    rw [show decide (((x, EZ) : Lk) = (x, EZ)) = true from decide_eq_true rfl] at hon
    refine hon.mono ?_
    rintro en v3 ⟨rfl, hc1⟩
    replace hbd := hbd.trans (hc1.mono hbd.size)
    replace hS := hS.below hc1
    clear hc1 hu4 hu5 hon
    refine hK.out _ _ (hS) ?_
    clear hK K
    try simp only [Act.put, List.setIfInBounds_toArray, List.set_cons_zero, List.set_cons_succ]
    repeat (first | (refine Seq.Seq.skip (by rfl) ?_; (try simp only [Act.put, List.setIfInBounds_toArray, List.set_cons_zero, List.set_cons_succ])) | (refine Seq.Seq.det ?_ (by rfl) (fun w hS => ?_) ?_; rotate_left; ((try dsimp only at hS); go_simp; (try rw [if_pos (by omega)]); with_reducible rfl); (try simp only [Act.put, List.setIfInBounds_toArray, List.set_cons_zero, List.set_cons_succ])))
    refine Seq.Seq.make (by rfl) (by rfl) (fun K Q' hK => ?_)
    go_simp
    go_at_call 29
    refine (HWC.out _ hbd).mono ?_
    rintro en v4 ⟨A6, m6, rfl, hc1, hl6⟩
    replace hbd := hbd.trans (hc1.mono hbd.size)
    replace hS := hS.below hc1
    clear hc1
    refine hK.out _ _ (hS) ?_
    clear hK K
    try simp only [Act.put, List.setIfInBounds_toArray, List.set_cons_zero, List.set_cons_succ]
    repeat (first | (refine Seq.Seq.skip (by rfl) ?_; (try simp only [Act.put, List.setIfInBounds_toArray, List.set_cons_zero, List.set_cons_succ])) | (refine Seq.Seq.det ?_ (by rfl) (fun w hS => ?_) ?_; rotate_left; ((try dsimp only at hS); go_simp; (try rw [if_pos (by omega)]); with_reducible rfl); (try simp only [Act.put, List.setIfInBounds_toArray, List.set_cons_zero, List.set_cons_succ])))
    refine Seq.Seq.make (by rfl) (by rfl) (fun K Q' hK => ?_)
    go_simp
    go_at_call 30
    refine (HWR.out _ hbd).mono ?_
    rintro en v5 ⟨A7, m7, rfl, hc1, hl7⟩
    replace hbd := hbd.trans (hc1.mono hbd.size)
    replace hS := hS.below hc1
    replace hl6 := hl6.below hc1
    clear hc1
    refine hK.out _ _ (hS) ?_
    clear hK K
    try simp only [Act.put, List.setIfInBounds_toArray, List.set_cons_zero, List.set_cons_succ]
    repeat (first | (refine Seq.Seq.skip (by rfl) ?_; (try simp only [Act.put, List.setIfInBounds_toArray, List.set_cons_zero, List.set_cons_succ])) | (refine Seq.Seq.det ?_ (by rfl) (fun w hS => ?_) ?_; rotate_left; ((try dsimp only at hS); go_simp; (try rw [if_pos (by omega)]); with_reducible rfl); (try simp only [Act.put, List.setIfInBounds_toArray, List.set_cons_zero, List.set_cons_succ])))
    refine Seq.Seq.make (by rfl) (by rfl) (fun K Q' hK => ?_)
    go_simp
    go_at_call 21
    have hsm := rlsame_any _ _ A6 A7 NW NW m6 m7 W W v5 hl6 hl7 (by omega) (by omega) HWB.out HWB.out
    rw [show decide (W = W) = true from decide_eq_true rfl] at hsm
    refine hsm.mono ?_
    rintro en v6 ⟨rfl, hc1⟩
    replace hbd := hbd.trans (hc1.mono hbd.size)
    replace hS := hS.below hc1
    clear hc1 hl6 hl7 hsm
    refine hK.out _ _ (hS) ?_
    clear hK K
    try simp only [Act.put, List.setIfInBounds_toArray, List.set_cons_zero, List.set_cons_succ]
    repeat (first | (refine Seq.Seq.skip (by rfl) ?_; (try simp only [Act.put, List.setIfInBounds_toArray, List.set_cons_zero, List.set_cons_succ])) | (refine Seq.Seq.det ?_ (by rfl) (fun w hS => ?_) ?_; rotate_left; ((try dsimp only at hS); go_simp; (try rw [if_pos (by omega)]); with_reducible rfl); (try simp only [Act.put, List.setIfInBounds_toArray, List.set_cons_zero, List.set_cons_succ])))
    refine Seq.Seq.nil ?_
    have hSD := hS.below (below_one' v6)
    have hbD := hbd.trans ((below_one' v6).mono hbd.size)
    clear hS hbd
    go_wp2
    refine Seq.wp_region_seq (fun w' => LcS w.heap.size yb (lkc x B nb cb) (lkc y A3 zy.length m3) w') (by kernel_rfl) (by kernel_rfl) hSD ?_
    generalize v6.drew = wd at *
    have hS := hSD
    have hbd := hbD
    clear hSD hbD
    repeat (first | (refine Seq.Seq.skip (by rfl) ?_; (try simp only [Act.put, List.setIfInBounds_toArray, List.set_cons_zero, List.set_cons_succ])) | (refine Seq.Seq.det ?_ (by rfl) (fun w hS => ?_) ?_; rotate_left; ((try dsimp only at hS); go_simp; (try rw [if_pos (by omega)]); with_reducible rfl); (try simp only [Act.put, List.setIfInBounds_toArray, List.set_cons_zero, List.set_cons_succ])))
    refine Seq.Seq.make (by rfl) (by rfl) (fun K Q' hK => ?_)
    go_simp
    go_at_call 31
    have hsm := lsame_any _ _ _ _ n n m m L L wd (HZ.out.below hbd) (HZ.out.below hbd) (by omega) (by omega) HBM.out HBM.out
    rw [show decide (L = L) = true from decide_eq_true rfl] at hsm
    refine hsm.mono ?_
    rintro en v7 ⟨rfl, hc1⟩
    replace hbd := hbd.trans (hc1.mono hbd.size)
    replace hS := hS.below hc1
    clear hc1 hsm
    refine hK.out _ _ (hS) ?_
    clear hK K
    try simp only [Act.put, List.setIfInBounds_toArray, List.set_cons_zero, List.set_cons_succ]
    repeat (first | (refine Seq.Seq.skip (by rfl) ?_; (try simp only [Act.put, List.setIfInBounds_toArray, List.set_cons_zero, List.set_cons_succ])) | (refine Seq.Seq.det ?_ (by rfl) (fun w hS => ?_) ?_; rotate_left; ((try dsimp only at hS); go_simp; (try rw [if_pos (by omega)]); with_reducible rfl); (try simp only [Act.put, List.setIfInBounds_toArray, List.set_cons_zero, List.set_cons_succ])))
    refine Seq.Seq.make (by rfl) (by rfl) (fun K Q' hK => ?_)
    go_simp
    go_at_call 32
    refine (HCP.out _ hbd).mono ?_
    rintro en v8 ⟨A8, m8, rfl, hc1, hl8⟩
    replace hbd := hbd.trans (hc1.mono hbd.size)
    replace hS := hS.below hc1
    clear hc1
    refine hK.out _ _ (hS) ?_
    clear hK K
    try simp only [Act.put, List.setIfInBounds_toArray, List.set_cons_zero, List.set_cons_succ]
    repeat (first | (refine Seq.Seq.skip (by rfl) ?_; (try simp only [Act.put, List.setIfInBounds_toArray, List.set_cons_zero, List.set_cons_succ])) | (refine Seq.Seq.det ?_ (by rfl) (fun w hS => ?_) ?_; rotate_left; ((try dsimp only at hS); go_simp; (try rw [if_pos (by omega)]); with_reducible rfl); (try simp only [Act.put, List.setIfInBounds_toArray, List.set_cons_zero, List.set_cons_succ])))
    refine Seq.Seq.make (by rfl) (by rfl) (fun K Q' hK => ?_)
    go_simp
    go_at_call 21
    have hsm := rlsame_any _ _ A8 _ n n m8 m L L v8 hl8 (HZ.out.below hbd) (by omega) (by omega) HBM.out HBM.out
    rw [show decide (L = L) = true from decide_eq_true rfl] at hsm
    refine hsm.mono ?_
    rintro en v9 ⟨rfl, hc1⟩
    replace hbd := hbd.trans (hc1.mono hbd.size)
    replace hS := hS.below hc1
    clear hc1 hl8 hsm
    refine hK.out _ _ (hS) ?_
    clear hK K
    try simp only [Act.put, List.setIfInBounds_toArray, List.set_cons_zero, List.set_cons_succ]
    repeat (first | (refine Seq.Seq.skip (by rfl) ?_; (try simp only [Act.put, List.setIfInBounds_toArray, List.set_cons_zero, List.set_cons_succ])) | (refine Seq.Seq.det ?_ (by rfl) (fun w hS => ?_) ?_; rotate_left; ((try dsimp only at hS); go_simp; (try rw [if_pos (by omega)]); with_reducible rfl); (try simp only [Act.put, List.setIfInBounds_toArray, List.set_cons_zero, List.set_cons_succ])))
    refine Seq.Seq.make (by rfl) (by rfl) (fun K Q' hK => ?_)
    go_simp
    go_at_call 29
    refine (HWC.out _ hbd).mono ?_
    rintro en v10 ⟨A6, m6, rfl, hc1, hl6⟩
    replace hbd := hbd.trans (hc1.mono hbd.size)
    replace hS := hS.below hc1
    clear hc1
    refine hK.out _ _ (hS) ?_
    clear hK K
    try simp only [Act.put, List.setIfInBounds_toArray, List.set_cons_zero, List.set_cons_succ]
    repeat (first | (refine Seq.Seq.skip (by rfl) ?_; (try simp only [Act.put, List.setIfInBounds_toArray, List.set_cons_zero, List.set_cons_succ])) | (refine Seq.Seq.det ?_ (by rfl) (fun w hS => ?_) ?_; rotate_left; ((try dsimp only at hS); go_simp; (try rw [if_pos (by omega)]); with_reducible rfl); (try simp only [Act.put, List.setIfInBounds_toArray, List.set_cons_zero, List.set_cons_succ])))
    refine Seq.Seq.make (by rfl) (by rfl) (fun K Q' hK => ?_)
    go_simp
    go_at_call 31
    have hsm := lsame_any _ _ _ A6 n NW m m6 L W v10 (HZ.out.below hbd) hl6 (by omega) (by omega) HBM.out HWB.out
    obtain ⟨dv, hdv⟩ : ∃ dv, dv = decide (L = W) := ⟨_, rfl⟩
    rw [← hdv] at hsm
    have HDV := Lib.hid hdv
    clear hdv
    refine hsm.mono ?_
    rintro en v11 ⟨rfl, hc1⟩
    replace hbd := hbd.trans (hc1.mono hbd.size)
    replace hS := hS.below hc1
    clear hc1 hl6 hsm
    refine hK.out _ _ (hS) ?_
    clear hK K
    try simp only [Act.put, List.setIfInBounds_toArray, List.set_cons_zero, List.set_cons_succ]
    repeat (first | (refine Seq.Seq.skip (by rfl) ?_; (try simp only [Act.put, List.setIfInBounds_toArray, List.set_cons_zero, List.set_cons_succ])) | (refine Seq.Seq.det ?_ (by rfl) (fun w hS => ?_) ?_; rotate_left; ((try dsimp only at hS); go_simp; (try rw [if_pos (by omega)]); with_reducible rfl); (try simp only [Act.put, List.setIfInBounds_toArray, List.set_cons_zero, List.set_cons_succ])))
    refine Seq.Seq.make (by rfl) (by rfl) (fun K Q' hK => ?_)
    go_simp
    go_at_call 30
    refine (HWR.out _ hbd).mono ?_
    rintro en v12 ⟨A7, m7, rfl, hc1, hl7⟩
    replace hbd := hbd.trans (hc1.mono hbd.size)
    replace hS := hS.below hc1
    clear hc1
    refine hK.out _ _ (hS) ?_
    clear hK K
    try simp only [Act.put, List.setIfInBounds_toArray, List.set_cons_zero, List.set_cons_succ]
    repeat (first | (refine Seq.Seq.skip (by rfl) ?_; (try simp only [Act.put, List.setIfInBounds_toArray, List.set_cons_zero, List.set_cons_succ])) | (refine Seq.Seq.det ?_ (by rfl) (fun w hS => ?_) ?_; rotate_left; ((try dsimp only at hS); go_simp; (try rw [if_pos (by omega)]); with_reducible rfl); (try simp only [Act.put, List.setIfInBounds_toArray, List.set_cons_zero, List.set_cons_succ])))
    refine Seq.Seq.make (by rfl) (by rfl) (fun K Q' hK => ?_)
    go_simp
    go_at_call 21
    have hsm := rlsame_any _ _ _ A7 n NW m m7 L W v12 (HZ.out.below hbd) hl7 (by omega) (by omega) HBM.out HWB.out
    rw [← HDV.out] at hsm
    refine hsm.mono ?_
    rintro en v13 ⟨rfl, hc1⟩
    replace hbd := hbd.trans (hc1.mono hbd.size)
    replace hS := hS.below hc1
    clear hc1 hl7 hsm
    have e99 : (dv == dv) = true := by simp
    refine hK.out _ _ (hS) ?_
    clear hK K
    try simp only [Act.put, List.setIfInBounds_toArray, List.set_cons_zero, List.set_cons_succ]
    repeat (first | (refine Seq.Seq.skip (by rfl) ?_; (try simp only [Act.put, List.setIfInBounds_toArray, List.set_cons_zero, List.set_cons_succ])) | (refine Seq.Seq.det ?_ (by rfl) (fun w hS => ?_) ?_; rotate_left; ((try dsimp only at hS); go_simp; (try rw [if_pos (by omega)]); with_reducible rfl); (try simp only [Act.put, List.setIfInBounds_toArray, List.set_cons_zero, List.set_cons_succ])))
    refine Seq.Seq.make (by rfl) (by rfl) (fun K Q' hK => ?_)
    go_simp
    go_at_call 8
    refine (live23_any _).mono ?_
    rintro en v14 ⟨rfl, hc1⟩
    replace hbd := hbd.trans (hc1.mono hbd.size)
    replace hS := hS.below hc1
    clear hc1
    refine hK.out _ _ (hS) ?_
    clear hK K
    try simp only [Act.put, List.setIfInBounds_toArray, List.set_cons_zero, List.set_cons_succ]
    repeat (first | (refine Seq.Seq.skip (by rfl) ?_; (try simp only [Act.put, List.setIfInBounds_toArray, List.set_cons_zero, List.set_cons_succ])) | (refine Seq.Seq.det ?_ (by rfl) (fun w hS => ?_) ?_; rotate_left; ((try dsimp only at hS); go_simp; (try rw [if_pos (by omega)]); with_reducible rfl); (try simp only [Act.put, List.setIfInBounds_toArray, List.set_cons_zero, List.set_cons_succ])))
    refine Seq.Seq.nil ?_
    clear hS L0
    go_wp2
    go_ret
    exact ⟨rfl, hbd⟩
  · have hfd := HFD.out
    unfold fnd at hfd
    rw [if_neg hf] at hfd
    have hy0 : y = 0 := (congrArg Prod.fst hfd).symm
    have hz0 : zy = [] := (congrArg Prod.snd hfd).symm
    have HON := Lib.hid (rone_any y A3 zy.length m3 zy 0 none 0 0 [] wq.drew HY3.out ⟨rfl, fun h => absurd h (by simp)⟩ hzy (by omega))
    rw [show decide (((y, zy) : Lk) = (0, [])) = true from decide_eq_true (by rw [hy0, hz0])] at HON
    unfold BPost at HON
    have d0 : decide (0 ≤ fnl L x) = false := decide_eq_false hf
    clear hfd hy0 hz0 hzy hf
    generalize fnl L x = f at *
    go_wp2
    refine Seq.wp_region_seq (fun w' => LcS w.heap.size yb (lkc x B nb cb) (lkc y A3 zy.length m3) w') (by kernel_rfl) (by kernel_rfl) hS ?_
    generalize wq.drew = wd at *
    repeat (first | (refine Seq.Seq.skip (by rfl) ?_; (try simp only [Act.put, List.setIfInBounds_toArray, List.set_cons_zero, List.set_cons_succ])) | (refine Seq.Seq.det ?_ (by rfl) (fun w hS => ?_) ?_; rotate_left; ((try dsimp only at hS); go_simp; (try rw [if_pos (by omega)]); with_reducible rfl); (try simp only [Act.put, List.setIfInBounds_toArray, List.set_cons_zero, List.set_cons_succ])))
    refine Seq.Seq.make (by rfl) (by rfl) (fun K Q' hK => ?_)
    go_simp
    go_at_call 26
    refine HON.out.mono ?_
    rintro en w5 ⟨rfl, hc1⟩
    replace hbd := hbd.trans (hc1.mono hbd.size)
    replace hS := hS.below hc1
    clear hc1
    refine hK.out _ _ (hS) ?_
    clear hK K
    try simp only [Act.put, List.setIfInBounds_toArray, List.set_cons_zero, List.set_cons_succ]
    repeat (first | (refine Seq.Seq.skip (by rfl) ?_; (try simp only [Act.put, List.setIfInBounds_toArray, List.set_cons_zero, List.set_cons_succ])) | (refine Seq.Seq.det ?_ (by rfl) (fun w hS => ?_) ?_; rotate_left; ((try dsimp only at hS); go_simp; (try rw [if_pos (by omega)]); with_reducible rfl); (try simp only [Act.put, List.setIfInBounds_toArray, List.set_cons_zero, List.set_cons_succ])))
    refine Seq.Seq.nil ?_
    clear HON
    have hSD := hS.below (below_one' w5)
    have hbD := hbd.trans ((below_one' w5).mono hbd.size)
    clear hS hbd
    go_wp2
    refine Seq.wp_region_seq (fun w' => LcS w.heap.size yb (lkc x B nb cb) (lkc y A3 zy.length m3) w') (by kernel_rfl) (by kernel_rfl) hSD ?_
    generalize (w5).drew = wd at *
    have hS := hSD
    have hbd := hbD
    clear hSD hbD
    repeat (first | (refine Seq.Seq.skip (by rfl) ?_; (try simp only [Act.put, List.setIfInBounds_toArray, List.set_cons_zero, List.set_cons_succ])) | (refine Seq.Seq.det ?_ (by rfl) (fun w hS => ?_) ?_; rotate_left; ((try dsimp only at hS); go_simp; (try rw [if_pos (by omega)]); with_reducible rfl); (try simp only [Act.put, List.setIfInBounds_toArray, List.set_cons_zero, List.set_cons_succ])))
    refine Seq.Seq.make (by rfl) (by rfl) (fun K Q' hK => ?_)
    go_simp
    go_at_call 27
    refine (HXC.out _ hbd).mono ?_
    rintro en v1 ⟨A4, m4, rfl, hc1, hu4⟩
    replace hbd := hbd.trans (hc1.mono hbd.size)
    replace hS := hS.below hc1
    clear hc1
    refine hK.out _ _ (hS) ?_
    clear hK K
    try simp only [Act.put, List.setIfInBounds_toArray, List.set_cons_zero, List.set_cons_succ]
    repeat (first | (refine Seq.Seq.skip (by rfl) ?_; (try simp only [Act.put, List.setIfInBounds_toArray, List.set_cons_zero, List.set_cons_succ])) | (refine Seq.Seq.det ?_ (by rfl) (fun w hS => ?_) ?_; rotate_left; ((try dsimp only at hS); go_simp; (try rw [if_pos (by omega)]); with_reducible rfl); (try simp only [Act.put, List.setIfInBounds_toArray, List.set_cons_zero, List.set_cons_succ])))
    refine Seq.Seq.make (by rfl) (by rfl) (fun K Q' hK => ?_)
    go_simp
    go_at_call 28
    refine (HXR.out _ hbd).mono ?_
    rintro en v2 ⟨A5, m5, rfl, hc1, hu5⟩
    replace hbd := hbd.trans (hc1.mono hbd.size)
    replace hS := hS.below hc1
    replace hu4 := hu4.below hc1
    clear hc1
    refine hK.out _ _ (hS) ?_
    clear hK K
    try simp only [Act.put, List.setIfInBounds_toArray, List.set_cons_zero, List.set_cons_succ]
    repeat (first | (refine Seq.Seq.skip (by rfl) ?_; (try simp only [Act.put, List.setIfInBounds_toArray, List.set_cons_zero, List.set_cons_succ])) | (refine Seq.Seq.det ?_ (by rfl) (fun w hS => ?_) ?_; rotate_left; ((try dsimp only at hS); go_simp; (try rw [if_pos (by omega)]); with_reducible rfl); (try simp only [Act.put, List.setIfInBounds_toArray, List.set_cons_zero, List.set_cons_succ])))
    refine Seq.Seq.make (by rfl) (by rfl) (fun K Q' hK => ?_)
    go_simp
    go_at_call 26
    have hon := rone_any x A4 EZ.length m4 EZ x A5 EZ.length m5 EZ v2 hu4 hu5 (by omega) (by omega)
    rw [show decide (((x, EZ) : Lk) = (x, EZ)) = true from decide_eq_true rfl] at hon
    refine hon.mono ?_
    rintro en v3 ⟨rfl, hc1⟩
    replace hbd := hbd.trans (hc1.mono hbd.size)
    replace hS := hS.below hc1
    clear hc1 hu4 hu5 hon
    refine hK.out _ _ (hS) ?_
    clear hK K
    try simp only [Act.put, List.setIfInBounds_toArray, List.set_cons_zero, List.set_cons_succ]
    repeat (first | (refine Seq.Seq.skip (by rfl) ?_; (try simp only [Act.put, List.setIfInBounds_toArray, List.set_cons_zero, List.set_cons_succ])) | (refine Seq.Seq.det ?_ (by rfl) (fun w hS => ?_) ?_; rotate_left; ((try dsimp only at hS); go_simp; (try rw [if_pos (by omega)]); with_reducible rfl); (try simp only [Act.put, List.setIfInBounds_toArray, List.set_cons_zero, List.set_cons_succ])))
    refine Seq.Seq.make (by rfl) (by rfl) (fun K Q' hK => ?_)
    go_simp
    go_at_call 29
    refine (HWC.out _ hbd).mono ?_
    rintro en v4 ⟨A6, m6, rfl, hc1, hl6⟩
    replace hbd := hbd.trans (hc1.mono hbd.size)
    replace hS := hS.below hc1
    clear hc1
    refine hK.out _ _ (hS) ?_
    clear hK K
    try simp only [Act.put, List.setIfInBounds_toArray, List.set_cons_zero, List.set_cons_succ]
    repeat (first | (refine Seq.Seq.skip (by rfl) ?_; (try simp only [Act.put, List.setIfInBounds_toArray, List.set_cons_zero, List.set_cons_succ])) | (refine Seq.Seq.det ?_ (by rfl) (fun w hS => ?_) ?_; rotate_left; ((try dsimp only at hS); go_simp; (try rw [if_pos (by omega)]); with_reducible rfl); (try simp only [Act.put, List.setIfInBounds_toArray, List.set_cons_zero, List.set_cons_succ])))
    refine Seq.Seq.make (by rfl) (by rfl) (fun K Q' hK => ?_)
    go_simp
    go_at_call 30
    refine (HWR.out _ hbd).mono ?_
    rintro en v5 ⟨A7, m7, rfl, hc1, hl7⟩
    replace hbd := hbd.trans (hc1.mono hbd.size)
    replace hS := hS.below hc1
    replace hl6 := hl6.below hc1
    clear hc1
    refine hK.out _ _ (hS) ?_
    clear hK K
    try simp only [Act.put, List.setIfInBounds_toArray, List.set_cons_zero, List.set_cons_succ]
    repeat (first | (refine Seq.Seq.skip (by rfl) ?_; (try simp only [Act.put, List.setIfInBounds_toArray, List.set_cons_zero, List.set_cons_succ])) | (refine Seq.Seq.det ?_ (by rfl) (fun w hS => ?_) ?_; rotate_left; ((try dsimp only at hS); go_simp; (try rw [if_pos (by omega)]); with_reducible rfl); (try simp only [Act.put, List.setIfInBounds_toArray, List.set_cons_zero, List.set_cons_succ])))
    refine Seq.Seq.make (by rfl) (by rfl) (fun K Q' hK => ?_)
    go_simp
    go_at_call 21
    have hsm := rlsame_any _ _ A6 A7 NW NW m6 m7 W W v5 hl6 hl7 (by omega) (by omega) HWB.out HWB.out
    rw [show decide (W = W) = true from decide_eq_true rfl] at hsm
    refine hsm.mono ?_
    rintro en v6 ⟨rfl, hc1⟩
    replace hbd := hbd.trans (hc1.mono hbd.size)
    replace hS := hS.below hc1
    clear hc1 hl6 hl7 hsm
    refine hK.out _ _ (hS) ?_
    clear hK K
    try simp only [Act.put, List.setIfInBounds_toArray, List.set_cons_zero, List.set_cons_succ]
    repeat (first | (refine Seq.Seq.skip (by rfl) ?_; (try simp only [Act.put, List.setIfInBounds_toArray, List.set_cons_zero, List.set_cons_succ])) | (refine Seq.Seq.det ?_ (by rfl) (fun w hS => ?_) ?_; rotate_left; ((try dsimp only at hS); go_simp; (try rw [if_pos (by omega)]); with_reducible rfl); (try simp only [Act.put, List.setIfInBounds_toArray, List.set_cons_zero, List.set_cons_succ])))
    refine Seq.Seq.nil ?_
    have hSD := hS.below (below_one' v6)
    have hbD := hbd.trans ((below_one' v6).mono hbd.size)
    clear hS hbd
    go_wp2
    refine Seq.wp_region_seq (fun w' => LcS w.heap.size yb (lkc x B nb cb) (lkc y A3 zy.length m3) w') (by kernel_rfl) (by kernel_rfl) hSD ?_
    generalize v6.drew = wd at *
    have hS := hSD
    have hbd := hbD
    clear hSD hbD
    repeat (first | (refine Seq.Seq.skip (by rfl) ?_; (try simp only [Act.put, List.setIfInBounds_toArray, List.set_cons_zero, List.set_cons_succ])) | (refine Seq.Seq.det ?_ (by rfl) (fun w hS => ?_) ?_; rotate_left; ((try dsimp only at hS); go_simp; (try rw [if_pos (by omega)]); with_reducible rfl); (try simp only [Act.put, List.setIfInBounds_toArray, List.set_cons_zero, List.set_cons_succ])))
    refine Seq.Seq.make (by rfl) (by rfl) (fun K Q' hK => ?_)
    go_simp
    go_at_call 31
    have hsm := lsame_any _ _ _ _ n n m m L L wd (HZ.out.below hbd) (HZ.out.below hbd) (by omega) (by omega) HBM.out HBM.out
    rw [show decide (L = L) = true from decide_eq_true rfl] at hsm
    refine hsm.mono ?_
    rintro en v7 ⟨rfl, hc1⟩
    replace hbd := hbd.trans (hc1.mono hbd.size)
    replace hS := hS.below hc1
    clear hc1 hsm
    refine hK.out _ _ (hS) ?_
    clear hK K
    try simp only [Act.put, List.setIfInBounds_toArray, List.set_cons_zero, List.set_cons_succ]
    repeat (first | (refine Seq.Seq.skip (by rfl) ?_; (try simp only [Act.put, List.setIfInBounds_toArray, List.set_cons_zero, List.set_cons_succ])) | (refine Seq.Seq.det ?_ (by rfl) (fun w hS => ?_) ?_; rotate_left; ((try dsimp only at hS); go_simp; (try rw [if_pos (by omega)]); with_reducible rfl); (try simp only [Act.put, List.setIfInBounds_toArray, List.set_cons_zero, List.set_cons_succ])))
    refine Seq.Seq.make (by rfl) (by rfl) (fun K Q' hK => ?_)
    go_simp
    go_at_call 32
    refine (HCP.out _ hbd).mono ?_
    rintro en v8 ⟨A8, m8, rfl, hc1, hl8⟩
    replace hbd := hbd.trans (hc1.mono hbd.size)
    replace hS := hS.below hc1
    clear hc1
    refine hK.out _ _ (hS) ?_
    clear hK K
    try simp only [Act.put, List.setIfInBounds_toArray, List.set_cons_zero, List.set_cons_succ]
    repeat (first | (refine Seq.Seq.skip (by rfl) ?_; (try simp only [Act.put, List.setIfInBounds_toArray, List.set_cons_zero, List.set_cons_succ])) | (refine Seq.Seq.det ?_ (by rfl) (fun w hS => ?_) ?_; rotate_left; ((try dsimp only at hS); go_simp; (try rw [if_pos (by omega)]); with_reducible rfl); (try simp only [Act.put, List.setIfInBounds_toArray, List.set_cons_zero, List.set_cons_succ])))
    refine Seq.Seq.make (by rfl) (by rfl) (fun K Q' hK => ?_)
    go_simp
    go_at_call 21
    have hsm := rlsame_any _ _ A8 _ n n m8 m L L v8 hl8 (HZ.out.below hbd) (by omega) (by omega) HBM.out HBM.out
    rw [show decide (L = L) = true from decide_eq_true rfl] at hsm
    refine hsm.mono ?_
    rintro en v9 ⟨rfl, hc1⟩
    replace hbd := hbd.trans (hc1.mono hbd.size)
    replace hS := hS.below hc1
    clear hc1 hl8 hsm
    refine hK.out _ _ (hS) ?_
    clear hK K
    try simp only [Act.put, List.setIfInBounds_toArray, List.set_cons_zero, List.set_cons_succ]
    repeat (first | (refine Seq.Seq.skip (by rfl) ?_; (try simp only [Act.put, List.setIfInBounds_toArray, List.set_cons_zero, List.set_cons_succ])) | (refine Seq.Seq.det ?_ (by rfl) (fun w hS => ?_) ?_; rotate_left; ((try dsimp only at hS); go_simp; (try rw [if_pos (by omega)]); with_reducible rfl); (try simp only [Act.put, List.setIfInBounds_toArray, List.set_cons_zero, List.set_cons_succ])))
    refine Seq.Seq.make (by rfl) (by rfl) (fun K Q' hK => ?_)
    go_simp
    go_at_call 29
    refine (HWC.out _ hbd).mono ?_
    rintro en v10 ⟨A6, m6, rfl, hc1, hl6⟩
    replace hbd := hbd.trans (hc1.mono hbd.size)
    replace hS := hS.below hc1
    clear hc1
    refine hK.out _ _ (hS) ?_
    clear hK K
    try simp only [Act.put, List.setIfInBounds_toArray, List.set_cons_zero, List.set_cons_succ]
    repeat (first | (refine Seq.Seq.skip (by rfl) ?_; (try simp only [Act.put, List.setIfInBounds_toArray, List.set_cons_zero, List.set_cons_succ])) | (refine Seq.Seq.det ?_ (by rfl) (fun w hS => ?_) ?_; rotate_left; ((try dsimp only at hS); go_simp; (try rw [if_pos (by omega)]); with_reducible rfl); (try simp only [Act.put, List.setIfInBounds_toArray, List.set_cons_zero, List.set_cons_succ])))
    refine Seq.Seq.make (by rfl) (by rfl) (fun K Q' hK => ?_)
    go_simp
    go_at_call 31
    have hsm := lsame_any _ _ _ A6 n NW m m6 L W v10 (HZ.out.below hbd) hl6 (by omega) (by omega) HBM.out HWB.out
    obtain ⟨dv, hdv⟩ : ∃ dv, dv = decide (L = W) := ⟨_, rfl⟩
    rw [← hdv] at hsm
    have HDV := Lib.hid hdv
    clear hdv
    refine hsm.mono ?_
    rintro en v11 ⟨rfl, hc1⟩
    replace hbd := hbd.trans (hc1.mono hbd.size)
    replace hS := hS.below hc1
    clear hc1 hl6 hsm
    refine hK.out _ _ (hS) ?_
    clear hK K
    try simp only [Act.put, List.setIfInBounds_toArray, List.set_cons_zero, List.set_cons_succ]
    repeat (first | (refine Seq.Seq.skip (by rfl) ?_; (try simp only [Act.put, List.setIfInBounds_toArray, List.set_cons_zero, List.set_cons_succ])) | (refine Seq.Seq.det ?_ (by rfl) (fun w hS => ?_) ?_; rotate_left; ((try dsimp only at hS); go_simp; (try rw [if_pos (by omega)]); with_reducible rfl); (try simp only [Act.put, List.setIfInBounds_toArray, List.set_cons_zero, List.set_cons_succ])))
    refine Seq.Seq.make (by rfl) (by rfl) (fun K Q' hK => ?_)
    go_simp
    go_at_call 30
    refine (HWR.out _ hbd).mono ?_
    rintro en v12 ⟨A7, m7, rfl, hc1, hl7⟩
    replace hbd := hbd.trans (hc1.mono hbd.size)
    replace hS := hS.below hc1
    clear hc1
    refine hK.out _ _ (hS) ?_
    clear hK K
    try simp only [Act.put, List.setIfInBounds_toArray, List.set_cons_zero, List.set_cons_succ]
    repeat (first | (refine Seq.Seq.skip (by rfl) ?_; (try simp only [Act.put, List.setIfInBounds_toArray, List.set_cons_zero, List.set_cons_succ])) | (refine Seq.Seq.det ?_ (by rfl) (fun w hS => ?_) ?_; rotate_left; ((try dsimp only at hS); go_simp; (try rw [if_pos (by omega)]); with_reducible rfl); (try simp only [Act.put, List.setIfInBounds_toArray, List.set_cons_zero, List.set_cons_succ])))
    refine Seq.Seq.make (by rfl) (by rfl) (fun K Q' hK => ?_)
    go_simp
    go_at_call 21
    have hsm := rlsame_any _ _ _ A7 n NW m m7 L W v12 (HZ.out.below hbd) hl7 (by omega) (by omega) HBM.out HWB.out
    rw [← HDV.out] at hsm
    refine hsm.mono ?_
    rintro en v13 ⟨rfl, hc1⟩
    replace hbd := hbd.trans (hc1.mono hbd.size)
    replace hS := hS.below hc1
    clear hc1 hl7 hsm
    have e99 : (dv == dv) = true := by simp
    refine hK.out _ _ (hS) ?_
    clear hK K
    try simp only [Act.put, List.setIfInBounds_toArray, List.set_cons_zero, List.set_cons_succ]
    repeat (first | (refine Seq.Seq.skip (by rfl) ?_; (try simp only [Act.put, List.setIfInBounds_toArray, List.set_cons_zero, List.set_cons_succ])) | (refine Seq.Seq.det ?_ (by rfl) (fun w hS => ?_) ?_; rotate_left; ((try dsimp only at hS); go_simp; (try rw [if_pos (by omega)]); with_reducible rfl); (try simp only [Act.put, List.setIfInBounds_toArray, List.set_cons_zero, List.set_cons_succ])))
    refine Seq.Seq.make (by rfl) (by rfl) (fun K Q' hK => ?_)
    go_simp
    go_at_call 8
    refine (live23_any _).mono ?_
    rintro en v14 ⟨rfl, hc1⟩
    replace hbd := hbd.trans (hc1.mono hbd.size)
    replace hS := hS.below hc1
    clear hc1
    refine hK.out _ _ (hS) ?_
    clear hK K
    try simp only [Act.put, List.setIfInBounds_toArray, List.set_cons_zero, List.set_cons_succ]
    repeat (first | (refine Seq.Seq.skip (by rfl) ?_; (try simp only [Act.put, List.setIfInBounds_toArray, List.set_cons_zero, List.set_cons_succ])) | (refine Seq.Seq.det ?_ (by rfl) (fun w hS => ?_) ?_; rotate_left; ((try dsimp only at hS); go_simp; (try rw [if_pos (by omega)]); with_reducible rfl); (try simp only [Act.put, List.setIfInBounds_toArray, List.set_cons_zero, List.set_cons_succ])))
    refine Seq.Seq.nil ?_
    clear hS L0
    go_wp2
    go_ret
    exact ⟨rfl, hbd⟩

set_option maxRecDepth 100000 in
theorem lifted (os : Os) (started : os.Started) (H : Type) (enc : TypeId × Value → H) :
    ReturnsInHanded {} Try.checked os 5 .any (Rows.linkChangesSpec.pre6 enc Try.prog Try.f5 Rows.linkChangesRow.domain false) (Rows.linkChangesSpec.post enc Try.prog Try.f5 false true false false) := by
  refine returnsInHanded_of_change (C := Try.checked) own started (by kernel_rfl) Try.func5
    (ChangeSpec.witness6 (enc := enc) (C := Try.checked) false ⟨#[], #[.slice none 0 0, .agg #[.int .u64 0, .slice none 0 0], .int .u64 0], []⟩ 8 (by kernel_rfl) (by kernel_rfl) (by kernel_rfl) (by kernel_rfl)) ?_
  intro W base args ds gs before hval0 hW hcnd _
  have hval : ∀ (j : Nat) t v, Try.f5.params[j]? = some t → args[j]? = some v → Value.okWide Try.prog W .any base t v := hval0
  have hW' := hW
  obtain ⟨p, q, hA0, hV, rfl, hfz, hnd⟩ := hW
  have hA : DataW.TrodAll enc Try.prog W 0 (fun _ => true) true Try.f5.params.toList args.toList ds p := hA0
  rw [Try.params5] at hA hval
  obtain ⟨v0, vs0, d0, ds0, p0, q0, hargs, rfl, rfl, h0, r0⟩ := trodAll_cons hA
  obtain ⟨v1, vs1, d1, ds1, p1, q1, rfl, rfl, rfl, h1, r1⟩ := trodAll_cons r0
  obtain ⟨v2, vs2, d2, ds2, p2, q2, rfl, rfl, rfl, h2, r2⟩ := trodAll_cons r1
  obtain ⟨rfl, rfl, rfl⟩ := trodAll_nil r2
  obtain rfl : args = #[v0, v1, v2] := by cases args; simp_all
  obtain ⟨rfl, rfl⟩ := trodVars_none hV
  have lt0 : ∀ x ∈ p0, x.block < W.heap.size := by obtain ⟨m, hm⟩ := h0; exact DataW.trod_lt m _ _ _ hm
  have lt1 : ∀ x ∈ p1, x.block < W.heap.size := by obtain ⟨m, hm⟩ := h1; exact DataW.trod_lt m _ _ _ hm
  have lt2 : ∀ x ∈ p2, x.block < W.heap.size := by obtain ⟨m, hm⟩ := h2; exact DataW.trod_lt m _ _ _ hm
  clear hA0 hval0
  refine (walk enc W base v0 d0 p0 (hval 0 23 v0 rfl rfl) h0 v1 d1 p1 (hval 1 53 v1 rfl rfl) h1 v2 d2 p2 (hval 2 22 v2 rfl rfl) h2).mono fun e W' ⟨he, bel⟩ => ?_
  subst he
  exact ⟨_, rfl, _, _, _, [], _, [], hW', trodAll_mk1 (shut_bool Try.underlying4 _), (trodAll_cons_mk (Below.trod laidOut (by kernel_rfl) (of_decide_eq_true (by kernel_rfl)) h0 bel lt0) (trodAll_cons_mk (Below.trod laidOut (by kernel_rfl) (of_decide_eq_true (by kernel_rfl)) h1 bel lt1) (trodAll_cons_mk (Below.trod laidOut (by kernel_rfl) (of_decide_eq_true (by kernel_rfl)) h2 bel lt2) trodAll_mk0))), rfl, bel.frame _, fun h => by cases h⟩

theorem over : Rows.linkChangesRow.holds Try.pinned (OpenSpec.ofChange Rows.linkChangesSpec) :=
  OpenClaim.holds_of_wide 5 Try.f5 rfl rfl rfl rfl rfl rfl rfl ⟨rfl, rfl, rfl, rfl, rfl⟩ rfl rfl rfl rfl rfl (by kernel_rfl) Try.func5 (by kernel_rfl)
    (of_decide_eq_true (by kernel_rfl)) (by unfold Func.isWrapper; first | (rw [if_pos (by decide +kernel)]; kernel_rfl) | (rw [if_neg (by decide +kernel)]; exact ⟨rfl, rfl⟩))
    (fun os started H enc _ => lifted os started H enc)

/-- THE STATEMENT. -/
theorem proved : Rows.LinkChangesSaid := over
#print axioms proved
end Go.Proofs.Ytbdelphocjdiiaa.linkChanges

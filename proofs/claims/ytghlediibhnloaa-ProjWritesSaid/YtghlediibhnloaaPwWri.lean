/- ProjWrites: called with any two projections and any bytes, the law returns true; no condition. -/
import Derived.Test.YtghlediibhnloaaRows
import Derived.Test.YtghlediibhnloaaPrjE
import Derived.Test.YtghlediibhnloaaPrjD
import Derived.Test.YtghlediibhnloaaPrjG
import Derived.Test.YtghlediibhnloaaPrjK
import Derived.Test.YtghlediibhnloaaPrjL
import Derived.Test.YtghlediibhnloaaK1
import Derived.ProofKit
import Derived.OpenShut
import Derived.ShutString
import Derived.ChangeOld
namespace Go.Proofs.Ytghlediibhnloaa.projWrites
open Go.ChangeShapes Go.WideShapes Go.ChangeAt Go.RowKit
open Go.ChangeMaps (open_string shut_string)
set_option linter.unusedVariables false

theorem own : ownKnob Try.prog.godebug = none := by kernel_rfl
theorem laidOut : laidOutB Try.prog = true := by kernel_rfl
open Cur Mem

set_option maxRecDepth 100000

theorem own_row {w : World} {g B : Nat} {z : List Int} (h : Blk w g (z.map (Value.int .u8)).toArray 5) (hB : B ≤ g) (hm : z.length ≤ 1000000) : Own w B (.slice (some ⟨g, 0, none⟩) z.length z.length) z :=
  ⟨by simp, .inr ⟨g, z.length, _, rfl, hB, h, Nat.le_refl _, by simp only [maxLen]; omega, by simp, by rw [Nat.mul_one]; exact List.take_of_length_le (by simp)⟩⟩
theorem own_parts {w : World} {B : Nat} {v : Value} {z : List Int} (h : Own w B v z) : ∃ A c, v = .slice A z.length c ∧ Bs w A z.length z ∧ (A = none → c = 0) ∧ z.length ≤ c := by
  obtain ⟨A, c, rfl, h0, h1⟩ := own_slice h
  exact ⟨A, c, rfl, h.bs.2, h0, h1⟩
theorem prb_byte {x : Prj} (h : prok x = true) (hb : pbd x.2) : ∀ b ∈ prb x, 0 ≤ b ∧ b < 256 := fun b hm => by
  obtain ⟨k1, k2, k3, k4⟩ := prok_parts h
  have := epk_bd k1
  unfold prb at hm
  rcases List.mem_append.1 hm with hm | hm
  · rcases List.mem_append.1 hm with hm | hm
    · exact vz_byte _ (by omega) (by omega) b hm
    · exact vz_byte _ (by omega) (by omega) b hm
  · exact psb_byte (Int.le_refl _) k4 hb b hm
theorem plen_mono {M N : Nat} {L : List Stp} (h : plen M L) (hM : M ≤ N) : plen N L := fun s hs => ⟨Nat.le_trans (h s hs).1 hM, fun l hl => Nat.le_trans ((h s hs).2 l hl) hM⟩
/-- What the loads need. -/
def S1 (W : Nat) (x y : Array Value) (w' : World) : Prop := Blk w' W x 25 ∧ Blk w' (W + 1) y 25
theorem S1.below {W : Nat} {x y : Array Value} {w' w'' : World} (h : S1 W x y w') (hb : Below w'.heap.size w' w'') : S1 W x y w'' := ⟨h.1.below hb, h.2.below hb⟩


set_option maxHeartbeats 16000000 in
theorem walk {H : Type} (enc : TypeId × Value → H) (w : World) (base : Nat) (v0 : Value) (d0 : DataW H) (p0 : List MemPlace) (g0 : Value.okWide Try.prog w .any base 25 v0) (h0 : DataW.Trod enc Try.prog w 0 (fun _ => true) true 25 v0 d0 p0) (v1 : Value) (d1 : DataW H) (p1 : List MemPlace) (g1 : Value.okWide Try.prog w .any base 25 v1) (h1 : DataW.Trod enc Try.prog w 0 (fun _ => true) true 25 v1 d1 p1) (v2 : Value) (d2 : DataW H) (p2 : List MemPlace) (g2 : Value.okWide Try.prog w .any base 26 v2) (h2 : DataW.Trod enc Try.prog w 0 (fun _ => true) true 26 v2 d2 p2) :
    Calls Try.prog 3 #[v0, v1, v2] w fun e w' => e = .returned (.bool true) ∧ Below w.heap.size w w' := by
  obtain ⟨e, A, n, m, L, rfl, ⟨e0, e1⟩, hm, hnil, hz⟩ := open_prj g0 h0
  obtain ⟨e2, B, k, c, M, rfl, ⟨e20, e21⟩, hm2, hnil2, hz2⟩ := open_prj g1 h1
  obtain ⟨a, r, mm, z, rfl, hrm, hzb, hby, hnilb⟩ := open_bytes g2 h2
  clear g0 h0 g1 h1 g2 h2
  have hX := (Blk.new w (prc e A n m) 25).alloc (.cells (prc e2 B k c) 25)
  have hY := Blk.new (w.alloc (.cells (prc e A n m) 25)) (prc e2 B k c) 25
  rw [show (w.alloc (.cells (prc e A n m) 25)).heap.size = w.heap.size + 1 by simp] at hY
  have h2 : S1 w.heap.size (prc e A n m) (prc e2 B k c) _ := ⟨hX, hY⟩
  have hbd := below_two w (.cells (prc e A n m) 25) (.cells (prc e2 B k c) 25)
  have HZ := Lib.hid hz
  have HZ2 := Lib.hid hz2
  have HZB := Lib.hid hzb
  have HBY := Lib.hid hby
  have HM := Lib.hid hm
  have HNIL := Lib.hid hnil
  have HNILB := Lib.hid hnilb
  have HSB := Lib.hid hz.bds
  clear hX hY hz hz2 hzb hby hm hnil hm2 hnil2 hnilb
  obtain ⟨x0, x1⟩ := h2.1.c2
  go_enter Try.func3, Try.ntmps3
  go_wp2_with fail
  generalize (w.alloc (.cells (prc e A n m) 25)).alloc (.cells (prc e2 B k c) 25) = w0 at *
  refine (long20_any _ e A n m L _ (HZ.out.below hbd)).mono ?_
  rintro en w1 ⟨b1, rfl, hb1, hl1⟩
  replace h2 := h2.below hb1
  replace hbd := hbd.trans (hb1.mono hbd.size)
  clear hb1 x0 x1
  cases b1
  case true =>
    clear hl1 h2
    go_wp2_with fail
    refine (live20_any _).mono ?_
    rintro en wl ⟨rfl, hbl⟩
    replace hbd := hbd.trans (hbl.mono hbd.size)
    go_wp2
    go_ret
    exact ⟨rfl, hbd⟩
  obtain ⟨hn20, hl20⟩ := hl1 rfl
  have HL20 := Lib.hid hl20
  have HLN : Hid (plen 1000000 L) := Lib.hid (plen_mono hl20 (by omega))
  clear hl1 hl20
  obtain ⟨x0, x1⟩ := h2.2.c2
  go_wp2_with fail
  refine (long20_any _ e2 B k c M _ (HZ2.out.below hbd)).mono ?_
  rintro en w2 ⟨b2, rfl, hb2, hl2⟩
  replace h2 := h2.below hb2
  replace hbd := hbd.trans (hb2.mono hbd.size)
  clear hb2 x0 x1
  cases b2
  case true =>
    clear hl2 h2
    go_wp2_with fail
    refine (live20_any _).mono ?_
    rintro en wl ⟨rfl, hbl⟩
    replace hbd := hbd.trans (hbl.mono hbd.size)
    go_wp2
    go_ret
    exact ⟨rfl, hbd⟩
  obtain ⟨hk20, hl220⟩ := hl2 rfl
  have HLN2 : Hid (plen 1000000 M) := Lib.hid (plen_mono hl220 (by omega))
  clear hl2 hl220
  by_cases hr : 300 < (r : Int)
  · clear h2
    go_wp2_with fail
    refine (live20_any _).mono ?_
    rintro en wl ⟨rfl, hbl⟩
    replace hbd := hbd.trans (hbl.mono hbd.size)
    go_wp2
    go_ret
    exact ⟨rfl, hbd⟩
  obtain ⟨x0, x1⟩ := h2.1.c2
  have hW := hbd.size
  go_wp2_with fail
  refine (prbytes_any _ e A n m L _ (HZ.out.below hbd) (fun b hb9 => by have h9 : b < w.heap.size := hb9; omega) (by omega) HLN.out).mono ?_
  rintro en w3 ⟨hb3, ⟨hok, g, rfl, hgw, hbs⟩ | ⟨hok, rfl⟩⟩
  case inr =>
    -- not valid
    have HOK := Lib.hid hok
    replace h2 := h2.below hb3
    replace hbd := hbd.trans (hb3.mono hbd.size)
    clear hb3 x0 x1 hok
    go_wp2_with fail
    refine (wnew_any 65536 _ (by omega)).mono ?_
    rintro en w4 ⟨b, rfl, hg4, hb4, hw4⟩
    rw [if_neg (by omega)] at hw4
    have hB0 := hbd.size
    have hl2 := h2.1.lt
    have hl3 := h2.2.lt
    replace h2 := h2.below hb4
    replace hbd := hbd.trans (hb4.mono hbd.size)
    obtain ⟨x0, x1⟩ := h2.1.c2
    clear hb4
    go_wp2_with fail
    refine (prput_no _ e A n m L HOK.out hw4 (HZ.out.below hbd) (by omega) HLN.out).mono ?_
    rintro en w5 ⟨rfl, hk5, hw5⟩
    rw [if_pos rfl] at hw5
    replace h2 : S1 w.heap.size (prc e A n m) (prc e2 B k c) w5 := ⟨h2.1.ks hk5 (Wr.off_lt hw4 hl2), h2.2.ks hk5 (Wr.off_lt hw4 hl3)⟩
    replace hbd := hw4.belowOf hbd (Nat.le_refl _) hk5 hB0
    clear hk5 hw4 x0 x1
    go_wp2_with fail
    refine (wbytes_bad hw5 (by decide)).mono ?_
    rintro en w6 ⟨rfl, rfl⟩
    clear hw5
    go_wp2_with fail
    refine (same_any none none 0 0 0 0 [] _ (Bs.none _) (Bs.none _)).mono ?_
    rintro en w6 ⟨rfl, rfl⟩
    go_wp2
    have hch := below_one' w5
    have hbw := hbd.trans ((below_one' _).mono hbd.size)
    have hS : S1 w.heap.size (prc e A n m) (prc e2 B k c) _ := h2.below (below_one' _)
    have L1 : ∀ w', S1 w.heap.size (prc e A n m) (prc e2 B k c) w' → w'.cell? ⟨w.heap.size, 0, none⟩ = some (.int .u64 e) ∧ w'.cell? ⟨w.heap.size, 1, none⟩ = some (.slice A n m) := fun w' h => h.1.c2
    have L2 : ∀ w', S1 w.heap.size (prc e A n m) (prc e2 B k c) w' → w'.cell? ⟨w.heap.size + 1, 0, none⟩ = some (.int .u64 e2) ∧ w'.cell? ⟨w.heap.size + 1, 1, none⟩ = some (.slice B k c) := fun w' h => h.2.c2
    have HSA := Lib.hid (fun w' (h : Below w.heap.size w w') => prsame_any _ _ e A n m L e2 B k c M w' (HZ.out.below h) (HZ2.out.below h) (by omega) (by omega) HLN.out HLN2.out)
    have HRS := Lib.hid (fun w' (h : Below w.heap.size w w') => rprsame_any _ _ e A n m L e2 B k c M w' (HZ.out.below h) (HZ2.out.below h) (by omega) (by omega) HLN.out HLN2.out)
    unfold BPost at HSA HRS
    generalize decide ((e, L) = (e2, M)) = V at HSA HRS
    clear h2
    refine Seq.wp_region_seq (S1 w.heap.size (prc e A n m) (prc e2 B k c)) (by kernel_rfl) (by kernel_rfl) hS ?_
    repeat (first | (refine Seq.Seq.skip (by rfl) ?_; (try simp only [Act.put, List.setIfInBounds_toArray, List.set_cons_zero, List.set_cons_succ])) | (refine Seq.Seq.det ?_ (by rfl) (fun w hS => ?_) ?_; rotate_left; ((try dsimp only at hS); go_simp; (try rw [if_pos (by omega)]); with_reducible rfl); (try simp only [Act.put, List.setIfInBounds_toArray, List.set_cons_zero, List.set_cons_succ])))
    refine Seq.Seq.make (by rfl) (by rfl) (fun K Q' hK => ?_)
    go_simp
    go_at_call 14
    refine (prright_any _ e A n m L _ (HZ.out.below hbw) (by omega) HLN.out).mono ?_
    rintro en v1 ⟨rfl, hc1⟩
    rw [HOK.out]
    replace hS := hS.below hc1
    replace hbw := hbw.trans (hc1.mono hbw.size)
    replace hch := hch.trans (hc1.mono hch.size)
    refine hK.out _ _ (hS) ?_
    clear hK K
    try simp only [Act.put, List.setIfInBounds_toArray, List.set_cons_zero, List.set_cons_succ]
    repeat (first | (refine Seq.Seq.skip (by rfl) ?_; (try simp only [Act.put, List.setIfInBounds_toArray, List.set_cons_zero, List.set_cons_succ])) | (refine Seq.Seq.det ?_ (by rfl) (fun w hS => ?_) ?_; rotate_left; ((try dsimp only at hS); go_simp; (try rw [if_pos (by omega)]); with_reducible rfl); (try simp only [Act.put, List.setIfInBounds_toArray, List.set_cons_zero, List.set_cons_succ])))
    refine Seq.Seq.make (by rfl) (by rfl) (fun K Q' hK => ?_)
    go_simp
    go_at_call 15
    refine (rprright_any _ e A n m L _ (HZ.out.below hbw) (by omega) HLN.out e0).mono ?_
    rintro en v2 ⟨rfl, hc2⟩
    rw [HOK.out]
    replace hS := hS.below hc2
    replace hbw := hbw.trans (hc2.mono hbw.size)
    replace hch := hch.trans (hc2.mono hch.size)
    refine hK.out _ _ (hS) ?_
    clear hK K
    try simp only [Act.put, List.setIfInBounds_toArray, List.set_cons_zero, List.set_cons_succ]
    repeat (first | (refine Seq.Seq.skip (by rfl) ?_; (try simp only [Act.put, List.setIfInBounds_toArray, List.set_cons_zero, List.set_cons_succ])) | (refine Seq.Seq.det ?_ (by rfl) (fun w hS => ?_) ?_; rotate_left; ((try dsimp only at hS); go_simp; (try rw [if_pos (by omega)]); with_reducible rfl); (try simp only [Act.put, List.setIfInBounds_toArray, List.set_cons_zero, List.set_cons_succ])))
    refine Seq.Seq.make (by rfl) (by rfl) (fun K Q' hK => ?_)
    go_simp
    go_at_call 16
    refine (HSA.out _ hbw).mono ?_
    rintro en v3 ⟨rfl, hc3⟩
    replace hS := hS.below hc3
    replace hbw := hbw.trans (hc3.mono hbw.size)
    replace hch := hch.trans (hc3.mono hch.size)
    refine hK.out _ _ (hS) ?_
    clear hK K
    try simp only [Act.put, List.setIfInBounds_toArray, List.set_cons_zero, List.set_cons_succ]
    repeat (first | (refine Seq.Seq.skip (by rfl) ?_; (try simp only [Act.put, List.setIfInBounds_toArray, List.set_cons_zero, List.set_cons_succ])) | (refine Seq.Seq.det ?_ (by rfl) (fun w hS => ?_) ?_; rotate_left; ((try dsimp only at hS); go_simp; (try rw [if_pos (by omega)]); with_reducible rfl); (try simp only [Act.put, List.setIfInBounds_toArray, List.set_cons_zero, List.set_cons_succ])))
    refine Seq.Seq.make (by rfl) (by rfl) (fun K Q' hK => ?_)
    go_simp
    go_at_call 17
    refine (HRS.out _ hbw).mono ?_
    rintro en v4 ⟨rfl, hc4⟩
    replace hS := hS.below hc4
    replace hbw := hbw.trans (hc4.mono hbw.size)
    replace hch := hch.trans (hc4.mono hch.size)
    refine hK.out _ _ (hS) ?_
    clear hK K
    try simp only [Act.put, List.setIfInBounds_toArray, List.set_cons_zero, List.set_cons_succ]
    repeat (first | (refine Seq.Seq.skip (by rfl) ?_; (try simp only [Act.put, List.setIfInBounds_toArray, List.set_cons_zero, List.set_cons_succ])) | (refine Seq.Seq.det ?_ (by rfl) (fun w hS => ?_) ?_; rotate_left; ((try dsimp only at hS); go_simp; (try rw [if_pos (by omega)]); with_reducible rfl); (try simp only [Act.put, List.setIfInBounds_toArray, List.set_cons_zero, List.set_cons_succ])))
    refine Seq.Seq.make (by rfl) (by rfl) (fun K Q' hK => ?_)
    go_simp
    go_at_call 18
    have hsz4 := hbw.size
    refine (prcopy_any e A n m L _ ((HZ.out.below hbw).mono fun b hb9 _ => by omega) HM.out HNIL.out (by omega) (plen_mono HL20.out (by omega))).mono ?_
    rintro en v5 ⟨A5, m5, rfl, hc5, hpt5, hle5, _⟩
    replace hS := hS.below hc5
    replace hbw := hbw.trans (hc5.mono hbw.size)
    replace hch := hch.trans (hc5.mono hch.size)
    refine hK.out _ _ (hS) ?_
    clear hK K
    try simp only [Act.put, List.setIfInBounds_toArray, List.set_cons_zero, List.set_cons_succ]
    repeat (first | (refine Seq.Seq.skip (by rfl) ?_; (try simp only [Act.put, List.setIfInBounds_toArray, List.set_cons_zero, List.set_cons_succ])) | (refine Seq.Seq.det ?_ (by rfl) (fun w hS => ?_) ?_; rotate_left; ((try dsimp only at hS); go_simp; (try rw [if_pos (by omega)]); with_reducible rfl); (try simp only [Act.put, List.setIfInBounds_toArray, List.set_cons_zero, List.set_cons_succ])))
    refine Seq.Seq.make (by rfl) (by rfl) (fun K Q' hK => ?_)
    go_simp
    go_at_call 17
    refine (rprsame_any _ _ e A5 n m5 L e A n m L _ hpt5 (HZ.out.below hbw) (by omega) (by omega) HLN.out HLN.out).mono ?_
    rintro en v6 ⟨rfl, hc6⟩
    rw [decide_eq_true rfl]
    replace hS := hS.below hc6
    replace hbw := hbw.trans (hc6.mono hbw.size)
    replace hch := hch.trans (hc6.mono hch.size)
    refine hK.out _ _ (hS) ?_
    clear hK K
    try simp only [Act.put, List.setIfInBounds_toArray, List.set_cons_zero, List.set_cons_succ]
    repeat (first | (refine Seq.Seq.skip (by rfl) ?_; (try simp only [Act.put, List.setIfInBounds_toArray, List.set_cons_zero, List.set_cons_succ])) | (refine Seq.Seq.det ?_ (by rfl) (fun w hS => ?_) ?_; rotate_left; ((try dsimp only at hS); go_simp; (try rw [if_pos (by omega)]); with_reducible rfl); (try simp only [Act.put, List.setIfInBounds_toArray, List.set_cons_zero, List.set_cons_succ])))
    refine Seq.Seq.nil ?_
    clear hc1 hc2 hc3 hc4 hc5 hc6 hpt5 hle5 L1 L2 hbd
    have hbd := hbw
    have h2 : S1 w.heap.size (prc e A n m) (prc e2 B k c) v6 := hS
    clear hS hbw
    obtain ⟨x0, x1⟩ := h2.1.c2
    go_wp2_with fail
    refine (rprright_any _ e A n m L _ (HZ.out.below hbd) (by omega) HLN.out e0).mono ?_
    rintro en w8 ⟨rfl, hb8⟩
    rw [HOK.out]
    replace hbd := hbd.trans (hb8.mono hbd.size)
    clear hb8 x0 x1 h2
    go_wp2_with fail
    refine (live20_any _).mono ?_
    rintro en wl ⟨rfl, hbl⟩
    replace hbd := hbd.trans (hbl.mono hbd.size)
    go_wp2
    go_ret
    exact ⟨rfl, hbd⟩
  -- valid
  have HOK := Lib.hid hok
  have HLE := Lib.hid (prb_len hok)
  replace h2 := h2.below hb3
  replace hbd := hbd.trans (hb3.mono hbd.size)
  clear hb3 x0 x1 hok
  obtain ⟨Y, hY⟩ : ∃ Y, Y = prb (e, L) := ⟨_, rfl⟩
  rw [← hY] at hbs HLE ⊢
  have HY := Lib.hid hY
  clear hY
  have hgl : g < w3.heap.size ∨ Y.length = 0 := by
    rcases Nat.eq_zero_or_pos Y.length with h | h
    · exact .inr h
    · exact .inl (hbs.lt h _ rfl)
  go_wp2_with fail
  refine (wnew_any 65536 _ (by omega)).mono ?_
  rintro en w4 ⟨b, rfl, hg4, hb4, hw4⟩
  rw [if_neg (by omega)] at hw4
  have hB0 := hbd.size
  have hl2 := h2.1.lt
  have hl3 := h2.2.lt
  have hB4 := hb4.size
  replace h2 := h2.below hb4
  replace hbs := hbs.below hb4
  replace hbd := hbd.trans (hb4.mono hbd.size)
  obtain ⟨x0, x1⟩ := h2.1.c2
  clear hb4
  go_wp2_with fail
  refine (prput_yes _ e A n m L HOK.out hw4 (HZ.out.below hbd) HLN.out (fun b' h1 => by have h9 : b' < w.heap.size := h1; omega) (by omega) hB4).mono ?_
  rintro en w5 ⟨r5, rfl, hk5, _, hw5⟩
  rw [← HY.out] at hw5
  replace h2 : S1 w.heap.size (prc e A n m) (prc e2 B k c) w5 := ⟨h2.1.ks hk5 (Wr.off_lt hw4 hl2), h2.2.ks hk5 (Wr.off_lt hw4 hl3)⟩
  replace hbs := hbs.ks hk5 (fun h0 ad ha => by injection ha with ha; subst ha; exact Wr.off_lt hw4 (by show g < _; omega))
  replace hbd := hw4.belowOf hbd (Nat.le_refl _) hk5 hB0
  clear hk5 hw4 x0 x1 hgl hB4 hl2 hl3
  go_wp2_with fail
  refine (wbytes_good (z := Y) hw5 (by have := HLE.out; omega)).mono ?_
  rintro en w6 ⟨g6, rfl, hg6, hb6, hblk⟩
  have hs6 := Bs.of_block hblk
  replace h2 := h2.below hb6
  replace hbs := hbs.below hb6
  replace hbd := hbd.trans (hb6.mono hbd.size)
  clear hw5 hblk hb6 hg6
  go_wp2_with fail
  refine (same_any _ _ _ _ _ _ Y _ hs6 hbs).mono ?_
  rintro en w7 ⟨rfl, rfl⟩
  clear hs6
  have HBS := Lib.hid (fun w' (h : Below w6.heap.size w6 w') => hbs.below h)
  clear hbs
  go_wp2
  have hch := below_one' w6
  have hbw := hbd.trans ((below_one' _).mono hbd.size)
  have hS : S1 w.heap.size (prc e A n m) (prc e2 B k c) _ := h2.below (below_one' _)
  have L1 : ∀ w', S1 w.heap.size (prc e A n m) (prc e2 B k c) w' → w'.cell? ⟨w.heap.size, 0, none⟩ = some (.int .u64 e) ∧ w'.cell? ⟨w.heap.size, 1, none⟩ = some (.slice A n m) := fun w' h => h.1.c2
  have L2 : ∀ w', S1 w.heap.size (prc e A n m) (prc e2 B k c) w' → w'.cell? ⟨w.heap.size + 1, 0, none⟩ = some (.int .u64 e2) ∧ w'.cell? ⟨w.heap.size + 1, 1, none⟩ = some (.slice B k c) := fun w' h => h.2.c2
  have HSA := Lib.hid (fun w' (h : Below w.heap.size w w') => prsame_any _ _ e A n m L e2 B k c M w' (HZ.out.below h) (HZ2.out.below h) (by omega) (by omega) HLN.out HLN2.out)
  have HRS := Lib.hid (fun w' (h : Below w.heap.size w w') => rprsame_any _ _ e A n m L e2 B k c M w' (HZ.out.below h) (HZ2.out.below h) (by omega) (by omega) HLN.out HLN2.out)
  unfold BPost at HSA HRS
  generalize decide ((e, L) = (e2, M)) = V at HSA HRS
  clear h2
  refine Seq.wp_region_seq (S1 w.heap.size (prc e A n m) (prc e2 B k c)) (by kernel_rfl) (by kernel_rfl) hS ?_
  repeat (first | (refine Seq.Seq.skip (by rfl) ?_; (try simp only [Act.put, List.setIfInBounds_toArray, List.set_cons_zero, List.set_cons_succ])) | (refine Seq.Seq.det ?_ (by rfl) (fun w hS => ?_) ?_; rotate_left; ((try dsimp only at hS); go_simp; (try rw [if_pos (by omega)]); with_reducible rfl); (try simp only [Act.put, List.setIfInBounds_toArray, List.set_cons_zero, List.set_cons_succ])))
  refine Seq.Seq.make (by rfl) (by rfl) (fun K Q' hK => ?_)
  go_simp
  go_at_call 14
  refine (prright_any _ e A n m L _ (HZ.out.below hbw) (by omega) HLN.out).mono ?_
  rintro en v1 ⟨rfl, hc1⟩
  rw [HOK.out]
  replace hS := hS.below hc1
  replace hbw := hbw.trans (hc1.mono hbw.size)
  replace hch := hch.trans (hc1.mono hch.size)
  refine hK.out _ _ (hS) ?_
  clear hK K
  try simp only [Act.put, List.setIfInBounds_toArray, List.set_cons_zero, List.set_cons_succ]
  repeat (first | (refine Seq.Seq.skip (by rfl) ?_; (try simp only [Act.put, List.setIfInBounds_toArray, List.set_cons_zero, List.set_cons_succ])) | (refine Seq.Seq.det ?_ (by rfl) (fun w hS => ?_) ?_; rotate_left; ((try dsimp only at hS); go_simp; (try rw [if_pos (by omega)]); with_reducible rfl); (try simp only [Act.put, List.setIfInBounds_toArray, List.set_cons_zero, List.set_cons_succ])))
  refine Seq.Seq.make (by rfl) (by rfl) (fun K Q' hK => ?_)
  go_simp
  go_at_call 15
  refine (rprright_any _ e A n m L _ (HZ.out.below hbw) (by omega) HLN.out e0).mono ?_
  rintro en v2 ⟨rfl, hc2⟩
  rw [HOK.out]
  replace hS := hS.below hc2
  replace hbw := hbw.trans (hc2.mono hbw.size)
  replace hch := hch.trans (hc2.mono hch.size)
  refine hK.out _ _ (hS) ?_
  clear hK K
  try simp only [Act.put, List.setIfInBounds_toArray, List.set_cons_zero, List.set_cons_succ]
  repeat (first | (refine Seq.Seq.skip (by rfl) ?_; (try simp only [Act.put, List.setIfInBounds_toArray, List.set_cons_zero, List.set_cons_succ])) | (refine Seq.Seq.det ?_ (by rfl) (fun w hS => ?_) ?_; rotate_left; ((try dsimp only at hS); go_simp; (try rw [if_pos (by omega)]); with_reducible rfl); (try simp only [Act.put, List.setIfInBounds_toArray, List.set_cons_zero, List.set_cons_succ])))
  refine Seq.Seq.make (by rfl) (by rfl) (fun K Q' hK => ?_)
  go_simp
  go_at_call 16
  refine (HSA.out _ hbw).mono ?_
  rintro en v3 ⟨rfl, hc3⟩
  replace hS := hS.below hc3
  replace hbw := hbw.trans (hc3.mono hbw.size)
  replace hch := hch.trans (hc3.mono hch.size)
  refine hK.out _ _ (hS) ?_
  clear hK K
  try simp only [Act.put, List.setIfInBounds_toArray, List.set_cons_zero, List.set_cons_succ]
  repeat (first | (refine Seq.Seq.skip (by rfl) ?_; (try simp only [Act.put, List.setIfInBounds_toArray, List.set_cons_zero, List.set_cons_succ])) | (refine Seq.Seq.det ?_ (by rfl) (fun w hS => ?_) ?_; rotate_left; ((try dsimp only at hS); go_simp; (try rw [if_pos (by omega)]); with_reducible rfl); (try simp only [Act.put, List.setIfInBounds_toArray, List.set_cons_zero, List.set_cons_succ])))
  refine Seq.Seq.make (by rfl) (by rfl) (fun K Q' hK => ?_)
  go_simp
  go_at_call 17
  refine (HRS.out _ hbw).mono ?_
  rintro en v4 ⟨rfl, hc4⟩
  replace hS := hS.below hc4
  replace hbw := hbw.trans (hc4.mono hbw.size)
  replace hch := hch.trans (hc4.mono hch.size)
  refine hK.out _ _ (hS) ?_
  clear hK K
  try simp only [Act.put, List.setIfInBounds_toArray, List.set_cons_zero, List.set_cons_succ]
  repeat (first | (refine Seq.Seq.skip (by rfl) ?_; (try simp only [Act.put, List.setIfInBounds_toArray, List.set_cons_zero, List.set_cons_succ])) | (refine Seq.Seq.det ?_ (by rfl) (fun w hS => ?_) ?_; rotate_left; ((try dsimp only at hS); go_simp; (try rw [if_pos (by omega)]); with_reducible rfl); (try simp only [Act.put, List.setIfInBounds_toArray, List.set_cons_zero, List.set_cons_succ])))
  refine Seq.Seq.make (by rfl) (by rfl) (fun K Q' hK => ?_)
  go_simp
  go_at_call 18
  have hsz4 := hbw.size
  refine (prcopy_any e A n m L _ ((HZ.out.below hbw).mono fun b hb9 _ => by omega) HM.out HNIL.out (by omega) (plen_mono HL20.out (by omega))).mono ?_
  rintro en v5 ⟨A5, m5, rfl, hc5, hpt5, hle5, _⟩
  replace hS := hS.below hc5
  replace hbw := hbw.trans (hc5.mono hbw.size)
  replace hch := hch.trans (hc5.mono hch.size)
  refine hK.out _ _ (hS) ?_
  clear hK K
  try simp only [Act.put, List.setIfInBounds_toArray, List.set_cons_zero, List.set_cons_succ]
  repeat (first | (refine Seq.Seq.skip (by rfl) ?_; (try simp only [Act.put, List.setIfInBounds_toArray, List.set_cons_zero, List.set_cons_succ])) | (refine Seq.Seq.det ?_ (by rfl) (fun w hS => ?_) ?_; rotate_left; ((try dsimp only at hS); go_simp; (try rw [if_pos (by omega)]); with_reducible rfl); (try simp only [Act.put, List.setIfInBounds_toArray, List.set_cons_zero, List.set_cons_succ])))
  refine Seq.Seq.make (by rfl) (by rfl) (fun K Q' hK => ?_)
  go_simp
  go_at_call 17
  refine (rprsame_any _ _ e A5 n m5 L e A n m L _ hpt5 (HZ.out.below hbw) (by omega) (by omega) HLN.out HLN.out).mono ?_
  rintro en v6 ⟨rfl, hc6⟩
  rw [decide_eq_true rfl]
  replace hS := hS.below hc6
  replace hbw := hbw.trans (hc6.mono hbw.size)
  replace hch := hch.trans (hc6.mono hch.size)
  refine hK.out _ _ (hS) ?_
  clear hK K
  try simp only [Act.put, List.setIfInBounds_toArray, List.set_cons_zero, List.set_cons_succ]
  repeat (first | (refine Seq.Seq.skip (by rfl) ?_; (try simp only [Act.put, List.setIfInBounds_toArray, List.set_cons_zero, List.set_cons_succ])) | (refine Seq.Seq.det ?_ (by rfl) (fun w hS => ?_) ?_; rotate_left; ((try dsimp only at hS); go_simp; (try rw [if_pos (by omega)]); with_reducible rfl); (try simp only [Act.put, List.setIfInBounds_toArray, List.set_cons_zero, List.set_cons_succ])))
  refine Seq.Seq.nil ?_
  clear hc1 hc2 hc3 hc4 hc5 hc6 hpt5 hle5 L1 L2 hbd
  have hbd := hbw
  have h2 : S1 w.heap.size (prc e A n m) (prc e2 B k c) v6 := hS
  clear hS hbw
  replace HBS := HBS.out _ hch
  clear hch
  obtain ⟨x0, x1⟩ := h2.1.c2
  go_wp2_with fail
  refine (rprright_any _ e A n m L _ (HZ.out.below hbd) (by omega) HLN.out e0).mono ?_
  rintro en w8 ⟨rfl, hb8⟩
  rw [HOK.out]
  replace hbd := hbd.trans (hb8.mono hbd.size)
  replace h2 := h2.below hb8
  have hbs := HBS.below hb8
  clear hb8 x0 x1 HBS
  have hown0 := own_row (B := w8.heap.size) (z := []) (Blk.new w8 #[] 5) (Nat.le_refl _) (by simp)
  have hsA := hbs.below (below_one w8 (.cells #[] 5))
  have HZ8 := Lib.hid (HZB.out.below hbd)
  go_wp2_with (at_builtin; go_must (first | (refine list_append_gr rfl (.tmp 87) (.tmp 88) rfl w8.heap.size (.slice (some ⟨w8.heap.size, 0, none⟩) 0 0) [] rfl hown0 _ _ _ Y rfl hsA (by simp) (by have := HLE.out; simp; omega) (by simp) ?_; intro v6 w9 ho6 hg6 hgr6; have hb9 := Own.belowOf (below_one w8 (.cells #[] 5)) (by simp) hown0 hg6; rw [List.nil_append] at ho6; obtain ⟨A6, c6, hv⟩ := ho6.slice; subst hv; have hz9 := HZ8.out.below hb9; have hB9 := hb9.size; clear hg6 hgr6 hsA hown0) | (refine list_append_gr rfl (.tmp 89) (.tmp 90) rfl w8.heap.size _ Y rfl ho6 _ r mm z rfl hz9 HNILB.out (by have := HLE.out; omega) hB9 ?_; intro v8 w10 ho8 hg8 hgr8; have hb10 := Own.belowOf hb9 hB9 ho6 hg8; clear hg8 hgr8 hz9 ho6 hb9; obtain ⟨A10, c10, hv, hs10, hnil10, hcap10⟩ := own_parts ho8; subst hv)))
  have HYB : Hid (∀ x ∈ Y, 0 ≤ x ∧ x < 256) := Lib.hid fun x hx => by
    rw [HY.out] at hx
    exact prb_byte HOK.out HSB.out x hx
  have HZZ : Hid (∀ x ∈ Y ++ z, 0 ≤ x ∧ x < 256) := Lib.hid fun x hx => by
    rcases List.mem_append.1 hx with hx | hx
    · exact HYB.out x hx
    · exact HBY.out x hx
  have hzl := HZB.out.1
  have HE : Hid (prd (Y ++ z) 0 = ((e, L), (Y.length : Int), 0, 0)) := Lib.hid (by
    have := prd_put (z := Y ++ z) (pre := []) (rest := z) (x := (e, L)) (by rw [HY.out]; rfl) HOK.out HSB.out HBY.out
    rw [HY.out] at this ⊢
    simpa using this)
  have HE0 : Hid (prd Y 0 = ((e, L), (Y.length : Int), 0, 0)) := Lib.hid (by
    have := prd_put (z := Y) (pre := []) (rest := []) (x := (e, L)) (by rw [HY.out]; simp) HOK.out HSB.out (fun x hx => by simp at hx)
    rw [HY.out] at this ⊢
    simpa using this)
  replace h2 := h2.below hb10
  replace hbs := hbs.below hb10
  replace hbd := hbd.trans (hb10.mono hbd.size)
  have hLL : (Y ++ z).length = Y.length + r := by rw [List.length_append, hzl]
  rw [hLL] at hs10 hcap10
  obtain ⟨N, hN⟩ : ∃ N, N = Y.length + r := ⟨_, rfl⟩
  rw [← hN] at hs10 hcap10
  have hN1 : N ≤ 100000 := by have := HLE.out; omega
  have hY1 : Y.length ≤ 100000 := by have := HLE.out; omega
  clear hb10 ho8 hnil10 hLL HZ8
  rw [hzl, ← hN]
  clear hN
  obtain ⟨Z, hZ⟩ : ∃ Z, Z = Y ++ z := ⟨_, rfl⟩
  rw [← hZ] at hs10 HE HZZ
  clear hZ
  refine (pget_any A10 N _ Z _ hs10 hcap10 hN1 HZZ.out).mono ?_
  rintro en w12 ⟨e', A', N', m', L', p', c', q', rfl, hb12, hpt12, hle', hnil', hN8', hpl', hs12⟩
  obtain ⟨e3, rfl, rfl, rfl⟩ := hs12.of_done HE.out
  injection e3 with e3 e4
  replace e3 := e3.symm
  replace e4 := e4.symm
  subst e3 e4
  rw [if_pos rfl]
  obtain rfl : N' = n := by rw [← hpt12.1, HZ.out.1]
  have hbx := below_two w12 (.cells (prc e A' N' m') 25) (.cells #[.int .i64 0, .int .i64 0] 40)
  have hT := (Blk.new w12 (prc e A' N' m') 25).alloc (.cells #[.int .i64 0, .int .i64 0] 40)
  have hU := Blk.new (w12.alloc (.cells (prc e A' N' m') 25)) #[.int .i64 0, .int .i64 0] 40
  rw [show (w12.alloc (.cells (prc e A' N' m') 25)).heap.size = w12.heap.size + 1 by simp] at hU
  have hpt13 := hpt12.below hbx
  replace hbs := (hbs.below hb12).below hbx
  replace h2 := (h2.below hb12).below hbx
  replace hbd := hbd.trans (hb12.mono hbd.size)
  replace hbd := hbd.trans (hbx.mono hbd.size)
  clear hbx hb12 hpt12 hs12 hs10 hle' hnil'
  go_upto_region 14 with (fail)
  generalize (w12.alloc (.cells (prc e A' N' m') 25)).alloc (.cells #[.int .i64 0, .int .i64 0] 40) = w13 at *
  generalize w12.heap.size = tb at *
  go_wp2_with fail
  refine (pdecode_any _ Y.length _ Y _ hbs (Nat.le_refl _) hY1 HYB.out).mono ?_
  rintro en w14 ⟨e', A5, N5, m5, L5, p5, c5, q5, hs14, hb14, hN14, hpl14, hd⟩
  obtain ⟨e3, rfl, rfl, rfl⟩ := hs14.of_done HE0.out
  rcases hd with ⟨_, hlt, _⟩ | ⟨_, rfl, hpt14⟩
  · exact absurd hlt (by omega)
  injection e3 with e3 e4
  replace e3 := e3.symm
  replace e4 := e4.symm
  subst e3 e4
  obtain rfl : N' = N5 := by rw [← hpt14.1, HZ.out.1]
  have hbx := below_two w14 (.cells (prc e A5 N' m5) 25) (.cells #[.int .i64 0, .int .i64 0] 40)
  have hV := (Blk.new w14 (prc e A5 N' m5) 25).alloc (.cells #[.int .i64 0, .int .i64 0] 40)
  have hQ := Blk.new (w14.alloc (.cells (prc e A5 N' m5) 25)) #[.int .i64 0, .int .i64 0] 40
  rw [show (w14.alloc (.cells (prc e A5 N' m5) 25)).heap.size = w14.heap.size + 1 by simp] at hQ
  have hpt15 := hpt14.below hbx
  replace hpt13 := (hpt13.below hb14).below hbx
  replace hT := (hT.below hb14).below hbx
  replace hU := (hU.below hb14).below hbx
  replace hbs := (hbs.below hb14).below hbx
  replace h2 := (h2.below hb14).below hbx
  replace hbd := hbd.trans (hb14.mono hbd.size)
  replace hbd := hbd.trans (hbx.mono hbd.size)
  clear hbx hb14 hpt14 hs14
  go_upto_region 15 with (fail)
  generalize (w14.alloc (.cells (prc e A5 N' m5) 25)).alloc (.cells #[.int .i64 0, .int .i64 0] 40) = w15 at *
  generalize w14.heap.size = ub at *
  obtain ⟨x0, x1⟩ := h2.1.c2
  go_wp2_with fail
  refine (rprbytes_any _ e A N' m L _ HOK.out (HZ.out.below hbd)).mono ?_
  rintro en w16 ⟨A14, m14, rfl, hb16, hs16, _, _, _⟩
  rw [← HY.out] at hs16 ⊢
  replace hbs := hbs.below hb16
  replace h2 := h2.below hb16
  replace hT := hT.below hb16
  replace hU := hU.below hb16
  replace hV := hV.below hb16
  replace hQ := hQ.below hb16
  replace hpt13 := hpt13.below hb16
  replace hpt15 := hpt15.below hb16
  replace hbd := hbd.trans (hb16.mono hbd.size)
  clear x0 x1 hb16
  go_wp2_with fail
  refine (same_any _ _ _ _ _ _ Y _ hbs hs16).mono ?_
  rintro en w17 ⟨rfl, rfl⟩
  clear hbs hs16
  obtain ⟨x0, x1⟩ := h2.1.c2
  obtain ⟨y0, y1⟩ := hT.c2
  obtain ⟨u0, u1⟩ := hU.c2
  go_wp2_with fail
  refine (rprsame_any _ _ e A' N' m' L e A N' m L _ hpt13 (HZ.out.below hbd) (by omega) (by omega) HLN.out HLN.out).mono ?_
  rintro en w18 ⟨rfl, hb18⟩
  rw [decide_eq_true rfl]
  replace h2 := h2.below hb18
  replace hV := hV.below hb18
  replace hQ := hQ.below hb18
  replace hpt15 := hpt15.below hb18
  replace hbd := hbd.trans (hb18.mono hbd.size)
  clear hb18 x0 x1 y0 y1 u0 u1 hT hU hpt13
  obtain ⟨x0, x1⟩ := h2.1.c2
  obtain ⟨y0, y1⟩ := hV.c2
  obtain ⟨u0, u1⟩ := hQ.c2
  go_wp2_with fail
  refine (rprsame_any _ _ e A5 N' m5 L e A N' m L _ hpt15 (HZ.out.below hbd) (by omega) (by omega) HLN.out HLN.out).mono ?_
  rintro en w19 ⟨rfl, hb19⟩
  rw [decide_eq_true rfl]
  replace hbd := hbd.trans (hb19.mono hbd.size)
  clear hb19 x0 x1 y0 y1 u0 u1 hV hQ hpt15 h2
  go_wp2_with fail
  refine (live20_any _).mono ?_
  rintro en wl ⟨rfl, hbl⟩
  replace hbd := hbd.trans (hbl.mono hbd.size)
  go_wp2
  go_ret
  exact ⟨rfl, hbd⟩

set_option maxRecDepth 100000 in
theorem lifted (os : Os) (started : os.Started) (H : Type) (enc : TypeId × Value → H) :
    ReturnsInHanded {} Try.checked os 3 .any (Rows.projWritesSpec.pre6 enc Try.prog Try.f3 Rows.projWritesRow.domain false) (Rows.projWritesSpec.post enc Try.prog Try.f3 false true false false) := by
  refine returnsInHanded_of_change (C := Try.checked) own started (by kernel_rfl) Try.func3
    (ChangeSpec.witness6 (enc := enc) (C := Try.checked) false ⟨#[], #[.agg #[.int .u64 0, .slice none 0 0], .agg #[.int .u64 0, .slice none 0 0], .slice none 0 0], []⟩ 8 (by kernel_rfl) (by kernel_rfl) (by kernel_rfl) (by kernel_rfl)) ?_
  intro W base args ds gs before hval0 hW hcnd _
  have hval : ∀ (j : Nat) t v, Try.f3.params[j]? = some t → args[j]? = some v → Value.okWide Try.prog W .any base t v := hval0
  have hW' := hW
  obtain ⟨p, q, hA0, hV, rfl, hfz, hnd⟩ := hW
  have hA : DataW.TrodAll enc Try.prog W 0 (fun _ => true) true Try.f3.params.toList args.toList ds p := hA0
  rw [Try.params3] at hA hval
  obtain ⟨v0, vs0, d0, ds0, p0, q0, hargs, rfl, rfl, h0, r0⟩ := trodAll_cons hA
  obtain ⟨v1, vs1, d1, ds1, p1, q1, rfl, rfl, rfl, h1, r1⟩ := trodAll_cons r0
  obtain ⟨v2, vs2, d2, ds2, p2, q2, rfl, rfl, rfl, h2, r2⟩ := trodAll_cons r1
  obtain ⟨rfl, rfl, rfl⟩ := trodAll_nil r2
  obtain rfl : args = #[v0, v1, v2] := by cases args; simp_all
  obtain ⟨rfl, rfl⟩ := trodVars_none hV
  have lt0 : ∀ x ∈ p0, x.block < W.heap.size := by obtain ⟨m, hm⟩ := h0; exact DataW.trod_lt m _ _ _ hm
  have lt1 : ∀ x ∈ p1, x.block < W.heap.size := by obtain ⟨m, hm⟩ := h1; exact DataW.trod_lt m _ _ _ hm
  have lt2 : ∀ x ∈ p2, x.block < W.heap.size := by obtain ⟨m, hm⟩ := h2; exact DataW.trod_lt m _ _ _ hm
  clear hA0 hval0
  refine (walk enc W base v0 d0 p0 (hval 0 25 v0 rfl rfl) h0 v1 d1 p1 (hval 1 25 v1 rfl rfl) h1 v2 d2 p2 (hval 2 26 v2 rfl rfl) h2).mono fun e W' ⟨he, bel⟩ => ?_
  subst he
  exact ⟨_, rfl, _, _, _, [], _, [], hW', trodAll_mk1 (shut_bool Try.underlying4 _), (trodAll_cons_mk (Below.trod laidOut (by kernel_rfl) (of_decide_eq_true (by kernel_rfl)) h0 bel lt0) (trodAll_cons_mk (Below.trod laidOut (by kernel_rfl) (of_decide_eq_true (by kernel_rfl)) h1 bel lt1) (trodAll_cons_mk (Below.trod laidOut (by kernel_rfl) (of_decide_eq_true (by kernel_rfl)) h2 bel lt2) trodAll_mk0))), rfl, bel.frame _, fun h => by cases h⟩

theorem over : Rows.projWritesRow.holds Try.pinned (OpenSpec.ofChange Rows.projWritesSpec) :=
  OpenClaim.holds_of_wide 3 Try.f3 rfl rfl rfl rfl rfl rfl rfl ⟨rfl, rfl, rfl, rfl, rfl⟩ rfl rfl rfl rfl rfl (by kernel_rfl) Try.func3 (by kernel_rfl)
    (of_decide_eq_true (by kernel_rfl)) (by unfold Func.isWrapper; first | (rw [if_pos (by decide +kernel)]; kernel_rfl) | (rw [if_neg (by decide +kernel)]; exact ⟨rfl, rfl⟩))
    (fun os started H enc _ => lifted os started H enc)

/-- THE STATEMENT. -/
theorem proved : Rows.ProjWritesSaid := over
#print axioms proved
end Go.Proofs.Ytghlediibhnloaa.projWrites

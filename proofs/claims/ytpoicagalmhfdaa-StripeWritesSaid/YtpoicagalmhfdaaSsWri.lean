/- StripeWrites: called with any two stripes and any bytes, the law returns true; no condition. -/
import Derived.Test.YtpoicagalmhfdaaRows
import Derived.Test.YtpoicagalmhfdaaStpU
import Derived.Test.YtpoicagalmhfdaaStpG
import Derived.Test.YtpoicagalmhfdaaStpJ
import Derived.Test.YtpoicagalmhfdaaStpP
import Derived.Test.YtpoicagalmhfdaaK1
import Derived.ProofKit
import Derived.OpenShut
import Derived.ShutString
import Derived.ChangeOld
namespace Go.Proofs.Ytpoicagalmhfdaa.stripeWrites
open Go.ChangeShapes Go.WideShapes Go.ChangeAt Go.RowKit
open Go.ChangeMaps (open_string shut_string)
set_option linter.unusedVariables false

theorem own : ownKnob Try.prog.godebug = none := by kernel_rfl
theorem laidOut : laidOutB Try.prog = true := by kernel_rfl
open Cur Mem

set_option maxRecDepth 100000

theorem own_row {w : World} {g B : Nat} {z : List Int} (h : Blk w g (z.map (Value.int .u8)).toArray 5) (hB : B ≤ g) (hm : z.length ≤ 1000000) : Own w B (.slice (some ⟨g, 0, none⟩) z.length z.length) z :=
  ⟨by simp, .inr ⟨g, z.length, _, rfl, hB, h, Nat.le_refl _, by simp only [maxLen]; omega, by simp, by rw [Nat.mul_one]; exact List.take_of_length_le (by simp)⟩⟩
theorem own_parts {w : World} {B : Nat} {v : Value} {z : List Int} (h : Own w B v z) : ∃ A c, v = .slice A z.length c ∧ Bs w A z.length z ∧ (A = none → c = 0) ∧ z.length ≤ c := by
  obtain ⟨A, c, rfl, h0, h1⟩ := own_slice h
  exact ⟨A, c, rfl, h.bs.2, h0, h1⟩
/-- What the loads need. -/
def S1 (W : Nat) (x y : Array Value) (w' : World) : Prop := Blk w' W x 25 ∧ Blk w' (W + 1) y 25
theorem S1.below {W : Nat} {x y : Array Value} {w' w'' : World} (h : S1 W x y w') (hb : Below w'.heap.size w' w'') : S1 W x y w'' := ⟨h.1.below hb, h.2.below hb⟩


set_option maxHeartbeats 16000000 in
theorem walk {H : Type} (enc : TypeId × Value → H) (w : World) (base : Nat) (v0 : Value) (d0 : DataW H) (p0 : List MemPlace) (g0 : Value.okWide Try.prog w .any base 25 v0) (h0 : DataW.Trod enc Try.prog w 0 (fun _ => true) true 25 v0 d0 p0) (v1 : Value) (d1 : DataW H) (p1 : List MemPlace) (g1 : Value.okWide Try.prog w .any base 25 v1) (h1 : DataW.Trod enc Try.prog w 0 (fun _ => true) true 25 v1 d1 p1) (v2 : Value) (d2 : DataW H) (p2 : List MemPlace) (g2 : Value.okWide Try.prog w .any base 26 v2) (h2 : DataW.Trod enc Try.prog w 0 (fun _ => true) true 26 v2 d2 p2) :
    Calls Try.prog 3 #[v0, v1, v2] w fun e w' => e = .returned (.bool true) ∧ Below w.heap.size w w' := by
  obtain ⟨f, t, A, n, m, S, rfl, ⟨f0, f1⟩, ⟨t0, t1⟩, hm, hnil, hz⟩ := open_stripe g0 h0
  obtain ⟨f2, t2, B, k, c, T, rfl, ⟨f20, f21⟩, ⟨t20, t21⟩, hm2, hnil2, hz2⟩ := open_stripe g1 h1
  obtain ⟨a, r, mm, z, rfl, hrm, hzb, hby, hnilb⟩ := open_bytes g2 h2
  clear g0 h0 g1 h1 g2 h2
  have hX := (Blk.new w (stc f t A n m) 25).alloc (.cells (stc f2 t2 B k c) 25)
  have hY := Blk.new (w.alloc (.cells (stc f t A n m) 25)) (stc f2 t2 B k c) 25
  rw [show (w.alloc (.cells (stc f t A n m) 25)).heap.size = w.heap.size + 1 by simp] at hY
  have h2 : S1 w.heap.size (stc f t A n m) (stc f2 t2 B k c) _ := ⟨hX, hY⟩
  have hbd := below_two w (.cells (stc f t A n m) 25) (.cells (stc f2 t2 B k c) 25)
  have HZ := Lib.hid hz
  have HZ2 := Lib.hid hz2
  have HZB := Lib.hid hzb
  have HBY := Lib.hid hby
  have HM := Lib.hid hm
  have HNIL := Lib.hid hnil
  have HNILB := Lib.hid hnilb
  have HSB := Lib.hid hz.bds
  clear hX hY hz hz2 hzb hby hm hnil hm2 hnil2 hnilb
  obtain ⟨x0, x1, x2⟩ := h2.1.c3
  go_enter Try.func3, Try.ntmps3
  go_wp2_with fail
  generalize (w.alloc (.cells (stc f t A n m) 25)).alloc (.cells (stc f2 t2 B k c) 25) = w0 at *
  refine (long19_any _ f t A n m S _ (HZ.out.below hbd)).mono ?_
  rintro e w1 ⟨b1, rfl, hb1, hl1⟩
  replace h2 := h2.below hb1
  replace hbd := hbd.trans (hb1.mono hbd.size)
  clear hb1 x0 x1 x2
  cases b1
  case true =>
    clear hl1 h2
    go_wp2_with fail
    refine (live19_any _).mono ?_
    rintro e wl ⟨rfl, hbl⟩
    replace hbd := hbd.trans (hbl.mono hbd.size)
    go_wp2
    go_ret
    exact ⟨rfl, hbd⟩
  obtain ⟨hn20, hl20⟩ := hl1 rfl
  have HL20 := Lib.hid hl20
  have HLN : Hid (∀ l ∈ S, l.length ≤ 1000000) := Lib.hid fun l hl => by have := hl20 l hl; omega
  clear hl1 hl20
  obtain ⟨x0, x1, x2⟩ := h2.2.c3
  go_wp2_with fail
  refine (long19_any _ f2 t2 B k c T _ (HZ2.out.below hbd)).mono ?_
  rintro e w2 ⟨b2, rfl, hb2, hl2⟩
  replace h2 := h2.below hb2
  replace hbd := hbd.trans (hb2.mono hbd.size)
  clear hb2 x0 x1 x2
  cases b2
  case true =>
    clear hl2 h2
    go_wp2_with fail
    refine (live19_any _).mono ?_
    rintro e wl ⟨rfl, hbl⟩
    replace hbd := hbd.trans (hbl.mono hbd.size)
    go_wp2
    go_ret
    exact ⟨rfl, hbd⟩
  obtain ⟨hk20, hl220⟩ := hl2 rfl
  have HLN2 : Hid (∀ l ∈ T, l.length ≤ 1000000) := Lib.hid fun l hl => by have := hl220 l hl; omega
  clear hl2 hl220
  by_cases hr : 300 < (r : Int)
  · clear h2
    go_wp2_with fail
    refine (live19_any _).mono ?_
    rintro e wl ⟨rfl, hbl⟩
    replace hbd := hbd.trans (hbl.mono hbd.size)
    go_wp2
    go_ret
    exact ⟨rfl, hbd⟩
  obtain ⟨x0, x1, x2⟩ := h2.1.c3
  have hW := hbd.size
  go_wp2_with fail
  refine (stbytes_any _ f t A n m S f0 _ (HZ.out.below hbd) (fun b hb9 => by omega) HM.out (by omega) HLN.out).mono ?_
  rintro e w3 ⟨hb3, ⟨hok, g, rfl, hgw, hbs⟩ | ⟨hok, rfl⟩⟩
  case inr =>
    -- not valid
    have HOK := Lib.hid hok
    replace h2 := h2.below hb3
    replace hbd := hbd.trans (hb3.mono hbd.size)
    clear hb3 x0 x1 x2 hok
    go_wp2_with fail
    refine (wnew_any 4000 _ (by omega)).mono ?_
    rintro e w4 ⟨b, rfl, hg4, hb4, hw4⟩
    rw [if_neg (by omega)] at hw4
    have hB0 := hbd.size
    have hl2 := h2.1.lt
    have hl3 := h2.2.lt
    replace h2 := h2.below hb4
    replace hbd := hbd.trans (hb4.mono hbd.size)
    obtain ⟨x0, x1, x2⟩ := h2.1.c3
    clear hb4
    go_wp2_with fail
    refine (stput_no _ f t A n m S HOK.out hw4 (HZ.out.below hbd) HM.out (by omega) HLN.out).mono ?_
    rintro e w5 ⟨rfl, hk5, hw5⟩
    rw [if_pos rfl] at hw5
    replace h2 : S1 w.heap.size (stc f t A n m) (stc f2 t2 B k c) w5 := ⟨h2.1.ks hk5 (Wr.off_lt hw4 hl2), h2.2.ks hk5 (Wr.off_lt hw4 hl3)⟩
    replace hbd := hw4.belowOf hbd (Nat.le_refl _) hk5 hB0
    clear hk5 hw4 x0 x1 x2
    go_wp2_with fail
    refine (wbytes_bad hw5 (by decide)).mono ?_
    rintro e w6 ⟨rfl, rfl⟩
    clear hw5
    go_wp2_with fail
    refine (same_any none none 0 0 0 0 [] _ (Bs.none _) (Bs.none _)).mono ?_
    rintro e w6 ⟨rfl, rfl⟩
    go_wp2
    have hch := below_one' w5
    have hbw := hbd.trans ((below_one' _).mono hbd.size)
    have hS : S1 w.heap.size (stc f t A n m) (stc f2 t2 B k c) _ := h2.below (below_one' _)
    have L1 : ∀ w', S1 w.heap.size (stc f t A n m) (stc f2 t2 B k c) w' → w'.cell? ⟨w.heap.size, 0, none⟩ = some (.int .u64 f) ∧ w'.cell? ⟨w.heap.size, 1, none⟩ = some (.int .u64 t) ∧ w'.cell? ⟨w.heap.size, 2, none⟩ = some (.slice A n m) := fun w' h => h.1.c3
    have L2 : ∀ w', S1 w.heap.size (stc f t A n m) (stc f2 t2 B k c) w' → w'.cell? ⟨w.heap.size + 1, 0, none⟩ = some (.int .u64 f2) ∧ w'.cell? ⟨w.heap.size + 1, 1, none⟩ = some (.int .u64 t2) ∧ w'.cell? ⟨w.heap.size + 1, 2, none⟩ = some (.slice B k c) := fun w' h => h.2.c3
    have HSA := Lib.hid (fun w' (h : Below w.heap.size w w') => stsame_any _ _ f t A n m S f2 t2 B k c T w' (HZ.out.below h) (HZ2.out.below h) (by omega) (by omega) HLN.out HLN2.out)
    have HRS := Lib.hid (fun w' (h : Below w.heap.size w w') => rstsame_any _ _ f t A n m S f2 t2 B k c T w' (HZ.out.below h) (HZ2.out.below h) (by omega) (by omega) HLN.out HLN2.out)
    unfold BPost at HSA HRS
    generalize decide ((f, t, S) = (f2, t2, T)) = V at HSA HRS
    clear h2
    refine Seq.wp_region_seq (S1 w.heap.size (stc f t A n m) (stc f2 t2 B k c)) (by kernel_rfl) (by kernel_rfl) hS ?_
    repeat (first | (refine Seq.Seq.skip (by rfl) ?_; (try simp only [Act.put, List.setIfInBounds_toArray, List.set_cons_zero, List.set_cons_succ])) | (refine Seq.Seq.det ?_ (by rfl) (fun w hS => ?_) ?_; rotate_left; ((try dsimp only at hS); go_simp; (try rw [if_pos (by omega)]); with_reducible rfl); (try simp only [Act.put, List.setIfInBounds_toArray, List.set_cons_zero, List.set_cons_succ])))
    refine Seq.Seq.make (by rfl) (by rfl) (fun K Q' hK => ?_)
    go_simp
    go_at_call 14
    refine (stright_any _ f t A n m S _ (HZ.out.below hbw) HM.out (by omega) HLN.out).mono ?_
    rintro e v1 ⟨rfl, hc1⟩
    rw [HOK.out]
    replace hS := hS.below hc1
    replace hbw := hbw.trans (hc1.mono hbw.size)
    replace hch := hch.trans (hc1.mono hch.size)
    refine hK.out _ _ (hS) ?_
    clear hK K
    try simp only [Act.put, List.setIfInBounds_toArray, List.set_cons_zero, List.set_cons_succ]
    repeat (first | (refine Seq.Seq.skip (by rfl) ?_; (try simp only [Act.put, List.setIfInBounds_toArray, List.set_cons_zero, List.set_cons_succ])) | (refine Seq.Seq.det ?_ (by rfl) (fun w hS => ?_) ?_; rotate_left; ((try dsimp only at hS); go_simp; (try rw [if_pos (by omega)]); with_reducible rfl); (try simp only [Act.put, List.setIfInBounds_toArray, List.set_cons_zero, List.set_cons_succ])))
    refine Seq.Seq.make (by rfl) (by rfl) (fun K Q' hK => ?_)
    go_simp
    go_at_call 15
    refine (rright19_any _ f t A n m S _ (HZ.out.below hbw) HM.out (by omega) HLN.out).mono ?_
    rintro e v2 ⟨rfl, hc2⟩
    rw [HOK.out]
    replace hS := hS.below hc2
    replace hbw := hbw.trans (hc2.mono hbw.size)
    replace hch := hch.trans (hc2.mono hch.size)
    refine hK.out _ _ (hS) ?_
    clear hK K
    try simp only [Act.put, List.setIfInBounds_toArray, List.set_cons_zero, List.set_cons_succ]
    repeat (first | (refine Seq.Seq.skip (by rfl) ?_; (try simp only [Act.put, List.setIfInBounds_toArray, List.set_cons_zero, List.set_cons_succ])) | (refine Seq.Seq.det ?_ (by rfl) (fun w hS => ?_) ?_; rotate_left; ((try dsimp only at hS); go_simp; (try rw [if_pos (by omega)]); with_reducible rfl); (try simp only [Act.put, List.setIfInBounds_toArray, List.set_cons_zero, List.set_cons_succ])))
    refine Seq.Seq.make (by rfl) (by rfl) (fun K Q' hK => ?_)
    go_simp
    go_at_call 16
    refine (HSA.out _ hbw).mono ?_
    rintro e v3 ⟨rfl, hc3⟩
    replace hS := hS.below hc3
    replace hbw := hbw.trans (hc3.mono hbw.size)
    replace hch := hch.trans (hc3.mono hch.size)
    refine hK.out _ _ (hS) ?_
    clear hK K
    try simp only [Act.put, List.setIfInBounds_toArray, List.set_cons_zero, List.set_cons_succ]
    repeat (first | (refine Seq.Seq.skip (by rfl) ?_; (try simp only [Act.put, List.setIfInBounds_toArray, List.set_cons_zero, List.set_cons_succ])) | (refine Seq.Seq.det ?_ (by rfl) (fun w hS => ?_) ?_; rotate_left; ((try dsimp only at hS); go_simp; (try rw [if_pos (by omega)]); with_reducible rfl); (try simp only [Act.put, List.setIfInBounds_toArray, List.set_cons_zero, List.set_cons_succ])))
    refine Seq.Seq.make (by rfl) (by rfl) (fun K Q' hK => ?_)
    go_simp
    go_at_call 17
    refine (HRS.out _ hbw).mono ?_
    rintro e v4 ⟨rfl, hc4⟩
    replace hS := hS.below hc4
    replace hbw := hbw.trans (hc4.mono hbw.size)
    replace hch := hch.trans (hc4.mono hch.size)
    refine hK.out _ _ (hS) ?_
    clear hK K
    try simp only [Act.put, List.setIfInBounds_toArray, List.set_cons_zero, List.set_cons_succ]
    repeat (first | (refine Seq.Seq.skip (by rfl) ?_; (try simp only [Act.put, List.setIfInBounds_toArray, List.set_cons_zero, List.set_cons_succ])) | (refine Seq.Seq.det ?_ (by rfl) (fun w hS => ?_) ?_; rotate_left; ((try dsimp only at hS); go_simp; (try rw [if_pos (by omega)]); with_reducible rfl); (try simp only [Act.put, List.setIfInBounds_toArray, List.set_cons_zero, List.set_cons_succ])))
    refine Seq.Seq.make (by rfl) (by rfl) (fun K Q' hK => ?_)
    go_simp
    go_at_call 18
    have hsz4 := hbw.size
    refine (stcopy_any f t A n m S _ ((HZ.out.below hbw).mono fun b hb9 _ => by omega) HM.out HNIL.out (by omega) (fun l hl => by have := HL20.out l hl; omega)).mono ?_
    rintro e v5 ⟨A5, m5, rfl, hc5, hst5, hle5, _⟩
    replace hS := hS.below hc5
    replace hbw := hbw.trans (hc5.mono hbw.size)
    replace hch := hch.trans (hc5.mono hch.size)
    refine hK.out _ _ (hS) ?_
    clear hK K
    try simp only [Act.put, List.setIfInBounds_toArray, List.set_cons_zero, List.set_cons_succ]
    repeat (first | (refine Seq.Seq.skip (by rfl) ?_; (try simp only [Act.put, List.setIfInBounds_toArray, List.set_cons_zero, List.set_cons_succ])) | (refine Seq.Seq.det ?_ (by rfl) (fun w hS => ?_) ?_; rotate_left; ((try dsimp only at hS); go_simp; (try rw [if_pos (by omega)]); with_reducible rfl); (try simp only [Act.put, List.setIfInBounds_toArray, List.set_cons_zero, List.set_cons_succ])))
    refine Seq.Seq.make (by rfl) (by rfl) (fun K Q' hK => ?_)
    go_simp
    go_at_call 17
    refine (rstsame_any _ _ f t A5 n m5 S f t A n m S _ hst5 (HZ.out.below hbw) (by omega) (by omega) HLN.out HLN.out).mono ?_
    rintro e v6 ⟨rfl, hc6⟩
    rw [decide_eq_true rfl]
    replace hS := hS.below hc6
    replace hbw := hbw.trans (hc6.mono hbw.size)
    replace hch := hch.trans (hc6.mono hch.size)
    refine hK.out _ _ (hS) ?_
    clear hK K
    try simp only [Act.put, List.setIfInBounds_toArray, List.set_cons_zero, List.set_cons_succ]
    repeat (first | (refine Seq.Seq.skip (by rfl) ?_; (try simp only [Act.put, List.setIfInBounds_toArray, List.set_cons_zero, List.set_cons_succ])) | (refine Seq.Seq.det ?_ (by rfl) (fun w hS => ?_) ?_; rotate_left; ((try dsimp only at hS); go_simp; (try rw [if_pos (by omega)]); with_reducible rfl); (try simp only [Act.put, List.setIfInBounds_toArray, List.set_cons_zero, List.set_cons_succ])))
    refine Seq.Seq.nil ?_
    clear hc1 hc2 hc3 hc4 hc5 hc6 hst5 hle5 L1 L2 hbd
    have hbd := hbw
    have h2 : S1 w.heap.size (stc f t A n m) (stc f2 t2 B k c) v6 := hS
    clear hS hbw
    obtain ⟨x0, x1, x2⟩ := h2.1.c3
    go_wp2_with fail
    refine (rright19_any _ f t A n m S _ (HZ.out.below hbd) HM.out (by omega) HLN.out).mono ?_
    rintro e w8 ⟨rfl, hb8⟩
    rw [HOK.out]
    replace hbd := hbd.trans (hb8.mono hbd.size)
    clear hb8 x0 x1 x2 h2
    go_wp2_with fail
    refine (live19_any _).mono ?_
    rintro e wl ⟨rfl, hbl⟩
    replace hbd := hbd.trans (hbl.mono hbd.size)
    go_wp2
    go_ret
    exact ⟨rfl, hbd⟩
  -- valid
  have HOK := Lib.hid hok
  have HLE := Lib.hid (stb_len hok)
  replace h2 := h2.below hb3
  replace hbd := hbd.trans (hb3.mono hbd.size)
  have HPT := Lib.hid (stok_parts hok)
  clear hb3 x0 x1 x2 hok
  obtain ⟨Y, hY⟩ : ∃ Y, Y = stb (f, t, S) := ⟨_, rfl⟩
  rw [← hY] at hbs HLE ⊢
  have HY := Lib.hid hY
  clear hY
  have hgl : g < w3.heap.size ∨ Y.length = 0 := by
    rcases Nat.eq_zero_or_pos Y.length with h | h
    · exact .inr h
    · exact .inl (hbs.lt h _ rfl)
  go_wp2_with fail
  refine (wnew_any 4000 _ (by omega)).mono ?_
  rintro e w4 ⟨b, rfl, hg4, hb4, hw4⟩
  rw [if_neg (by omega)] at hw4
  have hB0 := hbd.size
  have hl2 := h2.1.lt
  have hl3 := h2.2.lt
  have hB4 := hb4.size
  replace h2 := h2.below hb4
  replace hbs := hbs.below hb4
  replace hbd := hbd.trans (hb4.mono hbd.size)
  obtain ⟨x0, x1, x2⟩ := h2.1.c3
  clear hb4
  go_wp2_with fail
  refine (stput_yes _ f t A n m S HOK.out f0 hw4 (HZ.out.below hbd) HM.out (fun b' h1 h3 => Wr.off_lt hw4 (by omega)) (by rw [← HY.out]; have := HLE.out; simp; omega) (by simp) hB4).mono ?_
  rintro e w5 ⟨r5, rfl, hk5, _, hw5⟩
  rw [List.nil_append, ← HY.out] at hw5
  replace h2 : S1 w.heap.size (stc f t A n m) (stc f2 t2 B k c) w5 := ⟨h2.1.ks hk5 (Wr.off_lt hw4 hl2), h2.2.ks hk5 (Wr.off_lt hw4 hl3)⟩
  replace hbs := hbs.ks hk5 (fun h0 ad ha => by injection ha with ha; subst ha; exact Wr.off_lt hw4 (by show g < _; omega))
  replace hbd := hw4.belowOf hbd (Nat.le_refl _) hk5 hB0
  clear hk5 hw4 x0 x1 x2 hgl hB4 hl2 hl3
  go_wp2_with fail
  refine (wbytes_good (z := Y) hw5 (by have := HLE.out; omega)).mono ?_
  rintro e w6 ⟨g6, rfl, hg6, hb6, hblk⟩
  have hs6 := Bs.of_block hblk
  replace h2 := h2.below hb6
  replace hbs := hbs.below hb6
  replace hbd := hbd.trans (hb6.mono hbd.size)
  clear hw5 hblk hb6 hg6
  go_wp2_with fail
  refine (same_any _ _ _ _ _ _ Y _ hs6 hbs).mono ?_
  rintro e w7 ⟨rfl, rfl⟩
  clear hs6
  have HBS := Lib.hid (fun w' (h : Below w6.heap.size w6 w') => hbs.below h)
  have HB6 := Lib.hid hbd
  clear hbs
  go_wp2
  have hch := below_one' w6
  have hbw := hbd.trans ((below_one' _).mono hbd.size)
  have hS : S1 w.heap.size (stc f t A n m) (stc f2 t2 B k c) _ := h2.below (below_one' _)
  have L1 : ∀ w', S1 w.heap.size (stc f t A n m) (stc f2 t2 B k c) w' → w'.cell? ⟨w.heap.size, 0, none⟩ = some (.int .u64 f) ∧ w'.cell? ⟨w.heap.size, 1, none⟩ = some (.int .u64 t) ∧ w'.cell? ⟨w.heap.size, 2, none⟩ = some (.slice A n m) := fun w' h => h.1.c3
  have L2 : ∀ w', S1 w.heap.size (stc f t A n m) (stc f2 t2 B k c) w' → w'.cell? ⟨w.heap.size + 1, 0, none⟩ = some (.int .u64 f2) ∧ w'.cell? ⟨w.heap.size + 1, 1, none⟩ = some (.int .u64 t2) ∧ w'.cell? ⟨w.heap.size + 1, 2, none⟩ = some (.slice B k c) := fun w' h => h.2.c3
  have HSA := Lib.hid (fun w' (h : Below w.heap.size w w') => stsame_any _ _ f t A n m S f2 t2 B k c T w' (HZ.out.below h) (HZ2.out.below h) (by omega) (by omega) HLN.out HLN2.out)
  have HRS := Lib.hid (fun w' (h : Below w.heap.size w w') => rstsame_any _ _ f t A n m S f2 t2 B k c T w' (HZ.out.below h) (HZ2.out.below h) (by omega) (by omega) HLN.out HLN2.out)
  unfold BPost at HSA HRS
  generalize decide ((f, t, S) = (f2, t2, T)) = V at HSA HRS
  clear h2
  refine Seq.wp_region_seq (S1 w.heap.size (stc f t A n m) (stc f2 t2 B k c)) (by kernel_rfl) (by kernel_rfl) hS ?_
  repeat (first | (refine Seq.Seq.skip (by rfl) ?_; (try simp only [Act.put, List.setIfInBounds_toArray, List.set_cons_zero, List.set_cons_succ])) | (refine Seq.Seq.det ?_ (by rfl) (fun w hS => ?_) ?_; rotate_left; ((try dsimp only at hS); go_simp; (try rw [if_pos (by omega)]); with_reducible rfl); (try simp only [Act.put, List.setIfInBounds_toArray, List.set_cons_zero, List.set_cons_succ])))
  refine Seq.Seq.make (by rfl) (by rfl) (fun K Q' hK => ?_)
  go_simp
  go_at_call 14
  refine (stright_any _ f t A n m S _ (HZ.out.below hbw) HM.out (by omega) HLN.out).mono ?_
  rintro e v1 ⟨rfl, hc1⟩
  rw [HOK.out]
  replace hS := hS.below hc1
  replace hbw := hbw.trans (hc1.mono hbw.size)
  replace hch := hch.trans (hc1.mono hch.size)
  refine hK.out _ _ (hS) ?_
  clear hK K
  try simp only [Act.put, List.setIfInBounds_toArray, List.set_cons_zero, List.set_cons_succ]
  repeat (first | (refine Seq.Seq.skip (by rfl) ?_; (try simp only [Act.put, List.setIfInBounds_toArray, List.set_cons_zero, List.set_cons_succ])) | (refine Seq.Seq.det ?_ (by rfl) (fun w hS => ?_) ?_; rotate_left; ((try dsimp only at hS); go_simp; (try rw [if_pos (by omega)]); with_reducible rfl); (try simp only [Act.put, List.setIfInBounds_toArray, List.set_cons_zero, List.set_cons_succ])))
  refine Seq.Seq.make (by rfl) (by rfl) (fun K Q' hK => ?_)
  go_simp
  go_at_call 15
  refine (rright19_any _ f t A n m S _ (HZ.out.below hbw) HM.out (by omega) HLN.out).mono ?_
  rintro e v2 ⟨rfl, hc2⟩
  rw [HOK.out]
  replace hS := hS.below hc2
  replace hbw := hbw.trans (hc2.mono hbw.size)
  replace hch := hch.trans (hc2.mono hch.size)
  refine hK.out _ _ (hS) ?_
  clear hK K
  try simp only [Act.put, List.setIfInBounds_toArray, List.set_cons_zero, List.set_cons_succ]
  repeat (first | (refine Seq.Seq.skip (by rfl) ?_; (try simp only [Act.put, List.setIfInBounds_toArray, List.set_cons_zero, List.set_cons_succ])) | (refine Seq.Seq.det ?_ (by rfl) (fun w hS => ?_) ?_; rotate_left; ((try dsimp only at hS); go_simp; (try rw [if_pos (by omega)]); with_reducible rfl); (try simp only [Act.put, List.setIfInBounds_toArray, List.set_cons_zero, List.set_cons_succ])))
  refine Seq.Seq.make (by rfl) (by rfl) (fun K Q' hK => ?_)
  go_simp
  go_at_call 16
  refine (HSA.out _ hbw).mono ?_
  rintro e v3 ⟨rfl, hc3⟩
  replace hS := hS.below hc3
  replace hbw := hbw.trans (hc3.mono hbw.size)
  replace hch := hch.trans (hc3.mono hch.size)
  refine hK.out _ _ (hS) ?_
  clear hK K
  try simp only [Act.put, List.setIfInBounds_toArray, List.set_cons_zero, List.set_cons_succ]
  repeat (first | (refine Seq.Seq.skip (by rfl) ?_; (try simp only [Act.put, List.setIfInBounds_toArray, List.set_cons_zero, List.set_cons_succ])) | (refine Seq.Seq.det ?_ (by rfl) (fun w hS => ?_) ?_; rotate_left; ((try dsimp only at hS); go_simp; (try rw [if_pos (by omega)]); with_reducible rfl); (try simp only [Act.put, List.setIfInBounds_toArray, List.set_cons_zero, List.set_cons_succ])))
  refine Seq.Seq.make (by rfl) (by rfl) (fun K Q' hK => ?_)
  go_simp
  go_at_call 17
  refine (HRS.out _ hbw).mono ?_
  rintro e v4 ⟨rfl, hc4⟩
  replace hS := hS.below hc4
  replace hbw := hbw.trans (hc4.mono hbw.size)
  replace hch := hch.trans (hc4.mono hch.size)
  refine hK.out _ _ (hS) ?_
  clear hK K
  try simp only [Act.put, List.setIfInBounds_toArray, List.set_cons_zero, List.set_cons_succ]
  repeat (first | (refine Seq.Seq.skip (by rfl) ?_; (try simp only [Act.put, List.setIfInBounds_toArray, List.set_cons_zero, List.set_cons_succ])) | (refine Seq.Seq.det ?_ (by rfl) (fun w hS => ?_) ?_; rotate_left; ((try dsimp only at hS); go_simp; (try rw [if_pos (by omega)]); with_reducible rfl); (try simp only [Act.put, List.setIfInBounds_toArray, List.set_cons_zero, List.set_cons_succ])))
  refine Seq.Seq.make (by rfl) (by rfl) (fun K Q' hK => ?_)
  go_simp
  go_at_call 18
  have hsz4 := hbw.size
  refine (stcopy_any f t A n m S _ ((HZ.out.below hbw).mono fun b hb9 _ => by omega) HM.out HNIL.out (by omega) (fun l hl => by have := HL20.out l hl; omega)).mono ?_
  rintro e v5 ⟨A5, m5, rfl, hc5, hst5, hle5, _⟩
  replace hS := hS.below hc5
  replace hbw := hbw.trans (hc5.mono hbw.size)
  replace hch := hch.trans (hc5.mono hch.size)
  refine hK.out _ _ (hS) ?_
  clear hK K
  try simp only [Act.put, List.setIfInBounds_toArray, List.set_cons_zero, List.set_cons_succ]
  repeat (first | (refine Seq.Seq.skip (by rfl) ?_; (try simp only [Act.put, List.setIfInBounds_toArray, List.set_cons_zero, List.set_cons_succ])) | (refine Seq.Seq.det ?_ (by rfl) (fun w hS => ?_) ?_; rotate_left; ((try dsimp only at hS); go_simp; (try rw [if_pos (by omega)]); with_reducible rfl); (try simp only [Act.put, List.setIfInBounds_toArray, List.set_cons_zero, List.set_cons_succ])))
  refine Seq.Seq.make (by rfl) (by rfl) (fun K Q' hK => ?_)
  go_simp
  go_at_call 17
  refine (rstsame_any _ _ f t A5 n m5 S f t A n m S _ hst5 (HZ.out.below hbw) (by omega) (by omega) HLN.out HLN.out).mono ?_
  rintro e v6 ⟨rfl, hc6⟩
  rw [decide_eq_true rfl]
  replace hS := hS.below hc6
  replace hbw := hbw.trans (hc6.mono hbw.size)
  replace hch := hch.trans (hc6.mono hch.size)
  refine hK.out _ _ (hS) ?_
  clear hK K
  try simp only [Act.put, List.setIfInBounds_toArray, List.set_cons_zero, List.set_cons_succ]
  repeat (first | (refine Seq.Seq.skip (by rfl) ?_; (try simp only [Act.put, List.setIfInBounds_toArray, List.set_cons_zero, List.set_cons_succ])) | (refine Seq.Seq.det ?_ (by rfl) (fun w hS => ?_) ?_; rotate_left; ((try dsimp only at hS); go_simp; (try rw [if_pos (by omega)]); with_reducible rfl); (try simp only [Act.put, List.setIfInBounds_toArray, List.set_cons_zero, List.set_cons_succ])))
  refine Seq.Seq.nil ?_
  clear hc1 hc2 hc3 hc4 hc5 hc6 hst5 hle5 L1 L2 hbd
  have hbd := hbw
  have h2 : S1 w.heap.size (stc f t A n m) (stc f2 t2 B k c) v6 := hS
  clear hS hbw
  replace HBS := HBS.out _ hch
  clear HB6 hch
  obtain ⟨x0, x1, x2⟩ := h2.1.c3
  go_wp2_with fail
  refine (rright19_any _ f t A n m S _ (HZ.out.below hbd) HM.out (by omega) HLN.out).mono ?_
  rintro e w8 ⟨rfl, hb8⟩
  rw [HOK.out]
  replace hbd := hbd.trans (hb8.mono hbd.size)
  replace h2 := h2.below hb8
  have hbs := HBS.below hb8
  clear hb8 x0 x1 x2 HBS
  have hown0 := own_row (B := w8.heap.size) (z := []) (Blk.new w8 #[] 5) (Nat.le_refl _) (by simp)
  have hsA := hbs.below (below_one w8 (.cells #[] 5))
  have HZ8 := Lib.hid (HZB.out.below hbd)
  go_wp2_with (at_builtin; go_must (first | (refine list_append_gr rfl (.tmp 83) (.tmp 84) rfl w8.heap.size (.slice (some ⟨w8.heap.size, 0, none⟩) 0 0) [] rfl hown0 _ _ _ Y rfl hsA (by simp) (by have := HLE.out; simp; omega) (by simp) ?_; intro v6 w9 ho6 hg6 hgr6; have hb9 := Own.belowOf (below_one w8 (.cells #[] 5)) (by simp) hown0 hg6; rw [List.nil_append] at ho6; obtain ⟨A6, c6, hv⟩ := ho6.slice; subst hv; have hz9 := HZ8.out.below hb9; have hB9 := hb9.size; clear hg6 hgr6 hsA hown0) | (refine list_append_gr rfl (.tmp 85) (.tmp 86) rfl w8.heap.size _ Y rfl ho6 _ r mm z rfl hz9 HNILB.out (by have := HLE.out; omega) hB9 ?_; intro v8 w10 ho8 hg8 hgr8; have hb10 := Own.belowOf hb9 hB9 ho6 hg8; clear hg8 hgr8 hz9 ho6 hb9; obtain ⟨A10, c10, hv, hs10, hnil10, hcap10⟩ := own_parts ho8; subst hv)))
  have HYB : Hid (∀ x ∈ Y, 0 ≤ x ∧ x < 256) := Lib.hid fun x hx => by
    rw [HY.out] at hx
    exact stb_byte HOK.out f0 HSB.out x hx
  have HZZ : Hid (∀ x ∈ Y ++ z, 0 ≤ x ∧ x < 256) := Lib.hid fun x hx => by
    rcases List.mem_append.1 hx with hx | hx
    · exact HYB.out x hx
    · exact HBY.out x hx
  have hzl := HZB.out.1
  have HE : Hid (str (Y ++ z) f 0 = ((f, t, S), (Y.length : Int), 0, 0)) := Lib.hid (by
    have := str_put (z := Y ++ z) (pre := []) (rest := z) (s := (f, t, S)) (by rw [HY.out]; rfl) HOK.out f0 HSB.out HBY.out
    rw [HY.out] at this ⊢
    simpa using this)
  replace h2 := h2.below hb10
  replace hbs := hbs.below hb10
  replace hbd := hbd.trans (hb10.mono hbd.size)
  have hLL : (Y ++ z).length = Y.length + r := by rw [List.length_append, hzl]
  rw [hLL] at hs10 hcap10
  obtain ⟨N, hN⟩ : ∃ N, N = Y.length + r := ⟨_, rfl⟩
  rw [← hN] at hs10 hcap10
  have hN1 : N ≤ 100000 := by have := HLE.out; omega
  have hNZ : Hid ((Y ++ z).length = N) := Lib.hid (by rw [hLL, hN])
  clear hb10 ho8 hnil10 hLL HZ8
  rw [hzl, ← hN]
  clear hN
  obtain ⟨Z, hZ⟩ : ∃ Z, Z = Y ++ z := ⟨_, rfl⟩
  rw [← hZ] at hs10 HE HZZ hNZ
  have HZE := Lib.hid hZ
  clear hZ
  refine (new_some _ _ _ _ hcap10).mono ?_
  rintro e w11 ⟨rb, rfl, hrb, hb11, hr11⟩
  have hgl : 0 < Y.length → g < w10.heap.size := fun h0 => hbs.lt h0 _ rfl
  have hl10 := h2.1.lt
  have hl10' := h2.2.lt
  replace h2 := h2.below hb11
  replace hbs := hbs.below hb11
  replace hs10 := hs10.below hb11
  replace hbd := hbd.trans (hb11.mono hbd.size)
  obtain ⟨x0, x1, x2⟩ := h2.1.c3
  go_wp2_with fail
  refine (sread19_any rb A10 N N Z f 0 0 0 _ hr11 hs10 (by omega) (by omega) hN1 HZZ.out f0 f1).mono ?_
  rintro e w12 ⟨f', t', A', N', m', S', p', c', q', rfl, hk12, hr12, hst12, hle', hnil', _, _, _, hl8', hN8', hs12⟩
  obtain ⟨e1, rfl, rfl, rfl⟩ := hs12.of_done HE.out
  injection e1 with e1 e2
  injection e2 with e2 e3
  replace e1 := e1.symm
  replace e2 := e2.symm
  replace e3 := e3.symm
  subst e1 e2 e3
  obtain rfl : N' = n := by rw [← hst12.1, HZ.out.1]
  have hbx := below_one w12 (.cells (stc f t A' N' m') 25)
  have hT := Blk.new w12 (stc f t A' N' m') 25
  have hst13 := hst12.below hbx
  have hr13 := hr12.below hbx
  replace hbs := (hbs.ks (Ks.of_kp (S := fun k => k = rb) hk12 rfl) (fun h0 ad ha => by injection ha with ha; subst ha; have := hgl h0; show ¬ g = rb; omega)).below hbx
  replace h2 : S1 w.heap.size (stc f t A N' m) (stc f2 t2 B k c) _ := ⟨(blk_kp h2.1 hk12 (by omega)).below hbx, (blk_kp h2.2 hk12 (by omega)).below hbx⟩
  replace hbd := (Kp.below hbd (Nat.le_refl _) hk12 (by omega))
  replace hbd := hbd.trans (hbx.mono hbd.size)
  clear hbx hk12 hr12 hst12 hs12 hr11 hs10 x0 x1 x2 hgl
  go_upto_region 15 with (fail)
  generalize w12.alloc (.cells (stc f t A' N' m') 25) = w13 at *
  generalize w12.heap.size = tb at *
  obtain ⟨x0, x1, x2⟩ := h2.1.c3
  go_wp2_with fail
  refine (rstbytes_any _ f t A N' m S HOK.out f0 _ (HZ.out.below hbd) HM.out).mono ?_
  rintro e w14 ⟨A14, m14, rfl, hb14, hs14, _, _, _⟩
  rw [← HY.out] at hs14 ⊢
  replace hbs := hbs.below hb14
  replace h2 := h2.below hb14
  replace hT := hT.below hb14
  replace hst13 := hst13.below hb14
  replace hr13 := hr13.below hb14
  replace hbd := hbd.trans (hb14.mono hbd.size)
  clear x0 x1 x2 hb14
  go_wp2_with fail
  refine (same_any _ _ _ _ _ _ Y _ hbs hs14).mono ?_
  rintro e w15 ⟨rfl, rfl⟩
  clear hbs hs14
  go_wp2_with fail
  refine (good_any _ _ _ _ _ _ hr13).mono ?_
  rintro e w16 ⟨rfl, hb16⟩
  replace h2 := h2.below hb16
  replace hT := hT.below hb16
  replace hst13 := hst13.below hb16
  replace hr13 := hr13.below hb16
  replace hbd := hbd.trans (hb16.mono hbd.size)
  clear hb16
  go_wp2_with fail
  refine (at_any _ _ _ _ _ _ hr13).mono ?_
  rintro e w17 ⟨rfl, rfl⟩
  obtain ⟨x0, x1, x2⟩ := h2.1.c3
  obtain ⟨y0, y1, y2⟩ := hT.c3
  clear hr13
  go_wp2_with fail
  refine (rstsame_any _ _ f t A' N' m' S f t A N' m S _ hst13 (HZ.out.below hbd) (by omega) (by omega) HLN.out HLN.out).mono ?_
  rintro e w18 ⟨rfl, hb18⟩
  rw [decide_eq_true rfl]
  replace hbd := hbd.trans (hb18.mono hbd.size)
  clear hb18 x0 x1 x2 y0 y1 y2 h2 hT hst13
  go_wp2_with fail
  refine (live19_any _).mono ?_
  rintro e wl ⟨rfl, hbl⟩
  replace hbd := hbd.trans (hbl.mono hbd.size)
  go_wp2
  go_ret
  exact ⟨rfl, hbd⟩

set_option maxRecDepth 100000 in
theorem lifted (os : Os) (started : os.Started) (H : Type) (enc : TypeId × Value → H) :
    ReturnsInHanded {} Try.checked os 3 .any (Rows.stripeWritesSpec.pre6 enc Try.prog Try.f3 Rows.stripeWritesRow.domain false) (Rows.stripeWritesSpec.post enc Try.prog Try.f3 false true false false) := by
  refine returnsInHanded_of_change (C := Try.checked) own started (by kernel_rfl) Try.func3
    (ChangeSpec.witness6 (enc := enc) (C := Try.checked) false ⟨#[], #[.agg #[.int .u64 0, .int .u64 0, .slice none 0 0], .agg #[.int .u64 0, .int .u64 0, .slice none 0 0], .slice none 0 0], []⟩ 8 (by kernel_rfl) (by kernel_rfl) (by kernel_rfl) (by kernel_rfl)) ?_
  intro W base args ds gs before hval0 hW hcnd _
  have hval : ∀ (j : Nat) t v, Try.f3.params[j]? = some t → args[j]? = some v → Value.okWide Try.prog W .any base t v := hval0
  have hW' := hW
  obtain ⟨p, q, hA0, hV, rfl, hfz, hnd⟩ := hW
  have hA : DataW.TrodAll enc Try.prog W 0 (fun _ => true) true Try.f3.params.toList args.toList ds p := hA0
  rw [Try.params3] at hA hval
  obtain ⟨v0, vs0, d0, ds0, p0, q0, hargs, rfl, rfl, h0, r0⟩ := trodAll_cons hA
  obtain ⟨v1, vs1, d1, ds1, p1, q1, rfl, rfl, rfl, h1, r1⟩ := trodAll_cons r0
  obtain ⟨v2, vs2, d2, ds2, p2, q2, rfl, rfl, rfl, h2, r2⟩ := trodAll_cons r1
  obtain ⟨rfl, rfl, rfl⟩ := trodAll_nil r2
  obtain rfl : args = #[v0, v1, v2] := by cases args; simp_all
  obtain ⟨rfl, rfl⟩ := trodVars_none hV
  have lt0 : ∀ x ∈ p0, x.block < W.heap.size := by obtain ⟨m, hm⟩ := h0; exact DataW.trod_lt m _ _ _ hm
  have lt1 : ∀ x ∈ p1, x.block < W.heap.size := by obtain ⟨m, hm⟩ := h1; exact DataW.trod_lt m _ _ _ hm
  have lt2 : ∀ x ∈ p2, x.block < W.heap.size := by obtain ⟨m, hm⟩ := h2; exact DataW.trod_lt m _ _ _ hm
  clear hA0 hval0
  refine (walk enc W base v0 d0 p0 (hval 0 25 v0 rfl rfl) h0 v1 d1 p1 (hval 1 25 v1 rfl rfl) h1 v2 d2 p2 (hval 2 26 v2 rfl rfl) h2).mono fun e W' ⟨he, bel⟩ => ?_
  subst he
  exact ⟨_, rfl, _, _, _, [], _, [], hW', trodAll_mk1 (shut_bool Try.underlying4 _), (trodAll_cons_mk (Below.trod laidOut (by kernel_rfl) (of_decide_eq_true (by kernel_rfl)) h0 bel lt0) (trodAll_cons_mk (Below.trod laidOut (by kernel_rfl) (of_decide_eq_true (by kernel_rfl)) h1 bel lt1) (trodAll_cons_mk (Below.trod laidOut (by kernel_rfl) (of_decide_eq_true (by kernel_rfl)) h2 bel lt2) trodAll_mk0))), rfl, bel.frame _, fun h => by cases h⟩

theorem over : Rows.stripeWritesRow.holds Try.pinned (OpenSpec.ofChange Rows.stripeWritesSpec) :=
  OpenClaim.holds_of_wide 3 Try.f3 rfl rfl rfl rfl rfl rfl rfl ⟨rfl, rfl, rfl, rfl, rfl⟩ rfl rfl rfl rfl rfl (by kernel_rfl) Try.func3 (by kernel_rfl)
    (of_decide_eq_true (by kernel_rfl)) (by unfold Func.isWrapper; first | (rw [if_pos (by decide +kernel)]; kernel_rfl) | (rw [if_neg (by decide +kernel)]; exact ⟨rfl, rfl⟩))
    (fun os started H enc _ => lifted os started H enc)

/-- THE STATEMENT. -/
theorem proved : Rows.StripeWritesSaid := over
#print axioms proved
end Go.Proofs.Ytpoicagalmhfdaa.stripeWrites

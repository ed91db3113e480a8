/- SealWrites: called with any seal and any bytes, the law returns true; no condition. -/
import Derived.Test.YtdljkpmjamegjaaRows
import Derived.Test.YtdljkpmjamegjaaSelG
import Derived.Test.YtdljkpmjamegjaaK1
import Derived.ProofKit
import Derived.OpenShut
import Derived.ShutString
import Derived.ChangeOld
namespace Go.Proofs.Ytdljkpmjamegjaa.sealWrites
open Go.ChangeShapes Go.WideShapes Go.ChangeAt Go.RowKit
open Go.ChangeMaps (open_string shut_string)
set_option linter.unusedVariables false

theorem own : ownKnob Try.prog.godebug = none := by kernel_rfl
theorem laidOut : laidOutB Try.prog = true := by kernel_rfl
open Cur Mem

set_option maxRecDepth 100000

abbrev sc (a b c : Int) : Array Value := #[.int .u64 a, .int .u64 b, .int .u64 c]
theorem own_row {w : World} {g B : Nat} {z : List Int} (h : Blk w g (z.map (Value.int .u8)).toArray 5) (hB : B ≤ g) (hm : z.length ≤ 1000000) : Own w B (.slice (some ⟨g, 0, none⟩) z.length z.length) z :=
  ⟨by simp, .inr ⟨g, z.length, _, rfl, hB, h, Nat.le_refl _, by simp only [maxLen]; omega, by simp, by rw [Nat.mul_one]; exact List.take_of_length_le (by simp)⟩⟩
theorem own_parts {w : World} {B : Nat} {v : Value} {z : List Int} (h : Own w B v z) : ∃ A c, v = .slice A z.length c ∧ Bs w A z.length z ∧ (A = none → c = 0) ∧ z.length ≤ c := by
  obtain ⟨A, c, rfl, h0, h1⟩ := own_slice h
  exact ⟨A, c, rfl, h.bs.2, h0, h1⟩
theorem sby_byte (s : Sl3) (hs : sbd s) : ∀ x ∈ sby s, 0 ≤ x ∧ x < 256 := by
  obtain ⟨⟨a0, a1⟩, ⟨b0, b1⟩, ⟨c0, c1⟩⟩ := hs
  intro x hx
  rw [sby_eq] at hx
  rcases List.mem_append.1 hx with hx | hx
  · rcases List.mem_append.1 hx with hx | hx
    · exact vz_byte _ a0 a1 x hx
    · exact vz_byte _ b0 b1 x hx
  · exact vz_byte _ c0 c1 x hx

/-- What the loads need. -/
def S1 (b2 : Nat) (s0 s1 s2 : Int) (w' : World) : Prop := Blk w' b2 (sc s0 s1 s2) 24
theorem S1.below {b2 : Nat} {s0 s1 s2 : Int} {w' w'' : World} (h : S1 b2 s0 s1 s2 w') (hb : Below w'.heap.size w' w'') : S1 b2 s0 s1 s2 w'' := Blk.below h hb


set_option maxHeartbeats 8000000 in
theorem walk {H : Type} (enc : TypeId × Value → H) (w : World) (base : Nat) (v0 : Value) (d0 : DataW H) (p0 : List MemPlace) (g0 : Value.okWide Try.prog w .any base 24 v0) (h0 : DataW.Trod enc Try.prog w 0 (fun _ => true) true 24 v0 d0 p0) (v1 : Value) (d1 : DataW H) (p1 : List MemPlace) (g1 : Value.okWide Try.prog w .any base 25 v1) (h1 : DataW.Trod enc Try.prog w 0 (fun _ => true) true 25 v1 d1 p1) :
    Calls Try.prog 3 #[v0, v1] w fun e w' => e = .returned (.bool true) ∧ Below w.heap.size w w' := by
  obtain ⟨s, rfl, hs⟩ := open_seal g0 h0
  obtain ⟨a, n, m, z, rfl, hnm, hz, hby, hnil⟩ := open_bytes g1 h1
  clear g0 h0 g1 h1
  obtain ⟨s0, s1, s2⟩ := s
  obtain ⟨⟨hs0, _⟩, _⟩ := id hs
  have h2 := Blk.new w (sc s0 s1 s2) 24
  have hbd := below_one w (.cells (sc s0 s1 s2) 24)
  by_cases hn : 300 < (n : Int)
  · clear h2
    go_enter Try.func3, Try.ntmps3
    go_wp2_with fail
    refine (live18_any _).mono ?_
    rintro e w1 ⟨rfl, hb⟩
    replace hbd := hbd.trans (hb.mono hbd.size)
    go_wp2
    go_ret
    exact ⟨rfl, hbd⟩
  have HBY := Lib.hid hby
  have HZ := Lib.hid hz
  clear hby
  obtain ⟨x0, x1, x2⟩ := h2.c3
  go_enter Try.func3, Try.ntmps3
  go_wp2_with fail
  generalize w.alloc (.cells (sc s0 s1 s2) 24) = w0 at *
  refine (sbytes_any (s0, s1, s2) hs _).mono ?_
  rintro e w1 ⟨hb1, ⟨hok, g, rfl, hbs⟩ | ⟨hok, rfl⟩⟩
  · -- valid
    replace h2 := h2.below hb1
    replace hbd := hbd.trans (hb1.mono hbd.size)
    have hlen := sby_len (s0, s1, s2)
    have hfit := puts_fits (xs := sits (s0, s1, s2)) (z := []) (M := 40) (by have : (sits (s0, s1, s2)).flatten.length ≤ 30 := hlen; simp only [List.length_nil]; omega)
    rw [List.nil_append] at hfit
    have HF := Lib.hid hfit
    have HLE := Lib.hid hlen
    have HOK := Lib.hid hok
    clear hb1 x0 x1 x2 hfit hlen
    go_wp2_with fail
    refine (wnew_any 40 _ (by omega)).mono ?_
    rintro e w3 ⟨b, rfl, hg3, hb3, hw3⟩
    rw [if_neg (by omega)] at hw3
    have hB3 := hb3.size
    have hB0 := hbd.size
    have hl2 := h2.lt
    have hgl : 0 < (sby (s0, s1, s2)).length → ∀ a, some (⟨g, 0, none⟩ : Addr) = some a → a.block < w1.heap.size := fun h0 => hbs.lt h0
    replace h2 := h2.below hb3
    replace hbs := hbs.below hb3
    replace hbd := hbd.trans (hb3.mono hbd.size)
    obtain ⟨x0, x1, x2⟩ := h2.c3
    clear hb3
    go_wp2_with fail
    refine (sput_yes (s0, s1, s2) hok hs hw3 (by simp) hB3).mono ?_
    rintro e w4 ⟨r4, rfl, hk, hgr, hw4⟩
    rw [HF.out] at hw4
    replace h2 := h2.ks hk (Wr.off_lt hw3 hl2)
    replace hbs := hbs.ks hk (fun h0 a ha => Wr.off_lt hw3 (hgl h0 a ha))
    replace hbd := hw3.belowOf hbd (Nat.le_refl _) hk hB0
    clear hk hw3 x0 x1 x2 hgr hgl hB3 hl2 HF
    go_wp2_with fail
    refine (wbytes_good (z := sby (s0, s1, s2)) hw4 (by have := HLE.out; omega)).mono ?_
    rintro e w5 ⟨g5, rfl, hg5, hb5, hblk⟩
    have hs5 := Bs.of_block hblk
    replace h2 := h2.below hb5
    replace hbs := hbs.below hb5
    replace hbd := hbd.trans (hb5.mono hbd.size)
    clear hw4 hblk hb5 hg5
    go_wp2_with fail
    refine (same_any _ _ _ _ _ _ (sby (s0, s1, s2)) _ hs5 hbs).mono ?_
    rintro e w6 ⟨rfl, rfl⟩
    clear hs5
    have L1 : ∀ w', S1 w.heap.size s0 s1 s2 w' → w'.cell? ⟨w.heap.size, 0, none⟩ = some (.int .u64 s0) ∧ w'.cell? ⟨w.heap.size, 1, none⟩ = some (.int .u64 s1) ∧ w'.cell? ⟨w.heap.size, 2, none⟩ = some (.int .u64 s2) := fun w' h => Blk.c3 h
    replace hbs := hbs.below (below_one' _)
    have HBS := Lib.hid hbs
    clear hbs
    go_wp2
    replace hbd := hbd.trans ((below_one' _).mono hbd.size)
    replace h2 : S1 w.heap.size s0 s1 s2 _ := Blk.below h2 (below_one' _)
    refine Seq.wp_region_seq (S1 w.heap.size s0 s1 s2) (by kernel_rfl) (by kernel_rfl) h2 ?_
    repeat (first | (refine Seq.Seq.skip (by rfl) ?_; (try simp only [Act.put, List.setIfInBounds_toArray, List.set_cons_zero, List.set_cons_succ])) | (refine Seq.Seq.det ?_ (by rfl) (fun w hS => ?_) ?_; rotate_left; ((try dsimp only at hS); go_simp; (try rw [if_pos (by omega)]); with_reducible rfl); (try simp only [Act.put, List.setIfInBounds_toArray, List.set_cons_zero, List.set_cons_succ])))
    refine Seq.Seq.make (by rfl) (by rfl) (fun K Q' hK => ?_)
    go_simp
    go_at_call 13
    with_reducible refine (sright_any (s0, s1, s2) _).mono ?_
    rintro e w6 ⟨rfl, hb6⟩
    replace h2 := h2.below hb6
    replace hbd := hbd.trans (hb6.mono hbd.size)
    refine hK.out _ _ (h2) ?_
    clear hK K
    try simp only [Act.put, List.setIfInBounds_toArray, List.set_cons_zero, List.set_cons_succ]
    repeat (first | (refine Seq.Seq.skip (by rfl) ?_; (try simp only [Act.put, List.setIfInBounds_toArray, List.set_cons_zero, List.set_cons_succ])) | (refine Seq.Seq.det ?_ (by rfl) (fun w hS => ?_) ?_; rotate_left; ((try dsimp only at hS); go_simp; (try rw [if_pos (by omega)]); with_reducible rfl); (try simp only [Act.put, List.setIfInBounds_toArray, List.set_cons_zero, List.set_cons_succ])))
    refine Seq.Seq.make (by rfl) (by rfl) (fun K Q' hK => ?_)
    go_simp
    go_at_call 14
    with_reducible refine (rright18_any (s0, s1, s2) hs0 _).mono ?_
    rintro e w7 ⟨rfl, hb7⟩
    replace h2 := h2.below hb7
    replace hbd := hbd.trans (hb7.mono hbd.size)
    refine hK.out _ _ (h2) ?_
    clear hK K
    try simp only [Act.put, List.setIfInBounds_toArray, List.set_cons_zero, List.set_cons_succ]
    repeat (first | (refine Seq.Seq.skip (by rfl) ?_; (try simp only [Act.put, List.setIfInBounds_toArray, List.set_cons_zero, List.set_cons_succ])) | (refine Seq.Seq.det ?_ (by rfl) (fun w hS => ?_) ?_; rotate_left; ((try dsimp only at hS); go_simp; (try rw [if_pos (by omega)]); with_reducible rfl); (try simp only [Act.put, List.setIfInBounds_toArray, List.set_cons_zero, List.set_cons_succ])))
    refine Seq.Seq.nil ?_
    clear L1
    obtain ⟨x0, x1, x2⟩ := Blk.c3 h2
    replace HBS := Lib.hid ((HBS.out.below hb6).below hb7)
    clear hb6 hb7
    go_wp2_with fail
    with_reducible refine (rright18_any (s0, s1, s2) hs0 _).mono ?_
    rintro e w8 ⟨rfl, hb8⟩
    rw [HOK.out]
    replace hbd := hbd.trans (hb8.mono hbd.size)
    replace h2 : Blk _ w.heap.size _ _ := Blk.below h2 hb8
    have hbs := HBS.out.below hb8
    clear hb8 x0 x1 x2 HBS
    have hown0 := own_row (B := w8.heap.size) (z := []) (Blk.new w8 #[] 5) (Nat.le_refl _) (by simp)
    have hsA := hbs.below (below_one w8 (.cells #[] 5))
    have HZ8 := Lib.hid (HZ.out.below hbd)
    obtain ⟨Y, hY⟩ : ∃ Y, Y = sby (s0, s1, s2) := ⟨_, rfl⟩
    rw [← hY] at hsA hbs HLE ⊢
    have HY := Lib.hid hY
    clear hY
    go_wp2_with (at_builtin; go_must (first | (refine list_append_gr rfl (.tmp 61) (.tmp 62) rfl w8.heap.size (.slice (some ⟨w8.heap.size, 0, none⟩) 0 0) [] rfl hown0 _ _ _ Y rfl hsA (by simp) (by have := HLE.out; simp; omega) (by simp) ?_; intro v6 w9 ho6 hg6 hgr6; have hb9 := Own.belowOf (below_one w8 (.cells #[] 5)) (by simp) hown0 hg6; rw [List.nil_append] at ho6; obtain ⟨A6, c6, hv⟩ := ho6.slice; subst hv; have hz9 := HZ8.out.below hb9; have hB9 := hb9.size; clear hg6 hgr6 hsA hown0) | (refine list_append_gr rfl (.tmp 63) (.tmp 64) rfl w8.heap.size _ Y rfl ho6 _ n m z rfl hz9 hnil (by have := HLE.out; omega) hB9 ?_; intro v8 w10 ho8 hg8 hgr8; have hb10 := Own.belowOf hb9 hB9 ho6 hg8; clear hg8 hgr8 hz9 ho6 hb9; obtain ⟨A10, c10, hv, hs10, hnil10, hcap10⟩ := own_parts ho8; subst hv)))
    have hzz : ∀ x ∈ Y ++ z, 0 ≤ x ∧ x < 256 := fun x hx => by
      rcases List.mem_append.1 hx with hx | hx
      · rw [HY.out] at hx; exact sby_byte _ hs x hx
      · exact HBY.out x hx
    have hzl := HZ.out.1
    have hget := sget_any A10 (Y ++ z).length c10 (Y ++ z) w10 hs10 hcap10 (by rw [List.length_append]; have := HLE.out; omega) hzz
    have hdec := fun w' (hb : Below w10.heap.size w10 w') => sdecode_any (some ⟨g, 0, none⟩) Y.length Y.length Y w' ((hbs.below hb10).below hb) (Nat.le_refl _) (by have := HLE.out; omega) (fun x hx => hzz x (List.mem_append_left _ hx))
    have e1 : sr (Y ++ z) 0 = ((s0, s1, s2), (Y.length : Int), 0, 0) := by rw [HY.out]; exact sr_put _ z hs HOK.out
    have e2 : sr Y 0 = ((s0, s1, s2), (Y.length : Int), 0, 0) := by have := sr_put _ [] hs HOK.out; rw [List.append_nil, ← HY.out] at this; exact this
    unfold SGetPost at hget
    rw [e1, List.length_append] at hget
    simp only [e2] at hdec
    have v1 : sgv ((s0, s1, s2), (Y.length : Int), 0, 0) = .tuple #[.agg (sc s0 s1 s2), .int .i64 Y.length, .agg #[.int .i64 0, .int .i64 0]] := rfl
    have v2 : sdv ((s0, s1, s2), (Y.length : Int), 0, 0) Y.length = .tuple #[.agg (sc s0 s1 s2), .agg #[.int .i64 0, .int .i64 0]] := by
      unfold sdv
      rw [if_neg (fun h => by have := h.2; dsimp only at this; omega)]
      rfl
    rw [v1] at hget
    rw [v2] at hdec
    have HDEC := Lib.hid hdec
    replace h2 : Blk _ w.heap.size _ _ := Blk.below h2 hb10
    replace hbs := hbs.below hb10
    replace hbd := hbd.trans (hb10.mono hbd.size)
    obtain ⟨L, hL⟩ : ∃ L, L = Y.length := ⟨_, rfl⟩
    rw [← hL] at hget HDEC hbs HLE ⊢
    have HL := Lib.hid hL
    clear hdec e1 e2 v1 v2 hzz hzl hb10 ho8 hs10 hnil10 hcap10 HZ8 HZ hL
    with_reducible refine hget.mono ?_
    rintro e w11 ⟨rfl, hb11⟩
    have h10 := (Blk.new w11 (sc s0 s1 s2) 24).alloc (.cells #[.int .i64 0, .int .i64 0] 37)
    have h12 := Blk.new (w11.alloc (.cells (sc s0 s1 s2) 24)) #[.int .i64 0, .int .i64 0] 37
    rw [show (w11.alloc (.cells (sc s0 s1 s2) 24)).heap.size = w11.heap.size + 1 by simp] at h12
    have hbx := hb11.trans ((below_two w11 (.cells (sc s0 s1 s2) 24) (.cells #[.int .i64 0, .int .i64 0] 37)).mono hb11.size)
    replace hbd := hbd.trans (hbx.mono hbd.size)
    replace h2 := h2.below hbx
    replace hbs := hbs.below hbx
    clear hget hb11
    go_wp2_with fail
    generalize (w11.alloc (.cells (sc s0 s1 s2) 24)).alloc (.cells #[.int .i64 0, .int .i64 0] 37) = w12 at *
    generalize w11.heap.size = b10 at *
    with_reducible refine (HDEC.out w12 hbx).mono ?_
    rintro e w13 ⟨rfl, hb13⟩
    have h13 := (Blk.new w13 (sc s0 s1 s2) 24).alloc (.cells #[.int .i64 0, .int .i64 0] 37)
    have h14 := Blk.new (w13.alloc (.cells (sc s0 s1 s2) 24)) #[.int .i64 0, .int .i64 0] 37
    rw [show (w13.alloc (.cells (sc s0 s1 s2) 24)).heap.size = w13.heap.size + 1 by simp] at h14
    have hby := hb13.trans ((below_two w13 (.cells (sc s0 s1 s2) 24) (.cells #[.int .i64 0, .int .i64 0] 37)).mono hb13.size)
    replace hbd := hbd.trans (hby.mono hbd.size)
    replace h2 := h2.below hby
    replace hbs := hbs.below hby
    replace h10 := h10.below hby
    replace h12 := h12.below hby
    clear hb13 hby hbx HDEC
    obtain ⟨x0, x1, x2⟩ := h2.c3
    go_wp2_with fail
    clear x0 x1 x2
    generalize (w13.alloc (.cells (sc s0 s1 s2) 24)).alloc (.cells #[.int .i64 0, .int .i64 0] 37) = w14 at *
    generalize w13.heap.size = b13 at *
    with_reducible refine (rbytes18_any (s0, s1, s2) hs _).mono ?_
    rintro e w15 ⟨A15, m15, rfl, hb15, hs15, _, _⟩
    replace hbd := hbd.trans (hb15.mono hbd.size)
    replace h2 := h2.below hb15
    replace hbs := hbs.below hb15
    replace h10 := h10.below hb15
    replace h12 := h12.below hb15
    replace h13 := h13.below hb15
    replace h14 := h14.below hb15
    rw [← HY.out, ← HL.out] at hs15 ⊢
    clear hb15
    obtain ⟨x0, x1, x2⟩ := h2.c3
    obtain ⟨y0, y1, y2⟩ := h10.c3
    obtain ⟨z0, z1⟩ := h12.c2
    obtain ⟨u0, u1, u2⟩ := h13.c3
    obtain ⟨k0, k1⟩ := h14.c2
    clear h2 h10 h12 h13 h14
    go_wp2_with fail
    with_reducible refine (same_any _ _ _ _ _ _ Y _ hbs hs15).mono ?_
    rintro e w16 ⟨rfl, rfl⟩
    clear hbs hs15
    go_wp2_with fail
    with_reducible refine (live18_any _).mono ?_
    rintro e w17 ⟨rfl, hb17⟩
    have HB := Lib.hid (hbd.trans (hb17.mono hbd.size))
    clear hbd hb17 x0 x1 x2 y0 y1 y2 z0 z1 u0 u1 u2 k0 k1
    go_wp2
    go_ret
    exact ⟨rfl, HB.out⟩
  · -- not valid
    replace h2 := h2.below hb1
    replace hbd := hbd.trans (hb1.mono hbd.size)
    clear hb1 x0 x1 x2
    go_wp2_with fail
    refine (wnew_any 40 _ (by omega)).mono ?_
    rintro e w3 ⟨b, rfl, hg3, hb3, hw3⟩
    rw [if_neg (by omega)] at hw3
    have hB3 := hb3.size
    have hB0 := hbd.size
    have hl2 := h2.lt
    replace h2 := h2.below hb3
    replace hbd := hbd.trans (hb3.mono hbd.size)
    obtain ⟨x0, x1, x2⟩ := h2.c3
    clear hb3
    go_wp2_with fail
    refine (sput_no (s0, s1, s2) hok hw3).mono ?_
    rintro e w4 ⟨rfl, hk, hw4⟩
    rw [if_pos rfl] at hw4
    replace h2 := h2.ks hk (Wr.off_lt hw3 hl2)
    replace hbd := hw3.belowOf hbd (Nat.le_refl _) hk hB0
    clear hk hw3 x0 x1 x2
    go_wp2_with fail
    refine (wbytes_bad hw4 (by decide)).mono ?_
    rintro e w5 ⟨rfl, rfl⟩
    go_wp2_with fail
    refine (same_any none none 0 0 0 0 [] _ (Bs.none _) (Bs.none _)).mono ?_
    rintro e w5 ⟨rfl, rfl⟩
    have L1 : ∀ w', S1 w.heap.size s0 s1 s2 w' → w'.cell? ⟨w.heap.size, 0, none⟩ = some (.int .u64 s0) ∧ w'.cell? ⟨w.heap.size, 1, none⟩ = some (.int .u64 s1) ∧ w'.cell? ⟨w.heap.size, 2, none⟩ = some (.int .u64 s2) := fun w' h => Blk.c3 h
    clear hw4
    go_wp2
    replace hbd := hbd.trans ((below_one' _).mono hbd.size)
    replace h2 : S1 w.heap.size s0 s1 s2 _ := Blk.below h2 (below_one' _)
    refine Seq.wp_region_seq (S1 w.heap.size s0 s1 s2) (by kernel_rfl) (by kernel_rfl) h2 ?_
    repeat (first | (refine Seq.Seq.skip (by rfl) ?_; (try simp only [Act.put, List.setIfInBounds_toArray, List.set_cons_zero, List.set_cons_succ])) | (refine Seq.Seq.det ?_ (by rfl) (fun w hS => ?_) ?_; rotate_left; ((try dsimp only at hS); go_simp; (try rw [if_pos (by omega)]); with_reducible rfl); (try simp only [Act.put, List.setIfInBounds_toArray, List.set_cons_zero, List.set_cons_succ])))
    refine Seq.Seq.make (by rfl) (by rfl) (fun K Q' hK => ?_)
    go_simp
    go_at_call 13
    with_reducible refine (sright_any (s0, s1, s2) _).mono ?_
    rintro e w6 ⟨rfl, hb6⟩
    replace h2 := h2.below hb6
    replace hbd := hbd.trans (hb6.mono hbd.size)
    refine hK.out _ _ (h2) ?_
    clear hK K
    try simp only [Act.put, List.setIfInBounds_toArray, List.set_cons_zero, List.set_cons_succ]
    repeat (first | (refine Seq.Seq.skip (by rfl) ?_; (try simp only [Act.put, List.setIfInBounds_toArray, List.set_cons_zero, List.set_cons_succ])) | (refine Seq.Seq.det ?_ (by rfl) (fun w hS => ?_) ?_; rotate_left; ((try dsimp only at hS); go_simp; (try rw [if_pos (by omega)]); with_reducible rfl); (try simp only [Act.put, List.setIfInBounds_toArray, List.set_cons_zero, List.set_cons_succ])))
    refine Seq.Seq.make (by rfl) (by rfl) (fun K Q' hK => ?_)
    go_simp
    go_at_call 14
    with_reducible refine (rright18_any (s0, s1, s2) hs0 _).mono ?_
    rintro e w7 ⟨rfl, hb7⟩
    replace h2 := h2.below hb7
    replace hbd := hbd.trans (hb7.mono hbd.size)
    refine hK.out _ _ (h2) ?_
    clear hK K
    try simp only [Act.put, List.setIfInBounds_toArray, List.set_cons_zero, List.set_cons_succ]
    repeat (first | (refine Seq.Seq.skip (by rfl) ?_; (try simp only [Act.put, List.setIfInBounds_toArray, List.set_cons_zero, List.set_cons_succ])) | (refine Seq.Seq.det ?_ (by rfl) (fun w hS => ?_) ?_; rotate_left; ((try dsimp only at hS); go_simp; (try rw [if_pos (by omega)]); with_reducible rfl); (try simp only [Act.put, List.setIfInBounds_toArray, List.set_cons_zero, List.set_cons_succ])))
    refine Seq.Seq.nil ?_
    clear L1
    obtain ⟨x0, x1, x2⟩ := Blk.c3 h2
    go_wp2_with fail
    with_reducible refine (rright18_any (s0, s1, s2) hs0 _).mono ?_
    rintro e w8 ⟨rfl, hb8⟩
    replace hbd := hbd.trans (hb8.mono hbd.size)
    clear hb8 x0 x1 x2
    go_wp2_with fail
    with_reducible refine (live18_any _).mono ?_
    rintro e w9 ⟨rfl, hb9⟩
    replace hbd := hbd.trans (hb9.mono hbd.size)
    go_wp2
    go_ret
    exact ⟨rfl, hbd⟩

set_option maxRecDepth 100000 in
theorem lifted (os : Os) (started : os.Started) (H : Type) (enc : TypeId × Value → H) :
    ReturnsInHanded {} Try.checked os 3 .any (Rows.sealWritesSpec.pre6 enc Try.prog Try.f3 Rows.sealWritesRow.domain false) (Rows.sealWritesSpec.post enc Try.prog Try.f3 false true false false) := by
  refine returnsInHanded_of_change (C := Try.checked) own started (by kernel_rfl) Try.func3
    (ChangeSpec.witness6 (enc := enc) (C := Try.checked) false ⟨#[], #[.agg #[.int .u64 0, .int .u64 0, .int .u64 0], .slice none 0 0], []⟩ 8 (by kernel_rfl) (by kernel_rfl) (by kernel_rfl) (by kernel_rfl)) ?_
  intro W base args ds gs before hval0 hW hcnd _
  have hval : ∀ (j : Nat) t v, Try.f3.params[j]? = some t → args[j]? = some v → Value.okWide Try.prog W .any base t v := hval0
  have hW' := hW
  obtain ⟨p, q, hA0, hV, rfl, hfz, hnd⟩ := hW
  have hA : DataW.TrodAll enc Try.prog W 0 (fun _ => true) true Try.f3.params.toList args.toList ds p := hA0
  rw [Try.params3] at hA hval
  obtain ⟨v0, vs0, d0, ds0, p0, q0, hargs, rfl, rfl, h0, r0⟩ := trodAll_cons hA
  obtain ⟨v1, vs1, d1, ds1, p1, q1, rfl, rfl, rfl, h1, r1⟩ := trodAll_cons r0
  obtain ⟨rfl, rfl, rfl⟩ := trodAll_nil r1
  obtain rfl : args = #[v0, v1] := by cases args; simp_all
  obtain ⟨rfl, rfl⟩ := trodVars_none hV
  have lt0 : ∀ x ∈ p0, x.block < W.heap.size := by obtain ⟨m, hm⟩ := h0; exact DataW.trod_lt m _ _ _ hm
  have lt1 : ∀ x ∈ p1, x.block < W.heap.size := by obtain ⟨m, hm⟩ := h1; exact DataW.trod_lt m _ _ _ hm
  clear hA0 hval0
  refine (walk enc W base v0 d0 p0 (hval 0 24 v0 rfl rfl) h0 v1 d1 p1 (hval 1 25 v1 rfl rfl) h1).mono fun e W' ⟨he, bel⟩ => ?_
  subst he
  exact ⟨_, rfl, _, _, _, [], _, [], hW', trodAll_mk1 (shut_bool Try.underlying4 _), (trodAll_cons_mk (Below.trod laidOut (by kernel_rfl) (of_decide_eq_true (by kernel_rfl)) h0 bel lt0) (trodAll_cons_mk (Below.trod laidOut (by kernel_rfl) (of_decide_eq_true (by kernel_rfl)) h1 bel lt1) trodAll_mk0)), rfl, bel.frame _, fun h => by cases h⟩

theorem over : Rows.sealWritesRow.holds Try.pinned (OpenSpec.ofChange Rows.sealWritesSpec) :=
  OpenClaim.holds_of_wide 3 Try.f3 rfl rfl rfl rfl rfl rfl rfl ⟨rfl, rfl, rfl, rfl, rfl⟩ rfl rfl rfl rfl rfl (by kernel_rfl) Try.func3 (by kernel_rfl)
    (of_decide_eq_true (by kernel_rfl)) (by unfold Func.isWrapper; first | (rw [if_pos (by decide +kernel)]; kernel_rfl) | (rw [if_neg (by decide +kernel)]; exact ⟨rfl, rfl⟩))
    (fun os started H enc _ => lifted os started H enc)

/-- THE STATEMENT. -/
theorem proved : Rows.SealWritesSaid := over
#print axioms proved
end Go.Proofs.Ytdljkpmjamegjaa.sealWrites

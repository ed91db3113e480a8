/- Blocks: what is read, as a value; what stands behind the method, read by the program; Shift; is a block the own one. -/
import Derived.Test.YtckpngofnohdjaaBlkA
import Derived.Test.YtckpngofnohdjaaK6
import Derived.Test.YtckpngofnohdjaaExpY
namespace Go.Proofs.Ytckpngofnohdjaa.Cur
open Go.RowKit Go.Shelf Mem
attribute [local go_sem] Oper.semAt_some
set_option linter.unusedVariables false
set_option maxRecDepth 100000


/-- What stands behind the method: a payload of n bytes. -/
def bc (z : List Int) (n way p : Int) : Rs (List Int) := if way = 0 then tk z n p else (bl z 1048576 p).bind [] fun t p1 =>
  if (exv t n).2.1 ≠ 0 then ([], 0, (exv t n).2.1, p1 - t.length + (exv t n).2.2) else if ((exv t n).1.length : Int) < n then ([], 0, 3, p1) else ((exv t n).1, p1, 0, 0)
/-- A block's payload. -/
def bk (z : List Int) (most p : Int) : Rs (List Int) := (vm z (min most 1048576) p).bind [] fun n p1 => (tk z 1 p1).bind [] fun wy p2 => if 1 < wy.getD 0 0 then ([], 0, 7, p1) else bc z n (wy.getD 0 0) p2
/-- A payload whose block is the own one. -/
def bks (z : List Int) (most p : Int) : Rs (List Int) := (bk z most p).bind [] fun y p' => if piece z p.toNat p'.toNat = bkb y then (y, p', 0, 0) else ([], 0, 12, p')

theorem piece_byte {z : List Int} (hby : ∀ x ∈ z, 0 ≤ x ∧ x < 256) (a b : Nat) : ∀ x ∈ piece z a b, 0 ≤ x ∧ x < 256 := fun x hx => hby x (List.mem_of_mem_drop (List.mem_of_mem_take hx))
theorem piece_len {z : List Int} (a b : Nat) : (piece z a b).length ≤ z.length := by
  unfold piece
  have := List.length_take_le (b - a) (z.drop a)
  rw [List.length_take, List.length_drop]
  omega
/-- Bytes that are taken are the reader's. -/
theorem tk_byte {z : List Int} (hby : ∀ x ∈ z, 0 ≤ x ∧ x < 256) (x p : Int) : (∀ y ∈ (tk z x p).1, 0 ≤ y ∧ y < 256) ∧ (tk z x p).1.length ≤ z.length := by
  unfold tk
  split
  · exact ⟨fun y h => absurd h (by simp), by simp⟩
  · split
    · exact ⟨fun y h => absurd h (by simp), by simp⟩
    · exact ⟨piece_byte hby _ _, piece_len _ _⟩
theorem bl_byte {z : List Int} (hby : ∀ x ∈ z, 0 ≤ x ∧ x < 256) (mo p : Int) : (∀ y ∈ (bl z mo p).1, 0 ≤ y ∧ y < 256) ∧ (bl z mo p).1.length ≤ z.length := by
  unfold bl Rs.bind
  split
  · exact ⟨fun y h => absurd h (by simp), by simp⟩
  · exact tk_byte hby _ _
theorem St.val {α : Type} {P : α → Prop} {d : α} {n : Nat} {g : Rs α} {p c q : Int} {v : α} {p' c' q' : Int} (h : St d n g p c q v p' c' q') (hd : P d) (hg : P g.1) : P v := by
  obtain ⟨_, _, ⟨_, rfl, _⟩ | ⟨_, _, rfl, _⟩ | ⟨_, _, rfl, _⟩⟩ := h
  · exact hd
  · exact hg
  · exact hd

theorem bkb_byte {z : List Int} (hz : z.length ≤ 1000000) (hby : ∀ x ∈ z, 0 ≤ x ∧ x < 256) : ∀ x ∈ bkb z, 0 ≤ x ∧ x < 256 := by
  intro x hx
  unfold bkb at hx
  rcases List.mem_append.1 hx with hx | hx
  · exact vz_byte _ (by omega) (by have := cps_len hz hby; omega) x hx
  · split at hx
    · rcases List.mem_cons.1 hx with rfl | hx
      · omega
      · rcases List.mem_append.1 hx with hx | hx
        · exact vz_byte _ (by omega) (by have := cps_len hz hby; omega) x hx
        · exact cps_byte hz hby x hx
    · rcases List.mem_cons.1 hx with rfl | hx
      · omega
      · exact hby x hx
theorem fshift_any (c q d : Int) (w : World) (h : -1000000000000 ≤ q + d ∧ q + d ≤ 1000000000000) :
    Calls Try.prog 69 #[.agg #[.int .i64 c, .int .i64 q], .int .i64 d] w fun e w' => e = .returned (.agg #[.int .i64 c, .int .i64 (fq c (q + d))]) ∧ Below w.heap.size w w' := by
  have hX := (Blk.new w #[.int .i64 c, .int .i64 q] 37).alloc (.cells #[.int .i64 0, .int .i64 0] 37)
  have hF := Blk.new (w.alloc (.cells #[.int .i64 c, .int .i64 q] 37)) #[.int .i64 0, .int .i64 0] 37
  rw [World.size_alloc] at hF
  have hb2 := below_two w (.cells #[.int .i64 c, .int .i64 q] 37) (.cells #[.int .i64 0, .int .i64 0] 37)
  obtain ⟨x0, x1⟩ := hX.c2
  have ew : IntKind.i64.wrap (q + d) = q + d := IntWalk.i64_in _ (by omega)
  have HF := Lib.hid hF
  have HB := Lib.hid hb2
  clear hX hF hb2 h
  go_enter Try.func69, Try.ntmps69
  go_wp2_with fail
  refine (fat_any _ _ _).mono ?_
  rintro e w1 ⟨rfl, hb1⟩
  have hF1 := HF.out.below hb1
  obtain ⟨f0, f1⟩ := hF1.c2
  obtain ⟨k0, k1⟩ := hF1.f2
  have hbd := HB.out.trans (hb1.mono HB.out.size)
  have HBD := Lib.hid hbd
  clear hb1 hbd x0 x1 ew
  go_wp2
  have hs1 : w.heap.size ≤ w.heap.size + 1 := Nat.le_succ _
  refine bodyPost_ret (v := .agg #[.int .i64 c, .int .i64 (fq c (q + d))]) (by simp [results, Try.results69, go_sem, f0, f1]) rfl ⟨rfl, ?_⟩
  exact (HBD.out.setCell (p := ⟨w.heap.size + 1, 0, none⟩) hs1 _).setCell (p := ⟨w.heap.size + 1, 1, none⟩) hs1 _

theorem kisown_any {w : World} (A B : Option Addr) (n m k l : Nat) {y z : List Int} (hy : Bs w A n y) (hz : Bs w B k z) (hB : B = none → l = 0) (hyb : ∀ x ∈ y, 0 ≤ x ∧ x < 256) (hby : ∀ x ∈ z, 0 ≤ x ∧ x < 256) (hm : k ≤ l) (hk : k ≤ 10000) :
    Calls Try.prog 53 #[.slice A n m, .slice B k l] w (BPost (.bool (decide (y = bkb z))) w) := by
  unfold BPost
  have hK := kbytes_any B k l hz hB hby hm hk
  unfold KBPost at hK
  have hbb := bkb_byte (z := z) (by rw [hz.1]; omega) hby
  obtain ⟨r, hr⟩ : ∃ r, r = decide (y = bkb z) := ⟨_, rfl⟩
  rw [← hr]
  have HR := Lib.hid hr
  clear hr
  have HY := Lib.hid hy
  have HYB := Lib.hid hyb
  have HBB := Lib.hid hbb
  obtain ⟨bl, hbl⟩ : ∃ bl, bl = (bkb z).length := ⟨_, rfl⟩
  rw [← hbl] at hK
  have HBL := Lib.hid hbl
  clear hy hz hyb hby hbb hbl
  go_enter Try.func53, Try.ntmps53
  go_wp2_with fail
  with_reducible refine hK.mono ?_
  rintro e w1 ⟨g, rfl, hg, hb1, hblk⟩
  have hs := Bs.of_block hblk
  rw [← HBL.out] at hs
  have hbe := beq_any A (some ⟨g, 0, none⟩) n bl m bl y (bkb z) w1 (HY.out.below hb1) hs HYB.out HBB.out
  rw [← HR.out] at hbe
  have HB := Lib.hid hb1
  clear hK hb1 hblk hs hg
  go_wp2_with fail
  with_reducible refine hbe.mono ?_
  rintro e w2 ⟨rfl, rfl⟩
  clear hbe
  go_wp2
  go_ret
  exact ⟨rfl, HB.out⟩

theorem own_base0 {w : World} {B B' e size n : Nat} {v : Value} {xs : List Value} (h : w.ownsRow B e size v n xs) (hs : B' ≤ B) : w.ownsRow B' e size v n xs := own_base h fun g hg => Nat.le_trans hs (own_geg h g hg)
theorem exv_nil (n : Int) : exv [] n = ([], 0, 0) := rfl
theorem bc_st {k : Nat} {z t y : List Int} {n x p c q p1 c1 q1 c2 q2 c7 q7 c8 q8 : Int} (hx0 : x ≠ 0) (hS : St [] k (bl z 1048576 p) p c q t p1 c1 q1) (hG : exv t n = (y, c2, q2)) (hq : c = 0 → q = 0)
    (h7 : FailSt c1 q1 c2 (fq c2 (q2 + (p1 - t.length))) c7 q7) (h8 : ((y.length : Int) < n ∧ FailSt c7 q7 3 p1 c8 q8) ∨ (¬ (y.length : Int) < n ∧ c8 = c7 ∧ q8 = q7)) : ∃ l', St [] k (bc z n x p) p c q l' p1 c8 q8 ∧ (c8 = 0 → l' = y) := by
  unfold bc
  rw [if_neg hx0]
  obtain ⟨p10, p11⟩ := hS.place
  by_cases hc1 : c1 = 0
  · subst hc1
    obtain ⟨hc, _, _, _, hq1⟩ := hS.good
    have hq0 : q1 = 0 := by rw [hq1]; exact hq hc
    rcases h7 with ⟨_, e7, f7⟩ | ⟨h, _⟩
    · by_cases hc2 : c2 = 0
      · have e7' : c7 = 0 := by rw [e7, hc2]
        have f7' : q7 = 0 := by rw [f7, hc2]; rfl
        rcases h8 with ⟨h8, h8'⟩ | ⟨h8, e8, f8⟩
        · rcases h8' with ⟨_, e8, f8⟩ | ⟨h, _⟩
          · refine ⟨[], hS.bind (St.fault (x := []) (y := 0) ?_ (by rw [e8]; decide) p10 p11), fun h => ?_⟩
            · rw [hG]
              simp only
              rw [if_neg (by rw [hc2]; simp), if_pos h8, e8, f8]
              rfl
            · rw [e8] at h; exact absurd h (by decide)
          · exact absurd e7' h
        · have e : c8 = 0 := by rw [e8, e7']
          have f : q8 = q1 := by rw [f8, f7', hq0]
          subst e f
          refine ⟨y, hS.bind (St.done ?_ p10 p11), fun _ => rfl⟩
          rw [hG]
          simp only
          rw [if_neg (by rw [hc2]; simp), if_neg h8]
      · have hc7 : c7 ≠ 0 := by rw [e7]; exact hc2
        have h88 : c8 = c7 ∧ q8 = q7 := by
          rcases h8 with ⟨_, h8'⟩ | ⟨_, e8, f8⟩
          · rcases h8' with ⟨h, _⟩ | ⟨_, e8, f8⟩
            · exact absurd h hc7
            · exact ⟨e8, f8⟩
          · exact ⟨e8, f8⟩
        obtain ⟨rfl, rfl⟩ := h88
        refine ⟨[], hS.bind (St.fault (x := []) (y := 0) ?_ hc7 p10 p11), fun h => absurd h hc7⟩
        rw [hG]
        simp only
        rw [if_pos hc2, e7, f7]
        unfold fq
        rw [if_neg hc2, if_neg hc2]
        congr 3
        omega
    · exact absurd rfl h
  · rcases h7 with ⟨h, _⟩ | ⟨_, rfl, rfl⟩
    · exact absurd h hc1
    · have h88 : c8 = c7 ∧ q8 = q7 := by
        rcases h8 with ⟨_, h8'⟩ | ⟨_, e8, f8⟩
        · rcases h8' with ⟨h, _⟩ | ⟨_, e8, f8⟩
          · exact absurd h hc1
          · exact ⟨e8, f8⟩
        · exact ⟨e8, f8⟩
      obtain ⟨rfl, rfl⟩ := h88
      exact ⟨[], hS.bind (St.stay p10 p11 hc1), fun h => absurd h hc1⟩
/-- What is read behind the method. -/
def KcPost (b : Nat) (s : Value) (k : Nat) (g : Rs (List Int)) (p c q : Int) (w : World) (e : Ending) (w' : World) : Prop :=
  ∃ v l l' p' c' q', e = .returned v ∧ Own w' w.heap.size v l ∧ (∀ x ∈ l, 0 ≤ x ∧ x < 256) ∧ l.length ≤ 10000 ∧ Kp b w w' ∧ IsRd w' b s p' c' q' ∧ St [] k g p c q l' p' c' q' ∧ (c' = 0 → l' = l)
set_option maxHeartbeats 4000000 in
theorem kcontent_any (b : Nat) (a : Option Addr) (k m : Nat) (z : List Int) (p c q x n : Int) (w : World) (h : IsRd w b (.slice a k m) p c q) (hz : Bs w a k z) (h0 : 0 ≤ p) (h1 : p ≤ k) (hm : k ≤ m) (hk : k ≤ 10000) (hby : ∀ x ∈ z, 0 ≤ x ∧ x < 256) (hx : 0 ≤ x ∧ x < 256) (hn : 0 ≤ n ∧ n ≤ 10000) (hq : c = 0 → q = 0) :
    Calls Try.prog 52 #[.pointer (some ⟨b, 0, none⟩), .int .u8 x, .int .i64 n] w (KcPost b (.slice a k m) k (bc z n x p) p c q w) := by
  have hzl := hz.1
  by_cases hx0 : x = 0
  · subst hx0
    have hT := take_st b a k m z p c q n w h hz h0 h1 hm (by omega)
    unfold BRPost at hT
    have HBY := Lib.hid hby
    clear h hz hby
    go_enter Try.func52, Try.ntmps52
    go_wp2_with fail
    with_reducible refine hT.mono ?_
    rintro e w1 ⟨v, l, p', c', q', rfl, ho, hk1, hr1, hs1⟩
    have hb := tk_byte HBY.out n p
    have HP := Lib.hid (hs1.val (P := fun l => (∀ y ∈ l, 0 ≤ y ∧ y < 256) ∧ l.length ≤ 10000) ⟨fun y h => absurd h (by simp), by simp⟩ ⟨hb.1, by omega⟩)
    obtain ⟨Av, cv, rfl⟩ := ho.slice
    have HO := Lib.hid ho
    have HK := Lib.hid hk1
    have HR := Lib.hid hr1
    have HS := Lib.hid hs1
    clear hT hb ho hk1 hr1 hs1
    go_wp2
    go_ret
    exact ⟨_, l, l, p', c', q', rfl, HO.out, HP.out.1, HP.out.2, HK.out, HR.out, by unfold bc; rw [if_pos rfl]; exact HS.out, fun _ => rfl⟩
  · have hxb : (x == 0) = false := by simpa using hx0
    have hT := bread_any b a k m z p c q 1048576 w h hz h0 h1 hm (by omega) hby (by omega)
    unfold BRPost at hT
    have HBY := Lib.hid hby
    have HZ := Lib.hid hz
    have HH := Lib.hid h
    have HX0 := Lib.hid hx0
    clear h hz hby hx0 hx
    go_enter Try.func52, Try.ntmps52
    go_wp2_with fail
    with_reducible refine hT.mono ?_
    rintro e w1 ⟨v1, t, p1, c1, q1, rfl, ho1, hk1, hr1, hs1⟩
    have hb := bl_byte HBY.out 1048576 p
    obtain ⟨ht1, ht2⟩ := hs1.val (P := fun l => (∀ y ∈ l, 0 ≤ y ∧ y < 256) ∧ l.length ≤ 10000) ⟨fun y h => absurd h (by simp), by simp⟩ ⟨hb.1, by omega⟩
    obtain ⟨p10, p11⟩ := hs1.place
    obtain ⟨A1, n1, rfl⟩ := ho1.slice
    have hE := eb_le (m := n1) (bound := n) ho1.bs.2 ho1.cap (by omega) ht1 (by omega)
    obtain ⟨g1, g2, g3, g4⟩ := exv_fine (z := t) (bound := n) ht1
    have g5 := exv_fp (z := t) (bound := n) ht1
    have HS1 := Lib.hid hs1
    have HX : Hid (exv t n = ((exv t n).1, (exv t n).2.1, (exv t n).2.2)) := Lib.hid rfl
    have HXN := Lib.hid (fun h : t = [] => (show exv t n = ([], 0, 0) from by rw [h]; rfl))
    obtain ⟨G, hG⟩ : ∃ G, G = exv t n := ⟨_, rfl⟩
    rw [← hG] at hE g1 g2 g3 g4 g5 HX HXN
    have HG := Lib.hid hG
    clear hG
    obtain ⟨y, c2, q2⟩ := G
    simp only at g1 g2 g3 g4 g5
    obtain ⟨tl, htl⟩ : ∃ tl, tl = t.length := ⟨_, rfl⟩
    rw [← htl] at hE ht2 g5 ⊢
    have HTL := Lib.hid htl
    have HG2 := Lib.hid g2
    have HG3 := Lib.hid g3
    have HG4 := Lib.hid g4
    have HO1 := Lib.hid hk1
    clear hT hb ht1 ho1 hs1 htl HX g2 g3 g4 hk1
    go_wp2_with fail
    with_reducible refine hE.mono ?_
    rintro e w2 ⟨v2, rfl, ho2, hb2⟩
    have ho2 : Own w2 w1.heap.size v2 y := ho2
    obtain ⟨A2, n2, rfl⟩ := ho2.slice
    have hX := Blk.new w2 #[.int .i64 c2, .int .i64 q2] 37
    have hbX := below_one w2 (.cells #[.int .i64 c2, .int .i64 q2] 37)
    replace ho2 := ho2.below hbX
    have hr2 := (hr1.below hb2).below hbX
    have hK2 : Kp b w w2 := HO1.out.trans (Kp.of_below hb2)
    have hyl : y.length ≤ 10000 := by omega
    have HYL := Lib.hid hyl
    obtain ⟨yl, hyl2⟩ : ∃ yl, yl = y.length := ⟨_, rfl⟩
    rw [← hyl2] at g1 hyl ⊢
    have HYE := Lib.hid hyl2
    have HKX := Lib.hid (hK2.trans (Kp.of_below hbX))
    have hxs : b < w2.heap.size := (hr1.below hb2).lt
    have HKW := Lib.hid (Nat.le_trans HO1.out.size hb2.size)
    clear hE hb2 hbX hr1 hK2 hyl2
    go_wp2_with fail
    generalize hW : w2.alloc (.cells #[.int .i64 c2, .int .i64 q2] 37) = w3 at *
    have hbne : b ≠ w2.heap.size := by omega
    have ew : IntKind.i64.wrap (p1 - tl) = p1 - tl := IntWalk.i64_in _ (by omega)
    have hS : Blk w3.drew w2.heap.size #[.int .i64 c2, .int .i64 q2] 37 := hX
    have L : ∀ w', Blk w' w2.heap.size #[.int .i64 c2, .int .i64 q2] 37 → w'.cell? ⟨w2.heap.size, 0, none⟩ = some (.int .i64 c2) ∧ w'.cell? ⟨w2.heap.size, 1, none⟩ = some (.int .i64 q2) := fun w' h => h.c2
    have HR2 := Lib.hid (hr2.drewN 1)
    have HO2 := Lib.hid ho2
    clear hW hX hr2 ho2
    refine Seq.wp_region_last (fun w' => Blk w' w2.heap.size #[.int .i64 c2, .int .i64 q2] 37) (by kernel_rfl) (by kernel_rfl) (by kernel_rfl) hS ?_
    repeat (first | (refine Seq.SeqE.skip (by rfl) ?_; (try simp only [Act.put, List.setIfInBounds_toArray, List.set_cons_zero, List.set_cons_succ])) | (refine Seq.SeqE.det ?_ (by rfl) (fun w hS => ?_) ?_; rotate_left; ((try dsimp only at hS); go_simp; (try rw [if_pos (by omega)]); with_reducible rfl); (try simp only [Act.put, List.setIfInBounds_toArray, List.set_cons_zero, List.set_cons_succ])))
    refine Seq.SeqE.make (by rfl) (by rfl) (fun K Q' hK => ?_)
    go_simp
    go_at_call 42
    refine (at_any _ _ _ _ _ _ HR2.out).mono ?_
    rintro e w4 ⟨rfl, rfl⟩
    refine hK.out _ _ (hS) ?_
    clear hK K
    try simp only [Act.put, List.setIfInBounds_toArray, List.set_cons_zero, List.set_cons_succ]
    repeat (first | (refine Seq.SeqE.skip (by rfl) ?_; (try simp only [Act.put, List.setIfInBounds_toArray, List.set_cons_zero, List.set_cons_succ])) | (refine Seq.SeqE.det ?_ (by rfl) (fun w hS => ?_) ?_; rotate_left; ((try dsimp only at hS); go_simp; (try rw [if_pos (by omega)]); with_reducible rfl); (try simp only [Act.put, List.setIfInBounds_toArray, List.set_cons_zero, List.set_cons_succ])))
    refine Seq.SeqE.make (by rfl) (by rfl) (fun K Q' hK => ?_)
    go_simp
    go_at_call 69
    refine (fshift_any c2 q2 (p1 - tl) _ (by omega)).mono ?_
    rintro e w5 ⟨rfl, hb5⟩
    have hS5 := hS.below hb5
    have hr5 := HR2.out.below hb5
    have ho5 := (HO2.out.below (below_one' w3)).below hb5
    have hk5 := (HKX.out.trans (Kp.of_below (below_one' w3))).trans (Kp.of_below hb5)
    obtain ⟨Q, hQ⟩ : ∃ Q, Q = fq c2 (q2 + (p1 - tl)) := ⟨_, rfl⟩
    rw [← hQ]
    have HQ := Lib.hid hQ
    have HB5 := Lib.hid hb5
    clear hb5 hQ ew HR2 HO2 HKX
    refine hK.out _ _ (hS5) ?_
    clear hK K
    try simp only [Act.put, List.setIfInBounds_toArray, List.set_cons_zero, List.set_cons_succ]
    repeat (first | (refine Seq.SeqE.skip (by rfl) ?_; (try simp only [Act.put, List.setIfInBounds_toArray, List.set_cons_zero, List.set_cons_succ])) | (refine Seq.SeqE.det ?_ (by rfl) (fun w hS => ?_) ?_; rotate_left; ((try dsimp only at hS); go_simp; (try rw [if_pos (by omega)]); with_reducible rfl); (try simp only [Act.put, List.setIfInBounds_toArray, List.set_cons_zero, List.set_cons_succ])))
    obtain ⟨s0, s1⟩ := hS5.c2
    obtain ⟨u0, u1⟩ := hS5.f2
    refine Seq.SeqE.last (by rfl) (by rfl) (fun K Q' hK => ?_)
    go_simp
    refine hK.out _ _ ?_
    clear hK K
    try simp only [Act.put, List.setIfInBounds_toArray, List.set_cons_zero, List.set_cons_succ]
    have hX6 : Blk ((w5.setCell ⟨w2.heap.size, 0, none⟩ (.int .i64 c2)).setCell ⟨w2.heap.size, 1, none⟩ (.int .i64 Q)) w2.heap.size #[.int .i64 c2, .int .i64 Q] 37 := (hS5.set 0 _).set 1 _
    have hr6 := (hr5.kp (Kp.setCell w5 w2.heap.size 0 (.int .i64 c2)) hbne).kp (Kp.setCell _ w2.heap.size 1 (.int .i64 Q)) hbne
    have hk6 : Kp b w ((w5.setCell ⟨w2.heap.size, 0, none⟩ (.int .i64 c2)).setCell ⟨w2.heap.size, 1, none⟩ (.int .i64 Q)) := (hk5.far (p := ⟨w2.heap.size, 0, none⟩) (by have := HKW.out; exact this) (.int .i64 c2)).far (p := ⟨w2.heap.size, 1, none⟩) (by have := HKW.out; exact this) (.int .i64 Q)
    have ho6 := own_kp (own_kp ho5 (Kp.setCell w5 w2.heap.size 0 (.int .i64 c2)) (own_ne_blk ho5 hS5 (by decide))) (Kp.setCell _ w2.heap.size 1 (.int .i64 Q)) (own_ne_blk ho5 hS5 (by decide))
    generalize (w5.setCell ⟨w2.heap.size, 0, none⟩ (.int .i64 c2)).setCell ⟨w2.heap.size, 1, none⟩ (.int .i64 Q) = w6 at *
    obtain ⟨x0, x1⟩ := hX6.c2
    clear hS5 hS hr5 ho5 hk5 s0 s1 u0 u1 L
    go_wp2_with fail
    with_reducible refine (fail_any b _ p1 c1 q1 c2 Q w6 hr6).mono ?_
    rintro e w7 ⟨c7, q7, rfl, hk7, hr7, hf7⟩
    have hne : (Value.slice A2 y.length n2).ownBlock ≠ some b := fun e => by
      have h1 := own_geg ho6 b e
      have h2 : b < w.heap.size := Blk.lt HH.out
      have h3 := HO1.out.size
      omega
    have ho7 := own_kp ho6 hk7 hne
    have hkk := hk6.trans hk7
    have HF7 := Lib.hid hf7
    clear hk6 hk7 hr6 ho6 hX6 hf7 x0 x1
    by_cases hlt : (yl : Int) < n
    · go_wp2_with fail
      refine (at_any _ _ _ _ _ _ hr7).mono ?_
      rintro e w8 ⟨rfl, rfl⟩
      go_wp2_with fail
      with_reducible refine (fail_any b _ p1 c7 q7 3 p1 _ hr7).mono ?_
      rintro e w9 ⟨c8, q8, rfl, hk9, hr9, hf9⟩
      have HO9 := Lib.hid (own_kp ho7 hk9 hne)
      have HK9 := Lib.hid (hkk.trans hk9)
      have HR9 := Lib.hid hr9
      obtain ⟨l', hl1, hl2⟩ := bc_st (q8 := q8) (c8 := c8) HX0.out HS1.out HG.out.symm hq (by rw [← HTL.out, ← HQ.out]; exact HF7.out) (.inl ⟨by rw [← HYE.out]; exact hlt, hf9⟩)
      have HL := Lib.hid (And.intro hl1 hl2)
      clear hr7 ho7 hkk hk9 hr9 hf9 hl1 hl2 hq
      go_wp2
      go_ret
      exact ⟨_, y, l', p1, c8, q8, rfl, (by show Own _ w.heap.size (.slice A2 yl n2) y; rw [HYE.out]; exact own_base0 HO9.out HO1.out.size), HG2.out, HYL.out, HK9.out, HR9.out, HL.out.1, HL.out.2⟩
    · obtain ⟨l', hl1, hl2⟩ := bc_st (q8 := q7) (c8 := c7) HX0.out HS1.out HG.out.symm hq (by rw [← HTL.out, ← HQ.out]; exact HF7.out) (.inr ⟨by rw [← HYE.out]; exact hlt, rfl, rfl⟩)
      have HL := Lib.hid (And.intro hl1 hl2)
      have HO9 := Lib.hid ho7
      have HK9 := Lib.hid hkk
      have HR9 := Lib.hid hr7
      clear hr7 ho7 hkk hl1 hl2 hq
      go_wp2
      go_ret
      exact ⟨_, y, l', p1, c7, q7, rfl, (by show Own _ w.heap.size (.slice A2 yl n2) y; rw [HYE.out]; exact own_base0 HO9.out HO1.out.size), HG2.out, HYL.out, HK9.out, HR9.out, HL.out.1, HL.out.2⟩
end Go.Proofs.Ytckpngofnohdjaa.Cur

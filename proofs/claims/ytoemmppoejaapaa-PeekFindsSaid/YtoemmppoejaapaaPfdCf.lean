/- As the seat's text, without what nothing here names. -/
import Derived.Test.YtoemmppoejaapaaPfdBf
import Derived.Test.YtoemmppoejaapaaPekGf
import Derived.Test.YtoemmppoejaapaaK30f
namespace Go.Proofs.Ytoemmppoejaapaa.Cur
open Go.RowKit Mem
set_option linter.unusedVariables false
set_option maxRecDepth 100000
theorem own_cases {w : World} {B : Nat} {v : Value} {z : List Int} (h : OwnU w B v z) : (v = .slice none 0 0 ∧ z = []) ∨ ∃ g cap, v = .slice (some ⟨g, 0, none⟩) z.length cap ∧ B ≤ g ∧ OwnA w B g z.length cap z.toArray := by
  rcases h.2 with ⟨e, h0⟩ | ⟨g, cap, cur, e, hg, r⟩
  · exact .inl ⟨e, List.eq_nil_of_length_eq_zero h0⟩
  · subst e; exact .inr ⟨g, cap, rfl, hg, by simp, h⟩
def SvPost (B : Nat) (v : Value) (z : List Int) (w : World) (e : Ending) (w' : World) : Prop :=
  e = .returned (.tuple #[]) ∧ (∃ d : List Int, OwnU w' B v d ∧ d.Pairwise (· ≤ ·) ∧ d.length = z.length ∧ ∀ x, x ∈ d ↔ x ∈ z) ∧ Ks (fun x => v.ownBlock = some x) w w'
theorem ssortv_any (B : Nat) (v : Value) (z : List Int) (w : World) (h : OwnU w B v z) (hn : z.length ≤ 5000) : Calls Try.prog 28 #[v] w (SvPost B v z w) := by
  rcases own_cases h with ⟨rfl, rfl⟩ | ⟨g, cap, rfl, hg, hA⟩
  · refine (ssort_none w).mono ?_
    rintro e w' ⟨rfl, rfl⟩
    exact ⟨rfl, ⟨[], h, List.Pairwise.nil, rfl, fun x => Iff.rfl⟩, Ks.refl _ _⟩
  · refine (ssort_any B g z.length cap z.toArray w hA hn).mono ?_
    rintro e w' ⟨rfl, ⟨d, h1, h2⟩, hk⟩
    simp only [List.toList_toArray] at h2
    obtain ⟨s1, s2, s3⟩ := sortf26 h2
    refine ⟨rfl, ⟨d.toList, ?_, s1, s2, s3⟩, ?_⟩
    · have h3 := h1.2
      unfold OwnU
      rw [s2]
      exact h3
    · exact ⟨hk.os, hk.tape, hk.output, hk.size, fun x hx hh => hk.block x hx (fun e => hh (by rw [show x = g from e]; rfl))⟩
def CvPost (v : Value) (z : List Int) (w : World) (e : Ending) (w' : World) : Prop := ∃ a l m, e = .returned (.slice a l m) ∧ Us w' a l (cpn (fun i => z.toArray[i]!) z.length) ∧ l ≤ z.length ∧ Ks (fun x => v.ownBlock = some x) w w'
set_option maxHeartbeats 1000000 in
theorem scompactv_any (B : Nat) (v : Value) (z : List Int) (w : World) (h : OwnU w B v z) (hn : z.length ≤ 5000) : Calls Try.prog 26 #[v] w (CvPost v z w) := by
  rcases Nat.eq_zero_or_pos z.length with h0 | h0
  · have hz : z = [] := List.eq_nil_of_length_eq_zero h0
    subst hz
    obtain ⟨A, c, hv⟩ := h.slice
    subst hv
    have HU := Lib.hid (show Us w A 0 (cpn (fun i => ([] : List Int).toArray[i]!) ([] : List Int).length) from ⟨rfl, fun h => by simp [cpn] at h⟩)
    clear h
    simp only [List.length_nil] at *
    unfold CvPost
    go_enter Try.func26, Try.ntmps26
    go_wp2
    go_ret
    exact ⟨_, _, _, rfl, HU.out, by omega, Ks.refl _ _⟩
  · rcases own_cases h with ⟨rfl, rfl⟩ | ⟨g, cap, rfl, hg, hA⟩
    · simp at h0
    · refine (compact_any B g z.length cap z.toArray w hA h0 hn).mono ?_
      rintro e w' ⟨k, c, rfl, h1, h2, hk⟩
      exact ⟨_, _, _, rfl, h2, h1, hk.os, hk.tape, hk.output, hk.size, fun x hx hh => hk.block x hx (fun e => hh (by rw [show x = g from e]; rfl))⟩
def UsPost (R : List Int) (w : World) (e : Ending) (w' : World) : Prop := ∃ a l m, e = .returned (.slice a l m) ∧ Us w' a l R ∧ Below w.heap.size w w'
theorem vis_of {w0 w : World} {A : Option Addr} {n : Nat} {L : List En} {bx V : Nat} (hz : Ens w0 (fun x => x < w0.heap.size) A n L) (hb : Below w0.heap.size w0 w) (hs : esm L) (h1 : w0.heap.size ≤ bx) (h2 : w0.heap.size ≤ V) : ∃ hd : Hdr, VisR w (AcS bx V) A n hd ∧ HdS w bx V n L hd ∧ ∀ k, k < n → (hd k).2.1 = (L.getD k en0).1.length := by
  rcases Nat.eq_zero_or_pos n with h0 | h0
  · exact ⟨fun _ => (none, 0, 0), fun h => by omega, fun k i h => by omega, fun k h => by omega⟩
  obtain ⟨g, o, rfl, hP, hg, _⟩ := hz.cells (by omega)
  obtain ⟨hd, _, hhd⟩ := ens_hdr hz h0
  have hP : g < w0.heap.size := hP
  have hsz := hb.size
  have hln : ∀ k, k < n → (hd k).2.1 = (L.getD k en0).1.length := fun k hk => ((hhd k hk).2.1).symm
  refine ⟨hd, fun _ => ⟨g, o, rfl, fun h => ?_, by omega, fun k hk => ⟨(hhd k hk).1 w hb, fun h => ?_, ?_⟩⟩, fun k i hk hi => ⟨hln k hk, fun g' o' ha => ?_⟩, hln⟩
  · rcases h with h | h <;> omega
  · obtain ⟨g', o', q1, _⟩ := (hhd k hk).2.cells (by omega)
    exact ⟨g', o', q1⟩
  · rw [hln k hk]
    have := (hs k).1
    omega
  · obtain ⟨g2, o2, q1, q2, q3, q4⟩ := (hhd k hk).2.cells (by omega)
    rw [ha] at q1
    injection q1 with q1
    injection q1 with e1 e2
    subst e1 e2
    obtain ⟨x, z, a, l, mm, he, _, _, _, _, _, _, _, _, hc⟩ := q4 i hi
    have q2 : g' < w0.heap.size := q2
    refine ⟨fun h => by rcases h with h | h <;> omega, by omega, ?_⟩
    rw [he]
    exact (hc w hb).1
theorem ac_below {w0 w w' : World} {bx V : Nat} (hb : Below w0.heap.size w0 w) (hk : Ks (AcS bx V) w w') (h1 : w0.heap.size ≤ bx) (h2 : w0.heap.size ≤ V) : Below w0.heap.size w0 w' := hk.below hb (Nat.le_refl _) fun x hx => by rcases hx with h | h <;> omega
set_option maxHeartbeats 4000000 in
theorem peekof_any (e b : Int) (A : Option Addr) (n m : Nat) (L : List En) (s : Int) (w : World) (hz : Ens w (fun x => x < w.heap.size) A n L) (hn : n ≤ 30) (hs : esm L) (b0 : 0 ≤ b) (b9 : b < 18446744073709551616) :
    Calls Try.prog 8 #[btagg e b A n m, .int .u64 s] w (UsPost (rofz b s L (vend b n)) w) := by
  have hX := ((Blk.new w (btenc e b A n m) 25).alloc (.cells #[.int .u64 s] 22)).alloc (.cells #[.slice none 0 0] 34)
  have hY := (Blk.new (w.alloc (.cells (btenc e b A n m) 25)) #[.int .u64 s] 22).alloc (.cells #[.slice none 0 0] 34)
  have hB := Blk.new ((w.alloc (.cells (btenc e b A n m) 25)).alloc (.cells #[.int .u64 s] 22)) #[.slice none 0 0] 34
  rw [show ((w.alloc (.cells (btenc e b A n m) 25)).alloc (.cells #[.int .u64 s] 22)).heap.size = w.heap.size + 2 by simp] at hB
  rw [World.size_alloc] at hY
  have hb2 := below_two w (.cells (btenc e b A n m) 25) (.cells #[.int .u64 s] 22)
  have hb := hb2.trans ((below_one ((w.alloc (.cells (btenc e b A n m) 25)).alloc (.cells #[.int .u64 s] 22)) (.cells #[.slice none 0 0] 34)).mono hb2.size)
  have hsz : (((w.alloc (.cells (btenc e b A n m) 25)).alloc (.cells #[.int .u64 s] 22)).alloc (.cells #[.slice none 0 0] 34)).heap.size = w.heap.size + 3 := by simp
  obtain ⟨x0, x1, x2⟩ := hX.c3
  obtain ⟨W, hW⟩ : ∃ W, W = ((w.alloc (.cells (btenc e b A n m) 25)).alloc (.cells #[.int .u64 s] 22)).alloc (.cells #[.slice none 0 0] 34) := ⟨_, rfl⟩
  rw [← hW] at hX hY hB hb hsz x0 x1 x2
  have hown : OwnU W (W.heap.size + 1) (.slice none 0 0) [] := OwnU.nil _ _
  obtain ⟨hd, hv1, hv2, hv3⟩ := vis_of (bx := w.heap.size + 2) (V := W.heap.size) hz hb hs (by omega) (by omega)
  have hstep := of_step (bx := w.heap.size + 2) (sb := w.heap.size + 1) (V := W.heap.size) (b := b) (s := s) W hs hn (by omega) (by omega) (by omega) b0 hv2
  have hI0 : AcI (w.heap.size + 2) W.heap.size (acE (hOf b s) L 0 0) W := ⟨none, 0, hB, hown, Nat.le_refl _⟩
  have hvi := visit_of ⟨w.heap.size + 1, 0, none⟩ ⟨w.heap.size + 2, 0, none⟩ (AcS (w.heap.size + 2) W.heap.size) (fun k i w' => AcI (w.heap.size + 2) W.heap.size (acE (hOf b s) L k i) w' ∧ Blk w' (w.heap.size + 1) #[.int .u64 s] 22) e b A n m hd W (by omega) b0 b9
    (fun k i w1 w2 h hbb => ⟨h.1.below hbb, h.2.below hbb⟩) (fun h => by rcases h with h | h <;> omega) hv1 hstep (fun k wr hk h => by
      rw [hv3 k hk] at h
      have h1 := h.1
      rw [acE_up] at h1
      exact ⟨h1, h.2⟩) ⟨hI0, hY⟩
  have HB := Lib.hid hb
  have hle : (acE (hOf b s) L (vend b n) 0).length ≤ 5000 := by
    have h1 := acE_len (h := hOf b s) (L := L) (fun _ _ => by unfold hOf; split <;> simp) hs (vend b n) 0 (Nat.zero_le _)
    have h2 : vend b n ≤ n := by unfold vend; split <;> omega
    have h3 : vend b n * 50 ≤ 30 * 50 := Nat.mul_le_mul_right _ (by omega)
    omega
  have HOF := Lib.hid (of_is (b := b) (s := s) (L := L) (vend b n))
  clear hX hY hB hown hv1 hv2 hv3 hstep hI0 hz hs hb hb2
  go_enter Try.func8, Try.ntmps8
  go_wp2_with fail
  rw [← hW]
  clear hW x0 x1 x2
  refine hvi.mono ?_
  rintro en w4 ⟨rfl, hI, hk⟩
  obtain ⟨⟨Av, cv, hX4, hO4, _⟩, _⟩ := hI
  have hcm := scompactv_any _ _ _ w4 hO4 hle
  have hge := own_ge hO4
  have HB4 := Lib.hid (ac_below HB.out hk (by omega) (by omega))
  have HGE := Lib.hid hge
  have x0 := hX4.c1
  clear hvi hX4 hO4 hk hge
  go_wp2_with fail
  refine hcm.mono ?_
  rintro en w5 ⟨a, l, mm, rfl, hu, _, hk5⟩
  rw [HOF.out] at hu
  have hfin := hk5.below HB4.out (Nat.le_refl _) (fun x hx => by have := HGE.out x hx; omega)
  have HU := Lib.hid hu
  clear hcm hu hk5 x0
  go_wp2
  go_ret
  exact ⟨_, _, _, rfl, HU.out, hfin⟩
def StList (L : List En) (n : Nat) (R : List Int) : Prop := R.Pairwise (· < ·) ∧ (∀ x, x ∈ R ↔ ∃ j, j < n ∧ ∃ y ∈ (L.getD j en0).1, y.1 = x) ∧ R.length ≤ 5000
def StrPost (L : List En) (n : Nat) (w : World) (e : Ending) (w' : World) : Prop := ∃ a l m R, e = .returned (.slice a l m) ∧ Us w' a l R ∧ StList L n R ∧ Below w.heap.size w w'
set_option maxHeartbeats 4000000 in
theorem peekstreams_any (e b : Int) (A : Option Addr) (n m : Nat) (L : List En) (w : World) (hz : Ens w (fun x => x < w.heap.size) A n L) (hn : n ≤ 30) (hs : esm L) (b0 : 0 ≤ b) (b9 : b < 18446744073709551616) :
    Calls Try.prog 9 #[btagg e b A n m] w (StrPost L (vend b n) w) := by
  have hX := (Blk.new w (btenc e b A n m) 25).alloc (.cells #[.slice none 0 0] 34)
  have hB := Blk.new (w.alloc (.cells (btenc e b A n m) 25)) #[.slice none 0 0] 34
  rw [World.size_alloc] at hB
  have hb := below_two w (.cells (btenc e b A n m) 25) (.cells #[.slice none 0 0] 34)
  have hsz : ((w.alloc (.cells (btenc e b A n m) 25)).alloc (.cells #[.slice none 0 0] 34)).heap.size = w.heap.size + 2 := by simp
  obtain ⟨x0, x1, x2⟩ := hX.c3
  obtain ⟨W, hW⟩ : ∃ W, W = (w.alloc (.cells (btenc e b A n m) 25)).alloc (.cells #[.slice none 0 0] 34) := ⟨_, rfl⟩
  rw [← hW] at hX hB hb hsz x0 x1 x2
  have hown : OwnU W (W.heap.size + 1) (.slice none 0 0) [] := OwnU.nil _ _
  obtain ⟨hd, hv1, hv2, hv3⟩ := vis_of (bx := w.heap.size + 1) (V := W.heap.size) hz hb hs (by omega) (by omega)
  have hstep := streams_step (bx := w.heap.size + 1) (V := W.heap.size) (b := b) W hs hn (by omega) hv2
  have hI0 : AcI (w.heap.size + 1) W.heap.size (acE hSt L 0 0) W := ⟨none, 0, hB, hown, Nat.le_refl _⟩
  have hvi := visit_streams ⟨w.heap.size + 1, 0, none⟩ (AcS (w.heap.size + 1) W.heap.size) (fun k i w' => AcI (w.heap.size + 1) W.heap.size (acE hSt L k i) w') e b A n m hd W (by omega) b0 b9
    (fun k i w1 w2 h hbb => h.below hbb) (fun h => by rcases h with h | h <;> omega) hv1 hstep (fun k wr hk h => by
      rw [hv3 k hk] at h
      rw [acE_up] at h
      exact h) hI0
  have HB := Lib.hid hb
  have hle : (acE hSt L (vend b n) 0).length ≤ 5000 := by
    have h1 := acE_len (h := hSt) (L := L) (fun _ _ => Nat.le_refl _) hs (vend b n) 0 (Nat.zero_le _)
    have h2 : vend b n ≤ n := by unfold vend; split <;> omega
    have h3 : vend b n * 50 ≤ 30 * 50 := Nat.mul_le_mul_right _ (by omega)
    omega
  have HMM : Hid (∀ x, x ∈ acE hSt L (vend b n) 0 ↔ ∃ j, j < vend b n ∧ ∃ y ∈ (L.getD j en0).1, y.1 = x) := Lib.hid (fun x => by
    rw [acE_mem]
    constructor
    · rintro ⟨j, hj, y, hy, hx⟩
      exact ⟨j, hj, y, hy, (List.mem_singleton.1 hx).symm⟩
    · rintro ⟨j, hj, y, hy, hx⟩
      exact ⟨j, hj, y, hy, by rw [← hx]; exact List.mem_singleton.2 rfl⟩)
  clear hX hB hown hv1 hv2 hv3 hstep hI0 hz hs hb
  generalize acE hSt L (vend b n) 0 = acc at *
  go_enter Try.func9, Try.ntmps9
  go_wp2_with fail
  rw [← hW]
  clear hW x0 x1 x2
  refine hvi.mono ?_
  rintro en w4 ⟨rfl, hI, hk⟩
  obtain ⟨Av, cv, hX4, hO4, _⟩ := hI
  have hso := ssortv_any _ _ _ w4 hO4 hle
  have hge := own_ge hO4
  have HB4 := Lib.hid (ac_below HB.out hk (by omega) (by omega))
  have HGE := Lib.hid hge
  have HX4 := Lib.hid hX4
  have x0 := hX4.c1
  clear hvi hX4 hO4 hk hge
  go_wp2_with fail
  refine hso.mono ?_
  rintro en w5 ⟨rfl, ⟨d, hO5, hp5, hl5, hm5⟩, hk5⟩
  have hX5 : Blk w5 (w.heap.size + 1) #[.slice Av acc.length cv] 34 := (hk5.block _ HX4.out.lt (fun e => by have := HGE.out _ e; omega)).trans HX4.out
  have HB5 := Lib.hid (hk5.below HB4.out (Nat.le_refl _) (fun x hx => by have := HGE.out x hx; omega))
  have hcm := scompactv_any _ _ _ w5 hO5 (by rw [hl5]; exact hle)
  have HD := Lib.hid (And.intro hp5 (And.intro hl5 hm5))
  clear x0 hso hO5 hp5 hl5 hm5 hk5
  have x0 := hX5.c1
  clear hX5
  go_wp2_with fail
  refine hcm.mono ?_
  rintro en w6 ⟨a, l, mm, rfl, hu, hll, hk6⟩
  have hfin := hk6.below HB5.out (Nat.le_refl _) (fun x hx => by have := HGE.out x hx; omega)
  have HU := Lib.hid hu
  have HLL := Lib.hid hll
  clear hcm hu hk6 x0 hll
  go_wp2
  go_ret
  obtain ⟨c1, c2⟩ := cpn_list HD.out.1
  refine ⟨_, _, _, _, rfl, HU.out, ⟨c1, fun x => ?_, ?_⟩, hfin⟩
  · rw [c2, HD.out.2.2, HMM.out]
  · rw [HU.out.1]
    have := HLL.out
    have := HD.out.2.1
    omega
set_option maxHeartbeats 1000000 in
theorem rhas26_any (P : Nat → Prop) (A : Option Addr) (n m : Nat) (B : Option Addr) (r k : Nat) (L : List Lk) (s : Int) (w : World) (hz : Lks w P A n L) (hn : n ≤ 1000000) :
    Calls Try.prog 30 #[enagg A n m B r k, .int .u64 s] w (BPost (.bool (decide (0 ≤ fnl L s))) w) := by
  have hX := Blk.new w (enc' A n m B r k) 31
  have hb := below_one w (.cells (enc' A n m B r k) 31)
  have hf := rfind_any P A n m L s _ (hz.below hb) hn
  unfold BPost at hf ⊢
  obtain ⟨f, hf9⟩ : ∃ f, f = fnl L s := ⟨_, rfl⟩
  rw [← hf9] at hf ⊢
  obtain ⟨x0, x1⟩ := hX.c2
  clear hz hX hf9
  go_enter Try.func30, Try.ntmps30
  go_wp2_with fail
  refine hf.mono ?_
  rintro en w2 ⟨rfl, hb2⟩
  have hfin := hb.trans (hb2.mono hb.size)
  clear hf x0 x1 hb2 hb
  go_wp2
  go_ret
  exact ⟨rfl, hfin⟩
set_option maxHeartbeats 4000000 in
theorem rof_any (P : Nat → Prop) (e b : Int) (A : Option Addr) (n m : Nat) (L : List En) (s : Int) (w : World) (hz : Ens w P A n L) (hn : n ≤ 30) (hs : esm L) (b0 : 0 ≤ b) (hbn : b + n < 18446744073709551616) :
    Calls Try.prog 12 #[btagg e b A n m, .int .u64 s] w (UsPost (rofz b s L n) w) := by
  have hX := Blk.new w (btenc e b A n m) 25
  have hb := below_one w (.cells (btenc e b A n m) 25)
  have HX := Lib.hid hX
  obtain ⟨x0, x1, x2⟩ := hX.c3
  clear hX
  have HZ := Lib.hid (hz.below hb)
  have HSM := Lib.hid hs
  have HB := Lib.hid hb
  clear hz hs hb
  go_enter Try.func12, Try.ntmps12
  go_wp2
  clear x0 x1 x2
  generalize w.alloc (.cells (btenc e b A n m) 25) = w0 at *
  go_loopw [5, 6] (fun v i wr => ∃ k : Nat, k ≤ n ∧ i = .int .i64 k ∧ Hid (OwnU wr w0.heap.size v (rofz b s L k) ∧ Below w0.heap.size w0 wr)) (fun _ i _ => n - (intOf i).toNat)
  case atStart => exact ⟨0, by omega, rfl, Lib.hid ⟨OwnU.nil _ _, Below.refl _ _⟩⟩
  case round =>
    obtain ⟨k, hk, rfl, HR⟩ := hrel
    obtain ⟨ho, hb⟩ := HR.out
    obtain ⟨x0, x1, x2⟩ := (HX.out.below hb).c3
    clear HR
    by_cases hlt : k < n
    · obtain ⟨g, o, rfl, _, hg, hc⟩ := HZ.out.cells (by omega)
      obtain ⟨K1, D1, a1, l1, m1, b1, r1, k1, he, hlm, hnl, hks, hrk, hnb, hbs, hbb, hsq, hcell⟩ := hc k hlt
      obtain ⟨c0, c1⟩ := hcell wr hb
      have ek : (k : Int) < n := by omega
      have e3 : IntKind.i64.wrap ((k : Int) + 1) = ((k + 1 : Nat) : Int) := IntWalk.i64_in _ (by omega)
      have e4 : IntKind.u64.wrap (k : Int) = k := IntWalk.u64_in _ (by omega)
      have e5 : IntKind.u64.wrap (b + k) = b + k := IntWalk.u64_in _ (by omega)
      have hha := rhas26_any P a1 l1 m1 b1 r1 k1 K1 s wr (hks.below hb) (by have h9 := (HSM.out k).1; rw [he] at h9; have h8 := hks.1; dsimp only at h9; omega)
      unfold BPost at hha
      have hnx := rofz_next b s L k
      rw [he] at hnx
      dsimp only at hnx
      have HNX := Lib.hid hnx
      have HO := Lib.hid ho
      have HBW := Lib.hid hb
      have HLE : Hid ((rofz b s L k).length + 1 ≤ 1000000) := Lib.hid (by
        unfold rofz
        rw [List.length_map]
        have := List.length_filter_le (fun j => decide (0 ≤ fnl (L.getD j en0).1 s)) (List.range k)
        rw [List.length_range] at this
        omega)
      clear hc he hlm hnl hks hrk hnb hbs hbb hsq hcell ho hb hnx
      go_wp2_with fail
      refine hha.mono ?_
      rintro en w2 ⟨rfl, hb2⟩
      obtain ⟨x0', x1', x2'⟩ := (HX.out.below (HBW.out.trans (hb2.mono HBW.out.size))).c3
      have HO2 := Lib.hid (own_below HO.out hb2)
      have HB2 := Lib.hid (HBW.out.trans (hb2.mono HBW.out.size))
      clear hha hb2 x0 x1 x2 c0 c1
      by_cases hf : 0 ≤ fnl K1 s
      · rw [decide_eq_true hf]
        have HNY : Hid (rofz b s L (k + 1) = rofz b s L k ++ [b + k]) := Lib.hid (by rw [HNX.out, if_pos hf])
        clear HNX hf
        generalize rofz b s L k = acc at *
        have hbA := below_one w2 (.cells #[.int .u64 (b + k)] 22)
        have hoA := own_below HO2.out hbA
        have hrwA := rw_new w2 [.int .u64 (b + k)] 22
        have hgeA := own_ge hoA
        have hB9 : w0.heap.size ≤ (w2.alloc (.cells #[.int .u64 (b + k)] 22)).heap.size := by have := HB2.out.size; simp; omega
        have hbX := HB2.out.trans (hbA.mono HB2.out.size)
        clear hbA HO HBW HO2 HB2
        go_wp2_with (at_builtin; go_must (refine list_append_rw kindU rfl (.tmp 21) (.tmp 27) rfl w0.heap.size _ _ _ rfl hoA _ 1 _ [.int .u64 (b + k)] rfl rfl hrwA (by simp) (by simp [Value.oneCell']) HLE.out (by omega) hB9 ?_; intro v9 w9 ho9 hg9 hgr9; have HB9 := Lib.hid (hbX.grown hg9 hB9 (fun j hj => hgeA j hj)); have HO9 : Hid (OwnU w9 w0.heap.size v9 (acc ++ [b + k])) := Lib.hid (by unfold OwnU; rw [List.length_append, uv, List.map_append]; exact ho9); clear ho9 hg9 hgr9 hoA hrwA hgeA hbX hB9))
        go_roundw
        case rel => exact ⟨k + 1, by omega, by go_num, Lib.hid ⟨by rw [HNY.out]; exact HO9.out, HB9.out⟩⟩
        case measure => simp [intOf]; omega
      · rw [decide_eq_false hf]
        have HNY : Hid (rofz b s L (k + 1) = rofz b s L k) := Lib.hid (by rw [HNX.out, if_neg hf])
        clear HNX hf
        go_wp2
        go_roundw
        case rel => exact ⟨k + 1, by omega, by go_num, Lib.hid ⟨by rw [HNY.out]; exact HO2.out, HB2.out⟩⟩
        case measure => simp [intOf]; omega
    · obtain rfl : n = k := by omega
      have ek : ¬ (n : Int) < n := by omega
      obtain ⟨A9, c9, rfl⟩ := ho.slice
      have HU := Lib.hid (OwnU.us ho)
      have HF := Lib.hid (HB.out.trans (hb.mono HB.out.size))
      clear ho hb
      go_wp2
      go_ret
      exact ⟨_, _, _, rfl, HU.out.2.2.2, HF.out⟩
end Go.Proofs.Ytoemmppoejaapaa.Cur

/- Longest matches: Best; a seeker's making and its Best; the document's example. -/
import Derived.Test.YtgiemddiiognlaaSekC
import Derived.Lib.SmallJoins
namespace Go.Proofs.Ytgiemddiiognlaa.Cur
open Go.RowKit Go.Shelf Mem
attribute [local go_sem] Oper.semAt_some
set_option linter.unusedVariables false
set_option maxRecDepth 100000


def ofL {a : Int} (L : List Nat) (h : ∀ p ∈ L, (p : Int) < a) : List (PLt a) := L.attach.map fun p => ⟨p.1, h p.1 p.2⟩
theorem ofL_map {a : Int} (L : List Nat) (h : ∀ p ∈ L, (p : Int) < a) : (ofL L h).map Subtype.val = L := by
  unfold ofL
  rw [List.map_map]
  exact List.attach_map_subtype_val L
theorem ofL_len {a : Int} (L : List Nat) (h : ∀ p ∈ L, (p : Int) < a) : (ofL L h).length = L.length := by unfold ofL; simp
theorem nrs_lt {z : List Int} {a : Nat} {i : Int} {p : Nat} (h : p ∈ nrs z a i) : (p : Int) < i := by
  unfold nrs at h
  split at h
  · have := (pls_mem.1 h).1; omega
  · simp at h
theorem nrs_sorted (z : List Int) (a : Nat) (i : Int) : (nrs z a i).Pairwise (· > ·) := by
  unfold nrs
  split
  · exact pls_sorted
  · exact .nil

def bof (z : List Int) (a : Int) (L : List Nat) : Int := (bst z a L (0, 3)).1
def bnf (z : List Int) (a : Int) (L : List Nat) : Int := if (bst z a L (0, 3)).1 = 0 then 0 else ((bst z a L (0, 3)).2 : Int)
def BstPost (z : List Int) (a : Int) (L : List Nat) (B : Nat) (w : World) (e : Ending) (w' : World) : Prop := e = .returned (.tuple #[.int .i64 (bof z a L), .int .i64 (bnf z a L)]) ∧ Below B w w'
def BestPost' (z : List Int) (a : Int) (L : List Nat) (w : World) (e : Ending) (w' : World) : Prop :=
  ∃ t : Nat, t ≤ L.length ∧ e = .returned (.tuple #[.int .i64 (bof z a L), .int .i64 (bnf z a L), .int .i64 t]) ∧ Below w.heap.size w w'
set_option maxHeartbeats 2000000 in
theorem sbest_any {w : World} {A : Option Addr} {n m : Nat} {z : List Int} (a : Int) (hz : Bs w A n z) (hby : ∀ x ∈ z, 0 ≤ x ∧ x < 256) (hm : n ≤ m) (hn : n ≤ 60000) (ha : -9223372036854775808 ≤ a ∧ a ≤ 9223372036854775807) :
    Calls Try.prog 10 #[.slice A n m, .int .i64 a] w (BstPost z a (alls a) w.heap.size w) := by
  have hh : ∀ p ∈ alls a, (p : Int) < a := fun p hp => (alls_mem.1 hp).1
  have h1 := below_one w (.cells #[.int .i64 a] 3)
  have hc : (w.alloc (.cells #[.int .i64 a] 3)).cell? ⟨w.heap.size, 0, none⟩ = some (.int .i64 a) := (Boxed.new w 3 (.int .i64 a)).cell
  have hsz : (w.alloc (.cells #[.int .i64 a] 3)).heap.size = w.heap.size + 1 := World.size_alloc _ _
  have hB := best_any (w := w.alloc (.cells #[.int .i64 a] 3)) (A := A) (m := m) a 25 #[.pointer (some ⟨w.heap.size, 0, none⟩)] (ofL (alls a) hh) (hz.below h1) hby hm hn ha (by rw [ofL_map]; exact alls_sorted a) (by rw [ofL_len, alls_len]; omega)
    (enters_of Try.func25 (by kernel_rfl) rfl) (ahead_stops Subtype.val Fence.wide 2 trivial rfl (by omega) w.heap.size a _ (ofL_map _ hh) _ hc ha (by omega) _ (by omega))
  rw [ofL_map] at hB
  replace hB : Calls Try.prog 17 #[.slice A n m, .int .i64 a, .func (.func 25) #[] #[.pointer (some ⟨w.heap.size, 0, none⟩)]] (w.alloc (.cells #[.int .i64 a] 3)) (BestPost' z a (alls a) (w.alloc (.cells #[.int .i64 a] 3))) := hB
  unfold BestPost' at hB
  have HB := Lib.hid hB
  have H1 := Lib.hid h1
  clear hB h1 hz hby hc hh
  go_enter Try.func10, Try.ntmps10
  go_wp2_with fail
  refine (ahead_any a _).mono ?_
  rintro e w1 ⟨rfl, rfl⟩
  go_wp2_with fail
  refine HB.out.mono ?_
  rintro e w2 ⟨t, ht, rfl, hb⟩
  have HD := Lib.hid (H1.out.trans (hb.mono H1.out.size))
  clear hb ht
  go_wp2
  go_ret2
  exact ⟨rfl, HD.out⟩

theorem chn_lts {w : World} {B c mb : Nat} {r : Option Nat} {A : Option Addr} {n m : Nat} {z : List Int} {a : Nat} (h : Chn w B c mb r A n m z a) : (∀ k, CS c mb r k → k < w.heap.size) ∧ ∀ k, (Value.slice A n m).ownBlock = some k → k < w.heap.size := by
  obtain ⟨v, D, rfl, h2, h3, h4, h5, _⟩ := h
  refine ⟨?_, own_ltg h3⟩
  rintro k (rfl | rfl | e)
  · exact h2.lt
  · exact World.ownsMap.lt h5
  · exact own_ltg h4 k e
/-- Between two rounds. -/
def FnI (w3 : World) (B : Nat) (pre : List Nat) (W : World) : Prop :=
  (∃ v, Boxed W B 52 v ∧ W.ownsRow w3.heap.size 3 1 v pre.length (nv' pre) ∧ True) ∧ Ks (fun k => k = B) w3 W
theorem FnI.own (w3 : World) (B : Nat) : OwnFrom w3.heap.size (FnI w3 B) :=
  OwnFrom.and (Own.from (holdsRow_own w3.heap.size B 52 3 1 (fun pre : List Nat => pre.length) (fun pre => nv' pre) (fun _ _ => True)) _)
    (fun s X Y row hs hg hr => hs.trans' (Ks.of_grown (S := fun k => row = some k) hg (fun k hk => hk)) fun i hi h => by have := (hr i h).1; omega)
def SkNewPost (n : Nat) (z : List Int) (w : World) (e : Ending) (w' : World) : Prop :=
  ∃ s A' m' B c mb r A2 m2, e = .returned (.pointer (some ⟨s, 0, none⟩)) ∧ Blk w' s #[.slice A' n m', .pointer (some ⟨c, 0, none⟩), .int .i64 0] 45 ∧ Bs w' A' n z ∧ n ≤ m' ∧ Chn w' B c mb r A2 n m2 z n ∧ w.heap.size ≤ s ∧ Below w.heap.size w w'
set_option maxHeartbeats 2000000 in
theorem sknew_any {w : World} {A : Option Addr} {n m : Nat} {z : List Int} (hz : Bs w A n z) (hby : ∀ x ∈ z, 0 ≤ x ∧ x < 256) (hn : n ≤ 60000) : Calls Try.prog 14 #[.slice A n m] w (SkNewPost n z w) := by
  have hC := clone_any (m := m) hz (by omega : n ≤ 100000)
  have HZ := Lib.hid hz
  have HBY := Lib.hid hby
  clear hz hby
  go_enter Try.func14, Try.ntmps14
  go_wp2_with fail
  refine hC.mono ?_
  rintro e w1 ⟨A', m', rfl, ho, hb⟩
  have hN := chnew_any (m := m) (HZ.out.below hb) (by omega : n ≤ 100000)
  have HO := Lib.hid ho
  have HB := Lib.hid hb
  clear hC ho hb
  go_wp2_with fail
  refine hN.mono ?_
  rintro e w2 ⟨c, mb, A2, m2, rfl, hc, hb2⟩
  have HC := Lib.hid hc
  have HB2 := Lib.hid hb2
  clear hN hc hb2
  have hA := below_one w2 (.cells #[.slice A' n m', .pointer (some ⟨c, 0, none⟩), .int .i64 0] 45)
  have hX := Blk.new w2 #[.slice A' n m', .pointer (some ⟨c, 0, none⟩), .int .i64 0] 45
  have HA := Lib.hid hA
  have HX := Lib.hid hX
  have hS2 := HB2.out.size
  have hA1 := hA.size
  clear hA hX
  go_wp2_with fail
  refine (chaddto_any (n : Int) (HC.out.below HA.out) HBY.out (by omega) (by omega)).mono ?_
  rintro e w4 ⟨r4, rfl, hc4, hk4, hg4⟩
  have et : tgt 0 n (n : Int) = n := by unfold tgt; omega
  rw [et] at hc4
  have HC4 := Lib.hid hc4
  have HK4 := Lib.hid hk4
  clear hc4 hk4 hg4
  go_wp2
  go_ret
  have hlt := (chn_lts HC.out).1
  have hX4 : Blk w4 w2.heap.size #[.slice A' n m', .pointer (some ⟨c, 0, none⟩), .int .i64 0] 45 := (HK4.out.block w2.heap.size HX.out.lt (fun h => by have := hlt _ h; omega)).trans HX.out
  have hge := Chn.ge (HC.out)
  have hB4 : Below w1.heap.size w1 w4 := HK4.out.below (HB2.out.trans (HA.out.mono hS2)) (Nat.le_refl _) hge
  have hO4 := own_below HO.out hB4
  obtain ⟨h1, h2⟩ := Cur.Own.bs hO4
  exact ⟨_, A', m', _, c, mb, r4, A2, m2, rfl, hX4, h2, (by have := (own_rw hO4 rfl).2.1; have := HZ.out.1; omega), HC4.out, Nat.le_trans HB.out.size hS2, HB.out.trans (hB4.mono HB.out.size)⟩

set_option maxHeartbeats 4000000 in
theorem skbest_any {w : World} {B0 s c B mb : Nat} {r : Option Nat} {A A2 : Option Addr} {n m m2 tr k : Nat} {z : List Int} (a : Int) (hs : Blk w s #[.slice A n m, .pointer (some ⟨c, 0, none⟩), .int .i64 (tr : Nat)] 45) (hz : Bs w A n z) (hm : n ≤ m) (hC : Chn w B c mb r A2 n m2 z k)
    (hby : ∀ x ∈ z, 0 ≤ x ∧ x < 256) (hn : n ≤ 60000) (ha : -9223372036854775808 ≤ a ∧ a ≤ 9223372036854775807) (htr : tr ≤ 1000000) (hB0 : B0 ≤ s) (hB1 : B0 ≤ w.heap.size) :
    Calls Try.prog 12 #[.pointer (some ⟨s, 0, none⟩), .int .i64 a] w (BstPost z a (nrs z k a) B0 w) := by
  have hkn := hC.le
  have hh : ∀ p ∈ nrs z k a, (p : Int) < a := fun p hp => nrs_lt hp
  have hll : (nrs z k a).length ≤ k := nrs_len
  have hS : Blk w.drew s #[.slice A n m, .pointer (some ⟨c, 0, none⟩), .int .i64 (tr : Nat)] 45 := hs
  have HC := Lib.hid (hC.below (below_one' w))
  have HZ := Lib.hid (hz.below (below_one' w))
  have HBY := Lib.hid hby
  have HH := Lib.hid hh
  have HLL := Lib.hid hll
  have hsl := hs.lt
  have L : ∀ w', Blk w' s #[.slice A n m, .pointer (some ⟨c, 0, none⟩), .int .i64 (tr : Nat)] 45 → w'.cell? ⟨s, 0, none⟩ = some (.slice A n m) ∧ w'.cell? ⟨s, 1, none⟩ = some (.pointer (some ⟨c, 0, none⟩)) := fun w' h => ⟨h.cell 0 rfl, h.cell 1 rfl⟩
  clear hC hz hby hh hll hs
  go_enter Try.func12, Try.ntmps12
  go_wp2
  refine Seq.wp_region_seq (fun w' => Blk w' s #[.slice A n m, .pointer (some ⟨c, 0, none⟩), .int .i64 (tr : Nat)] 45) (by kernel_rfl) (by kernel_rfl) hS ?_
  repeat (first | (refine Seq.Seq.skip (by rfl) ?_; (try simp only [Act.put, List.setIfInBounds_toArray, List.set_cons_zero, List.set_cons_succ])) | (refine Seq.Seq.det ?_ (by rfl) (fun w hS => ?_) ?_; rotate_left; ((try dsimp only at hS); go_simp; (try rw [if_pos (by omega)]); with_reducible rfl); (try simp only [Act.put, List.setIfInBounds_toArray, List.set_cons_zero, List.set_cons_succ])))
  refine Seq.Seq.make (by rfl) (by rfl) (fun K Q' hK => ?_)
  go_simp
  go_at_call 19
  refine (places_any a HC.out (Below.refl _ _) HBY.out (by omega)).mono ?_
  rintro e w2 ⟨c2, g2, o2, k2, rfl, hb2, hs2, hpl, hk2, hcg⟩
  have hS2 := hS.below hb2
  have hbz2 := HZ.out.below hb2
  have HB2 := Lib.hid hb2
  have hBe := best_any (w := w2) (A := A) (m := m) a 27 #[.pointer (some ⟨w.drew.heap.size + 2, 0, none⟩), .pointer (some ⟨w.drew.heap.size + 1, 0, none⟩), .pointer (some ⟨w.drew.heap.size, 0, none⟩)] (ofL (nrs z k a) HH.out) hbz2 HBY.out hm hn ha (by rw [ofL_map]; exact nrs_sorted z k a) (by rw [ofL_len]; have := HLL.out; omega)
    (enters_of Try.func27 (by kernel_rfl) rfl) (vplaces_stops Subtype.val Fence.wide 2 trivial rfl (by omega) _ _ _ c2 g2 o2 k2 a _ w2 (by rw [ofL_map]; exact hpl) ha hk2 _ (by rintro b (rfl | rfl | rfl | rfl) <;> omega) ⟨by omega, by omega, by omega, fun _ => by omega⟩)
  rw [ofL_map] at hBe
  replace hBe : Calls Try.prog 17 #[.slice A n m, .int .i64 a, .func (.func 27) #[] #[.pointer (some ⟨w.drew.heap.size + 2, 0, none⟩), .pointer (some ⟨w.drew.heap.size + 1, 0, none⟩), .pointer (some ⟨w.drew.heap.size, 0, none⟩)]] w2 (BestPost' z a (nrs z k a) w2) := hBe
  unfold BestPost' at hBe
  have HBE := Lib.hid hBe
  clear hBe hbz2 hb2 hpl hcg
  refine hK.out _ _ (hS2) ?_
  clear hK K
  try simp only [Act.put, List.setIfInBounds_toArray, List.set_cons_zero, List.set_cons_succ]
  repeat (first | (refine Seq.Seq.skip (by rfl) ?_; (try simp only [Act.put, List.setIfInBounds_toArray, List.set_cons_zero, List.set_cons_succ])) | (refine Seq.Seq.det ?_ (by rfl) (fun w hS => ?_) ?_; rotate_left; ((try dsimp only at hS); go_simp; (try rw [if_pos (by omega)]); with_reducible rfl); (try simp only [Act.put, List.setIfInBounds_toArray, List.set_cons_zero, List.set_cons_succ])))
  refine Seq.Seq.make (by rfl) (by rfl) (fun K Q' hK => ?_)
  go_simp
  go_at_call 17
  refine HBE.out.mono ?_
  rintro e w3 ⟨t, ht, rfl, hb3⟩
  have hS3 := hS2.below hb3
  have hTT : t ≤ 60000 := by have := HLL.out; omega
  have HB3 := Lib.hid (((below_one' w).trans HB2.out).trans (hb3.mono (by have := ((below_one' w).trans HB2.out).size; omega)))
  clear hb3 ht HBE
  refine hK.out _ _ (hS3) ?_
  clear hK K
  try simp only [Act.put, List.setIfInBounds_toArray, List.set_cons_zero, List.set_cons_succ]
  repeat (first | (refine Seq.Seq.skip (by rfl) ?_; (try simp only [Act.put, List.setIfInBounds_toArray, List.set_cons_zero, List.set_cons_succ])) | (refine Seq.Seq.det ?_ (by rfl) (fun w hS => ?_) ?_; rotate_left; ((try dsimp only at hS); go_simp; (try rw [if_pos (by omega)]); with_reducible rfl); (try simp only [Act.put, List.setIfInBounds_toArray, List.set_cons_zero, List.set_cons_succ])))
  refine Seq.Seq.nil ?_
  have c0 : w3.cell? ⟨s, 2, none⟩ = some (.int .i64 (tr : Nat)) := hS3.cell 2 rfl
  have f0 := hS3.free 2
  have hBf := (HB3.out.mono hB1).setCell (p := ⟨s, 2, none⟩) hB0 (.int .i64 ((tr : Int) + (t : Int)))
  have HBF := Lib.hid hBf
  clear hBf hS3 hS2 hS L
  go_wp2
  go_ret2
  exact ⟨rfl, HBF.out⟩
theorem skbest_none (a : Int) (w : World) : Calls Try.prog 12 #[.pointer none, .int .i64 a] w fun e w' => e = .returned (.tuple #[.int .i64 0, .int .i64 0]) ∧ w = w' := by
  go_enter Try.func12, Try.ntmps12
  go_wp2
  go_ret2
  exact ⟨rfl, rfl⟩
theorem sktried_none (w : World) : Calls Try.prog 13 #[.pointer none] w fun e w' => e = .returned (.int .i64 0) ∧ w = w' := by
  go_enter Try.func13, Try.ntmps13
  go_wp2
  go_ret
  exact ⟨rfl, rfl⟩

/-! ### The document's example -/
abbrev z6 : List Int := [97, 97, 97, 97, 97, 97]
abbrev z14 : List Int := [97, 98, 99, 100, 88, 97, 98, 99, 100, 89, 97, 98, 99, 100]
theorem z6_o : bof z6 1 (alls 1) = 1 := by decide +kernel
theorem z6_n : bnf z6 1 (alls 1) = 5 := by decide +kernel
theorem z14_o : bof z14 10 (nrs z14 14 10) = 5 := by decide +kernel
theorem z14_n : bnf z14 10 (nrs z14 14 10) = 4 := by decide +kernel
theorem z6_by : ∀ x ∈ z6, 0 ≤ x ∧ x < 256 := by decide
theorem z14_by : ∀ x ∈ z14, 0 ≤ x ∧ x < 256 := by decide
theorem bs_mark (w : World) (z : List Int) (t : Nat) (m : Nat × Nat) : Bs (w.alloc (.cells (z.map (Value.int .u8)).toArray t m)) (some ⟨w.heap.size, 0, none⟩) z.length z :=
  ⟨rfl, fun _ => ⟨_, 0, rfl, fun i x hx => by rw [cell_of_row _ _ _ _ _ _ (heap_alloc_new w _), Nat.zero_add]; simp [hx]⟩⟩
set_option maxHeartbeats 4000000 in
theorem live14_any (w : World) : Calls Try.prog 6 #[] w (BPost (.bool true) w) := by
  unfold BPost
  have hcv := Go.Joins.run_convert_bytes_const_at (P := Try.prog) w 22 5 #[.int .u8 97, .int .u8 97, .int .u8 97, .int .u8 97, .int .u8 97, .int .u8 97] 6 6 w.heap.size rfl Try.underlying22 Try.underlying5
  have hbs : Bs (w.alloc (.cells #[.int .u8 97, .int .u8 97, .int .u8 97, .int .u8 97, .int .u8 97, .int .u8 97] 5 (6, 7))) (some ⟨w.heap.size, 0, none⟩) 6 z6 := bs_mark w z6 5 (6, 7)
  have hb0 := below_one w (.cells #[.int .u8 97, .int .u8 97, .int .u8 97, .int .u8 97, .int .u8 97, .int .u8 97] 5 (6, 7))
  have hB := sbest_any (m := 6) 1 hbs z6_by (by omega) (by omega) (by omega)
  unfold BstPost at hB
  rw [z6_o, z6_n] at hB
  clear hbs
  go_enter Try.func6, Try.ntmps6
  go_wp2_with fail
  refine hB.mono ?_
  rintro e w2 ⟨rfl, hb2⟩
  have hbd := hb0.trans (hb2.mono hb0.size)
  clear hcv hB hb0 hb2
  have hcv := Go.Joins.run_convert_bytes_const_at (P := Try.prog) w2 22 5 #[.int .u8 97, .int .u8 98, .int .u8 99, .int .u8 100, .int .u8 88, .int .u8 97, .int .u8 98, .int .u8 99, .int .u8 100, .int .u8 89, .int .u8 97, .int .u8 98, .int .u8 99, .int .u8 100] 14 14 w2.heap.size rfl Try.underlying22 Try.underlying5
  have hbs : Bs (w2.alloc (.cells #[.int .u8 97, .int .u8 98, .int .u8 99, .int .u8 100, .int .u8 88, .int .u8 97, .int .u8 98, .int .u8 99, .int .u8 100, .int .u8 89, .int .u8 97, .int .u8 98, .int .u8 99, .int .u8 100] 5 (14, 15))) (some ⟨w2.heap.size, 0, none⟩) 14 z14 := bs_mark w2 z14 5 (14, 15)
  have hb0 := below_one w2 (.cells #[.int .u8 97, .int .u8 98, .int .u8 99, .int .u8 100, .int .u8 88, .int .u8 97, .int .u8 98, .int .u8 99, .int .u8 100, .int .u8 89, .int .u8 97, .int .u8 98, .int .u8 99, .int .u8 100] 5 (14, 15))
  have hN := sknew_any (m := 14) hbs z14_by (by omega)
  have hbd1 := hbd.trans (hb0.mono hbd.size)
  clear hbs
  go_wp2_with fail
  refine hN.mono ?_
  rintro e w3 ⟨s, A', m', B, c, mb, r, A2, m2, rfl, hs, hbs3, hm3, hc3, hss, hb3⟩
  have hbd3 := hbd1.trans (hb3.mono hbd1.size)
  have hss' := hbd1.size
  have hS := skbest_any (B0 := w.heap.size) (tr := 0) 10 hs hbs3 hm3 hc3 z14_by (by omega) (by omega) (by omega) (by omega) hbd3.size
  unfold BstPost at hS
  rw [z14_o, z14_n] at hS
  clear hcv hN hb0 hb3 hs hbs3 hc3
  go_wp2_with fail
  refine hS.mono ?_
  rintro e w4 ⟨rfl, hb4⟩
  have HB := Lib.hid (hbd3.trans hb4)
  clear hS hbd hbd1 hbd3 hb4
  go_wp2
  go_ret
  exact ⟨rfl, HB.out⟩
end Go.Proofs.Ytgiemddiiognlaa.Cur

/- CrcLinear: called with any bytes and any number, the law returns true; condition: crc's two tables read as the program's text lays them, to which the card ties them. -/
import Derived.Test.YtglacblccgainaaDoorRows
import Derived.Test.YtglacblccgainaaDoorK7
import Derived.Test.YtglacblccgainaaDoorCrcT
import Derived.Test.YtglacblccgainaaDoorK1
import Derived.Deep.Cut
import Derived.ProofKit
import Derived.OpenShut
import Derived.ShutString
import Derived.ChangeOld
import Derived.Test.YtglacblccgainaaDoorCards
import Derived.Test.YtglacblccgainaaDoorTie
import Derived.LaidMore
import Derived.Stop.Joined
import Derived.Deep.Slices
import Derived.SevenTiedAt
namespace Go.Proofs.YtglacblccgainaaDoor.crcLinear
open Go.ChangeShapes Go.WideShapes Go.ChangeAt Go.RowKit
open Go.ChangeMaps (open_string shut_string)
set_option linter.unusedVariables false

theorem own : ownKnob Tryd.prog.godebug = none := by kernel_rfl
theorem laidOut : laidOutB Tryd.prog = true := by kernel_rfl
open Cur Mem CrcM


/-- Two rows of the call's own that lie in other blocks. -/
def Apart (u v : Value) : Prop := ∀ g, u.ownBlock = some g → v.ownBlock ≠ some g
theorem Apart.symm {u v : Value} (h : Apart u v) : Apart v u := fun g hv hu => h g hu hv
theorem Apart.grown {w : World} {B : Nat} {u v v' : Value} {y : List Int} (h : Apart u v) (ho : Own w B u y) (hg : Gr v.ownBlock v'.ownBlock w) : Apart u v' := by
  intro g hu hv
  rcases hg with e | ⟨g', e, hg⟩
  · exact h g hu (e ▸ hv)
  · rw [e] at hv
    injection hv with hv
    subst hv
    have := (World.ownsRow.lt ho _ hu).2
    omega
theorem Own.other {w w' : World} {B : Nat} {u v : Value} {y : List Int} (ho : Own w B u y) (h : Apart u v) (hg : w.grownBy w' v.ownBlock) : Own w' B u y :=
  ho.block fun k hk => hg.block k (World.ownsRow.lt ho k hk).2 (fun e => h k hk e.symm)
theorem Apart.nil (u : Value) : Apart u (.slice none 0 0) := fun g _ h => by cases h

/-- What lies behind k rounds. -/
def L1 (n B : Nat) (W wr : World) (k : Nat) (v5 v6 : Value) : Prop :=
  ∃ X Y : List Int, X.length = k ∧ Y.length = k ∧ (∀ x ∈ X, 0 ≤ x ∧ x < 256) ∧ (∀ x ∈ Y, 0 ≤ x ∧ x < 256) ∧ Own wr B v5 X ∧ Own wr B v6 Y ∧ Apart v5 v6 ∧ Below B W wr

/-- What lies behind j rounds of the second loop. -/
def L2 (n : Nat) (W0 W : World) (z X Y : List Int) (wz : World) (j : Nat) (v : Value) : Prop :=
  ∃ Z : List Int, Z.length = j ∧ (∀ x ∈ Z, 0 ≤ x ∧ x < 256) ∧ Own wz W0.heap.size v Z ∧ num Z = num (z.take j) ^^^ num (X.take j) ^^^ num (Y.take j) ∧ Below W0.heap.size W0 wz
theorem num_snoc (l : List Int) (b : Int) (hb : 0 ≤ b) (hb2 : b < 256) : num (l ++ [b]) = num l ^^^ 2 ^ (8 * l.length) * b.toNat := by
  induction l with
  | nil => simp [num]
  | cons c l ih =>
    rw [List.cons_append, num, num, ih, List.length_cons]
    rw [show 2 ^ 8 * (num l ^^^ 2 ^ (8 * l.length) * b.toNat) = 2 ^ 8 * num l ^^^ 2 ^ (8 * (l.length + 1)) * b.toNat by
      rw [show 8 * (l.length + 1) = 8 + 8 * l.length by omega, Nat.pow_add, Nat.mul_assoc, Nat.mul_comm (2 ^ 8), Nat.mul_comm (2 ^ 8), Nat.mul_comm (2 ^ 8), ← Nat.shiftLeft_eq, ← Nat.shiftLeft_eq, ← Nat.shiftLeft_eq, Nat.shiftLeft_xor_distrib]]
    rw [← Nat.xor_assoc]
theorem num_take {z : List Int} {j : Nat} (h : j < z.length) (hz : ∀ x ∈ z, 0 ≤ x ∧ x < 256) : num (z.take (j + 1)) = num (z.take j) ^^^ 2 ^ (8 * j) * (z.getD j 0).toNat := by
  rw [List.take_succ_eq_append_getElem h]
  have hm := hz _ (List.getElem_mem h)
  rw [num_snoc _ _ hm.1 hm.2, List.length_take, Nat.min_eq_left (by omega), List.getD_eq_getElem?_getD, List.getElem?_eq_getElem h]
  rfl
theorem num_three {z X Y Z : List Int} {j a b c : Nat} (hZ : num Z = num (z.take j) ^^^ num (X.take j) ^^^ num (Y.take j)) (hl : Z.length = j) (hz : j < z.length) (hX : j < X.length) (hY : j < Y.length)
    (bz : ∀ x ∈ z, 0 ≤ x ∧ x < 256) (bX : ∀ x ∈ X, 0 ≤ x ∧ x < 256) (bY : ∀ x ∈ Y, 0 ≤ x ∧ x < 256) (ez : z.getD j 0 = a) (eX : X.getD j 0 = b) (eY : Y.getD j 0 = c) (hr : a ^^^ b ^^^ c < 256) :
    num (Z ++ [((a ^^^ b ^^^ c : Nat) : Int)]) = num (z.take (j + 1)) ^^^ num (X.take (j + 1)) ^^^ num (Y.take (j + 1)) := by
  rw [num_snoc _ _ (by omega) (by omega), num_take hz bz, num_take hX bX, num_take hY bY, hZ, hl, ez, eX, eY]
  simp only [Int.toNat_natCast]
  rw [Nat.mul_comm (2 ^ (8 * j)), Nat.mul_comm (2 ^ (8 * j)) a, Nat.mul_comm (2 ^ (8 * j)) b, Nat.mul_comm (2 ^ (8 * j)) c, ← Nat.shiftLeft_eq, ← Nat.shiftLeft_eq, ← Nat.shiftLeft_eq, ← Nat.shiftLeft_eq, Nat.shiftLeft_xor_distrib, Nat.shiftLeft_xor_distrib]
  rw [xor4 (num (z.take j)) _ (num (X.take j)), xor4 (num (z.take j) ^^^ num (X.take j)) _ (num (Y.take j))]

set_option maxRecDepth 100000 in
set_option maxHeartbeats 8000000 in
theorem walk {H : Type} (enc : TypeId × Value → H) (w : World) (hT : Tbs w) (base : Nat) (v0 : Value) (d0 : DataW H) (p0 : List MemPlace) (g0 : Value.okWide Tryd.prog w .any base 23 v0) (h0 : DataW.Trod enc Tryd.prog w 0 (fun _ => true) true 23 v0 d0 p0) (v1 : Value) (d1 : DataW H) (p1 : List MemPlace) (g1 : Value.okWide Tryd.prog w .any base 22 v1) (h1 : DataW.Trod enc Tryd.prog w 0 (fun _ => true) true 22 v1 d1 p1) :
    Calls Tryd.prog 7 #[v0, v1] w fun e w' => e = .returned (.bool true) ∧ Below w.heap.size w w' := by
  obtain ⟨A, n, m, z, rfl, hnm, hz, hby, hnil⟩ := open_bytes g0 h0
  obtain ⟨s, rfl, s0, s1⟩ := open_u32 g1 h1
  clear g0 h0 g1 h1
  obtain ⟨s, rfl⟩ := Int.eq_ofNat_of_zero_le s0
  have HT := Lib.hid hT
  clear hT
  by_cases hn : 500 < (n : Int)
  · go_enter Tryd.func7, Tryd.ntmps7
    go_wp2_with fail
    refine (live7_any _ HT.out).mono ?_
    rintro e w1 ⟨rfl, hb⟩
    go_wp2
    go_ret
    exact ⟨rfl, hb⟩
  have HB := Lib.hid hby
  have HL := Lib.hid hz.1
  clear hby s0
  go_enter Tryd.func7, Tryd.ntmps7
  go_wp2
  go_loopw [1, 5, 6, 7] (fun sd v5 v6 i wr => ∃ k t : Nat, k ≤ n ∧ i = .int .i64 k ∧ sd = .int .u32 (t : Int) ∧ t < 4294967296 ∧ L1 n w.heap.size w wr k v5 v6) (fun _ _ _ i _ => n - (intOf i).toNat)
  case atStart => exact ⟨0, s, by omega, rfl, rfl, by omega, [], [], rfl, rfl, by simp, by simp, Own.nil _ _, Own.nil _ _, Apart.nil _, Below.refl _ _⟩
  case round =>
    obtain ⟨k, t, hk, rfl, rfl, ht, X, Y, hX, hY, hXb, hYb, hoX, hoY, hap, hbd⟩ := hrel
    by_cases hlt : k < n
    · have hx := HB.out _ (getD_mem (z := z) (k := k) (by rw [HL.out]; exact hlt))
      obtain ⟨g, o, rfl, hc0⟩ := hz.at_ hlt
      generalize z.getD k 0 = x at *
      obtain ⟨b, rfl⟩ := Int.eq_ofNat_of_zero_le hx.1
      have hb8 : b < 256 := by omega
      clear hx
      have ht2 : ((t : Int) * 1664525 % 4294967296 + 1013904223) % 4294967296 = (((t * 1664525 % 4294967296 + 1013904223) % 4294967296 : Nat) : Int) := by omega
      have hl2 : (t * 1664525 % 4294967296 + 1013904223) % 4294967296 < 4294967296 := Nat.mod_lt _ (by decide)
      generalize (t * 1664525 % 4294967296 + 1013904223) % 4294967296 = u at *
      have e1 : (u : Int) / 16777216 = ((u / 16777216 : Nat) : Int) := by omega
      have e2 : (u : Int) / 65536 % 256 = ((u / 65536 % 256 : Nat) : Int) := by omega
      have l1 : u / 16777216 < 256 := by omega
      have l2 : u / 65536 % 256 < 256 := by omega
      generalize u / 16777216 = p at *
      generalize u / 65536 % 256 = q at *
      have X1 := xor8 b p hb8 l1
      have l3 : b ^^^ p < 256 := Nat.xor_lt_two_pow (n := 8) hb8 l1
      generalize b ^^^ p = r at *
      have X2 := xor8 r q l3 l2
      have l4 : r ^^^ q < 256 := Nat.xor_lt_two_pow (n := 8) l3 l2
      generalize r ^^^ q = y at *
      obtain ⟨A5, c5, rfl⟩ := hoX.slice
      have HXL := Lib.hid hX
      have HYL := Lib.hid hY
      have HXB : Hid (∀ v ∈ X ++ [(p : Int)], 0 ≤ v ∧ v < 256) := Lib.hid (by
        intro v hv
        rcases List.mem_append.1 hv with h | h
        · exact hXb v h
        · simp at h; subst h; omega)
      have HYB : Hid (∀ v ∈ Y ++ [(y : Int)], 0 ≤ v ∧ v < 256) := Lib.hid (by
        intro v hv
        rcases List.mem_append.1 hv with h | h
        · exact hYb v h
        · simp at h; subst h; omega)
      have hA1 := below_one wr (.cells #[.int .u8 (p : Int)] 5)
      have hbs : Bs (wr.alloc (.cells #[.int .u8 (p : Int)] 5)) (some ⟨wr.heap.size, 0, none⟩) 1 [(p : Int)] := Bs.of_block (z := [(p : Int)]) (heap_alloc_new _ _)
      have hoX1 := hoX.below hA1
      have hoY1 := hoY.below hA1
      have hbd1 := hbd.trans (hA1.mono hbd.size)
      have hB1 : w.heap.size ≤ (wr.alloc (.cells #[.int .u8 (p : Int)] 5)).heap.size := hbd1.size
      clear hX hY hXb hYb hoX hoY hA1 hbd
      go_upto_region 9 with (at_builtin; go_must (refine list_append_gr rfl (.tmp 23) (.tmp 27) rfl w.heap.size _ X rfl hoX1 _ _ _ _ rfl hbs (by simp) (by rw [HXL.out]; omega) hB1 ?_; intro v1 w1 hown1 hg1 hgr1; have hb1 := Own.belowOf hbd1 hB1 hoX1 hg1; have hoY2 := Own.other hoY1 hap.symm hg1; have hap2 := Apart.grown hap.symm hoY1 hgr1; clear hg1 hgr1 hoX1 hoY1 hbd1 hbs))
      have hc1 := (hb1.cell (lt_of_cell hc0)).trans hc0
      obtain ⟨A6, c6, rfl⟩ := hoY2.slice
      have hA2 := below_one w1 (.cells #[.int .u8 (y : Int)] 5)
      have hbs2 : Bs (w1.alloc (.cells #[.int .u8 (y : Int)] 5)) (some ⟨w1.heap.size, 0, none⟩) 1 [(y : Int)] := Bs.of_block (z := [(y : Int)]) (heap_alloc_new _ _)
      have hoX3 := hown1.below hA2
      have hoY3 := hoY2.below hA2
      have hbd3 := hb1.trans (hA2.mono hb1.size)
      have hB3 : w.heap.size ≤ (w1.alloc (.cells #[.int .u8 (y : Int)] 5)).heap.size := hbd3.size
      clear hown1 hoY2 hA2 hb1 hc0
      go_wp2_with (at_builtin; go_must (refine list_append_gr rfl (.tmp 29) (.tmp 42) rfl w.heap.size _ Y rfl hoY3 _ _ _ _ rfl hbs2 (by simp) (by rw [HYL.out]; omega) hB3 ?_; intro v2 w2 hown2 hg2 hgr2; have hb2 := Own.belowOf hbd3 hB3 hoY3 hg2; have hoX4 := Own.other hoX3 hap2.symm hg2; have hap4 := Apart.grown hap2.symm hoX3 hgr2; clear hg2 hgr2 hoX3 hoY3 hbd3 hbs2))
      go_roundw
      case rel => exact ⟨k + 1, u, by omega, by go_num, rfl, hl2, _, _, by rw [List.length_append, HXL.out]; rfl, by rw [List.length_append, HYL.out]; rfl, HXB.out, HYB.out, hoX4, hown2, hap4, hb2⟩
      case measure => simp [intOf]; omega
    · obtain rfl : k = n := by omega
      obtain ⟨A5, c5, rfl⟩ := hoX.slice
      obtain ⟨A6, c6, rfl⟩ := hoY.slice
      rw [hX] at hoX ⊢
      rw [hY] at hoY ⊢
      have hbX := hoX.bs.2
      have hbY := hoY.bs.2
      have HX := Lib.hid hX
      have HY := Lib.hid hY
      have HXB := Lib.hid hXb
      have HYB := Lib.hid hYb
      clear hX hY hXb hYb
      obtain ⟨W1, hW1⟩ : ∃ W1, W1 = wr := ⟨_, rfl⟩
      subst hW1
      go_wp2
      go_loopw [8, 9] (fun v8 i wz => ∃ j : Nat, j ≤ k ∧ i = .int .i64 j ∧ L2 k W1 w z X Y wz j v8) (fun _ i _ => k - (intOf i).toNat)
      case atStart => exact ⟨0, by omega, rfl, [], rfl, by simp, Own.nil _ _, by simp, Below.refl _ _⟩
      case round =>
        obtain ⟨j, hj, rfl, Z, hZl, hZb, hoZ, hnum, hbz⟩ := hrel
        by_cases hlt2 : j < k
        · have bz := HB.out _ (getD_mem (z := z) (k := j) (by rw [HL.out]; exact hlt2))
          have bX := HXB.out _ (getD_mem (z := X) (k := j) (by rw [HX.out]; exact hlt2))
          have bY := HYB.out _ (getD_mem (z := Y) (k := j) (by rw [HY.out]; exact hlt2))
          obtain ⟨g, o, rfl, hcz⟩ := (hz.below hbd).at_ hlt2
          obtain ⟨g5, o5, rfl, hcX⟩ := hbX.at_ hlt2
          obtain ⟨g6, o6, rfl, hcY⟩ := hbY.at_ hlt2
          have hnt := num_three (a := (z.getD j 0).toNat) (b := (X.getD j 0).toNat) (c := (Y.getD j 0).toNat) hnum hZl (by rw [HL.out]; exact hlt2) (by rw [HX.out]; exact hlt2) (by rw [HY.out]; exact hlt2) HB.out HXB.out HYB.out (by omega) (by omega) (by omega)
          generalize z.getD j 0 = a at *
          generalize X.getD j 0 = b at *
          generalize Y.getD j 0 = c at *
          obtain ⟨a, rfl⟩ := Int.eq_ofNat_of_zero_le bz.1
          obtain ⟨b, rfl⟩ := Int.eq_ofNat_of_zero_le bX.1
          obtain ⟨c, rfl⟩ := Int.eq_ofNat_of_zero_le bY.1
          simp only [Int.toNat_natCast] at hnt
          have l1 : a ^^^ b < 256 := Nat.xor_lt_two_pow (n := 8) (by omega) (by omega)
          have X1 := xor8 a b (by omega) (by omega)
          have X2 := xor8 (a ^^^ b) c l1 (by omega)
          have l2 : a ^^^ b ^^^ c < 256 := Nat.xor_lt_two_pow (n := 8) l1 (by omega)
          have HNT := Lib.hid (hnt l2)
          clear hnt hnum
          generalize a ^^^ b ^^^ c = y at *
          generalize a ^^^ b = ab at *
          have HZL := Lib.hid hZl
          have HZB : Hid (∀ v ∈ Z ++ [(y : Int)], 0 ≤ v ∧ v < 256) := Lib.hid (by
            intro v hv
            rcases List.mem_append.1 hv with h | h
            · exact hZb v h
            · simp at h; subst h; omega)
          have C1 : ∀ w', Below W1.heap.size W1 w' → w'.cell? ⟨g, o + j, none⟩ = some (.int .u8 (a : Int)) := fun w' h => (h.cell (lt_of_cell hcz)).trans hcz
          have C2 : ∀ w', Below W1.heap.size W1 w' → w'.cell? ⟨g5, o5 + j, none⟩ = some (.int .u8 (b : Int)) := fun w' h => (h.cell (lt_of_cell hcX)).trans hcX
          have C3 : ∀ w', Below W1.heap.size W1 w' → w'.cell? ⟨g6, o6 + j, none⟩ = some (.int .u8 (c : Int)) := fun w' h => (h.cell (lt_of_cell hcY)).trans hcY
          have HO := Lib.hid hoZ
          obtain ⟨A8, c8, rfl⟩ := hoZ.slice
          have j1 : (j : Int) < k := by omega
          have j0 : (0 : Int) ≤ j := by omega
          clear hZl hZb hoZ hcz hcX hcY
          go_wp2
          have hS : Below W1.heap.size W1 wr.drew := hbz.trans ⟨rfl, rfl, rfl, Nat.le_refl _, fun _ _ => rfl⟩
          refine Seq.wp_region_seq (fun w' => Below W1.heap.size W1 w') (by kernel_rfl) (by kernel_rfl) hS ?_
          repeat (first | (refine Seq.Seq.skip (by rfl) ?_; (try simp only [Act.put, List.setIfInBounds_toArray, List.set_cons_zero, List.set_cons_succ])) | (refine Seq.Seq.det ?_ (by rfl) (fun w hS => ?_) ?_; rotate_left; ((try dsimp only at hS); go_simp; (try rw [if_pos (by omega)]); with_reducible rfl); (try simp only [Act.put, List.setIfInBounds_toArray, List.set_cons_zero, List.set_cons_succ])))
          refine Seq.Seq.make (by rfl) (by rfl) (fun K Q' hK => ?_)
          go_simp
          have hA := below_one wr (.cells #[.int .u8 (y : Int)] 5)
          have hS2 : Below W1.heap.size W1 (wr.alloc (.cells #[.int .u8 (y : Int)] 5)).drew := (hbz.trans (hA.mono hbz.size)).trans ⟨rfl, rfl, rfl, Nat.le_refl _, fun _ _ => rfl⟩
          have hbs3 : Bs (wr.alloc (.cells #[.int .u8 (y : Int)] 5)).drew (some ⟨wr.heap.size, 0, none⟩) 1 [(y : Int)] := Bs.of_block (w := wr.alloc (.cells #[.int .u8 (y : Int)] 5)) (z := [(y : Int)]) (heap_alloc_new _ _)
          have hoZ2 : Own (wr.alloc (.cells #[.int .u8 (y : Int)] 5)).drew W1.heap.size (.slice A8 Z.length c8) Z := Own.below (w := wr) HO.out (hA.trans ((below_one' _).mono hA.size))
          refine hK.out _ _ hS2 ?_
          clear hK K hA
          try simp only [Act.put, List.setIfInBounds_toArray, List.set_cons_zero, List.set_cons_succ]
          refine Seq.Seq.make (by rfl) (by rfl) (fun K Q' hK => ?_)
          refine oper_append_gr (.tmp 50) (.tmp 65) rfl W1.heap.size _ Z rfl hoZ2 _ _ _ _ rfl hbs3 (by simp) (by rw [HZL.out]; omega) hS2.size ?_
          intro v' w2 ho' hg' hgr
          have hb3 := Own.belowOf hS2 hS2.size hoZ2 hg'
          refine hK.out _ _ hb3 ?_
          clear hK K
          try simp only [Act.put, List.setIfInBounds_toArray, List.set_cons_zero, List.set_cons_succ]
          repeat (first | (refine Seq.Seq.skip (by rfl) ?_; (try simp only [Act.put, List.setIfInBounds_toArray, List.set_cons_zero, List.set_cons_succ])) | (refine Seq.Seq.det ?_ (by rfl) (fun w hS => ?_) ?_; rotate_left; ((try dsimp only at hS); go_simp; (try rw [if_pos (by omega)]); with_reducible rfl); (try simp only [Act.put, List.setIfInBounds_toArray, List.set_cons_zero, List.set_cons_succ])))
          refine Seq.Seq.nil ?_
          go_wp2
          go_roundw
          case rel => exact ⟨j + 1, by omega, by go_num, _, by rw [List.length_append, HZL.out]; rfl, HZB.out, ho', HNT.out, hb3⟩
          case measure => simp [intOf]; omega
        · obtain rfl : j = k := by omega
          obtain ⟨A8, c8, rfl⟩ := hoZ.slice
          rw [hZl] at hoZ ⊢
          have hbZ := hoZ.bs.2
          have hlen : (z.take j).length = j := by rw [List.length_take, HL.out]; omega
          have t1 : z.take j = z := by rw [← HL.out, List.take_length]
          have t2 : X.take j = X := by rw [← HX.out, List.take_length]
          have t3 : Y.take j = Y := by rw [← HY.out, List.take_length]
          rw [t1, t2, t3] at hnum
          have h3 := sm_three HL.out HX.out HY.out hZl hnum
          have hl1 := sm_lt HB.out
          have hl2 := sm_lt HXB.out
          have hl3 := sm_lt HYB.out
          have HZB := Lib.hid hZb
          have K1 := fun w' (h : Below w.heap.size w w') => csum_any _ _ m z w' (hz.below h) (by omega) HB.out (HT.out.below h)
          have K2 := fun w' (h : Below W1.heap.size W1 w') => csum_any _ _ c5 X w' (hbX.below h) (by omega) HXB.out ((HT.out.below hbd).below h)
          have K3 := fun w' (h : Below W1.heap.size W1 w') => csum_any _ _ c6 Y w' (hbY.below h) (by omega) HYB.out ((HT.out.below hbd).below h)
          have K4 := csum_any _ _ c8 Z wr hbZ (by omega) HZB.out ((HT.out.below hbd).below hbz)
          have KK1 := Lib.hid K1
          have KK2 := Lib.hid K2
          have KK3 := Lib.hid K3
          have KK4 := Lib.hid K4
          have X1 := xor32 _ _ hl1 hl2
          have X2 := xor32 _ _ (Nat.xor_lt_two_pow hl1 hl2) hl3
          rw [← h3] at X2
          clear K1 K2 K3 K4 h3 hl1 hl2 hl3 hZl hZb hnum t1 t2 t3 hlen
          generalize sm Z = e4 at *
          generalize sm z ^^^ sm X = e12 at *
          generalize sm z = e1 at *
          generalize sm X = e2 at *
          generalize sm Y = e3 at *
          go_wp2_with fail
          refine KK4.out.mono ?_
          rintro e w1 ⟨rfl, k1, rfl⟩
          have b1 := below_drewN hbz k1
          go_wp2_with fail
          refine (KK1.out _ (hbd.trans (b1.mono hbd.size))).mono ?_
          rintro e w1 ⟨rfl, k2, rfl⟩
          have b2 := below_drewN hbz (k1 + k2)
          go_wp2_with fail
          refine (KK2.out _ b2).mono ?_
          rintro e w1 ⟨rfl, k3, rfl⟩
          have b3 := below_drewN hbz (k1 + k2 + k3)
          go_wp2_with fail
          refine (KK3.out _ b3).mono ?_
          rintro e w1 ⟨rfl, k4, rfl⟩
          have b4 := hbd.trans ((below_drewN hbz (k1 + k2 + k3 + k4)).mono hbd.size)
          go_wp2_with fail
          refine (live7_any _ (HT.out.below b4)).mono ?_
          rintro e w4 ⟨rfl, hb4⟩
          go_wp2
          go_ret
          exact ⟨rfl, b4.trans (hb4.mono b4.size)⟩

theorem tabs_of {W : World} (h : laidMetH Tryd.prog Rows.crcLinearRow.laid W) : Tbs W := by
  rw [MakeChecks.laidMetH_plain _ _ _ (by kernel_rfl)] at h
  exact tbs_of_laid h
theorem door_met (os : Os) (args : Array Value) : laidMetH Tryd.prog Rows.crcLinearRow.laid ((World.doorLaid Tryd.prog 4000 os).forCall (fun _ _ => 0) ⟨#[], args, []⟩).memory :=
  laidMetH_of_parts3 (fuel := 8) (laidMet_of_run' 8 (by kernel_rfl) (by kernel_rfl)) (by kernel_rfl) (by kernel_rfl)
set_option maxRecDepth 100000 in
theorem lifted (os : Os) (started : os.Started) (H : Type) (enc : TypeId × Value → H) :
    ReturnsInHanded {} Tryd.checked os 7 .any (fun w args => (Rows.crcLinearSpec.pre enc Tryd.prog Tryd.f7 [] false w args ∧ laidMetH Tryd.prog Rows.crcLinearRow.laid w) ∧ sizedMet enc Tryd.prog Tryd.f7 (OpenSpec.ofChange Rows.crcLinearSpec) false w args)
      (Rows.crcLinearSpec.post enc Tryd.prog Tryd.f7 false true false false) := by
  refine returnsInHanded_of_change_and (C := Tryd.checked) (X := fun w _ => laidMetH Tryd.prog Rows.crcLinearRow.laid w) (fun _ _ _ hh h => h.of_heap hh) own started (by kernel_rfl) Tryd.func7
    (ChangeSpec.witness_shaped (enc := enc) (C := Tryd.checked) (os := os) (X := fun w _ => laidMetH Tryd.prog Rows.crcLinearRow.laid w) false (World.doorLaid Tryd.prog 4000 os) #[.slice none 0 0, .int .u32 0] 8 rfl (World.shaped_of_RefB (by kernel_rfl) (by kernel_rfl)) (by kernel_rfl) (by kernel_rfl) (by kernel_rfl) (door_met os _)) ?_
  intro W base args ds gs before hval0 hW _ _ hL _
  have hval : ∀ (j : Nat) t v, Tryd.f7.params[j]? = some t → args[j]? = some v → Value.okWide Tryd.prog W .any base t v := hval0
  have hW' := hW
  obtain ⟨p, q, hA0, hV, rfl, hfz, hnd⟩ := hW
  have hA : DataW.TrodAll enc Tryd.prog W 0 (fun _ => true) true Tryd.f7.params.toList args.toList ds p := hA0
  rw [Tryd.params7] at hA hval
  obtain ⟨v0, vs0, d0, ds0, p0, q0, hargs, rfl, rfl, h0, r0⟩ := trodAll_cons hA
  obtain ⟨v1, vs1, d1, ds1, p1, q1, rfl, rfl, rfl, h1, r1⟩ := trodAll_cons r0
  obtain ⟨rfl, rfl, rfl⟩ := trodAll_nil r1
  obtain rfl : args = #[v0, v1] := by cases args; simp_all
  obtain ⟨rfl, rfl⟩ := trodVars_none hV
  have lt0 : ∀ x ∈ p0, x.block < W.heap.size := by obtain ⟨m, hm⟩ := h0; exact DataW.trod_lt m _ _ _ hm
  have lt1 : ∀ x ∈ p1, x.block < W.heap.size := by obtain ⟨m, hm⟩ := h1; exact DataW.trod_lt m _ _ _ hm
  clear hA0 hval0
  refine (walk enc W (tabs_of hL) base v0 d0 p0 (hval 0 23 v0 rfl rfl) h0 v1 d1 p1 (hval 1 22 v1 rfl rfl) h1).mono fun e W' ⟨he, bel⟩ => ?_
  subst he
  exact ⟨_, rfl, _, _, _, [], _, [], hW', trodAll_mk1 (shut_bool Tryd.underlying4 _), (trodAll_cons_mk (Below.trod laidOut (by kernel_rfl) (of_decide_eq_true (by kernel_rfl)) h0 bel lt0) (trodAll_cons_mk (Below.trod laidOut (by kernel_rfl) (of_decide_eq_true (by kernel_rfl)) h1 bel lt1) trodAll_mk0)), rfl, bel.frame _, fun h => by cases h⟩

theorem over : Rows.CrcLinearSaid :=
  OpenClaim.holds_of_wide 7 Tryd.f7 rfl rfl rfl rfl rfl rfl rfl ⟨rfl, rfl, rfl, rfl, rfl⟩ rfl rfl rfl rfl rfl (by kernel_rfl) Tryd.func7 (by kernel_rfl)
    (of_decide_eq_true (by kernel_rfl)) (by unfold Func.isWrapper; first | (rw [if_pos (by decide +kernel)]; kernel_rfl) | (rw [if_neg (by decide +kernel)]; exact ⟨rfl, rfl⟩))
    (fun os started H enc _ => lifted os started H enc)

/-- THE TIED CARD. -/
theorem proved : Rows.CrcLinearCardSaid :=
  Claim7.holds_tied_plain_at .later [] [.data, .data] true Rows.crcLinearCard.stood.harness Rows.crcLinearCard.stood.looks
    over (fun _ h => by cases h) (by kernel_rfl) (fun _ h => by cases h) crcLinear_row_tie rfl ⟨rfl, rfl⟩ (by kernel_rfl) rfl
    (fun f fn hf hfn => by
      obtain rfl : f = 7 := Option.some.inj ((show Tryd.prog.funcNamed "tholepin/tholepinlaw07.CrcLinear" = some 7 by kernel_rfl).symm.trans hf) |>.symm
      obtain rfl : fn = Tryd.f7 := (Option.some.inj (Tryd.func7.symm.trans hfn)).symm
      exact ⟨by kernel_rfl, fun j t ht => by
        rw [Tryd.params7] at ht
        have hm : t ∈ [23, 22] := by simpa using Array.mem_of_getElem? ht
        have hall : ([23, 22].all fun u => !Tryd.prog.wantsStandIn u) = true := by kernel_rfl
        exact (show Tryd.prog.wantsStandIn t = false by simpa using List.all_eq_true.1 hall t hm)⟩)
    (by kernel_rfl)
#print axioms proved
end Go.Proofs.YtglacblccgainaaDoor.crcLinear

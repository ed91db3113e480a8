/- Falling lists: Steps and List, by make and store; the document's Steps. -/
import Derived.Test.YtjcoabgcacaceaaDltA
namespace Go.Proofs.Ytjcoabgcacaceaa.Cur
open Go.RowKit Mem
set_option linter.unusedVariables false

theorem make_u64 (L : List Int) (n : Nat) (hn : n ≤ 1000000) (w' : World) : (Instr.makeSlice 23 (.int .i64 (n : Int)) (.int .i64 (n : Int))).run Try.prog w' = .ok (.slice (some ⟨w'.heap.size, 0, none⟩) n n) (w'.alloc (.cells (rowz L n 0).toArray 22)) := by
  have hinfo : (Try.prog.info? 22).map (fun i => (i.zero, i.size, i.bytes)) = some (some (.int .u64 0), 1, 8) := by kernel_rfl
  obtain ⟨i, h1, hzz⟩ := Option.map_eq_some_iff.1 hinfo
  simp only [Prod.mk.injEq] at hzz
  obtain ⟨h2, h3, h4⟩ := hzz
  have hr := Go.run_make (P := Try.prog) w' 23 22 i _ Try.underlying23 h1 h2 .i64 .i64 n n (by omega) (Int.le_refl _) (by rw [h4]; omega) (by omega)
  simp only [Int.toNat_natCast, h3, Nat.mul_one] at hr
  rw [hr, ← rowz_made]
  rfl
/-- A row that the call made, and whether. -/
def RBPost (l : List Int) (ok : Bool) (w : World) (e : Ending) (w' : World) : Prop :=
  ∃ v, e = .returned (.tuple #[v, .bool ok]) ∧ OwnU w' w.heap.size v l ∧ Below w.heap.size w w'

/-- A list's steps, or none; the list of steps, or none. -/
def difo (b : Int) (l : List Int) : List Int := if flb b l = true then dif b l else []
def unlo (b : Int) (s : List Int) : List Int := if uok b s = true then unl b s else []
theorem difo_yes {b : Int} {l : List Int} (h : flb b l = true) : difo b l = dif b l := if_pos h
theorem difo_no {b : Int} {l : List Int} (h : flb b l = false) : difo b l = [] := if_neg (by simp [h])
theorem unlo_yes {b : Int} {s : List Int} (h : uok b s = true) : unlo b s = unl b s := if_pos h
theorem unlo_no {b : Int} {s : List Int} (h : uok b s = false) : unlo b s = [] := if_neg (by simp [h])

set_option maxHeartbeats 2000000 in
theorem steps_any (A : Option Addr) (n m : Nat) (b : Int) (z : List Int) (w : World) (hz : Us w A n z) (hn : n ≤ 1000000) (hby : ∀ x ∈ z, 0 ≤ x ∧ x < 18446744073709551616) (b0 : 0 ≤ b) (b1 : b < 18446744073709551616) :
    Calls Try.prog 9 #[.int .u64 b, .slice A n m] w (RBPost (difo b z) (flb b z) w) := by
  have HFA := dfalls_any A n m b z w hz hn hby b0 b1
  cases hf : flb b z with
  | false =>
    rw [difo_no hf]
    rw [hf] at HFA
    clear hf
    go_enter Try.func9, Try.ntmps9
    go_wp2_with fail
    refine HFA.mono ?_
    rintro e w1 ⟨rfl, hb⟩
    go_wp2
    go_ret2
    exact ⟨_, rfl, OwnU.nil _ _, hb⟩
  | true =>
    have HF := Lib.hid ((flb_iff z b).1 hf)
    rw [difo_yes hf]
    rw [hf] at HFA
    have HB := Lib.hid hby
    have HL := Lib.hid hz.1
    have HU := Lib.hid hz
    have HE := Lib.hid (And.intro b0 b1)
    have HD : Hid ((dif b z).length = n) := Lib.hid (by rw [dif_len, hz.1])
    have hmk := fun w' => make_u64 (dif b z) n hn w'
    clear hby hz b0 b1 hf
    go_enter Try.func9, Try.ntmps9
    go_wp2_with fail
    refine HFA.mono ?_
    rintro e w1 ⟨rfl, hb1⟩
    have hs1 := hb1.size
    have hbM := hb1.alloc hs1 (.cells (rowz (dif b z) n 0).toArray 22)
    have hR0 := Blk.new w1 (rowz (dif b z) n 0).toArray 22
    clear HFA hb1
    go_wp2
    clear hmk
    generalize w1.alloc (.cells (rowz (dif b z) n 0).toArray 22) = w2 at *
    generalize w1.heap.size = g at *
    go_loopw [0, 17] (fun v i wr => ∃ k : Nat, k ≤ n ∧ i = .int .i64 k ∧ v = .int .u64 (bel b z k) ∧ Blk wr g (rowz (dif b z) n k).toArray 22 ∧ Below w.heap.size w wr) (fun _ i _ => n - (intOf i).toNat)
    case atStart => exact ⟨0, by omega, rfl, rfl, hR0, hbM⟩
    case round =>
      clear hR0 hbM
      obtain ⟨k, hk, rfl, rfl, hR, hb⟩ := hrel
      by_cases hlt : k < n
      · have hx := HB.out _ (getD_mem (z := z) (k := k) (by rw [HL.out]; exact hlt))
        have hy := bel_bd (k := k) HE.out.1 HE.out.2 HB.out (by rw [HL.out]; omega)
        have hxy := HF.out k (by rw [HL.out]; exact hlt)
        have hst := dif_getD z b k (by rw [HL.out]; exact hlt)
        have u0 := hR.free k
        have v0 := hR.cell k (rowz_at HD.out hlt)
        have hR2 := hR.set k (.int .u64 ((dif b z).getD k 0))
        rw [rowz_set HD.out hlt] at hR2
        have hb2 := hb.setCell (p := ⟨g, k, none⟩) hs1 (.int .u64 ((dif b z).getD k 0))
        have hU := HU.out.below hb
        have hU2 := HU.out.below hb2
        have HS := Lib.hid (show bel b z (k + 1) = z.getD k 0 from rfl)
        obtain ⟨ga, oa, rfl, hc⟩ := hU.at_ hlt
        have hc2 := hU2.at2 hlt
        rw [hst] at hR2 hb2 hc2
        obtain ⟨x, hxe⟩ : ∃ x, x = z.getD k 0 := ⟨_, rfl⟩
        obtain ⟨y, hye⟩ : ∃ y, y = bel b z k := ⟨_, rfl⟩
        rw [← hxe] at hx hc HS hR2 hb2 hc2 hxy
        rw [← hye] at hy hR2 hb2 hc2 hxy ⊢
        clear hst hxe hye hU hU2 hR
        have e3 : IntKind.i64.wrap ((k : Int) + 1) = ((k + 1 : Nat) : Int) := IntWalk.i64_in _ (by omega)
        have e4 : IntKind.u64.wrap (y - x) = y - x := by rw [wrapu]; omega
        have e5 : IntKind.u64.wrap (y - x - 1) = y - x - 1 := by rw [wrapu]; omega
        go_upto_region 8 with (fail)
        generalize wr.setCell ⟨g, k, none⟩ (.int .u64 (y - x - 1)) = wr2 at *
        clear u0 v0 hc hb
        go_wp2
        go_roundw
        case rel => exact ⟨k + 1, hlt, by go_num, by rw [HS.out], hR2, hb2⟩
        case measure => simp [intOf]; omega
      · obtain rfl : k = n := by omega
        rw [rowz_end HD.out] at hR
        have ho := ownu_of_blk hR hs1 (by rw [HD.out]; omega)
        rw [HD.out] at ho
        clear hR
        go_wp2
        go_ret2
        exact ⟨_, rfl, ho, hb⟩

theorem bel_unl_bd {b : Int} {s : List Int} (h0 : 0 ≤ b) (h1 : b < 18446744073709551616) (hs : ∀ x ∈ s, 0 ≤ x) : ∀ (k : Nat), k ≤ s.length → (∀ j, j < k → s.getD j 0 < bel b (unl b s) j) → 0 ≤ bel b (unl b s) k ∧ bel b (unl b s) k < 18446744073709551616
  | 0, _, _ => ⟨h0, h1⟩
  | k + 1, hk, h => by
    have ih := bel_unl_bd h0 h1 hs k (by omega) (fun j hj => h j (by omega))
    have h2 := h k (by omega)
    have h3 := hs _ (getD_mem (z := s) (k := k) (by omega))
    rw [bel_succ, unl_getD s b k (by omega)]
    omega

set_option maxHeartbeats 2000000 in
theorem dlist_any (A : Option Addr) (n m : Nat) (b : Int) (s : List Int) (w : World) (hz : Us w A n s) (hn : n ≤ 1000000) (hby : ∀ x ∈ s, 0 ≤ x ∧ x < 18446744073709551616) (b0 : 0 ≤ b) (b1 : b < 18446744073709551616) :
    Calls Try.prog 13 #[.int .u64 b, .slice A n m] w (RBPost (unlo b s) (uok b s) w) := by
  have HB := Lib.hid hby
  have HL := Lib.hid hz.1
  have HU := Lib.hid hz
  have HE := Lib.hid (And.intro b0 b1)
  have HD : Hid ((unl b s).length = n) := Lib.hid (by rw [unl_len, hz.1])
  have hmk := fun w' => make_u64 (unl b s) n hn w'
  clear hby hz b0 b1
  have hbM := below_one w (.cells (rowz (unl b s) n 0).toArray 22)
  have hR0 := Blk.new w (rowz (unl b s) n 0).toArray 22
  go_enter Try.func13, Try.ntmps13
  go_wp2
  clear hmk
  generalize w.alloc (.cells (rowz (unl b s) n 0).toArray 22) = w2 at *
  have hs1 : w.heap.size ≤ w.heap.size := Nat.le_refl _
  go_loopw [0, 13] (fun v i wr => ∃ k : Nat, k ≤ n ∧ i = .int .i64 k ∧ v = .int .u64 (bel b (unl b s) k) ∧ Hid (∀ j, j < k → s.getD j 0 < bel b (unl b s) j) ∧ Blk wr w.heap.size (rowz (unl b s) n k).toArray 22 ∧ Below w.heap.size w wr) (fun _ i _ => n - (intOf i).toNat)
  case atStart => exact ⟨0, by omega, rfl, rfl, Lib.hid (by intro j hj; omega), hR0, hbM⟩
  case round =>
    clear hR0 hbM
    obtain ⟨k, hk, rfl, rfl, hj, hR, hb⟩ := hrel
    by_cases hlt : k < n
    · have hx := HB.out _ (getD_mem (z := s) (k := k) (by rw [HL.out]; exact hlt))
      have hy := bel_unl_bd HE.out.1 HE.out.2 (fun x hx => (HB.out x hx).1) k (by rw [HL.out]; omega) hj.out
      have hst := unl_getD s b k (by rw [HL.out]; exact hlt)
      have u0 := hR.free k
      have v0 := hR.cell k (rowz_at HD.out hlt)
      have hR2 := hR.set k (.int .u64 ((unl b s).getD k 0))
      rw [rowz_set HD.out hlt] at hR2
      have hb2 := hb.setCell (p := ⟨w.heap.size, k, none⟩) hs1 (.int .u64 ((unl b s).getD k 0))
      have HS := Lib.hid (show bel b (unl b s) (k + 1) = (unl b s).getD k 0 from rfl)
      obtain ⟨ga, oa, rfl, hc⟩ := (HU.out.below hb).at_ hlt
      rw [hst] at hR2 hb2 HS
      obtain ⟨x, hxe⟩ : ∃ x, x = s.getD k 0 := ⟨_, rfl⟩
      obtain ⟨y, hye⟩ : ∃ y, y = bel b (unl b s) k := ⟨_, rfl⟩
      rw [← hxe] at hx hc HS hR2 hb2
      rw [← hye] at hy hR2 hb2 HS ⊢
      have HX := Lib.hid hxe
      have HY := Lib.hid hye
      clear hst hxe hye hR
      have e3 : IntKind.i64.wrap ((k : Int) + 1) = ((k + 1 : Nat) : Int) := IntWalk.i64_in _ (by omega)
      by_cases hle : x < y
      · have e4 : IntKind.u64.wrap (x + 1) = x + 1 := by rw [wrapu]; omega
        have e5 : IntKind.u64.wrap (y - (x + 1)) = y - x - 1 := by rw [wrapu]; omega
        go_upto_region 9 with (fail)
        generalize wr.setCell ⟨w.heap.size, k, none⟩ (.int .u64 (y - x - 1)) = wr2 at *
        clear u0 v0 hc hb
        go_wp2
        go_roundw
        case rel => exact ⟨k + 1, hlt, by go_num, by rw [HS.out], Lib.hid (fun j hjk => by
          rcases Nat.lt_or_ge j k with h | h
          · exact hj.out j h
          · obtain rfl : j = k := by omega
            rw [← HX.out, ← HY.out]; exact hle), hR2, hb2⟩
        case measure => simp [intOf]; omega
      · have HN : Hid (uok b s = false) := Lib.hid (uok_no (k := k) (by rw [HL.out]; exact hlt) (by rw [← HX.out, ← HY.out]; exact hle))
        go_wp2
        go_ret2
        rw [unlo_no HN.out, HN.out]
        exact ⟨_, rfl, OwnU.nil _ _, hb⟩
    · obtain rfl : k = n := by omega
      have HT : Hid (uok b s = true) := Lib.hid ((uok_iff s b).2 (fun j hj2 => hj.out j (by rw [← HL.out]; exact hj2)))
      rw [rowz_end HD.out] at hR
      have ho := ownu_of_blk hR hs1 (by rw [HD.out]; omega)
      rw [HD.out] at ho
      clear hR
      go_wp2
      go_ret2
      rw [unlo_yes HT.out, HT.out]
      exact ⟨_, rfl, ho, hb⟩

set_option maxRecDepth 100000 in
set_option maxHeartbeats 2000000 in
theorem rdsteps_any (A : Option Addr) (n m : Nat) (b : Int) (z : List Int) (w : World) (hz : Us w A n z) (hn : n ≤ 100000) (hby : ∀ x ∈ z, 0 ≤ x ∧ x < 18446744073709551616) (b0 : 0 ≤ b) (b1 : b < 18446744073709551616) (hf : flb b z = true) :
    Calls Try.prog 12 #[.int .u64 b, .slice A n m] w (URowPost (dif b z) w) := by
  have HF := Lib.hid ((flb_iff z b).1 hf)
  have HB := Lib.hid hby
  have HL := Lib.hid hz.1
  have HU := Lib.hid hz
  have HE := Lib.hid (And.intro b0 b1)
  have HD : Hid ((dif b z).length = n) := Lib.hid (by rw [dif_len, hz.1])
  have HSN : Hid (∀ k, k < n → (dif b z).take (k + 1) = (dif b z).take k ++ [(dif b z).getD k 0]) := Lib.hid (fun k hk => by
    have h : k < (dif b z).length := by rw [HD.out]; exact hk
    rw [List.take_succ_eq_append_getElem h, List.getD_eq_getElem?_getD, List.getElem?_eq_getElem h]; rfl)
  clear hby hz hf
  go_enter Try.func12, Try.ntmps12
  go_wp2
  go_loopw [5, 6] (fun v i wr => ∃ k : Nat, k ≤ n ∧ i = .int .i64 k ∧ OwnU wr w.heap.size v ((dif b z).take k) ∧ Below w.heap.size w wr) (fun _ i _ => n - (intOf i).toNat)
  case atStart => exact ⟨0, by omega, rfl, OwnU.nil _ _, Below.refl _ _⟩
  case round =>
    obtain ⟨k, hk, rfl, ho, hb⟩ := hrel
    by_cases hlt : k < n
    · have hx := HB.out _ (getD_mem (z := z) (k := k) (by rw [HL.out]; exact hlt))
      have hy := bel_bd (k := k) HE.out.1 HE.out.2 HB.out (by rw [HL.out]; omega)
      have hxy := HF.out k (by rw [HL.out]; exact hlt)
      have hst := dif_getD z b k (by rw [HL.out]; exact hlt)
      have hsn := HSN.out k hlt
      rw [hst] at hsn
      have e3 : IntKind.i64.wrap ((k : Int) + 1) = ((k + 1 : Nat) : Int) := IntWalk.i64_in _ (by omega)
      have hbA0 := fun (x : Int) => hb.trans ((below_one wr (.cells #[.int .u64 x] 22)).mono hb.size)
      obtain ⟨ga, oa, rfl, hc⟩ := (HU.out.below hb).at_ hlt
      cases k with
      | zero =>
        rw [bel_zero] at hst hsn hxy hy
        rw [Nat.add_zero] at hc
        obtain ⟨x, hxe⟩ : ∃ x, x = z.getD 0 0 := ⟨_, rfl⟩
        rw [← hxe] at hx hc hxy hsn
        have HSX := Lib.hid hsn
        clear hst hxe hsn hy hbA0
        have e4 : IntKind.u64.wrap (b - 1) = b - 1 := by rw [wrapu]; omega
        have e5 : IntKind.u64.wrap (b - 1 - x) = b - x - 1 := by rw [wrapu]; omega
        rw [show ((0 : Nat) : Int) = 0 from rfl]
        have hbA := below_one wr (.cells #[.int .u64 (b - x - 1)] 22)
        have hoA := own_below ho hbA
        have hB9 : w.heap.size ≤ (wr.alloc (.cells #[.int .u64 (b - x - 1)] 22)).heap.size := by have := hb.size; simp; omega
        have hbdA := hb.trans (hbA.mono hb.size)
        have hrwA := rw_new wr (uv [b - x - 1]) 22
        have hgeA := own_ge hoA
        have hlen : ((dif b z).take (0)).length = (0) := by rw [List.length_take, HD.out]; omega
        have HLEN : Hid (((dif b z).take (0)).length + 1 ≤ 1000000) := Lib.hid (by omega)
        have HLE := Lib.hid hlen
        clear hlen ho hbA
        go_wp2_with (at_builtin; go_must (refine list_append_rw kindU rfl (.tmp 22) (.tmp 30) rfl w.heap.size _ _ _ rfl hoA _ 1 _ (uv [b - x - 1]) rfl rfl hrwA (by simp) (uv_one _) HLEN.out (by omega) hB9 ?_; intro v' w10 ho' hg' hgr; have hb10 := hbdA.grown hg' hB9 (fun j hj => hgeA j hj); clear hrwA hoA hbdA hgeA hb))
        go_roundw
        case rel => exact ⟨0 + 1, hlt, rfl, by rw [HSX.out]; unfold OwnU; rw [List.length_append, uv, List.map_append]; exact ho', hb10⟩
        case measure => simp [intOf]; omega
      | succ k =>
        have hc2 := (HU.out.below hb).at2 (show k < n by omega)
        rw [bel_succ] at hst hsn hxy hy
        obtain ⟨x, hxe⟩ : ∃ x, x = z.getD (k + 1) 0 := ⟨_, rfl⟩
        obtain ⟨y, hye⟩ : ∃ y, y = z.getD k 0 := ⟨_, rfl⟩
        rw [← hxe] at hx hc hxy hsn
        rw [← hye] at hy hc2 hxy hsn
        have HSX := Lib.hid hsn
        clear hst hxe hye hsn hbA0
        have e1 : ((k + 1 : Nat) : Int) = (k : Int) + 1 := by omega
        rw [e1] at e3 ⊢
        clear e1
        have e2 : (k : Int) + 1 < n := by omega
        have e6 : ((k : Int) + 1).toNat = k + 1 := by omega
        have e7 : (0 : Int) ≤ k := by omega
        have e8 : IntKind.i64.wrap ((k : Int) + 1 - 1) = (k : Int) := by rw [show (k : Int) + 1 - 1 = k by omega]; exact IntWalk.i64_in _ (by omega)
        have e9 : (0 : Int) ≤ (k : Int) + 1 := by omega
        have e10 : IntKind.i64.wrap (k : Int) = (k : Int) := IntWalk.i64_in _ (by omega)
        have e11 : (0 : Int) < (k : Int) + 1 := by omega
        have e12 : (k : Int) < n := by omega
        have e4 : IntKind.u64.wrap (y - 1) = y - 1 := by rw [wrapu]; omega
        have e5 : IntKind.u64.wrap (y - 1 - x) = y - x - 1 := by rw [wrapu]; omega
        have hbA := below_one wr (.cells #[.int .u64 (y - x - 1)] 22)
        have hoA := own_below ho hbA
        have hB9 : w.heap.size ≤ (wr.alloc (.cells #[.int .u64 (y - x - 1)] 22)).heap.size := by have := hb.size; simp; omega
        have hbdA := hb.trans (hbA.mono hb.size)
        have hrwA := rw_new wr (uv [y - x - 1]) 22
        have hgeA := own_ge hoA
        have hlen : ((dif b z).take (k + 1)).length = (k + 1) := by rw [List.length_take, HD.out]; omega
        have HLEN : Hid (((dif b z).take (k + 1)).length + 1 ≤ 1000000) := Lib.hid (by omega)
        have HLE := Lib.hid hlen
        clear hlen ho hbA
        go_wp2_with (at_builtin; go_must (refine list_append_rw kindU rfl (.tmp 22) (.tmp 30) rfl w.heap.size _ _ _ rfl hoA _ 1 _ (uv [y - x - 1]) rfl rfl hrwA (by simp) (uv_one _) HLEN.out (by omega) hB9 ?_; intro v' w10 ho' hg' hgr; have hb10 := hbdA.grown hg' hB9 (fun j hj => hgeA j hj); clear hrwA hoA hbdA hgeA hb))
        go_roundw
        case rel => exact ⟨k + 1 + 1, hlt, by go_num, by rw [HSX.out]; unfold OwnU; rw [List.length_append, uv, List.map_append]; exact ho', hb10⟩
        case measure => simp [intOf]; omega
    · obtain rfl : k = n := by omega
      obtain ⟨A3, c3, rfl⟩ := ho.slice
      have hr : (dif b z).take k = dif b z := by rw [← HD.out]; exact List.take_length
      rw [hr] at ho ⊢
      go_wp2
      go_ret
      exact ⟨_, rfl, ho, hb⟩
end Go.Proofs.Ytjcoabgcacaceaa.Cur

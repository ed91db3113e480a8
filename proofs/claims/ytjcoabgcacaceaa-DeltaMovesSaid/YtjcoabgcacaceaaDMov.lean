/- DeltaMoves: called with any number, any numbers and any number more, the law returns true; no condition. -/
import Derived.Test.YtjcoabgcacaceaaRows
import Derived.Test.YtjcoabgcacaceaaDltL
import Derived.Test.YtjcoabgcacaceaaDltB
import Derived.ProofKit
import Derived.OpenShut
import Derived.ShutString
import Derived.ChangeOld
namespace Go.Proofs.Ytjcoabgcacaceaa.deltaMoves
open Go.ChangeShapes Go.WideShapes Go.ChangeAt Go.RowKit
open Go.ChangeMaps (open_string shut_string)
set_option linter.unusedVariables false

theorem own : ownKnob Try.prog.godebug = none := by kernel_rfl
theorem laidOut : laidOutB Try.prog = true := by kernel_rfl
open Cur Mem
set_option maxRecDepth 100000


set_option maxHeartbeats 8000000 in
theorem walk {H : Type} (enc : TypeId × Value → H) (w : World) (base : Nat) (v0 : Value) (d0 : DataW H) (p0 : List MemPlace) (g0 : Value.okWide Try.prog w .any base 22 v0) (h0 : DataW.Trod enc Try.prog w 0 (fun _ => true) true 22 v0 d0 p0) (v1 : Value) (d1 : DataW H) (p1 : List MemPlace) (g1 : Value.okWide Try.prog w .any base 23 v1) (h1 : DataW.Trod enc Try.prog w 0 (fun _ => true) true 23 v1 d1 p1) (v2 : Value) (d2 : DataW H) (p2 : List MemPlace) (g2 : Value.okWide Try.prog w .any base 22 v2) (h2 : DataW.Trod enc Try.prog w 0 (fun _ => true) true 22 v2 d2 p2) :
    Calls Try.prog 6 #[v0, v1, v2] w fun e w' => e = .returned (.bool true) ∧ Below w.heap.size w w' := by
  obtain ⟨be, rfl, b0, b1⟩ := open_u64 g0 h0
  obtain ⟨A, n, m, l, rfl, hnm, hz, hby, hnil⟩ := open_u64s g1 h1
  obtain ⟨y, rfl, y0, y1⟩ := open_u64 g2 h2
  clear g0 h0 g1 h1 g2 h2
  have hbd := Below.refl w.heap.size w
  have HZ := Lib.hid hz
  have HBY := Lib.hid hby
  clear hz hby hnil
  by_cases hn : 200 < (n : Int)
  · go_enter Try.func6, Try.ntmps6
    go_wp2_with fail
    refine (live22_any _).mono ?_
    rintro e wl ⟨rfl, hbl⟩
    replace hbd := hbd.trans (hbl.mono hbd.size)
    go_wp2
    go_ret
    exact ⟨rfl, hbd⟩
  have HRF := rdfalls_any A n m be l w HZ.out (by omega) HBY.out b0 b1
  cases hf : flb be l
  case false =>
    rw [hf] at HRF
    clear hf
    go_enter Try.func6, Try.ntmps6
    go_wp2_with fail
    refine HRF.mono ?_
    rintro e w1 ⟨rfl, hb1⟩
    replace hbd := hbd.trans (hb1.mono hbd.size)
    clear hb1 HRF
    go_wp2_with fail
    refine (live22_any _).mono ?_
    rintro e wl ⟨rfl, hbl⟩
    replace hbd := hbd.trans (hbl.mono hbd.size)
    go_wp2
    go_ret
    exact ⟨rfl, hbd⟩
  case true =>
    rw [hf] at HRF
    by_cases ho : 18446744073709551616 ≤ be + y
    · have e1 : IntKind.u64.wrap (be + y) = be + y - 18446744073709551616 := by rw [wrapu]; omega
      have d1 : decide (be + y - 18446744073709551616 < y) = true := by simp; omega
      clear hf
      go_enter Try.func6, Try.ntmps6
      go_wp2_with fail
      refine HRF.mono ?_
      rintro e w1 ⟨rfl, hb1⟩
      replace hbd := hbd.trans (hb1.mono hbd.size)
      clear hb1 HRF
      go_wp2_with fail
      refine (live22_any _).mono ?_
      rintro e wl ⟨rfl, hbl⟩
      replace hbd := hbd.trans (hbl.mono hbd.size)
      go_wp2
      go_ret
      exact ⟨rfl, hbd⟩
    · obtain ⟨T, hT⟩ : ∃ T, T = be + y := ⟨_, rfl⟩
      have e1 : IntKind.u64.wrap (be + y) = T := by rw [wrapu]; omega
      have d1 : decide (T < y) = false := by simp; omega
      have t0 : 0 ≤ T := by omega
      have t1 : T < 18446744073709551616 := by omega
      have HFM : Hid (flb T (l.map (· + y)) = true) := Lib.hid (by rw [hT, flb_mv]; exact hf)
      have HDM : Hid (dif T (l.map (· + y)) = dif be l) := Lib.hid (by rw [hT, dif_mv])
      have HDB := Lib.hid (dif_bd l be hf b1 (fun x hx => (HBY.out x hx).1))
      have HUK : Hid (uok T (dif be l) = true) := Lib.hid (by rw [← HDM.out]; exact uok_dif _ _ (fun x hx => by
        obtain ⟨u, hu, rfl⟩ := List.mem_map.1 hx
        have := HBY.out u hu
        omega))
      have HUL : Hid (unl T (dif be l) = l.map (· + y)) := Lib.hid (by rw [← HDM.out, unl_dif])
      have HLT : Hid (∀ x ∈ l, x < be) := Lib.hid (by
        have key : ∀ (l : List Int) (b : Int), flb b l = true → ∀ x ∈ l, x < b := by
          intro l
          induction l with
          | nil => intro b _ x hx; simp at hx
          | cons u l ih =>
            intro b h x hx
            rw [flb, Bool.and_eq_true, decide_eq_true_eq] at h
            rcases List.mem_cons.1 hx with rfl | hx
            · exact h.1
            · have := ih u h.2 x hx; omega
        exact key l be hf)
      have HMB : Hid (∀ x ∈ l.map (· + y), 0 ≤ x ∧ x < 18446744073709551616) := Lib.hid (fun x hx => by
        obtain ⟨u, hu, rfl⟩ := List.mem_map.1 hx
        have h1 := HBY.out u hu
        have h2 := HLT.out u hu
        omega)
      have HS1 := fun w' (h : Below w.heap.size w w') => steps_any A n m be l w' (HZ.out.below h) (by omega) HBY.out b0 b1
      simp only [hf, difo_yes hf] at HS1
      have HF := Lib.hid hf
      have HT := Lib.hid hT
      clear hf hT ho
      go_enter Try.func6, Try.ntmps6
      go_wp2_with fail
      refine HRF.mono ?_
      rintro e w1 ⟨rfl, hb1⟩
      replace hbd := hbd.trans (hb1.mono hbd.size)
      clear hb1 HRF
      go_wp2
      go_loopw [7, 8] (fun v i wr => ∃ k : Nat, k ≤ n ∧ i = .int .i64 k ∧ OwnU wr w.heap.size v ((l.map (· + y)).take k) ∧ Below w.heap.size w wr) (fun _ i _ => n - (intOf i).toNat)
      case atStart => exact ⟨0, by omega, rfl, OwnU.nil _ _, hbd⟩
      case round =>
        clear hbd
        obtain ⟨k, hk, rfl, ho, hbd⟩ := hrel
        by_cases hlt : k < n
        · have hlk : k < l.length := by rw [HZ.out.1]; exact hlt
          have hx := HBY.out _ (getD_mem (z := l) (k := k) hlk)
          have hx2 := HLT.out _ (getD_mem (z := l) (k := k) hlk)
          have hsn : (l.map (· + y)).take (k + 1) = (l.map (· + y)).take k ++ [l.getD k 0 + y] := by
            have h : k < (l.map (· + y)).length := by rw [List.length_map]; exact hlk
            rw [List.take_succ_eq_append_getElem h, List.getElem_map, List.getD_eq_getElem?_getD, List.getElem?_eq_getElem hlk]; rfl
          obtain ⟨g, o, rfl, hc⟩ := (HZ.out.below hbd).at_ hlt
          obtain ⟨x, hxe⟩ : ∃ x, x = l.getD k 0 := ⟨_, rfl⟩
          rw [← hxe] at hx hx2 hc hsn
          have HSN := Lib.hid hsn
          clear hxe hsn
          have e3 : IntKind.i64.wrap ((k : Int) + 1) = ((k + 1 : Nat) : Int) := IntWalk.i64_in _ (by omega)
          obtain ⟨X, hX⟩ : ∃ X, X = x + y := ⟨_, rfl⟩
          rw [← hX] at HSN
          have e4 : IntKind.u64.wrap (x + y) = X := by have := HT.out; rw [wrapu]; omega
          clear hX
          have hbA := below_one wr (.cells #[.int .u64 X] 22)
          have hoA := own_below ho hbA
          have hB9 : w.heap.size ≤ (wr.alloc (.cells #[.int .u64 X] 22)).heap.size := by have := hbd.size; simp; omega
          have hbdA := hbd.trans (hbA.mono hbd.size)
          have hrwA := rw_new wr (uv [X]) 22
          have hgeA := own_ge hoA
          have HLEN : Hid (((l.map (· + y)).take k).length + 1 ≤ 1000000) := Lib.hid (by rw [List.length_take]; omega)
          obtain ⟨acc, hacc⟩ : ∃ acc, acc = (l.map (· + y)).take k := ⟨_, rfl⟩
          rw [← hacc] at hoA HLEN HSN
          clear ho hbA hbd hacc
          go_wp2_with (at_builtin; go_must (refine list_append_rw kindU rfl (.tmp 38) (.tmp 45) rfl w.heap.size _ _ _ rfl hoA _ 1 _ (uv [X]) rfl rfl hrwA (by simp) (uv_one _) HLEN.out (by omega) hB9 ?_; intro v' w10 ho' hg' hgr; have hb10 := hbdA.grown hg' hB9 (fun j hj => hgeA j hj); clear hrwA hoA hbdA hgeA))
          go_roundw
          case rel => exact ⟨k + 1, hlt, by go_num, by rw [HSN.out]; unfold OwnU; rw [List.length_append, uv, List.map_append]; exact ho', hb10⟩
          case measure => simp [intOf]; omega
        · obtain rfl : k = n := by omega
          have hr : (l.map (· + y)).take k = l.map (· + y) := List.take_of_length_le (by rw [List.length_map, HZ.out.1]; exact Nat.le_refl _)
          rw [hr] at ho
          have hml : (l.map (· + y)).length = k := by rw [List.length_map, HZ.out.1]
          obtain ⟨M, hM⟩ : ∃ M, M = l.map (· + y) := ⟨_, rfl⟩
          rw [← hM] at ho hml HFM HDM HUL HMB
          obtain ⟨A3, c3, hv⟩ := ho.slice
          rw [hml] at hv
          subst hv
          have hu3 := (OwnU.us ho).2.2.2
          have HML := Lib.hid hml
          have hdl : (dif be l).length = k := by rw [dif_len, HZ.out.1]
          have HDL := Lib.hid hdl
          have HS2 := fun w' (h : Below wr.heap.size wr w') => steps_any A3 k c3 T M w' (hu3.below h) (by omega) HMB.out t0 t1
          simp only [HFM.out, difo_yes HFM.out, HDM.out] at HS2
          have HBR := below_one' wr
          clear hr hM hml hdl ho
          go_wp2_with fail
          refine (HS1 _ hbd).mono ?_
          rintro e w4 ⟨v4, rfl, ho4, hb4⟩
          replace hbd := hbd.trans (hb4.mono hbd.size)
          replace hu3 := hu3.below hb4
          obtain ⟨A4, c4, hv⟩ := ho4.slice
          rw [HDL.out] at hv
          subst hv
          have hu4 := (OwnU.us ho4).2.2.2
          clear ho4 HS1
          go_wp2_with fail
          refine (HS2 _ hb4).mono ?_
          rintro e w5 ⟨v5, rfl, ho5, hb5⟩
          replace hbd := hbd.trans (hb5.mono hbd.size)
          replace hu3 := hu3.below hb5
          replace hu4 := hu4.below hb5
          obtain ⟨A5, c5, hv⟩ := ho5.slice
          rw [HDL.out] at hv
          subst hv
          have hu5 := (OwnU.us ho5).2.2.2
          clear ho5 HS2 hb4 hb5
          have HLI := dlist_any A4 k c4 T (dif be l) _ hu4 (by omega) HDB.out t0 t1
          rw [HUK.out, unlo_yes HUK.out, HUL.out] at HLI
          go_wp2_with fail
          refine HLI.mono ?_
          rintro e w6 ⟨v6, rfl, ho6, hb6⟩
          replace hbd := hbd.trans (hb6.mono hbd.size)
          replace hu3 := hu3.below hb6
          replace hu4 := hu4.below hb6
          replace hu5 := hu5.below hb6
          obtain ⟨A6, c6, hv⟩ := ho6.slice
          rw [HML.out] at hv
          subst hv
          have hu6 := (OwnU.us ho6).2.2.2
          clear ho6 hb6 HLI
          go_wp2_with fail
          refine (same5_any _ _ _ _ _ _ (dif be l) _ hu4 hu5 (by omega) HDB.out).mono ?_
          rintro e w7 ⟨rfl, hb7⟩
          replace hbd := hbd.trans (hb7.mono hbd.size)
          replace hu3 := hu3.below hb7
          replace hu6 := hu6.below hb7
          clear hb7 hu4 hu5
          go_wp2_with fail
          refine (same5_any _ _ _ _ _ _ M _ hu6 hu3 (by omega) HMB.out).mono ?_
          rintro e w8 ⟨rfl, hb8⟩
          replace hbd := hbd.trans (hb8.mono hbd.size)
          clear hb8 hu3 hu6
          go_wp2_with fail
          refine (live22_any _).mono ?_
          rintro e wl ⟨rfl, hbl⟩
          replace hbd := hbd.trans (hbl.mono hbd.size)
          go_wp2
          go_ret
          exact ⟨rfl, hbd⟩

set_option maxRecDepth 100000 in
theorem lifted (os : Os) (started : os.Started) (H : Type) (enc : TypeId × Value → H) :
    ReturnsInHanded {} Try.checked os 6 .any (Rows.deltaMovesSpec.pre6 enc Try.prog Try.f6 Rows.deltaMovesRow.domain false) (Rows.deltaMovesSpec.post enc Try.prog Try.f6 false true false false) := by
  refine returnsInHanded_of_change (C := Try.checked) own started (by kernel_rfl) Try.func6
    (ChangeSpec.witness6 (enc := enc) (C := Try.checked) false ⟨#[], #[.int .u64 0, .slice none 0 0, .int .u64 0], []⟩ 8 (by kernel_rfl) (by kernel_rfl) (by kernel_rfl) (by kernel_rfl)) ?_
  intro W base args ds gs before hval0 hW hcnd _
  have hval : ∀ (j : Nat) t v, Try.f6.params[j]? = some t → args[j]? = some v → Value.okWide Try.prog W .any base t v := hval0
  have hW' := hW
  obtain ⟨p, q, hA0, hV, rfl, hfz, hnd⟩ := hW
  have hA : DataW.TrodAll enc Try.prog W 0 (fun _ => true) true Try.f6.params.toList args.toList ds p := hA0
  rw [Try.params6] at hA hval
  obtain ⟨v0, vs0, d0, ds0, p0, q0, hargs, rfl, rfl, h0, r0⟩ := trodAll_cons hA
  obtain ⟨v1, vs1, d1, ds1, p1, q1, rfl, rfl, rfl, h1, r1⟩ := trodAll_cons r0
  obtain ⟨v2, vs2, d2, ds2, p2, q2, rfl, rfl, rfl, h2, r2⟩ := trodAll_cons r1
  obtain ⟨rfl, rfl, rfl⟩ := trodAll_nil r2
  obtain rfl : args = #[v0, v1, v2] := by cases args; simp_all
  obtain ⟨rfl, rfl⟩ := trodVars_none hV
  have lt0 : ∀ x ∈ p0, x.block < W.heap.size := by obtain ⟨m, hm⟩ := h0; exact DataW.trod_lt m _ _ _ hm
  have lt1 : ∀ x ∈ p1, x.block < W.heap.size := by obtain ⟨m, hm⟩ := h1; exact DataW.trod_lt m _ _ _ hm
  have lt2 : ∀ x ∈ p2, x.block < W.heap.size := by obtain ⟨m, hm⟩ := h2; exact DataW.trod_lt m _ _ _ hm
  clear hA0 hval0
  refine (walk enc W base v0 d0 p0 (hval 0 22 v0 rfl rfl) h0 v1 d1 p1 (hval 1 23 v1 rfl rfl) h1 v2 d2 p2 (hval 2 22 v2 rfl rfl) h2).mono fun e W' ⟨he, bel⟩ => ?_
  subst he
  exact ⟨_, rfl, _, _, _, [], _, [], hW', trodAll_mk1 (shut_bool Try.underlying4 _), (trodAll_cons_mk (Below.trod laidOut (by kernel_rfl) (of_decide_eq_true (by kernel_rfl)) h0 bel lt0) (trodAll_cons_mk (Below.trod laidOut (by kernel_rfl) (of_decide_eq_true (by kernel_rfl)) h1 bel lt1) (trodAll_cons_mk (Below.trod laidOut (by kernel_rfl) (of_decide_eq_true (by kernel_rfl)) h2 bel lt2) trodAll_mk0))), rfl, bel.frame _, fun h => by cases h⟩

theorem over : Rows.deltaMovesRow.holds Try.pinned (OpenSpec.ofChange Rows.deltaMovesSpec) :=
  OpenClaim.holds_of_wide 6 Try.f6 rfl rfl rfl rfl rfl rfl rfl ⟨rfl, rfl, rfl, rfl, rfl⟩ rfl rfl rfl rfl rfl (by kernel_rfl) Try.func6 (by kernel_rfl)
    (of_decide_eq_true (by kernel_rfl)) (by unfold Func.isWrapper; first | (rw [if_pos (by decide +kernel)]; kernel_rfl) | (rw [if_neg (by decide +kernel)]; exact ⟨rfl, rfl⟩))
    (fun os started H enc _ => lifted os started H enc)

/-- THE STATEMENT. -/
theorem proved : Rows.DeltaMovesSaid := over
#print axioms proved
end Go.Proofs.Ytjcoabgcacaceaa.deltaMoves

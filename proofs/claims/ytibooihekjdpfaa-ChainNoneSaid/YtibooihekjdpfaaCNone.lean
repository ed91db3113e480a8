/- ChainNone: called with any bytes and any two ints, the law returns true; no condition. -/
import Derived.Test.YtibooihekjdpfaaRows
import Derived.Test.YtibooihekjdpfaaChnG
import Derived.ProofKit
import Derived.OpenShut
import Derived.ShutString
import Derived.ChangeOld
namespace Go.Proofs.Ytibooihekjdpfaa.chainNone
open Go.ChangeShapes Go.WideShapes Go.ChangeAt Go.RowKit
open Go.ChangeMaps (open_string shut_string)
set_option linter.unusedVariables false

theorem own : ownKnob Try.prog.godebug = none := by kernel_rfl
theorem laidOut : laidOutB Try.prog = true := by kernel_rfl
open Cur Mem


/-- A row of n bytes at block g. -/
def Byts (w : World) (g n : Nat) : Prop := ∃ cur : Array Value, Blk w g cur 5 ∧ ∀ j, j < n → ∃ x : Int, cur[j]? = some (.int .u8 x)
theorem Byts.cell {w : World} {g n : Nat} (h : Byts w g n) {j : Nat} (hj : j < n) : (∃ x : Int, w.cell? ⟨g, j, none⟩ = some (.int .u8 x)) ∧ w.frozen? ⟨g, j, none⟩ = false := by
  obtain ⟨cur, hb, hc⟩ := h
  obtain ⟨x, hx⟩ := hc j hj
  exact ⟨⟨x, hb.cell j hx⟩, hb.free j⟩
theorem Byts.set {w : World} {g n : Nat} (h : Byts w g n) (i : Nat) (y : Int) : Byts (w.setCell ⟨g, i, none⟩ (.int .u8 y)) g n := by
  obtain ⟨cur, hb, hc⟩ := h
  refine ⟨_, hb.set i _, fun j hj => ?_⟩
  obtain ⟨x, hx⟩ := hc j hj
  by_cases e : i = j
  · subst e
    have := (Array.getElem?_eq_some_iff.1 hx).1
    exact ⟨y, by simp [this]⟩
  · exact ⟨x, by rw [Array.getElem?_setIfInBounds_ne e]; exact hx⟩
theorem Byts.of_own {w : World} {B n c g : Nat} {z : List Int} (h : Cur.Own w B (.slice (some ⟨g, 0, none⟩) n c) z) (hz : z.length = n) : Byts w g n := by
  rcases h.2 with ⟨e, _⟩ | ⟨g1, cap, cur, e, _, hh, _⟩
  · cases e
  · injection e with e
    injection e with e
    injection e with e
    subst e
    refine ⟨cur, hh, fun j hj => ⟨z.getD j 0, ?_⟩⟩
    have hc := World.ownsRow.cells h (g := g) rfl j (.int .u8 (z.getD j 0)) (by rw [List.getElem?_map, List.getD_eq_getElem?_getD, List.getElem?_eq_getElem (by omega)]; rfl)
    unfold World.cell? at hc
    have ha : (⟨g, 0, none⟩ : Addr).add j = ⟨g, j, none⟩ := by
      unfold Addr.add
      by_cases h0 : j = 0
      · subst h0; rfl
      · rw [if_neg h0, Nat.zero_add]
    rw [ha] at hc
    simpa [hh] using hc


set_option maxRecDepth 100000 in
set_option maxHeartbeats 8000000 in
theorem walk {H : Type} (enc : TypeId × Value → H) (w : World) (base : Nat) (v0 : Value) (d0 : DataW H) (p0 : List MemPlace) (g0 : Value.okWide Try.prog w .any base 22 v0) (h0 : DataW.Trod enc Try.prog w 0 (fun _ => true) true 22 v0 d0 p0) (v1 : Value) (d1 : DataW H) (p1 : List MemPlace) (g1 : Value.okWide Try.prog w .any base 3 v1) (h1 : DataW.Trod enc Try.prog w 0 (fun _ => true) true 3 v1 d1 p1) (v2 : Value) (d2 : DataW H) (p2 : List MemPlace) (g2 : Value.okWide Try.prog w .any base 3 v2) (h2 : DataW.Trod enc Try.prog w 0 (fun _ => true) true 3 v2 d2 p2) :
    Calls Try.prog 6 #[v0, v1, v2] w fun e w' => e = .returned (.bool true) ∧ Below w.heap.size w w' := by
  obtain ⟨A, n, m, z, rfl, hnm, hz, hby, hAm⟩ := open_bytes g0 h0
  obtain ⟨at_, rfl, hat⟩ := open_i64 g1 h1
  obtain ⟨most, rfl, hmo⟩ := open_i64 g2 h2
  clear g0 h0 g1 h1 g2 h2
  by_cases h300 : 300 < n
  · go_enter Try.func6, Try.ntmps6
    clear hz hby hAm
    go_wp2_with fail
    refine (live13_any _).mono ?_
    rintro e w15 ⟨rfl, hb15⟩
    go_wp2
    go_ret
    exact ⟨rfl, hb15⟩
  · have hn : n ≤ 300 := by omega
    obtain rfl := hz.1
    have HZ := Lib.hid hz
    have HBY := Lib.hid hby
    have HAM := Lib.hid hAm
    clear h300 hz hby hAm
    go_enter Try.func6, Try.ntmps6
    go_wp2_with fail
    refine (chadd_none _).mono ?_
    rintro e w1 ⟨rfl, rfl⟩
    go_wp2_with fail
    refine (chaddto_none at_ _).mono ?_
    rintro e w1 ⟨rfl, rfl⟩
    go_wp2_with fail
    refine (chadded_none _).mono ?_
    rintro e w1 ⟨rfl, rfl⟩
    go_wp2_with fail
    refine (chkeys_none _).mono ?_
    rintro e w1 ⟨rfl, rfl⟩
    go_wp2_with fail
    refine (near_none at_ most _ hat).mono ?_
    rintro e w1 ⟨v1, rfl, ho1, hb1⟩
    obtain ⟨A1, c1, hv1⟩ := ho1.slice
    rw [List.take_nil] at hv1
    subst hv1
    clear ho1
    have hbz := HZ.out.below hb1
    have hbE := below_one w1 (.cells #[] 5)
    have hoE : Cur.Own (w1.alloc (.cells #[] 5)) w1.heap.size (.slice (some ⟨w1.heap.size, 0, none⟩) 0 0) [] := World.ownsRow_made w1 #[] 0 (Nat.le_refl _) (Nat.zero_le _) rfl
    have hbzE := hbz.below hbE
    have hbd := hb1.trans (hbE.mono hb1.size)
    have hB9 : w1.heap.size ≤ (w1.alloc (.cells #[] 5)).heap.size := hbE.size
    have hb1s := hb1.size
    clear hbz hb1 hbE
    go_wp2_with (at_builtin; go_must (refine list_append_bs rfl (.tmp 37) (.tmp 38) rfl w1.heap.size _ [] rfl hoE _ _ _ _ rfl hbzE HAM.out (by simp; omega) hB9 ?_; intro v2 w2 hown hg; rw [List.nil_append] at hown; have HOWN := Lib.hid hown; have HBD2 := Lib.hid (hbd.grown hg (by omega) (fun k hk => by have := own_geg hoE k hk; omega)); clear hown hg hoE hbzE hbd hB9))
    obtain ⟨A2, c2, rfl, _, _⟩ := own_slice HOWN.out
    have hbs2 := HOWN.out.bs.2
    go_wp2_with fail
    refine (chnew_any (m := c2) hbs2 (by omega)).mono ?_
    rintro e w3 ⟨c, mb, A', m', rfl, hc3, hb3⟩
    have hcap : 0 < z.length → ∃ g, A2 = some ⟨g, 0, none⟩ ∧ Byts w3 g z.length := fun h => by
      have ho := own_below HOWN.out hb3
      rcases ho.2 with ⟨e, h0⟩ | ⟨g, cap, cur, e, _⟩
      · omega
      · injection e with e
        subst e
        exact ⟨g, rfl, Byts.of_own ho rfl⟩
    have hge : ∀ k, (Value.slice A2 z.length c2).ownBlock = some k → w1.heap.size ≤ k ∧ k < w2.heap.size := fun k hk => ⟨own_geg HOWN.out k hk, own_ltg HOWN.out k hk⟩
    have HGE := Lib.hid hge
    have HC3 := Lib.hid hc3
    have HB3 := Lib.hid (HBD2.out.trans (hb3.mono HBD2.out.size))
    have HCAP := Lib.hid hcap
    clear hbs2 hc3 hb3 hcap hge
    go_wp2
    go_loopw [10] (fun v wr => ∃ i : Nat, i ≤ z.length ∧ v = .int .i64 i ∧ Ks (fun k => (Value.slice A2 z.length c2).ownBlock = some k) w3 wr ∧ (0 < z.length → ∃ g, A2 = some ⟨g, 0, none⟩ ∧ Byts wr g z.length)) (fun v _ => z.length - (intOf v).toNat)
    case atStart => exact ⟨0, Nat.zero_le _, rfl, Ks.refl _ _, HCAP.out⟩
    case round =>
      obtain ⟨i, hi, rfl, hks, hB⟩ := hrel
      by_cases hlt : i < z.length
      · obtain ⟨g, rfl, hb⟩ := hB (by omega)
        obtain ⟨⟨x, hx⟩, hf⟩ := hb.cell hlt
        have HB := Lib.hid hb
        have HKS := Lib.hid hks
        clear hb hks hB
        go_wp2
        go_roundw
        case rel => exact ⟨i + 1, hlt, by go_num, HKS.out.trans (Ks.setCell _ g i _ rfl), fun _ => ⟨g, rfl, HB.out.set i _⟩⟩
        case measure => simp [intOf]; omega
      · obtain rfl : i = z.length := by omega
        have hc4 := HC3.out.ks hks (fun k hk => ⟨fun h => by have := HC3.out.ge k h; have := HGE.out k hk; omega, fun h => by
          obtain ⟨v, D, _, _, h3, _⟩ := HC3.out
          have := own_geg h3 k h
          have := HGE.out k hk
          omega⟩)
        have hB4 := hks.below HB3.out (Nat.le_refl _) (fun k hk => by have := HGE.out k hk; omega)
        have hT := chaddto_any 300 hc4 HBY.out (by omega) (Nat.le_of_lt (Nat.lt_of_le_of_lt (hc4.ge c (.inl rfl)) hc4.lt))
        unfold ChToPost at hT
        have e300 : tgt 0 z.length 300 = z.length := by unfold tgt; omega
        rw [e300] at hT
        have hs2 := HBD2.out.size
        clear hks hB e300
        go_wp2_with fail
        refine hT.mono ?_
        rintro e w5 ⟨r5, rfl, hc5, hk5, _⟩
        have hB5 := hk5.below hB4 (Nat.le_refl _) (fun k hk => by have := hc4.ge k hk; omega)
        clear hT hk5 hc4 hB4
        go_wp2_with fail
        refine (near_any at_ most hc5 HBY.out (by omega) hat).mono ?_
        rintro e w6 ⟨v6, rfl, ho6, hb6⟩
        have hB6 := hB5.trans (hb6.mono hB5.size)
        clear hb6 hc5 hB5
        go_wp2_with fail
        refine (rnear_any z.length at_ most (HZ.out.below hB6) HBY.out hnm (by omega) (Nat.le_refl _) hat).mono ?_
        rintro e w7 ⟨v7, rfl, ho7, hb7⟩
        have hlen2 : (((nrs z z.length at_).take most.toNat).map fun x : Nat => (x : Int)).length ≤ 100000 := by
          have := nrs_len (z := z) (a := z.length) (i := at_)
          rw [List.length_map, List.length_take]
          omega
        generalize (((nrs z z.length at_).take most.toNat).map fun x : Nat => (x : Int)) = l at *
        obtain ⟨A6, c6, rfl⟩ := ho6.slice
        obtain ⟨A7, c7, rfl⟩ := ho7.slice
        have hr6 := (own_rw (own_below ho6 hb7) rfl).2.2.2
        have hr7 := (own_rw ho7 rfl).2.2.2
        have hB7 := hB6.trans (hb7.mono hB6.size)
        clear hb7 hB6 ho6 ho7
        go_wp2_with fail
        refine (ints_same hr6 hr7 hlen2).mono ?_
        rintro e w8 ⟨rfl, q8, rfl⟩
        have HB8 := Lib.hid (hB7.trans ((below_drewN (Below.refl w7.heap.size w7) q8).mono hB7.size))
        clear hr6 hr7 hlen2 hB7
        generalize w7.drewN q8 = w8 at *
        go_wp2_with fail
        refine (live13_any _).mono ?_
        rintro e w15 ⟨rfl, hb15⟩
        go_wp2
        go_ret
        exact ⟨rfl, HB8.out.trans (hb15.mono HB8.out.size)⟩

set_option maxRecDepth 100000 in
theorem lifted (os : Os) (started : os.Started) (H : Type) (enc : TypeId × Value → H) :
    ReturnsInHanded {} Try.checked os 6 .any (Rows.chainNoneSpec.pre6 enc Try.prog Try.f6 Rows.chainNoneRow.domain false) (Rows.chainNoneSpec.post enc Try.prog Try.f6 false true false false) := by
  refine returnsInHanded_of_change (C := Try.checked) own started (by kernel_rfl) Try.func6
    (ChangeSpec.witness6 (enc := enc) (C := Try.checked) false ⟨#[], #[.slice none 0 0, .int .i64 0, .int .i64 0], []⟩ 8 (by kernel_rfl) (by kernel_rfl) (by kernel_rfl) (by kernel_rfl)) ?_
  intro W base args ds gs before hval0 hW hcnd _
  have hval : ∀ (j : Nat) t v, Try.f6.params[j]? = some t → args[j]? = some v → Value.okWide Try.prog W .any base t v := hval0
  have hW' := hW
  obtain ⟨p, q, hA0, hV, rfl, hfz, hnd⟩ := hW
  have hA : DataW.TrodAll enc Try.prog W 0 (fun _ => true) true Try.f6.params.toList args.toList ds p := hA0
  rw [Try.params6] at hA hval
  obtain ⟨v0, vs0, d0, ds0, p0, q0, hargs, rfl, rfl, h0, r0⟩ := trodAll_cons hA
  obtain ⟨v1, vs1, d1, ds1, p1, q1, rfl, rfl, rfl, h1, r1⟩ := trodAll_cons r0
  obtain ⟨v2, vs2, d2, ds2, p2, q2, rfl, rfl, rfl, h2, r2⟩ := trodAll_cons r1
  obtain ⟨rfl, rfl, rfl⟩ := trodAll_nil r2
  obtain rfl : args = #[v0, v1, v2] := by cases args; simp_all
  obtain ⟨rfl, rfl⟩ := trodVars_none hV
  have lt0 : ∀ x ∈ p0, x.block < W.heap.size := by obtain ⟨m, hm⟩ := h0; exact DataW.trod_lt m _ _ _ hm
  have lt1 : ∀ x ∈ p1, x.block < W.heap.size := by obtain ⟨m, hm⟩ := h1; exact DataW.trod_lt m _ _ _ hm
  have lt2 : ∀ x ∈ p2, x.block < W.heap.size := by obtain ⟨m, hm⟩ := h2; exact DataW.trod_lt m _ _ _ hm
  clear hA0 hval0
  refine (walk enc W base v0 d0 p0 (hval 0 22 v0 rfl rfl) h0 v1 d1 p1 (hval 1 3 v1 rfl rfl) h1 v2 d2 p2 (hval 2 3 v2 rfl rfl) h2).mono fun e W' ⟨he, bel⟩ => ?_
  subst he
  exact ⟨_, rfl, _, _, _, [], _, [], hW', trodAll_mk1 (shut_bool Try.underlying4 _), (trodAll_cons_mk (Below.trod laidOut (by kernel_rfl) (of_decide_eq_true (by kernel_rfl)) h0 bel lt0) (trodAll_cons_mk (Below.trod laidOut (by kernel_rfl) (of_decide_eq_true (by kernel_rfl)) h1 bel lt1) (trodAll_cons_mk (Below.trod laidOut (by kernel_rfl) (of_decide_eq_true (by kernel_rfl)) h2 bel lt2) trodAll_mk0))), rfl, bel.frame _, fun h => by cases h⟩

theorem over : Rows.chainNoneRow.holds Try.pinned (OpenSpec.ofChange Rows.chainNoneSpec) :=
  OpenClaim.holds_of_wide 6 Try.f6 rfl rfl rfl rfl rfl rfl rfl ⟨rfl, rfl, rfl, rfl, rfl⟩ rfl rfl rfl rfl rfl (by kernel_rfl) Try.func6 (by kernel_rfl)
    (of_decide_eq_true (by kernel_rfl)) (by unfold Func.isWrapper; first | (rw [if_pos (by decide +kernel)]; kernel_rfl) | (rw [if_neg (by decide +kernel)]; exact ⟨rfl, rfl⟩))
    (fun os started H enc _ => lifted os started H enc)

/-- THE STATEMENT. -/
theorem proved : Rows.ChainNoneSaid := over
#print axioms proved
end Go.Proofs.Ytibooihekjdpfaa.chainNone

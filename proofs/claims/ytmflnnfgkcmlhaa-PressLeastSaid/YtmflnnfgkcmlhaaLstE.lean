/- The least tokens: how the document reckons. -/
import Derived.Test.YtmflnnfgkcmlhaaLstA
import Derived.Test.YtmflnnfgkcmlhaaK12
import Derived.Test.YtmflnnfgkcmlhaaK15
import Derived.Deep.Cut
namespace Go.Proofs.Ytmflnnfgkcmlhaa.Cur
open Go.RowKit Go.Shelf Mem
attribute [local go_sem] Oper.semAt_some
set_option linter.unusedVariables false
set_option maxRecDepth 100000


theorem tb_cell' {w : World} {g K t : Nat} {f : Nat → Int} (h : Blk w g (tbc K f) t) {i : Nat} (hi : i < K) : w.cell? ⟨g, i, none⟩ = some (.int .i64 (f i)) := h.cell i (tbc_get hi)
theorem od_bd {z : List Int} {f : Nat → Int} {a : Nat} (hf : ∀ i, 0 ≤ f i) : ∀ j, 0 ≤ od z f a j ∧ od z f a j ≤ 1000000
  | 0 => by show (0 : Int) ≤ 1000000 ∧ (1000000 : Int) ≤ 1000000; omega
  | j + 1 => by
    obtain ⟨h1, h2⟩ := od_bd (z := z) (a := a) hf j
    have := mn_le_b (fun n => 2 + f (a + n)) 4 (mt z a (a - (j + 1)) - 3) (od z f a j)
    rw [od]
    exact ⟨le_mn h1 fun i _ => by have := hf (a + (4 + i)); omega, by omega⟩
theorem dtb_bd {z : List Int} : ∀ k i, (0 ≤ (dtb z k).1 i ∧ (dtb z k).1 i ≤ 1000000) ∧ (0 ≤ (dtb z k).2 i ∧ (dtb z k).2 i ≤ 1000000)
  | 0, i => by show ((0 : Int) ≤ 0 ∧ (0 : Int) ≤ 1000000) ∧ ((0 : Int) ≤ 0 ∧ (0 : Int) ≤ 1000000); omega
  | k + 1, i => by
    have ih := dtb_bd (z := z) k
    have ho := od_bd (z := z) (f := (dtb z k).1) (a := z.length - (k + 1)) (fun i => (ih i).1.1) (z.length - (k + 1))
    have hm : 0 ≤ mn (fun n => ((n : Int) + 1) + (dtb z k).2 (z.length - (k + 1) + n)) 1 (k + 1) (od z (dtb z k).1 (z.length - (k + 1)) (z.length - (k + 1))) := le_mn ho.1 fun i _ => by have := (ih (z.length - (k + 1) + (1 + i))).2.1; omega
    have hm2 := mn_le_b (fun n => ((n : Int) + 1) + (dtb z k).2 (z.length - (k + 1) + n)) 1 (k + 1) (od z (dtb z k).1 (z.length - (k + 1)) (z.length - (k + 1)))
    rw [dtb]
    unfold upd
    dsimp only
    constructor
    · split
      · omega
      · exact (ih i).1
    · split
      · exact ho
      · exact (ih i).2
/-- In how many bytes a copy, a run is written. -/
theorem one_copy {o l : Int} (h1 : 1 ≤ o) (h2 : o ≤ 60) (h3 : 4 ≤ l) (h4 : l ≤ 60) : tright ([], o, l) = true ∧ (tbs [([], o, l)] 1).length = 2 := by
  have hr : trun 0 o l = false := by unfold trun; exact decide_eq_false (fun h => by omega)
  refine ⟨by unfold tright tcpy; rw [Bool.or_eq_true]; right; simp; omega, ?_⟩
  have := tbs_succ (T := [([], o, l)]) (k := 0) (by simp)
  rw [show (0 : Nat) + 1 = 1 from rfl] at this
  rw [this, tbs_zero]
  show ([] ++ tby ([], o, l)).length = 2
  unfold tby
  rw [show trun ([] : List Int).length o l = false from hr]
  simp only [List.nil_append]
  rw [if_neg (by simp), List.length_append, vz_length, vz_length, vsz_small (by omega), vsz_small (by omega)]
theorem one_run {y : List Int} (h1 : 1 ≤ y.length) (h2 : y.length ≤ 60) : tright (y, 0, 0) = true ∧ (tbs [(y, 0, 0)] 1).length = y.length + 1 := by
  have hr : trun y.length 0 0 = true := by unfold trun; exact decide_eq_true ⟨rfl, rfl, by omega, by omega⟩
  refine ⟨by unfold tright; rw [Bool.or_eq_true]; left; exact hr, ?_⟩
  have := tbs_succ (T := [(y, 0, 0)]) (k := 0) (by simp)
  rw [show (0 : Nat) + 1 = 1 from rfl] at this
  rw [this, tbs_zero]
  show ([] ++ tby (y, 0, 0)).length = _
  unfold tby
  rw [show trun y.length 0 0 = true from hr]
  rw [if_pos rfl, List.nil_append, List.length_append, vz_length]
  show vsz (2 * (y.length : Int) - 2) + y.length = _
  rw [vsz_small (by omega)]
  omega

/-- Bytes of one token, by the document. -/
theorem rone_any {w : World} {g : Nat} {Ar : Option Addr} {Lr Cr : Nat} {y : List Int} {o l : Int} (h : Blk w g #[.slice Ar Lr Cr, .int .i64 o, .int .i64 l] 33) (hy : Bs w Ar Lr y) (hA : Ar = none → Cr = 0) (hL : Lr ≤ Cr) (hr : tright (y, o, l) = true) (hs : (tbs [(y, o, l)] 1).length ≤ 700000) :
    Calls Try.prog 16 #[.slice (some ⟨g, 0, none⟩) 1 1] w (RowPost (tbs [(y, o, l)] 1) w) := by
  refine rtbytes_any _ 1 1 [(y, o, l)] w ⟨rfl, fun i hi => ?_⟩ (fun i hi => ?_) (by omega) hs
  · obtain rfl : i = 0 := by omega
    obtain ⟨c0, c1, c2⟩ := h.c3
    exact ⟨g, 0, Ar, Lr, Cr, rfl, ⟨c0, c1, c2, hy⟩, hA, hL⟩
  · obtain rfl : i = 0 := by omega
    exact hr

set_option maxHeartbeats 8000000 in
theorem rleast_any {w : World} {A : Option Addr} {n m : Nat} {z : List Int} (hz : Bs w A n z) (hA : A = none → m = 0) (hby : ∀ x ∈ z, 0 ≤ x ∧ x < 256) (hm : n ≤ m) (hn : n ≤ 60) :
    Calls Try.prog 27 #[.slice A n m] w fun e w' => e = .returned (.int .i64 (fre z 0)) ∧ Below w.heap.size w w' := by
  have hzl := hz.1
  obtain ⟨K, hK⟩ : ∃ K, K = n + 1 := ⟨_, rfl⟩
  have hmk : ∀ w', (Instr.makeSlice 72 (.int .i64 ((n : Int) + 1)) (.int .i64 ((n : Int) + 1))).run Try.prog w' = .ok (.slice (some ⟨w'.heap.size, 0, none⟩) K K) (w'.alloc (.cells (tbc K (fun _ => 0)) 3)) := fun w' => by
    rw [show ((n : Int) + 1) = (K : Int) by omega]
    have hinfo : (Try.prog.info? 3).map (fun i => (i.zero, i.size, i.bytes)) = some (some (.int .i64 0), 1, 8) := by kernel_rfl
    obtain ⟨i, h1, hzz⟩ := Option.map_eq_some_iff.1 hinfo
    simp only [Prod.mk.injEq] at hzz
    obtain ⟨h2, h3, h4⟩ := hzz
    have hr := Go.run_make (P := Try.prog) w' 72 3 i _ Try.underlying72 h1 h2 .i64 .i64 K K (by omega) (Int.le_refl _) (by rw [h4]; omega) (by omega)
    simp only [Int.toNat_natCast, h3, Nat.mul_one] at hr
    rw [hr, ← tbc_made]
    rfl
  have e2 : IntKind.i64.wrap ((n : Int) - 1) = (n : Int) - 1 := IntWalk.i64_in _ (by omega)
  have HZ := Lib.hid hz
  have HBY := Lib.hid hby
  have HA := Lib.hid hA
  have HK := Lib.hid hK
  obtain ⟨x0, hx0⟩ : ∃ x0, x0 = w.heap.size := ⟨_, rfl⟩
  clear hz hby hA hK
  go_enter Try.func27, Try.ntmps27
  go_wp2
  have hb2 := below_two w (.cells (tbc K (fun _ => 0)) 3) (.cells (tbc K (fun _ => 0)) 3)
  have hN2 := Blk.new (w.alloc (.cells (tbc K (fun _ => 0)) 3)) (tbc K (fun _ => 0)) 3
  rw [World.size_alloc] at hN2
  have hN1 := (Blk.new w (tbc K (fun _ => 0)) 3).alloc (.cells (tbc K (fun _ => 0)) 3)
  clear hmk
  go_loopw [5] (fun i wr => ∃ k : Nat, k ≤ n ∧ i = .int .i64 ((n : Int) - 1 - (k : Int)) ∧ Blk wr w.heap.size (tbc K (dtb z k).1) 3 ∧ Blk wr (w.heap.size + 1) (tbc K (dtb z k).2) 3 ∧ Below w.heap.size w wr) (fun i _ => (intOf i + 1).toNat)
  case atStart => exact ⟨0, by omega, by simp, hN1, hN2, hb2⟩
  case round =>
    clear hN1 hN2 hb2
    obtain ⟨k, hk, rfl, hF, hR, hbd⟩ := hrel
    by_cases hlt : k < n
    · obtain ⟨a, hae⟩ : ∃ a : Nat, a = n - (k + 1) := ⟨_, rfl⟩
      have ei : (n : Int) - 1 - (k : Int) = (a : Int) := by omega
      have han : a < n := by omega
      have haK : a < K := by have := HK.out; omega
      have hge : (0 : Int) ≤ (a : Int) := by omega
      have ew : IntKind.i64.wrap ((a : Int) - 1) = (n : Int) - 1 - ((k + 1 : Nat) : Int) := (IntWalk.i64_in _ (by omega)).trans (by omega)
      rw [ei]
      have hbd0 := dtb_bd (z := z) k
      have HE : Hid ((dtb z (k + 1)).1 = upd (dtb z k).1 a (mn (fun n => ((n : Int) + 1) + (dtb z k).2 (a + n)) 1 (n - a) (od z (dtb z k).1 a a)) ∧ (dtb z (k + 1)).2 = upd (dtb z k).2 a (od z (dtb z k).1 a a)) := Lib.hid (by
        rw [dtb, hzl, ← hae, show k + 1 = n - a by omega]
        exact ⟨rfl, rfl⟩)
      obtain ⟨f, hf⟩ : ∃ f, f = (dtb z k).1 := ⟨_, rfl⟩
      obtain ⟨r, hr⟩ : ∃ r, r = (dtb z k).2 := ⟨_, rfl⟩
      rw [← hf] at hF hbd0 HE
      rw [← hr] at hR hbd0 HE
      have HB0 := Lib.hid hbd0
      have HOD := Lib.hid (od_bd (z := z) (f := f) (a := a) (fun i => (hbd0 i).1.1))
      have HAE := Lib.hid hae
      clear hf hr hbd0 hae ei
      go_wp2
      go_loopw [6, 7] (fun b o wr => ∃ j : Nat, j ≤ a ∧ b = .int .i64 (od z f a j) ∧ o = .int .i64 ((j + 1 : Nat) : Int) ∧ Blk wr w.heap.size (tbc K f) 3 ∧ Blk wr (w.heap.size + 1) (tbc K r) 3 ∧ Below w.heap.size w wr) (fun _ o _ => a + 2 - (intOf o).toNat)
      case atStart => exact ⟨0, by omega, rfl, rfl, hF, hR, hbd⟩
      case round =>
        clear hF hR hbd
        obtain ⟨j, hj, rfl, rfl, hF, hR, hbd⟩ := hrel
        by_cases hlt2 : j < a
        · have b1 : ((j + 1 : Nat) : Int) ≤ (a : Int) := by omega
          obtain ⟨o, ho⟩ : ∃ o, o = j + 1 := ⟨_, rfl⟩
          have HOE := Lib.hid (show od z f a o = mn (fun n => 2 + f (a + n)) 4 (mt z a (a - o) - 3) (od z f a j) by rw [ho, od])
          have hmt := mt_le z a (a - o)
          rw [hzl] at hmt
          have hob := HOD.out j
          obtain ⟨b, hb⟩ : ∃ b, b = od z f a j := ⟨_, rfl⟩
          rw [← hb] at HOE hob ⊢
          have HB := Lib.hid hb
          rw [← ho] at b1 ⊢
          have eo : IntKind.i64.wrap ((o : Int) + 1) = ((o + 1 : Nat) : Int) := (IntWalk.i64_in _ (by omega)).trans (by omega)
          have ho1 : 1 ≤ o ∧ o ≤ 60 := by omega
          have hM := fun W (h : Below w.heap.size w W) => (show Calls Try.prog 50 #[.slice A n m, .int .i64 (a : Int), .int .i64 (o : Int)] W (fun e w' => e = .returned (.int .i64 (mt z a (a - o) : Nat)) ∧ ∃ q, w' = W.drewN q) by
            have := rmatch_any (w := W) (m := m) (a : Int) (o : Int) (HZ.out.below h) HBY.out hm (by omega)
            unfold MatchPost at this
            rw [ho, mv_nat hlt2 (by omega), ← ho] at this
            exact this)
          obtain ⟨M, hMM⟩ : ∃ M, M = mt z a (a - o) := ⟨_, rfl⟩
          rw [← hMM] at HOE hmt hM
          have HM := Lib.hid hM
          have HO := Lib.hid ho
          clear hM hMM hb ho
          go_wp2
          go_loopw [6, 8] (fun u v' wr => ∃ v : Nat, v' = .int .i64 (v : Int) ∧ 4 ≤ v ∧ v ≤ M - 3 + 4 ∧ u = .int .i64 (mn (fun n => 2 + f (a + n)) 4 (v - 4) b) ∧ Blk wr w.heap.size (tbc K f) 3 ∧ Blk wr (w.heap.size + 1) (tbc K r) 3 ∧ Below w.heap.size w wr) (fun _ v _ => M + 5 - (intOf v).toNat)
          case atStart => exact ⟨4, rfl, by omega, by omega, rfl, hF, hR, hbd⟩
          case round =>
            clear hF hR hbd
            obtain ⟨v, rfl, hv1, hv2, rfl, hF, hR, hbd⟩ := hrel
            go_wp2_with fail
            refine (HM.out _ hbd).mono ?_
            rintro e w2 ⟨rfl, q, rfl⟩
            replace hF : Blk (wr.drewN q) w.heap.size (tbc K f) 3 := hF
            replace hR : Blk (wr.drewN q) (w.heap.size + 1) (tbc K r) 3 := hR
            replace hbd := Kp.below hbd (Nat.le_refl _) (show Kp w.heap.size wr (wr.drewN q) from Kp.drewN _ _ _) (Nat.le_refl _)
            generalize wr.drewN q = wr at *
            by_cases hlt3 : v ≤ M
            · obtain ⟨ix, hix⟩ : ∃ ix, ix = a + v := ⟨_, rfl⟩
              have hix2 : ix < K := by have := HK.out; omega
              have e1 : IntKind.i64.wrap ((a : Int) + (v : Int)) = (ix : Int) := (IntWalk.i64_in _ (by omega)).trans (by omega)
              have e3 : IntKind.i64.wrap ((v : Int) + 1) = ((v + 1 : Nat) : Int) := (IntWalk.i64_in _ (by omega)).trans (by omega)
              have hX := tb_cell' hF (i := ix) hix2
              have hxb := (HB0.out ix).1
              obtain ⟨x, hx⟩ : ∃ x, x = f ix := ⟨_, rfl⟩
              rw [← hx] at hX hxb
              have e4 : IntKind.i64.wrap (2 + x) = 2 + x := IntWalk.i64_in _ (by omega)
              obtain ⟨U, hU⟩ : ∃ U, U = mn (fun n => 2 + f (a + n)) 4 (v - 4) b := ⟨_, rfl⟩
              have hstep : mn (fun n => 2 + f (a + n)) 4 (v + 1 - 4) b = min U (2 + x) := by
                rw [show v + 1 - 4 = (v - 4) + 1 by omega, mn, ← hU, hx, hix, show a + (4 + (v - 4)) = a + v by omega]
              rw [← hU]
              have HST := Lib.hid hstep
              have ho1' : 1 ≤ (o : Int) ∧ (o : Int) ≤ 60 := by omega
              obtain ⟨hor, hol⟩ := one_copy (o := (o : Int)) (l := (v : Int)) (by omega) (by omega) (by omega) (by omega)
              clear hstep hU hx hix
              go_upto_region 13 with (fail)
              have HF := Lib.hid hF
              have HR := Lib.hid hR
              have HBD := Lib.hid hbd
              have hS : wr.drew.cell? ⟨w.heap.size, ix, none⟩ = some (.int .i64 x) := hX
              have HX := Lib.hid hX
              have L : ∀ w' : World, w'.cell? ⟨w.heap.size, ix, none⟩ = some (.int .i64 x) → w'.cell? ⟨w.heap.size, ix, none⟩ = some (.int .i64 x) := fun w' h => h
              clear hF hR hbd hX
              refine Seq.wp_region_seq (fun w' => w'.cell? ⟨w.heap.size, ix, none⟩ = some (.int .i64 x)) (by kernel_rfl) (by kernel_rfl) hS ?_
              repeat (first | (refine Seq.Seq.skip (by rfl) ?_; (try simp only [Act.put, List.setIfInBounds_toArray, List.set_cons_zero, List.set_cons_succ])) | (refine Seq.Seq.det ?_ (by rfl) (fun w hS => ?_) ?_; rotate_left; ((try dsimp only at hS); go_simp; (try rw [if_pos (by omega)]); with_reducible rfl); (try simp only [Act.put, List.setIfInBounds_toArray, List.set_cons_zero, List.set_cons_succ])))
              refine Seq.Seq.make (by rfl) (by rfl) (fun K Q' hK => ?_)
              go_simp
              have hA1 : Below wr.heap.size wr (wr.alloc (.cells #[.slice none 0 0, .int .i64 (o : Int), .int .i64 (v : Int)] 33)).drew := (below_one' wr).alloc (Nat.le_refl _) (.cells #[.slice none 0 0, .int .i64 (o : Int), .int .i64 (v : Int)] 33)
              have hT : Blk (wr.alloc (.cells #[.slice none 0 0, .int .i64 (o : Int), .int .i64 (v : Int)] 33)).drew wr.heap.size #[.slice none 0 0, .int .i64 (o : Int), .int .i64 (v : Int)] 33 := Blk.new wr _ _
              have hSA : (wr.alloc (.cells #[.slice none 0 0, .int .i64 (o : Int), .int .i64 (v : Int)] 33)).drew.cell? ⟨w.heap.size, ix, none⟩ = some (.int .i64 x) := (hA1.cell (lt_of_cell HX.out)).trans HX.out
              refine hK.out _ _ (hSA) ?_
              clear hK K
              try simp only [Act.put, List.setIfInBounds_toArray, List.set_cons_zero, List.set_cons_succ]
              repeat (first | (refine Seq.Seq.skip (by rfl) ?_; (try simp only [Act.put, List.setIfInBounds_toArray, List.set_cons_zero, List.set_cons_succ])) | (refine Seq.Seq.det ?_ (by rfl) (fun w hS => ?_) ?_; rotate_left; ((try dsimp only at hS); go_simp; (try rw [if_pos (by omega)]); with_reducible rfl); (try simp only [Act.put, List.setIfInBounds_toArray, List.set_cons_zero, List.set_cons_succ])))
              refine Seq.Seq.make (by rfl) (by rfl) (fun K Q' hK => ?_)
              go_simp
              go_at_call 16
              refine (rone_any hT (Bs.none _) (fun _ => rfl) (Nat.le_refl _) hor (by omega)).mono ?_
              rintro e w3 ⟨A3, m3, rfl, hb3, _⟩
              rw [hol]
              have hS3 : w3.cell? ⟨w.heap.size, ix, none⟩ = some (.int .i64 x) := (hb3.cell (lt_of_cell hSA)).trans hSA
              have hbw := hA1.trans (hb3.mono hA1.size)
              have HF3 := Lib.hid (HF.out.below hbw)
              have HR3 := Lib.hid (HR.out.below hbw)
              have HBD3 := Lib.hid (HBD.out.trans (hbw.mono HBD.out.size))
              clear hb3 hA1 hT hSA hbw HF HR HBD HX
              refine hK.out _ _ (hS3) ?_
              clear hK K
              try simp only [Act.put, List.setIfInBounds_toArray, List.set_cons_zero, List.set_cons_succ]
              repeat (first | (refine Seq.Seq.skip (by rfl) ?_; (try simp only [Act.put, List.setIfInBounds_toArray, List.set_cons_zero, List.set_cons_succ])) | (refine Seq.Seq.det ?_ (by rfl) (fun w hS => ?_) ?_; rotate_left; ((try dsimp only at hS); go_simp; (try rw [if_pos (by omega)]); with_reducible rfl); (try simp only [Act.put, List.setIfInBounds_toArray, List.set_cons_zero, List.set_cons_succ])))
              refine Seq.Seq.nil ?_
              clear L hS hS3
              go_wp2
              go_roundw
              case rel => exact ⟨v + 1, rfl, by omega, by omega, by rw [HST.out], HF3.out, HR3.out, HBD3.out⟩
              case measure => simp [intOf]; omega
            · have hve : v - 4 = M - 3 := by omega
              have hle : ¬ (v : Int) ≤ (M : Int) := by omega
              rw [hve, ← HOE.out]
              obtain ⟨b', hb'⟩ : ∃ b', b' = od z f a o := ⟨_, rfl⟩
              rw [← hb']
              have HB' := Lib.hid hb'
              have HF := Lib.hid hF
              have HR := Lib.hid hR
              have HBD := Lib.hid hbd
              clear hF hR hbd hb' HM
              go_wp2
              go_roundw
              case rel => exact ⟨o, by omega, by rw [HB'.out], rfl, HF.out, HR.out, HBD.out⟩
              case measure => simp [intOf]; omega
        · obtain rfl : j = a := by omega
          have b1 : ¬ ((j + 1 : Nat) : Int) ≤ (j : Int) := by omega
          have b1' : ¬ (j + 1 ≤ j) := by omega
          obtain ⟨b, hb⟩ : ∃ b, b = od z f j j := ⟨_, rfl⟩
          have hob := HOD.out j
          rw [← hb] at HE hob ⊢
          have HB := Lib.hid hb
          have u0 := hR.free j
          have v0 := tb_cell' hR (i := j) haK
          have hR2 := hR.set j (.int .i64 b)
          rw [tbc_set] at hR2
          have hF2 := hF.far (g := w.heap.size + 1) j (.int .i64 b) (by omega)
          have hbd2 := hbd.setCell (p := ⟨w.heap.size + 1, j, none⟩) (Nat.le_succ _) (.int .i64 b)
          clear hR hF hbd hb HOD
          go_upto_region 15 with (fail)
          generalize wr.setCell ⟨w.heap.size + 1, j, none⟩ (.int .i64 b) = wr2 at *
          clear u0 v0
          obtain ⟨r2, hr2⟩ : ∃ r2, r2 = upd r j b := ⟨_, rfl⟩
          rw [← hr2] at HE hR2
          have HR2 := Lib.hid hr2
          clear hr2
          go_wp2
          go_loopw [6, 9] (fun u v' wr => ∃ v : Nat, v' = .int .i64 (v : Int) ∧ 1 ≤ v ∧ v ≤ n - j + 1 ∧ u = .int .i64 (mn (fun n => ((n : Int) + 1) + r (j + n)) 1 (v - 1) b) ∧ Blk wr w.heap.size (tbc K f) 3 ∧ Blk wr (w.heap.size + 1) (tbc K r2) 3 ∧ Below w.heap.size w wr) (fun _ v _ => n + 5 - (intOf v).toNat)
          case atStart => exact ⟨1, rfl, by omega, by omega, rfl, hF2, hR2, hbd2⟩
          case round =>
            clear hF2 hR2 hbd2
            obtain ⟨v, rfl, hv1, hv2, rfl, hF, hR, hbd⟩ := hrel
            obtain ⟨U, hU⟩ : ∃ U, U = mn (fun n => ((n : Int) + 1) + r (j + n)) 1 (v - 1) b := ⟨_, rfl⟩
            rw [← hU]
            obtain ⟨ix, hix⟩ : ∃ ix, ix = j + v := ⟨_, rfl⟩
            have e1 : IntKind.i64.wrap ((j : Int) + (v : Int)) = (ix : Int) := (IntWalk.i64_in _ (by omega)).trans (by omega)
            by_cases hlt3 : v ≤ n - j
            · have hixn : ix ≤ n := by omega
              have hixn' : (ix : Int) ≤ (n : Int) := by omega
              have hix2 : ix < K := by have := HK.out; omega
              have e3 : IntKind.i64.wrap ((v : Int) + 1) = ((v + 1 : Nat) : Int) := (IntWalk.i64_in _ (by omega)).trans (by omega)
              have hX := tb_cell' hR (i := ix) hix2
              have hxr : r2 ix = r ix := by rw [HR2.out]; exact upd_ne _ _ (by omega)
              rw [hxr] at hX
              have hxb := (HB0.out ix).2
              obtain ⟨x, hx⟩ : ∃ x, x = r ix := ⟨_, rfl⟩
              rw [← hx] at hX hxb
              have e4 : IntKind.i64.wrap ((v : Int) + 1 + x) = (v : Int) + 1 + x := IntWalk.i64_in _ (by omega)
              have hstep : mn (fun n => ((n : Int) + 1) + r (j + n)) 1 (v + 1 - 1) b = min U ((v : Int) + 1 + x) := by
                rw [show v + 1 - 1 = (v - 1) + 1 by omega, mn, ← hU, hx, hix, show 1 + (v - 1) = v by omega]
              have HST := Lib.hid hstep
              obtain ⟨A', M, hsl, hbs, hML, hMA⟩ := slice_lh (HZ.out.below hbd) m (j : Int) (ix : Int) (by omega) (by omega) (by omega) hm
              have hyl : ((ix : Int) - (j : Int)).toNat = v := by omega
              rw [hyl] at hsl hbs hML
              have hnil : A' = none → M = 0 := fun h => by
                obtain ⟨h1, h2⟩ := hMA h
                have := HA.out h1
                omega
              obtain ⟨y, hy⟩ : ∃ y, y = piece z ((j : Int).toNat) ((ix : Int).toNat) := ⟨_, rfl⟩
              rw [← hy] at hbs
              have hyl2 := hbs.1
              obtain ⟨hor, hol⟩ := one_run (y := y) (by omega) (by omega)
              rw [hyl2] at hol
              have HNIL := Lib.hid hnil
              clear hstep hU hx hix hxr hy hMA hnil hyl
              go_upto_region 18 with (fail)
              have HF := Lib.hid hF
              have HR := Lib.hid hR
              have HBD := Lib.hid hbd
              have HBS := Lib.hid hbs
              have hS : wr.drew.cell? ⟨w.heap.size + 1, ix, none⟩ = some (.int .i64 x) := hX
              have HX := Lib.hid hX
              have L : ∀ w' : World, w'.cell? ⟨w.heap.size + 1, ix, none⟩ = some (.int .i64 x) → w'.cell? ⟨w.heap.size + 1, ix, none⟩ = some (.int .i64 x) := fun w' h => h
              clear hF hR hbd hX hbs
              refine Seq.wp_region_seq (fun w' => w'.cell? ⟨w.heap.size + 1, ix, none⟩ = some (.int .i64 x)) (by kernel_rfl) (by kernel_rfl) hS ?_
              repeat (first | (refine Seq.Seq.skip (by rfl) ?_; (try simp only [Act.put, List.setIfInBounds_toArray, List.set_cons_zero, List.set_cons_succ])) | (refine Seq.Seq.det ?_ (by rfl) (fun w hS => ?_) ?_; rotate_left; ((try dsimp only at hS); go_simp; (try rw [if_pos (by omega)]); with_reducible rfl); (try simp only [Act.put, List.setIfInBounds_toArray, List.set_cons_zero, List.set_cons_succ])))
              refine Seq.Seq.make (by rfl) (by rfl) (fun K Q' hK => ?_)
              go_simp
              have hA1 : Below wr.heap.size wr (wr.alloc (.cells #[.slice A' v M, .int .i64 0, .int .i64 0] 33)).drew := (below_one' wr).alloc (Nat.le_refl _) (.cells #[.slice A' v M, .int .i64 0, .int .i64 0] 33)
              have hT : Blk (wr.alloc (.cells #[.slice A' v M, .int .i64 0, .int .i64 0] 33)).drew wr.heap.size #[.slice A' v M, .int .i64 0, .int .i64 0] 33 := Blk.new wr _ _
              have hSA : (wr.alloc (.cells #[.slice A' v M, .int .i64 0, .int .i64 0] 33)).drew.cell? ⟨w.heap.size + 1, ix, none⟩ = some (.int .i64 x) := (hA1.cell (lt_of_cell HX.out)).trans HX.out
              refine hK.out _ _ (hSA) ?_
              clear hK K
              try simp only [Act.put, List.setIfInBounds_toArray, List.set_cons_zero, List.set_cons_succ]
              repeat (first | (refine Seq.Seq.skip (by rfl) ?_; (try simp only [Act.put, List.setIfInBounds_toArray, List.set_cons_zero, List.set_cons_succ])) | (refine Seq.Seq.det ?_ (by rfl) (fun w hS => ?_) ?_; rotate_left; ((try dsimp only at hS); go_simp; (try rw [if_pos (by omega)]); with_reducible rfl); (try simp only [Act.put, List.setIfInBounds_toArray, List.set_cons_zero, List.set_cons_succ])))
              refine Seq.Seq.make (by rfl) (by rfl) (fun K Q' hK => ?_)
              go_simp
              go_at_call 16
              refine (rone_any hT (HBS.out.below hA1) HNIL.out hML hor (by omega)).mono ?_
              rintro e w3 ⟨A3, m3, rfl, hb3, _⟩
              rw [hol]
              have hS3 : w3.cell? ⟨w.heap.size + 1, ix, none⟩ = some (.int .i64 x) := (hb3.cell (lt_of_cell hSA)).trans hSA
              have hbw := hA1.trans (hb3.mono hA1.size)
              have HF3 := Lib.hid (HF.out.below hbw)
              have HR3 := Lib.hid (HR.out.below hbw)
              have HBD3 := Lib.hid (HBD.out.trans (hbw.mono HBD.out.size))
              clear hb3 hA1 hT hSA hbw HF HR HBD HX
              refine hK.out _ _ (hS3) ?_
              clear hK K
              try simp only [Act.put, List.setIfInBounds_toArray, List.set_cons_zero, List.set_cons_succ]
              repeat (first | (refine Seq.Seq.skip (by rfl) ?_; (try simp only [Act.put, List.setIfInBounds_toArray, List.set_cons_zero, List.set_cons_succ])) | (refine Seq.Seq.det ?_ (by rfl) (fun w hS => ?_) ?_; rotate_left; ((try dsimp only at hS); go_simp; (try rw [if_pos (by omega)]); with_reducible rfl); (try simp only [Act.put, List.setIfInBounds_toArray, List.set_cons_zero, List.set_cons_succ])))
              refine Seq.Seq.nil ?_
              clear L hS hS3 hsl
              go_wp2
              go_roundw
              case rel => exact ⟨v + 1, rfl, by omega, by omega, by rw [HST.out], HF3.out, HR3.out, HBD3.out⟩
              case measure => simp [intOf]; omega
            · have hve : v - 1 = n - j := by omega
              have hle : ¬ (ix : Int) ≤ (n : Int) := by omega
              have hle' : ¬ ix ≤ n := by omega
              rw [hve] at hU
              have u0 := hF.free j
              have v0 := tb_cell' hF (i := j) haK
              have hF2 := hF.set j (.int .i64 U)
              rw [tbc_set] at hF2
              have hR2 := hR.far (g := w.heap.size) j (.int .i64 U) (by omega)
              have hbd2 := hbd.setCell (p := ⟨w.heap.size, j, none⟩) (Nat.le_refl _) (.int .i64 U)
              have HU := Lib.hid hU
              clear hF hR hbd hU
              go_upto_region 5 with (fail)
              generalize wr.setCell ⟨w.heap.size, j, none⟩ (.int .i64 U) = wr3 at *
              have HF4 : Hid (Blk wr3 w.heap.size (tbc K (dtb z (k + 1)).1) 3) := Lib.hid (by rw [HE.out.1, ← HU.out]; exact hF2)
              have HR4 : Hid (Blk wr3 (w.heap.size + 1) (tbc K (dtb z (k + 1)).2) 3) := Lib.hid (by rw [HE.out.2]; exact hR2)
              have HBD4 := Lib.hid hbd2
              clear u0 v0 hF2 hR2 hbd2
              go_wp2
              go_roundw
              case rel => exact ⟨k + 1, by omega, rfl, HF4.out, HR4.out, HBD4.out⟩
              case measure =>
                have hh := HAE.out
                simp [intOf]
                omega
    · obtain rfl : k = n := by omega
      have v0 := tb_cell' hF (i := 0) (by have := HK.out; omega)
      have HX : Hid (fre z 0 = (dtb z k).1 0) := Lib.hid (by unfold fre; rw [hzl])
      obtain ⟨x, hx⟩ : ∃ x, x = (dtb z k).1 0 := ⟨_, rfl⟩
      rw [← hx] at HX v0
      have hK0 : 0 < K := by have := HK.out; omega
      have HBD := Lib.hid hbd
      rw [show (k : Int) - 1 - (k : Int) = -1 by omega]
      clear hF hR hbd hx
      go_wp2
      go_ret
      exact ⟨by rw [HX.out]; rfl, HBD.out⟩
end Go.Proofs.Ytmflnnfgkcmlhaa.Cur

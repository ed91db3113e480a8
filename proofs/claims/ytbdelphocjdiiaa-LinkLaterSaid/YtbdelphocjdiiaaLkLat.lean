/- LinkLater: called with any number, any links and any number, the law returns true; no condition. -/
import Derived.Test.YtbdelphocjdiiaaRows
import Derived.Test.YtbdelphocjdiiaaLnkP
import Derived.Test.YtbdelphocjdiiaaK36
import Derived.Test.YtbdelphocjdiiaaK35
import Derived.Test.YtbdelphocjdiiaaK33
import Derived.ProofKit
import Derived.OpenShut
import Derived.ShutString
import Derived.ChangeOld
namespace Go.Proofs.Ytbdelphocjdiiaa.linkLater
open Go.ChangeShapes Go.WideShapes Go.ChangeAt Go.RowKit
open Go.ChangeMaps (open_string shut_string)
set_option linter.unusedVariables false

theorem own : ownKnob Try.prog.godebug = none := by kernel_rfl
theorem laidOut : laidOutB Try.prog = true := by kernel_rfl
open Cur Mem

set_option maxRecDepth 100000

theorem lks_rise {pos : Int} {L : List Lk} (h : lkok pos L = true) {j : Nat} : ∀ {k : Nat}, j < k → k < L.length → (L.getD j lk0).1 < (L.getD k lk0).1
  | 0, h1, _ => by omega
  | k + 1, h1, h2 => by
    have h3 := (lkok_at h h2).1
    rw [lkp_succ] at h3
    rcases Nat.lt_or_ge j k with h4 | h4
    · have := lks_rise h h4 (by omega); omega
    · obtain rfl : j = k := by omega
      exact h3
theorem wth_ext {pos : Int} {L : List Lk} (h : lkok pos L = true) {k : Nat} (hk : k < L.length) : wth ((L.take k).map (ext pos)) (ext pos (L.getD k lk0)) = (L.take (k + 1)).map (ext pos) := by
  rw [wth_end]
  · rw [List.take_add_one, List.getElem?_eq_getElem hk, Option.toList_some, List.map_append, List.getD_eq_getElem?_getD, List.getElem?_eq_getElem hk]
    rfl
  · intro s hs
    obtain ⟨t, ht, rfl⟩ := List.mem_map.1 hs
    obtain ⟨j, hj, rfl⟩ := List.mem_iff_getElem.1 ht
    rw [List.length_take] at hj
    have := lks_rise h (j := j) (k := k) (by omega) hk
    rw [List.getD_eq_getElem?_getD, List.getElem?_eq_getElem (show j < L.length by omega)] at this
    rw [List.getElem_take]
    exact this
theorem ext_blen (pos : Int) (L : List Lk) : blen 100000 (L.map (ext pos)) := fun s hs => by
  obtain ⟨t, _, rfl⟩ := List.mem_map.1 hs
  unfold ext
  rw [List.length_cons, List.length_take]
  omega

set_option maxHeartbeats 8000000 in
theorem walk {H : Type} (enc : TypeId × Value → H) (w : World) (base : Nat) (v0 : Value) (d0 : DataW H) (p0 : List MemPlace) (g0 : Value.okWide Try.prog w .any base 22 v0) (h0 : DataW.Trod enc Try.prog w 0 (fun _ => true) true 22 v0 d0 p0) (v1 : Value) (d1 : DataW H) (p1 : List MemPlace) (g1 : Value.okWide Try.prog w .any base 23 v1) (h1 : DataW.Trod enc Try.prog w 0 (fun _ => true) true 23 v1 d1 p1) (v2 : Value) (d2 : DataW H) (p2 : List MemPlace) (g2 : Value.okWide Try.prog w .any base 22 v2) (h2 : DataW.Trod enc Try.prog w 0 (fun _ => true) true 22 v2 d2 p2) :
    Calls Try.prog 6 #[v0, v1, v2] w fun e w' => e = .returned (.bool true) ∧ Below w.heap.size w w' := by
  obtain ⟨pos, rfl, b0, b1⟩ := open_u64 g0 h0
  obtain ⟨A, n, m, L, rfl, hnm, hnilA, hz⟩ := open_links g1 h1
  obtain ⟨y, rfl, c0, c1⟩ := open_u64 g2 h2
  clear g0 h0 g1 h1 g2 h2
  have HZ := Lib.hid hz
  have HL := Lib.hid hz.1
  have HPB := Lib.hid (And.intro b0 b1)
  clear hz
  go_enter Try.func6, Try.ntmps6
  go_wp2_with fail
  refine (long23_any _ A n m L w HZ.out).mono ?_
  rintro e w0 ⟨lb, rfl, hbd, hlong⟩
  cases lb
  case true =>
    clear hlong
    go_wp2_with fail
    refine (live23_any _).mono ?_
    rintro e wl ⟨rfl, hbl⟩
    replace hbd := hbd.trans (hbl.mono hbd.size)
    go_wp2
    go_ret
    exact ⟨rfl, hbd⟩
  clear hlong
  have hrf := rlkright_any _ pos A n m L w0 (HZ.out.below hbd) b0 b1
  unfold BPost at hrf
  cases hok : lkok pos L
  case false =>
    rw [hok] at hrf
    clear hok
    go_wp2_with fail
    refine hrf.mono ?_
    rintro e w1 ⟨rfl, hb1⟩
    replace hbd := hbd.trans (hb1.mono hbd.size)
    clear hb1 hrf
    go_wp2_with fail
    refine (live23_any _).mono ?_
    rintro e wl ⟨rfl, hbl⟩
    replace hbd := hbd.trans (hbl.mono hbd.size)
    go_wp2
    go_ret
    exact ⟨rfl, hbd⟩
  case true =>
    have HOK := Lib.hid hok
    rw [hok] at hrf
    obtain ⟨Q, hQ⟩ : ∃ Q, Q = IntKind.u64.wrap (pos + y) := ⟨_, rfl⟩
    have hQv : Q = (pos + y) % 18446744073709551616 := by rw [hQ, wrapu]
    have hQ2 := hQ.symm
    clear hQ
    by_cases hlt : Q < pos
    · clear hQv hok
      go_wp2_with fail
      refine hrf.mono ?_
      rintro e w1 ⟨rfl, hb1⟩
      replace hbd := hbd.trans (hb1.mono hbd.size)
      clear hb1 hrf
      go_wp2_with fail
      refine (live23_any _).mono ?_
      rintro e wl ⟨rfl, hbl⟩
      replace hbd := hbd.trans (hbl.mono hbd.size)
      go_wp2
      go_ret
      exact ⟨rfl, hbd⟩
    have hsum : Q = pos + y := by omega
    have hQ0 : 0 ≤ Q := by omega
    have hQ1 : Q < 18446744073709551616 := by omega
    have hQp : pos ≤ Q := by omega
    have HOK2 := Lib.hid (lkok_up hQp hok)
    have hn16 : n ≤ 16 := by rw [← HL.out]; exact (lkok_parts hok).1
    have HSUM := Lib.hid hsum
    have HQB := Lib.hid (And.intro hQ0 hQ1)
    have hltd : decide (Q < pos) = false := decide_eq_false hlt
    have HQP := Lib.hid hQp
    clear hok hQv hsum hlt hQ0 hQ1 hQp
    go_wp2_with fail
    refine hrf.mono ?_
    rintro e w1 ⟨rfl, hb1⟩
    replace hbd := hbd.trans (hb1.mono hbd.size)
    clear hb1 hrf
    have hpf := lkright_any _ Q A n m L w1 (HZ.out.below hbd) HQB.out.1 HQB.out.2
    rw [HOK2.out] at hpf
    unfold BPost at hpf
    go_wp2_with fail
    refine hpf.mono ?_
    rintro e w2 ⟨rfl, hb2⟩
    replace hbd := hbd.trans (hb2.mono hbd.size)
    clear hb2 hpf
    have H0 : Hid (Lks w2 (fun _ => True) none 0 ((L.take 0).map (ext pos)) ∧ Below w.heap.size w w2) := Lib.hid ⟨⟨rfl, Sq.nil _ _ _ _⟩, hbd⟩
    clear hbd
    go_wp2
    go_loopw [7, 8] (fun v i wr => ∃ (k : Nat) (Av : Option Addr) (cv : Nat), k ≤ n ∧ i = .int .i64 k ∧ v = .slice Av k cv ∧ Hid (Lks wr (fun _ => True) Av k ((L.take k).map (ext pos)) ∧ Below w.heap.size w wr ) ∧ k ≤ cv ∧ Hid (Av = none → cv = 0)) (fun _ i _ => n - (intOf i).toNat)
    case atStart => exact ⟨0, none, 0, by omega, rfl, rfl, H0, Nat.le_refl _, Lib.hid (fun _ => rfl)⟩
    case round =>
      clear H0
      obtain ⟨k, Av, cv, hk, rfl, rfl, HR, hkc, HNV⟩ := hrel
      obtain ⟨hlk, hbd⟩ := HR.out
      have HLK := Lib.hid hlk
      clear HR hlk
      by_cases hkn : k < n
      · obtain ⟨g, o, rfl, _, hg, hc⟩ := HZ.out.cells (by omega)
        obtain ⟨x, z, a, l, mm, he, xb, hl, hlm, han, hus, hzb, _, _, hcell⟩ := hc k hkn
        obtain ⟨d0, d1⟩ := hcell wr hbd
        have hkL : k < L.length := by rw [HL.out]; exact hkn
        have hl4 := (lkok_at HOK.out hkL).2.1
        have HW := Lib.hid (wth_ext HOK.out hkL)
        rw [he] at hl4 HW
        have hl4' : l ≤ 4 := by rw [← hl]; exact hl4
        have hxc := lextend_any x a l mm z pos wr xb (hus.below hbd) hzb hlm han (by omega) HPB.out.1 HPB.out.2
        have hxl : (ext pos (x, z)).2.length ≤ 4 := by unfold ext; rw [List.length_cons, List.length_take]; omega
        have hx1 : (ext pos (x, z)).1 = x := rfl
        obtain ⟨t, ht⟩ : ∃ t, t = ext pos (x, z) := ⟨_, rfl⟩
        rw [← ht] at hxc HW hxl hx1
        obtain ⟨tx, tz⟩ := t
        have htx : tx = x := hx1
        subst htx
        have e2 : (k : Int) < n := by omega
        have e3 : IntKind.i64.wrap ((k : Int) + 1) = ((k + 1 : Nat) : Int) := IntWalk.i64_in _ (by omega)
        unfold LOwPost at hxc
        dsimp only at hxc hxl
        clear hc hcell he hl hus hzb han hl4 hx1 ht
        go_wp2_with fail
        with_reducible refine hxc.mono ?_
        rintro e w3 ⟨A3, m3, rfl, hb3, hel⟩
        have hbd3 := hbd.trans (hb3.mono hbd.size)
        obtain ⟨A', m', hcc, _, q1, q2, q3, q4, _, _⟩ := link_parts hel
        injection hcc with _ hcc
        injection hcc with hcc _
        injection hcc with hcc1 hcc2 hcc3
        subst hcc1 hcc3
        have hwc := lwith_any _ Av k cv ((L.take k).map (ext pos)) tx A3 tz.length m3 tz w3 (HLK.out.below hb3) hkc HNV.out (by omega) (ext_blen pos _) xb q3 q4 q1 q2 (by omega)
        rw [HW.out] at hwc
        unfold LCoPost at hwc
        clear hxc hb3 hel d0 d1 q1 q2 q3 q4 hcc2 hbd
        go_wp2_with fail
        with_reducible refine hwc.mono ?_
        rintro e w4 ⟨v4, rfl, hb4, ho4⟩
        have hbd4 := hbd3.trans (hb4.mono hbd3.size)
        obtain ⟨A5, c5, hv5, k1, k2, k3⟩ := ho4.lks
        have hlen5 : ((L.take (k + 1)).map (ext pos)).length = k + 1 := by rw [List.length_map, List.length_take]; omega
        rw [hlen5] at hv5 k1 k3
        have HN : Hid (Lks w4 (fun _ => True) A5 (k + 1) ((L.take (k + 1)).map (ext pos)) ∧ Below w.heap.size w w4) := Lib.hid ⟨k3.mono (fun _ _ _ => trivial), hbd4⟩
        have HN2 := Lib.hid k2
        subst hv5
        clear hwc hb4 ho4 hbd4 k2 k3 hlen5 hbd3
        go_wp2
        go_roundw
        case rel => exact ⟨k + 1, A5, c5, by omega, by go_num, rfl, HN, k1, HN2⟩
        case measure => simp [intOf]; omega
      · obtain rfl : k = n := by omega
        obtain ⟨wn, hwn⟩ : ∃ wn, wn = wr := ⟨_, rfl⟩
        subst hwn
        have hall : L.take k = L := List.take_of_length_le (by rw [HL.out]; exact Nat.le_refl _)
        rw [hall] at HLK
        clear hall hkn
        have HM : Hid ((L.map (ext pos)).length = k) := Lib.hid (by rw [List.length_map, HL.out])
        by_cases hy0 : 0 < y
        · have dy : decide (0 < y) = true := decide_eq_true hy0
          have hok3 : lkok Q (L.map (ext pos)) = true := by
            obtain ⟨z1, z2⟩ := lkok_parts HOK.out
            have := HSUM.out
            exact lkok_mk (by rw [List.length_map]; exact z1) (lks_ext (by omega) z2)
          have hrc := lkright_any _ Q Av k cv _ wn HLK.out HQB.out.1 HQB.out.2
          rw [hok3] at hrc
          unfold BPost at hrc
          clear hok3 hy0
          go_wp2_with fail
          with_reducible refine hrc.mono ?_
          rintro e w5 ⟨rfl, hb5⟩
          have HLK5 := Lib.hid (HLK.out.below hb5)
          have hbd5 := hbd.trans (hb5.mono hbd.size)
          clear hrc hb5 hbd HLK
          have HBW := Lib.hid hbd5
          have HZ5 := Lib.hid (HZ.out.below hbd5)
          clear hbd5
          go_wp2
          go_loopw [9] (fun i wr => ∃ j : Nat, j ≤ k ∧ i = .int .i64 j ∧ Below (w5).heap.size (w5) wr) (fun i _ => k - (intOf i).toNat)
          case atStart => exact ⟨0, by omega, rfl, Below.refl _ _⟩
          case round =>
            obtain ⟨j, hj, rfl, hb⟩ := hrel
            by_cases hjk : j < k
            · obtain ⟨g, o, rfl, _, hg, hc⟩ := HZ5.out.cells (by omega)
              obtain ⟨x, z, a, l, mm, he, xb, hl, hlm, han, hus, hzb, _, _, hcell⟩ := hc j hjk
              obtain ⟨g', o', rfl, _, hg', hc'⟩ := HLK5.out.cells (by omega)
              obtain ⟨x', z', a', l', mm', he', _, hl', _, _, hus', _, _, _, hcell'⟩ := hc' j hjk
              have hzz : (x', z') = ext pos (x, z) := by
                rw [← he', ← he, List.getD_eq_getElem?_getD, List.getD_eq_getElem?_getD, List.getElem?_map, List.getElem?_eq_getElem (show j < L.length by rw [HL.out]; exact hjk)]
                rfl
              have hzv : z' = pos :: z.take 3 := by injection hzz
              have hl4 := (lkok_at HOK.out (show j < L.length by rw [HL.out]; exact hjk)).2.1
              rw [he] at hl4
              have hl4' : l ≤ 4 := by rw [← hl]; exact hl4
              have hll : l' = min l 3 + 1 := by rw [← hl', hzv, List.length_cons, List.length_take, hl]; omega
              obtain ⟨g3, o3, rfl, hc3⟩ := hus'.at_ (k := 0) (by omega)
              rw [hzv] at hus'
              have hbD := hb.trans ((below_one' wr).mono hb.size)
              have hS : LkS (w5) wr.drew := hbD
              have L1 : ∀ w', LkS (w5) w' → w'.cell? ⟨g, o + j * 2, none⟩ = some (.int .u64 x) ∧ w'.cell? ⟨g, o + j * 2 + 1, none⟩ = some (.slice a l mm) := fun w' h => hcell w' h
              have L2 : ∀ w', LkS (w5) w' → w'.cell? ⟨g', o' + j * 2, none⟩ = some (.int .u64 x') ∧ w'.cell? ⟨g', o' + j * 2 + 1, none⟩ = some (.slice (some ⟨g3, o3, none⟩) l' mm') := fun w' h => hcell' w' h
              have L3 : ∀ w', LkS (w5) w' → w'.cell? ⟨g3, o3, none⟩ = some (.int .u64 pos) := fun w' h => by
                have := (hus'.below h).at2 (show 0 < l' by omega)
                rw [Nat.add_zero] at this
                exact this
              have e2 : (j : Int) < k := by omega
              have e3 : IntKind.i64.wrap ((j : Int) + 1) = ((j + 1 : Nat) : Int) := IntWalk.i64_in _ (by omega)
              have e4 : IntKind.i64.wrap ((l : Int) + 1) = (l : Int) + 1 := IntWalk.i64_in _ (by omega)
              have e5 : min ((l : Int) + 1) 4 = (l' : Int) := by omega
              have e6 : decide ((l' : Int) < 1) = false := by simp; omega
              have e7 : (pos != pos) = false := by simp
              have e8 : ((l' : Int) != (l' : Int)) = false := by simp
              have e9 : (0 : Int) < l' := by omega
              have e9n : 0 < l' := by omega
              by_cases h3 : l ≤ 3
              · have e10 : (l : Int) + 1 ≤ 4 := by omega
                have hlv : l' = l + 1 := by omega
                subst hlv
                clear hc hc' hcell hcell' he he' hus hus' hzz hzv hl hl' hll hl4 hl4' hzb han hlm hc3 h3 hb
                go_wp2
                refine Seq.wp_region_seq (LkS (w5)) (by kernel_rfl) (by kernel_rfl) hS ?_
                generalize wr.drew = wd at *
                repeat (first | (refine Seq.Seq.skip (by rfl) ?_; (try simp only [Act.put, List.setIfInBounds_toArray, List.set_cons_zero, List.set_cons_succ])) | (refine Seq.Seq.det ?_ (by rfl) (fun w hS => ?_) ?_; rotate_left; ((try dsimp only at hS); go_simp; (try rw [if_pos (by omega)]); with_reducible rfl); (try simp only [Act.put, List.setIfInBounds_toArray, List.set_cons_zero, List.set_cons_succ])))
                refine Seq.Seq.nil ?_
                clear L1 L2 L3 hS
                go_wp2
                go_roundw
                case rel => exact ⟨j + 1, by omega, by go_num, hbD⟩
                case measure => simp [intOf]; omega
              · have e10 : ¬ (l : Int) + 1 ≤ 4 := by omega
                have hl4v : l = 4 := by omega
                have hlv : l' = 4 := by omega
                subst hl4v hlv
                clear hc hc' hcell hcell' he he' hus hus' hzz hzv hl hl' hll hl4 hl4' hzb han hlm hc3 h3 hb
                go_wp2
                refine Seq.wp_region_seq (LkS (w5)) (by kernel_rfl) (by kernel_rfl) hS ?_
                generalize wr.drew = wd at *
                repeat (first | (refine Seq.Seq.skip (by rfl) ?_; (try simp only [Act.put, List.setIfInBounds_toArray, List.set_cons_zero, List.set_cons_succ])) | (refine Seq.Seq.det ?_ (by rfl) (fun w hS => ?_) ?_; rotate_left; ((try dsimp only at hS); go_simp; (try rw [if_pos (by omega)]); with_reducible rfl); (try simp only [Act.put, List.setIfInBounds_toArray, List.set_cons_zero, List.set_cons_succ])))
                refine Seq.Seq.nil ?_
                clear L1 L2 L3 hS
                go_wp2
                go_roundw
                case rel => exact ⟨j + 1, by omega, by go_num, hbD⟩
                case measure => simp [intOf]; omega
            · obtain rfl : j = k := by omega
              have hbd := HBW.out.trans (hb.mono HBW.out.size)
              clear hb
              go_wp2_with fail
              refine (live23_any _).mono ?_
              rintro e wl ⟨rfl, hbl⟩
              replace hbd := hbd.trans (hbl.mono hbd.size)
              go_wp2
              go_ret
              exact ⟨rfl, hbd⟩
        · have dy : decide (0 < y) = false := decide_eq_false hy0
          have HLK5 := HLK
          have hbd5 := hbd
          clear hy0 hbd HLK
          have HBW := Lib.hid hbd5
          have HZ5 := Lib.hid (HZ.out.below hbd5)
          clear hbd5
          go_wp2
          go_loopw [9] (fun i wr => ∃ j : Nat, j ≤ k ∧ i = .int .i64 j ∧ Below (wn).heap.size (wn) wr) (fun i _ => k - (intOf i).toNat)
          case atStart => exact ⟨0, by omega, rfl, Below.refl _ _⟩
          case round =>
            obtain ⟨j, hj, rfl, hb⟩ := hrel
            by_cases hjk : j < k
            · obtain ⟨g, o, rfl, _, hg, hc⟩ := HZ5.out.cells (by omega)
              obtain ⟨x, z, a, l, mm, he, xb, hl, hlm, han, hus, hzb, _, _, hcell⟩ := hc j hjk
              obtain ⟨g', o', rfl, _, hg', hc'⟩ := HLK5.out.cells (by omega)
              obtain ⟨x', z', a', l', mm', he', _, hl', _, _, hus', _, _, _, hcell'⟩ := hc' j hjk
              have hzz : (x', z') = ext pos (x, z) := by
                rw [← he', ← he, List.getD_eq_getElem?_getD, List.getD_eq_getElem?_getD, List.getElem?_map, List.getElem?_eq_getElem (show j < L.length by rw [HL.out]; exact hjk)]
                rfl
              have hzv : z' = pos :: z.take 3 := by injection hzz
              have hl4 := (lkok_at HOK.out (show j < L.length by rw [HL.out]; exact hjk)).2.1
              rw [he] at hl4
              have hl4' : l ≤ 4 := by rw [← hl]; exact hl4
              have hll : l' = min l 3 + 1 := by rw [← hl', hzv, List.length_cons, List.length_take, hl]; omega
              obtain ⟨g3, o3, rfl, hc3⟩ := hus'.at_ (k := 0) (by omega)
              rw [hzv] at hus'
              have hbD := hb.trans ((below_one' wr).mono hb.size)
              have hS : LkS (wn) wr.drew := hbD
              have L1 : ∀ w', LkS (wn) w' → w'.cell? ⟨g, o + j * 2, none⟩ = some (.int .u64 x) ∧ w'.cell? ⟨g, o + j * 2 + 1, none⟩ = some (.slice a l mm) := fun w' h => hcell w' h
              have L2 : ∀ w', LkS (wn) w' → w'.cell? ⟨g', o' + j * 2, none⟩ = some (.int .u64 x') ∧ w'.cell? ⟨g', o' + j * 2 + 1, none⟩ = some (.slice (some ⟨g3, o3, none⟩) l' mm') := fun w' h => hcell' w' h
              have L3 : ∀ w', LkS (wn) w' → w'.cell? ⟨g3, o3, none⟩ = some (.int .u64 pos) := fun w' h => by
                have := (hus'.below h).at2 (show 0 < l' by omega)
                rw [Nat.add_zero] at this
                exact this
              have e2 : (j : Int) < k := by omega
              have e3 : IntKind.i64.wrap ((j : Int) + 1) = ((j + 1 : Nat) : Int) := IntWalk.i64_in _ (by omega)
              have e4 : IntKind.i64.wrap ((l : Int) + 1) = (l : Int) + 1 := IntWalk.i64_in _ (by omega)
              have e5 : min ((l : Int) + 1) 4 = (l' : Int) := by omega
              have e6 : decide ((l' : Int) < 1) = false := by simp; omega
              have e7 : (pos != pos) = false := by simp
              have e8 : ((l' : Int) != (l' : Int)) = false := by simp
              have e9 : (0 : Int) < l' := by omega
              have e9n : 0 < l' := by omega
              by_cases h3 : l ≤ 3
              · have e10 : (l : Int) + 1 ≤ 4 := by omega
                have hlv : l' = l + 1 := by omega
                subst hlv
                clear hc hc' hcell hcell' he he' hus hus' hzz hzv hl hl' hll hl4 hl4' hzb han hlm hc3 h3 hb
                go_wp2
                refine Seq.wp_region_seq (LkS (wn)) (by kernel_rfl) (by kernel_rfl) hS ?_
                generalize wr.drew = wd at *
                repeat (first | (refine Seq.Seq.skip (by rfl) ?_; (try simp only [Act.put, List.setIfInBounds_toArray, List.set_cons_zero, List.set_cons_succ])) | (refine Seq.Seq.det ?_ (by rfl) (fun w hS => ?_) ?_; rotate_left; ((try dsimp only at hS); go_simp; (try rw [if_pos (by omega)]); with_reducible rfl); (try simp only [Act.put, List.setIfInBounds_toArray, List.set_cons_zero, List.set_cons_succ])))
                refine Seq.Seq.nil ?_
                clear L1 L2 L3 hS
                go_wp2
                go_roundw
                case rel => exact ⟨j + 1, by omega, by go_num, hbD⟩
                case measure => simp [intOf]; omega
              · have e10 : ¬ (l : Int) + 1 ≤ 4 := by omega
                have hl4v : l = 4 := by omega
                have hlv : l' = 4 := by omega
                subst hl4v hlv
                clear hc hc' hcell hcell' he he' hus hus' hzz hzv hl hl' hll hl4 hl4' hzb han hlm hc3 h3 hb
                go_wp2
                refine Seq.wp_region_seq (LkS (wn)) (by kernel_rfl) (by kernel_rfl) hS ?_
                generalize wr.drew = wd at *
                repeat (first | (refine Seq.Seq.skip (by rfl) ?_; (try simp only [Act.put, List.setIfInBounds_toArray, List.set_cons_zero, List.set_cons_succ])) | (refine Seq.Seq.det ?_ (by rfl) (fun w hS => ?_) ?_; rotate_left; ((try dsimp only at hS); go_simp; (try rw [if_pos (by omega)]); with_reducible rfl); (try simp only [Act.put, List.setIfInBounds_toArray, List.set_cons_zero, List.set_cons_succ])))
                refine Seq.Seq.nil ?_
                clear L1 L2 L3 hS
                go_wp2
                go_roundw
                case rel => exact ⟨j + 1, by omega, by go_num, hbD⟩
                case measure => simp [intOf]; omega
            · obtain rfl : j = k := by omega
              have hbd := HBW.out.trans (hb.mono HBW.out.size)
              clear hb
              go_wp2_with fail
              refine (live23_any _).mono ?_
              rintro e wl ⟨rfl, hbl⟩
              replace hbd := hbd.trans (hbl.mono hbd.size)
              go_wp2
              go_ret
              exact ⟨rfl, hbd⟩

set_option maxRecDepth 100000 in
theorem lifted (os : Os) (started : os.Started) (H : Type) (enc : TypeId × Value → H) :
    ReturnsInHanded {} Try.checked os 6 .any (Rows.linkLaterSpec.pre6 enc Try.prog Try.f6 Rows.linkLaterRow.domain false) (Rows.linkLaterSpec.post enc Try.prog Try.f6 false true false false) := by
  refine returnsInHanded_of_change (C := Try.checked) own started (by kernel_rfl) Try.func6
    (ChangeSpec.witness6 (enc := enc) (C := Try.checked) false ⟨#[], #[.int .u64 0, .slice none 0 0, .int .u64 0], []⟩ 8 (by kernel_rfl) (by kernel_rfl) (by kernel_rfl) (by kernel_rfl)) ?_
  intro W base args ds gs before hval0 hW hcnd _
  have hval : ∀ (j : Nat) t v, Try.f6.params[j]? = some t → args[j]? = some v → Value.okWide Try.prog W .any base t v := hval0
  have hW' := hW
  obtain ⟨p, q, hA0, hV, rfl, hfz, hnd⟩ := hW
  have hA : DataW.TrodAll enc Try.prog W 0 (fun _ => true) true Try.f6.params.toList args.toList ds p := hA0
  rw [Try.params6] at hA hval
  obtain ⟨v0, vs0, d0, ds0, p0, q0, hargs, rfl, rfl, h0, r0⟩ := trodAll_cons hA
  obtain ⟨v1, vs1, d1, ds1, p1, q1, rfl, rfl, rfl, h1, r1⟩ := trodAll_cons r0
  obtain ⟨v2, vs2, d2, ds2, p2, q2, rfl, rfl, rfl, h2, r2⟩ := trodAll_cons r1
  obtain ⟨rfl, rfl, rfl⟩ := trodAll_nil r2
  obtain rfl : args = #[v0, v1, v2] := by cases args; simp_all
  obtain ⟨rfl, rfl⟩ := trodVars_none hV
  have lt0 : ∀ x ∈ p0, x.block < W.heap.size := by obtain ⟨m, hm⟩ := h0; exact DataW.trod_lt m _ _ _ hm
  have lt1 : ∀ x ∈ p1, x.block < W.heap.size := by obtain ⟨m, hm⟩ := h1; exact DataW.trod_lt m _ _ _ hm
  have lt2 : ∀ x ∈ p2, x.block < W.heap.size := by obtain ⟨m, hm⟩ := h2; exact DataW.trod_lt m _ _ _ hm
  clear hA0 hval0
  refine (walk enc W base v0 d0 p0 (hval 0 22 v0 rfl rfl) h0 v1 d1 p1 (hval 1 23 v1 rfl rfl) h1 v2 d2 p2 (hval 2 22 v2 rfl rfl) h2).mono fun e W' ⟨he, bel⟩ => ?_
  subst he
  exact ⟨_, rfl, _, _, _, [], _, [], hW', trodAll_mk1 (shut_bool Try.underlying4 _), (trodAll_cons_mk (Below.trod laidOut (by kernel_rfl) (of_decide_eq_true (by kernel_rfl)) h0 bel lt0) (trodAll_cons_mk (Below.trod laidOut (by kernel_rfl) (of_decide_eq_true (by kernel_rfl)) h1 bel lt1) (trodAll_cons_mk (Below.trod laidOut (by kernel_rfl) (of_decide_eq_true (by kernel_rfl)) h2 bel lt2) trodAll_mk0))), rfl, bel.frame _, fun h => by cases h⟩

theorem over : Rows.linkLaterRow.holds Try.pinned (OpenSpec.ofChange Rows.linkLaterSpec) :=
  OpenClaim.holds_of_wide 6 Try.f6 rfl rfl rfl rfl rfl rfl rfl ⟨rfl, rfl, rfl, rfl, rfl⟩ rfl rfl rfl rfl rfl (by kernel_rfl) Try.func6 (by kernel_rfl)
    (of_decide_eq_true (by kernel_rfl)) (by unfold Func.isWrapper; first | (rw [if_pos (by decide +kernel)]; kernel_rfl) | (rw [if_neg (by decide +kernel)]; exact ⟨rfl, rfl⟩))
    (fun os started H enc _ => lifted os started H enc)

/-- THE STATEMENT. -/
theorem proved : Rows.LinkLaterSaid := over
#print axioms proved
end Go.Proofs.Ytbdelphocjdiiaa.linkLater

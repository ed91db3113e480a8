/- As the seat's text, without what nothing here names. -/
import Derived.Test.YtgdcbfekekefiaaRows
import Derived.Test.YtgdcbfekekefiaaPekTc
import Derived.Test.YtgdcbfekekefiaaPekVc
import Derived.ProofKit
import Derived.OpenShut
import Derived.ShutString
import Derived.ChangeOld
namespace Go.Proofs.Ytgdcbfekekefiaa.peekCuts
open Go.ChangeShapes Go.WideShapes Go.ChangeAt Go.RowKit
open Go.ChangeMaps (open_string shut_string)
set_option linter.unusedVariables false
theorem own : ownKnob Try.prog.godebug = none := by kernel_rfl
theorem laidOut : laidOutB Try.prog = true := by kernel_rfl
open Cur Mem
set_option maxRecDepth 100000
def HkW (w w' : World) : Prop := Below w.heap.size w w'
set_option maxHeartbeats 8000000 in
theorem walk {H : Type} (enc : TypeId × Value → H) (w : World) (base : Nat) (v0 : Value) (d0 : DataW H) (p0 : List MemPlace) (g0 : Value.okWide Try.prog w .any base 25 v0) (h0 : DataW.Trod enc Try.prog w 0 (fun _ => true) true 25 v0 d0 p0) (v1 : Value) (d1 : DataW H) (p1 : List MemPlace) (g1 : Value.okWide Try.prog w .any base 22 v1) (h1 : DataW.Trod enc Try.prog w 0 (fun _ => true) true 22 v1 d1 p1) (v2 : Value) (d2 : DataW H) (p2 : List MemPlace) (g2 : Value.okWide Try.prog w .any base 22 v2) (h2 : DataW.Trod enc Try.prog w 0 (fun _ => true) true 22 v2 d2 p2) :
    Calls Try.prog 5 #[v0, v1, v2] w fun e w' => e = .returned (.bool true) ∧ Below w.heap.size w w' := by
  obtain ⟨ep, bs, A, n, m, L, rfl, ⟨e0, e9⟩, ⟨b0, b9⟩, hnm, hnil, hz⟩ := open_batch g0 h0
  obtain ⟨f, rfl, f0, f9⟩ := open_u64 g1 h1
  obtain ⟨t, rfl, t0, t9⟩ := open_u64 g2 h2
  clear g0 h0 g1 h1 g2 h2
  have hX := Blk.new w (btenc ep bs A n m) 25
  have hb := below_one w (.cells (btenc ep bs A n m) 25)
  have HZ := Lib.hid hz
  have HX := Lib.hid hX
  obtain ⟨x0, x1, x2⟩ := hX.c3
  have hl := long25_any _ ep bs A n m L _ (hz.below hb)
  have HB := Lib.hid hb
  clear hz hX hb
  go_enter Try.func5, Try.ntmps5
  go_wp2_with fail
  refine hl.mono ?_
  rintro e w1 ⟨lb, rfl, hbd, hlong⟩
  have HBD := Lib.hid (HB.out.trans (hbd.mono HB.out.size))
  have hX1 := HX.out.below hbd
  clear hl hbd x0 x1 x2 HX HB
  cases lb
  case true =>
    clear hlong hX1
    go_wp2_with fail
    refine (live26_any _).mono ?_
    rintro e wl ⟨rfl, hbl⟩
    have hfin := HBD.out.trans (Below.mono hbl HBD.out.size)
    go_wp2
    go_ret
    exact ⟨rfl, hfin⟩
  obtain ⟨hn30, hsm, _⟩ := hlong rfl
  have HSM := Lib.hid hsm
  clear hlong hsm
  obtain ⟨x0, x1, x2⟩ := hX1.c3
  have hch := chained_any _ ep bs A n m L w1 (HZ.out.below HBD.out) (by omega) HSM.out b0 b9
  unfold BPost at hch
  go_wp2_with fail
  refine hch.mono ?_
  rintro e w2 ⟨rfl, hb2⟩
  have HBD2 := Lib.hid (HBD.out.trans (hb2.mono HBD.out.size))
  have hX2 := hX1.below hb2
  clear hch hb2 x0 x1 x2 hX1 HBD
  obtain ⟨x0, x1, x2⟩ := hX2.c3
  have hrc := rchained_any _ ep bs A n m L w2 (HZ.out.below HBD2.out) (by omega) HSM.out e0 b0 b9
  unfold BPost at hrc
  go_wp2_with fail
  refine hrc.mono ?_
  rintro e w3 ⟨rfl, hb3⟩
  have HBD3 := Lib.hid (HBD2.out.trans (hb3.mono HBD2.out.size))
  have hX3 := hX2.below hb3
  clear hrc hb3 x0 x1 x2 hX2 HBD2
  obtain ⟨x0, x1, x2⟩ := hX3.c3
  have hcu := peekcut_any _ ep bs A n m L f t w3 (HZ.out.below HBD3.out) (by omega) HSM.out b0 b9 f0 (by omega) t0 (by omega) hnm hnil
  unfold PCutPost at hcu
  have HLN := Lib.hid HZ.out.1
  obtain ⟨ch, hchn⟩ : ∃ ch, ch = chnb ep bs L := ⟨_, rfl⟩
  rw [← hchn]
  have HCH := Lib.hid hchn
  clear hchn
  have ebb : (ch != ch) = false := by cases ch <;> rfl
  go_wp2_with fail
  refine hcu.mono ?_
  rintro e w4 ⟨hb4, hcase⟩
  have HBD4 := Lib.hid (HBD3.out.trans (hb4.mono HBD3.out.size))
  have hX4 := hX3.below hb4
  have h34 := hb4.size
  have h03 := HBD3.out.size
  clear hcu x0 x1 x2 hX3 HBD3 hb4
  rcases hcase with ⟨hcut, rfl⟩ | ⟨hcut, A2, m2, rfl, hz2⟩
  · have HCUT := Lib.hid hcut
    have hb5 := below_one w4 (.cells (btenc 0 0 none 0 0) 25)
    have hX5 := hX4.below hb5
    have HBD5 := Lib.hid (HBD4.out.trans (hb5.mono HBD4.out.size))
    have hC5 := Blk.new w4 (btenc 0 0 none 0 0) 25
    have HZM : Hid (esm []) := Lib.hid (fun k => ⟨Nat.zero_le _, (show blen 50 [] from fun s hs => nomatch hs), Nat.zero_le _⟩)
    clear hcut hX4 hb5 HBD4
    go_upto_region 7 with (fail)
    generalize w4.alloc (.cells (btenc 0 0 none 0 0) 25) = w5 at *
    obtain ⟨x0, x1, x2⟩ := hX5.c3
    have hrr := rbright_any _ ep bs A n m L w5 (HZ.out.below HBD5.out) (by omega) HSM.out e0 b0 b9
    unfold BPost at hrr
    go_wp2_with fail
    refine hrr.mono ?_
    rintro e w6 ⟨rfl, hb6⟩
    have HBD6 := Lib.hid (HBD5.out.trans (hb6.mono HBD5.out.size))
    have hX6 := hX5.below hb6
    have hC6 := hC5.below hb6
    clear hrr x0 x1 x2 hX5 hC5 hb6 HBD5
    obtain ⟨x0, x1, x2⟩ := hX6.c3
    obtain ⟨y0, y1, y2⟩ := hC6.c3
    cases hok : btk (ep, bs, L)
    · clear hok
      have HS := Lib.hid (rsame25_any (fun _ => True) (fun _ => True) 0 0 0 0 none none 0 0 0 0 [] [] w6 ⟨rfl, Sq.nil _ _ _ _⟩ ⟨rfl, Sq.nil _ _ _ _⟩ (by omega) (by omega) HZM.out HZM.out)
      go_wp2_with fail
      have hsame := HS.out
      simp only [decide_true] at hsame
      unfold BPost at hsame
      refine hsame.mono ?_
      rintro e w7 ⟨rfl, hb7⟩
      have HBD := Lib.hid (HBD6.out.trans (hb7.mono HBD6.out.size))
      clear HBD6 hb7 hsame HS HZM
      go_wp2_with fail
      refine (live26_any _).mono ?_
      rintro e wl ⟨rfl, hbl⟩
      have hfin := HBD.out.trans (Below.mono hbl HBD.out.size)
      go_wp2
      go_ret
      exact ⟨rfl, hfin⟩
    by_cases h1 : bs ≤ f
    case neg =>
      clear hok
      have h1' : f < bs := by omega
      clear h1
      have HS := Lib.hid (rsame25_any (fun _ => True) (fun _ => True) 0 0 0 0 none none 0 0 0 0 [] [] w6 ⟨rfl, Sq.nil _ _ _ _⟩ ⟨rfl, Sq.nil _ _ _ _⟩ (by omega) (by omega) HZM.out HZM.out)
      go_wp2_with fail
      have hsame := HS.out
      simp only [decide_true] at hsame
      unfold BPost at hsame
      refine hsame.mono ?_
      rintro e w7 ⟨rfl, hb7⟩
      have HBD := Lib.hid (HBD6.out.trans (hb7.mono HBD6.out.size))
      clear HBD6 hb7 hsame HS HZM
      go_wp2_with fail
      refine (live26_any _).mono ?_
      rintro e wl ⟨rfl, hbl⟩
      have hfin := HBD.out.trans (Below.mono hbl HBD.out.size)
      go_wp2
      go_ret
      exact ⟨rfl, hfin⟩
    by_cases h2 : f < t
    case neg =>
      clear hok
      have HS := Lib.hid (rsame25_any (fun _ => True) (fun _ => True) 0 0 0 0 none none 0 0 0 0 [] [] w6 ⟨rfl, Sq.nil _ _ _ _⟩ ⟨rfl, Sq.nil _ _ _ _⟩ (by omega) (by omega) HZM.out HZM.out)
      go_wp2_with fail
      have hsame := HS.out
      simp only [decide_true] at hsame
      unfold BPost at hsame
      refine hsame.mono ?_
      rintro e w7 ⟨rfl, hb7⟩
      have HBD := Lib.hid (HBD6.out.trans (hb7.mono HBD6.out.size))
      clear HBD6 hb7 hsame HS HZM
      go_wp2_with fail
      refine (live26_any _).mono ?_
      rintro e wl ⟨rfl, hbl⟩
      have hfin := HBD.out.trans (Below.mono hbl HBD.out.size)
      go_wp2
      go_ret
      exact ⟨rfl, hfin⟩
    have hfit := fitn_bd (btk_fitx hok)
    have hln := HLN.out
    dsimp only at hfit
    have e4 : IntKind.u64.wrap (bs + n) = bs + n := IntWalk.u64_in _ (by omega)
    have e5 : IntKind.u64.wrap (n : Int) = n := IntWalk.u64_in _ (by omega)
    by_cases h3 : t ≤ bs + n
    case pos =>
      exfalso
      have h4 := HCUT.out
      unfold cut26 at h4
      rw [hok, decide_eq_true ⟨h1, h2, by omega⟩] at h4
      cases h4
    clear hok hfit
    have HS := Lib.hid (rsame25_any (fun _ => True) (fun _ => True) 0 0 0 0 none none 0 0 0 0 [] [] w6 ⟨rfl, Sq.nil _ _ _ _⟩ ⟨rfl, Sq.nil _ _ _ _⟩ (by omega) (by omega) HZM.out HZM.out)
    go_wp2_with fail
    have hsame := HS.out
    simp only [decide_true] at hsame
    unfold BPost at hsame
    refine hsame.mono ?_
    rintro e w7 ⟨rfl, hb7⟩
    have HBD := Lib.hid (HBD6.out.trans (hb7.mono HBD6.out.size))
    clear HBD6 hb7 hsame HS HZM
    go_wp2_with fail
    refine (live26_any _).mono ?_
    rintro e wl ⟨rfl, hbl⟩
    have hfin := HBD.out.trans (Below.mono hbl HBD.out.size)
    go_wp2
    go_ret
    exact ⟨rfl, hfin⟩
  have HCUT := Lib.hid hcut
  have hcc := hcut
  unfold cut26 at hcc
  rw [Bool.and_eq_true] at hcc
  obtain ⟨hok, hcc⟩ := hcc
  obtain ⟨h1, h2, h3⟩ := of_decide_eq_true hcc
  have hfit := fitn_bd (btk_fitx hok)
  have hln := HLN.out
  dsimp only at hfit
  have e4 : IntKind.u64.wrap (bs + n) = bs + n := IntWalk.u64_in _ (by omega)
  have e5 : IntKind.u64.wrap (n : Int) = n := IntWalk.u64_in _ (by omega)
  have h3' : t ≤ bs + n := by omega
  have hb5 := below_one w4 (.cells (btenc ep f A2 (t - f).toNat m2) 25)
  have hX5 := hX4.below hb5
  have hz5 := hz2.below hb5
  have HBD5 := Lib.hid (HBD4.out.trans (hb5.mono HBD4.out.size))
  have hC5 := Blk.new w4 (btenc ep f A2 (t - f).toNat m2) 25
  clear hcut hX4 hb5 HBD4 hz2 hcc hfit
  go_upto_region 7 with (fail)
  generalize w4.alloc (.cells (btenc ep f A2 (t - f).toNat m2) 25) = w5 at *
  obtain ⟨x0, x1, x2⟩ := hX5.c3
  have hrr := rbright_any _ ep bs A n m L w5 (HZ.out.below HBD5.out) (by omega) HSM.out e0 b0 b9
  unfold BPost at hrr
  rw [hok] at hrr
  have HOK := Lib.hid hok
  clear hok h3
  go_wp2_with fail
  refine hrr.mono ?_
  rintro e w6 ⟨rfl, hb6⟩
  have HBD6 := Lib.hid (HBD5.out.trans (hb6.mono HBD5.out.size))
  have hX6 := hX5.below hb6
  have hC6 := hC5.below hb6
  have hz6 := hz5.below hb6
  clear hrr x0 x1 x2 hX5 hC5 hb6 HBD5 hz5
  obtain ⟨x0, x1, x2⟩ := hX6.c3
  go_upto_region 12 with (fail)
  have HF2 : Hid (f < t) := Lib.hid h2
  have hs1 : ((f - bs).toNat : Int) = f - bs := by omega
  have hs2 : ((t - bs).toNat : Int) = t - bs := by omega
  have hs3 : (t - bs).toNat - (f - bs).toNat = (t - f).toNat := by omega
  obtain ⟨A3, m3, hsl, hz3, hm3, _⟩ := slice_ens (HZ.out.below HBD6.out) m (f - bs).toNat (t - bs).toNat (by omega) (by omega) hnm hnil
  rw [hs1, hs2, hs3] at hsl
  rw [hs3] at hz3
  have hn' : (t - f).toNat ≤ 1000000 := by omega
  have hn'' : (t - f).toNat ≤ 1000 := by omega
  have HSP := Lib.hid (esm_part HSM.out (f - bs).toNat (t - f).toNat)
  have hlenp : (f - bs).toNat + (t - f).toNat ≤ L.length := by omega
  have hone : 1 ≤ (t - f).toNat := by omega
  have HP : Hid (chnb ep bs L = true → chnb ep f ((L.drop (f - bs).toNat).take (t - f).toNat) = true) := Lib.hid (fun h => by
    have := chnb_part (l := (f - bs).toNat) (k := (t - f).toNat) h b0 hone hlenp
    rwa [show bs + ((f - bs).toNat : Int) = f by omega] at this)
  have w1' : IntKind.u64.wrap (f - bs) = f - bs := IntWalk.u64_in _ (by omega)
  have w2' : IntKind.u64.wrap (t - bs) = t - bs := IntWalk.u64_in _ (by omega)
  generalize ((L.drop (f - bs).toNat).take (t - f).toNat) = L' at *
  generalize (t - f).toNat = n' at *
  clear hs1 hs2 hs3 hone hlenp hm3 h1 h2 h3' e4 e5 hln x0 x1 x2
  have HA := Lib.hid (fun w' (h : HkW w6 w') => rall_any _ _ A2 A3 n' n' m2 m3 L' L' w' (hz6.below h) (hz3.below h) hn' hn' HSP.out HSP.out)
  have HC2 := Lib.hid (fun w' (h : HkW w6 w') => chained_any _ ep f A2 n' m2 L' w' (hz6.below h) hn'' HSP.out (by omega) (by omega))
  have HL := Lib.hid (fun w' (h : HkW w6 w') => live26_any w')
  rw [decide_eq_true rfl] at HA
  unfold BPost at HA HC2
  have L1 : ∀ w', HkW w6 w' → (w'.cell? ⟨w.heap.size, 0, none⟩ = some (.int .u64 ep) ∧ w'.cell? ⟨w.heap.size, 1, none⟩ = some (.int .u64 bs)) ∧ w'.cell? ⟨w.heap.size, 2, none⟩ = some (.slice A n m) := fun w' h => ⟨⟨(hX6.below h).c3.1, (hX6.below h).c3.2.1⟩, (hX6.below h).c3.2.2⟩
  have L2 : ∀ w', HkW w6 w' → (w'.cell? ⟨w4.heap.size, 0, none⟩ = some (.int .u64 ep) ∧ w'.cell? ⟨w4.heap.size, 1, none⟩ = some (.int .u64 f)) ∧ w'.cell? ⟨w4.heap.size, 2, none⟩ = some (.slice A2 n' m2) := fun w' h => ⟨⟨(hC6.below h).c3.1, (hC6.below h).c3.2.1⟩, (hC6.below h).c3.2.2⟩
  have hS : HkW w6 w6.drew := below_one' _
  have e0' : (ep == ep) = true := by simp
  have e1' : (f == f) = true := by simp
  cases ch
  case false =>
    refine Seq.wp_region_seq (HkW w6) (by kernel_rfl) (by kernel_rfl) hS ?_
    generalize w6.drew = wd at *
    repeat (first | (refine Seq.Seq.skip (by rfl) ?_; (try simp only [Act.put, List.setIfInBounds_toArray, List.set_cons_zero, List.set_cons_succ])) | (refine Seq.Seq.det ?_ (by rfl) (fun w hS => ?_) ?_; rotate_left; ((try dsimp only at hS); go_simp; (try rw [if_pos (by omega)]); with_reducible rfl); (try simp only [Act.put, List.setIfInBounds_toArray, List.set_cons_zero, List.set_cons_succ])))
    refine Seq.Seq.make (by rfl) (by rfl) (fun K Q' hK => ?_)
    go_simp
    go_at_call 26
    refine (HA.out _ hS).mono ?_
    rintro e v1 ⟨rfl, hbx⟩
    refine hK.out _ _ ((show HkW _ _ from Below.trans hS (hbx.mono (Below.size hS)))) ?_
    clear hK K
    try simp only [Act.put, List.setIfInBounds_toArray, List.set_cons_zero, List.set_cons_succ]
    replace hS : HkW _ v1 := Below.trans hS (hbx.mono (Below.size hS))
    clear hbx
    repeat (first | (refine Seq.Seq.skip (by rfl) ?_; (try simp only [Act.put, List.setIfInBounds_toArray, List.set_cons_zero, List.set_cons_succ])) | (refine Seq.Seq.det ?_ (by rfl) (fun w hS => ?_) ?_; rotate_left; ((try dsimp only at hS); go_simp; (try rw [if_pos (by omega)]); with_reducible rfl); (try simp only [Act.put, List.setIfInBounds_toArray, List.set_cons_zero, List.set_cons_succ])))
    refine Seq.Seq.make (by rfl) (by rfl) (fun K Q' hK => ?_)
    go_simp
    go_at_call 8
    refine (HL.out _ hS).mono ?_
    rintro e v1 ⟨rfl, hbx⟩
    refine hK.out _ _ ((show HkW _ _ from Below.trans hS (hbx.mono (Below.size hS)))) ?_
    clear hK K
    try simp only [Act.put, List.setIfInBounds_toArray, List.set_cons_zero, List.set_cons_succ]
    replace hS : HkW _ v1 := Below.trans hS (hbx.mono (Below.size hS))
    clear hbx
    repeat (first | (refine Seq.Seq.skip (by rfl) ?_; (try simp only [Act.put, List.setIfInBounds_toArray, List.set_cons_zero, List.set_cons_succ])) | (refine Seq.Seq.det ?_ (by rfl) (fun w hS => ?_) ?_; rotate_left; ((try dsimp only at hS); go_simp; (try rw [if_pos (by omega)]); with_reducible rfl); (try simp only [Act.put, List.setIfInBounds_toArray, List.set_cons_zero, List.set_cons_succ])))
    refine Seq.Seq.nil ?_
    have hfin := HBD6.out.trans (Below.mono hS HBD6.out.size)
    clear L1 L2 hS HA HC2 HL hX6 hC6 hz6 hz3
    go_wp2
    go_ret
    exact ⟨rfl, hfin⟩
  have hch2 := HP.out HCH.out.symm
  rw [hch2] at HC2
  refine Seq.wp_region_seq (HkW w6) (by kernel_rfl) (by kernel_rfl) hS ?_
  generalize w6.drew = wd at *
  repeat (first | (refine Seq.Seq.skip (by rfl) ?_; (try simp only [Act.put, List.setIfInBounds_toArray, List.set_cons_zero, List.set_cons_succ])) | (refine Seq.Seq.det ?_ (by rfl) (fun w hS => ?_) ?_; rotate_left; ((try dsimp only at hS); go_simp; (try rw [if_pos (by omega)]); with_reducible rfl); (try simp only [Act.put, List.setIfInBounds_toArray, List.set_cons_zero, List.set_cons_succ])))
  refine Seq.Seq.make (by rfl) (by rfl) (fun K Q' hK => ?_)
  go_simp
  go_at_call 26
  refine (HA.out _ hS).mono ?_
  rintro e v1 ⟨rfl, hbx⟩
  refine hK.out _ _ ((show HkW _ _ from Below.trans hS (hbx.mono (Below.size hS)))) ?_
  clear hK K
  try simp only [Act.put, List.setIfInBounds_toArray, List.set_cons_zero, List.set_cons_succ]
  replace hS : HkW _ v1 := Below.trans hS (hbx.mono (Below.size hS))
  clear hbx
  repeat (first | (refine Seq.Seq.skip (by rfl) ?_; (try simp only [Act.put, List.setIfInBounds_toArray, List.set_cons_zero, List.set_cons_succ])) | (refine Seq.Seq.det ?_ (by rfl) (fun w hS => ?_) ?_; rotate_left; ((try dsimp only at hS); go_simp; (try rw [if_pos (by omega)]); with_reducible rfl); (try simp only [Act.put, List.setIfInBounds_toArray, List.set_cons_zero, List.set_cons_succ])))
  refine Seq.Seq.make (by rfl) (by rfl) (fun K Q' hK => ?_)
  go_simp
  go_at_call 22
  refine (HC2.out _ hS).mono ?_
  rintro e v1 ⟨rfl, hbx⟩
  refine hK.out _ _ ((show HkW _ _ from Below.trans hS (hbx.mono (Below.size hS)))) ?_
  clear hK K
  try simp only [Act.put, List.setIfInBounds_toArray, List.set_cons_zero, List.set_cons_succ]
  replace hS : HkW _ v1 := Below.trans hS (hbx.mono (Below.size hS))
  clear hbx
  repeat (first | (refine Seq.Seq.skip (by rfl) ?_; (try simp only [Act.put, List.setIfInBounds_toArray, List.set_cons_zero, List.set_cons_succ])) | (refine Seq.Seq.det ?_ (by rfl) (fun w hS => ?_) ?_; rotate_left; ((try dsimp only at hS); go_simp; (try rw [if_pos (by omega)]); with_reducible rfl); (try simp only [Act.put, List.setIfInBounds_toArray, List.set_cons_zero, List.set_cons_succ])))
  refine Seq.Seq.make (by rfl) (by rfl) (fun K Q' hK => ?_)
  go_simp
  go_at_call 8
  refine (HL.out _ hS).mono ?_
  rintro e v1 ⟨rfl, hbx⟩
  refine hK.out _ _ ((show HkW _ _ from Below.trans hS (hbx.mono (Below.size hS)))) ?_
  clear hK K
  try simp only [Act.put, List.setIfInBounds_toArray, List.set_cons_zero, List.set_cons_succ]
  replace hS : HkW _ v1 := Below.trans hS (hbx.mono (Below.size hS))
  clear hbx
  repeat (first | (refine Seq.Seq.skip (by rfl) ?_; (try simp only [Act.put, List.setIfInBounds_toArray, List.set_cons_zero, List.set_cons_succ])) | (refine Seq.Seq.det ?_ (by rfl) (fun w hS => ?_) ?_; rotate_left; ((try dsimp only at hS); go_simp; (try rw [if_pos (by omega)]); with_reducible rfl); (try simp only [Act.put, List.setIfInBounds_toArray, List.set_cons_zero, List.set_cons_succ])))
  refine Seq.Seq.nil ?_
  have hfin := HBD6.out.trans (Below.mono hS HBD6.out.size)
  clear L1 L2 hS HA HC2 HL hX6 hC6 hz6 hz3
  go_wp2
  go_ret
  exact ⟨rfl, hfin⟩
set_option maxRecDepth 100000 in
theorem lifted (os : Os) (started : os.Started) (H : Type) (enc : TypeId × Value → H) :
    ReturnsInHanded {} Try.checked os 5 .any (Rows.peekCutsSpec.pre6 enc Try.prog Try.f5 Rows.peekCutsRow.domain false) (Rows.peekCutsSpec.post enc Try.prog Try.f5 false true false false) := by
  refine returnsInHanded_of_change (C := Try.checked) own started (by kernel_rfl) Try.func5
    (ChangeSpec.witness6 (enc := enc) (C := Try.checked) false ⟨#[], #[.agg #[.int .u64 0, .int .u64 0, .slice none 0 0], .int .u64 0, .int .u64 0], []⟩ 8 (by kernel_rfl) (by kernel_rfl) (by kernel_rfl) (by kernel_rfl)) ?_
  intro W base args ds gs before hval0 hW hcnd _
  have hval : ∀ (j : Nat) t v, Try.f5.params[j]? = some t → args[j]? = some v → Value.okWide Try.prog W .any base t v := hval0
  have hW' := hW
  obtain ⟨p, q, hA0, hV, rfl, hfz, hnd⟩ := hW
  have hA : DataW.TrodAll enc Try.prog W 0 (fun _ => true) true Try.f5.params.toList args.toList ds p := hA0
  rw [Try.params5] at hA hval
  obtain ⟨v0, vs0, d0, ds0, p0, q0, hargs, rfl, rfl, h0, r0⟩ := trodAll_cons hA
  obtain ⟨v1, vs1, d1, ds1, p1, q1, rfl, rfl, rfl, h1, r1⟩ := trodAll_cons r0
  obtain ⟨v2, vs2, d2, ds2, p2, q2, rfl, rfl, rfl, h2, r2⟩ := trodAll_cons r1
  obtain ⟨rfl, rfl, rfl⟩ := trodAll_nil r2
  obtain rfl : args = #[v0, v1, v2] := by cases args; simp_all
  obtain ⟨rfl, rfl⟩ := trodVars_none hV
  have lt0 : ∀ x ∈ p0, x.block < W.heap.size := by obtain ⟨m, hm⟩ := h0; exact DataW.trod_lt m _ _ _ hm
  have lt1 : ∀ x ∈ p1, x.block < W.heap.size := by obtain ⟨m, hm⟩ := h1; exact DataW.trod_lt m _ _ _ hm
  have lt2 : ∀ x ∈ p2, x.block < W.heap.size := by obtain ⟨m, hm⟩ := h2; exact DataW.trod_lt m _ _ _ hm
  clear hA0 hval0
  refine (walk enc W base v0 d0 p0 (hval 0 25 v0 rfl rfl) h0 v1 d1 p1 (hval 1 22 v1 rfl rfl) h1 v2 d2 p2 (hval 2 22 v2 rfl rfl) h2).mono fun e W' ⟨he, bel⟩ => ?_
  subst he
  exact ⟨_, rfl, _, _, _, [], _, [], hW', trodAll_mk1 (shut_bool Try.underlying4 _), (trodAll_cons_mk (Below.trod laidOut (by kernel_rfl) (of_decide_eq_true (by kernel_rfl)) h0 bel lt0) (trodAll_cons_mk (Below.trod laidOut (by kernel_rfl) (of_decide_eq_true (by kernel_rfl)) h1 bel lt1) (trodAll_cons_mk (Below.trod laidOut (by kernel_rfl) (of_decide_eq_true (by kernel_rfl)) h2 bel lt2) trodAll_mk0))), rfl, bel.frame _, fun h => by cases h⟩
theorem over : Rows.peekCutsRow.holds Try.pinned (OpenSpec.ofChange Rows.peekCutsSpec) :=
  OpenClaim.holds_of_wide 5 Try.f5 rfl rfl rfl rfl rfl rfl rfl ⟨rfl, rfl, rfl, rfl, rfl⟩ rfl rfl rfl rfl rfl (by kernel_rfl) Try.func5 (by kernel_rfl)
    (of_decide_eq_true (by kernel_rfl)) (by unfold Func.isWrapper; first | (rw [if_pos (by decide +kernel)]; kernel_rfl) | (rw [if_neg (by decide +kernel)]; exact ⟨rfl, rfl⟩))
    (fun os started H enc _ => lifted os started H enc)
theorem proved : Rows.PeekCutsSaid := over
#print axioms proved
end Go.Proofs.Ytgdcbfekekefiaa.peekCuts

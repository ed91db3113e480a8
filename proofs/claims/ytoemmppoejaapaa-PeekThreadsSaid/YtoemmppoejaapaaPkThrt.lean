/- As the seat's text, without what nothing here names. -/
import Derived.Test.YtoemmppoejaapaaRows
import Derived.Test.YtoemmppoejaapaaPbrCt
import Derived.Test.YtoemmppoejaapaaPekVt
import Derived.Test.YtoemmppoejaapaaPekOt
import Derived.Test.YtoemmppoejaapaaPekLt
import Derived.ProofKit
import Derived.OpenShut
import Derived.ShutString
import Derived.ChangeOld
namespace Go.Proofs.Ytoemmppoejaapaa.peekThreads
open Go.ChangeShapes Go.WideShapes Go.ChangeAt Go.RowKit
open Go.ChangeMaps (open_string shut_string)
set_option linter.unusedVariables false
theorem own : ownKnob Try.prog.godebug = none := by kernel_rfl
theorem laidOut : laidOutB Try.prog = true := by kernel_rfl
open Cur Mem
set_option maxRecDepth 100000
def HkW (w w' : World) : Prop := Below w.heap.size w w'
def ThC (e b : Int) (L : List En) (Lt : List Lk) (c E0 B0 : Int) (L9 : List En) (K8 : List Lk) : Prop :=
  (¬ thok e b L Lt ∧ c = 3 ∧ E0 = 0 ∧ B0 = 0 ∧ L9 = [] ∧ K8 = []) ∨ (thok e b L Lt ∧ c = 0 ∧ E0 = e ∧ B0 = b ∧ L9 = thEn b L (fl Lt) ∧ K8 = tes b (lksOf L) Lt L.length)
theorem thc_of (e b : Int) (L : List En) (Lt : List Lk) : ∃ c E0 B0 L9 K8, ThC e b L Lt c E0 B0 L9 K8 := by
  by_cases h : thok e b L Lt
  · exact ⟨_, _, _, _, _, .inr ⟨h, rfl, rfl, rfl, rfl, rfl⟩⟩
  · exact ⟨_, _, _, _, _, .inl ⟨h, rfl, rfl, rfl, rfl, rfl⟩⟩
def ThU (c E0 B0 : Int) (L9 : List En) (K8 : List Lk) (w : World) (en : Ending) (w' : World) : Prop :=
  Below w.heap.size w w' ∧ ∃ A9 m9 A8 m8, en = .returned (.tuple #[btagg E0 B0 A9 L9.length m9, .slice A8 K8.length m8, .int .i64 c]) ∧ Ens w' (fun _ => True) A9 L9.length L9 ∧ Lks w' (fun _ => True) A8 K8.length K8
theorem thu_th {e b : Int} {L : List En} {Lt : List Lk} {c E0 B0 : Int} {L9 : List En} {K8 : List Lk} {w : World} {en : Ending} {w' : World} (h : ThC e b L Lt c E0 B0 L9 K8) (hp : ThPost e b L Lt w en w') : ThU c E0 B0 L9 K8 w en w' := by
  obtain ⟨hb, hp⟩ := hp
  refine ⟨hb, ?_⟩
  rcases h with ⟨hn, rfl, rfl, rfl, rfl, rfl⟩ | ⟨hy, rfl, rfl, rfl, rfl, rfl⟩
  · rcases hp with ⟨_, rfl⟩ | ⟨h, _⟩
    · exact ⟨none, 0, none, 0, rfl, ⟨rfl, Sq.nil _ _ _ _⟩, ⟨rfl, Sq.nil _ _ _ _⟩⟩
    · exact absurd h hn
  · rcases hp with ⟨h, _⟩ | ⟨_, g, A2, m2, ss, rfl, h1, h2, h3, h4, h5, h6, h7⟩
    · exact absurd hy h
    · have e1 := tes_is (Ls := lksOf L) (ts := Lt) (ss := ss) L.length (lpw_of_rise hy.1) h5 h7
      rw [e1] at h4 ⊢
      rw [thEn_len]
      exact ⟨_, _, _, _, rfl, h1.mono fun _ _ _ => trivial, h4.mono fun _ _ _ => trivial⟩
theorem thu_rth {e b : Int} {L : List En} {Lt : List Lk} {c E0 B0 : Int} {L9 : List En} {K8 : List Lk} {w : World} {en : Ending} {w' : World} (h : ThC e b L Lt c E0 B0 L9 K8) (hp : RThPost e b L Lt w en w') : ThU c E0 B0 L9 K8 w en w' := by
  obtain ⟨hb, hp⟩ := hp
  refine ⟨hb, ?_⟩
  rcases h with ⟨hn, rfl, rfl, rfl, rfl, rfl⟩ | ⟨hy, rfl, rfl, rfl, rfl, rfl⟩
  · rcases hp with ⟨_, rfl⟩ | ⟨h, _⟩
    · exact ⟨none, 0, none, 0, rfl, ⟨rfl, Sq.nil _ _ _ _⟩, ⟨rfl, Sq.nil _ _ _ _⟩⟩
    · exact absurd h hn
  · rcases hp with ⟨h, _⟩ | ⟨_, A2, m2, At, nt, mt, rfl, h1, h2⟩
    · exact absurd hy h
    · obtain rfl := h2.1
      rw [thEn_len]
      exact ⟨_, _, _, _, rfl, h1, h2⟩
theorem thc_again {e b : Int} {L : List En} {Lt : List Lk} {E0 B0 : Int} {L9 : List En} {K8 : List Lk} (h : ThC e b L Lt 0 E0 B0 L9 K8) : E0 = e ∧ B0 = b ∧ chnb e b L9 = true ∧ ThC e b L9 Lt 0 e b L9 K8 := by
  rcases h with ⟨hn, h0, _⟩ | ⟨hy, _, rfl, rfl, rfl, rfl⟩
  · cases h0
  · refine ⟨rfl, rfl, chnb_th hy.2, .inr ⟨⟨hy.1, ?_⟩, rfl, rfl, rfl, ?_, ?_⟩⟩
    · rw [th_th]; exact hy.2
    · rw [th_th]
    · refine lpw_eq (tes_pw (lpw_of_rise hy.1) _) (tes_pw (lpw_of_rise hy.1) _) fun s => ?_
      rw [tes_fl, tes_fl, thEn_len, te_th _ _ _ _ (Nat.le_refl _)]
theorem tls_blen {p : Int} {l ts : List Lk} (h : blen 50 ts) : ∀ i, blen 50 (tls p l ts i)
  | 0 => h
  | i + 1 => wth_blen (tls_blen h i) (by
    show (p :: (nwl p l (fl ts) i).2.take 3).length ≤ 50
    rw [List.length_cons, List.length_take]; omega)
theorem tes_blen {b : Int} {Ls : List (List Lk)} {ts : List Lk} (h : blen 50 ts) : ∀ k, blen 50 (tes b Ls ts k)
  | 0 => h
  | k + 1 => tls_blen (tes_blen h k) _
theorem blen_up {L : List Lk} (h : blen 50 L) : blen 1000000 L := fun s hs => by have := h s hs; omega
theorem thc_bd {e b : Int} {L : List En} {Lt : List Lk} {c E0 B0 : Int} {L9 : List En} {K8 : List Lk} (h : ThC e b L Lt c E0 B0 L9 K8) (hs : esm L) (hn : L.length ≤ 30) (ht : blen 50 Lt) (hl : Lt.length ≤ 50) : L9.length ≤ 30 ∧ esm L9 ∧ K8.length ≤ 1000000 ∧ blen 1000000 K8 := by
  rcases h with ⟨_, _, _, _, rfl, rfl⟩ | ⟨hy, _, _, _, rfl, rfl⟩
  · exact ⟨Nat.zero_le _, fun k => ⟨Nat.zero_le _, (show blen 50 [] from fun s hs => nomatch hs), Nat.zero_le _⟩, Nat.zero_le _, (show blen 1000000 [] from fun s hs => nomatch hs)⟩
  · refine ⟨by rw [thEn_len]; exact hn, thEn_esm (fl_len ht) hs, ?_, blen_up (tes_blen ht _)⟩
    have h1 := tes_len (b := b) (Ls := lksOf L) (ts := Lt) (m := 50) (fun k => by rw [lksOf_at]; exact (hs k).1) L.length
    have h2 : L.length * 50 ≤ 30 * 50 := Nat.mul_le_mul_right _ hn
    omega
set_option maxHeartbeats 8000000 in
theorem walk {H : Type} (enc : TypeId × Value → H) (w : World) (base : Nat) (v0 : Value) (d0 : DataW H) (p0 : List MemPlace) (g0 : Value.okWide Try.prog w .any base 25 v0) (h0 : DataW.Trod enc Try.prog w 0 (fun _ => true) true 25 v0 d0 p0) (v1 : Value) (d1 : DataW H) (p1 : List MemPlace) (g1 : Value.okWide Try.prog w .any base 28 v1) (h1 : DataW.Trod enc Try.prog w 0 (fun _ => true) true 28 v1 d1 p1) :
    Calls Try.prog 4 #[v0, v1] w fun e w' => e = .returned (.bool true) ∧ Below w.heap.size w w' := by
  obtain ⟨ep, bs, A, n, m, L, rfl, ⟨e0, e9⟩, ⟨b0, b9⟩, hnm, hnil, hz⟩ := open_batch g0 h0
  obtain ⟨At, nt, mt, Lt, rfl, htm, htn, ht⟩ := open_links g1 h1
  clear g0 h0 g1 h1
  have hX := Blk.new w (btenc ep bs A n m) 25
  have hb := below_one w (.cells (btenc ep bs A n m) 25)
  have HZ := Lib.hid hz
  have HT := Lib.hid ht
  obtain ⟨x0, x1, x2⟩ := hX.c3
  have hl := long25_any _ ep bs A n m L _ (hz.below hb)
  have HB := Lib.hid hb
  have HX := Lib.hid hX
  clear hz ht hX hb
  go_enter Try.func4, Try.ntmps4
  go_wp2_with fail
  generalize w.alloc (.cells (btenc ep bs A n m) 25) = w0 at *
  refine hl.mono ?_
  rintro e w1 ⟨lb, rfl, hbd, hlong⟩
  have HBD := Lib.hid (HB.out.trans (hbd.mono HB.out.size))
  have HX1 := Lib.hid (HX.out.below hbd)
  clear hl hbd x0 x1 x2 HX HB
  cases lb
  case true =>
    clear hlong HX1
    go_wp2_with fail
    refine (live26_any _).mono ?_
    rintro e wl ⟨rfl, hbl⟩
    have hfin := HBD.out.trans (Below.mono hbl HBD.out.size)
    go_wp2
    go_ret
    exact ⟨rfl, hfin⟩
  obtain ⟨hn30, hsm, _⟩ := hlong rfl
  have HSM := Lib.hid hsm
  clear hlong hsm
  have hl := long23_any _ At nt mt Lt w1 (HT.out.below HBD.out)
  go_wp2_with fail
  refine hl.mono ?_
  rintro e w2 ⟨lb, rfl, hbd, hlong⟩
  have HBD2 := Lib.hid (HBD.out.trans (hbd.mono HBD.out.size))
  have HX2 := Lib.hid (HX1.out.below hbd)
  clear hl hbd HBD HX1
  cases lb
  case true =>
    clear hlong HX2
    have HBD := HBD2
    clear HBD2
    go_wp2_with fail
    refine (live26_any _).mono ?_
    rintro e wl ⟨rfl, hbl⟩
    have hfin := HBD.out.trans (Below.mono hbl HBD.out.size)
    go_wp2
    go_ret
    exact ⟨rfl, hfin⟩
  obtain ⟨hnt50, hbl⟩ := hlong rfl
  have HBL := Lib.hid hbl
  clear hlong hbl
  have HLN := Lib.hid HZ.out.1
  obtain ⟨c, E0, B0, L9, K8, hC⟩ := thc_of ep bs L Lt
  obtain ⟨b1, b2, b3, b4⟩ := thc_bd hC HSM.out (by rw [HLN.out]; exact hn30) HBL.out (by rw [HT.out.1]; exact hnt50)
  have HC := Lib.hid hC
  have HS9 := Lib.hid b2
  have HK9 := Lib.hid b4
  have hth := thread_any _ _ ep bs A n m L At nt mt Lt w2 (HZ.out.below HBD2.out) hn30 HSM.out b0 b9 (HT.out.below HBD2.out) hnt50 htn HBL.out
  obtain ⟨x0, x1, x2⟩ := HX2.out.c3
  clear hC b2 b4
  go_wp2_with fail
  refine hth.mono ?_
  rintro e w3 hp
  obtain ⟨hb3, A9, m9, A8, m8, rfl, hz9, hk8⟩ := thu_th HC.out hp
  clear hth hp x0 x1 x2
  have hA := below_one w3 (.cells (btenc E0 B0 A9 L9.length m9) 25)
  have HJ4 := Lib.hid (Blk.new w3 (btenc E0 B0 A9 L9.length m9) 25)
  have HBD4 := Lib.hid ((HBD2.out.trans (hb3.mono HBD2.out.size)).trans (hA.mono (HBD2.out.trans (hb3.mono HBD2.out.size)).size))
  have HX4 := Lib.hid ((HX2.out.below hb3).below hA)
  have HZ9 := Lib.hid (hz9.below hA)
  have HK8 := Lib.hid (hk8.below hA)
  clear hb3 hz9 hk8 hA HBD2 HX2
  go_upto_region 4 with (fail)
  generalize w3.alloc (.cells (btenc E0 B0 A9 L9.length m9) 25) = w4 at *
  generalize w3.heap.size = jb at *
  have hrt := rthread_any ep bs A n m L At nt mt Lt w4 ((HZ.out.below HBD4.out).mono (fun x hx _ => Nat.lt_of_lt_of_le hx HBD4.out.size)) hn30 HSM.out e0 b0 b9 ((HT.out.below HBD4.out).mono (fun x hx _ => Nat.lt_of_lt_of_le hx HBD4.out.size)) hnt50 HBL.out
  obtain ⟨x0, x1, x2⟩ := HX4.out.c3
  go_wp2_with fail
  refine hrt.mono ?_
  rintro e w5 hp
  obtain ⟨hb5, A7, m7, A6, m6, rfl, hz7, hk6⟩ := thu_rth HC.out hp
  clear hrt hp x0 x1 x2
  have hA := below_one w5 (.cells (btenc E0 B0 A7 L9.length m7) 25)
  have hbA := hb5.trans (hA.mono hb5.size)
  have HO6 := Lib.hid (Blk.new w5 (btenc E0 B0 A7 L9.length m7) 25)
  have HBD6 := Lib.hid (HBD4.out.trans (hbA.mono HBD4.out.size))
  have HX6 := Lib.hid (HX4.out.below hbA)
  have HJ6 := Lib.hid (HJ4.out.below hbA)
  have HZ69 := Lib.hid (HZ9.out.below hbA)
  have HK68 := Lib.hid (HK8.out.below hbA)
  have HZ67 := Lib.hid (hz7.below hA)
  have HK66 := Lib.hid (hk6.below hA)
  clear hb5 hz7 hk6 hA hbA HBD4 HX4 HJ4 HZ9 HK8
  go_upto_region 5 with (fail)
  generalize w5.alloc (.cells (btenc E0 B0 A7 L9.length m7) 25) = w6 at *
  generalize w5.heap.size = ob at *
  obtain ⟨y0, y1, y2⟩ := HJ6.out.c3
  obtain ⟨z0, z1, z2⟩ := HO6.out.c3
  have hsm := rsame25_any _ _ E0 B0 E0 B0 A9 A7 L9.length m9 L9.length m7 L9 L9 w6 HZ69.out HZ67.out (by omega) (by omega) HS9.out HS9.out
  unfold BPost at hsm
  rw [decide_eq_true rfl] at hsm
  have ecc : (c != c) = false := by simp
  go_wp2_with fail
  refine hsm.mono ?_
  rintro e w7 ⟨rfl, hb7⟩
  have hsl := rlsame_any _ _ A8 A6 K8.length K8.length m8 m6 K8 K8 w7 (HK68.out.below hb7) (HK66.out.below hb7) b3 b3 HK9.out HK9.out
  unfold BPost at hsl
  rw [decide_eq_true rfl] at hsl
  have HBD7 := Lib.hid (HBD6.out.trans (hb7.mono HBD6.out.size))
  have HJ7 := Lib.hid (HJ6.out.below hb7)
  have HZ7 := Lib.hid (HZ69.out.below hb7)
  have HK7 := Lib.hid (HK68.out.below hb7)
  clear hsm hb7 y0 y1 y2 z0 z1 z2 ecc HBD6 HX6 HJ6 HO6 HZ69 HK68 HZ67 HK66
  go_wp2_with fail
  refine hsl.mono ?_
  rintro e w8 ⟨rfl, hb8⟩
  have HBD8 := Lib.hid (HBD7.out.trans (hb8.mono HBD7.out.size))
  have HJ8 := Lib.hid (HJ7.out.below hb8)
  have HZ8 := Lib.hid (HZ7.out.below hb8)
  have HK8 := Lib.hid (HK7.out.below hb8)
  clear hsl hb8 HBD7 HJ7 HZ7 HK7
  by_cases hc0 : c = 0
  case neg =>
    have hcc : (c != 0) = true := by simp [hc0]
    have HBD := HBD8
    clear hc0 HBD8
    go_wp2_with fail
    refine (live26_any _).mono ?_
    rintro e wl ⟨rfl, hbl⟩
    have hfin := HBD.out.trans (Below.mono hbl HBD.out.size)
    go_wp2
    go_ret
    exact ⟨rfl, hfin⟩
  subst hc0
  obtain ⟨rfl, rfl, hch, hC2⟩ := thc_again HC.out
  have HCH := Lib.hid hch
  have HC2 := Lib.hid hC2
  have hth := thread_any _ _ E0 B0 A9 L9.length m9 L9 At nt mt Lt w8 HZ8.out b1 HS9.out b0 b9 (HT.out.below HBD8.out) hnt50 htn HBL.out
  obtain ⟨y0, y1, y2⟩ := HJ8.out.c3
  clear hch hC2 HC
  go_wp2_with fail
  refine hth.mono ?_
  rintro e w9 hp
  obtain ⟨hb9, Az, mz, An, mn, rfl, hz, hk⟩ := thu_th HC2.out hp
  clear hth hp y0 y1 y2
  have hA := below_one w9 (.cells (btenc E0 B0 Az L9.length mz) 25)
  have hbA := hb9.trans (hA.mono hb9.size)
  have HO10 := Lib.hid (Blk.new w9 (btenc E0 B0 Az L9.length mz) 25)
  have HBD10 := Lib.hid (HBD8.out.trans (hbA.mono HBD8.out.size))
  have HJ10 := Lib.hid (HJ8.out.below hbA)
  have HZ10 := Lib.hid (HZ8.out.below hbA)
  have HK10 := Lib.hid (HK8.out.below hbA)
  have HZz := Lib.hid (hz.below hA)
  have HKn := Lib.hid (hk.below hA)
  clear hb9 hz hk hA hbA HBD8 HJ8 HZ8 HK8
  go_upto_region 10 with (fail)
  generalize w9.alloc (.cells (btenc E0 B0 Az L9.length mz) 25) = wa at *
  generalize w9.heap.size = zb at *
  obtain ⟨y0, y1, y2⟩ := HJ10.out.c3
  obtain ⟨z0, z1, z2⟩ := HO10.out.c3
  have hcd := chained_any _ E0 B0 A9 L9.length m9 L9 wa HZ10.out (by omega) HS9.out b0 b9
  unfold BPost at hcd
  rw [HCH.out] at hcd
  go_wp2_with fail
  refine hcd.mono ?_
  rintro e wb ⟨rfl, hbb⟩
  have HBDb := Lib.hid (HBD10.out.trans (hbb.mono HBD10.out.size))
  have HJb := HJ10.out.below hbb
  have HOb := HO10.out.below hbb
  have hsm := rsame25_any _ _ E0 B0 E0 B0 Az A9 L9.length mz L9.length m9 L9 L9 wb (HZz.out.below hbb) (HZ10.out.below hbb) (by omega) (by omega) HS9.out HS9.out
  unfold BPost at hsm
  rw [decide_eq_true rfl] at hsm
  have HKb := Lib.hid (HK10.out.below hbb)
  have HKnb := Lib.hid (HKn.out.below hbb)
  clear hcd hbb y0 y1 y2 z0 z1 z2 HBD10 HJ10 HO10 HZ10 HK10 HZz HKn
  obtain ⟨y0, y1, y2⟩ := HJb.c3
  obtain ⟨z0, z1, z2⟩ := HOb.c3
  clear HJb HOb
  go_wp2_with fail
  refine hsm.mono ?_
  rintro e wc ⟨rfl, hbc⟩
  have HBDc := Lib.hid (HBDb.out.trans (hbc.mono HBDb.out.size))
  have hsl := rlsame_any _ _ An A8 K8.length K8.length mn m8 K8 K8 wc (HKnb.out.below hbc) (HKb.out.below hbc) b3 b3 HK9.out HK9.out
  unfold BPost at hsl
  rw [decide_eq_true rfl] at hsl
  clear hsm hbc y0 y1 y2 z0 z1 z2 HKb HKnb HBDb
  go_wp2_with fail
  refine hsl.mono ?_
  rintro e wd ⟨rfl, hbd⟩
  have HBD := Lib.hid (HBDc.out.trans (hbd.mono HBDc.out.size))
  clear hsl hbd HBDc
  go_wp2_with fail
  refine (live26_any _).mono ?_
  rintro e wl ⟨rfl, hbl⟩
  have hfin := HBD.out.trans (Below.mono hbl HBD.out.size)
  go_wp2
  go_ret
  exact ⟨rfl, hfin⟩
set_option maxRecDepth 100000 in
theorem lifted (os : Os) (started : os.Started) (H : Type) (enc : TypeId × Value → H) :
    ReturnsInHanded {} Try.checked os 4 .any (Rows.peekThreadsSpec.pre6 enc Try.prog Try.f4 Rows.peekThreadsRow.domain false) (Rows.peekThreadsSpec.post enc Try.prog Try.f4 false true false false) := by
  refine returnsInHanded_of_change (C := Try.checked) own started (by kernel_rfl) Try.func4
    (ChangeSpec.witness6 (enc := enc) (C := Try.checked) false ⟨#[], #[.agg #[.int .u64 0, .int .u64 0, .slice none 0 0], .slice none 0 0], []⟩ 8 (by kernel_rfl) (by kernel_rfl) (by kernel_rfl) (by kernel_rfl)) ?_
  intro W base args ds gs before hval0 hW hcnd _
  have hval : ∀ (j : Nat) t v, Try.f4.params[j]? = some t → args[j]? = some v → Value.okWide Try.prog W .any base t v := hval0
  have hW' := hW
  obtain ⟨p, q, hA0, hV, rfl, hfz, hnd⟩ := hW
  have hA : DataW.TrodAll enc Try.prog W 0 (fun _ => true) true Try.f4.params.toList args.toList ds p := hA0
  rw [Try.params4] at hA hval
  obtain ⟨v0, vs0, d0, ds0, p0, q0, hargs, rfl, rfl, h0, r0⟩ := trodAll_cons hA
  obtain ⟨v1, vs1, d1, ds1, p1, q1, rfl, rfl, rfl, h1, r1⟩ := trodAll_cons r0
  obtain ⟨rfl, rfl, rfl⟩ := trodAll_nil r1
  obtain rfl : args = #[v0, v1] := by cases args; simp_all
  obtain ⟨rfl, rfl⟩ := trodVars_none hV
  have lt0 : ∀ x ∈ p0, x.block < W.heap.size := by obtain ⟨m, hm⟩ := h0; exact DataW.trod_lt m _ _ _ hm
  have lt1 : ∀ x ∈ p1, x.block < W.heap.size := by obtain ⟨m, hm⟩ := h1; exact DataW.trod_lt m _ _ _ hm
  clear hA0 hval0
  refine (walk enc W base v0 d0 p0 (hval 0 25 v0 rfl rfl) h0 v1 d1 p1 (hval 1 28 v1 rfl rfl) h1).mono fun e W' ⟨he, bel⟩ => ?_
  subst he
  exact ⟨_, rfl, _, _, _, [], _, [], hW', trodAll_mk1 (shut_bool Try.underlying4 _), (trodAll_cons_mk (Below.trod laidOut (by kernel_rfl) (of_decide_eq_true (by kernel_rfl)) h0 bel lt0) (trodAll_cons_mk (Below.trod laidOut (by kernel_rfl) (of_decide_eq_true (by kernel_rfl)) h1 bel lt1) trodAll_mk0)), rfl, bel.frame _, fun h => by cases h⟩
theorem over : Rows.peekThreadsRow.holds Try.pinned (OpenSpec.ofChange Rows.peekThreadsSpec) :=
  OpenClaim.holds_of_wide 4 Try.f4 rfl rfl rfl rfl rfl rfl rfl ⟨rfl, rfl, rfl, rfl, rfl⟩ rfl rfl rfl rfl rfl (by kernel_rfl) Try.func4 (by kernel_rfl)
    (of_decide_eq_true (by kernel_rfl)) (by unfold Func.isWrapper; first | (rw [if_pos (by decide +kernel)]; kernel_rfl) | (rw [if_neg (by decide +kernel)]; exact ⟨rfl, rfl⟩))
    (fun os started H enc _ => lifted os started H enc)
theorem proved : Rows.PeekThreadsSaid := over
#print axioms proved
end Go.Proofs.Ytoemmppoejaapaa.peekThreads

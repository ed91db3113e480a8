/- As the seat's text, without what nothing here names. -/
import Derived.Test.YtgdcbfekekefiaaRows
import Derived.Test.YtgdcbfekekefiaaPekXj
import Derived.Test.YtgdcbfekekefiaaPekTj
import Derived.Test.YtgdcbfekekefiaaPekVj
import Derived.Deep.CutRange
import Derived.ProofKit
import Derived.OpenShut
import Derived.ShutString
import Derived.ChangeOld
namespace Go.Proofs.Ytgdcbfekekefiaa.peekJoins
open Go.ChangeShapes Go.WideShapes Go.ChangeAt Go.RowKit
open Go.ChangeMaps (open_string shut_string)
set_option linter.unusedVariables false
theorem own : ownKnob Try.prog.godebug = none := by kernel_rfl
theorem laidOut : laidOutB Try.prog = true := by kernel_rfl
open Cur Mem
set_option maxRecDepth 100000
def HkW (w w' : World) : Prop := Below w.heap.size w w'
set_option maxHeartbeats 8000000 in
theorem walk {H : Type} (enc : TypeId × Value → H) (w : World) (base : Nat) (v0 : Value) (d0 : DataW H) (p0 : List MemPlace) (g0 : Value.okWide Try.prog w .any base 25 v0) (h0 : DataW.Trod enc Try.prog w 0 (fun _ => true) true 25 v0 d0 p0) (v1 : Value) (d1 : DataW H) (p1 : List MemPlace) (g1 : Value.okWide Try.prog w .any base 25 v1) (h1 : DataW.Trod enc Try.prog w 0 (fun _ => true) true 25 v1 d1 p1) (v2 : Value) (d2 : DataW H) (p2 : List MemPlace) (g2 : Value.okWide Try.prog w .any base 22 v2) (h2 : DataW.Trod enc Try.prog w 0 (fun _ => true) true 22 v2 d2 p2) :
    Calls Try.prog 6 #[v0, v1, v2] w fun e w' => e = .returned (.bool true) ∧ Below w.heap.size w w' := by
  obtain ⟨ep, bs, A, n, m, L, rfl, ⟨e0, e9⟩, ⟨b0, b9⟩, hnm, hnil, hz⟩ := open_batch g0 h0
  obtain ⟨ep', bs', A', n', m', L', rfl, ⟨c0, c9⟩, ⟨a0, a9⟩, hnm', hnil', hz'⟩ := open_batch g1 h1
  obtain ⟨q, rfl, q0, q9⟩ := open_u64 g2 h2
  clear g0 h0 g1 h1 g2 h2
  have hX := (Blk.new w (btenc ep bs A n m) 25).alloc (.cells (btenc ep' bs' A' n' m') 25)
  have hX' := Blk.new (w.alloc (.cells (btenc ep bs A n m) 25)) (btenc ep' bs' A' n' m') 25
  rw [World.size_alloc] at hX'
  have hb := below_two w (.cells (btenc ep bs A n m) 25) (.cells (btenc ep' bs' A' n' m') 25)
  have HSZ : Hid (((w.alloc (.cells (btenc ep bs A n m) 25)).alloc (.cells (btenc ep' bs' A' n' m') 25)).heap.size = w.heap.size + 2) := Lib.hid (by simp)
  have HZ := Lib.hid hz
  have HZ' := Lib.hid hz'
  have hl := long25_any _ ep bs A n m L _ (hz.below hb)
  clear hz hz'
  obtain ⟨x0, x1, x2⟩ := hX.c3
  obtain ⟨z0, z1, z2⟩ := hX'.c3
  go_enter Try.func6, Try.ntmps6
  go_wp2_with fail
  generalize (w.alloc (.cells (btenc ep bs A n m) 25)).alloc (.cells (btenc ep' bs' A' n' m') 25) = w0 at *
  refine hl.mono ?_
  rintro e w1 ⟨lb, rfl, hbd, hlong⟩
  have HBD := Lib.hid (hb.trans (hbd.mono hb.size))
  have hX1 := hX.below hbd
  have hX1' := hX'.below hbd
  have hs1 := hbd.size
  clear hl hbd x0 x1 x2 z0 z1 z2 hX hX' hb
  cases lb
  case true =>
    clear hlong hX1 hX1'
    go_wp2_with fail
    refine (live26_any _).mono ?_
    rintro e wl ⟨rfl, hbl⟩
    have hfin := HBD.out.trans (Below.mono hbl HBD.out.size)
    go_wp2
    go_ret
    exact ⟨rfl, hfin⟩
  obtain ⟨hn30, hsm, _⟩ := hlong rfl
  have HSM := Lib.hid hsm
  clear hlong hsm
  obtain ⟨x0, x1, x2⟩ := hX1.c3
  obtain ⟨z0, z1, z2⟩ := hX1'.c3
  have hl := long25_any _ ep' bs' A' n' m' L' _ (HZ'.out.below HBD.out)
  go_wp2_with fail
  refine hl.mono ?_
  rintro e w2 ⟨lb, rfl, hbd, hlong⟩
  have HBD2 := Lib.hid (HBD.out.trans (hbd.mono HBD.out.size))
  have hX2 := hX1.below hbd
  have hX2' := hX1'.below hbd
  have hs2 := hbd.size
  clear hl hbd x0 x1 x2 z0 z1 z2 hX1 hX1' HBD
  cases lb
  case true =>
    clear hlong hX2 hX2'
    have HBD := HBD2
    clear HBD2
    go_wp2_with fail
    refine (live26_any _).mono ?_
    rintro e wl ⟨rfl, hbl⟩
    have hfin := HBD.out.trans (Below.mono hbl HBD.out.size)
    go_wp2
    go_ret
    exact ⟨rfl, hfin⟩
  obtain ⟨hn30', hsm, _⟩ := hlong rfl
  have HSM' := Lib.hid hsm
  clear hlong hsm
  have HLN := Lib.hid HZ.out.1
  have HLN' := Lib.hid HZ'.out.1
  obtain ⟨x0, x1, x2⟩ := hX2.c3
  obtain ⟨z0, z1, z2⟩ := hX2'.c3
  have hjo := peekjoin_any _ _ ep bs A n m L ep' bs' A' n' m' L' w2 (HZ.out.below HBD2.out) (HZ'.out.below HBD2.out) (by omega) (by omega) HSM.out HSM'.out b0 b9 a0 a9 hnm hnil hnm' hnil'
  unfold PJoinPost at hjo
  obtain ⟨J, hJ⟩ : ∃ J, J = jc26 ep bs L ep' bs' L' := ⟨_, rfl⟩
  rw [← hJ] at hjo
  have HJ := Lib.hid hJ
  clear hJ
  go_wp2_with fail
  refine hjo.mono ?_
  rintro e w3 ⟨hb3, hcase⟩
  have hu : ∃ E0 B0 A9 N9 m9 L9, e = .returned (.tuple #[btagg E0 B0 A9 N9 m9, .int .i64 J]) ∧ Ens w3 (fun k => k < w3.heap.size) A9 N9 L9 ∧ esm L9 ∧ N9 ≤ 60 ∧ Hid ((J ≠ 0 ∧ ((E0, B0, L9) : Bt) = (0, 0, [])) ∨ (J = 0 ∧ ((E0, B0, L9) : Bt) = (ep, bs, L ++ L'))) := by
    rcases hcase with ⟨hj, rfl⟩ | ⟨hj, A9, m9, rfl, hz9⟩
    · exact ⟨0, 0, none, 0, 0, [], rfl, ⟨rfl, Sq.nil _ _ _ _⟩, fun k => ⟨Nat.zero_le _, (show blen 50 [] from fun s hs => nomatch hs), Nat.zero_le _⟩, by omega, Lib.hid (.inl ⟨hj, rfl⟩)⟩
    · exact ⟨ep, bs, A9, n + n', m9, L ++ L', by rw [hj], hz9.mono fun _ _ h => h, esm_app HSM.out HSM'.out, by omega, Lib.hid (.inr ⟨hj, rfl⟩)⟩
  clear hcase hjo
  obtain ⟨E0, B0, A9, N9, m9, L9, rfl, hz9, hsm9, hN9, HU⟩ := hu
  have HSM9 := Lib.hid hsm9
  have HBD3 := Lib.hid (HBD2.out.trans (hb3.mono HBD2.out.size))
  have hX3 := hX2.below hb3
  have hX3' := hX2'.below hb3
  have hs3 := hb3.size
  clear hsm9 hb3 x0 x1 x2 z0 z1 z2 hX2 hX2' HBD2
  have hJ4 := Blk.new w3 (btenc E0 B0 A9 N9 m9) 25
  have hb4 := below_one w3 (.cells (btenc E0 B0 A9 N9 m9) 25)
  have hX4 := hX3.below hb4
  have hX4' := hX3'.below hb4
  have hz4 := hz9.below hb4
  have HBD4 := Lib.hid (HBD3.out.trans (hb4.mono HBD3.out.size))
  have hs4 : w3.heap.size < (w3.alloc (.cells (btenc E0 B0 A9 N9 m9) 25)).heap.size := by simp
  have h03 := HBD3.out.size
  clear hX3 hX3' hz9 HBD3 hb4
  go_upto_region 4 with (fail)
  obtain ⟨jb, hjb⟩ : ∃ jb, jb = w3.heap.size := ⟨_, rfl⟩
  rw [← hjb] at hJ4 hs4 h03 hs3 hz4 ⊢
  generalize w3.alloc (.cells (btenc E0 B0 A9 N9 m9) 25) = w4 at *
  clear hjb
  obtain ⟨x0, x1, x2⟩ := hX4.c3
  have hO5 := Blk.new w4 (btenc ep bs none 0 0) 25
  have hb5 := below_one w4 (.cells (btenc ep bs none 0 0) 25)
  have hX5 := hX4.below hb5
  have hX5' := hX4'.below hb5
  have hJ5 := hJ4.below hb5
  have hz5 := hz4.below hb5
  have HBD5 := Lib.hid (HBD4.out.trans (hb5.mono HBD4.out.size))
  have hs5 : w4.heap.size < (w4.alloc (.cells (btenc ep bs none 0 0) 25)).heap.size := by simp
  clear hX4 hX4' hJ4 hz4 HBD4 hb5
  go_upto_region 6 with (fail)
  obtain ⟨ob, hob⟩ : ∃ ob, ob = w4.heap.size := ⟨_, rfl⟩
  rw [← hob] at hO5 hs5 hs4 ⊢
  generalize w4.alloc (.cells (btenc ep bs none 0 0) 25) = w5 at *
  clear hob x0 x1 x2
  have L1 : ∀ w', HkW w5 w' → w'.cell? ⟨w.heap.size, 2, none⟩ = some (.slice A n m) := fun w' h => (hX5.below h).c3.2.2
  have L2 : ∀ w', HkW w5 w' → w'.cell? ⟨w.heap.size + 1, 2, none⟩ = some (.slice A' n' m') := fun w' h => (hX5'.below h).c3.2.2
  have L3 : ∀ w', HkW w5 w' → w'.cell? ⟨ob, 2, none⟩ = some (.slice none 0 0) := fun w' h => (hO5.below h).c3.2.2
  have hS : HkW w5 w5.drew := below_one' _
  refine Seq.wp_region_last (HkW w5) (by kernel_rfl) (by kernel_rfl) (by kernel_rfl) hS ?_
  generalize w5.drew = wd at *
  repeat (first | (refine Seq.SeqE.skip (by rfl) ?_; (try simp only [Act.put, List.setIfInBounds_toArray, List.set_cons_zero, List.set_cons_succ])) | (refine Seq.SeqE.det ?_ (by rfl) (fun w hS => ?_) ?_; rotate_left; ((try dsimp only at hS); go_simp; (try rw [if_pos (by omega)]); with_reducible rfl); (try simp only [Act.put, List.setIfInBounds_toArray, List.set_cons_zero, List.set_cons_succ])))
  refine Seq.SeqE.make (by rfl) (by rfl) (fun K Q' hK => ?_)
  have hS' : Below w5.heap.size w5 wd := hS
  obtain ⟨ds, u1, u2, u3, u4⟩ := ((HZ.out.mono (Q := fun b => b < w5.heap.size ∧ b < w.heap.size) (fun b _ h => ⟨by have := HBD5.out.size; omega, h⟩)).below (HBD5.out.trans (hS'.mono HBD5.out.size))).2.raw
  rw [HLN.out, show EnE.k = 2 from rfl] at u2
  refine oper_append_rwl kindEN (.tmp 37) (.tmp 39) rfl w5.heap.size (.slice none 0 0) 0 [] rfl (World.ownsRow_nil wd w5.heap.size 31 2) A n m ds.flatten rfl u2 u3 hnil u4 (by omega) (by omega) hS'.size ?_
  intro v6 w6 ho6 hg6 hgr6
  have hO6 : OwnC (fun k => k < w.heap.size) w6 w5.heap.size v6 L := OwnC.app (P := fun k => k < w.heap.size) (L := []) (cs := []) trivial (World.ownsRow_nil wd w5.heap.size 31 2) hS'.size u1 HLN.out (by exact ho6) hg6
  have hS6 : HkW w5 w6 := Below.grown hS' hg6 hS'.size (fun k e => nomatch e)
  clear ho6 hg6 hgr6 u1 u2 u3 u4 hS' hS
  refine hK.out _ _ (hS6) ?_
  clear hK K
  try simp only [Act.put, List.setIfInBounds_toArray, List.set_cons_zero, List.set_cons_succ]
  have hS := hS6
  clear hS6
  repeat (first | (refine Seq.SeqE.skip (by rfl) ?_; (try simp only [Act.put, List.setIfInBounds_toArray, List.set_cons_zero, List.set_cons_succ])) | (refine Seq.SeqE.det ?_ (by rfl) (fun w hS => ?_) ?_; rotate_left; ((try dsimp only at hS); go_simp; (try rw [if_pos (by omega)]); with_reducible rfl); (try simp only [Act.put, List.setIfInBounds_toArray, List.set_cons_zero, List.set_cons_succ])))
  refine Seq.SeqE.make (by rfl) (by rfl) (fun K Q' hK => ?_)
  have hS' : Below w5.heap.size w5 w6 := hS
  obtain ⟨cs, k1, k2, k3⟩ := hO6
  have k2' : w6.ownsRow w5.heap.size 31 2 v6 n cs.flatten := by
    have := k2
    rw [HLN.out] at this
    exact this
  obtain ⟨ds', u1, u2, u3, u4⟩ := ((HZ'.out.mono (Q := fun b => b < w5.heap.size ∧ b < w.heap.size) (fun b _ h => ⟨by have := HBD5.out.size; omega, h⟩)).below (HBD5.out.trans (hS'.mono HBD5.out.size))).2.raw
  rw [HLN'.out, show EnE.k = 2 from rfl] at u2
  refine oper_append_rwl kindEN (.tmp 40) (.tmp 42) rfl w5.heap.size v6 n cs.flatten rfl k2' A' n' m' ds'.flatten rfl u2 u3 hnil' u4 (by omega) (by omega) hS'.size ?_
  intro v7 w7 ho7 hg7 hgr7
  have hO7 : OwnC (fun k => k < w.heap.size) w7 w5.heap.size v7 (L ++ L') := OwnC.app k1 k2 hS'.size u1 HLN'.out (by rw [HLN.out]; exact ho7) hg7
  have hS7 : HkW w5 w7 := Below.grown hS' hg7 hS'.size (fun k e => own_ge k2' k e)
  clear ho7 hg7 hgr7 u1 u2 u3 u4 hS' hS k1 k2 k3 k2'
  obtain ⟨R, c7, hv7, z1, z2, z3⟩ := OwnQ.slice hO7
  have hlen : (L ++ L').length = n + n' := by rw [List.length_append, HLN.out, HLN'.out]
  rw [hlen] at hv7
  have hoge := hO7.ge
  have hE7 : Ens w7 (fun k => k ≠ ob) R (n + n') (L ++ L') := ⟨hlen, z3.mono fun k hk _ => by
    rcases hk with h | h
    · have h9 : k < w.heap.size := h.2
      show k ≠ ob
      omega
    · have := hoge k h
      show k ≠ ob
      omega⟩
  clear hO7 z1 z2 z3 hlen hoge
  subst hv7
  refine hK.out _ _ (hS7) ?_
  clear hK K
  try simp only [Act.put, List.setIfInBounds_toArray, List.set_cons_zero, List.set_cons_succ]
  have hS := hS7
  clear hS7
  repeat (first | (refine Seq.SeqE.skip (by rfl) ?_; (try simp only [Act.put, List.setIfInBounds_toArray, List.set_cons_zero, List.set_cons_succ])) | (refine Seq.SeqE.det ?_ (by rfl) (fun w hS => ?_) ?_; rotate_left; ((try dsimp only at hS); go_simp; (try rw [if_pos (by omega)]); with_reducible rfl); (try simp only [Act.put, List.setIfInBounds_toArray, List.set_cons_zero, List.set_cons_succ])))
  have hX7 := hX5.below hS
  have hX7' := hX5'.below hS
  have hJ7 := hJ5.below hS
  have hO7 := hO5.below hS
  have hz7 := hz5.below hS
  have HBD7 := Lib.hid (HBD5.out.trans (Below.mono (show Below w5.heap.size w5 w7 from hS) HBD5.out.size))
  obtain ⟨y0, y1, y2⟩ := hO7.c3
  obtain ⟨f0, f1, f2⟩ := blk_f3 hO7
  clear L1 L2 L3 hX5 hX5' hJ5 hO5 hz5 HBD5
  refine Seq.SeqE.last (by rfl) (by rfl) (fun K Q' hK => ?_)
  go_simp
  refine hK.out _ _ ?_
  clear hK K
  try simp only [Act.put, List.setIfInBounds_toArray, List.set_cons_zero, List.set_cons_succ]
  have hsz := HSZ.out
  have hk8 := Kp.setCell w7 ob 2 (.slice R (n + n') c7)
  have hO8 : Blk (w7.setCell ⟨ob, 2, none⟩ (.slice R (n + n') c7)) ob (btenc ep bs R (n + n') c7) 25 := hO7.set 2 _
  have hX8 := blk_kp hX7 hk8 (by omega)
  have hX8' := blk_kp hX7' hk8 (by omega)
  have hJ8 := blk_kp hJ7 hk8 (by omega)
  have hE8 := hE7.keep (w' := _) fun g h1 h2 => hk8.block g h2 h1
  have hz8 := hz7.keep (w' := _) fun g h1 h2 => hk8.block g h2 (by have h9 : g < jb := h1; omega)
  have HBD8 := Lib.hid (Kp.below HBD7.out (Nat.le_refl _) hk8 (by omega))
  clear hX7 hX7' hJ7 hO7 hz7 HBD7 y0 y1 y2 f0 f1 f2 hS hE7 hk8
  generalize w7.setCell ⟨ob, 2, none⟩ (.slice R (n + n') c7) = w8 at *
  go_step
  go_step
  go_step
  go_cut [9] from 45 to 72 (fun v9 wx => v9 = .int .i64 J ∧ Hid (Below w8.heap.size w8 wx))
  case first =>
    obtain ⟨x0, x1, x2⟩ := hX8.c3
    have hR := rbright_any _ ep bs A n m L w8 (HZ.out.below HBD8.out) (by omega) HSM.out e0 b0 b9
    unfold BPost at hR
    go_wp2_with fail
    refine hR.mono ?_
    rintro e w9 ⟨rfl, hb9⟩
    have hX9 := hX8.below hb9
    have hX9' := hX8'.below hb9
    have hO9 := hO8.below hb9
    have hE9 := hE8.below hb9
    have HC9 := Lib.hid hb9
    clear hR hX8 hX8' hO8 hE8 hz8 hJ8 x0 x1 x2 hb9
    obtain ⟨x0, x1, x2⟩ := hX9.c3
    obtain ⟨z0, z1, z2⟩ := hX9'.c3
    cases hok : btk (ep, bs, L)
    · have HJJ : Hid (J = 3) := Lib.hid (HJ.out.trans (jc26_bad (.inl hok)))
      clear hok
      go_wp2_with fail
      go_meet
      exact ⟨by rw [HJJ.out], HC9⟩
    have hR := rbright_any _ ep' bs' A' n' m' L' w9 (HZ'.out.below (HBD8.out.trans (HC9.out.mono HBD8.out.size))) (by omega) HSM'.out c0 a0 a9
    unfold BPost at hR
    have HOK := Lib.hid hok
    clear hok
    go_wp2_with fail
    refine hR.mono ?_
    rintro e w10 ⟨rfl, hb10⟩
    have hX10 := hX9.below hb10
    have hX10' := hX9'.below hb10
    have hO10 := hO9.below hb10
    have hE10 := hE9.below hb10
    have HC10 := Lib.hid (HC9.out.trans (hb10.mono HC9.out.size))
    clear hR hX9 hX9' hO9 hE9 x0 x1 x2 z0 z1 z2 hb10 HC9
    obtain ⟨x0, x1, x2⟩ := hX10.c3
    obtain ⟨z0, z1, z2⟩ := hX10'.c3
    obtain ⟨y0, y1, y2⟩ := hO10.c3
    cases hok' : btk (ep', bs', L')
    · have HJJ : Hid (J = 3) := Lib.hid (HJ.out.trans (jc26_bad (.inr hok')))
      clear hok'
      go_wp2_with fail
      go_meet
      exact ⟨by rw [HJJ.out], HC10⟩
    have HOK' := Lib.hid hok'
    have hfit := fitn_bd (btk_fitx HOK.out)
    have hln := HLN.out
    dsimp only at hfit
    have e4 : IntKind.u64.wrap (bs + n) = bs + n := IntWalk.u64_in _ (by omega)
    have e5 : IntKind.u64.wrap (n : Int) = n := IntWalk.u64_in _ (by omega)
    clear hok' hfit
    by_cases h1 : bs + n = bs'
    case neg =>
      have HJJ : Hid (J = 13) := Lib.hid (HJ.out.trans (jc26_off HOK.out HOK'.out (fun h => h1 (by omega))))
      have q1 : (bs + (n : Int) != bs') = true := by rw [bne_iff_ne]; exact h1
      clear hln h1
      go_wp2_with fail
      go_meet
      exact ⟨by rw [HJJ.out], HC10⟩
    subst h1
    by_cases h2 : ep' = ep
    case neg =>
      have HJJ : Hid (J = 13) := Lib.hid (HJ.out.trans (jc26_off HOK.out HOK'.out (fun h => h2 h.2)))
      have q1 : (ep != ep') = true := by rw [bne_iff_ne]; exact fun h => h2 h.symm
      clear hln h2
      go_wp2_with fail
      go_meet
      exact ⟨by rw [HJJ.out], HC10⟩
    subst h2
    have hj := jc26_on HOK.out HOK'.out ⟨show bs + (L.length : Int) = bs + n by rw [HLN.out], rfl⟩
    have HJ2 := Lib.hid (HJ.out.trans hj)
    have hR := rbright_any _ ep' bs R (n + n') c7 (L ++ L') w10 hE10 (by omega) (esm_app HSM.out HSM'.out) e0 b0 b9
    unfold BPost at hR
    clear hj hln
    go_wp2_with fail
    refine hR.mono ?_
    rintro e w11 ⟨rfl, hb11⟩
    have HC11 := Lib.hid (HC10.out.trans (hb11.mono HC10.out.size))
    clear hR hb11 HC10
    cases hok2 : btk (ep', bs, L ++ L')
    · have HJJ : Hid (J = 2) := Lib.hid (HJ2.out.trans (by rw [hok2]; rfl))
      clear hok2
      go_wp2_with fail
      go_meet
      exact ⟨by rw [HJJ.out], HC11⟩
    have HJJ : Hid (J = 0) := Lib.hid (HJ2.out.trans (by rw [hok2]; rfl))
    clear hok2
    go_wp2_with fail
    go_meet
    exact ⟨by rw [HJJ.out], HC11⟩
  case rest =>
  obtain ⟨rfl, hcut⟩ := hcut
  have hb9 := hcut.out
  have hX9 := hX8.below hb9
  have hJ9 := hJ8.below hb9
  have hO9 := hO8.below hb9
  have hE9 := hE8.below hb9
  have hz9 := hz8.below hb9
  have HBD9 := Lib.hid (HBD8.out.trans (hb9.mono HBD8.out.size))
  clear hX8 hX8' hO8 hE8 hz8 hJ8 hb9 hcut HBD8
  generalize wc = w9 at *
  go_step
  go_step
  go_cut [95] from 73 to 95 (fun v95 wx => v95 = .bool false ∧ Hid (Below w9.heap.size w9 wx))
  case first =>
    obtain ⟨x0, x1, x2⟩ := hJ9.c3
    obtain ⟨z0, z1, z2⟩ := hO9.c3
    have HZM : Hid (esm []) := Lib.hid (fun k => ⟨Nat.zero_le _, (show blen 50 [] from fun s hs => nomatch hs), Nat.zero_le _⟩)
    have q1 : (J != J) = false := by simp
    rcases HU.out with ⟨hj, hu⟩ | ⟨hj, hu⟩
    · have q2 : (J == 0) = false := by rw [beq_eq_false_iff_ne]; exact hj
      have q3 : (J != 0) = true := by rw [bne_iff_ne]; exact hj
      have hS := rsame25_any _ (fun _ => True) E0 B0 0 0 A9 none N9 m9 0 0 L9 [] w9 hz9 ⟨rfl, Sq.nil _ _ _ _⟩ (by omega) (by omega) HSM9.out HZM.out
      rw [decide_eq_true hu] at hS
      unfold BPost at hS
      clear hj hu
      go_wp2_with fail
      refine hS.mono ?_
      rintro e w10 ⟨rfl, hb10⟩
      have HC := Lib.hid hb10
      clear hS hb10
      go_wp2_with fail
      go_meet
      exact ⟨rfl, HC⟩
    · have hS := rsame25_any _ _ E0 B0 ep bs A9 R N9 m9 (n + n') c7 L9 (L ++ L') w9 hz9 hE9 (by omega) (by omega) HSM9.out (esm_app HSM.out HSM'.out)
      rw [decide_eq_true hu] at hS
      unfold BPost at hS
      clear hu
      subst hj
      go_wp2_with fail
      refine hS.mono ?_
      rintro e w10 ⟨rfl, hb10⟩
      have HC := Lib.hid hb10
      clear hS hb10
      go_wp2_with fail
      go_meet
      exact ⟨rfl, HC⟩
  case rest =>
  obtain ⟨rfl, hcut⟩ := hcut
  have hb10 := hcut.out
  have hX10 := hX9.below hb10
  have HBD10 := Lib.hid (HBD9.out.trans (hb10.mono HBD9.out.size))
  clear hX9 hJ9 hO9 hE9 hz9 hb10 hcut HBD9 HU HJ
  generalize wc = w10 at *
  obtain ⟨x0, x1, x2⟩ := hX10.c3
  have hTw : 0 ≤ IntKind.u64.wrap (bs + n) ∧ IntKind.u64.wrap (bs + n) < 18446744073709551616 := by rw [IntKind.wrap_u64]; omega
  have e5 : IntKind.u64.wrap (n : Int) = n := IntWalk.u64_in _ (by omega)
  obtain ⟨T, hT⟩ : ∃ T, T = IntKind.u64.wrap (bs + n) := ⟨_, rfl⟩
  rw [← hT] at hTw
  obtain ⟨t0, t9⟩ := hTw
  have hT' : IntKind.u64.wrap (bs + n) = T := hT.symm
  have HT := Lib.hid hT
  clear hT
  have hc1 := peekcut_any _ ep bs A n m L bs q w10 (HZ.out.below HBD10.out) (by omega) HSM.out b0 b9 b0 (by omega) q0 (by omega) hnm hnil
  unfold PCutPost at hc1
  go_wp2_with fail
  refine hc1.mono ?_
  rintro e w11 ⟨hb11, hcase⟩
  have hu1 : ∃ ok1 E1 B1 A1 N1 m1 L1, e = .returned (.tuple #[btagg E1 B1 A1 N1 m1, .bool ok1]) ∧ Hid (ok1 = cut26 ep bs L bs q) ∧ Ens w11 (fun _ => True) A1 N1 L1 ∧ N1 ≤ m1 ∧ (A1 = none → m1 = 0) ∧ Hid (ok1 = true → E1 = ep ∧ B1 = bs ∧ N1 = (q - bs).toNat ∧ L1 = (L.drop (bs - bs).toNat).take (q - bs).toNat) := by
    rcases hcase with ⟨hj, rfl⟩ | ⟨hj, A9, m9, rfl, hz9, h1, h2⟩
    · exact ⟨false, 0, 0, none, 0, 0, [], rfl, Lib.hid hj.symm, ⟨rfl, Sq.nil _ _ _ _⟩, Nat.le_refl _, fun _ => rfl, Lib.hid fun h => nomatch h⟩
    · exact ⟨true, ep, bs, A9, _, m9, _, rfl, Lib.hid hj.symm, hz9.mono fun _ _ _ => trivial, h1, h2, Lib.hid fun _ => ⟨rfl, rfl, rfl, rfl⟩⟩
  clear hcase hc1
  obtain ⟨ok1, E1, B1, A1, N1, m1, L1, rfl, HK1, hz1, hnm1, hnil1, HF1⟩ := hu1
  have hbx := below_one w11 (.cells (btenc E1 B1 A1 N1 m1) 25)
  have hX11 := (hX10.below hb11).below hbx
  have hC11 := Blk.new w11 (btenc E1 B1 A1 N1 m1) 25
  have hz11 := hz1.below hbx
  have hba := hb11.trans (hbx.mono hb11.size)
  have HBD11 := Lib.hid (HBD10.out.trans (hba.mono HBD10.out.size))
  clear hX10 hb11 hbx hz1 hba HBD10 x0 x1 x2
  go_upto_region 17 with (fail)
  generalize w11.alloc (.cells (btenc E1 B1 A1 N1 m1) 25) = w12 at *
  generalize w11.heap.size = cb at *
  obtain ⟨x0, x1, x2⟩ := hX11.c3
  have hc2 := peekcut_any _ ep bs A n m L q T w12 (HZ.out.below HBD11.out) (by omega) HSM.out b0 b9 q0 (by omega) t0 (by omega) hnm hnil
  unfold PCutPost at hc2
  go_wp2_with fail
  refine hc2.mono ?_
  rintro e w13 ⟨hb13, hcase⟩
  have hu2 : ∃ ok2 E2 B2 A2 N2 m2 L2, e = .returned (.tuple #[btagg E2 B2 A2 N2 m2, .bool ok2]) ∧ Hid (ok2 = cut26 ep bs L q T) ∧ Ens w13 (fun _ => True) A2 N2 L2 ∧ N2 ≤ m2 ∧ (A2 = none → m2 = 0) ∧ Hid (ok2 = true → E2 = ep ∧ B2 = q ∧ N2 = (T - q).toNat ∧ L2 = (L.drop (q - bs).toNat).take (T - q).toNat) := by
    rcases hcase with ⟨hj, rfl⟩ | ⟨hj, A9, m9, rfl, hz9, h1, h2⟩
    · exact ⟨false, 0, 0, none, 0, 0, [], rfl, Lib.hid hj.symm, ⟨rfl, Sq.nil _ _ _ _⟩, Nat.le_refl _, fun _ => rfl, Lib.hid fun h => nomatch h⟩
    · exact ⟨true, ep, q, A9, _, m9, _, rfl, Lib.hid hj.symm, hz9.mono fun _ _ _ => trivial, h1, h2, Lib.hid fun _ => ⟨rfl, rfl, rfl, rfl⟩⟩
  clear hcase hc2
  obtain ⟨ok2, E2, B2, A2, N2, m2, L2, rfl, HK2, hz2, hnm2, hnil2, HF2⟩ := hu2
  have hbx := below_one w13 (.cells (btenc E2 B2 A2 N2 m2) 25)
  have hX13 := (hX11.below hb13).below hbx
  have hC13 := (hC11.below hb13).below hbx
  have hD13 := Blk.new w13 (btenc E2 B2 A2 N2 m2) 25
  have hz13 := (hz11.below hb13).below hbx
  have hy13 := hz2.below hbx
  have hba := hb13.trans (hbx.mono hb13.size)
  have HBD := Lib.hid (HBD11.out.trans (hba.mono HBD11.out.size))
  clear hX11 hC11 hz11 hb13 hbx hz2 hba HBD11 x0 x1 x2
  go_upto_region 18 with (fail)
  generalize w13.alloc (.cells (btenc E2 B2 A2 N2 m2) 25) = w14 at *
  generalize w13.heap.size = db at *
  cases ok1
  case false =>
    clear hX13 hC13 hD13 hz13 hy13
    go_wp2_with fail
    refine (live26_any _).mono ?_
    rintro e wl ⟨rfl, hbl⟩
    have hfin := HBD.out.trans (Below.mono hbl HBD.out.size)
    go_wp2
    go_ret
    exact ⟨rfl, hfin⟩
  cases ok2
  case false =>
    clear hX13 hC13 hD13 hz13 hy13
    go_wp2_with fail
    refine (live26_any _).mono ?_
    rintro e wl ⟨rfl, hbl⟩
    have hfin := HBD.out.trans (Below.mono hbl HBD.out.size)
    go_wp2
    go_ret
    exact ⟨rfl, hfin⟩
  obtain ⟨rfl, rfl, hN1, hL1⟩ := HF1.out rfl
  obtain ⟨rfl, rfl, hN2, hL2⟩ := HF2.out rfl
  have hcc := HK1.out.symm
  unfold cut26 at hcc
  rw [Bool.and_eq_true] at hcc
  obtain ⟨hok, hcc⟩ := hcc
  obtain ⟨_, h2, h3⟩ := of_decide_eq_true hcc
  have hcc2 := HK2.out.symm
  unfold cut26 at hcc2
  rw [Bool.and_eq_true] at hcc2
  obtain ⟨_, _, h4, h5⟩ := And.intro hcc2.1 (of_decide_eq_true hcc2.2)
  have hfit := fitn_bd (btk_fitx hok)
  have hln := HLN.out
  dsimp only at hfit
  have hTT : T = B1 + n := by rw [HT.out]; exact IntWalk.u64_in _ (by omega)
  have hk1 : 1 ≤ (B2 - B1).toNat := by omega
  have hk2 : 1 ≤ (T - B2).toNat := by omega
  have hsum : (B2 - B1).toNat + (T - B2).toNat = L.length := by omega
  have hp1 : (L.drop (B1 - B1).toNat).take (B2 - B1).toNat = L.take (B2 - B1).toNat := by rw [Int.sub_self]; rfl
  have hp2 : (L.drop (B2 - B1).toNat).take (T - B2).toNat = L.drop (B2 - B1).toNat := List.take_of_length_le (by rw [List.length_drop]; omega)
  have hb1 := btk_part (l := 0) (k := (B2 - B1).toNat) hok b0 hk1 (by omega)
  have hb2 := btk_part (l := (B2 - B1).toNat) (k := (T - B2).toNat) hok b0 hk2 (by omega)
  rw [show B1 + ((0 : Nat) : Int) = B1 by omega, List.drop_zero] at hb1
  rw [show B1 + ((B2 - B1).toNat : Int) = B2 by omega, hp2] at hb2
  rw [hp1] at hL1
  rw [hp2] at hL2
  have hes1 : esm L1 := by rw [hL1]; exact esm_part HSM.out 0 _
  have hes2 : esm L2 := by rw [hL2, ← hp2]; exact esm_part HSM.out _ _
  rw [← hL1] at hb1
  rw [← hL2] at hb2
  have hcat : L1 ++ L2 = L := by rw [hL1, hL2]; exact List.take_append_drop _ _
  have hl1 : B1 + (L1.length : Int) = B2 := by rw [hL1, List.length_take]; omega
  have hj0 : jc26 E2 B1 L1 E2 B2 L2 = 0 := (jc26_on hb1 hb2 ⟨hl1, rfl⟩).trans (by rw [hcat, hok]; rfl)
  have hjo := peekjoin_any _ _ E2 B1 A1 N1 m1 L1 E2 B2 A2 N2 m2 L2 w14 hz13 hy13 (by omega) (by omega) hes1 hes2 b0 b9 q0 q9 hnm1 hnil1 hnm2 hnil2
  unfold PJoinPost at hjo
  rw [hj0, hcat] at hjo
  have HES := Lib.hid (esm_app hes1 hes2)
  rw [hcat] at HES
  have hnn : N1 + N2 = n := by omega
  rw [hnn] at hjo
  obtain ⟨x0, x1, x2⟩ := hX13.c3
  obtain ⟨y0, y1, y2⟩ := hC13.c3
  obtain ⟨z0, z1, z2⟩ := hD13.c3
  clear hk1 hk2 hsum hp1 hp2 hb1 hb2 hes1 hes2 hL1 hL2 hcat hl1 hj0 hfit hln hTT hcc hcc2 h2 h3 h4 h5 hN1 hN2 hT'
  go_wp2_with fail
  refine hjo.mono ?_
  rintro e w15 ⟨hb15, hcase⟩
  rcases hcase with ⟨hj, _⟩ | ⟨_, A9', m9', rfl, hzj⟩
  · exact (hj rfl).elim
  have hbx := below_one w15 (.cells (btenc E2 B1 A9' n m9') 25)
  have hX16 := (hX13.below hb15).below hbx
  have hJ16 := Blk.new w15 (btenc E2 B1 A9' n m9') 25
  have hz16 := hzj.below hbx
  have hba := hb15.trans (hbx.mono hb15.size)
  have HBD16 := Lib.hid (HBD.out.trans (hba.mono HBD.out.size))
  clear hX13 hC13 hD13 hz13 hy13 hb15 hbx hzj hba HBD x0 x1 x2 y0 y1 y2 z0 z1 z2 hjo
  go_upto_region 21 with (fail)
  generalize w15.alloc (.cells (btenc E2 B1 A9' n m9') 25) = w16 at *
  generalize w15.heap.size = jb2 at *
  obtain ⟨x0, x1, x2⟩ := hX16.c3
  obtain ⟨y0, y1, y2⟩ := hJ16.c3
  have hS := rsame25_any _ _ E2 B1 E2 B1 A9' A n m9' n m L L w16 hz16 (HZ.out.below HBD16.out) (by omega) (by omega) HSM.out HSM.out
  rw [decide_eq_true rfl] at hS
  unfold BPost at hS
  go_wp2_with fail
  refine hS.mono ?_
  rintro e w17 ⟨rfl, hb17⟩
  have HBD := Lib.hid (HBD16.out.trans (hb17.mono HBD16.out.size))
  clear hX16 hJ16 hz16 hb17 HBD16 x0 x1 x2 y0 y1 y2 hS
  go_wp2_with fail
  refine (live26_any _).mono ?_
  rintro e wl ⟨rfl, hbl⟩
  have hfin := HBD.out.trans (Below.mono hbl HBD.out.size)
  go_wp2
  go_ret
  exact ⟨rfl, hfin⟩
set_option maxRecDepth 100000 in
theorem lifted (os : Os) (started : os.Started) (H : Type) (enc : TypeId × Value → H) :
    ReturnsInHanded {} Try.checked os 6 .any (Rows.peekJoinsSpec.pre6 enc Try.prog Try.f6 Rows.peekJoinsRow.domain false) (Rows.peekJoinsSpec.post enc Try.prog Try.f6 false true false false) := by
  refine returnsInHanded_of_change (C := Try.checked) own started (by kernel_rfl) Try.func6
    (ChangeSpec.witness6 (enc := enc) (C := Try.checked) false ⟨#[], #[.agg #[.int .u64 0, .int .u64 0, .slice none 0 0], .agg #[.int .u64 0, .int .u64 0, .slice none 0 0], .int .u64 0], []⟩ 8 (by kernel_rfl) (by kernel_rfl) (by kernel_rfl) (by kernel_rfl)) ?_
  intro W base args ds gs before hval0 hW hcnd _
  have hval : ∀ (j : Nat) t v, Try.f6.params[j]? = some t → args[j]? = some v → Value.okWide Try.prog W .any base t v := hval0
  have hW' := hW
  obtain ⟨p, q, hA0, hV, rfl, hfz, hnd⟩ := hW
  have hA : DataW.TrodAll enc Try.prog W 0 (fun _ => true) true Try.f6.params.toList args.toList ds p := hA0
  rw [Try.params6] at hA hval
  obtain ⟨v0, vs0, d0, ds0, p0, q0, hargs, rfl, rfl, h0, r0⟩ := trodAll_cons hA
  obtain ⟨v1, vs1, d1, ds1, p1, q1, rfl, rfl, rfl, h1, r1⟩ := trodAll_cons r0
  obtain ⟨v2, vs2, d2, ds2, p2, q2, rfl, rfl, rfl, h2, r2⟩ := trodAll_cons r1
  obtain ⟨rfl, rfl, rfl⟩ := trodAll_nil r2
  obtain rfl : args = #[v0, v1, v2] := by cases args; simp_all
  obtain ⟨rfl, rfl⟩ := trodVars_none hV
  have lt0 : ∀ x ∈ p0, x.block < W.heap.size := by obtain ⟨m, hm⟩ := h0; exact DataW.trod_lt m _ _ _ hm
  have lt1 : ∀ x ∈ p1, x.block < W.heap.size := by obtain ⟨m, hm⟩ := h1; exact DataW.trod_lt m _ _ _ hm
  have lt2 : ∀ x ∈ p2, x.block < W.heap.size := by obtain ⟨m, hm⟩ := h2; exact DataW.trod_lt m _ _ _ hm
  clear hA0 hval0
  refine (walk enc W base v0 d0 p0 (hval 0 25 v0 rfl rfl) h0 v1 d1 p1 (hval 1 25 v1 rfl rfl) h1 v2 d2 p2 (hval 2 22 v2 rfl rfl) h2).mono fun e W' ⟨he, bel⟩ => ?_
  subst he
  exact ⟨_, rfl, _, _, _, [], _, [], hW', trodAll_mk1 (shut_bool Try.underlying4 _), (trodAll_cons_mk (Below.trod laidOut (by kernel_rfl) (of_decide_eq_true (by kernel_rfl)) h0 bel lt0) (trodAll_cons_mk (Below.trod laidOut (by kernel_rfl) (of_decide_eq_true (by kernel_rfl)) h1 bel lt1) (trodAll_cons_mk (Below.trod laidOut (by kernel_rfl) (of_decide_eq_true (by kernel_rfl)) h2 bel lt2) trodAll_mk0))), rfl, bel.frame _, fun h => by cases h⟩
theorem over : Rows.peekJoinsRow.holds Try.pinned (OpenSpec.ofChange Rows.peekJoinsSpec) :=
  OpenClaim.holds_of_wide 6 Try.f6 rfl rfl rfl rfl rfl rfl rfl ⟨rfl, rfl, rfl, rfl, rfl⟩ rfl rfl rfl rfl rfl (by kernel_rfl) Try.func6 (by kernel_rfl)
    (of_decide_eq_true (by kernel_rfl)) (by unfold Func.isWrapper; first | (rw [if_pos (by decide +kernel)]; kernel_rfl) | (rw [if_neg (by decide +kernel)]; exact ⟨rfl, rfl⟩))
    (fun os started H enc _ => lifted os started H enc)
theorem proved : Rows.PeekJoinsSaid := over
#print axioms proved
end Go.Proofs.Ytgdcbfekekefiaa.peekJoins

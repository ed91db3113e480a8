/- EntryReads: called with any bytes and any two numbers, the law returns true; no condition. -/
import Derived.Test.YtoeedhdckccajaaRows
import Derived.Test.YtoeedhdckccajaaEntD
import Derived.Test.YtoeedhdckccajaaK34
import Derived.Test.YtoeedhdckccajaaK33
import Derived.ProofKit
import Derived.OpenShut
import Derived.ShutString
import Derived.ChangeOld
namespace Go.Proofs.Ytoeedhdckccajaa.entryReads
open Go.ChangeShapes Go.WideShapes Go.ChangeAt Go.RowKit
open Go.ChangeMaps (open_string shut_string)
set_option linter.unusedVariables false

theorem own : ownKnob Try.prog.godebug = none := by kernel_rfl
theorem laidOut : laidOutB Try.prog = true := by kernel_rfl
open Cur Mem

set_option maxRecDepth 100000


set_option maxHeartbeats 8000000 in
theorem walk {H : Type} (enc : TypeId × Value → H) (w : World) (base : Nat) (v0 : Value) (d0 : DataW H) (p0 : List MemPlace) (g0 : Value.okWide Try.prog w .any base 24 v0) (h0 : DataW.Trod enc Try.prog w 0 (fun _ => true) true 24 v0 d0 p0) (v1 : Value) (d1 : DataW H) (p1 : List MemPlace) (g1 : Value.okWide Try.prog w .any base 22 v1) (h1 : DataW.Trod enc Try.prog w 0 (fun _ => true) true 22 v1 d1 p1) (v2 : Value) (d2 : DataW H) (p2 : List MemPlace) (g2 : Value.okWide Try.prog w .any base 3 v2) (h2 : DataW.Trod enc Try.prog w 0 (fun _ => true) true 3 v2 d2 p2) :
    Calls Try.prog 4 #[v0, v1, v2] w fun e w' => e = .returned (.bool true) ∧ Below w.heap.size w w' := by
  obtain ⟨a, n, m, z, rfl, hnm, hz, hby, hnil⟩ := open_bytes g0 h0
  obtain ⟨pos, rfl, b0, b1⟩ := open_u64 g1 h1
  obtain ⟨mo, rfl, _, mo1⟩ := open_i64 g2 h2
  clear g0 h0 g1 h1 g2 h2
  have hbd := Below.refl w.heap.size w
  by_cases hn : 300 < (n : Int)
  · go_enter Try.func4, Try.ntmps4
    go_wp2_with fail
    refine (live24_any _).mono ?_
    rintro e wl ⟨rfl, hbl⟩
    replace hbd := hbd.trans (hbl.mono hbd.size)
    go_wp2
    go_ret
    exact ⟨rfl, hbd⟩
  have HBY := Lib.hid hby
  have HZ := Lib.hid hz
  have HMO : Hid (mo ≤ 9223372036854775807) := Lib.hid (by omega)
  clear hz hby hbd mo1
  go_enter Try.func4, Try.ntmps4
  go_wp2_with fail
  refine (new_some _ _ _ _ hnm).mono ?_
  rintro e w1 ⟨rb, rfl, hrb, hb1, hr1⟩
  go_wp2_with fail
  refine (readhead_any _ _ _ _ z pos mo 0 0 0 _ hr1 (HZ.out.below hb1) (by omega) (by omega) (by omega) HBY.out b0 b1 HMO.out).mono ?_
  rintro e w2 ⟨A1, m1, N1, L, v1, p', c', q', rfl, hk2, hr2, hu1, _, _, hl16, hb4, hs2⟩
  have hbx := below_one w2 (.cells (enc' A1 N1 m1 none 0 0) 26)
  have hX := Blk.new w2 (enc' A1 N1 m1 none 0 0) 26
  have hb2 := (Kp.below hb1 (Nat.le_refl _) hk2 hrb).trans (hbx.mono (Kp.below hb1 (Nat.le_refl _) hk2 hrb).size)
  have HS2 := Lib.hid hs2
  replace hr2 := hr2.below hbx
  replace hu1 := hu1.below hbx
  clear hs2 hk2 hr1 hbx
  go_wp2_with fail
  generalize w2.alloc (.cells (enc' A1 N1 m1 none 0 0) 26) = w2x at *
  generalize w2.heap.size = xb at *
  refine (rreadhead_any a n m z pos mo 0 0 0 _ (HZ.out.below hb2) (by omega) (by omega) hnm (by omega) HBY.out b0 b1 HMO.out).mono ?_
  rintro e w3 ⟨v2, L2, x2, p2, c2, q2, rfl, hb3, ho3, hl2, _, hs3⟩
  obtain ⟨e1, rfl, rfl, hp⟩ := HS2.out.det hs3
  obtain ⟨rfl, rfl⟩ := Prod.mk.inj e1
  have hb4' := hb2.trans (hb3.mono hb2.size)
  replace hX := hX.below hb3
  replace hu1 := hu1.below hb3
  have hr4 := hr2.below hb3
  have HP := Lib.hid hp
  clear hb2 hb3 hr2 hs3 hp hb1 e1
  have hbA := below_one w3 (.cells (cvs (.slice a n m) p2 c' q') 49)
  replace hX := hX.below hbA
  replace hu1 := hu1.below hbA
  have ho6 := ho3.below hbA
  have hr5 := hr4.below hbA
  have hcA := Blk.new w3 (cvs (.slice a n m) p2 c' q') 49
  have hbdA := hb4'.trans (hbA.mono hb4'.size)
  clear hbA ho3 hr4 hb4'
  go_wp2_with fail
  generalize w3.alloc (.cells (cvs (.slice a n m) p2 c' q') 49) = w6 at *
  generalize w3.heap.size = cb at *
  obtain ⟨A2, cc2, rfl, _, _, hu2⟩ := ho6.lks
  clear ho6
  have hbl : blen 1000000 L := fun s hs => by have := hb4 s hs; omega
  have hNL := hu1.1
  rw [hNL] at hu2 hl2 ⊢
  have HNL := Lib.hid hNL
  clear hNL hb4
  have hS : Blk w6.drew xb (enc' A1 N1 m1 none 0 0) 26 ∧ Blk w6.drew cb (cvs (.slice a n m) p2 c' q') 49 := ⟨hX, hcA⟩
  have hbd : Below w.heap.size w w6.drew := hbdA.trans ((below_one' _).mono hbdA.size)
  have hr : IsRd w6.drew rb (.slice a n n) p' c' q' := hr5
  have hu3 := hu1.below (below_one' _)
  have hu4 := hu2.below (below_one' _)
  clear hcA hbdA hr5 hu1 hu2 hX
  have hsc := rensame_any _ _ A1 A2 none none N1 N1 m1 cc2 0 0 0 0 L L [] [] w6.drew hu3 hu4 (by omega) (by omega) hbl hbl ⟨rfl, fun h => absurd h (by decide)⟩ ⟨rfl, fun h => absurd h (by decide)⟩ (by simp) (by simp)
  rw [show decide (((L, []) : En) = (L, [])) = true from decide_eq_true rfl] at hsc
  unfold BPost at hsc
  clear hbl
  by_cases hc : c' = 0
  · subst hc
    have hp := HP.out rfl
    subst hp
    clear HP HS2
    have L0 : ∀ w', (Blk w' xb (enc' A1 N1 m1 none 0 0) 26 ∧ Blk w' cb (cvs (.slice a n m) p' 0 q') 49) → (w'.cell? ⟨xb, 0, none⟩ = some (.slice A1 N1 m1) ∧ w'.cell? ⟨xb, 1, none⟩ = some (.slice none 0 0)) ∧ (w'.cell? ⟨cb, 0, none⟩ = some (.slice a n m) ∧ w'.cell? ⟨cb, 1, none⟩ = some (.int .i64 p') ∧ w'.cell? ⟨cb, 2, none⟩ = some (.int .i64 0) ∧ w'.cell? ⟨cb, 3, none⟩ = some (.int .i64 q')) := fun w' h => ⟨h.1.c2, h.2.c4⟩
    refine Seq.wp_region_seq (fun w' => Blk w' xb (enc' A1 N1 m1 none 0 0) 26 ∧ Blk w' cb (cvs (.slice a n m) p' 0 q') 49) (by kernel_rfl) (by kernel_rfl) hS ?_
    generalize w6.drew = wd at *
    repeat (first | (refine Seq.Seq.skip (by rfl) ?_; (try simp only [Act.put, List.setIfInBounds_toArray, List.set_cons_zero, List.set_cons_succ])) | (refine Seq.Seq.det ?_ (by rfl) (fun w hS => ?_) ?_; rotate_left; ((try dsimp only at hS); go_simp; (try rw [if_pos (by omega)]); with_reducible rfl); (try simp only [Act.put, List.setIfInBounds_toArray, List.set_cons_zero, List.set_cons_succ])))
    refine Seq.Seq.make (by rfl) (by rfl) (fun K Q' hK => ?_)
    go_simp
    go_at_call 21
    refine hsc.mono ?_
    rintro e w7 ⟨rfl, hbz⟩
    clear hsc hu3 hu4
    replace hS := And.intro (hS.1.below hbz) (hS.2.below hbz)
    replace hbd := hbd.trans (hbz.mono hbd.size)
    replace hr := hr.below hbz
    clear hbz
    refine hK.out _ _ (hS) ?_
    clear hK K
    try simp only [Act.put, List.setIfInBounds_toArray, List.set_cons_zero, List.set_cons_succ]
    repeat (first | (refine Seq.Seq.skip (by rfl) ?_; (try simp only [Act.put, List.setIfInBounds_toArray, List.set_cons_zero, List.set_cons_succ])) | (refine Seq.Seq.det ?_ (by rfl) (fun w hS => ?_) ?_; rotate_left; ((try dsimp only at hS); go_simp; (try rw [if_pos (by omega)]); with_reducible rfl); (try simp only [Act.put, List.setIfInBounds_toArray, List.set_cons_zero, List.set_cons_succ])))
    refine Seq.Seq.make (by rfl) (by rfl) (fun K Q' hK => ?_)
    go_simp
    go_at_call 23
    refine (fault_any _ _ _ _ _ _ (by exact hr)).mono ?_
    rintro e w9 ⟨rfl, hbz⟩
    replace hS := And.intro (hS.1.below hbz) (hS.2.below hbz)
    replace hbd := hbd.trans (hbz.mono hbd.size)
    replace hr := hr.below hbz
    clear hbz
    refine hK.out _ _ (hS) ?_
    clear hK K
    try simp only [Act.put, List.setIfInBounds_toArray, List.set_cons_zero, List.set_cons_succ]
    repeat (first | (refine Seq.Seq.skip (by rfl) ?_; (try simp only [Act.put, List.setIfInBounds_toArray, List.set_cons_zero, List.set_cons_succ])) | (refine Seq.Seq.det ?_ (by rfl) (fun w hS => ?_) ?_; rotate_left; ((try dsimp only at hS); go_simp; (try rw [if_pos (by omega)]); with_reducible rfl); (try simp only [Act.put, List.setIfInBounds_toArray, List.set_cons_zero, List.set_cons_succ])))
    refine Seq.Seq.make (by rfl) (by rfl) (fun K Q' hK => ?_)
    go_simp
    go_at_call 20
    refine (at_any _ _ _ _ _ _ (by exact hr)).mono ?_
    rintro e w8 ⟨rfl, rfl⟩
    refine hK.out _ _ (hS) ?_
    clear hK K
    try simp only [Act.put, List.setIfInBounds_toArray, List.set_cons_zero, List.set_cons_succ]
    repeat (first | (refine Seq.Seq.skip (by rfl) ?_; (try simp only [Act.put, List.setIfInBounds_toArray, List.set_cons_zero, List.set_cons_succ])) | (refine Seq.Seq.det ?_ (by rfl) (fun w hS => ?_) ?_; rotate_left; ((try dsimp only at hS); go_simp; (try rw [if_pos (by omega)]); with_reducible rfl); (try simp only [Act.put, List.setIfInBounds_toArray, List.set_cons_zero, List.set_cons_succ])))
    refine Seq.Seq.make (by rfl) (by rfl) (fun K Q' hK => ?_)
    go_simp
    go_at_call 8
    refine (live24_any _).mono ?_
    rintro e w12 ⟨rfl, hbz⟩
    replace hS := And.intro (hS.1.below hbz) (hS.2.below hbz)
    replace hbd := hbd.trans (hbz.mono hbd.size)
    replace hr := hr.below hbz
    clear hbz
    refine hK.out _ _ (hS) ?_
    clear hK K
    try simp only [Act.put, List.setIfInBounds_toArray, List.set_cons_zero, List.set_cons_succ]
    repeat (first | (refine Seq.Seq.skip (by rfl) ?_; (try simp only [Act.put, List.setIfInBounds_toArray, List.set_cons_zero, List.set_cons_succ])) | (refine Seq.Seq.det ?_ (by rfl) (fun w hS => ?_) ?_; rotate_left; ((try dsimp only at hS); go_simp; (try rw [if_pos (by omega)]); with_reducible rfl); (try simp only [Act.put, List.setIfInBounds_toArray, List.set_cons_zero, List.set_cons_succ])))
    refine Seq.Seq.nil ?_
    clear hS hr L0
    go_wp2
    go_ret
    exact ⟨rfl, hbd⟩
  · have hcb : (c' == 0) = false := by simpa using hc
    have hcb2 : (c' != 0) = true := by simpa using hc
    clear HP HS2
    have L0 : ∀ w', (Blk w' xb (enc' A1 N1 m1 none 0 0) 26 ∧ Blk w' cb (cvs (.slice a n m) p2 c' q') 49) → (w'.cell? ⟨xb, 0, none⟩ = some (.slice A1 N1 m1) ∧ w'.cell? ⟨xb, 1, none⟩ = some (.slice none 0 0)) ∧ (w'.cell? ⟨cb, 0, none⟩ = some (.slice a n m) ∧ w'.cell? ⟨cb, 1, none⟩ = some (.int .i64 p2) ∧ w'.cell? ⟨cb, 2, none⟩ = some (.int .i64 c') ∧ w'.cell? ⟨cb, 3, none⟩ = some (.int .i64 q')) := fun w' h => ⟨h.1.c2, h.2.c4⟩
    refine Seq.wp_region_seq (fun w' => Blk w' xb (enc' A1 N1 m1 none 0 0) 26 ∧ Blk w' cb (cvs (.slice a n m) p2 c' q') 49) (by kernel_rfl) (by kernel_rfl) hS ?_
    generalize w6.drew = wd at *
    repeat (first | (refine Seq.Seq.skip (by rfl) ?_; (try simp only [Act.put, List.setIfInBounds_toArray, List.set_cons_zero, List.set_cons_succ])) | (refine Seq.Seq.det ?_ (by rfl) (fun w hS => ?_) ?_; rotate_left; ((try dsimp only at hS); go_simp; (try rw [if_pos (by omega)]); with_reducible rfl); (try simp only [Act.put, List.setIfInBounds_toArray, List.set_cons_zero, List.set_cons_succ])))
    refine Seq.Seq.make (by rfl) (by rfl) (fun K Q' hK => ?_)
    go_simp
    go_at_call 21
    refine hsc.mono ?_
    rintro e w7 ⟨rfl, hbz⟩
    clear hsc hu3 hu4
    replace hS := And.intro (hS.1.below hbz) (hS.2.below hbz)
    replace hbd := hbd.trans (hbz.mono hbd.size)
    replace hr := hr.below hbz
    clear hbz
    refine hK.out _ _ (hS) ?_
    clear hK K
    try simp only [Act.put, List.setIfInBounds_toArray, List.set_cons_zero, List.set_cons_succ]
    repeat (first | (refine Seq.Seq.skip (by rfl) ?_; (try simp only [Act.put, List.setIfInBounds_toArray, List.set_cons_zero, List.set_cons_succ])) | (refine Seq.Seq.det ?_ (by rfl) (fun w hS => ?_) ?_; rotate_left; ((try dsimp only at hS); go_simp; (try rw [if_pos (by omega)]); with_reducible rfl); (try simp only [Act.put, List.setIfInBounds_toArray, List.set_cons_zero, List.set_cons_succ])))
    refine Seq.Seq.make (by rfl) (by rfl) (fun K Q' hK => ?_)
    go_simp
    go_at_call 23
    refine (fault_any _ _ _ _ _ _ (by exact hr)).mono ?_
    rintro e w9 ⟨rfl, hbz⟩
    replace hS := And.intro (hS.1.below hbz) (hS.2.below hbz)
    replace hbd := hbd.trans (hbz.mono hbd.size)
    replace hr := hr.below hbz
    clear hbz
    refine hK.out _ _ (hS) ?_
    clear hK K
    try simp only [Act.put, List.setIfInBounds_toArray, List.set_cons_zero, List.set_cons_succ]
    repeat (first | (refine Seq.Seq.skip (by rfl) ?_; (try simp only [Act.put, List.setIfInBounds_toArray, List.set_cons_zero, List.set_cons_succ])) | (refine Seq.Seq.det ?_ (by rfl) (fun w hS => ?_) ?_; rotate_left; ((try dsimp only at hS); go_simp; (try rw [if_pos (by omega)]); with_reducible rfl); (try simp only [Act.put, List.setIfInBounds_toArray, List.set_cons_zero, List.set_cons_succ])))
    refine Seq.Seq.make (by rfl) (by rfl) (fun K Q' hK => ?_)
    go_simp
    go_at_call 8
    refine (live24_any _).mono ?_
    rintro e w12 ⟨rfl, hbz⟩
    replace hS := And.intro (hS.1.below hbz) (hS.2.below hbz)
    replace hbd := hbd.trans (hbz.mono hbd.size)
    replace hr := hr.below hbz
    clear hbz
    refine hK.out _ _ (hS) ?_
    clear hK K
    try simp only [Act.put, List.setIfInBounds_toArray, List.set_cons_zero, List.set_cons_succ]
    repeat (first | (refine Seq.Seq.skip (by rfl) ?_; (try simp only [Act.put, List.setIfInBounds_toArray, List.set_cons_zero, List.set_cons_succ])) | (refine Seq.Seq.det ?_ (by rfl) (fun w hS => ?_) ?_; rotate_left; ((try dsimp only at hS); go_simp; (try rw [if_pos (by omega)]); with_reducible rfl); (try simp only [Act.put, List.setIfInBounds_toArray, List.set_cons_zero, List.set_cons_succ])))
    refine Seq.Seq.nil ?_
    clear hS hr L0
    go_wp2
    go_ret
    exact ⟨rfl, hbd⟩

set_option maxRecDepth 100000 in
theorem lifted (os : Os) (started : os.Started) (H : Type) (enc : TypeId × Value → H) :
    ReturnsInHanded {} Try.checked os 4 .any (Rows.entryReadsSpec.pre6 enc Try.prog Try.f4 Rows.entryReadsRow.domain false) (Rows.entryReadsSpec.post enc Try.prog Try.f4 false true false false) := by
  refine returnsInHanded_of_change (C := Try.checked) own started (by kernel_rfl) Try.func4
    (ChangeSpec.witness6 (enc := enc) (C := Try.checked) false ⟨#[], #[.slice none 0 0, .int .u64 0, .int .i64 0], []⟩ 8 (by kernel_rfl) (by kernel_rfl) (by kernel_rfl) (by kernel_rfl)) ?_
  intro W base args ds gs before hval0 hW hcnd _
  have hval : ∀ (j : Nat) t v, Try.f4.params[j]? = some t → args[j]? = some v → Value.okWide Try.prog W .any base t v := hval0
  have hW' := hW
  obtain ⟨p, q, hA0, hV, rfl, hfz, hnd⟩ := hW
  have hA : DataW.TrodAll enc Try.prog W 0 (fun _ => true) true Try.f4.params.toList args.toList ds p := hA0
  rw [Try.params4] at hA hval
  obtain ⟨v0, vs0, d0, ds0, p0, q0, hargs, rfl, rfl, h0, r0⟩ := trodAll_cons hA
  obtain ⟨v1, vs1, d1, ds1, p1, q1, rfl, rfl, rfl, h1, r1⟩ := trodAll_cons r0
  obtain ⟨v2, vs2, d2, ds2, p2, q2, rfl, rfl, rfl, h2, r2⟩ := trodAll_cons r1
  obtain ⟨rfl, rfl, rfl⟩ := trodAll_nil r2
  obtain rfl : args = #[v0, v1, v2] := by cases args; simp_all
  obtain ⟨rfl, rfl⟩ := trodVars_none hV
  have lt0 : ∀ x ∈ p0, x.block < W.heap.size := by obtain ⟨m, hm⟩ := h0; exact DataW.trod_lt m _ _ _ hm
  have lt1 : ∀ x ∈ p1, x.block < W.heap.size := by obtain ⟨m, hm⟩ := h1; exact DataW.trod_lt m _ _ _ hm
  have lt2 : ∀ x ∈ p2, x.block < W.heap.size := by obtain ⟨m, hm⟩ := h2; exact DataW.trod_lt m _ _ _ hm
  clear hA0 hval0
  refine (walk enc W base v0 d0 p0 (hval 0 24 v0 rfl rfl) h0 v1 d1 p1 (hval 1 22 v1 rfl rfl) h1 v2 d2 p2 (hval 2 3 v2 rfl rfl) h2).mono fun e W' ⟨he, bel⟩ => ?_
  subst he
  exact ⟨_, rfl, _, _, _, [], _, [], hW', trodAll_mk1 (shut_bool Try.underlying4 _), (trodAll_cons_mk (Below.trod laidOut (by kernel_rfl) (of_decide_eq_true (by kernel_rfl)) h0 bel lt0) (trodAll_cons_mk (Below.trod laidOut (by kernel_rfl) (of_decide_eq_true (by kernel_rfl)) h1 bel lt1) (trodAll_cons_mk (Below.trod laidOut (by kernel_rfl) (of_decide_eq_true (by kernel_rfl)) h2 bel lt2) trodAll_mk0))), rfl, bel.frame _, fun h => by cases h⟩

theorem over : Rows.entryReadsRow.holds Try.pinned (OpenSpec.ofChange Rows.entryReadsSpec) :=
  OpenClaim.holds_of_wide 4 Try.f4 rfl rfl rfl rfl rfl rfl rfl ⟨rfl, rfl, rfl, rfl, rfl⟩ rfl rfl rfl rfl rfl (by kernel_rfl) Try.func4 (by kernel_rfl)
    (of_decide_eq_true (by kernel_rfl)) (by unfold Func.isWrapper; first | (rw [if_pos (by decide +kernel)]; kernel_rfl) | (rw [if_neg (by decide +kernel)]; exact ⟨rfl, rfl⟩))
    (fun os started H enc _ => lifted os started H enc)

/-- THE STATEMENT. -/
theorem proved : Rows.EntryReadsSaid := over
#print axioms proved
end Go.Proofs.Ytoeedhdckccajaa.entryReads

/- How many bytes written tokens make, by the program: the step of Length. -/
import Derived.Test.YtmpbiobbjnhjcaaExpK
import Derived.Test.YtmpbiobbjnhjcaaSeqE
import Derived.Deep.QuietTactic
import Derived.BigQuiet

namespace Go.Proofs.Ytmpbiobbjnhjcaa.Cur
open Go.RowKit Mem
set_option linter.unusedVariables false

theorem tln_bd (t : Tk) : 0 ≤ tln t ∧ tln t ≤ 1048576 := tsz_bd _ _ _
def lens (z : List Int) : Nat → Int → Int → Rs Int
  | 0, p, t => (t, p, 0, 0)
  | k + 1, p, t => if (z.length : Int) ≤ p then (t, p, 0, 0) else (tr z p).bind 0 fun u p' => lens z k p' (t + tln u)
theorem lens_stop {z : List Int} {k : Nat} {p t : Int} (h : (z.length : Int) ≤ p) : lens z k p t = (t, p, 0, 0) := by
  cases k with
  | zero => rfl
  | succ k => show (if (z.length : Int) ≤ p then _ else _) = _; rw [if_pos h]
theorem lens_step {z : List Int} {k : Nat} {p t : Int} (h : p < z.length) : lens z (k + 1) p t = (tr z p).bind 0 fun u p' => lens z k p' (t + tln u) := by
  show (if (z.length : Int) ≤ p then _ else _) = _; rw [if_neg (by omega)]
/-- How many bytes all written tokens make, or the code and place of the first fault. -/
def leng (z : List Int) : Rs Int := lens z (z.length + 1) 0 0
def lenv (z : List Int) : Int × Int × Int := if (leng z).2.2.1 = 0 then ((leng z).1, 0, 0) else (0, (leng z).2.2.1, (leng z).2.2.2)

def LStepPost (b oc : Nat) (s : Value) (n : Nat) (t : Int) (g : Rs Tk) (p : Int) (w : World) (e : Ending) (w' : World) : Prop :=
  ∃ u p' c' q', e = .returned (.tuple #[]) ∧ Blk w' oc #[.int .i64 (t + tln u)] 3 ∧ Ks (fun k => k = b ∨ k = oc) w w' ∧ IsRd w' b s p' c' q' ∧ St tk0 n g p 0 0 u p' c' q'

set_option maxRecDepth 100000 in
set_option maxHeartbeats 2000000 in
theorem lstep_any (b oc : Nat) (a : Option Addr) (n m : Nat) (z : List Int) (p t : Int) (w : World) (hr : IsRd w b (.slice a n m) p 0 0) (hz : Bs w a n z) (h0 : 0 ≤ p) (h1 : p ≤ n) (hm : n ≤ m) (hn : n ≤ 100000) (hby : ∀ x ∈ z, 0 ≤ x ∧ x < 256)
    (hoc : Blk w oc #[.int .i64 t] 3) (hob : oc ≠ b) (t0 : 0 ≤ t) (t1 : t ≤ 1000000000000) :
    Calls Try.prog 35 #[.pointer (some ⟨b, 0, none⟩), .pointer (some ⟨oc, 0, none⟩)] w (LStepPost b oc (.slice a n m) n t (tr z p) p w) := by
  have HBY := Lib.hid hby
  clear hby
  go_enter Try.func35, Try.ntmps35
  go_wp2_with fail
  refine (at_any _ _ _ _ _ _ hr).mono ?_
  rintro e w0 ⟨rfl, rfl⟩
  go_wp2_with fail
  have hS : Blk w.drew oc #[.int .i64 t] 3 := hoc
  have L : ∀ w', Blk w' oc #[.int .i64 t] 3 → w'.cell? ⟨oc, 0, none⟩ = some (.int .i64 t) := fun w' h => h.c1
  have hrd := tread_any b a n m z p 0 0 w.drew (hr.drewN 1) (hz.drewN 1) h0 h1 hm (by omega) HBY.out
  have hks : Ks (fun k => k = b ∨ k = oc) w w.drew := Ks.drewN _ w 1
  clear hz hr hoc
  refine Seq.wp_region_last (fun w' => Blk w' oc #[.int .i64 t] 3) (by kernel_rfl) (by kernel_rfl) (by kernel_rfl) hS ?_
  repeat (first | (refine Seq.SeqE.skip (by rfl) ?_; (try simp only [Act.put, List.setIfInBounds_toArray, List.set_cons_zero, List.set_cons_succ])) | (refine Seq.SeqE.det ?_ (by rfl) (fun w hS => ?_) ?_; rotate_left; ((try dsimp only at hS); go_simp; (try rw [if_pos (by omega)]); with_reducible rfl); (try simp only [Act.put, List.setIfInBounds_toArray, List.set_cons_zero, List.set_cons_succ])))
  refine Seq.SeqE.make (by rfl) (by rfl) (fun K Q' hK => ?_)
  go_simp
  go_at_call 38
  refine hrd.mono ?_
  rintro e w1 ⟨v, u, p', c', q', rfl, ho1, hk1, hr1, hs1⟩
  replace hS := blk_kp hS hk1 hob
  replace hks := hks.trans (Ks.of_kp hk1 (.inl rfl))
  obtain ⟨Av, mv, rfl⟩ := ho1.slice
  clear hrd hk1
  refine hK.out _ _ (hS) ?_
  clear hK K
  try simp only [Act.put, List.setIfInBounds_toArray, List.set_cons_zero, List.set_cons_succ]
  repeat (first | (refine Seq.SeqE.skip (by rfl) ?_; (try simp only [Act.put, List.setIfInBounds_toArray, List.set_cons_zero, List.set_cons_succ])) | (refine Seq.SeqE.det ?_ (by rfl) (fun w hS => ?_) ?_; rotate_left; ((try dsimp only at hS); go_simp; (try rw [if_pos (by omega)]); with_reducible rfl); (try simp only [Act.put, List.setIfInBounds_toArray, List.set_cons_zero, List.set_cons_succ])))
  refine Seq.SeqE.make (by rfl) (by rfl) (fun K Q' hK => ?_)
  go_simp
  go_at_call 37
  refine (tlen_any _ _ _ _ _ _).mono ?_
  rintro e w2 ⟨rfl, hb2⟩
  replace hS := hS.below hb2
  replace hks := hks.trans (Ks.of_below hb2)
  replace hr1 := hr1.below hb2
  rw [show tsz u.1.length u.2.1 u.2.2 = tln u from rfl]
  clear hb2 ho1
  refine hK.out _ _ (hS) ?_
  clear hK K
  try simp only [Act.put, List.setIfInBounds_toArray, List.set_cons_zero, List.set_cons_succ]
  have hbd := tln_bd u
  obtain ⟨x, hx⟩ : ∃ x, x = tln u := ⟨_, rfl⟩
  rw [← hx] at hbd ⊢
  have HX := Lib.hid hx
  clear hx
  have e1 : IntKind.i64.wrap (t + x) = t + x := IntWalk.i64_in _ (by omega)
  repeat (first | (refine Seq.SeqE.skip (by rfl) ?_; (try simp only [Act.put, List.setIfInBounds_toArray, List.set_cons_zero, List.set_cons_succ])) | (refine Seq.SeqE.det ?_ (by rfl) (fun w hS => ?_) ?_; rotate_left; ((try dsimp only at hS); go_simp; (try rw [if_pos (by omega)]); with_reducible rfl); (try simp only [Act.put, List.setIfInBounds_toArray, List.set_cons_zero, List.set_cons_succ])))
  have hfz := hS.free 0
  have hS0 := hS.c1
  refine Seq.SeqE.last (by rfl) (by rfl) (fun K Q' hK => ?_)
  go_simp
  refine hK.out _ _ ?_
  clear hK K
  try simp only [Act.put, List.setIfInBounds_toArray, List.set_cons_zero, List.set_cons_succ]
  have hO := hS.set 0 (.int .i64 (t + x))
  have hr2 := hr1.kp (Kp.setCell w2 oc 0 (.int .i64 (t + x))) hob.symm
  replace hks := hks.trans (Ks.setCell w2 oc 0 (.int .i64 (t + x)) (.inr rfl))
  have o1 := Blk.c1 (v0 := .int .i64 (t + x)) hO
  have hng : ¬ 1099511627776 < t + x := by omega
  go_wp2
  go_end0
  exact ⟨u, p', c', q', rfl, by rw [← HX.out]; exact hO, hks, hr2, hs1⟩
end Go.Proofs.Ytmpbiobbjnhjcaa.Cur

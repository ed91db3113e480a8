/- StripeShares: called with any stripe and any node, the law returns true; no condition. -/
import Derived.Test.YtpoicagalmhfdaaRows
import Derived.Test.YtpoicagalmhfdaaSrtR
import Derived.Test.YtpoicagalmhfdaaStpV
import Derived.Test.YtpoicagalmhfdaaStpE
import Derived.Test.YtpoicagalmhfdaaK1
import Derived.ProofKit
import Derived.OpenShut
import Derived.ShutString
import Derived.ChangeOld
namespace Go.Proofs.Ytpoicagalmhfdaa.stripeShares
open Go.ChangeShapes Go.WideShapes Go.ChangeAt Go.RowKit
open Go.ChangeMaps (open_string shut_string)
set_option linter.unusedVariables false

theorem own : ownKnob Try.prog.godebug = none := by kernel_rfl
theorem laidOut : laidOutB Try.prog = true := by kernel_rfl
open Cur Mem

set_option maxRecDepth 100000


theorem sum0_le {f : Nat → Nat} : ∀ {k n : Nat}, k ≤ n → sum0 f k ≤ sum0 f n
  | k, 0, h => by rw [show k = 0 by omega]; exact Nat.le_refl _
  | k, n + 1, h => by
    rcases Nat.lt_or_ge n k with h1 | h1
    · rw [show k = n + 1 by omega]; exact Nat.le_refl _
    · have := sum0_le (f := f) h1
      show sum0 f k ≤ sum0 f n + f n
      omega
/-- How far the shares are met. -/
def ShS (S : List (List Int)) (p : Int) (n : Nat) (sh : Nat → Nat) (mb B : Nat) (cs : Array Value) (k sm le mo wi : Nat) (me : Bool) (v : Value) (w wr : World) : Prop :=
  sm = sum0 sh k ∧ (∃ i, i < n ∧ le = sh i) ∧ (∃ i, i < n ∧ mo = sh i) ∧ lastw S p k = (wi, me) ∧ OwnU wr B v (S.take k).flatten ∧ Below w.heap.size w wr ∧ Blk wr mb cs 25

set_option maxHeartbeats 16000000 in
theorem walk {H : Type} (enc : TypeId × Value → H) (w : World) (base : Nat) (v0 : Value) (d0 : DataW H) (p0 : List MemPlace) (g0 : Value.okWide Try.prog w .any base 25 v0) (h0 : DataW.Trod enc Try.prog w 0 (fun _ => true) true 25 v0 d0 p0) (v1 : Value) (d1 : DataW H) (p1 : List MemPlace) (g1 : Value.okWide Try.prog w .any base 22 v1) (h1 : DataW.Trod enc Try.prog w 0 (fun _ => true) true 22 v1 d1 p1) :
    Calls Try.prog 6 #[v0, v1] w fun e w' => e = .returned (.bool true) ∧ Below w.heap.size w w' := by
  obtain ⟨f, t, A, n, m, S, rfl, ⟨f0, f1⟩, ⟨t0, t1⟩, hm, hnil, hz⟩ := open_stripe g0 h0
  obtain ⟨p, rfl, p0, p1⟩ := open_u64 g1 h1
  clear g0 h0 g1 h1
  have hX := Blk.new w (stc f t A n m) 25
  have hbd := below_one w (.cells (stc f t A n m) 25)
  have HZ := Lib.hid hz
  have HL := Lib.hid hz.1
  have HM := Lib.hid hm
  clear hz hm hnil
  obtain ⟨x0, x1, x2⟩ := hX.c3
  go_enter Try.func6, Try.ntmps6
  go_wp2_with fail
  generalize w.alloc (.cells (stc f t A n m) 25) = w0 at *
  refine (long19_any _ f t A n m S _ (HZ.out.below hbd)).mono ?_
  rintro e w1 ⟨b1, rfl, hb1, hl1⟩
  replace hX := hX.below hb1
  replace hbd := hbd.trans (hb1.mono hbd.size)
  clear hb1 x0 x1 x2
  obtain ⟨x0, x1, x2⟩ := hX.c3
  cases b1
  case true =>
    clear hl1 hX x0 x1 x2
    go_wp2_with fail
    refine (live19_any _).mono ?_
    rintro e wl ⟨rfl, hbl⟩
    replace hbd := hbd.trans (hbl.mono hbd.size)
    clear hbl
    go_wp2
    go_ret
    exact ⟨rfl, hbd⟩
  obtain ⟨hn20, hl20⟩ := hl1 rfl
  have HLN : Hid (∀ l ∈ S, l.length ≤ 1000000) := Lib.hid fun l hl => by have := hl20 l hl; omega
  clear hl1 hl20
  go_wp2_with fail
  refine (rright19_any _ f t A n m S _ (HZ.out.below hbd) HM.out (by omega) HLN.out).mono ?_
  rintro e w2 ⟨rfl, hb2⟩
  replace hX := hX.below hb2
  replace hbd := hbd.trans (hb2.mono hbd.size)
  clear hb2 x0 x1 x2
  obtain ⟨x0, x1, x2⟩ := hX.c3
  cases hok : stok (f, t, S)
  · clear hok hX x0 x1 x2
    go_wp2_with fail
    refine (live19_any _).mono ?_
    rintro e wl ⟨rfl, hbl⟩
    replace hbd := hbd.trans (hbl.mono hbd.size)
    clear hbl
    go_wp2
    go_ret
    exact ⟨rfl, hbd⟩
  -- valid
  have HOK := Lib.hid hok
  obtain ⟨k1, k2, k3, k4, k5⟩ := stok_parts hok
  replace k1 : f < t := k1
  replace k2 : t ≤ 4611686018427387904 := k2
  replace k3 : 1 ≤ n := by rw [← HL.out]; exact k3
  replace k4 : n ≤ 8 := by rw [← HL.out]; exact k4
  obtain ⟨d, hd⟩ : ∃ d : Nat, t - f = (d : Int) := Int.eq_ofNat_of_zero_le (by omega)
  have d1 : d ≤ 4611686018427387904 := by omega
  obtain ⟨sh, hsh⟩ : ∃ sh, sh = shr d n := ⟨_, rfl⟩
  have HSH : Hid (∀ i, i < n → ∀ w', Below w.heap.size w w' → Calls Try.prog 28 #[stagg f t A n m, .int .i64 (i : Nat)] w' (BPost (.int .u64 (sh i : Nat)) w')) := Lib.hid fun i hi w' hb' => by
    have h := share_any _ f t A n m S i w' (HZ.out.below hb') HM.out (by omega) HLN.out f0 (by omega) (by omega)
    rw [shv_yes ⟨hok, by omega, by show (i : Int) < (S.length : Int); rw [HL.out]; omega⟩] at h
    show Calls _ _ _ _ _
    rw [hsh]
    have e : (f, t, S).2.1 - (f, t, S).1 = (d : Int) := hd
    rw [e, Int.toNat_natCast, Int.toNat_natCast, show (f, t, S).2.2.length = n from HL.out] at h
    exact h
  have HNEAR : Hid (∀ i j, i < n → j < n → sh i ≤ sh j + 1) := Lib.hid fun i j hi hj => by rw [hsh]; exact shr_near hi hj
  have HSUM : Hid (sum0 sh n = d) := Lib.hid (by rw [hsh]; exact shr_sum (by omega) d)
  have HSL : Hid (∀ i, i < n → sh i ≤ d) := Lib.hid fun i hi => by
    have h1 : sum0 sh (i + 1) = sum0 sh i + sh i := rfl
    have h2 := sum0_le (f := sh) (show i + 1 ≤ n by omega)
    rw [HSUM.out] at h2
    omega
  have HK5 := Lib.hid k5
  have e1 : IntKind.u64.wrap (t - f) = (d : Int) := by rw [hd]; exact IntWalk.u64_in _ (by omega)
  have hT : S.flatten.length ≤ 1000 := by
    have h9 : S.flatten.length ≤ 8 * S.length := flen_le (sok_lens k5)
    rw [HL.out] at h9
    omega
  clear hok k5 hd hsh
  have HTT := Lib.hid hT
  have h0c : ∀ w', Below w.heap.size w w' → Calls Try.prog 28 #[stagg f t A n m, .int .i64 0] w' (BPost (.int .u64 (sh 0 : Nat)) w') := fun w' h => HSH.out 0 k3 w' h
  unfold BPost at h0c
  have hS : (fun w' => Below w.heap.size w w' ∧ Blk w' w.heap.size (stc f t A n m) 25) w2.drew := ⟨hbd.trans ((below_one' w2).mono hbd.size), hX.drew⟩
  have L : ∀ w', (fun w' => Below w.heap.size w w' ∧ Blk w' w.heap.size (stc f t A n m) 25) w' → w'.cell? ⟨w.heap.size, 0, none⟩ = some (.int .u64 f) ∧ w'.cell? ⟨w.heap.size, 1, none⟩ = some (.int .u64 t) ∧ w'.cell? ⟨w.heap.size, 2, none⟩ = some (.slice A n m) := fun w' h => h.2.c3
  clear hX hbd x0 x1 x2 hT
  go_wp2
  refine Seq.wp_region_seq (fun w' => Below w.heap.size w w' ∧ Blk w' w.heap.size (stc f t A n m) 25) (by kernel_rfl) (by kernel_rfl) hS ?_
  generalize w2.drew = w3 at *
  repeat (first | (refine Seq.Seq.skip (by rfl) ?_; (try simp only [Act.put, List.setIfInBounds_toArray, List.set_cons_zero, List.set_cons_succ])) | (refine Seq.Seq.det ?_ (by rfl) (fun w hS => ?_) ?_; rotate_left; ((try dsimp only at hS); go_simp; (try rw [if_pos (by omega)]); with_reducible rfl); (try simp only [Act.put, List.setIfInBounds_toArray, List.set_cons_zero, List.set_cons_succ])))
  refine Seq.Seq.make (by rfl) (by rfl) (fun K Q' hK => ?_)
  go_simp
  go_at_call 28
  refine (h0c _ hS.1).mono ?_
  rintro e w4 ⟨rfl, hb4⟩
  replace hS : (fun w' => Below w.heap.size w w' ∧ Blk w' w.heap.size (stc f t A n m) 25) w4 := ⟨hS.1.trans (hb4.mono hS.1.size), hS.2.below hb4⟩
  clear hb4
  refine hK.out _ _ (hS) ?_
  clear hK K
  try simp only [Act.put, List.setIfInBounds_toArray, List.set_cons_zero, List.set_cons_succ]
  repeat (first | (refine Seq.Seq.skip (by rfl) ?_; (try simp only [Act.put, List.setIfInBounds_toArray, List.set_cons_zero, List.set_cons_succ])) | (refine Seq.Seq.det ?_ (by rfl) (fun w hS => ?_) ?_; rotate_left; ((try dsimp only at hS); go_simp; (try rw [if_pos (by omega)]); with_reducible rfl); (try simp only [Act.put, List.setIfInBounds_toArray, List.set_cons_zero, List.set_cons_succ])))
  refine Seq.Seq.make (by rfl) (by rfl) (fun K Q' hK => ?_)
  go_simp
  go_at_call 28
  refine (h0c _ hS.1).mono ?_
  rintro e w5 ⟨rfl, hb5⟩
  replace hS : (fun w' => Below w.heap.size w w' ∧ Blk w' w.heap.size (stc f t A n m) 25) w5 := ⟨hS.1.trans (hb5.mono hS.1.size), hS.2.below hb5⟩
  clear hb5
  refine hK.out _ _ (hS) ?_
  clear hK K
  try simp only [Act.put, List.setIfInBounds_toArray, List.set_cons_zero, List.set_cons_succ]
  repeat (first | (refine Seq.Seq.skip (by rfl) ?_; (try simp only [Act.put, List.setIfInBounds_toArray, List.set_cons_zero, List.set_cons_succ])) | (refine Seq.Seq.det ?_ (by rfl) (fun w hS => ?_) ?_; rotate_left; ((try dsimp only at hS); go_simp; (try rw [if_pos (by omega)]); with_reducible rfl); (try simp only [Act.put, List.setIfInBounds_toArray, List.set_cons_zero, List.set_cons_succ])))
  refine Seq.Seq.nil ?_
  obtain ⟨mb, hmb⟩ : ∃ x, x = w.heap.size := ⟨_, rfl⟩
  rw [← hmb] at hS
  have HMB := Lib.hid hmb
  have H0 : Hid (ShS S p n sh w.heap.size (w.heap.size + 1) (stc f t A n m) 0 0 (sh 0) (sh 0) 0 false (.slice none 0 0) w w5) := Lib.hid ⟨rfl, ⟨0, k3, rfl⟩, ⟨0, k3, rfl⟩, rfl, OwnU.nil _ _, by rw [← HMB.out] at *; exact hS.1, by rw [← HMB.out]; exact hS.2⟩
  have hb0 := HSL.out 0 k3
  clear hmb hS L h0c
  go_wp2
  go_loopw [5, 6, 7, 8, 9, 10, 11] (fun y5 y6 y7 y8 y9 y10 y11 wr => ∃ (k sm le mo wi : Nat) (me : Bool), k ≤ n ∧ y5 = .int .u64 sm ∧ y6 = .int .u64 le ∧ y7 = .int .u64 mo ∧ y9 = .int .i64 wi ∧ y10 = .bool me ∧ y11 = .int .i64 k ∧ sm ≤ d ∧ le ≤ d ∧ mo ≤ d ∧ Hid (ShS S p n sh w.heap.size (w.heap.size + 1) (stc f t A n m) k sm le mo wi me y8 w wr)) (fun y5 y6 y7 y8 y9 y10 y11 _ => 1001 - (intOf y11).toNat)
  case atStart => exact ⟨0, 0, sh 0, sh 0, 0, false, by omega, rfl, rfl, rfl, rfl, rfl, rfl, by omega, hb0, hb0, H0⟩
  case round =>
    clear H0 hb0
    obtain ⟨k, sm, le, mo, wi, me, hk, rfl, rfl, rfl, rfl, rfl, rfl, hsm, hle, hmo, HR⟩ := hrel
    obtain ⟨r1, r2, r3, r4, r5, hbd, hX⟩ := HR.out
    clear HR
    obtain ⟨x0, x1, x2⟩ := hX.c3
    by_cases hkn : k < n
    · have g1 : (k : Int) < n := by omega
      have hcon := HSH.out k hkn
      have hshd := HSL.out k hkn
      obtain ⟨x, hx⟩ : ∃ x, x = sh k := ⟨_, rfl⟩
      unfold BPost at hcon
      rw [← hx] at hcon hshd
      have hsum : sm + x ≤ d := by
        have h1 : sum0 sh (k + 1) = sum0 sh k + sh k := rfl
        have h2 := sum0_le (f := sh) (show k + 1 ≤ n by omega)
        rw [HSUM.out] at h2
        omega
      obtain ⟨le2, hle2⟩ : ∃ y, y = min le x := ⟨_, rfl⟩
      obtain ⟨mo2, hmo2⟩ : ∃ y, y = max mo x := ⟨_, rfl⟩
      have g2 : IntKind.u64.wrap ((sm : Int) + x) = ((sm + x : Nat) : Int) := IntWalk.u64_in _ (by omega)
      have g3 : min (le : Int) (x : Int) = (le2 : Int) := by omega
      have g4 : max (mo : Int) (x : Int) = (mo2 : Int) := by omega
      have g5 : IntKind.i64.wrap ((k : Int) + 1) = ((k + 1 : Nat) : Int) := IntWalk.i64_in _ (by omega)
      have HP : Hid (sm + x = sum0 sh (k + 1) ∧ (∃ i, i < n ∧ le2 = sh i) ∧ (∃ i, i < n ∧ mo2 = sh i) ∧ lastw S p k = (wi, me)) := Lib.hid ⟨by
        have h1 : sum0 sh (k + 1) = sum0 sh k + sh k := rfl
        omega, by
        rcases Nat.le_total le x with h | h
        · obtain ⟨i, hi, e⟩ := r2; exact ⟨i, hi, by omega⟩
        · exact ⟨k, hkn, by omega⟩, by
        rcases Nat.le_total mo x with h | h
        · exact ⟨k, hkn, by omega⟩
        · obtain ⟨i, hi, e⟩ := r3; exact ⟨i, hi, by omega⟩, r4⟩
      have le2d : le2 ≤ d := by omega
      have mo2d : mo2 ≤ d := by omega
      clear hx hle2 hmo2 r1 r2 r3 r4
      go_wp2_with fail
      refine (hcon _ hbd).mono ?_
      rintro e w6 ⟨rfl, hb6⟩
      have ho6 := own_below r5 hb6
      replace hX := hX.below hb6
      replace hbd := hbd.trans (hb6.mono hbd.size)
      clear hb6 x0 x1 x2
      obtain ⟨x0, x1, x2⟩ := hX.c3
      clear hcon r5
      obtain ⟨g, o, rfl, _, _, hcs⟩ := HZ.out.cells (show n ≠ 0 by omega)
      obtain ⟨a, l, m', q1, q2, q3, q4, q5, q6, q7⟩ := hcs k hkn
      have c0 := q7 _ hbd
      have hF := ftk S (k := k) (by rw [HL.out]; exact hkn)
      have hLL := ftk_le S (k + 1)
      rw [hF, List.length_append, q1] at hLL
      have hl : (S.take k).flatten.length + l ≤ 1000000 := by have := HTT.out; omega
      have hrw := (q4.below hbd).2
      have hul : (uv (S.getD k [])).length = l * 1 := by rw [List.length_map, q1, Nat.mul_one]
      have hu1 := uv_one (S.getD k [])
      have hB9 : w.heap.size + 1 ≤ w6.heap.size := hX.lt
      have HE := Lib.hid (fun (v' : Value) (w' : World) (ho' : w'.ownsRow (w.heap.size + 1) 22 1 v' ((S.take k).flatten.length + l) (uv (S.take k).flatten ++ uv (S.getD k []))) => (show OwnU w' (w.heap.size + 1) v' (S.take (k + 1)).flatten from by
        unfold OwnU
        rw [hF, List.length_append, q1, uv, List.map_append]
        exact ho'))
      have HB := Lib.hid (And.intro ho6 (And.intro hbd (And.intro hX (And.intro q7 q4))))
      have hll : l ≤ 1000000 := by omega
      unfold OwnU at ho6
      clear q1 q4 q5 q6 q7 hF hLL hcs
      go_wp2_with (at_builtin; go_must (refine list_append_rw kindU rfl (.tmp 48) (.tmp 53) rfl (w.heap.size + 1) _ _ _ rfl ho6 _ l m' (uv (S.getD k [])) rfl hul hrw q3 hu1 hl (by omega) hB9 ?_; intro v' w10 ho' hg' hgr'; have hb10 : Below (w.heap.size + 1) w6 w10 := (Below.refl _ _).grown hg' hB9 (fun k e => own_ge HB.out.1 k e); have hbd10 : Below w.heap.size w w10 := HB.out.2.1.trans (hb10.mono (Nat.le_succ _)); have hX10 : Blk w10 w.heap.size (stc f t (some ⟨g, o, none⟩) n m) 25 := (hb10.block w.heap.size (Nat.lt_succ_self _)).trans HB.out.2.2.1; have c10 := HB.out.2.2.2.1 _ hbd10; have HUS := Lib.hid (HB.out.2.2.2.2.below hbd10); obtain ⟨z0, z1, z2⟩ := hX10.c3; have HN := Lib.hid (And.intro (HE.out _ _ ho') (And.intro hbd10 hX10)); clear ho' hg' hgr' hb10 hbd10 hX10 x0 x1 x2 c0))
      refine (rhas_any a l m' (S.getD k []) p _ HUS.out hll).mono ?_
      rintro e w11 ⟨rfl, hb11⟩
      have HQ : Hid (OwnU w11 (w.heap.size + 1) v' (S.take (k + 1)).flatten ∧ Below w.heap.size w w11 ∧ Blk w11 w.heap.size (stc f t (some ⟨g, o, none⟩) n m) 25) := Lib.hid ⟨own_below HN.out.1 hb11, HN.out.2.1.trans (hb11.mono HN.out.2.1.size), HN.out.2.2.below hb11⟩
      have HLW : Hid (lastw S p (k + 1) = if (S.getD k []).contains p = true then (k, true) else (wi, me)) := Lib.hid (by
        have h9 := HP.out.2.2.2
        show (if (S.getD k []).contains p = true then (k, true) else lastw S p k) = _
        rw [h9])
      clear hb11 z0 z1 z2 c10 hX hbd ho6 hul hrw hu1
      generalize (S.getD k []).contains p = bc at *
      cases bc
      · have HEND : Hid (ShS S p n sh w.heap.size (w.heap.size + 1) (stc f t (some ⟨g, o, none⟩) n m) (k + 1) (sm + x) le2 mo2 wi me v' w w11) := Lib.hid ⟨HP.out.1, HP.out.2.1, HP.out.2.2.1, by rw [HLW.out, if_neg (by decide)], HQ.out.1, HQ.out.2.1, HQ.out.2.2⟩
        go_wp2
        go_roundw
        case rel => exact ⟨k + 1, sm + x, le2, mo2, wi, me, by omega, by go_num, by go_num, by go_num, rfl, rfl, by go_num, hsum, le2d, mo2d, HEND⟩
        case measure => simp [intOf]; omega
      · have HEND : Hid (ShS S p n sh w.heap.size (w.heap.size + 1) (stc f t (some ⟨g, o, none⟩) n m) (k + 1) (sm + x) le2 mo2 k true v' w w11) := Lib.hid ⟨HP.out.1, HP.out.2.1, HP.out.2.2.1, by rw [HLW.out, if_pos rfl], HQ.out.1, HQ.out.2.1, HQ.out.2.2⟩
        go_wp2
        go_roundw
        case rel => exact ⟨k + 1, sm + x, le2, mo2, k, true, by omega, by go_num, by go_num, by go_num, rfl, rfl, by go_num, hsum, le2d, mo2d, HEND⟩
        case measure => simp [intOf]; omega
    · have g1 : ¬ (k : Int) < n := by omega
      have hkn2 : n = k := by omega
      subst hkn2
      have hsd : d = sm := by rw [r1, HSUM.out]
      subst hsd
      have hnear : mo ≤ le + 1 := by
        obtain ⟨i, hi, e⟩ := r2
        obtain ⟨j, hj, e2⟩ := r3
        have := HNEAR.out j i hj hi
        omega
      have g6 : IntKind.u64.wrap ((le : Int) + 1) = (le : Int) + 1 := IntWalk.u64_in _ (by omega)
      have g7 : ¬ (le : Int) + 1 < mo := by omega
      have hsv := lastw_hlv (x := p) HK5.out
      rw [HL.out, r4] at hsv
      have hset := fun w' h => stset_any _ f t A n m S p w' (HZ.out.below h) HM.out (by omega) HLN.out
      rw [if_pos HOK.out, hsv] at hset
      unfold BPost at hset
      rw [List.take_of_length_le (by rw [HL.out]; omega)] at r5
      have HBY : Hid (∀ x ∈ nds S, 0 ≤ x ∧ x < 18446744073709551616) := Lib.hid fun x hx => by
        rw [nds_mem] at hx
        obtain ⟨s, hs, hx⟩ := List.mem_flatten.1 hx
        obtain ⟨i, hi, e⟩ := List.mem_iff_getElem.1 hs
        obtain ⟨g, o, _, _, _, hcs⟩ := HZ.out.cells (show n ≠ 0 by omega)
        obtain ⟨a, l, m', q1, q2, q3, q4, q5, q6, q7⟩ := hcs i (by rw [← HL.out]; exact hi)
        refine q6 x ?_
        rw [List.getD_eq_getElem?_getD, List.getElem?_eq_getElem hi]
        show x ∈ S[i]
        rw [e]; exact hx
      clear r1 r2 r3 r4 hsv HSUM HNEAR HSH HSL
      have hnd := snodes_any _ f t A n m S wr (HZ.out.below hbd) HM.out (by omega) HLN.out HOK.out
      go_wp2_with fail
      refine hnd.mono ?_
      rintro e w6 ⟨v, rfl, ho, hb6⟩
      have r6 : OwnU w6 (w.heap.size + 1) _ S.flatten := own_below r5 hb6
      replace hX := hX.below hb6
      replace hbd := hbd.trans (hb6.mono hbd.size)
      clear hb6 x0 x1 x2
      obtain ⟨x0, x1, x2⟩ := hX.c3
      obtain ⟨A1, c1, rfl⟩ := ho.slice
      obtain ⟨A2, c2, rfl⟩ := r6.slice
      have hN1 := nds_len S
      obtain ⟨N, hN⟩ : ∃ N, N = S.flatten.length := ⟨_, rfl⟩
      have hN1000 : N ≤ 1000 := by rw [hN]; exact HTT.out
      rw [nds_len, ← hN] at ho
      rw [nds_len, ← hN]
      rw [← hN] at r6
      have hu1 := ho.us.2.2.2
      have hu2 := r6.us.2.2.2
      have HU := Lib.hid (And.intro hu1 hu2)
      have W6 := Lib.hid (Below.refl w6.heap.size w6)
      clear hnd r5 ho r6 hu1 hu2 hN hN1
      go_wp2_with fail
      refine (hset _ hbd).mono ?_
      rintro e w7 ⟨rfl, hb7⟩
      have HU7 := Lib.hid (And.intro (HU.out.1.below hb7) (HU.out.2.below hb7))
      replace hX := hX.below hb7
      replace hbd := hbd.trans (hb7.mono hbd.size)
      clear hb7 x0 x1 x2
      obtain ⟨x0, x1, x2⟩ := hX.c3
      clear hset
      go_wp2_with fail
      refine (rrises_any A1 N c1 (nds S) _ HU7.out.1 (by omega) HBY.out).mono ?_
      rintro e w8 ⟨rfl, hb8⟩
      rw [nds_rises HK5.out]
      have H8 : Hid (Us w8 A1 N (nds S) ∧ Us w8 A2 N S.flatten ∧ Below w.heap.size w w8) := Lib.hid ⟨HU7.out.1.below hb8, HU7.out.2.below hb8, hbd.trans (hb8.mono hbd.size)⟩
      clear hb8 hX hbd x0 x1 x2
      go_wp2
      go_loopw [16] (fun y wr => ∃ k : Nat, k ≤ N ∧ y = .int .i64 k ∧ Hid (Us wr A1 N (nds S) ∧ Us wr A2 N S.flatten ∧ Below w.heap.size w wr)) (fun y _ => 1001 - (intOf y).toNat)
      case atStart => exact ⟨0, by omega, rfl, H8⟩
      case round =>
        clear H8
        obtain ⟨k, hk, rfl, HR⟩ := hrel
        by_cases hkN : k < N
        · have g8 : (k : Int) < N := by omega
          have g9 : IntKind.i64.wrap ((k : Int) + 1) = ((k + 1 : Nat) : Int) := IntWalk.i64_in _ (by omega)
          obtain ⟨g, o, e, _, hcs⟩ := HR.out.2.1.cells (by omega)
          have c0 := hcs _ (Below.refl _ _) k hkN
          subst e
          obtain ⟨x, hx⟩ : ∃ x, x = S.flatten.getD k 0 := ⟨_, rfl⟩
          have hhas : (nds S).contains x = true := by
            rw [List.contains_eq_mem, decide_eq_true_eq, nds_mem, hx, List.getD_eq_getElem?_getD, List.getElem?_eq_getElem (by rw [HR.out.2.1.1]; exact hkN)]
            exact List.getElem_mem _
          rw [← hx] at c0
          have HH := Lib.hid hhas
          clear hcs hx hhas
          go_wp2_with fail
          refine (rhas_any A1 N c1 (nds S) x _ HR.out.1 (by omega)).mono ?_
          rintro e w9 ⟨rfl, hb9⟩
          rw [HH.out]
          have H9 : Hid (Us w9 A1 N (nds S) ∧ Us w9 (some ⟨g, o, none⟩) N S.flatten ∧ Below w.heap.size w w9) := Lib.hid ⟨HR.out.1.below hb9, HR.out.2.1.below hb9, HR.out.2.2.trans (hb9.mono HR.out.2.2.size)⟩
          clear hb9 HR c0
          go_wp2
          go_roundw
          case rel => exact ⟨k + 1, by omega, by go_num, H9⟩
          case measure => simp [intOf]; omega
        · have g8 : ¬ (k : Int) < N := by omega
          have hbd := HR.out.2.2
          clear HR
          go_wp2_with fail
          refine (live19_any _).mono ?_
          rintro e wl ⟨rfl, hbl⟩
          replace hbd := hbd.trans (hbl.mono hbd.size)
          clear hbl
          go_wp2
          go_ret
          exact ⟨rfl, hbd⟩

set_option maxRecDepth 100000 in
theorem lifted (os : Os) (started : os.Started) (H : Type) (enc : TypeId × Value → H) :
    ReturnsInHanded {} Try.checked os 6 .any (Rows.stripeSharesSpec.pre6 enc Try.prog Try.f6 Rows.stripeSharesRow.domain false) (Rows.stripeSharesSpec.post enc Try.prog Try.f6 false true false false) := by
  refine returnsInHanded_of_change (C := Try.checked) own started (by kernel_rfl) Try.func6
    (ChangeSpec.witness6 (enc := enc) (C := Try.checked) false ⟨#[], #[.agg #[.int .u64 0, .int .u64 0, .slice none 0 0], .int .u64 0], []⟩ 8 (by kernel_rfl) (by kernel_rfl) (by kernel_rfl) (by kernel_rfl)) ?_
  intro W base args ds gs before hval0 hW hcnd _
  have hval : ∀ (j : Nat) t v, Try.f6.params[j]? = some t → args[j]? = some v → Value.okWide Try.prog W .any base t v := hval0
  have hW' := hW
  obtain ⟨p, q, hA0, hV, rfl, hfz, hnd⟩ := hW
  have hA : DataW.TrodAll enc Try.prog W 0 (fun _ => true) true Try.f6.params.toList args.toList ds p := hA0
  rw [Try.params6] at hA hval
  obtain ⟨v0, vs0, d0, ds0, p0, q0, hargs, rfl, rfl, h0, r0⟩ := trodAll_cons hA
  obtain ⟨v1, vs1, d1, ds1, p1, q1, rfl, rfl, rfl, h1, r1⟩ := trodAll_cons r0
  obtain ⟨rfl, rfl, rfl⟩ := trodAll_nil r1
  obtain rfl : args = #[v0, v1] := by cases args; simp_all
  obtain ⟨rfl, rfl⟩ := trodVars_none hV
  have lt0 : ∀ x ∈ p0, x.block < W.heap.size := by obtain ⟨m, hm⟩ := h0; exact DataW.trod_lt m _ _ _ hm
  have lt1 : ∀ x ∈ p1, x.block < W.heap.size := by obtain ⟨m, hm⟩ := h1; exact DataW.trod_lt m _ _ _ hm
  clear hA0 hval0
  refine (walk enc W base v0 d0 p0 (hval 0 25 v0 rfl rfl) h0 v1 d1 p1 (hval 1 22 v1 rfl rfl) h1).mono fun e W' ⟨he, bel⟩ => ?_
  subst he
  exact ⟨_, rfl, _, _, _, [], _, [], hW', trodAll_mk1 (shut_bool Try.underlying4 _), (trodAll_cons_mk (Below.trod laidOut (by kernel_rfl) (of_decide_eq_true (by kernel_rfl)) h0 bel lt0) (trodAll_cons_mk (Below.trod laidOut (by kernel_rfl) (of_decide_eq_true (by kernel_rfl)) h1 bel lt1) trodAll_mk0)), rfl, bel.frame _, fun h => by cases h⟩

theorem over : Rows.stripeSharesRow.holds Try.pinned (OpenSpec.ofChange Rows.stripeSharesSpec) :=
  OpenClaim.holds_of_wide 6 Try.f6 rfl rfl rfl rfl rfl rfl rfl ⟨rfl, rfl, rfl, rfl, rfl⟩ rfl rfl rfl rfl rfl (by kernel_rfl) Try.func6 (by kernel_rfl)
    (of_decide_eq_true (by kernel_rfl)) (by unfold Func.isWrapper; first | (rw [if_pos (by decide +kernel)]; kernel_rfl) | (rw [if_neg (by decide +kernel)]; exact ⟨rfl, rfl⟩))
    (fun os started H enc _ => lifted os started H enc)

/-- THE STATEMENT. -/
theorem proved : Rows.StripeSharesSaid := over
#print axioms proved
end Go.Proofs.Ytpoicagalmhfdaa.stripeShares

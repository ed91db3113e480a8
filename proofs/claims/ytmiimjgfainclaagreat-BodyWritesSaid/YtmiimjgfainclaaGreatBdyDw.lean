/- As the seat's text, without what nothing here names. -/
import Derived.Test.YtmiimjgfainclaaGreatBdyBw
import Derived.Test.YtmiimjgfainclaaGreatBdyCw
import Derived.Test.YtmiimjgfainclaaGreatK26w
import Derived.Test.YtmiimjgfainclaaGreatK21w
import Derived.Test.YtmiimjgfainclaaGreatK33w
import Derived.Test.YtmiimjgfainclaaGreatK20w
import Derived.Test.YtmiimjgfainclaaGreatK18w
import Derived.Test.YtmiimjgfainclaaGreatK5w
import Derived.Test.YtmiimjgfainclaaGreatK24w
import Derived.Test.YtmiimjgfainclaaGreatK6w
namespace Go.Proofs.YtmiimjgfainclaaGreat.Cur
open Go.RowKit Mem
set_option linter.unusedVariables false
set_option linter.unusedSimpArgs false
set_option maxRecDepth 100000
def bdf (M : Ms) : Nat → List Int
  | 0 => vz M.p
  | 1 => vz M.c
  | 2 => [M.t]
  | 3 => vz M.S.length ++ rz M.S
  | 4 => lkz M.p M.L
  | 5 => if bears M = true then bkb M.D else []
  | 6 => sby M.s
  | _ => prb (M.u, M.P)
def bdp (M : Ms) : Nat → List Int
  | 0 => []
  | i + 1 => bdp M i ++ (if kh M.k (pw2 i) = true then bdf M i else [])
def bdz (M : Ms) : List Int := bdp M 8
theorem bfk_at {M : Ms} : ∀ {n : Nat}, bfk M n = true → ∀ {i : Nat}, i < n → bfit M i = true
  | n + 1, h, i, hi => by
    have h : (bfk M n && bfit M n) = true := h
    rw [Bool.and_eq_true] at h
    by_cases e : i = n
    · subst e; exact h.2
    · exact bfk_at h.1 (by omega)
theorem bdk_right {M : Ms} (h : bdk M = true) {i : Nat} (hi : i < 8) (hk : kh M.k (pw2 i) = true) : (bfr M i).1 = true := by
  unfold bdk at h
  rw [Bool.and_eq_true] at h
  have := bfk_at h.1 hi
  unfold bfit at this
  rwa [if_pos hk] at this
theorem kh_kind {k p : Int} (h : kh k p = true) : 1 ≤ k ∧ k ≤ 14 := by
  by_cases h2 : 1 ≤ k ∧ k ≤ 14
  · exact h2
  · unfold kh at h
    rw [kof_out h2] at h
    simp at h
theorem kh_proj {k : Int} (h : kh k 128 = true) : ∀ i, i < 7 → kh k (pw2 i) = false := by
  obtain ⟨h1, h2⟩ := kh_kind h
  intro i hi
  match i, hi with
  | 0, _ | 1, _ | 2, _ | 3, _ | 4, _ | 5, _ | 6, _ =>
    rcases cases14 h1 h2 with rfl | rfl | rfl | rfl | rfl | rfl | rfl | rfl | rfl | rfl | rfl | rfl | rfl | rfl <;> first | rfl | exact absurd h (by decide)
theorem bdp_proj {M : Ms} (h : kh M.k 128 = true) : ∀ i, i ≤ 7 → bdp M i = []
  | 0, _ => rfl
  | i + 1, hi => by
    show bdp M i ++ (if kh M.k (pw2 i) = true then bdf M i else []) = []
    rw [bdp_proj h i (by omega), kh_proj h i (by omega)]
    rfl
theorem bdf_len {M : Ms} (h : bdk M = true) (hD : M.D.length ≤ 1000) {i : Nat} (hi : i < 8) (hk : kh M.k (pw2 i) = true) : (bdf M i).length ≤ 47380 ∧ (i < 7 → (bdf M i).length ≤ 1100) := by
  have hr := bdk_right h hi hk
  have hv : ∀ x, (vz x).length ≤ 10 := fun x => by rw [vz_length]; exact vsz_le x
  match i, hi with
  | 0, _ => have := hv M.p; exact ⟨by show (vz M.p).length ≤ _; omega, fun _ => by show (vz M.p).length ≤ _; omega⟩
  | 1, _ => have := hv M.c; exact ⟨by show (vz M.c).length ≤ _; omega, fun _ => by show (vz M.c).length ≤ _; omega⟩
  | 2, _ => exact ⟨by show 1 ≤ _; omega, fun _ => by show 1 ≤ _; omega⟩
  | 3, _ =>
    have hr : (decide (M.S.length ≤ 16) && risesB M.S) = true := hr
    rw [Bool.and_eq_true] at hr
    have h1 := of_decide_eq_true hr.1
    have h2 := rz_len M.S
    have h3 := hv M.S.length
    have h4 : (bdf M 3).length = (vz (M.S.length : Int)).length + (rz M.S).length := List.length_append ..
    exact ⟨by omega, fun _ => by omega⟩
  | 4, _ => have h1 : (lkz M.p M.L).length ≤ 970 := lkz_len hr; exact ⟨by show (lkz M.p M.L).length ≤ _; omega, fun _ => by show (lkz M.p M.L).length ≤ _; omega⟩
  | 5, _ =>
    have h1 := bkb_len M.D
    have h2 : (bdf M 5).length ≤ 1011 := by
      show (if bears M = true then bkb M.D else []).length ≤ 1011
      split
      · omega
      · simp
    exact ⟨by omega, fun _ => by omega⟩
  | 6, _ => have h1 := sby_len M.s; exact ⟨by show (sby M.s).length ≤ _; omega, fun _ => by show (sby M.s).length ≤ _; omega⟩
  | 7, _ => have h1 : (prb (M.u, M.P)).length ≤ 47380 := prb_len hr; exact ⟨h1, fun h => absurd h (by omega)⟩
theorem bdp_len {M : Ms} (h : bdk M = true) (hD : M.D.length ≤ 1000) : ∀ i, i ≤ 7 → (bdp M i).length ≤ i * 1100
  | 0, _ => Nat.zero_le _
  | i + 1, hi => by
    have h1 := bdp_len h hD i (by omega)
    show (bdp M i ++ (if kh M.k (pw2 i) = true then bdf M i else [])).length ≤ _
    rw [List.length_append, Nat.succ_mul]
    by_cases hk : kh M.k (pw2 i) = true
    · rw [if_pos hk]
      have := (bdf_len h hD (by omega) hk).2 (by omega)
      omega
    · rw [if_neg hk]
      show _ + 0 ≤ _
      omega
theorem bdz_len {M : Ms} (h : bdk M = true) (hD : M.D.length ≤ 1000) : (bdz M).length ≤ 60000 := by
  have h1 := bdp_len h hD 7 (Nat.le_refl _)
  show (bdp M 7 ++ (if kh M.k (pw2 7) = true then bdf M 7 else [])).length ≤ _
  rw [List.length_append]
  by_cases hk : kh M.k (pw2 7) = true
  · rw [if_pos hk]
    have := (bdf_len h hD (i := 7) (by omega) hk).1
    omega
  · rw [if_neg hk]
    show _ + 0 ≤ _
    omega
theorem pr_of_puts {B b : Nat} {r : Option Nat} {z : List Int} {xs : List (List Int)} {M : Int} {w : World} {e : Ending} {w' : World} (h : WPutsPost B b r z xs M 0 w e w') (hf : (z.length : Int) + xs.flatten.length ≤ M) : PRPost B b r (z ++ xs.flatten) M w e w' := by
  obtain ⟨r', h1, h2, h3, h4⟩ := h
  rw [puts_fits hf] at h4
  exact ⟨r', h1, h2, h3, h4⟩
theorem pr_of_put {B b : Nat} {r : Option Nat} {z y : List Int} {M : Int} {w : World} {e : Ending} {w' : World} (h : WPutPost B b r z y M 0 w e w') (hf : (z.length : Int) + y.length ≤ M) : PRPost B b r (z ++ y) M w e w' := by
  obtain ⟨r', h1, h2, h3, h4⟩ := h
  obtain ⟨f1, f2⟩ := putZ_fits hf
  rw [f1, f2] at h4
  exact ⟨r', h1, h2, h3, h4⟩
def PutB (w : World) (xb mb b : Nat) (M : Ms) (a : Ma) : Prop := Blk w xb #[.pointer (some ⟨b, 0, none⟩)] 38 ∧ Blk w mb (msc M a) 32
set_option maxHeartbeats 1000000 in
theorem put1_any {w : World} {B b : Nat} {r : Option Nat} {y : List Int} {X : Int} (xb mb : Nat) (M : Ms) (a : Ma) (h : Wr w B b r y X 0) (hB : PutB w xb mb b M a) (hBw : B ≤ w.heap.size) (hp : u64b M.p) (hok : psk M.p = true) (hy : y.length ≤ 100000) (hf : (y.length : Int) + (vz M.p).length ≤ X) :
    Calls Tryz.prog 33 #[.pointer (some ⟨xb, 0, none⟩), .pointer (some ⟨mb, 0, none⟩)] w (PRPost B b r (y ++ vz M.p) X w) := by
  have hcon := (eputpos_any M.p h hp.1 hp.2 (by omega) hBw).mono fun e w' hh => (hh.elim (fun q => pr_of_put q.2 hf) (fun q => absurd q.1 (by rw [hok]; decide)) : PRPost B b r (y ++ vz M.p) X w e w')
  have z0 := hB.1.c1
  obtain ⟨⟨x0, x1, x2, x3, x4, x5, x6⟩, x7, x8, x9, x10, x11, x12, x13⟩ := ms_cells hB.2
  obtain ⟨Z, hZ⟩ : ∃ Z, Z = y ++ vz M.p := ⟨_, rfl⟩
  rw [← hZ] at hcon ⊢
  clear hZ h hB
  go_enter Tryz.func33, Tryz.ntmps33
  go_wp2_with fail
  refine hcon.mono ?_
  rintro e w1 ⟨r1, rfl, hk1, hg1, hw1⟩
  have HW := Lib.hid hw1
  clear hcon hw1 z0 x0 x1 x2 x3 x4 x5 x6 x7 x8 x9 x10 x11 x12 x13
  go_wp2
  go_end0
  exact ⟨r1, rfl, hk1, hg1, HW.out⟩
set_option maxHeartbeats 1000000 in
theorem put2_any {w : World} {B b : Nat} {r : Option Nat} {y : List Int} {X : Int} (xb mb : Nat) (M : Ms) (a : Ma) (h : Wr w B b r y X 0) (hB : PutB w xb mb b M a) (hBw : B ≤ w.heap.size) (hc : 1 ≤ M.c ∧ M.c ≤ 65536) (e2 : IntKind.u64.wrap M.c = M.c) (hy : y.length ≤ 100000) (hf : (y.length : Int) + (vz M.c).length ≤ X) :
    Calls Tryz.prog 35 #[.pointer (some ⟨xb, 0, none⟩), .pointer (some ⟨mb, 0, none⟩)] w (PRPost B b r (y ++ vz M.c) X w) := by
  have hcon := (vput_any M.c h (by omega) (by omega) (by omega) hBw).mono fun e w' hh => (pr_of_put hh hf : PRPost B b r (y ++ vz M.c) X w e w')
  have z0 := hB.1.c1
  obtain ⟨⟨x0, x1, x2, x3, x4, x5, x6⟩, x7, x8, x9, x10, x11, x12, x13⟩ := ms_cells hB.2
  obtain ⟨Z, hZ⟩ : ∃ Z, Z = y ++ vz M.c := ⟨_, rfl⟩
  rw [← hZ] at hcon ⊢
  clear hZ h hB
  go_enter Tryz.func35, Tryz.ntmps35
  go_wp2_with fail
  refine hcon.mono ?_
  rintro e w1 ⟨r1, rfl, hk1, hg1, hw1⟩
  have HW := Lib.hid hw1
  clear hcon hw1 z0 x0 x1 x2 x3 x4 x5 x6 x7 x8 x9 x10 x11 x12 x13
  go_wp2
  go_end0
  exact ⟨r1, rfl, hk1, hg1, HW.out⟩
set_option maxHeartbeats 1000000 in
theorem put5_any {w : World} {B b : Nat} {r : Option Nat} {y : List Int} {X : Int} (xb mb : Nat) (M : Ms) (a : Ma) (h : Wr w B b r y X 0) (hB : PutB w xb mb b M a) (hBw : B ≤ w.heap.size) (Q : Nat → Prop) (hm : MsIn w Q M a) (hok : lkok M.p M.L = true) (hoff : ∀ b', Q b' → b' < w.heap.size → ¬ WS b r b') (hy : y.length ≤ 100000) (hf : (y.length : Int) + (lkz M.p M.L).length ≤ X) :
    Calls Tryz.prog 41 #[.pointer (some ⟨xb, 0, none⟩), .pointer (some ⟨mb, 0, none⟩)] w (PRPost B b r (y ++ lkz M.p M.L) X w) := by
  have hcon := (lput_yes Q M.p a.A2 M.L.length a.m2 M.L h hm.lks hm.hp.1 hm.hp.2 hok hoff (by omega) hBw).mono fun e w' hh => (by have := pr_of_puts hh (by rw [lkis_end]; exact hf); rw [lkis_end] at this; exact this : PRPost B b r (y ++ lkz M.p M.L) X w e w')
  have z0 := hB.1.c1
  obtain ⟨⟨x0, x1, x2, x3, x4, x5, x6⟩, x7, x8, x9, x10, x11, x12, x13⟩ := ms_cells hB.2
  obtain ⟨Z, hZ⟩ : ∃ Z, Z = y ++ lkz M.p M.L := ⟨_, rfl⟩
  rw [← hZ] at hcon ⊢
  clear hZ h hB
  go_enter Tryz.func41, Tryz.ntmps41
  go_wp2_with fail
  refine hcon.mono ?_
  rintro e w1 ⟨r1, rfl, hk1, hg1, hw1⟩
  have HW := Lib.hid hw1
  clear hcon hw1 z0 x0 x1 x2 x3 x4 x5 x6 x7 x8 x9 x10 x11 x12 x13
  go_wp2
  go_end0
  exact ⟨r1, rfl, hk1, hg1, HW.out⟩
set_option maxHeartbeats 1000000 in
theorem put7_any {w : World} {B b : Nat} {r : Option Nat} {y : List Int} {X : Int} (xb mb : Nat) (M : Ms) (a : Ma) (h : Wr w B b r y X 0) (hB : PutB w xb mb b M a) (hBw : B ≤ w.heap.size) (hs : sbd M.s) (hok : slok M.s = true) (hy : y.length ≤ 100000) (hf : (y.length : Int) + (sby M.s).length ≤ X) :
    Calls Tryz.prog 45 #[.pointer (some ⟨xb, 0, none⟩), .pointer (some ⟨mb, 0, none⟩)] w (PRPost B b r (y ++ sby M.s) X w) := by
  have hcon := (show Calls Tryz.prog 46 #[.pointer (some ⟨b, 0, none⟩), sagg M.s] w (PRPost B b r (y ++ sby M.s) X w) from (sput_yes M.s hok hs h (by omega) hBw).mono fun e w' hh => pr_of_puts hh hf)
  have z0 := hB.1.c1
  obtain ⟨⟨x0, x1, x2, x3, x4, x5, x6⟩, x7, x8, x9, x10, x11, x12, x13⟩ := ms_cells hB.2
  obtain ⟨Z, hZ⟩ : ∃ Z, Z = y ++ sby M.s := ⟨_, rfl⟩
  rw [← hZ] at hcon ⊢
  clear hZ h hB
  go_enter Tryz.func45, Tryz.ntmps45
  go_wp2_with fail
  refine hcon.mono ?_
  rintro e w1 ⟨r1, rfl, hk1, hg1, hw1⟩
  have HW := Lib.hid hw1
  clear hcon hw1 z0 x0 x1 x2 x3 x4 x5 x6 x7 x8 x9 x10 x11 x12 x13
  go_wp2
  go_end0
  exact ⟨r1, rfl, hk1, hg1, HW.out⟩
set_option maxHeartbeats 1000000 in
theorem put8_any {w : World} {B b : Nat} {r : Option Nat} {y : List Int} {X : Int} (xb mb : Nat) (M : Ms) (a : Ma) (h : Wr w B b r y X 0) (hB : PutB w xb mb b M a) (hBw : B ≤ w.heap.size) (hy0 : y = []) (hm : MsIn w (fun b' => b' < B) M a) (hok : prok (M.u, M.P) = true) (hpl : plen 1000000 M.P) (hf : 47380 ≤ X) :
    Calls Tryz.prog 47 #[.pointer (some ⟨xb, 0, none⟩), .pointer (some ⟨mb, 0, none⟩)] w (PRPost B b r (y ++ prb (M.u, M.P)) X w) := by
  have hcon := (show Calls Tryz.prog 48 #[.pointer (some ⟨b, 0, none⟩), pragg M.u a.A4 M.P.length a.m4] w (PRPost B b r (y ++ prb (M.u, M.P)) X w) from by subst hy0; exact prput_yes (fun b' => b' < B) M.u a.A4 M.P.length a.m4 M.P hok h hm.pts hpl (fun b' hb => hb) hf hBw)
  have z0 := hB.1.c1
  obtain ⟨⟨x0, x1, x2, x3, x4, x5, x6⟩, x7, x8, x9, x10, x11, x12, x13⟩ := ms_cells hB.2
  obtain ⟨Z, hZ⟩ : ∃ Z, Z = y ++ prb (M.u, M.P) := ⟨_, rfl⟩
  rw [← hZ] at hcon ⊢
  clear hZ h hB
  go_enter Tryz.func47, Tryz.ntmps47
  go_wp2_with fail
  refine hcon.mono ?_
  rintro e w1 ⟨r1, rfl, hk1, hg1, hw1⟩
  have HW := Lib.hid hw1
  clear hcon hw1 z0 x0 x1 x2 x3 x4 x5 x6 x7 x8 x9 x10 x11 x12 x13
  go_wp2
  go_end0
  exact ⟨r1, rfl, hk1, hg1, HW.out⟩
set_option maxHeartbeats 1000000 in
theorem put3_any {w : World} {B b : Nat} {r : Option Nat} {y : List Int} {X : Int} (xb mb : Nat) (M : Ms) (a : Ma) (h : Wr w B b r y X 0) (hB : PutB w xb mb b M a) (hBw : B ≤ w.heap.size) (ht : 1 ≤ M.t ∧ M.t ≤ 20) (hy : y.length ≤ 100000) (hf : (y.length : Int) + 1 ≤ X) :
    Calls Tryz.prog 37 #[.pointer (some ⟨xb, 0, none⟩), .pointer (some ⟨mb, 0, none⟩)] w (PRPost B b r (y ++ [M.t]) X w) := by
  have hb := below_one w (.cells #[.int .u8 M.t] 5)
  have hN := Blk.new w #[.int .u8 M.t] 5
  have hbs : Bs (w.alloc (.cells #[.int .u8 M.t] 5)) (some ⟨w.heap.size, 0, none⟩) 1 [M.t] := ⟨rfl, fun _ => ⟨w.heap.size, 0, rfl, fun i x hx => by
    match i, hx with
    | 0, hx => simp at hx; subst hx; exact hN.c1⟩⟩
  have hcon := (wput_any (some ⟨w.heap.size, 0, none⟩) 1 1 (h.below hb) hbs (fun e => by cases e) (fun _ ad e => by injection e with e; subst e; exact h.off (Nat.le_refl _)) (by omega) (Nat.le_trans hBw hb.size)).mono fun e w' hh => (pr_of_put hh (by simpa using hf) : PRPost B b r (y ++ [M.t]) X _ e w')
  have hks : Ks (WS b r) w (w.alloc (.cells #[.int .u8 M.t] 5)) := Ks.of_below hb
  have hsz := hb.size
  have z0 := hB.1.c1
  obtain ⟨⟨x0, x1, x2, x3, x4, x5, x6⟩, _⟩ := ms_cells hB.2
  have e2 : IntKind.u8.wrap M.t = M.t := by show M.t % 256 = M.t; omega
  obtain ⟨Z, hZ⟩ : ∃ Z, Z = y ++ [M.t] := ⟨_, rfl⟩
  rw [← hZ] at hcon ⊢
  clear hZ h hB hbs hN hb
  go_enter Tryz.func37, Tryz.ntmps37
  go_wp2_with fail
  refine hcon.mono ?_
  rintro e w1 ⟨r1, rfl, hk1, hg1, hw1⟩
  have HW := Lib.hid hw1
  have HK := Lib.hid (hks.trans hk1)
  have HGR : Hid (Gr r r1 w) := Lib.hid (hg1.imp id (fun ⟨g, e, hg⟩ => ⟨g, e, Nat.le_trans hsz hg⟩))
  clear hcon hw1 hk1 hg1 hks z0 x0 x1 x2 x3 x4 x5 x6
  go_wp2
  go_end0
  exact ⟨r1, rfl, HK.out, HGR.out, HW.out⟩
set_option maxHeartbeats 1000000 in
theorem putstreams_any {w : World} {B b : Nat} {r : Option Nat} {y : List Int} {X : Int} (A : Option Addr) (n m : Nat) (z : List Int) (h : Wr w B b r y X 0) (hz : Us w A n z) (hzb : ∀ x ∈ z, 0 ≤ x ∧ x < 18446744073709551616) (hn : n ≤ 16) (hr : risesB z = true) (hoff : 0 < n → ∀ ad, A = some ad → ¬ WS b r ad.block) (hlt : 0 < n → ∀ ad, A = some ad → ad.block < w.heap.size)
    (hBw : B ≤ w.heap.size) (hy : y.length ≤ 90000) (hf : (y.length : Int) + (vz n).length + (rz z).length ≤ X) :
    Calls Tryz.prog 40 #[.pointer (some ⟨b, 0, none⟩), .slice A n m] w (PRPost B b r (y ++ (vz n ++ rz z)) X w) := by
  have e2 : IntKind.u64.wrap (n : Int) = n := IntWalk.u64_in _ (by omega)
  have hv : (vz (n : Int)).length ≤ 10 := by rw [vz_length]; exact vsz_le _
  have hcon := (vput_any (n : Int) h (by omega) (by omega) (by omega) hBw).mono fun e w' hh => (pr_of_put hh (by omega) : PRPost B b r (y ++ vz n) X w e w')
  have HZ := Lib.hid (And.intro hz (And.intro hzb hr))
  have HOFF := Lib.hid hoff
  have HLT := Lib.hid hlt
  have HF := Lib.hid hf
  obtain ⟨Z, hZ⟩ : ∃ Z, Z = y ++ (vz (n : Int) ++ rz z) := ⟨_, rfl⟩
  rw [← hZ]
  have HZZ := Lib.hid hZ
  obtain ⟨Y1, hY1⟩ : ∃ Y1, Y1 = y ++ vz (n : Int) := ⟨_, rfl⟩
  rw [← hY1] at hcon
  have HY1 := Lib.hid hY1
  have hl1 : Y1.length ≤ 100000 := by rw [hY1, List.length_append]; omega
  clear hZ hY1 hz hzb hr hoff hlt hf h hy hv
  go_enter Tryz.func40, Tryz.ntmps40
  go_wp2_with fail
  refine hcon.mono ?_
  rintro e w1 ⟨r1, rfl, hk1, hg1, hw1⟩
  have hcon2 := putrising_yes A n m z hw1 (HZ.out.1.ks hk1 (fun h0 ad ha => HOFF.out h0 ad ha)) (off_gr HLT.out HOFF.out hg1) (by omega) HZ.out.2.1 HZ.out.2.2 (by have := HF.out; rw [HY1.out, List.length_append]; omega) hl1 (Nat.le_trans hBw hk1.size)
  rw [show Y1 ++ rz z = Z by rw [HY1.out, HZZ.out, List.append_assoc]] at hcon2
  clear hcon hw1
  go_wp2_with fail
  refine hcon2.mono ?_
  rintro e w2 ⟨r2, rfl, hk2, hg2, hw2⟩
  have HW := Lib.hid hw2
  have HK := Lib.hid (Ks.wr hk1 hg1 hk2)
  have HGR := Lib.hid (hg1.trans hg2 hk1.size)
  clear hcon2 hw2 hk1 hk2 hg1 hg2
  go_wp2
  go_end0
  exact ⟨r2, rfl, HK.out, HGR.out, HW.out⟩
set_option maxHeartbeats 1000000 in
theorem put4_any {w : World} {B b : Nat} {r : Option Nat} {y : List Int} {X : Int} (xb mb : Nat) (M : Ms) (a : Ma) (h : Wr w B b r y X 0) (hB : PutB w xb mb b M a) (hBw : B ≤ w.heap.size) (Q : Nat → Prop) (hm : MsIn w Q M a) (hn : M.S.length ≤ 16) (hok : risesB M.S = true) (hoff : ∀ b', Q b' → b' < w.heap.size → ¬ WS b r b') (hy : y.length ≤ 90000) (hf : (y.length : Int) + (vz M.S.length).length + (rz M.S).length ≤ X) :
    Calls Tryz.prog 39 #[.pointer (some ⟨xb, 0, none⟩), .pointer (some ⟨mb, 0, none⟩)] w (PRPost B b r (y ++ (vz M.S.length ++ rz M.S)) X w) := by
  have hcon := putstreams_any a.A1 M.S.length a.m1 M.S h hm.us hm.sb hn hok (fun h0 ad ha => hoff _ (us_block hm.hS h0 ad ha) (hm.us.2.lt (by rw [List.length_map]; exact h0) ad ha)) (fun h0 ad ha => hm.us.2.lt (by rw [List.length_map]; exact h0) ad ha) hBw hy hf
  have z0 := hB.1.c1
  obtain ⟨⟨x0, x1, x2, x3, x4, x5, x6⟩, x7, x8, x9, x10, x11, x12, x13⟩ := ms_cells hB.2
  obtain ⟨Z, hZ⟩ : ∃ Z, Z = y ++ (vz M.S.length ++ rz M.S) := ⟨_, rfl⟩
  rw [← hZ] at hcon ⊢
  clear hZ h hB
  go_enter Tryz.func39, Tryz.ntmps39
  go_wp2_with fail
  refine hcon.mono ?_
  rintro e w1 ⟨r1, rfl, hk1, hg1, hw1⟩
  have HW := Lib.hid hw1
  clear hcon hw1 z0 x0 x1 x2 x3 x4 x5 x6 x7 x8 x9 x10 x11 x12 x13
  go_wp2
  go_end0
  exact ⟨r1, rfl, hk1, hg1, HW.out⟩
set_option maxHeartbeats 1000000 in
theorem putdata_any {w : World} {B b : Nat} {r : Option Nat} {y : List Int} {X : Int} (M : Ms) (a : Ma) (Q : Nat → Prop) (h : Wr w B b r y X 0) (hm : MsIn w Q M a) (hD : M.D.length ≤ 1000) (hoff : ∀ b', Q b' → b' < w.heap.size → ¬ WS b r b') (hBw : B ≤ w.heap.size) (hy : y.length ≤ 100000) (hf : (y.length : Int) + (bdf M 5).length ≤ X) :
    Calls Tryz.prog 44 #[.pointer (some ⟨b, 0, none⟩), msagg M a] w (PRPost B b r (y ++ bdf M 5) X w) := by
  have hX := Blk.new w (msc M a) 32
  have hb := below_one w (.cells (msc M a) 32)
  obtain ⟨⟨x0, x1, x2, x3, x4, x5, x6⟩, x7, x8, x9, x10, x11, x12, x13⟩ := ms_cells hX
  have hbe := bears_any M a (w.alloc (.cells (msc M a) 32))
  unfold BPost at hbe
  have h1 := h.below hb
  have HX := Lib.hid hX
  have HM := Lib.hid (hm.below hb)
  have HOFF : Hid (∀ b', (Q b' ∧ b' < w.heap.size) → ¬ WS b r b') := Lib.hid (fun b' hq => hoff b' hq.1 hq.2)
  have HM2 := Lib.hid (((hm.mono (R := fun b' => Q b' ∧ b' < w.heap.size) (fun b' hq hl => ⟨hq, hl⟩))).below hb)
  have hks : Ks (WS b r) w (w.alloc (.cells (msc M a) 32)) := Ks.of_below hb
  have hsz := hb.size
  have HD : Hid (bdf M 5 = if bears M = true then bkb M.D else []) := Lib.hid rfl
  have HF := Lib.hid hf
  generalize bdf M 5 = Z5 at *
  clear h hm hoff hX hb hf
  go_enter Tryz.func44, Tryz.ntmps44
  go_wp2_with fail
  generalize w.alloc (.cells (msc M a) 32) = w0 at *
  refine hbe.mono ?_
  rintro e w1 ⟨rfl, hb1⟩
  have hw1 := h1.below hb1
  have hks1 := hks.trans (Ks.of_below hb1)
  have hs1 := hb1.size
  have HM1 := Lib.hid (HM2.out.below hb1)
  have hX1 := HX.out.below hb1
  clear hbe h1 hks hb1 x0 x1 x2 x3 x4 x5 x6 x7 x8 x9 x10 x11 x12 x13
  obtain ⟨⟨x0, x1, x2, x3, x4, x5, x6⟩, x7, x8, x9, x10, x11, x12, x13⟩ := ms_cells hX1
  cases hbr : bears M
  · have HN : Hid (y ++ Z5 = y) := Lib.hid (by rw [HD.out, hbr]; simp)
    have HW := Lib.hid hw1
    have HK := Lib.hid hks1
    clear hbr hw1 hks1 hX1 HM HM1 HM2
    go_wp2
    go_end0
    exact ⟨r, rfl, HK.out, Gr.refl _ _, by rw [HN.out]; exact HW.out⟩
  · have HN : Hid (Z5 = bkb M.D) := Lib.hid (by rw [HD.out, hbr]; rfl)
    have hcon := (kput_any a.A3 M.D.length a.m3 hw1 HM1.out.bs HM1.out.hD2 (fun h0 ad ha => HOFF.out _ (HM1.out.hD.bs.2.2 h0 ad ha)) HM1.out.db HM1.out.hD1 (by omega) hy (by omega)).mono fun e w' hh => (by have := pr_of_puts hh (by rw [bki_flat, ← HN.out]; exact HF.out); rw [bki_flat, ← HN.out] at this; exact this : PRPost B b r (y ++ Z5) X w1 e w')
    have HK := Lib.hid hks1
    have hs2 : w.heap.size ≤ w1.heap.size := Nat.le_trans hsz hs1
    clear hbr hw1 hks1 hX1
    go_wp2_with fail
    refine hcon.mono ?_
    rintro e w2 ⟨r2, rfl, hk2, hg2, hw2⟩
    have HW := Lib.hid hw2
    have HK2 := Lib.hid (HK.out.trans hk2)
    have HGR : Hid (Gr r r2 w) := Lib.hid (hg2.imp id (fun ⟨g, e, hg⟩ => ⟨g, e, Nat.le_trans hs2 hg⟩))
    clear hcon hw2 hk2 hg2
    go_wp2
    go_end0
    exact ⟨r2, rfl, HK2.out, HGR.out, HW.out⟩
set_option maxHeartbeats 1000000 in
theorem put6_any {w : World} {B b : Nat} {r : Option Nat} {y : List Int} {X : Int} (xb mb : Nat) (M : Ms) (a : Ma) (h : Wr w B b r y X 0) (hB : PutB w xb mb b M a) (hBw : B ≤ w.heap.size) (Q : Nat → Prop) (hm : MsIn w Q M a) (hD : M.D.length ≤ 1000) (hoff : ∀ b', Q b' → b' < w.heap.size → ¬ WS b r b') (hy : y.length ≤ 100000) (hf : (y.length : Int) + (bdf M 5).length ≤ X) :
    Calls Tryz.prog 43 #[.pointer (some ⟨xb, 0, none⟩), .pointer (some ⟨mb, 0, none⟩)] w (PRPost B b r (y ++ bdf M 5) X w) := by
  have hcon := putdata_any M a Q h hm hD hoff hBw hy hf
  have z0 := hB.1.c1
  obtain ⟨⟨x0, x1, x2, x3, x4, x5, x6⟩, x7, x8, x9, x10, x11, x12, x13⟩ := ms_cells hB.2
  obtain ⟨Z, hZ⟩ : ∃ Z, Z = y ++ bdf M 5 := ⟨_, rfl⟩
  rw [← hZ] at hcon ⊢
  clear hZ h hB
  go_enter Tryz.func43, Tryz.ntmps43
  go_wp2_with fail
  refine hcon.mono ?_
  rintro e w1 ⟨r1, rfl, hk1, hg1, hw1⟩
  have HW := Lib.hid hw1
  clear hcon hw1 z0 x0 x1 x2 x3 x4 x5 x6 x7 x8 x9 x10 x11 x12 x13
  go_wp2
  go_end0
  exact ⟨r1, rfl, hk1, hg1, HW.out⟩
end Go.Proofs.YtmiimjgfainclaaGreat.Cur

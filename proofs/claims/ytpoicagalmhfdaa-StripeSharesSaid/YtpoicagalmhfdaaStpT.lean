/- Stripes: positions dealt, and back. -/
import Derived.Test.YtpoicagalmhfdaaStpF
import Derived.Test.YtpoicagalmhfdaaStpM
import Derived.Test.YtpoicagalmhfdaaK1
namespace Go.Proofs.Ytpoicagalmhfdaa.Cur
open Go.RowKit Mem
set_option linter.unusedVariables false
set_option maxRecDepth 100000


/-- What Dealt tells. -/
def dlv (s : Stp) (p : Int) : Value := if stok s = true ∧ s.1 ≤ p ∧ p < s.2.1 then .tuple #[.int .i64 ((p - s.1) % s.2.2.length), .int .u64 ((p - s.1) / s.2.2.length), .bool true] else .tuple #[.int .i64 0, .int .u64 0, .bool false]
theorem dlv_no {s : Stp} {p : Int} (h : ¬ (stok s = true ∧ s.1 ≤ p ∧ p < s.2.1)) : dlv s p = .tuple #[.int .i64 0, .int .u64 0, .bool false] := if_neg h
theorem dlv_yes {s : Stp} {p : Int} (h : stok s = true ∧ s.1 ≤ p ∧ p < s.2.1) : dlv s p = .tuple #[.int .i64 ((p - s.1) % s.2.2.length), .int .u64 ((p - s.1) / s.2.2.length), .bool true] := if_pos h

set_option maxHeartbeats 2000000 in
theorem dealt_any (P : Nat → Prop) (f t : Int) (A : Option Addr) (n m : Nat) (S : List (List Int)) (p : Int) (w : World) (hz : Sts w P A n S) (hm : n ≤ m) (hn : n ≤ 1000000) (hlen : ∀ l ∈ S, l.length ≤ 1000000) (f0 : 0 ≤ f) (p0 : 0 ≤ p) (p1 : p < 18446744073709551616) :
    Calls Try.prog 26 #[stagg f t A n m, .int .u64 p] w (BPost (dlv (f, t, S) p) w) := by
  have hX := Blk.new w (stc f t A n m) 25
  have hb := below_one w (.cells (stc f t A n m) 25)
  have hrcon := stright_any P f t A n m S _ (hz.below hb) hm hn hlen
  have HNO := Lib.hid (dlv_no (s := (f, t, S)) (p := p))
  have HYES := Lib.hid (dlv_yes (s := (f, t, S)) (p := p))
  have HPT := Lib.hid (stok_parts (s := (f, t, S)))
  have HL := Lib.hid hz.1
  unfold BPost at hrcon ⊢
  generalize dlv (f, t, S) p = V at *
  generalize stok (f, t, S) = ok at *
  obtain ⟨x0, x1, x2⟩ := hX.c3
  clear hz hlen
  go_enter Try.func26, Try.ntmps26
  go_wp2_with fail
  refine hrcon.mono ?_
  rintro e w1 ⟨rfl, hb1⟩
  replace hX := hX.below hb1
  replace hb := hb.trans (hb1.mono hb.size)
  clear hrcon hb1 x0 x1 x2
  obtain ⟨x0, x1, x2⟩ := hX.c3
  cases ok
  · have HV := Lib.hid (HNO.out (fun h => by have := h.1; cases this))
    go_wp2
    refine bodyPost_ret (v := .tuple #[.int .i64 0, .int .u64 0, .bool false]) (by simp [results, Try.results26, go_sem]) rfl ⟨by rw [HV.out], hb⟩
  obtain ⟨k1, k2, k3, k4, _⟩ := HPT.out rfl
  replace k1 : f < t := k1
  replace k2 : t ≤ 4611686018427387904 := k2
  replace k3 : 1 ≤ n := by rw [← HL.out]; exact k3
  replace k4 : n ≤ 8 := by rw [← HL.out]; exact k4
  by_cases h1 : p < f
  · have HV := Lib.hid (HNO.out (fun h => by have := h.2.1; omega))
    go_wp2
    refine bodyPost_ret (v := .tuple #[.int .i64 0, .int .u64 0, .bool false]) (by simp [results, Try.results26, go_sem]) rfl ⟨by rw [HV.out], hb⟩
  by_cases h2 : t ≤ p
  · have HV := Lib.hid (HNO.out (fun h => by have := h.2.2; omega))
    go_wp2
    refine bodyPost_ret (v := .tuple #[.int .i64 0, .int .u64 0, .bool false]) (by simp [results, Try.results26, go_sem]) rfl ⟨by rw [HV.out], hb⟩
  have HV := Lib.hid (HYES.out ⟨rfl, by show f ≤ p; omega, by show p < t; omega⟩)
  have e1 : IntKind.u64.wrap (n : Int) = n := IntWalk.u64_in _ (by omega)
  have e2 : IntKind.u64.wrap (p - f) = p - f := IntWalk.u64_in _ (by omega)
  have hn0 : ¬ n = 0 := by omega
  obtain ⟨d, hd⟩ : ∃ d, d = p - f := ⟨_, rfl⟩
  have e2' : IntKind.u64.wrap (p - f) = d := by rw [hd]; exact e2
  have hd0 : 0 ≤ d ∧ d < 4611686018427387904 := by omega
  have hV2 : V = .tuple #[.int .i64 (d % (n : Int)), .int .u64 (d / (n : Int)), .bool true] := by rw [HV.out, hd, ← HL.out]
  have q1 : IntKind.u64.wrap (d.tdiv (n : Int)) = d / n := IntWalk.u64_quo _ _ (by omega)
  have q2 : d.tmod (n : Int) = d % n := IntWalk.rem_in _ _ hd0.1
  have q3 := Int.emod_nonneg d (show (n : Int) ≠ 0 by omega)
  have q4 := Int.emod_lt_of_pos d (show (0 : Int) < n by omega)
  have q5 := Int.ediv_nonneg hd0.1 (show (0 : Int) ≤ n by omega)
  obtain ⟨r, hr⟩ : ∃ r, r = d % (n : Int) := ⟨_, rfl⟩
  obtain ⟨u, hu⟩ : ∃ u, u = d / (n : Int) := ⟨_, rfl⟩
  rw [← hr] at q2 q3 q4 hV2
  rw [← hu] at q1 hV2 q5
  have q6 : IntKind.u64.wrap r = r := IntWalk.u64_in _ (by omega)
  have q7 : IntKind.i64.wrap r = r := IntWalk.i64_in _ (by omega)
  have HVV := Lib.hid hV2
  clear e2 hd hr hu hV2 HV HYES HNO HPT
  go_wp2
  clear x0 x1 x2
  refine Seq.wp_region_seq (fun w' => Below w.heap.size w w') (by kernel_rfl) (by kernel_rfl) (hb.trans ((below_one' _).mono hb.size)) ?_
  repeat (first | (refine Seq.Seq.skip (by rfl) ?_; (try simp only [Act.put, List.setIfInBounds_toArray, List.set_cons_zero, List.set_cons_succ])) | (refine Seq.Seq.det ?_ (by rfl) (fun w hS => ?_) ?_; rotate_left; ((try dsimp only at hS); go_simp; (try rw [if_pos (by omega)]); with_reducible rfl); (try simp only [Act.put, List.setIfInBounds_toArray, List.set_cons_zero, List.set_cons_succ])))
  refine Seq.Seq.nil ?_
  go_wp2
  refine bodyPost_ret (v := .tuple #[.int .i64 r, .int .u64 u, .bool true]) (by simp [results, Try.results26, go_sem]) rfl ⟨by rw [HVV.out], hb.trans ((below_one' _).mono hb.size)⟩

/-- What Share tells. -/
def shv (s : Stp) (x : Int) : Int := if stok s = true ∧ 0 ≤ x ∧ x < s.2.2.length then (shr (s.2.1 - s.1).toNat s.2.2.length x.toNat : Nat) else 0
theorem shv_no {s : Stp} {x : Int} (h : ¬ (stok s = true ∧ 0 ≤ x ∧ x < s.2.2.length)) : shv s x = 0 := if_neg h
theorem shv_yes {s : Stp} {x : Int} (h : stok s = true ∧ 0 ≤ x ∧ x < s.2.2.length) : shv s x = (shr (s.2.1 - s.1).toNat s.2.2.length x.toNat : Nat) := if_pos h
theorem shr_int {d x : Int} {n : Nat} (hd : 0 ≤ d) (hx : 0 ≤ x) (hxn : x < n) : ((shr d.toNat n x.toNat : Nat) : Int) = d / n + (if x < d % n then 1 else 0) := by
  obtain ⟨a, rfl⟩ := Int.eq_ofNat_of_zero_le hd
  obtain ⟨b, rfl⟩ := Int.eq_ofNat_of_zero_le hx
  rw [Int.toNat_natCast, Int.toNat_natCast, ← shr_div (by omega)]
  by_cases h : b < a % n
  · rw [if_pos h, if_pos (by omega)]; push_cast; rfl
  · rw [if_neg h, if_neg (by omega)]; push_cast; rfl

set_option maxHeartbeats 2000000 in
theorem share_any (P : Nat → Prop) (f t : Int) (A : Option Addr) (n m : Nat) (S : List (List Int)) (x : Int) (w : World) (hz : Sts w P A n S) (hm : n ≤ m) (hn : n ≤ 1000000) (hlen : ∀ l ∈ S, l.length ≤ 1000000) (f0 : 0 ≤ f) (hx0 : -9223372036854775808 ≤ x) (hx1 : x < 9223372036854775808) :
    Calls Try.prog 28 #[stagg f t A n m, .int .i64 x] w (BPost (.int .u64 (shv (f, t, S) x)) w) := by
  have hX := Blk.new w (stc f t A n m) 25
  have hb := below_one w (.cells (stc f t A n m) 25)
  have hrcon := stright_any P f t A n m S _ (hz.below hb) hm hn hlen
  have HNO := Lib.hid (shv_no (s := (f, t, S)) (x := x))
  have HYES := Lib.hid (shv_yes (s := (f, t, S)) (x := x))
  have HPT := Lib.hid (stok_parts (s := (f, t, S)))
  have HL := Lib.hid hz.1
  unfold BPost at hrcon ⊢
  generalize shv (f, t, S) x = V at *
  generalize stok (f, t, S) = ok at *
  obtain ⟨x0, x1, x2⟩ := hX.c3
  clear hz hlen
  go_enter Try.func28, Try.ntmps28
  go_wp2_with fail
  refine hrcon.mono ?_
  rintro e w1 ⟨rfl, hb1⟩
  replace hX := hX.below hb1
  replace hb := hb.trans (hb1.mono hb.size)
  clear hrcon hb1 x0 x1 x2
  obtain ⟨x0, x1, x2⟩ := hX.c3
  cases ok
  · have HV := Lib.hid (HNO.out (fun h => by have := h.1; cases this))
    go_wp2
    go_ret
    exact ⟨by rw [HV.out]; rfl, hb⟩
  obtain ⟨k1, k2, k3, k4, _⟩ := HPT.out rfl
  replace k1 : f < t := k1
  replace k2 : t ≤ 4611686018427387904 := k2
  replace k3 : 1 ≤ n := by rw [← HL.out]; exact k3
  replace k4 : n ≤ 8 := by rw [← HL.out]; exact k4
  by_cases h1 : x < 0
  · have HV := Lib.hid (HNO.out (fun h => by have := h.2.1; omega))
    go_wp2
    go_ret
    exact ⟨by rw [HV.out]; rfl, hb⟩
  by_cases h2 : (n : Int) ≤ x
  · have HV := Lib.hid (HNO.out (fun h => by have h9 : x < (S.length : Int) := h.2.2; rw [HL.out] at h9; omega))
    go_wp2
    go_ret
    exact ⟨by rw [HV.out]; rfl, hb⟩
  have hV : V = (t - f) / n + (if x < (t - f) % n then 1 else 0) := by
    have h9 := HYES.out ⟨rfl, by omega, by rw [HL.out]; omega⟩
    rw [HL.out] at h9
    rw [h9]
    exact shr_int (by show 0 ≤ t - f; omega) (by omega) (by omega)
  have e1 : IntKind.u64.wrap (n : Int) = n := IntWalk.u64_in _ (by omega)
  have hn0 : ¬ n = 0 := by omega
  have e4 : IntKind.u64.wrap x = x := IntWalk.u64_in _ (by omega)
  have hpos := fun w' => positions_any f t A n m w' f0 (by omega) k2
  unfold BPost at hpos
  obtain ⟨d, hd⟩ : ∃ d, d = t - f := ⟨_, rfl⟩
  rw [← hd] at hpos hV
  have hd0 : 0 ≤ d ∧ d ≤ 4611686018427387904 := by omega
  have q1 : IntKind.u64.wrap (d.tdiv (n : Int)) = d / n := IntWalk.u64_quo _ _ (by omega)
  have q2 : d.tmod (n : Int) = d % n := IntWalk.rem_in _ _ hd0.1
  have q3 := Int.emod_nonneg d (show (n : Int) ≠ 0 by omega)
  have q4 := Int.emod_lt_of_pos d (show (0 : Int) < n by omega)
  have q5 := Int.ediv_nonneg hd0.1 (show (0 : Int) ≤ n by omega)
  have q8 := Int.ediv_le_self (n : Int) hd0.1
  obtain ⟨r, hr⟩ : ∃ r, r = d % (n : Int) := ⟨_, rfl⟩
  obtain ⟨u, hu⟩ : ∃ u, u = d / (n : Int) := ⟨_, rfl⟩
  rw [← hr] at q2 q3 q4 hV
  rw [← hu] at q1 hV q5 q8
  have q6 : IntKind.u64.wrap r = r := IntWalk.u64_in _ (by omega)
  have q7 : IntKind.u64.wrap (u + 1) = u + 1 := IntWalk.u64_in _ (by omega)
  have HVV := Lib.hid hV
  have hS : Blk w1.drew w.heap.size (stc f t A n m) 25 := hX
  have hbw := hb.trans ((below_one' w1).mono hb.size)
  have L : ∀ w', Blk w' w.heap.size (stc f t A n m) 25 → w'.cell? ⟨w.heap.size, 0, none⟩ = some (.int .u64 f) ∧ w'.cell? ⟨w.heap.size, 1, none⟩ = some (.int .u64 t) ∧ w'.cell? ⟨w.heap.size, 2, none⟩ = some (.slice A n m) := fun w' h => h.c3
  clear hd hr hu hV HYES HNO HPT hX hb
  go_wp2
  clear x0 x1 x2
  refine Seq.wp_region_seq (fun w' => Blk w' w.heap.size (stc f t A n m) 25) (by kernel_rfl) (by kernel_rfl) hS ?_
  repeat (first | (refine Seq.Seq.skip (by rfl) ?_; (try simp only [Act.put, List.setIfInBounds_toArray, List.set_cons_zero, List.set_cons_succ])) | (refine Seq.Seq.det ?_ (by rfl) (fun w hS => ?_) ?_; rotate_left; ((try dsimp only at hS); go_simp; (try rw [if_pos (by omega)]); with_reducible rfl); (try simp only [Act.put, List.setIfInBounds_toArray, List.set_cons_zero, List.set_cons_succ])))
  refine Seq.Seq.make (by rfl) (by rfl) (fun K Q' hK => ?_)
  go_simp
  go_at_call 35
  refine (hpos _).mono ?_
  rintro e w2 ⟨rfl, hb2⟩
  replace hS := hS.below hb2
  replace hbw := hbw.trans (hb2.mono hbw.size)
  refine hK.out _ _ (hS) ?_
  clear hK K
  try simp only [Act.put, List.setIfInBounds_toArray, List.set_cons_zero, List.set_cons_succ]
  repeat (first | (refine Seq.Seq.skip (by rfl) ?_; (try simp only [Act.put, List.setIfInBounds_toArray, List.set_cons_zero, List.set_cons_succ])) | (refine Seq.Seq.det ?_ (by rfl) (fun w hS => ?_) ?_; rotate_left; ((try dsimp only at hS); go_simp; (try rw [if_pos (by omega)]); with_reducible rfl); (try simp only [Act.put, List.setIfInBounds_toArray, List.set_cons_zero, List.set_cons_succ])))
  refine Seq.Seq.make (by rfl) (by rfl) (fun K Q' hK => ?_)
  go_simp
  go_at_call 35
  refine (hpos _).mono ?_
  rintro e w3 ⟨rfl, hb3⟩
  replace hS := hS.below hb3
  replace hbw := hbw.trans (hb3.mono hbw.size)
  refine hK.out _ _ (hS) ?_
  clear hK K
  try simp only [Act.put, List.setIfInBounds_toArray, List.set_cons_zero, List.set_cons_succ]
  repeat (first | (refine Seq.Seq.skip (by rfl) ?_; (try simp only [Act.put, List.setIfInBounds_toArray, List.set_cons_zero, List.set_cons_succ])) | (refine Seq.Seq.det ?_ (by rfl) (fun w hS => ?_) ?_; rotate_left; ((try dsimp only at hS); go_simp; (try rw [if_pos (by omega)]); with_reducible rfl); (try simp only [Act.put, List.setIfInBounds_toArray, List.set_cons_zero, List.set_cons_succ])))
  refine Seq.Seq.nil ?_
  clear hb2 hb3 hpos L hS
  by_cases hxr : x < r
  · have HV2 : Hid (V = u + 1) := Lib.hid (by rw [HVV.out, if_pos hxr])
    go_wp2
    go_ret
    exact ⟨by rw [HV2.out]; rfl, hbw⟩
  · have HV2 : Hid (V = u) := Lib.hid (by rw [HVV.out, if_neg hxr, Int.add_zero])
    go_wp2
    go_ret
    exact ⟨by rw [HV2.out]; rfl, hbw⟩

/-- What Back tells. -/
def bkv (s : Stp) (x l : Int) : Value := if l < shv s x then .tuple #[.int .u64 (s.1 + l * s.2.2.length + x), .bool true] else .tuple #[.int .u64 0, .bool false]
theorem shv_pos {s : Stp} {x l : Int} (h : l < shv s x) (hl : 0 ≤ l) : stok s = true ∧ 0 ≤ x ∧ x < s.2.2.length ∧ l * s.2.2.length + x < s.2.1 - s.1 := by
  by_cases hc : stok s = true ∧ 0 ≤ x ∧ x < s.2.2.length
  · obtain ⟨h1, h2, h3⟩ := hc
    rw [shv_yes ⟨h1, h2, h3⟩] at h
    obtain ⟨a, rfl⟩ := Int.eq_ofNat_of_zero_le hl
    obtain ⟨b, rfl⟩ := Int.eq_ofNat_of_zero_le h2
    have := (shr_iff (n := (s.2.1 - s.1).toNat) (m := s.2.2.length) (s := ((b : Int)).toNat) (l := a) (by omega)).1 (by omega)
    refine ⟨h1, h2, h3, ?_⟩
    have e : ((a * s.2.2.length : Nat) : Int) = (a : Int) * s.2.2.length := by push_cast; rfl
    omega
  · rw [shv_no hc] at h; omega
set_option maxHeartbeats 2000000 in
theorem back_any (P : Nat → Prop) (f t : Int) (A : Option Addr) (n m : Nat) (S : List (List Int)) (x l : Int) (w : World) (hz : Sts w P A n S) (hm : n ≤ m) (hn : n ≤ 1000000) (hlen : ∀ l ∈ S, l.length ≤ 1000000) (f0 : 0 ≤ f) (hx0 : -9223372036854775808 ≤ x) (hx1 : x < 9223372036854775808) (l0 : 0 ≤ l) (l1 : l < 18446744073709551616) :
    Calls Try.prog 27 #[stagg f t A n m, .int .i64 x, .int .u64 l] w (BPost (bkv (f, t, S) x l) w) := by
  have hX := Blk.new w (stc f t A n m) 25
  have hb := below_one w (.cells (stc f t A n m) 25)
  have hcon := share_any P f t A n m S x _ (hz.below hb) hm hn hlen f0 hx0 hx1
  have HL := Lib.hid hz.1
  unfold BPost at hcon ⊢
  have HP := Lib.hid (fun h => shv_pos (s := (f, t, S)) (x := x) (l := l) h l0)
  have HV : Hid (bkv (f, t, S) x l = if l < shv (f, t, S) x then .tuple #[.int .u64 (f + l * n + x), .bool true] else .tuple #[.int .u64 0, .bool false]) := Lib.hid (by unfold bkv; rw [← HL.out])
  have HPT := Lib.hid (fun h => stok_parts (s := (f, t, S)) h)
  generalize bkv (f, t, S) x l = V at *
  generalize shv (f, t, S) x = y at *
  obtain ⟨x0, x1, x2⟩ := hX.c3
  clear hz hlen
  go_enter Try.func27, Try.ntmps27
  go_wp2_with fail
  refine hcon.mono ?_
  rintro e w1 ⟨rfl, hb1⟩
  replace hX := hX.below hb1
  replace hb := hb.trans (hb1.mono hb.size)
  clear hcon hb1 x0 x1 x2
  obtain ⟨x0, x1, x2⟩ := hX.c3
  by_cases hly : y ≤ l
  · have HVV : Hid (V = .tuple #[.int .u64 0, .bool false]) := Lib.hid (by rw [HV.out, if_neg (by omega)])
    go_wp2
    go_ret2
    exact ⟨by rw [HVV.out]; rfl, hb⟩
  · have HVV : Hid (V = .tuple #[.int .u64 (f + l * n + x), .bool true]) := Lib.hid (by rw [HV.out, if_pos (by omega)])
    obtain ⟨k0, k1, k2, k3⟩ := HP.out (by omega)
    obtain ⟨j1, j2, j3, j4, _⟩ := HPT.out k0
    replace j2 : t ≤ 4611686018427387904 := j2
    replace j4 : n ≤ 8 := by rw [← HL.out]; exact j4
    replace k2 : x < n := by rw [← HL.out]; exact k2
    replace k3 : l * n + x < t - f := by rw [← HL.out]; exact k3
    have hmul : 0 ≤ l * (n : Int) := Int.mul_nonneg l0 (by omega)
    have e1 : IntKind.u64.wrap (n : Int) = n := IntWalk.u64_in _ (by omega)
    have e2 : IntKind.u64.wrap x = x := IntWalk.u64_in _ (by omega)
    obtain ⟨d, hd⟩ : ∃ d, d = l * (n : Int) := ⟨_, rfl⟩
    rw [← hd] at hmul k3 HVV
    have e3 : IntKind.u64.wrap (l * (n : Int)) = d := by rw [← hd]; exact IntWalk.u64_in _ (by omega)
    have e4 : IntKind.u64.wrap (f + d) = f + d := IntWalk.u64_in _ (by omega)
    have e5 : IntKind.u64.wrap (f + d + x) = f + d + x := IntWalk.u64_in _ (by omega)
    clear hd j1 j2 j3 j4 k0 HV HP HPT
    go_wp2
    go_ret2
    exact ⟨by rw [HVV.out]; rfl, hb⟩

set_option maxHeartbeats 2000000 in
theorem stset_any (P : Nat → Prop) (f t : Int) (A : Option Addr) (n m : Nat) (S : List (List Int)) (x : Int) (w : World) (hz : Sts w P A n S) (hm : n ≤ m) (hn : n ≤ 1000000) (hlen : ∀ l ∈ S, l.length ≤ 1000000) :
    Calls Try.prog 31 #[stagg f t A n m, .int .u64 x] w (BPost (if stok (f, t, S) = true then hlv S x else .tuple #[.int .i64 0, .bool false]) w) := by
  have hX := Blk.new w (stc f t A n m) 25
  have hb := below_one w (.cells (stc f t A n m) 25)
  have hrcon := stright_any P f t A n m S _ (hz.below hb) hm hn hlen
  have HH := Lib.hid (fun w' (h : Below w.heap.size w w') => holder_any P A n m S x w' (hz.below h) hn hlen)
  unfold BPost at hrcon ⊢
  obtain ⟨i, hi⟩ : ∃ i, hlv S x = .tuple #[.int .i64 i, .bool (decide (0 ≤ hli S x))] := ⟨_, rfl⟩
  rw [hi] at HH ⊢
  generalize decide (0 ≤ hli S x) = bv at *
  generalize stok (f, t, S) = ok at *
  obtain ⟨x0, x1, x2⟩ := hX.c3
  clear hz hlen hi
  go_enter Try.func31, Try.ntmps31
  go_wp2_with fail
  refine hrcon.mono ?_
  rintro e w1 ⟨rfl, hb1⟩
  replace hX := hX.below hb1
  replace hb := hb.trans (hb1.mono hb.size)
  clear hrcon hb1 x0 x1 x2
  obtain ⟨x0, x1, x2⟩ := hX.c3
  cases ok
  · go_wp2
    go_ret2
    exact ⟨rfl, hb⟩
  · have hcon := HH.out w1 hb
    unfold BPost at hcon
    go_wp2_with fail
    refine hcon.mono ?_
    rintro e w2 ⟨rfl, hb2⟩
    replace hb := hb.trans (hb2.mono hb.size)
    clear hcon hb2 x0 x1 x2 hX
    go_wp2
    go_ret2
    exact ⟨rfl, hb⟩
end Go.Proofs.Ytpoicagalmhfdaa.Cur

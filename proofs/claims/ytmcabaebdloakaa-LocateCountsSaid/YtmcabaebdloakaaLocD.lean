/- Locate: Pos. -/
import Derived.Test.YtmcabaebdloakaaLocC
namespace Go.Proofs.Ytmcabaebdloakaa.Cur
open Go.RowKit Mem
set_option linter.unusedVariables false
set_option maxRecDepth 100000


/-- Is there a position with a place; what Pos tells. -/
abbrev lpt (L : List Stp) (x y l : Int) : Prop := 0 ≤ x ∧ x < L.length ∧ l < shv (L.getD x.toNat stp0) y
def lpp (L : List Stp) (x y l : Int) : Int := (L.getD x.toNat stp0).1 + l * (L.getD x.toNat stp0).2.2.length + y
def lpv (e : Int) (L : List Stp) (x y l : Int) : Value := if prok (e, L) = true then (if lpt L x y l then .tuple #[.int .u64 (lpp L x y l), .int .i64 0] else .tuple #[.int .u64 0, .int .i64 16]) else .tuple #[.int .u64 0, .int .i64 3]
theorem lpv_bad {e : Int} {L : List Stp} {x y l : Int} (h : prok (e, L) = false) : lpv e L x y l = .tuple #[.int .u64 0, .int .i64 3] := by
  unfold lpv; rw [if_neg (by rw [h]; decide)]
theorem lpv_no {e : Int} {L : List Stp} {x y l : Int} (h : prok (e, L) = true) (h2 : ¬ lpt L x y l) : lpv e L x y l = .tuple #[.int .u64 0, .int .i64 16] := by
  unfold lpv; rw [if_pos h, if_neg h2]
theorem lpv_yes {e : Int} {L : List Stp} {x y l : Int} (h : prok (e, L) = true) (h2 : lpt L x y l) : lpv e L x y l = .tuple #[.int .u64 (lpp L x y l), .int .i64 0] := by
  unfold lpv; rw [if_pos h, if_pos h2]

set_option maxHeartbeats 4000000 in
theorem lpos_any (P : Nat → Prop) (e : Int) (A : Option Addr) (n m : Nat) (L : List Stp) (x y l : Int) (w : World) (hz : Pts w P A n L) (hn : n ≤ 1000000) (hlen : plen 1000000 L) (x0 : -9223372036854775808 ≤ x) (x1 : x ≤ 9223372036854775807) (y0 : -9223372036854775808 ≤ y) (y1 : y ≤ 9223372036854775807) (l0 : 0 ≤ l) (l1 : l < 18446744073709551616) :
    Calls Try.prog 13 #[pragg e A n m, .int .i64 x, .int .i64 y, .int .u64 l] w (BPost (lpv e L x y l) w) := by
  unfold BPost
  have hX := Blk.new w (prc e A n m) 25
  have hb := below_one w (.cells (prc e A n m) 25)
  have hcon := prright_any P e A n m L _ (hz.below hb) hn hlen
  unfold BPost at hcon
  have HL := Lib.hid hz.1
  cases hp : prok (e, L)
  · have HV : Hid (lpv e L x y l = .tuple #[.int .u64 0, .int .i64 3]) := Lib.hid (lpv_bad hp)
    rw [hp] at hcon
    obtain ⟨b0, b1⟩ := hX.c2
    clear hz hlen hp
    go_enter Try.func13, Try.ntmps13
    go_wp2_with fail
    refine hcon.mono ?_
    rintro en w1 ⟨rfl, hb1⟩
    replace hb := hb.trans (hb1.mono hb.size)
    clear hcon hb1 b0 b1 hX
    go_wp2
    go_ret2
    exact ⟨by rw [HV.out]; rfl, hb⟩
  have HP := Lib.hid hp
  rw [hp] at hcon
  by_cases hx : 0 ≤ x ∧ x < n
  case neg =>
    have HV : Hid (lpv e L x y l = .tuple #[.int .u64 0, .int .i64 16]) := Lib.hid (lpv_no hp (fun h => hx ⟨h.1, by rw [← HL.out]; exact h.2.1⟩))
    clear hz hlen hp
    by_cases hx0 : x < 0
    · have d1 : decide (x < 0) = true := by simpa using hx0
      obtain ⟨b0, b1⟩ := hX.c2
      go_enter Try.func13, Try.ntmps13
      go_wp2_with fail
      refine hcon.mono ?_
      rintro en w1 ⟨rfl, hb1⟩
      replace hX := hX.below hb1
      replace hb := hb.trans (hb1.mono hb.size)
      clear hcon hb1 b0 b1
      obtain ⟨b0, b1⟩ := hX.c2
      go_wp2
      go_ret2
      exact ⟨by rw [HV.out]; rfl, hb⟩
    · have d1 : decide (x < 0) = false := by simpa using hx0
      have d2 : decide ((n : Int) ≤ x) = true := by simp; omega
      obtain ⟨b0, b1⟩ := hX.c2
      go_enter Try.func13, Try.ntmps13
      go_wp2_with fail
      refine hcon.mono ?_
      rintro en w1 ⟨rfl, hb1⟩
      replace hX := hX.below hb1
      replace hb := hb.trans (hb1.mono hb.size)
      clear hcon hb1 b0 b1
      obtain ⟨b0, b1⟩ := hX.c2
      go_wp2
      go_ret2
      exact ⟨by rw [HV.out]; rfl, hb⟩
  obtain ⟨xn, rfl⟩ := Int.eq_ofNat_of_zero_le hx.1
  have hxn : xn < n := by omega
  have HV1 := Lib.hid (fun h => lpv_yes (x := (xn : Int)) (y := y) (l := l) hp h)
  have HV0 := Lib.hid (fun h => lpv_no (x := (xn : Int)) (y := y) (l := l) hp h)
  obtain ⟨g, o, rfl, _, hg, hc⟩ := hz.cells (by omega)
  obtain ⟨f, t, S, a, k, mm, he, ⟨f0, _⟩, _, hl, hlm, _, hst, hcell⟩ := hc _ hxn
  have hll := hlen.at_ xn
  rw [he] at hll
  have hk6 : k ≤ 1000000 := by rw [← hl]; exact hll.1
  have HBK := Lib.hid (fun (w' : World) (h : Below w.heap.size w w') => back_any P f t a k mm S y l w' (hst.below h) hlm hk6 hll.2 f0 y0 (by omega) l0 l1)
  have HCS := Lib.hid (fun w' (h : Below w.heap.size w w') => hcell w' h)
  have HT : Hid (lpt L xn y l ↔ l < shv (f, t, S) y) := Lib.hid (by
    unfold lpt
    rw [Int.toNat_natCast, he]
    exact ⟨fun h => h.2.2, fun h => ⟨by omega, by rw [HL.out]; omega, h⟩⟩)
  have HPP : Hid (lpp L xn y l = f + l * (S.length : Int) + y) := Lib.hid (by unfold lpp; rw [Int.toNat_natCast, he])
  have hbv : bkv (f, t, S) y l = if l < shv (f, t, S) y then .tuple #[.int .u64 (f + l * (S.length : Int) + y), .bool true] else .tuple #[.int .u64 0, .bool false] := rfl
  unfold BPost at HBK
  rw [hbv] at HBK
  generalize lpv e L xn y l = V at *
  generalize f + l * (S.length : Int) + y = Q at *
  obtain ⟨b0, b1⟩ := hX.c2
  have e9 : (xn : Int) < n := by omega
  have d1 : decide ((xn : Int) < 0) = false := by simp
  have d2 : decide ((n : Int) ≤ xn) = false := by simp; omega
  by_cases hsh : l < shv (f, t, S) y
  · have HVV : Hid (V = .tuple #[.int .u64 Q, .int .i64 0]) := Lib.hid (by rw [HV1.out (HT.out.2 hsh), HPP.out])
    rw [if_pos hsh] at HBK
    clear hz hlen hp hc he hl hst hcell hll hx hbv hsh
    go_enter Try.func13, Try.ntmps13
    go_wp2_with fail
    refine hcon.mono ?_
    rintro en w1 ⟨rfl, hb1⟩
    replace hX := hX.below hb1
    replace hb := hb.trans (hb1.mono hb.size)
    clear hcon hb1 b0 b1
    obtain ⟨b0, b1⟩ := hX.c2
    obtain ⟨c0, c1, c2⟩ := HCS.out _ hb
    go_wp2_with fail
    refine (HBK.out _ hb).mono ?_
    rintro en w2 ⟨rfl, hb2⟩
    replace hb := hb.trans (hb2.mono hb.size)
    clear hb2 b0 b1 c0 c1 c2 hX
    go_wp2
    go_ret2
    exact ⟨by rw [HVV.out]; rfl, hb⟩
  · have HVV : Hid (V = .tuple #[.int .u64 0, .int .i64 16]) := Lib.hid (HV0.out (fun h => hsh (HT.out.1 h)))
    rw [if_neg hsh] at HBK
    clear hz hlen hp hc he hl hst hcell hll hx hbv hsh
    go_enter Try.func13, Try.ntmps13
    go_wp2_with fail
    refine hcon.mono ?_
    rintro en w1 ⟨rfl, hb1⟩
    replace hX := hX.below hb1
    replace hb := hb.trans (hb1.mono hb.size)
    clear hcon hb1 b0 b1
    obtain ⟨b0, b1⟩ := hX.c2
    obtain ⟨c0, c1, c2⟩ := HCS.out _ hb
    go_wp2_with fail
    refine (HBK.out _ hb).mono ?_
    rintro en w2 ⟨rfl, hb2⟩
    replace hb := hb.trans (hb2.mono hb.size)
    clear hb2 b0 b1 c0 c1 c2 hX
    go_wp2
    go_ret2
    exact ⟨by rw [HVV.out]; rfl, hb⟩

abbrev exl : List Stp := [(0, 4, [[1], [2]]), (4, 4611686018427387904, [[3]])]
set_option maxHeartbeats 4000000 in
theorem live21_any (w : World) : Calls Try.prog 8 #[] w fun e w' => e = .returned (.bool true) ∧ Below w.heap.size w w' := by
  have h1 : prok (1, exl) = true := by decide +kernel
  have h2 : psk 3 = true := by decide
  have h3 : wsi exl 3 = 0 := by decide +kernel
  have h4 : wset exl 3 = 1 := by decide +kernel
  have h5 : wloc exl 3 = 1 := by decide +kernel
  have h6 : wsn exl 3 = [2] := by decide +kernel
  have hpl : plen 1000000 exl := fun s hs => by
    simp only [List.mem_cons, List.not_mem_nil, or_false] at hs
    rcases hs with rfl | rfl
    · exact ⟨by decide, fun l hl => by simp at hl; rcases hl with rfl | rfl <;> decide⟩
    · exact ⟨by decide, fun l hl => by simp at hl; subst hl; decide⟩
  have b0 := ((((((Blk.new w #[.int .u64 1] 22).alloc (.cells #[.int .u64 2] 22)).alloc (.cells #[.slice (some ⟨w.heap.size, 0, none⟩) 1 1, .slice (some ⟨w.heap.size + 1, 0, none⟩) 1 1] 30)).alloc (.cells #[.int .u64 3] 22)).alloc (.cells #[.slice (some ⟨w.heap.size + 1 + 1 + 1, 0, none⟩) 1 1] 30)).alloc (.cells #[.int .u64 0, .int .u64 4, .slice (some ⟨w.heap.size + 1 + 1, 0, none⟩) 2 2, .int .u64 4, .int .u64 4611686018427387904, .slice (some ⟨w.heap.size + 1 + 1 + 1 + 1, 0, none⟩) 1 1] 39)).alloc (.cells (prc 1 (some ⟨w.heap.size + 1 + 1 + 1 + 1 + 1, 0, none⟩) 2 2) 25)
  have b1 := (((((Blk.new (w.alloc (.cells #[.int .u64 1] 22)) #[.int .u64 2] 22).alloc (.cells #[.slice (some ⟨w.heap.size, 0, none⟩) 1 1, .slice (some ⟨w.heap.size + 1, 0, none⟩) 1 1] 30)).alloc (.cells #[.int .u64 3] 22)).alloc (.cells #[.slice (some ⟨w.heap.size + 1 + 1 + 1, 0, none⟩) 1 1] 30)).alloc (.cells #[.int .u64 0, .int .u64 4, .slice (some ⟨w.heap.size + 1 + 1, 0, none⟩) 2 2, .int .u64 4, .int .u64 4611686018427387904, .slice (some ⟨w.heap.size + 1 + 1 + 1 + 1, 0, none⟩) 1 1] 39)).alloc (.cells (prc 1 (some ⟨w.heap.size + 1 + 1 + 1 + 1 + 1, 0, none⟩) 2 2) 25)
  have b2 := ((((Blk.new ((w.alloc (.cells #[.int .u64 1] 22)).alloc (.cells #[.int .u64 2] 22)) #[.slice (some ⟨w.heap.size, 0, none⟩) 1 1, .slice (some ⟨w.heap.size + 1, 0, none⟩) 1 1] 30).alloc (.cells #[.int .u64 3] 22)).alloc (.cells #[.slice (some ⟨w.heap.size + 1 + 1 + 1, 0, none⟩) 1 1] 30)).alloc (.cells #[.int .u64 0, .int .u64 4, .slice (some ⟨w.heap.size + 1 + 1, 0, none⟩) 2 2, .int .u64 4, .int .u64 4611686018427387904, .slice (some ⟨w.heap.size + 1 + 1 + 1 + 1, 0, none⟩) 1 1] 39)).alloc (.cells (prc 1 (some ⟨w.heap.size + 1 + 1 + 1 + 1 + 1, 0, none⟩) 2 2) 25)
  have b3 := (((Blk.new (((w.alloc (.cells #[.int .u64 1] 22)).alloc (.cells #[.int .u64 2] 22)).alloc (.cells #[.slice (some ⟨w.heap.size, 0, none⟩) 1 1, .slice (some ⟨w.heap.size + 1, 0, none⟩) 1 1] 30)) #[.int .u64 3] 22).alloc (.cells #[.slice (some ⟨w.heap.size + 1 + 1 + 1, 0, none⟩) 1 1] 30)).alloc (.cells #[.int .u64 0, .int .u64 4, .slice (some ⟨w.heap.size + 1 + 1, 0, none⟩) 2 2, .int .u64 4, .int .u64 4611686018427387904, .slice (some ⟨w.heap.size + 1 + 1 + 1 + 1, 0, none⟩) 1 1] 39)).alloc (.cells (prc 1 (some ⟨w.heap.size + 1 + 1 + 1 + 1 + 1, 0, none⟩) 2 2) 25)
  have b4 := ((Blk.new ((((w.alloc (.cells #[.int .u64 1] 22)).alloc (.cells #[.int .u64 2] 22)).alloc (.cells #[.slice (some ⟨w.heap.size, 0, none⟩) 1 1, .slice (some ⟨w.heap.size + 1, 0, none⟩) 1 1] 30)).alloc (.cells #[.int .u64 3] 22)) #[.slice (some ⟨w.heap.size + 1 + 1 + 1, 0, none⟩) 1 1] 30).alloc (.cells #[.int .u64 0, .int .u64 4, .slice (some ⟨w.heap.size + 1 + 1, 0, none⟩) 2 2, .int .u64 4, .int .u64 4611686018427387904, .slice (some ⟨w.heap.size + 1 + 1 + 1 + 1, 0, none⟩) 1 1] 39)).alloc (.cells (prc 1 (some ⟨w.heap.size + 1 + 1 + 1 + 1 + 1, 0, none⟩) 2 2) 25)
  have b5 := (Blk.new (((((w.alloc (.cells #[.int .u64 1] 22)).alloc (.cells #[.int .u64 2] 22)).alloc (.cells #[.slice (some ⟨w.heap.size, 0, none⟩) 1 1, .slice (some ⟨w.heap.size + 1, 0, none⟩) 1 1] 30)).alloc (.cells #[.int .u64 3] 22)).alloc (.cells #[.slice (some ⟨w.heap.size + 1 + 1 + 1, 0, none⟩) 1 1] 30)) #[.int .u64 0, .int .u64 4, .slice (some ⟨w.heap.size + 1 + 1, 0, none⟩) 2 2, .int .u64 4, .int .u64 4611686018427387904, .slice (some ⟨w.heap.size + 1 + 1 + 1 + 1, 0, none⟩) 1 1] 39).alloc (.cells (prc 1 (some ⟨w.heap.size + 1 + 1 + 1 + 1 + 1, 0, none⟩) 2 2) 25)
  have b6 := Blk.new ((((((w.alloc (.cells #[.int .u64 1] 22)).alloc (.cells #[.int .u64 2] 22)).alloc (.cells #[.slice (some ⟨w.heap.size, 0, none⟩) 1 1, .slice (some ⟨w.heap.size + 1, 0, none⟩) 1 1] 30)).alloc (.cells #[.int .u64 3] 22)).alloc (.cells #[.slice (some ⟨w.heap.size + 1 + 1 + 1, 0, none⟩) 1 1] 30)).alloc (.cells #[.int .u64 0, .int .u64 4, .slice (some ⟨w.heap.size + 1 + 1, 0, none⟩) 2 2, .int .u64 4, .int .u64 4611686018427387904, .slice (some ⟨w.heap.size + 1 + 1 + 1 + 1, 0, none⟩) 1 1] 39)) (prc 1 (some ⟨w.heap.size + 1 + 1 + 1 + 1 + 1, 0, none⟩) 2 2) 25
  have hbd : Below w.heap.size w (((((((w.alloc (.cells #[.int .u64 1] 22)).alloc (.cells #[.int .u64 2] 22)).alloc (.cells #[.slice (some ⟨w.heap.size, 0, none⟩) 1 1, .slice (some ⟨w.heap.size + 1, 0, none⟩) 1 1] 30)).alloc (.cells #[.int .u64 3] 22)).alloc (.cells #[.slice (some ⟨w.heap.size + 1 + 1 + 1, 0, none⟩) 1 1] 30)).alloc (.cells #[.int .u64 0, .int .u64 4, .slice (some ⟨w.heap.size + 1 + 1, 0, none⟩) 2 2, .int .u64 4, .int .u64 4611686018427387904, .slice (some ⟨w.heap.size + 1 + 1 + 1 + 1, 0, none⟩) 1 1] 39)).alloc (.cells (prc 1 (some ⟨w.heap.size + 1 + 1 + 1 + 1 + 1, 0, none⟩) 2 2) 25)) := (((((((Below.refl _ w).alloc (by simp) _).alloc (by simp; try omega) _).alloc (by simp; try omega) _).alloc (by simp; try omega) _).alloc (by simp; try omega) _).alloc (by simp; try omega) _).alloc (by simp; try omega) _
  simp only [World.size_alloc] at b0 b1 b2 b3 b4 b5 b6
  go_enter Try.func8, Try.ntmps8
  go_upto_region 2 with (fail)
  generalize (((((((w.alloc (.cells #[.int .u64 1] 22)).alloc (.cells #[.int .u64 2] 22)).alloc (.cells #[.slice (some ⟨w.heap.size, 0, none⟩) 1 1, .slice (some ⟨w.heap.size + 1, 0, none⟩) 1 1] 30)).alloc (.cells #[.int .u64 3] 22)).alloc (.cells #[.slice (some ⟨w.heap.size + 1 + 1 + 1, 0, none⟩) 1 1] 30)).alloc (.cells #[.int .u64 0, .int .u64 4, .slice (some ⟨w.heap.size + 1 + 1, 0, none⟩) 2 2, .int .u64 4, .int .u64 4611686018427387904, .slice (some ⟨w.heap.size + 1 + 1 + 1 + 1, 0, none⟩) 1 1] 39)).alloc (.cells (prc 1 (some ⟨w.heap.size + 1 + 1 + 1 + 1 + 1, 0, none⟩) 2 2) 25)) = w7 at *
  have hu0 : Us w7 (some ⟨w.heap.size, 0, none⟩) 1 [1] := ⟨rfl, fun _ => ⟨_, 0, rfl, fun i v hv => by rw [Nat.zero_add]; exact b0.cell i (by simpa [uv] using hv)⟩⟩
  have hu1 : Us w7 (some ⟨w.heap.size + 1, 0, none⟩) 1 [2] := ⟨rfl, fun _ => ⟨_, 0, rfl, fun i v hv => by rw [Nat.zero_add]; exact b1.cell i (by simpa [uv] using hv)⟩⟩
  have hu3 : Us w7 (some ⟨w.heap.size + 1 + 1 + 1, 0, none⟩) 1 [3] := ⟨rfl, fun _ => ⟨_, 0, rfl, fun i v hv => by rw [Nat.zero_add]; exact b3.cell i (by simpa [uv] using hv)⟩⟩
  have hs2 : Sts w7 (fun b => True) (some ⟨w.heap.size + 1 + 1, 0, none⟩) 2 [[1], [2]] := sts_of_cells rfl trivial fun i hi => by
    obtain rfl | rfl : i = 0 ∨ i = 1 := by omega
    · exact ⟨_, b2.cell 0 rfl, _, 1, rfl, by decide, (fun e => by cases e), hu0.sq (by decide) fun _ a ha => trivial⟩
    · exact ⟨_, b2.cell 1 rfl, _, 1, rfl, by decide, (fun e => by cases e), hu1.sq (by decide) fun _ a ha => trivial⟩
  have hs4 : Sts w7 (fun b => True) (some ⟨w.heap.size + 1 + 1 + 1 + 1, 0, none⟩) 1 [[3]] := sts_of_cells rfl trivial fun i hi => by
    obtain rfl : i = 0 := by omega
    exact ⟨_, b4.cell 0 rfl, _, 1, rfl, by decide, (fun e => by cases e), hu3.sq (by decide) fun _ a ha => trivial⟩
  have hpt : Pts w7 (fun b => True) (some ⟨w.heap.size + 1 + 1 + 1 + 1 + 1, 0, none⟩) 2 exl := pts_of_cells rfl trivial fun i hi => by
    obtain rfl | rfl : i = 0 ∨ i = 1 := by omega
    · exact ⟨_, _, _, ⟨b5.cell 0 rfl, b5.cell 1 rfl, b5.cell 2 rfl⟩, StE.mk (by omega) (by omega) rfl (Nat.le_refl _) (fun e => by cases e) hs2⟩
    · exact ⟨_, _, _, ⟨b5.cell 3 rfl, b5.cell 4 rfl, b5.cell 5 rfl⟩, StE.mk (by omega) (by omega) rfl (Nat.le_refl _) (fun e => by cases e) hs4⟩
  obtain ⟨x0, x1⟩ := b6.c2
  have hat := lat_any (fun b => True) 1 _ 2 2 exl 3 w7 hpt (by omega) hpl (by omega) (by omega)
  unfold AtPost at hat
  rw [h1, h2, h3, h4, h5, h6] at hat
  clear b0 b1 b2 b3 b4 b5 hu0 hu1 hu3 hs2 hs4 hpt h1 h2 h3 h4 h5 h6 hpl
  go_wp2_with fail
  refine hat.mono ?_
  rintro e w8 ⟨hb8, ⟨hf, _⟩ | ⟨_, v, rfl, ho⟩⟩
  · exact (hf (by simp)).elim
  obtain ⟨A, c, rfl⟩ := ho.slice
  have hu := (OwnU.us ho).2.2.2
  replace hbd := hbd.trans (hb8.mono hbd.size)
  have hP := Blk.new w8 #[.int .i64 0, .int .i64 1, .int .u64 1, .slice A 1 c] 32
  have hbx := below_one w8 (.cells #[.int .i64 0, .int .i64 1, .int .u64 1, .slice A 1 c] 32)
  replace hu := hu.below hbx
  replace hbd := hbd.trans (hbx.mono hbd.size)
  clear hat hb8 ho hbx x0 x1 b6
  obtain ⟨y0, y1, y2, y3⟩ := hP.c4
  go_upto_region 3 with (fail)
  generalize w8.alloc (.cells #[.int .i64 0, .int .i64 1, .int .u64 1, .slice A 1 c] 32) = w9 at *
  have hs2 := us_new w9 [2] 22
  have hbx := below_one w9 (.cells #[.int .u64 2] 22)
  replace hu := hu.below hbx
  replace hbd := hbd.trans (hbx.mono hbd.size)
  go_wp2_with fail
  refine (same5_any _ _ _ _ _ _ [2] _ hu hs2 (by simp) (by simp)).mono ?_
  rintro e w10 ⟨rfl, hb10⟩
  replace hbd := hbd.trans (hb10.mono hbd.size)
  go_wp2
  go_ret
  exact ⟨rfl, hbd⟩
end Go.Proofs.Ytmcabaebdloakaa.Cur

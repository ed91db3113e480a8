/- Projections as a law's arguments; which are too long; the document's example. -/
import Derived.Test.YtghlediibhnloaaPrjC
import Derived.Test.YtghlediibhnloaaPrjF
namespace Go.Proofs.Ytghlediibhnloaa.Cur
open Go.RowKit Mem
set_option linter.unusedVariables false
set_option maxRecDepth 100000

theorem opens_stripes : Opens (SlE StE) 23 := opens_slice Try.underlying23 (by kernel_rfl) (by decide) opens_stripe
theorem opens_prj : Opens (PrE U64E (SlE StE)) 25 := opens_pair Try.underlying25 rfl rfl (by kernel_rfl) (by kernel_rfl) (by kernel_rfl) (opens_u64 Try.underlying22) opens_stripes
theorem Pts.bds {w : World} {P : Nat → Prop} {A : Option Addr} {n : Nat} {L : List Stp} (h : Pts w P A n L) : pbd L := by
  intro s hs
  obtain ⟨k, hk, e⟩ := List.mem_iff_getElem.1 hs
  obtain ⟨cs, h1, _⟩ := h.2
  obtain ⟨c, hR, _⟩ := h1.at_ k s (by rw [List.getElem?_eq_getElem hk, e])
  obtain ⟨A, m, _, _, _, _, _, hst⟩ := stripe_parts hR
  exact hst.bds
section
variable {H : Type} {enc : TypeId × Value → H} {w : World} {base : Nat} {v : Value} {d : DataW H} {p : List MemPlace}
theorem open_prj (g : Value.okWide Try.prog w .any base 25 v) (h : DataW.Trod enc Try.prog w 0 (fun _ => true) true 25 v d p) :
    ∃ e A n m L, v = pragg e A n m ∧ (0 ≤ e ∧ e < 18446744073709551616) ∧ n ≤ m ∧ (A = none → m = 0) ∧ Pts w (fun b => b < w.heap.size) A n L := by
  obtain ⟨cs, x, rfl, hs⟩ := open_st Try.underlying25 opens_prj g h
  obtain ⟨d, e, hde, ⟨rfl, b0⟩, A, m, rfl, h1, h2, h3⟩ := hs
  refine ⟨x.1, A, x.2.length, m, x.2, ?_, b0, h1, h2, rfl, h3.mono fun b _ hb => hb⟩
  rw [show cs = cs.toList.toArray by simp, hde]; rfl
end

def LgpPost (n : Nat) (L : List Stp) (w : World) (e : Ending) (w' : World) : Prop := ∃ b, e = .returned (.bool b) ∧ Below w.heap.size w w' ∧ (b = false → n ≤ 70 ∧ plen 20 L)
set_option maxHeartbeats 2000000 in
theorem long20_any (P : Nat → Prop) (e : Int) (A : Option Addr) (n m : Nat) (L : List Stp) (w : World) (hz : Pts w P A n L) :
    Calls Try.prog 7 #[pragg e A n m] w (LgpPost n L w) := by
  have hX := Blk.new w (prc e A n m) 25
  have hb := below_one w (.cells (prc e A n m) 25)
  have HL := Lib.hid hz.1
  have HC := Lib.hid (fun h => (hz.below hb).cells h)
  have HX := Lib.hid hX
  obtain ⟨x0, x1⟩ := hX.c2
  clear hz hX
  go_enter Try.func7, Try.ntmps7
  go_wp2
  clear x0 x1
  generalize w.alloc (.cells (prc e A n m) 25) = w0 at *
  go_loopw [3] (fun i wr => ∃ k : Nat, k ≤ n ∧ k ≤ 70 ∧ i = .int .i64 k ∧ Hid (∀ j, j < k → (L.getD j stp0).2.2.length ≤ 20 ∧ ∀ l ∈ (L.getD j stp0).2.2, l.length ≤ 20) ∧ Below w0.heap.size w0 wr) (fun i _ => 70 - (intOf i).toNat)
  case atStart => exact ⟨0, by omega, by omega, rfl, Lib.hid (by intro j hj; omega), Below.refl _ _⟩
  case round =>
    obtain ⟨k, hk, hk20, rfl, hj, hb0⟩ := hrel
    obtain ⟨x0, x1⟩ := (HX.out.below hb0).c2
    have hbd := hb.trans (hb0.mono hb.size)
    by_cases hlt : k < n
    · have e1 : (k : Int) < n := by omega
      by_cases h20 : k < 70
      · have e2 : (k : Int) < 70 := by omega
        obtain ⟨g, o, rfl, _, hg, hc⟩ := HC.out (by omega)
        obtain ⟨f, t, S, a, l, mm, he, _, _, hl, hlm, han, hst, hcell⟩ := hc k hlt
        obtain ⟨c0, c1, c2⟩ := hcell wr hb0
        have hcon := long19_any P f t a l mm S wr (hst.below hb0)
        have HE := Lib.hid he
        have HLL := Lib.hid hl
        have e3 : IntKind.i64.wrap ((k : Int) + 1) = ((k + 1 : Nat) : Int) := IntWalk.i64_in _ (by omega)
        clear hc hl hst hcell han he hb
        go_wp2_with fail
        refine hcon.mono ?_
        rintro en w1 ⟨bv, rfl, hb1, hlv⟩
        have hb2 := hb0.trans (hb1.mono hb0.size)
        replace hbd := hbd.trans (hb1.mono hbd.size)
        clear hcon hb0 hb1 x0 x1 c0 c1 c2
        cases bv
        · have HLV := Lib.hid (hlv rfl)
          clear hlv
          go_wp2
          go_roundw
          case rel => exact ⟨k + 1, by omega, by omega, by go_num, Lib.hid (fun j hjk => by
            rcases Nat.lt_or_ge j k with h | h
            · exact hj.out j h
            · obtain rfl : j = k := by omega
              rw [HE.out]; exact ⟨by show S.length ≤ 20; rw [HLL.out]; exact HLV.out.1, HLV.out.2⟩), hb2⟩
          case measure => simp [intOf]; omega
        · clear hlv
          go_wp2
          go_ret
          exact ⟨true, rfl, hbd, fun h => by cases h⟩
      · have e2 : ¬ (k : Int) < 70 := by omega
        have e3 : 70 < (n : Int) := by omega
        go_wp2
        go_ret
        exact ⟨true, rfl, hbd, fun h => by cases h⟩
    · obtain rfl : k = n := by omega
      have e3 : ¬ 70 < (k : Int) := by omega
      have HN : Hid (plen 20 L) := Lib.hid fun s hs => by
        obtain ⟨j, hj2, e⟩ := List.mem_iff_getElem.1 hs
        have := hj.out j (by rw [← HL.out]; exact hj2)
        rw [List.getD_eq_getElem?_getD, List.getElem?_eq_getElem hj2, Option.getD_some, e] at this
        exact this
      go_wp2
      go_ret
      exact ⟨false, rfl, hbd, fun _ => ⟨hk20, HN.out⟩⟩

abbrev onep : List Stp := [(0, 4611686018427387904, [[7]])]
def OnePost (w : World) (en : Ending) (w' : World) : Prop := ∃ g, en = .returned (pragg 1 (some ⟨g, 0, none⟩) 1 1) ∧ Below w.heap.size w w' ∧ Pts w' (fun b => b < w'.heap.size) (some ⟨g, 0, none⟩) 1 onep
set_option maxHeartbeats 2000000 in
theorem one_any (w : World) : Calls Try.prog 34 #[] w (OnePost w) := by
  have h0 := ((Blk.new (w.alloc (.cells (prc 1 (some ⟨w.heap.size + 1 + 1 + 1, 0, none⟩) 1 1) 25)) #[.int .u64 7] 22).alloc (.cells #[.slice (some ⟨w.heap.size + 1, 0, none⟩) 1 1] 101)).alloc (.cells (stc 0 4611686018427387904 (some ⟨w.heap.size + 1 + 1, 0, none⟩) 1 1) 60)
  have hR := (((Blk.new w (prc 1 (some ⟨w.heap.size + 1 + 1 + 1, 0, none⟩) 1 1) 25).alloc (.cells #[.int .u64 7] 22)).alloc (.cells #[.slice (some ⟨w.heap.size + 1, 0, none⟩) 1 1] 101)).alloc (.cells (stc 0 4611686018427387904 (some ⟨w.heap.size + 1 + 1, 0, none⟩) 1 1) 60)
  have h1 := (Blk.new ((w.alloc (.cells (prc 1 (some ⟨w.heap.size + 1 + 1 + 1, 0, none⟩) 1 1) 25)).alloc (.cells #[.int .u64 7] 22)) #[.slice (some ⟨w.heap.size + 1, 0, none⟩) 1 1] 101).alloc (.cells (stc 0 4611686018427387904 (some ⟨w.heap.size + 1 + 1, 0, none⟩) 1 1) 60)
  have h2 := Blk.new (((w.alloc (.cells (prc 1 (some ⟨w.heap.size + 1 + 1 + 1, 0, none⟩) 1 1) 25)).alloc (.cells #[.int .u64 7] 22)).alloc (.cells #[.slice (some ⟨w.heap.size + 1, 0, none⟩) 1 1] 101)) (stc 0 4611686018427387904 (some ⟨w.heap.size + 1 + 1, 0, none⟩) 1 1) 60
  have hbd : Below w.heap.size w ((((w.alloc (.cells (prc 1 (some ⟨w.heap.size + 1 + 1 + 1, 0, none⟩) 1 1) 25)).alloc (.cells #[.int .u64 7] 22)).alloc (.cells #[.slice (some ⟨w.heap.size + 1, 0, none⟩) 1 1] 101)).alloc (.cells (stc 0 4611686018427387904 (some ⟨w.heap.size + 1 + 1, 0, none⟩) 1 1) 60)) := (below_three _ _ _ _).alloc (by simp; omega) _
  have hsz : ((((w.alloc (.cells (prc 1 (some ⟨w.heap.size + 1 + 1 + 1, 0, none⟩) 1 1) 25)).alloc (.cells #[.int .u64 7] 22)).alloc (.cells #[.slice (some ⟨w.heap.size + 1, 0, none⟩) 1 1] 101)).alloc (.cells (stc 0 4611686018427387904 (some ⟨w.heap.size + 1 + 1, 0, none⟩) 1 1) 60)).heap.size = w.heap.size + 4 := by simp
  simp only [World.size_alloc] at h0 h1 h2
  obtain ⟨r0, r1⟩ := hR.c2
  clear hR
  go_enter Try.func34, Try.ntmps34
  go_wp2
  generalize (((w.alloc (.cells (prc 1 (some ⟨w.heap.size + 1 + 1 + 1, 0, none⟩) 1 1) 25)).alloc (.cells #[.int .u64 7] 22)).alloc (.cells #[.slice (some ⟨w.heap.size + 1, 0, none⟩) 1 1] 101)).alloc (.cells (stc 0 4611686018427387904 (some ⟨w.heap.size + 1 + 1, 0, none⟩) 1 1) 60) = w4 at *
  have hu0 : Us w4 (some ⟨w.heap.size + 1, 0, none⟩) 1 [7] := ⟨rfl, fun _ => ⟨_, 0, rfl, fun i v hv => by rw [Nat.zero_add]; exact h0.cell i (by simpa [uv] using hv)⟩⟩
  have hst : Sts w4 (fun b => w.heap.size < b) (some ⟨w.heap.size + 1 + 1, 0, none⟩) 1 [[7]] := sts_of_cells rfl (by show w.heap.size < _; omega) fun i hi => by
    obtain rfl : i = 0 := by omega
    exact ⟨_, h1.cell 0 rfl, _, 1, rfl, by decide, (fun e => by cases e), hu0.sq (by decide) fun _ a ha => by injection ha with ha; subst ha; show w.heap.size < w.heap.size + 1; omega⟩
  have hpt : Pts w4 (fun b => w.heap.size < b) (some ⟨w.heap.size + 1 + 1 + 1, 0, none⟩) 1 onep := pts_of_cells rfl (by show w.heap.size < _; omega) fun i hi => by
    obtain rfl : i = 0 := by omega
    exact ⟨_, _, _, ⟨h2.cell 0 rfl, h2.cell 1 rfl, h2.cell 2 rfl⟩, StE.mk (by omega) (by omega) rfl (Nat.le_refl _) (fun e => by cases e) hst⟩
  have HB := Lib.hid hbd
  have HP := Lib.hid hpt
  clear h0 h1 h2 hu0 hst hpt hbd
  refine bodyPost_ret (v := pragg 1 (some ⟨w.heap.size + 1 + 1 + 1, 0, none⟩) 1 1) (by simp [results, Try.results34, go_sem, r0, r1]) rfl ⟨w.heap.size + 1 + 1 + 1, rfl, ?_, ?_⟩
  · exact HB.out
  · exact Pts.mono HP.out (fun g hg hl => hl)

set_option maxHeartbeats 2000000 in
theorem live20_any (w : World) : Calls Try.prog 8 #[] w fun e w' => e = .returned (.bool true) ∧ Below w.heap.size w w' := by
  have h1 : prok (1, onep) = true := by decide +kernel
  have h2 : prb (1, onep) = [1, 1, 255, 255, 255, 255, 255, 255, 255, 255, 63, 1, 1, 7] := by decide +kernel
  have hpl : plen 1000000 onep := fun s hs => by
    rw [List.mem_singleton] at hs; subst hs
    exact ⟨by decide, fun l hl => by rw [List.mem_singleton] at hl; subst hl; decide⟩
  have ho := one_any w
  go_enter Try.func8, Try.ntmps8
  go_wp2_with fail
  refine ho.mono ?_
  rintro e w0 ⟨g0, rfl, hb0, hpt⟩
  have hb := prbytes_any _ 1 _ 1 1 onep w0 hpt (fun b h => h) (by decide) hpl
  unfold PrByPost at hb
  rw [h2] at hb
  clear ho hpt
  go_wp2_with fail
  refine hb.mono ?_
  rintro e w1 ⟨hb1, ⟨_, g, rfl, _, hbs⟩ | ⟨hf, _⟩⟩
  · have hs1 := hbs.below (below_one w1 (.cells #[.int .u8 1, .int .u8 1, .int .u8 255, .int .u8 255, .int .u8 255, .int .u8 255, .int .u8 255, .int .u8 255, .int .u8 255, .int .u8 255, .int .u8 63, .int .u8 1, .int .u8 1, .int .u8 7] 5))
    have hbd0 := hb0.trans (hb1.mono hb0.size)
    have hbd := hbd0.trans ((below_one w1 (.cells #[.int .u8 1, .int .u8 1, .int .u8 255, .int .u8 255, .int .u8 255, .int .u8 255, .int .u8 255, .int .u8 255, .int .u8 255, .int .u8 255, .int .u8 63, .int .u8 1, .int .u8 1, .int .u8 7] 5)).mono hbd0.size)
    have hs2 := bs_new w1 [1, 1, 255, 255, 255, 255, 255, 255, 255, 255, 63, 1, 1, 7] 5
    clear h1 h2 hb
    go_wp2_with fail
    refine (same_any _ _ _ _ _ _ [1, 1, 255, 255, 255, 255, 255, 255, 255, 255, 63, 1, 1, 7] _ hs1 hs2).mono ?_
    rintro e w8 ⟨rfl, rfl⟩
    go_wp2
    go_ret
    exact ⟨rfl, hbd⟩
  · rw [h1] at hf; cases hf
end Go.Proofs.Ytghlediibhnloaa.Cur

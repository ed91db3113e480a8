/- Stripes: a law's arguments; the document's example; are sets more than are gone through. -/
import Derived.Test.YtpoicagalmhfdaaStpT
import Derived.Test.YtpoicagalmhfdaaStpQ
namespace Go.Proofs.Ytpoicagalmhfdaa.Cur
open Go.RowKit Mem Go.ChangeShapes Go.WideShapes
set_option linter.unusedVariables false
set_option maxRecDepth 100000


theorem opens_sets : Opens (SlE (SlE U64E)) 23 := opens_slice Try.underlying23 (by kernel_rfl) (by decide) (opens_slice Try.underlying58 (by kernel_rfl) (by decide) (opens_u64 Try.underlying22))
theorem opens_stripe : Opens (PrE U64E (PrE U64E (SlE (SlE U64E)))) 25 := opens_three Try.underlying25 rfl rfl rfl (by kernel_rfl) (by kernel_rfl) (by kernel_rfl) (by kernel_rfl) (opens_u64 Try.underlying22) (opens_u64 Try.underlying22) opens_sets
theorem Sts.bds {w : World} {P : Nat → Prop} {A : Option Addr} {n : Nat} {S : List (List Int)} (h : Sts w P A n S) : sbds S := by
  intro l hl x hx
  obtain ⟨k, hk, e⟩ := List.mem_iff_getElem.1 hl
  obtain ⟨cs, h1, _⟩ := h.2
  obtain ⟨c, ⟨a, m, _, _, _, hsq⟩, _⟩ := h1.at_ k l (by rw [List.getElem?_eq_getElem hk, e])
  exact hsq.us.2 x hx
/-- What a stripe's cells are. -/
theorem stripe_parts {w : World} {P : Nat → Prop} {c : List Value} {s : Stp} (h : (PrE U64E (PrE U64E (SlE (SlE U64E)))).R w P c s) :
    ∃ A m, c = [.int .u64 s.1, .int .u64 s.2.1, .slice A s.2.2.length m] ∧ (0 ≤ s.1 ∧ s.1 < 18446744073709551616) ∧ (0 ≤ s.2.1 ∧ s.2.1 < 18446744073709551616) ∧ s.2.2.length ≤ m ∧ (A = none → m = 0) ∧ Sts w P A s.2.2.length s.2.2 := by
  obtain ⟨d, e, rfl, ⟨rfl, b0⟩, d2, e2, rfl, ⟨rfl, b1⟩, A, m, rfl, h1, h2, h3⟩ := h
  exact ⟨A, m, rfl, b0, b1, h1, h2, rfl, h3⟩
section
variable {H : Type} {enc : TypeId × Value → H} {w : World} {base : Nat} {v : Value} {d : DataW H} {p : List MemPlace}
theorem open_stripe (g : Value.okWide Try.prog w .any base 25 v) (h : DataW.Trod enc Try.prog w 0 (fun _ => true) true 25 v d p) :
    ∃ f t A n m S, v = stagg f t A n m ∧ (0 ≤ f ∧ f < 18446744073709551616) ∧ (0 ≤ t ∧ t < 18446744073709551616) ∧ n ≤ m ∧ (A = none → m = 0) ∧ Sts w (fun b => b < w.heap.size) A n S := by
  obtain ⟨cs, s, rfl, hs⟩ := open_st Try.underlying25 opens_stripe g h
  obtain ⟨A, m, e, b0, b1, h1, h2, h3⟩ := stripe_parts hs
  refine ⟨s.1, s.2.1, A, s.2.2.length, m, s.2.2, ?_, b0, b1, h1, h2, h3.mono fun b _ hb => hb⟩
  rw [show cs = cs.toList.toArray by simp, e]
end

def LgPost (n : Nat) (S : List (List Int)) (w : World) (e : Ending) (w' : World) : Prop := ∃ b, e = .returned (.bool b) ∧ Below w.heap.size w w' ∧ (b = false → n ≤ 20 ∧ ∀ l ∈ S, l.length ≤ 20)
set_option maxHeartbeats 2000000 in
theorem long19_any (P : Nat → Prop) (f t : Int) (A : Option Addr) (n m : Nat) (S : List (List Int)) (w : World) (hz : Sts w P A n S) :
    Calls Try.prog 7 #[stagg f t A n m] w (LgPost n S w) := by
  have hX := Blk.new w (stc f t A n m) 25
  have hb := below_one w (.cells (stc f t A n m) 25)
  have HL := Lib.hid hz.1
  have HC := Lib.hid (fun h => (hz.below hb).cells h)
  have HX := Lib.hid hX
  obtain ⟨x0, x1, x2⟩ := hX.c3
  clear hz hX
  go_enter Try.func7, Try.ntmps7
  go_wp2
  clear x0 x1 x2
  generalize w.alloc (.cells (stc f t A n m) 25) = w0 at *
  go_loopw [3] (fun i wr => ∃ k : Nat, k ≤ n ∧ k ≤ 20 ∧ i = .int .i64 k ∧ Hid (∀ j, j < k → (S.getD j []).length ≤ 20) ∧ Below w0.heap.size w0 wr) (fun i _ => 20 - (intOf i).toNat)
  case atStart => exact ⟨0, by omega, by omega, rfl, Lib.hid (by intro j hj; omega), Below.refl _ _⟩
  case round =>
    obtain ⟨k, hk, hk20, rfl, hj, hb0⟩ := hrel
    obtain ⟨x0, x1, x2⟩ := (HX.out.below hb0).c3
    have hbd := hb.trans (hb0.mono hb.size)
    by_cases hlt : k < n
    · have e1 : (k : Int) < n := by omega
      by_cases h20 : k < 20
      · have e2 : (k : Int) < 20 := by omega
        obtain ⟨g, o, rfl, _, hg, hc⟩ := HC.out (by omega)
        obtain ⟨a, l, mm, hl, hlm, han, hus, _, _, hcell⟩ := hc k hlt
        have c0 := hcell wr hb0
        have HLL := Lib.hid hl
        have e3 : IntKind.i64.wrap ((k : Int) + 1) = ((k + 1 : Nat) : Int) := IntWalk.i64_in _ (by omega)
        clear hc hl hus hcell han
        by_cases hl2 : 20 < (l : Int)
        · go_wp2
          go_ret
          exact ⟨true, rfl, hbd, fun h => by cases h⟩
        · have HL3 : Hid (l ≤ 20) := Lib.hid (by omega)
          go_wp2
          go_roundw
          case rel => exact ⟨k + 1, by omega, by omega, by go_num, Lib.hid (fun j hjk => by
            rcases Nat.lt_or_ge j k with h | h
            · exact hj.out j h
            · obtain rfl : j = k := by omega
              rw [HLL.out]; exact HL3.out), hb0⟩
          case measure => simp [intOf]; omega
      · have e2 : ¬ (k : Int) < 20 := by omega
        have e3 : 20 < (n : Int) := by omega
        go_wp2
        go_ret
        exact ⟨true, rfl, hbd, fun h => by cases h⟩
    · obtain rfl : k = n := by omega
      have e3 : ¬ 20 < (k : Int) := by omega
      have HN : Hid (∀ l ∈ S, l.length ≤ 20) := Lib.hid fun l hl => by
        obtain ⟨j, hj2, e⟩ := List.mem_iff_getElem.1 hl
        have := hj.out j (by rw [← HL.out]; exact hj2)
        rw [List.getD_eq_getElem?_getD, List.getElem?_eq_getElem hj2, Option.getD_some, e] at this
        exact this
      go_wp2
      go_ret
      exact ⟨false, rfl, hbd, fun _ => ⟨hk20, HN.out⟩⟩

set_option maxHeartbeats 2000000 in
theorem live19_any (w : World) : Calls Try.prog 8 #[] w fun e w' => e = .returned (.bool true) ∧ Below w.heap.size w w' := by
  have h0 := (((Blk.new w #[.int .u64 1, .int .u64 2] 22).alloc (.cells #[.int .u64 5] 22)).alloc (.cells #[.slice (some ⟨w.heap.size, 0, none⟩) 2 2, .slice (some ⟨w.heap.size + 1, 0, none⟩) 1 1] 58)).alloc (.cells (stc 10 17 (some ⟨w.heap.size + 1 + 1, 0, none⟩) 2 2) 25)
  have h1 := ((Blk.new (w.alloc (.cells #[.int .u64 1, .int .u64 2] 22)) #[.int .u64 5] 22).alloc (.cells #[.slice (some ⟨w.heap.size, 0, none⟩) 2 2, .slice (some ⟨w.heap.size + 1, 0, none⟩) 1 1] 58)).alloc (.cells (stc 10 17 (some ⟨w.heap.size + 1 + 1, 0, none⟩) 2 2) 25)
  have h2 := (Blk.new ((w.alloc (.cells #[.int .u64 1, .int .u64 2] 22)).alloc (.cells #[.int .u64 5] 22)) #[.slice (some ⟨w.heap.size, 0, none⟩) 2 2, .slice (some ⟨w.heap.size + 1, 0, none⟩) 1 1] 58).alloc (.cells (stc 10 17 (some ⟨w.heap.size + 1 + 1, 0, none⟩) 2 2) 25)
  have h3 := Blk.new (((w.alloc (.cells #[.int .u64 1, .int .u64 2] 22)).alloc (.cells #[.int .u64 5] 22)).alloc (.cells #[.slice (some ⟨w.heap.size, 0, none⟩) 2 2, .slice (some ⟨w.heap.size + 1, 0, none⟩) 1 1] 58)) (stc 10 17 (some ⟨w.heap.size + 1 + 1, 0, none⟩) 2 2) 25
  have hbd : Below w.heap.size w ((((w.alloc (.cells #[.int .u64 1, .int .u64 2] 22)).alloc (.cells #[.int .u64 5] 22)).alloc (.cells #[.slice (some ⟨w.heap.size, 0, none⟩) 2 2, .slice (some ⟨w.heap.size + 1, 0, none⟩) 1 1] 58)).alloc (.cells (stc 10 17 (some ⟨w.heap.size + 1 + 1, 0, none⟩) 2 2) 25)) := (below_three _ _ _ _).alloc (by simp; omega) _
  simp only [World.size_alloc] at h1 h2 h3
  go_enter Try.func8, Try.ntmps8
  go_wp2_with fail
  generalize ((((w.alloc (.cells #[.int .u64 1, .int .u64 2] 22)).alloc (.cells #[.int .u64 5] 22)).alloc (.cells #[.slice (some ⟨w.heap.size, 0, none⟩) 2 2, .slice (some ⟨w.heap.size + 1, 0, none⟩) 1 1] 58)).alloc (.cells (stc 10 17 (some ⟨w.heap.size + 1 + 1, 0, none⟩) 2 2) 25)) = w4 at *
  have hu0 : Us w4 (some ⟨w.heap.size, 0, none⟩) 2 [1, 2] := ⟨rfl, fun _ => ⟨_, 0, rfl, fun i v hv => by rw [Nat.zero_add]; exact h0.cell i (by simpa [uv] using hv)⟩⟩
  have hu1 : Us w4 (some ⟨w.heap.size + 1, 0, none⟩) 1 [5] := ⟨rfl, fun _ => ⟨_, 0, rfl, fun i v hv => by rw [Nat.zero_add]; exact h1.cell i (by simpa [uv] using hv)⟩⟩
  have hst : Sts w4 (fun _ => True) (some ⟨w.heap.size + 1 + 1, 0, none⟩) 2 [[1, 2], [5]] := sts_of_cells rfl trivial fun i hi => by
    have hi2 : i = 0 ∨ i = 1 := by omega
    rcases hi2 with rfl | rfl
    · exact ⟨_, h2.cell 0 rfl, _, 2, rfl, by decide, (fun e => by cases e), hu0.sq (by decide) fun _ _ _ => trivial⟩
    · exact ⟨_, h2.cell 1 rfl, _, 1, rfl, by decide, (fun e => by cases e), hu1.sq (by decide) fun _ _ _ => trivial⟩
  have hok : stok (10, 17, [[1, 2], [5]]) = true := by decide +kernel
  have hd := fun w' (h : Below w4.heap.size w4 w') => dealt_any _ 10 17 _ 2 2 [[1, 2], [5]] 12 w' (hst.below h) (by omega) (by omega) (by decide) (by omega) (by omega) (by omega)
  have hs0 := fun w' (h : Below w4.heap.size w4 w') => share_any _ 10 17 _ 2 2 [[1, 2], [5]] 0 w' (hst.below h) (by omega) (by omega) (by decide) (by omega) (by omega) (by omega)
  have hs1 := fun w' (h : Below w4.heap.size w4 w') => share_any _ 10 17 _ 2 2 [[1, 2], [5]] 1 w' (hst.below h) (by omega) (by omega) (by decide) (by omega) (by omega) (by omega)
  have v1 : dlv (10, 17, [[1, 2], [5]]) 12 = .tuple #[.int .i64 0, .int .u64 1, .bool true] := by rw [dlv_yes ⟨hok, by decide, by decide⟩]; rfl
  have v2 : shv (10, 17, [[1, 2], [5]]) 0 = 4 := by rw [shv_yes ⟨hok, by decide, by decide⟩]; rfl
  have v3 : shv (10, 17, [[1, 2], [5]]) 1 = 3 := by rw [shv_yes ⟨hok, by decide, by decide⟩]; rfl
  unfold BPost at hd hs0 hs1
  simp only [v1, v2, v3] at hd hs0 hs1
  have HS0 := Lib.hid hs0
  have HS1 := Lib.hid hs1
  have h3' := h3
  clear h0 h1 h2 hu0 hu1 hst v1 v2 v3 hok hs0 hs1
  refine (hd w4 (Below.refl _ _)).mono ?_
  rintro e w5 ⟨rfl, hb5⟩
  have h5 := h3.below hb5
  obtain ⟨x0, x1, x2⟩ := h5.c3
  clear hd
  go_wp2_with fail
  refine (HS0.out w5 hb5).mono ?_
  rintro e w6 ⟨rfl, hb6⟩
  have h6 := h5.below hb6
  have hb56 := hb5.trans (hb6.mono hb5.size)
  clear x0 x1 x2
  obtain ⟨x0, x1, x2⟩ := h6.c3
  go_wp2_with fail
  refine (HS1.out w6 hb56).mono ?_
  rintro e w7 ⟨rfl, hb7⟩
  have hbe := hbd.trans ((hb56.trans (hb7.mono hb56.size)).mono hbd.size)
  clear x0 x1 x2 hb5 hb6 hb7 hb56
  go_wp2
  go_ret
  exact ⟨rfl, hbe⟩
end Go.Proofs.Ytpoicagalmhfdaa.Cur

/- Stripes: a law's arguments; the document's example; are sets more than are gone through. -/
import Derived.Test.YtghlediibhnloaaStpT
import Derived.Test.YtghlediibhnloaaStpQ
namespace Go.Proofs.Ytghlediibhnloaa.Cur
open Go.RowKit Mem Go.ChangeShapes Go.WideShapes
set_option linter.unusedVariables false
set_option maxRecDepth 100000


theorem opens_sets : Opens (SlE (SlE U64E)) 57 := opens_slice Try.underlying57 (by kernel_rfl) (by decide) (opens_slice Try.underlying101 (by kernel_rfl) (by decide) (opens_u64 Try.underlying22))
theorem opens_stripe : Opens (PrE U64E (PrE U64E (SlE (SlE U64E)))) 60 := opens_three Try.underlying60 rfl rfl rfl (by kernel_rfl) (by kernel_rfl) (by kernel_rfl) (by kernel_rfl) (opens_u64 Try.underlying22) (opens_u64 Try.underlying22) opens_sets
theorem Sts.bds {w : World} {P : Nat → Prop} {A : Option Addr} {n : Nat} {S : List (List Int)} (h : Sts w P A n S) : sbds S := by
  intro l hl x hx
  obtain ⟨k, hk, e⟩ := List.mem_iff_getElem.1 hl
  obtain ⟨cs, h1, _⟩ := h.2
  obtain ⟨c, ⟨a, m, _, _, _, hsq⟩, _⟩ := h1.at_ k l (by rw [List.getElem?_eq_getElem hk, e])
  exact hsq.us.2 x hx
/-- What a stripe's cells are. -/
theorem stripe_parts {w : World} {P : Nat → Prop} {c : List Value} {s : Stp} (h : (PrE U64E (PrE U64E (SlE (SlE U64E)))).R w P c s) :
    ∃ A m, c = [.int .u64 s.1, .int .u64 s.2.1, .slice A s.2.2.length m] ∧ (0 ≤ s.1 ∧ s.1 < 18446744073709551616) ∧ (0 ≤ s.2.1 ∧ s.2.1 < 18446744073709551616) ∧ s.2.2.length ≤ m ∧ (A = none → m = 0) ∧ Sts w P A s.2.2.length s.2.2 := by
  obtain ⟨d, e, rfl, ⟨rfl, b0⟩, d2, e2, rfl, ⟨rfl, b1⟩, A, m, rfl, h1, h2, h3⟩ := h
  exact ⟨A, m, rfl, b0, b1, h1, h2, rfl, h3⟩
section
variable {H : Type} {enc : TypeId × Value → H} {w : World} {base : Nat} {v : Value} {d : DataW H} {p : List MemPlace}
theorem open_stripe (g : Value.okWide Try.prog w .any base 60 v) (h : DataW.Trod enc Try.prog w 0 (fun _ => true) true 60 v d p) :
    ∃ f t A n m S, v = stagg f t A n m ∧ (0 ≤ f ∧ f < 18446744073709551616) ∧ (0 ≤ t ∧ t < 18446744073709551616) ∧ n ≤ m ∧ (A = none → m = 0) ∧ Sts w (fun b => b < w.heap.size) A n S := by
  obtain ⟨cs, s, rfl, hs⟩ := open_st Try.underlying60 opens_stripe g h
  obtain ⟨A, m, e, b0, b1, h1, h2, h3⟩ := stripe_parts hs
  refine ⟨s.1, s.2.1, A, s.2.2.length, m, s.2.2, ?_, b0, b1, h1, h2, h3.mono fun b _ hb => hb⟩
  rw [show cs = cs.toList.toArray by simp, e]
end

def LgPost (n : Nat) (S : List (List Int)) (w : World) (e : Ending) (w' : World) : Prop := ∃ b, e = .returned (.bool b) ∧ Below w.heap.size w w' ∧ (b = false → n ≤ 20 ∧ ∀ l ∈ S, l.length ≤ 20)
set_option maxHeartbeats 2000000 in
theorem long19_any (P : Nat → Prop) (f t : Int) (A : Option Addr) (n m : Nat) (S : List (List Int)) (w : World) (hz : Sts w P A n S) :
    Calls Try.prog 27 #[stagg f t A n m] w (LgPost n S w) := by
  have hX := Blk.new w (stc f t A n m) 60
  have hb := below_one w (.cells (stc f t A n m) 60)
  have HL := Lib.hid hz.1
  have HC := Lib.hid (fun h => (hz.below hb).cells h)
  have HX := Lib.hid hX
  obtain ⟨x0, x1, x2⟩ := hX.c3
  clear hz hX
  go_enter Try.func27, Try.ntmps27
  go_wp2
  clear x0 x1 x2
  generalize w.alloc (.cells (stc f t A n m) 60) = w0 at *
  go_loopw [3] (fun i wr => ∃ k : Nat, k ≤ n ∧ k ≤ 20 ∧ i = .int .i64 k ∧ Hid (∀ j, j < k → (S.getD j []).length ≤ 20) ∧ Below w0.heap.size w0 wr) (fun i _ => 20 - (intOf i).toNat)
  case atStart => exact ⟨0, by omega, by omega, rfl, Lib.hid (by intro j hj; omega), Below.refl _ _⟩
  case round =>
    obtain ⟨k, hk, hk20, rfl, hj, hb0⟩ := hrel
    obtain ⟨x0, x1, x2⟩ := (HX.out.below hb0).c3
    have hbd := hb.trans (hb0.mono hb.size)
    by_cases hlt : k < n
    · have e1 : (k : Int) < n := by omega
      by_cases h20 : k < 20
      · have e2 : (k : Int) < 20 := by omega
        obtain ⟨g, o, rfl, _, hg, hc⟩ := HC.out (by omega)
        obtain ⟨a, l, mm, hl, hlm, han, hus, _, _, hcell⟩ := hc k hlt
        have c0 := hcell wr hb0
        have HLL := Lib.hid hl
        have e3 : IntKind.i64.wrap ((k : Int) + 1) = ((k + 1 : Nat) : Int) := IntWalk.i64_in _ (by omega)
        clear hc hl hus hcell han
        by_cases hl2 : 20 < (l : Int)
        · go_wp2
          go_ret
          exact ⟨true, rfl, hbd, fun h => by cases h⟩
        · have HL3 : Hid (l ≤ 20) := Lib.hid (by omega)
          go_wp2
          go_roundw
          case rel => exact ⟨k + 1, by omega, by omega, by go_num, Lib.hid (fun j hjk => by
            rcases Nat.lt_or_ge j k with h | h
            · exact hj.out j h
            · obtain rfl : j = k := by omega
              rw [HLL.out]; exact HL3.out), hb0⟩
          case measure => simp [intOf]; omega
      · have e2 : ¬ (k : Int) < 20 := by omega
        have e3 : 20 < (n : Int) := by omega
        go_wp2
        go_ret
        exact ⟨true, rfl, hbd, fun h => by cases h⟩
    · obtain rfl : k = n := by omega
      have e3 : ¬ 20 < (k : Int) := by omega
      have HN : Hid (∀ l ∈ S, l.length ≤ 20) := Lib.hid fun l hl => by
        obtain ⟨j, hj2, e⟩ := List.mem_iff_getElem.1 hl
        have := hj.out j (by rw [← HL.out]; exact hj2)
        rw [List.getD_eq_getElem?_getD, List.getElem?_eq_getElem hj2, Option.getD_some, e] at this
        exact this
      go_wp2
      go_ret
      exact ⟨false, rfl, hbd, fun _ => ⟨hk20, HN.out⟩⟩

end Go.Proofs.Ytghlediibhnloaa.Cur

/- What a law's arguments hold, read off the memory in which it is called: numbers, bytes, rows of bytes. -/
import Derived.Test.YtkedmhopajpkhaaByw
import Derived.Deep.Matrix
import Derived.Lib.SmallJoins
namespace Go.Proofs.Ytkedmhopajpkhaa.Cur
open Go.RowKit Mem Go.ChangeShapes Go.WideShapes
set_option linter.unusedVariables false

section
variable {H : Type} {enc : TypeId × Value → H} {w : World} {base : Nat} {v : Value} {d : DataW H} {p : List MemPlace}

theorem open_i64 (g : Value.okWide Try.prog w .any base 3 v) (h : DataW.Trod enc Try.prog w 0 (fun _ => true) true 3 v d p) :
    ∃ x, v = .int .i64 x ∧ -9223372036854775808 ≤ x ∧ x ≤ 9223372036854775807 := by
  obtain ⟨x, e, _, _, hw⟩ := open_int Try.underlying3 g h
  exact ⟨x, e, bounds_i64 hw⟩
theorem open_int64 (g : Value.okWide Try.prog w .any base 2 v) (h : DataW.Trod enc Try.prog w 0 (fun _ => true) true 2 v d p) :
    ∃ x, v = .int .i64 x ∧ -9223372036854775808 ≤ x ∧ x ≤ 9223372036854775807 := by
  obtain ⟨x, e, _, _, hw⟩ := open_int Try.underlying2 g h
  exact ⟨x, e, bounds_i64 hw⟩
theorem open_u32 (g : Value.okWide Try.prog w .any base 95 v) (h : DataW.Trod enc Try.prog w 0 (fun _ => true) true 95 v d p) :
    ∃ x, v = .int .u32 x ∧ 0 ≤ x ∧ x < 4294967296 := by
  obtain ⟨x, e, _, _, hw⟩ := open_int Try.underlying95 g h
  have := bounds_u32 hw
  exact ⟨x, e, by omega, by omega⟩
theorem open_byte (g : Value.okWide Try.prog w .any base 5 v) (h : DataW.Trod enc Try.prog w 0 (fun _ => true) true 5 v d p) :
    ∃ x, v = .int .u8 x ∧ 0 ≤ x ∧ x < 256 := by
  obtain ⟨x, e, _, _, hw⟩ := open_int Try.underlying5 g h
  have := bounds_u8 hw
  exact ⟨x, e, by omega, by omega⟩
theorem open_u64 (g : Value.okWide Try.prog w .any base 48 v) (h : DataW.Trod enc Try.prog w 0 (fun _ => true) true 48 v d p) :
    ∃ x, v = .int .u64 x ∧ 0 ≤ x ∧ x < 18446744073709551616 := by
  obtain ⟨x, e, _, _, hw⟩ := open_int Try.underlying48 g h
  have := bounds_u64 hw
  exact ⟨x, e, by omega, by omega⟩
theorem read_bytes {fuel : Nat} {cs : List Value} {x : DataW H × List MemPlace} (hf : DataW.trod enc Try.prog w 0 (fun _ => true) true fuel 22 cs = some x) :
    ∃ A n m z, cs = [.slice A n m] ∧ n ≤ m ∧ Bs w A n z ∧ (∀ x ∈ z, 0 ≤ x ∧ x < 256) ∧ (A = none → m = 0) := by
  rcases open_ints Try.underlying22 Try.underlying5 (by kernel_rfl) hf with ⟨rfl, _⟩ | ⟨x, l, c, zs, rfl, _, hl, hm, hz, _, hcell, hwz⟩
  · exact ⟨none, 0, 0, [], rfl, Nat.le_refl _, ⟨rfl, fun h => absurd h (by omega)⟩, fun x h => by simp at h, fun _ => rfl⟩
  · have hz' : zs.length = c := by simpa using hz
    refine ⟨some x, l, c, zs.take l, rfl, hl, ⟨by rw [List.length_take]; omega, fun hn => ?_⟩, fun y hy => ?_, fun e => by cases e⟩
    · obtain ⟨b, off, spot⟩ := x
      have hc := hcell 0 (by omega)
      have hspot : spot = none := by simpa [Addr.add] using World.cell?_spot hc
      subst hspot
      refine ⟨b, off, rfl, fun i x hx => ?_⟩
      have hi : i < l := by have := (List.getElem?_eq_some_iff.1 hx).1; rw [List.length_take] at this; omega
      rw [List.getElem?_take_of_lt hi] at hx
      have := hcell i (by omega)
      rw [List.getD_eq_getElem?_getD, hx] at this
      rw [← show (⟨b, off, none⟩ : Addr).add i = ⟨b, off + i, none⟩ by unfold Addr.add; split <;> simp_all]
      exact this
    · have h2 := bounds_u8 (hwz y (List.mem_of_mem_take hy))
      omega

/-- At an address lie n slices of bytes. -/
def IsRows (w : World) (A : Option Addr) (n : Nat) : Prop :=
  ∀ i, i < n → ∃ b o Ar Lr Cr z, A = some ⟨b, o, none⟩ ∧ w.cell? ⟨b, o + i, none⟩ = some (.slice Ar Lr Cr) ∧ Bs w Ar Lr z ∧ (∀ x ∈ z, 0 ≤ x ∧ x < 256) ∧ (Ar = none → Cr = 0) ∧ Lr ≤ Cr
theorem IsRows.below {w w' : World} {A : Option Addr} {n : Nat} (h : IsRows w A n) (hb : Below w.heap.size w w') : IsRows w' A n := fun i hi => by
  obtain ⟨b, o, Ar, Lr, Cr, z, e, h0, h1, r⟩ := h i hi
  exact ⟨b, o, Ar, Lr, Cr, z, e, (hb.cell (lt_of_cell h0)).trans h0, h1.below hb, r⟩
end
end Go.Proofs.Ytkedmhopajpkhaa.Cur

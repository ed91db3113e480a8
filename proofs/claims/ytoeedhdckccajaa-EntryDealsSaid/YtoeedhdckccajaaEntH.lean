/- Entries joined and dealt again: the plain facts. -/
import Derived.Test.YtoeedhdckccajaaEntG
namespace Go.Proofs.Ytoeedhdckccajaa.Cur
open Go.RowKit Mem
set_option linter.unusedVariables false
set_option maxRecDepth 100000

/-- How many bytes the first k entries have. -/
def il (L : List En) (k : Nat) : List Int := (List.range k).map fun j => ((L.getD j en0).2.length : Int)
theorem il_len (L : List En) (k : Nat) : (il L k).length = k := by simp [il]
theorem il_next (L : List En) (k : Nat) : il L (k + 1) = il L k ++ [((L.getD k en0).2.length : Int)] := by
  unfold il
  rw [List.range_succ, List.map_append]
  rfl
theorem il_at {L : List En} {k n : Nat} (h : k < n) : (il L n).getD k 0 = ((L.getD k en0).2.length : Int) := by
  unfold il
  rw [List.getD_eq_getElem?_getD, List.getElem?_map, List.getElem?_range h]
  rfl
theorem il_bd {L : List En} (h : esm L) (n : Nat) : ∀ y ∈ il L n, -9223372036854775808 ≤ y ∧ y ≤ 9223372036854775807 := by
  intro y hy
  unfold il at hy
  obtain ⟨j, _, rfl⟩ := List.mem_map.1 hy
  have := (h j).2.2
  omega
theorem ofs_il {L : List En} {n : Nat} (hn : n ≤ L.length) (k : Nat) : k ≤ n → ofs (il L n) k = (jk L k).length := by
  induction k with
  | zero => intro _; rfl
  | succ k ih =>
    intro hk
    show ofs (il L n) k + ((il L n).getD k 0).toNat = _
    rw [ih (by omega), il_at (by omega), jk_next_len (by omega)]
    rfl
theorem fits_il {L : List En} {n : Nat} (hn : n ≤ L.length) : Fits (il L n) n (jk L n).length := by
  refine ⟨fun j hj => ⟨?_, ?_⟩, ofs_il hn n (Nat.le_refl _)⟩
  · rw [il_at hj]; omega
  · rw [ofs_il hn (j + 1) (by omega)]
    exact jk_mono (by omega) hn
theorem jk_pre {L : List En} {k n : Nat} (h : k ≤ n) (hn : n ≤ L.length) : ∃ rest, jk L n = jk L k ++ rest := by
  induction n with
  | zero => obtain rfl : k = 0 := by omega
            exact ⟨[], by simp⟩
  | succ n ih =>
    rcases Nat.lt_or_ge n k with h2 | h2
    · obtain rfl : k = n + 1 := by omega
      exact ⟨[], by simp⟩
    · obtain ⟨r, e⟩ := ih h2 (by omega)
      exact ⟨r ++ (L.getD n en0).2, by rw [jk_next (by omega), e, List.append_assoc]⟩
theorem jk_piece {L : List En} {k n : Nat} (h : k < n) (hn : n ≤ L.length) : ((jk L n).drop (jk L k).length).take (L.getD k en0).2.length = (L.getD k en0).2 := by
  obtain ⟨r, e⟩ := jk_pre (L := L) (k := k + 1) h hn
  rw [e, jk_next (by omega), List.append_assoc, List.drop_left, List.take_left]
theorem dealt_il {L : List En} {n : Nat} (hl : L.length = n) : (List.range n).map (dle L (il L n) (jk L n)) = L := by
  apply List.ext_getElem (by simp [hl])
  intro i h1 h2
  rw [List.getElem_map, List.getElem_range]
  unfold dle
  have hi : i < n := by omega
  rw [ofs_il (by omega) i (by omega), il_at hi, Int.toNat_natCast, jk_piece hi (by omega), List.getD_eq_getElem?_getD, List.getElem?_eq_getElem h2]
  rfl
theorem dealt_at {L : List En} {S z : List Int} {n k : Nat} (h : k < n) : ((List.range n).map (dle L S z)).getD k en0 = dle L S z k := by
  rw [List.getD_eq_getElem?_getD, List.getElem?_map, List.getElem?_range h]; rfl
theorem kindI24 : Kind 55 3 (.int .i64 0) 1 8 := ⟨Try.underlying55, by kernel_rfl, rfl, by decide⟩
theorem rw_new24 (w : World) (xs : List Value) (t : Nat) : Rw (w.alloc (.cells xs.toArray t)) (some ⟨w.heap.size, 0, none⟩) xs := fun _ =>
  ⟨_, _, rfl, fun i v hi => by
    rw [Nat.zero_add]
    exact (Blk.new w xs.toArray t).cell i (by simpa using hi)⟩
/-- A row of numbers of the call's own. -/
def OwnN (w : World) (B : Nat) (v : Value) (z : List Int) : Prop := w.ownsRow B 3 1 v z.length (iv z)
theorem OwnN.is {w : World} {B : Nat} {v : Value} {z : List Int} (h : OwnN w B v z) : ∃ A c, v = .slice A z.length c ∧ Is w A z.length z := by
  obtain ⟨A, c, rfl, _⟩ := own_slice h
  obtain ⟨h1, h2, h3, h4⟩ := own_rw h rfl
  exact ⟨A, c, rfl, rfl, h4⟩
theorem dealt_post {L : List En} {S z : List Int} {n q r : Nat} {w w' : World} {e : Ending} (h : DealPost L S z n q r w e w') :
    ∃ A c k ok, e = .returned (.tuple #[.slice A k c, .bool ok]) ∧ Below w.heap.size w w' ∧ ((ok = false ∧ k = 0 ∧ ¬ (q = n ∧ Fits S n r)) ∨ (ok = true ∧ k = n ∧ q = n ∧ Fits S n r ∧ Ens w' (fun b => w.heap.size ≤ b) A n ((List.range n).map (dle L S z)))) := by
  obtain ⟨hb, ⟨h1, rfl⟩ | ⟨h1, h2, A, c, rfl, h3⟩⟩ := h
  · exact ⟨none, 0, 0, false, rfl, hb, .inl ⟨rfl, rfl, h1⟩⟩
  · exact ⟨A, c, n, true, rfl, hb, .inr ⟨rfl, rfl, h1, h2, h3⟩⟩
end Go.Proofs.Ytoeedhdckccajaa.Cur

/- Two rows of bytes that are the same are told the same; the document's example is as it says (live). -/
import Derived.Test.YtmbojcdliomifaaCurD
import Derived.Laws.BytesArg
namespace Go.Proofs.Ytmbojcdliomifaa.Cur
open Go.RowKit
set_option linter.unusedVariables false

theorem run_convert_bs {w : World} {A : Option Addr} {n : Nat} (m : Nat) {z : List Int} (h : Bs w A n z) :
    (convert 22 9 (.slice A n m)).run Try.prog w = .ok (.string (strOfNums z)) w := by
  rcases A with _ | ad
  · have : z = [] := by
      rcases Nat.eq_zero_or_pos n with h0 | h0
      · exact List.eq_nil_of_length_eq_zero (h.1.trans h0)
      · obtain ⟨_, _, e, _⟩ := h.2 h0
        cases e
    subst this
    exact run_convert_bytes_nil w 22 5 Try.underlying22 Try.underlying5 n m 9 Try.underlying9
  · have hl : (loadCells ad n).run Try.prog w = .ok (z.map (Value.int .u8)).toArray w := by
      have := run_loadCells_list (P := Try.prog) w ad (z.map (Value.int .u8)) (fun j v hj => by
        rw [List.getElem?_map, Option.map_eq_some_iff] at hj
        obtain ⟨x, hx, rfl⟩ := hj
        have hj : j < z.length := (List.getElem?_eq_some_iff.1 hx).1
        obtain ⟨g, o, e, hc⟩ := h.2 (by have := h.1; omega)
        injection e with e
        subst e
        rw [← hc j x hx]
        unfold Addr.add
        by_cases h0 : j = 0 <;> simp [h0])
      simpa [h.1] using this
    rw [run_convert_bytes_string w 22 9 5 _ n m Try.underlying22 Try.underlying5 Try.underlying9, run_bytesToString w _ n m z hl, foldl_push_bytes]
    simp [strOfNums, ByteArray.empty, ByteArray.emptyWithCapacity]
    rfl

set_option maxHeartbeats 400000 in
theorem same_any (A B : Option Addr) (n m c d : Nat) (z : List Int) (w : World) (ha : Bs w A n z) (hb : Bs w B m z) :
    Calls Try.prog 16 #[.slice A n c, .slice B m d] w fun e w' => e = .returned (.bool true) ∧ w = w' := by
  have h1 := run_convert_bs c ha
  have h2 := run_convert_bs d hb
  obtain ⟨s, hs⟩ : ∃ s, s = strOfNums z := ⟨_, rfl⟩
  rw [← hs] at h1 h2
  clear hs
  go_enter Try.func16, Try.ntmps16
  go_wp2
  go_ret
  exact ⟨rfl, rfl⟩

theorem Bs.of_block {w : World} {g t : Nat} {z : List Int} (h : w.heap[g]? = some (.cells (z.map (Value.int .u8)).toArray t (0, 0))) : Bs w (some ⟨g, 0, none⟩) z.length z :=
  ⟨rfl, fun _ => ⟨g, 0, rfl, fun i x hx => by simp [World.cell?, h, hx]⟩⟩

def NewPost (a : Option Addr) (n : Nat) (w : World) (e : Ending) (w' : World) : Prop :=
  ∃ b, e = .returned (.pointer (some ⟨b, 0, none⟩)) ∧ w.heap.size ≤ b ∧ Below w.heap.size w w' ∧ IsRd w' b (.slice a n n) 0 0 0
theorem new_some (a : Option Addr) (n m : Nat) (w : World) (hm : n ≤ m) : Calls Try.prog 8 #[.slice a n m] w (NewPost a n w) :=
  (new_any a n m w hm).mono fun _ _ ⟨he, hb, _, hr⟩ => ⟨_, he, Nat.le_refl _, hb, hr⟩

theorem skip_yes {n : Nat} {p q x : Int} {ok : Bool} {p' c' q' : Int} (h : SkipSt n p 0 q x ok p' c' q') (h0 : 0 ≤ x) (h1 : x ≤ n - p) : ok = true ∧ p' = p + x ∧ c' = 0 ∧ q' = q := by
  rcases h with ⟨h, _⟩ | ⟨_, h, _⟩ | ⟨_, h, _⟩ | ⟨_, _, _, a, b, c, d⟩
  · exact absurd rfl h
  · omega
  · omega
  · exact ⟨a, b, c, d⟩
theorem skip_over {n : Nat} {p q x : Int} {ok : Bool} {p' c' q' : Int} (h : SkipSt n p 0 q x ok p' c' q') (h0 : 0 ≤ x) (h1 : (n : Int) - p < x) : ok = false ∧ p' = p ∧ c' = 1 ∧ q' = n := by
  rcases h with ⟨h, _⟩ | ⟨_, h, _⟩ | ⟨_, _, a, b, c, d⟩ | ⟨_, _, h, _⟩
  · exact absurd rfl h
  · omega
  · exact ⟨a, b, c, d⟩
  · omega

set_option maxHeartbeats 800000 in
theorem live_any (w : World) :
    Calls Try.prog 7 #[] w fun e w' => e = .returned (.bool true) ∧ Below w.heap.size w w' := by
  have z0 : Bs (w.alloc (.cells #[.int .u8 7, .int .u8 8, .int .u8 9] 5)) (some ⟨w.heap.size, 0, none⟩) 3 [7, 8, 9] := Bs.of_block (z := [7, 8, 9]) (heap_alloc_new _ _)
  have b0 : Below w.heap.size w (w.alloc (.cells #[.int .u8 7, .int .u8 8, .int .u8 9] 5)) := (Below.refl _ _).alloc (Nat.le_refl _) _
  obtain ⟨A, hA⟩ : ∃ A, A = some (⟨w.heap.size, 0, none⟩ : Addr) := ⟨_, rfl⟩
  rw [← hA] at z0
  go_enter Try.func7, Try.ntmps7
  go_wp2_with fail
  rw [← hA]
  clear hA
  generalize w.alloc (.cells #[.int .u8 7, .int .u8 8, .int .u8 9] 5) = w0 at *
  refine (new_some _ _ _ _ (by omega)).mono ?_
  rintro e w1 ⟨b, rfl, hb, hb1, hr⟩
  have z1 := z0.below hb1
  have b1 := b0.trans (hb1.mono b0.size)
  have hbl : w.heap.size ≤ b := Nat.le_trans b0.size hb
  clear z0 b0 hb1 hb
  go_wp2_with fail
  refine (take_any _ _ _ _ _ _ _ _ _ _ hr z1 (by omega) (by omega) (by omega) (by omega)).mono ?_
  rintro e w2 ⟨ok, p', c', q', hk, hr2, hs, ht⟩
  obtain ⟨rfl, rfl, rfl, rfl⟩ := skip_yes hs (by omega) (by omega)
  rcases ht with ⟨_, g, rfl, hg, _⟩ | ⟨h, _⟩
  rotate_left
  · cases h
  have z2 := z1.kp hr (by simp) hk
  have b2 := Kp.below b1 (Nat.le_refl _) hk hbl
  clear z1 b1 hr hk hs
  go_wp2_with fail
  refine (byte_any _ _ _ _ _ _ _ _ _ hr2 z2 (by omega) (by omega) (by omega)).mono ?_
  rintro e w3 ⟨ok, p', c', q', hk, hr3, hs, rfl⟩
  obtain ⟨rfl, rfl, rfl, rfl⟩ := skip_yes hs (by omega) (by omega)
  have z3 := z2.kp hr2 (by simp) hk
  have b3 := Kp.below b2 (Nat.le_refl _) hk hbl
  clear z2 b2 hr2 hk hs
  go_wp2_with fail
  refine (good_any _ _ _ _ _ _ hr3).mono ?_
  rintro e w4 ⟨rfl, hb4⟩
  have hr4 := hr3.below hb4
  have z4 := z3.below hb4
  have b4 := b3.trans (hb4.mono b3.size)
  clear hr3 z3 b3 hb4
  go_wp2_with fail
  refine (left_any _ _ _ _ _ _ _ _ hr4 (by omega) (by omega) (by omega)).mono ?_
  rintro e w5 ⟨rfl, k, rfl⟩
  go_wp2_with fail
  refine (byte_any _ _ _ _ _ _ _ _ _ (hr4.drewN k) (z4.drewN k) (by omega) (by omega) (by omega)).mono ?_
  rintro e w6 ⟨ok, p', c', q', hk, hr6, hs, rfl⟩
  obtain ⟨rfl, rfl, rfl, rfl⟩ := skip_over hs (by omega) (by omega)
  have b6 := Kp.below (below_drewN b4 k) (Nat.le_refl _) hk hbl
  clear b4 hr4 hk hs z4
  go_wp2_with fail
  refine (fault_any _ _ _ _ _ _ hr6).mono ?_
  rintro e w7 ⟨rfl, hb7⟩
  have b7 := b6.trans (hb7.mono b6.size)
  go_wp2
  go_ret
  exact ⟨rfl, b7⟩

/-- Block g holds n bytes. -/
def Row (w : World) (g n : Nat) : Prop := ∃ xs : List Int, xs.length = n ∧ w.heap[g]? = some (.cells (xs.map (Value.int .u8)).toArray 5 (0, 0))
theorem Row.cell {w : World} {g n : Nat} (h : Row w g n) {k : Nat} (hk : k < n) : ∃ x : Int, w.cell? ⟨g, k, none⟩ = some (.int .u8 x) := by
  obtain ⟨xs, hl, hb⟩ := h
  exact ⟨xs[k]'(by omega), by simp [World.cell?, hb, List.getElem?_eq_getElem (show k < xs.length by omega)]⟩
theorem Row.free {w : World} {g n : Nat} (h : Row w g n) (k : Nat) : w.frozen? ⟨g, k, none⟩ = false := by
  obtain ⟨xs, _, hb⟩ := h
  simp [World.frozen?, hb]
theorem Row.set_ {w : World} {g n : Nat} (h : Row w g n) (k : Nat) (x : Int) : Row (w.setCell ⟨g, k, none⟩ (.int .u8 x)) g n := by
  obtain ⟨xs, hl, hb⟩ := h
  refine ⟨xs.set k x, by simpa using hl, ?_⟩
  simp [World.setCell, Array.getElem?_modify, hb, List.map_set]
theorem Row.of_block {w : World} {g n : Nat} {xs : List Int} (h : w.heap[g]? = some (.cells (xs.map (Value.int .u8)).toArray 5 (0, 0))) (hl : xs.length = n) : Row w g n := ⟨xs, hl, h⟩
theorem bs_far {w1 w2 w3 : World} {A : Option Addr} {n : Nat} {z : List Int} {g : Nat} (h1 : Bs w1 A n z) (hg : w1.heap.size ≤ g) (h2 : Bs w2 A n z) (hk : Kp g w2 w3) : Bs w3 A n z :=
  ⟨h2.1, fun hn => by
    obtain ⟨k, o, e, hc⟩ := h2.2 hn
    obtain ⟨k', o', e', hc'⟩ := h1.2 hn
    have hz : 0 < z.length := by rw [h1.1]; exact hn
    obtain rfl : k = k' := by rw [e] at e'; injection e' with e'; injection e'
    have hlt := lt_of_cell (hc' 0 _ (List.getElem?_eq_getElem hz))
    exact ⟨k, o, e, fun i x hx => (World.cell?_of_block (w := w2) (hk.block k (lt_of_cell (hc i x hx)) (by omega))).trans (hc i x hx)⟩⟩

end Go.Proofs.Ytmbojcdliomifaa.Cur

/- Two rows of texts compared, and texts joined with blanks. -/
import Derived.Test.YtogfjejodoefeaaDoorWrdO
namespace Go.Proofs.YtogfjejodoefeaaDoor.Cur
open Go.RowKit Mem
set_option linter.unusedVariables false
set_option maxRecDepth 100000

abbrev ts (l : List ByteArray) : List Value := l.map Value.string
theorem OwnS.rw {w : World} {B n c : Nat} {A : Option Addr} {l : List ByteArray} (h : OwnS w B (.slice A n c) l) : n = l.length ∧ n ≤ c ∧ Rw w A (ts l) := by
  obtain ⟨h1, h2, h3, h4⟩ := own_rw h rfl
  exact ⟨h1, by omega, h4⟩
theorem ts_cells {w : World} {A : Option Addr} {l : List ByteArray} (h : Rw w A (ts l)) (hn : 0 < l.length) :
    ∃ g o, A = some ⟨g, o, none⟩ ∧ g < w.heap.size ∧ ∀ w', Below w.heap.size w w' → ∀ k, k < l.length → w'.cell? ⟨g, o + k, none⟩ = some (.string (l.getD k ⟨#[]⟩)) := by
  obtain ⟨g, o, e, hc⟩ := h (by rw [List.length_map]; exact hn)
  have hk : ∀ k, k < l.length → (ts l)[k]? = some (.string (l.getD k ⟨#[]⟩)) := fun k hk => by
    rw [List.getElem?_map, List.getD_eq_getElem?_getD, List.getElem?_eq_getElem hk]
    rfl
  exact ⟨g, o, e, lt_of_cell (hc 0 _ (hk 0 hn)), fun w' hb k h1 => (hb.cell (lt_of_cell (hc k _ (hk k h1)))).trans (hc k _ (hk k h1))⟩

set_option maxHeartbeats 1000000 in
theorem same10_any (A B : Option Addr) (c d : Nat) (l : List ByteArray) (w : World) (ha : Rw w A (ts l)) (hb : Rw w B (ts l)) (hn : l.length ≤ 1000000) :
    Calls Tryd.prog 10 #[.slice A l.length c, .slice B l.length d] w (BPost (.bool true) w) := by
  unfold BPost
  obtain ⟨m, hm⟩ : ∃ m, l.length = m := ⟨_, rfl⟩
  by_cases hn0 : m = 0
  · rw [hm]
    subst hn0
    clear ha hb hm
    go_enter Tryd.func10, Tryd.ntmps10
    go_wp2
    go_loopw [5] (fun i wr => i = .int .i64 0 ∧ wr = w) (fun i _ => 0)
    case atStart => exact ⟨rfl, rfl⟩
    case round =>
      obtain ⟨rfl, rfl⟩ := hrel
      go_wp2
      go_ret
      exact ⟨rfl, Below.refl _ _⟩
  · obtain ⟨g, o, rfl, hg, hc⟩ := ts_cells ha (by omega)
    obtain ⟨g', o', rfl, hg', hc'⟩ := ts_cells hb (by omega)
    have HC := Lib.hid hc
    have HC' := Lib.hid hc'
    have HM := Lib.hid hm
    rw [hm] at hn ⊢
    clear hc hc' ha hb hm
    go_enter Tryd.func10, Tryd.ntmps10
    go_wp2
    go_loopw [5] (fun i wr => ∃ k : Nat, k ≤ m ∧ i = .int .i64 k ∧ Below w.heap.size w wr) (fun i _ => m - (intOf i).toNat)
    case atStart => exact ⟨0, by omega, rfl, Below.refl _ _⟩
    case round =>
      obtain ⟨k, hk, rfl, hb⟩ := hrel
      by_cases hlt : k < m
      · have c0 := HC.out wr hb k (by rw [HM.out]; exact hlt)
        have c1 := HC'.out wr hb k (by rw [HM.out]; exact hlt)
        generalize l.getD k ⟨#[]⟩ = x at *
        have e2 : (k : Int) < m := by omega
        go_wp2
        go_quiet (fail)
        go_wp2
        go_roundw
        case rel => exact ⟨k + 1, hlt, by go_num, below_drewN hb _⟩
        case measure => simp [intOf]; omega
      · go_wp2
        go_ret
        exact ⟨rfl, hb⟩

theorem join0 (A : Option Addr) (c : Nat) (w : World) : Calls Tryd.prog 27 #[.slice A 0 c, .string ⟨#[32]⟩] w fun e w' => e = .returned (.string ⟨#[]⟩) ∧ w' = w := by
  go_enter Tryd.func27, Tryd.ntmps27
  go_wp2
  go_ret
  exact ⟨rfl, rfl⟩
theorem join_any (A : Option Addr) (c : Nat) (l : List ByteArray) (w : World) (ha : Rw w A (ts l)) (hn : l.length ≤ 1000000) (hc : l.length ≤ c) (s : ByteArray) (hs : Lib.join (l.map (·.data.toList)) [32] = s.data.toList) (hz : s.size ≤ 100000) :
    Calls Tryd.prog 14 #[.slice A l.length c] w (BPost (.string s) w) := by
  unfold BPost
  by_cases h0 : l.length = 0
  · have hl := List.eq_nil_of_length_eq_zero h0
    subst hl
    have he : s = ⟨#[]⟩ := by
      apply ByteArray.ext
      apply Array.toList_inj.1
      rw [← hs]
      rfl
    subst he
    have HC := Lib.hid (fun w => join0 A c w)
    clear ha hn hc hs hz h0
    rw [List.length_nil]
    go_enter Tryd.func14, Tryd.ntmps14
    go_wp2_with fail
    with_reducible refine (HC.out _).mono ?_
    rintro e w2 ⟨rfl, rfl⟩
    go_wp2
    go_ret
    exact ⟨rfl, Below.refl _ _⟩
  · obtain ⟨g, o, rfl, hg, hcl⟩ := ts_cells ha (by omega)
    have hj := Tryd.strings_Join g o c l ⟨#[32]⟩ w (fun j x hx => by
      have hj : j < l.length := (List.getElem?_eq_some_iff.1 hx).1
      have := hcl w (Below.refl _ _) j hj
      rw [List.getD_eq_getElem?_getD, hx] at this
      exact this) hg (by omega) hc (by
        show (Lib.join (l.map (·.data.toList)) [32]).length ≤ _
        rw [hs, blist_len]; omega)
    have he : (⟨(Lib.join (l.map (·.data.toList)) (⟨#[32]⟩ : ByteArray).data.toList).toArray⟩ : ByteArray) = s := by
      apply ByteArray.ext
      apply Array.toList_inj.1
      rw [← hs]
    rw [he] at hj
    have HJ := Lib.hid hj
    clear hj he hcl hs ha
    generalize l.length = m at *
    go_enter Tryd.func14, Tryd.ntmps14
    go_wp2_with fail
    with_reducible refine HJ.out.mono ?_
    rintro e w2 ⟨rfl, hb2⟩
    have HB2 := Lib.hid hb2
    clear hb2 HJ
    go_wp2
    go_ret
    exact ⟨rfl, HB2.out⟩
end Go.Proofs.YtogfjejodoefeaaDoor.Cur

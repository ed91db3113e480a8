/- slices.Concat at numbers of 64 digits. -/
import Derived.Test.YtpoicagalmhfdaaSrtO
import Derived.Test.YtpoicagalmhfdaaStpV
namespace Go.Proofs.Ytpoicagalmhfdaa.Cur
open Go.RowKit Mem
set_option linter.unusedVariables false
set_option maxRecDepth 100000

theorem ftk (S : List (List Int)) {k : Nat} (h : k < S.length) : (S.take (k + 1)).flatten = (S.take k).flatten ++ S.getD k [] := by
  rw [List.take_add_one, List.getElem?_eq_getElem h, List.getD_eq_getElem?_getD, List.getElem?_eq_getElem h, List.flatten_append]
  simp
theorem ownu_base {w : World} {B B' : Nat} {v : Value} {z : List Int} (h : OwnU w B v z) (hB : B' ≤ B) : OwnU w B' v z := ⟨h.1, h.2.imp id fun ⟨g, cap, cur, e, hg, r⟩ => ⟨g, cap, cur, e, Nat.le_trans hB hg, r⟩⟩
theorem ftk_le (S : List (List Int)) (k : Nat) : (S.take k).flatten.length ≤ S.flatten.length := by
  have h : S.flatten = (S.take k).flatten ++ (S.drop k).flatten := by rw [← List.flatten_append, List.take_append_drop]
  rw [h, List.length_append]; omega
set_option maxHeartbeats 2000000 in
theorem sconcat_any (P : Nat → Prop) (A : Option Addr) (n m : Nat) (S : List (List Int)) (w : World) (hz : Sts w P A n S) (hn : n ≠ 0) (hnm : n ≤ 1000) (h1 : 1 ≤ S.flatten.length) (hT : S.flatten.length ≤ 1000) :
    Calls Try.prog 56 #[.slice A n m] w (URowPost S.flatten w) := by
  have hlen : S.length = n := hz.1
  obtain ⟨g, o, rfl, _, _, hc⟩ := hz.cells hn
  have HC := Lib.hid hc
  have HLEN := Lib.hid hlen
  have HT := Lib.hid (And.intro h1 hT)
  have n0 : (0 : Int) < n := by omega
  clear hc hz hlen h1 hT hn
  go_enter Try.func56, Try.ntmps56
  go_wp2
  go_loopw [3, 11] (fun x y wr => ∃ k s : Nat, k ≤ n ∧ x = .int .i64 s ∧ y = .int .i64 k ∧ s ≤ 1000 ∧ Hid (s = (S.take k).flatten.length ∧ Below w.heap.size w wr)) (fun x y _ => 1001 - (intOf y).toNat)
  case atStart => exact ⟨0, 0, by omega, rfl, rfl, by omega, Lib.hid ⟨rfl, Below.refl _ _⟩⟩
  case round =>
    obtain ⟨k, s, hk, rfl, rfl, hs, HR⟩ := hrel
    obtain ⟨hs2, hw⟩ := HR.out
    have HW := Lib.hid hw
    clear HR
    by_cases hkn : k < n
    · have e1 : (k : Int) < n := by omega
      obtain ⟨a, l, m', q1, q2, q3, q4, q5, q6, q7⟩ := HC.out k hkn
      have c0 := q7 _ hw
      have hF := ftk S (k := k) (by rw [HLEN.out]; exact hkn)
      have hL := ftk_le S (k + 1)
      rw [hF, List.length_append, q1, ← hs2] at hL
      have hl : s + l ≤ 1000 := Nat.le_trans hL HT.out.2
      have e2 : IntKind.i64.wrap ((s : Int) + l) = ((s + l : Nat) : Int) := IntWalk.i64_in _ (by omega)
      have e3 : IntKind.i64.wrap ((k : Int) + 1) = ((k + 1 : Nat) : Int) := IntWalk.i64_in _ (by omega)
      have e4 : ¬ ((s + l : Nat) : Int) < 0 := by omega
      have HE : Hid (s + l = (S.take (k + 1)).flatten.length) := Lib.hid (by rw [hF, List.length_append, q1, ← hs2])
      clear q1 q4 q5 q6 q7 hF hL hs2 hw
      go_wp2
      go_roundw
      case rel => exact ⟨k + 1, s + l, by omega, by go_num, by go_num, hl, Lib.hid ⟨HE.out, HW.out⟩⟩
      case measure => simp [intOf]; omega
    · have hke : n = k := by omega
      subst hke
      have hs3 : s = S.flatten.length := by rw [hs2, List.take_of_length_le (by rw [HLEN.out]; omega)]
      have s1 : 1 ≤ s := by rw [hs3]; exact HT.out.1
      have HS := Lib.hid hs3
      clear hs2 hs3 hw
      go_wp2_with fail
      with_reducible refine (sgrow_any s s1 (by omega) _).mono ?_
      rintro e w1 ⟨v, rfl, ho, hb⟩
      have hB0 : w.heap.size ≤ wr.heap.size := HW.out.size
      have H0 : Hid (OwnU w1 w.heap.size v [] ∧ Below w.heap.size w w1) := Lib.hid ⟨ownu_base ho hB0, HW.out.trans (hb.mono hB0)⟩
      clear ho hb
      go_wp2
      go_loopw [6, 27] (fun x y wr => ∃ k : Nat, k ≤ n ∧ y = .int .i64 k ∧ Hid (OwnU wr w.heap.size x (S.take k).flatten ∧ Below w.heap.size w wr)) (fun x y _ => 1001 - (intOf y).toNat)
      case atStart => exact ⟨0, by omega, rfl, H0⟩
      case round =>
        clear H0
        obtain ⟨k, hk, rfl, HR⟩ := hrel
        obtain ⟨ho, hb⟩ := HR.out
        clear HR
        by_cases hkn : k < n
        · have e1 : (k : Int) < n := by omega
          obtain ⟨a, l, m', q1, q2, q3, q4, q5, q6, q7⟩ := HC.out k hkn
          have c0 := q7 _ hb
          have hF := ftk S (k := k) (by rw [HLEN.out]; exact hkn)
          have hL := ftk_le S (k + 1)
          rw [hF, List.length_append, q1] at hL
          have hl : (S.take k).flatten.length + l ≤ 1000000 := by have := HT.out.2; omega
          have e3 : IntKind.i64.wrap ((k : Int) + 1) = ((k + 1 : Nat) : Int) := IntWalk.i64_in _ (by omega)
          have hrw := (q4.below hb).2
          have hul : (uv (S.getD k [])).length = l * 1 := by rw [List.length_map, q1, Nat.mul_one]
          have hu1 := uv_one (S.getD k [])
          have hB9 := hb.size
          have HE := Lib.hid (fun (v' : Value) (w' : World) (ho' : w'.ownsRow w.heap.size 22 1 v' ((S.take k).flatten.length + l) (uv (S.take k).flatten ++ uv (S.getD k []))) => (show OwnU w' w.heap.size v' (S.take (k + 1)).flatten from by
            unfold OwnU
            rw [hF, List.length_append, q1, uv, List.map_append]
            exact ho'))
          have HB := Lib.hid (And.intro hb ho)
          unfold OwnU at ho
          clear q1 q4 q5 q6 q7 hF hL
          go_wp2_with (at_builtin; go_must (refine list_append_rw kindU rfl (.tmp 31) (.tmp 32) rfl w.heap.size _ _ _ rfl ho a l m' (uv (S.getD k [])) rfl hul hrw q3 hu1 hl (by omega) hB9 ?_; intro v' w10 ho' hg' hgr'; have HN := Lib.hid (And.intro (HE.out _ _ ho') (HB.out.1.grown hg' hB9 (fun k e => own_ge HB.out.2 k e))); clear ho' hg' hgr'))
          go_roundw
          case rel => exact ⟨k + 1, by omega, by go_num, HN⟩
          case measure => simp [intOf]; omega
        · have e1 : ¬ (k : Int) < n := by omega
          have HE : Hid (OwnU wr w.heap.size _ S.flatten ∧ Below w.heap.size w wr) := Lib.hid ⟨by rw [← List.take_of_length_le (l := S) (i := k) (by rw [HLEN.out]; omega)]; exact ho, hb⟩
          clear ho hb
          go_wp2
          go_ret
          exact ⟨_, rfl, HE.out.1, HE.out.2⟩
end Go.Proofs.Ytpoicagalmhfdaa.Cur

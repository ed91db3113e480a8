/- The valid seals of an epoch (told). -/
import Derived.Test.YtdljkpmjamegjaaSelH
import Derived.IntWalk
namespace Go.Proofs.Ytdljkpmjamegjaa.Cur
open Go.RowKit Mem
set_option linter.unusedVariables false
set_option maxRecDepth 100000

/-- The valid seals of an epoch. -/
def vl (e : Int) (l : List Sl3) : List Sl3 := l.filter fun s => decide (s.1 = e) && slok s
theorem take_one (l : List Sl3) (k : Nat) (hk : k < l.length) : l.take (k + 1) = l.take k ++ [l.getD k (0, 0, 0)] := by
  rw [List.take_add_one, List.getElem?_eq_getElem hk, List.getD_eq_getElem?_getD, List.getElem?_eq_getElem hk]; rfl
theorem vl_yes {e : Int} {l : List Sl3} {k : Nat} (hk : k < l.length) (h1 : (l.getD k (0, 0, 0)).1 = e) (h2 : slok (l.getD k (0, 0, 0)) = true) : vl e (l.take (k + 1)) = vl e (l.take k) ++ [l.getD k (0, 0, 0)] := by
  unfold vl
  rw [take_one l k hk, List.filter_append]
  congr 1
  generalize l.getD k (0, 0, 0) = s at h1 h2
  simp [h1, h2]
theorem vl_no {e : Int} {l : List Sl3} {k : Nat} (hk : k < l.length) (h : ¬ ((l.getD k (0, 0, 0)).1 = e ∧ slok (l.getD k (0, 0, 0)) = true)) : vl e (l.take (k + 1)) = vl e (l.take k) := by
  unfold vl
  rw [take_one l k hk, List.filter_append]
  generalize l.getD k (0, 0, 0) = s at h
  rw [List.filter_cons, if_neg (by simpa using h), List.filter_nil, List.append_nil]
theorem vl_len (e : Int) (l : List Sl3) : (vl e l).length ≤ l.length := List.length_filter_le _ _
theorem rw_new3 (w : World) (xs : List Value) (t : Nat) : Rw (w.alloc (.cells xs.toArray t)) (some ⟨w.heap.size, 0, none⟩) xs := fun _ =>
  ⟨_, _, rfl, fun i v hi => by
    rw [Nat.zero_add]
    exact (Blk.new w xs.toArray t).cell i (by simpa using hi)⟩
theorem own_ge3 {w : World} {B e size n : Nat} {v : Value} {xs : List Value} (h : w.ownsRow B e size v n xs) : ∀ g, v.ownBlock = some g → B ≤ g := fun g hg => (World.ownsRow.lt h g hg).1
theorem OwnL.below {w w' : World} {B : Nat} {v : Value} {l : List Sl3} (h : OwnL w B v l) (hb : Below w.heap.size w w') : OwnL w' B v l := own_below h hb
theorem OwnL.snoc {w : World} {B : Nat} {v : Value} {l : List Sl3} {s0 s1 s2 : Int} (h : w.ownsRow B 24 3 v (l.length + 1) (svs l ++ [.int .u64 s0, .int .u64 s1, .int .u64 s2])) : OwnL w B v (l ++ [(s0, s1, s2)]) := by
  unfold OwnL
  rw [List.length_append, svs_append]
  exact h

def LPost (l : List Sl3) (w : World) (e : Ending) (w' : World) : Prop := ∃ v, e = .returned v ∧ OwnL w' w.heap.size v l ∧ Below w.heap.size w w'
set_option maxHeartbeats 4000000 in
theorem told_any (A : Option Addr) (n m : Nat) (l : List Sl3) (e0 : Int) (w : World) (hz : Sls w A n l) (hn : n ≤ 100000) :
    Calls Try.prog 43 #[.slice A n m, .int .u64 e0] w (LPost (vl e0 l) w) := by
  have HL := Lib.hid hz.1
  have HC : Hid (n ≠ 0 → ∃ g o, A = some ⟨g, o, none⟩ ∧ g < w.heap.size ∧ ∀ w', Below w.heap.size w w' → ∀ k, k < n →
    w'.cell? ⟨g, o + k * 3, none⟩ = some (.int .u64 (l.getD k (0, 0, 0)).1) ∧ w'.cell? ⟨g, o + k * 3 + 1, none⟩ = some (.int .u64 (l.getD k (0, 0, 0)).2.1) ∧ w'.cell? ⟨g, o + k * 3 + 2, none⟩ = some (.int .u64 (l.getD k (0, 0, 0)).2.2)) := Lib.hid fun h => hz.cells (by omega)
  clear hz
  go_enter Try.func43, Try.ntmps43
  go_wp2
  go_loopw [5, 10] (fun v i wr => ∃ k : Nat, k ≤ n ∧ i = .int .i64 k ∧ OwnL wr w.heap.size v (vl e0 (l.take k)) ∧ Below w.heap.size w wr) (fun _ i _ => n - (intOf i).toNat)
  case atStart => exact ⟨0, by omega, rfl, by rw [List.take_zero]; exact OwnL.nil _ _, Below.refl _ _⟩
  case round =>
    obtain ⟨k, hk, rfl, ho, hb⟩ := hrel
    by_cases hlt : k < n
    · obtain ⟨g, o, rfl, hg, hc⟩ := HC.out (by omega)
      obtain ⟨c0, c1, c2⟩ := hc wr hb k hlt
      have hkl : k < l.length := by rw [HL.out]; exact hlt
      have hyes := vl_yes (e := e0) hkl
      have hno := vl_no (e := e0) hkl
      have hle := vl_len e0 (l.take k)
      rw [List.length_take] at hle
      obtain ⟨Y, hY⟩ : ∃ Y, Y = vl e0 (l.take k) := ⟨_, rfl⟩
      rw [← hY] at ho hyes hno hle
      obtain ⟨Z, hZ⟩ : ∃ Z, Z = vl e0 (l.take (k + 1)) := ⟨_, rfl⟩
      rw [← hZ] at hyes hno
      generalize l.getD k (0, 0, 0) = s at *
      obtain ⟨s0, s1, s2⟩ := s
      dsimp only at *
      have HZ := Lib.hid hZ
      have HYES := Lib.hid hyes
      have HNO := Lib.hid hno
      have HLE : Hid (Y.length + 1 ≤ 1000000) := Lib.hid (by omega)
      have e2 : (k : Int) < n := by omega
      have e3 : IntKind.i64.wrap ((k : Int) + 1) = ((k + 1 : Nat) : Int) := IntWalk.i64_in _ (by omega)
      have hX := Blk.new wr #[.int .u64 s0, .int .u64 s1, .int .u64 s2] 24
      have hbX := below_one wr (.cells #[.int .u64 s0, .int .u64 s1, .int .u64 s2] 24)
      have ho1 := ho.below hbX
      have hb1 := hb.trans (hbX.mono hb.size)
      obtain ⟨x0, x1, x2⟩ := hX.c3
      clear hyes hno hY hZ hc ho hb hbX hle
      by_cases he : s0 = e0
      · subst he
        cases hs : slok (s0, s1, s2)
        · have HS := Lib.hid hs
          go_wp2_with fail
          with_reducible refine (sright_any (s0, s1, s2) _).mono ?_
          rintro e w2 ⟨rfl, hb2⟩
          rw [hs]
          have ho2 := ho1.below hb2
          have hbd := hb1.trans (hb2.mono hb1.size)
          clear ho1 hb1 hX x0 x1 x2 hb2 hs
          go_wp2
          go_roundw
          case rel => exact ⟨k + 1, by omega, by go_num, by rw [← HZ.out, HNO.out (fun h => by have := h.2; rw [HS.out] at this; cases this)]; exact ho2, hbd⟩
          case measure => simp [intOf]; omega
        · have HS := Lib.hid hs
          go_wp2_with fail
          with_reducible refine (sright_any (s0, s1, s2) _).mono ?_
          rintro e w2 ⟨rfl, hb2⟩
          rw [hs]
          have ho2 := ho1.below hb2
          have hX2 := hX.below hb2
          have hbd := hb1.trans (hb2.mono hb1.size)
          have hA := below_one w2 (.cells #[.int .u64 s0, .int .u64 s1, .int .u64 s2] 24)
          have hbA := hbd.trans (hA.mono hbd.size)
          have hrwA := rw_new3 w2 [.int .u64 s0, .int .u64 s1, .int .u64 s2] 24
          have hoA := ho2.below hA
          have hB9 := hbA.size
          have hge := own_ge3 hoA
          clear ho1 hb1 hX x0 x1 x2 hb2 hs ho2 hbd hA
          obtain ⟨x0, x1, x2⟩ := hX2.c3
          obtain ⟨Av, cv, rfl, _⟩ := hoA.slice
          have HBA := Lib.hid hbA
          clear hbA hX2
          go_wp2_with (at_builtin; go_must (refine list_append_rw kindL rfl (.tmp 22) (.tmp 24) rfl w.heap.size _ _ _ rfl hoA _ 1 _ [.int .u64 s0, .int .u64 s1, .int .u64 s2] rfl rfl hrwA (by simp) (by simp [Value.oneCell']) HLE.out (by omega) hB9 ?_; intro v' w10 ho' hg' hgr'; have H8 : Hid (Below w.heap.size w w10) := Lib.hid (HBA.out.grown hg' (by have := hB9; omega) (fun k hk => by have := hge k hk; omega)); have H9 : Hid (OwnL w10 w.heap.size v' (Y ++ [(s0, s1, s2)])) := Lib.hid (OwnL.snoc ho'); clear ho' hg' hgr' hrwA hoA hB9 hge))
          go_roundw
          case rel => exact ⟨k + 1, by omega, by go_num, by rw [← HZ.out, HYES.out (by trivial) HS.out]; exact H9.out, H8.out⟩
          case measure => simp [intOf]; omega
      · have he2 : decide (s0 = e0) = false := decide_eq_false he
        have HE := Lib.hid he
        clear he hX
        go_wp2
        go_roundw
        case rel => exact ⟨k + 1, by omega, by go_num, by rw [← HZ.out, HNO.out (fun h => HE.out h.1)]; exact ho1, hb1⟩
        case measure => simp [intOf]; omega
    · obtain rfl : k = n := by omega
      have HT : Hid (vl e0 (l.take k) = vl e0 l) := Lib.hid (by rw [List.take_of_length_le (by rw [HL.out]; exact Nat.le_refl _)])
      go_wp2
      go_ret
      exact ⟨_, rfl, by rw [← HT.out]; exact ho, hb⟩
end Go.Proofs.Ytdljkpmjamegjaa.Cur

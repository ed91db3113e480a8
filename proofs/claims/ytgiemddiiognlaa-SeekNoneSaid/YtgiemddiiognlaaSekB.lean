/- Longest matches: all places ahead, yielded. -/
import Derived.Test.YtgiemddiiognlaaSekA
import Derived.Test.YtgiemddiiognlaaChnE
namespace Go.Proofs.Ytgiemddiiognlaa.Cur
open Go.RowKit Go.Shelf Mem
attribute [local go_sem] Oper.semAt_some
set_option linter.unusedVariables false
set_option maxRecDepth 100000

theorem alls_take {a : Int} {k : Nat} (h : (k : Int) < min a 65536) : (alls a).take (k + 1) = (alls a).take k ++ [(a - 1 - k).toNat] := by
  have hl : k < (alls a).length := by rw [alls_len]; omega
  rw [List.take_succ_eq_append_getElem hl]
  congr 2
  unfold alls
  simp

theorem ahead_any (a : Int) (w : World) : Calls Try.prog 18 #[.int .i64 a] w fun e w' => e = .returned (.func (.func 25) #[] #[.pointer (some ⟨w.heap.size, 0, none⟩)]) ∧ w' = w.alloc (.cells #[.int .i64 a] 3) := by
  go_enter Try.func18, Try.ntmps18
  go_wp2
  go_ret
  exact ⟨rfl, rfl⟩
section
variable {α : Type} (val : α → Nat)
theorem take_snoc {Ls : List α} {k : Nat} (h : k < Ls.length) : ∃ x, Ls.take (k + 1) = Ls.take k ++ [x] ∧ (Ls.map val)[k]? = some (val x) :=
  ⟨Ls[k], List.take_succ_eq_append_getElem h, by rw [List.getElem?_map, List.getElem?_eq_getElem h]; rfl⟩
set_option maxHeartbeats 2000000 in
theorem ahead1_in (F : Fence) (n : Nat) (hf : F.fn 25) (hro : F.round = none) (hn : 1 ≤ n) (l p : Nat) (a : Int) (Ls : List α) (hLs : Ls.map val = alls a) (J Jx : List α → World → Prop)
    (hY : ∀ pre x W, J pre W → pre.length < Ls.length → YieldAt F (n - 1) Try.prog l #[.int .i64 ((val x : Nat) : Int)] W fun e W' =>
      (e = .returned (.bool true) ∧ J (pre ++ [x]) W' ∧ W'.heap[p]? = W.heap[p]?) ∨ (e = .returned (.bool false) ∧ Jx (pre ++ [x]) W'))
    (W : World) (hP : W.cell? ⟨p, 0, none⟩ = some (.int .i64 a)) (h0 : J [] W) (ha : -9223372036854775808 ≤ a ∧ a ≤ 9223372036854775807) :
    CallsIn F n Try.prog 25 #[.func (.yield l) #[] #[], .pointer (some ⟨p, 0, none⟩)] W fun e W' => (∃ v, e = .returned v) ∧
      ((∃ ys, ys = Ls ∧ J ys W') ∨ (∃ pre, pre <+: Ls ∧ Jx pre W')) := by
  obtain ⟨M, hM⟩ : ∃ M, min a 65536 = M := ⟨_, rfl⟩
  have hL : Ls.length = M.toNat := by rw [← hM, ← alls_len a, ← hLs, List.length_map]
  have hMa : M ≤ a ∧ M ≤ 65536 := by omega
  have HT := Lib.hid (fun (k : Nat) (h : (k : Int) < M) => (by
    obtain ⟨x, h1, h2⟩ := take_snoc val (Ls := Ls) (k := k) (by omega)
    refine ⟨x, h1, ?_⟩
    rw [hLs] at h2
    unfold alls at h2
    rw [List.getElem?_map, List.getElem?_range (by omega)] at h2
    simp at h2
    omega : ∃ x, Ls.take (k + 1) = Ls.take k ++ [x] ∧ a - 1 - (k : Int) = (val x : Nat)))
  have HL := Lib.hid hL
  have HP := Lib.hid hP
  refine callsIn_of_wp Try.func25 rfl hf ?_ hro
  simp only [Try.ntmps25, List.size_toArray, List.length_cons, List.length_nil, Nat.reduceAdd, Nat.reduceSub, Array.replicate_succ, Array.replicate_zero, List.push_toArray, List.append_toArray, List.nil_append, List.cons_append]
  clear hL hLs
  gi_wp2
  clear hM hP
  gi_loopw [6] (fun v wr => ∃ k : Nat, k ≤ M.toNat ∧ v = .int .i64 k ∧ Hid (wr.heap[p]? = W.heap[p]?) ∧ J (Ls.take k) wr) (fun v _ => M.toNat - (intOf v).toNat)
  case atStart => exact ⟨0, Nat.zero_le _, rfl, Lib.hid rfl, h0⟩
  case round =>
    obtain ⟨k, hk, rfl, hb, hJ⟩ := hrel
    by_cases hlt : (k : Int) < M
    · have c1 := (World.cell?_of_block (w := W) (a := ⟨p, 0, none⟩) hb.out).trans HP.out
      obtain ⟨x, hT, hx⟩ := HT.out k hlt
      have HTK := Lib.hid hT
      obtain ⟨fn, tmps, assign, body, hy, hR⟩ := hY _ x wr hJ (by rw [List.length_take, HL.out]; omega)
      clear hT
      generalize val x = y at *
      gi_wp2
      refine hR.mono ?_
      rintro e W3 (⟨rfl, hJ3, hk3⟩ | ⟨rfl, hJx3⟩)
      · have hb3 := Lib.hid (hk3.trans hb.out)
        have hJ4 : J (Ls.take (k + 1)) W3 := by rw [HTK.out]; exact hJ3
        clear hy hR hx hk3
        gi_wp2
        go_roundw
        case rel => exact ⟨k + 1, by omega, by go_num, hb3, hJ4⟩
        case measure => simp [intOf]; omega
      · have HX3 := Lib.hid (⟨Ls.take (k + 1), List.take_prefix _ _, by rw [HTK.out]; exact hJx3⟩ : ∃ pre, pre <+: Ls ∧ Jx pre W3)
        clear hx hJx3
        gi_wp2
        refine bodyPost_ret (results_none rfl _ _ _) rfl ?_
        exact ⟨⟨_, rfl⟩, .inr HX3.out⟩
    · have hJ' : J Ls wr := by
        have h := hJ
        rwa [List.take_of_length_le (by rw [HL.out]; omega)] at h
      gi_wp2
      go_end0
      exact ⟨⟨_, rfl⟩, .inl (by first | exact hJ' | exact ⟨_, rfl, hJ'⟩)⟩
theorem ahead_stops (F : Fence) (n : Nat) (hf : F.fn 25) (hro : F.round = none) (hn : 1 ≤ n) (p : Nat) (a : Int) (Ls : List α) (hLs : Ls.map val = alls a) (w : World) (hP : w.cell? ⟨p, 0, none⟩ = some (.int .i64 a)) (ha : -9223372036854775808 ≤ a ∧ a ≤ 9223372036854775807) (hlt : p < w.heap.size) (n₀ : Nat) (hn₀ : p < n₀) :
    SeqStopsK F n Try.prog 25 #[.pointer (some ⟨p, 0, none⟩)] (fun x : α => #[Value.int .i64 ((val x : Nat) : Int)]) (Below n₀) (fun ys => ys = Ls) (fun pre => pre <+: Ls) Ls.length w := fun l J Jx W hW _ _ hY h0 =>
  ahead1_in val F n hf hro hn l p a Ls hLs J Jx (fun pre x W1 h1 h2 => by
    obtain ⟨fn, tmps, assign, body, hy, hR⟩ := hY pre x W1 h1 h2
    refine ⟨fn, tmps, assign, body, hy, hR.mono ?_⟩
    rintro e W' (⟨h3, h4, h5⟩ | h3)
    · exact .inl ⟨h3, h4, h5.block p hn₀⟩
    · exact .inr h3) W ((hW.cell (p := ⟨p, 0, none⟩) hlt).trans hP) h0 ha
set_option maxHeartbeats 2000000 in
theorem vplaces1_in (F : Fence) (n : Nat) (hf : F.fn 27) (hro : F.round = none) (hn : 1 ≤ n) (l f p q c g o k : Nat) (i : Int) (L : List α) (J Jx : List α → World → Prop)
    (hY : ∀ pre x W, J pre W → pre.length < L.length → YieldAt F (n - 1) Try.prog l #[.int .i64 ((val x : Nat) : Int)] W fun e W' =>
      (e = .returned (.bool true) ∧ J (pre ++ [x]) W' ∧ KpT p q c g W W') ∨ (e = .returned (.bool false) ∧ Jx (pre ++ [x]) W'))
    (W : World) (hP : Pls W f p q c g o k i (L.map val)) (h0 : J [] W) (hi : -9223372036854775808 ≤ i ∧ i ≤ 9223372036854775807) (hk : k ≤ 100000) :
    CallsIn F n Try.prog 27 #[.func (.yield l) #[] #[], .pointer (some ⟨f, 0, none⟩), .pointer (some ⟨p, 0, none⟩), .pointer (some ⟨q, 0, none⟩)] W fun e W' => (∃ v, e = .returned v) ∧
      ((∃ ys, ys = L ∧ J ys W') ∨ (∃ pre, pre <+: L ∧ Jx pre W')) := by
  obtain ⟨c1, c2, c3, hL⟩ := hP
  refine callsIn_of_wp Try.func27 rfl hf ?_ hro
  simp only [Try.ntmps27, List.size_toArray, List.length_cons, List.length_nil, Nat.reduceAdd, Nat.reduceSub, Array.replicate_succ, Array.replicate_zero, List.push_toArray, List.append_toArray, List.nil_append, List.cons_append]
  have C2 := Lib.hid c2
  have C3 := Lib.hid c3
  have HL := Lib.hid hL
  clear c2 c3 hL
  gi_wp2
  clear c1
  gi_loopw [5] (fun v wr => ∃ (pre rest : List α), v = .int .i64 (nh (rest.map val)) ∧ L = pre ++ rest ∧ KpT p q c g W wr ∧ J pre wr) (fun v wr => (intOf v + 1).toNat)
  case atStart => exact ⟨[], L, rfl, rfl, KpT.refl _ _ _ _ _, h0⟩
  case round =>
    obtain ⟨pre, rest, rfl, hx, hkp, hJ⟩ := hrel
    cases rest with
    | nil =>
      rw [show nh (List.map val []) = -1 from rfl]
      gi_wp2
      refine ⟨fun _ h => (by cases h), ?_⟩
      gi_wp2
      go_end0
      exact ⟨⟨_, rfl⟩, .inl ⟨pre, by simp [hx], hJ⟩⟩
    | cons x r =>
      have hl := HL.out
      rw [hx, List.map_append, List.map_cons] at hl
      obtain ⟨b1, b2, b3, b4, b5, _⟩ := hl.drop
      rw [show nh (List.map val (x :: r)) = ((val x : Nat) : Int) from rfl]
      obtain ⟨cv, d1, d2⟩ := C3.out (by rw [hx]; simp)
      have m2 := (cell_kpt (o := 0) hkp (.inl rfl)).trans C2.out
      obtain ⟨fn, tmps, assign, body, hy, hR⟩ := hY pre x wr hJ (by rw [hx]; simp)
      have HX := Lib.hid hx
      clear hx hl
      generalize val x = x' at *
      have e1 : ((x' : Int) != -1) = true := by simp <;> omega
      have e2 : ¬ (x' : Int) = -1 := by omega
      have B4 := Lib.hid b4
      have B5 := Lib.hid b5
      have D1 := Lib.hid d1
      have D2 := Lib.hid d2
      clear b4 b5 d1 d2
      gi_wp2
      refine hR.mono ?_
      rintro e W3 (⟨rfl, hJ3, hk3⟩ | ⟨rfl, hJx3⟩)
      · have hkk := hkp.trans hk3
        have m3 := (cell_kpt (o := 0) hkk (.inr (.inl rfl))).trans D1.out
        have m4 := (cell_kpt (o := 2) hkk (.inr (.inr (.inl rfl)))).trans D2.out
        have m5 := (cell_kpt (o := o + x') hkk (.inr (.inr (.inr rfl)))).trans B5.out
        clear hy hR
        gi_wp2
        go_roundw
        case rel => exact ⟨pre ++ [x], r, rfl, by rw [HX.out]; simp, hkk, hJ3⟩
        case measure =>
          have := B4.out
          cases r with
          | nil => simp [intOf, nh] <;> omega
          | cons y s => have := this (val y) (s.map val) rfl; simp [intOf, nh] <;> omega
      · gi_wp2
        go_end0
        exact ⟨⟨_, rfl⟩, .inr ⟨pre ++ [x], ⟨r, by rw [HX.out]; simp⟩, hJx3⟩⟩
/-- They are what Places' own function yields. -/
theorem vplaces_stops (F : Fence) (n : Nat) (hf : F.fn 27) (hro : F.round = none) (hn : 1 ≤ n) (f p q c g o k : Nat) (i : Int) (L : List α) (w : World) (hP : Pls w f p q c g o k i (L.map val)) (hi : -9223372036854775808 ≤ i ∧ i ≤ 9223372036854775807) (hk : k ≤ 100000)
    (n₀ : Nat) (hn₀ : ∀ b, PT p q c g b → b < n₀) (hlt : f < w.heap.size ∧ p < w.heap.size ∧ q < w.heap.size ∧ (L.map val ≠ [] → c < w.heap.size ∧ g < w.heap.size)) :
    SeqStopsK F n Try.prog 27 #[.pointer (some ⟨f, 0, none⟩), .pointer (some ⟨p, 0, none⟩), .pointer (some ⟨q, 0, none⟩)] (fun x : α => #[Value.int .i64 ((val x : Nat) : Int)]) (Below n₀) (fun ys => ys = L) (fun pre => pre <+: L) L.length w := fun l J Jx W hW _ _ hY h0 =>
  vplaces1_in val F n hf hro hn l f p q c g o k i L J Jx (fun pre x W1 h1 h2 => by
    obtain ⟨fn, tmps, assign, body, hy, hR⟩ := hY pre x W1 h1 h2
    refine ⟨fn, tmps, assign, body, hy, hR.mono ?_⟩
    rintro e W' (⟨h3, h4, h5⟩ | h3)
    · exact .inl ⟨h3, h4, fun b hb => h5.block b (hn₀ b hb)⟩
    · exact .inr h3) W
    ⟨(hW.cell (p := ⟨f, 0, none⟩) hlt.1).trans hP.1, (hW.cell (p := ⟨p, 0, none⟩) hlt.2.1).trans hP.2.1, fun h => by
      obtain ⟨cv, h1, h2⟩ := hP.2.2.1 h
      exact ⟨cv, (hW.cell (p := ⟨q, 0, none⟩) hlt.2.2.1).trans h1, (hW.cell (p := ⟨c, 2, none⟩) (hlt.2.2.2 h).1).trans h2⟩, by
      by_cases h : L.map val = []
      · rw [h]; trivial
      · exact Lnk.keep (hW.block g (hlt.2.2.2 h).2) hP.2.2.2⟩ h0 hi hk

end
end Go.Proofs.Ytgiemddiiognlaa.Cur

/- Lines and words: what a line is, what its words are, and the document's Line. -/
import Derived.Test.YtogfjejodoefeaaDoorWrdK
namespace Go.Proofs.YtogfjejodoefeaaDoor.Cur
open Go.RowKit Mem
set_option linter.unusedVariables false
set_option maxRecDepth 100000

/-- Is what lies from a place on part of a line? -/
def lnb (s : ByteArray) : Nat → Nat → Bool
  | 0, _ => true
  | n + 1, p => if bt s p < 32 ∨ 126 < bt s p then false else if bt s p = 32 ∧ (p = 0 ∨ p + 1 = s.size ∨ bt s (p - 1) = 32) then false else lnb s n (p + 1)
def isLine (s : ByteArray) : Bool := lnb s s.size 0
/-- The words up to the last. -/
def spl (s : ByteArray) : Nat → Nat → Nat → List ByteArray → List ByteArray × Nat
  | 0, _, f, acc => (acc, f)
  | n + 1, p, f, acc => if bt s p = 32 then spl s n (p + 1) (p + 1) (acc ++ [s.extract f p]) else spl s n (p + 1) f acc
def splend (s : ByteArray) (r : List ByteArray × Nat) : List ByteArray := if s.size = 0 then r.1 else r.1 ++ [s.extract r.2 s.size]
def wordsOf (s : ByteArray) : List ByteArray := splend s (spl s s.size 0 0 [])
/-- What the program does. -/
def psp (s T : ByteArray) : Nat → Nat → Nat → List ByteArray → Option (List ByteArray)
  | 0, _, _, acc => some acc
  | n + 1, p, f, acc => if bt T p = 32 ∧ f < p then psp s T n (p + 1) (p + 1) (acc ++ [s.extract f p]) else if bt T p ≤ 32 ∨ 126 < bt T p then none else psp s T n (p + 1) f acc

theorem psp_line (s T : ByteArray) (hT : ∀ i, i < s.size → bt T i = bt s i) (hE : bt T s.size = 32) : ∀ (n p f : Nat) (acc : List ByteArray), p + n = s.size → f ≤ p → (f = p ↔ (p = 0 ∨ bt s (p - 1) = 32)) → (n = 0 → f < p) →
    psp s T (n + 1) p f acc = if lnb s n p then some ((spl s n p f acc).1 ++ [s.extract (spl s n p f acc).2 s.size]) else none
  | 0, p, f, acc, hp, hf, hi, h0 => by
    have h1 := h0 rfl
    obtain rfl : p = s.size := by omega
    simp [psp, lnb, spl, hE, h1]
  | n + 1, p, f, acc, hp, hf, hi, h0 => by
    have hb := hT p (by omega)
    by_cases h32 : bt s p = 32
    · by_cases hfp : f < p
      · have h1 : ¬ (p = 0 ∨ bt s (p - 1) = 32) := fun e => by have := hi.2 e; omega
        by_cases hn : n = 0
        · subst hn
          have hps : p + 1 = s.size := by omega
          have hl : lnb s 1 p = false := by rw [lnb, if_neg (by omega), if_pos ⟨h32, .inr (.inl hps)⟩]
          have hq : psp s T 2 p f acc = none := by rw [psp, hb, if_pos ⟨h32, hfp⟩, psp, hps, hE, if_neg (fun e => absurd e.2 (by omega)), if_pos (.inl (by omega))]
          rw [hl, hq]
          rfl
        · have hl : lnb s (n + 1) p = lnb s n (p + 1) := by rw [lnb, if_neg (by omega), if_neg (fun e => e.2.elim (fun e => h1 (.inl e)) (fun e => e.elim (fun e => by omega) (fun e => h1 (.inr e))))]
          have hq : psp s T (n + 2) p f acc = psp s T (n + 1) (p + 1) (p + 1) (acc ++ [s.extract f p]) := by rw [psp, hb, if_pos ⟨h32, hfp⟩]
          have he : spl s (n + 1) p f acc = spl s n (p + 1) (p + 1) (acc ++ [s.extract f p]) := by rw [spl, if_pos h32]
          rw [hl, hq, he]
          exact psp_line s T hT hE n (p + 1) (p + 1) _ (by omega) (Nat.le_refl _) ⟨fun _ => .inr (by simpa using h32), fun _ => rfl⟩ (fun e => absurd e hn)
      · have h1 : p = 0 ∨ bt s (p - 1) = 32 := hi.1 (by omega)
        have hl : lnb s (n + 1) p = false := by rw [lnb, if_neg (by omega), if_pos ⟨h32, h1.elim .inl (fun e => .inr (.inr e))⟩]
        have hq : psp s T (n + 2) p f acc = none := by rw [psp, hb, if_neg (fun e => hfp e.2), if_pos (.inl (by omega))]
        rw [hl, hq]
        rfl
    · by_cases hr : bt s p < 32 ∨ 126 < bt s p
      · have hl : lnb s (n + 1) p = false := by rw [lnb, if_pos hr]
        have hq : psp s T (n + 2) p f acc = none := by rw [psp, hb, if_neg (fun e => h32 e.1), if_pos (by omega)]
        rw [hl, hq]
        rfl
      · have hl : lnb s (n + 1) p = lnb s n (p + 1) := by rw [lnb, if_neg hr, if_neg (fun e => h32 e.1)]
        have hq : psp s T (n + 2) p f acc = psp s T (n + 1) (p + 1) f acc := by rw [psp, hb, if_neg (fun e => h32 e.1), if_neg (by omega)]
        have he : spl s (n + 1) p f acc = spl s n (p + 1) f acc := by rw [spl, if_neg h32]
        rw [hl, hq, he]
        exact psp_line s T hT hE n (p + 1) f acc (by omega) (by omega) ⟨fun e => by omega, fun e => e.elim (fun e => by omega) (fun e => absurd (by simpa using e) h32)⟩ (fun _ => by omega)
/-- The program's answer is the document's. -/
theorem psp_all (s T : ByteArray) (hT : ∀ i, i < s.size → bt T i = bt s i) (hE : bt T s.size = 32) (h0 : s.size ≠ 0) : psp s T (s.size + 1) 0 0 [] = if isLine s then some (wordsOf s) else none := by
  rw [psp_line s T hT hE s.size 0 0 [] (by omega) (Nat.le_refl _) ⟨fun _ => .inl rfl, fun _ => rfl⟩ (fun e => absurd e h0)]
  unfold isLine wordsOf splend
  rw [if_neg h0]
/-- The words with blanks between are the text. -/
theorem spl_join (s : ByteArray) : ∀ (n p f : Nat) (acc : List ByteArray), p + n ≤ s.size → f ≤ p →
    Lib.join (((spl s n p f acc).1 ++ [s.extract (spl s n p f acc).2 s.size]).map (·.data.toList)) [32] = Lib.join ((acc ++ [s.extract f s.size]).map (·.data.toList)) [32]
  | 0, _, _, _, _, _ => rfl
  | n + 1, p, f, acc, hp, hf => by
    rw [spl]
    by_cases h : bt s p = 32
    · rw [if_pos h, spl_join s n (p + 1) (p + 1) _ (by omega) (Nat.le_refl _)]
      have hps : p < s.size := by omega
      have he : (s.extract f s.size).data.toList = (s.extract f p).data.toList ++ [32] ++ (s.extract (p + 1) s.size).data.toList := by
        have h32 : s.data.toList[p]'(by rw [blist_len]; exact hps) = (32 : UInt8) := by
          have := bt_list s.data.toList p (by rw [blist_len]; exact hps)
          have e2 : su s.data.toList = s := by unfold su; rfl
          rw [e2, h] at this
          exact (UInt8.toNat_inj.1 this.symm)
        have hA : (s.extract f s.size).data.toList = s.data.toList.drop f := by
          rw [ext_whole s f s.size (by omega) (Nat.le_refl _), List.take_of_length_le (by rw [List.length_drop, blist_len]; omega)]
        have hC : (s.extract (p + 1) s.size).data.toList = s.data.toList.drop (p + 1) := by
          rw [ext_whole s (p + 1) s.size (by omega) (Nat.le_refl _), List.take_of_length_le (by rw [List.length_drop, blist_len]; omega)]
        rw [hA, hC, ext_whole s f p hf (by omega)]
        have h4 : (s.data.toList.drop f).drop (p - f) = 32 :: s.data.toList.drop (p + 1) := by
          rw [List.drop_drop, show f + (p - f) = p by omega, List.drop_eq_getElem_cons (by rw [blist_len]; exact hps), h32]
        calc s.data.toList.drop f = (s.data.toList.drop f).take (p - f) ++ (s.data.toList.drop f).drop (p - f) := (List.take_append_drop _ _).symm
          _ = _ := by rw [h4, List.append_assoc]; rfl
      rw [List.map_append, List.map_append, List.map_append]
      unfold Lib.join
      by_cases ha : acc = []
      · subst ha
        simp only [List.map_cons, List.map_nil, List.nil_append, List.cons_append]
        generalize (s.extract f s.size).data.toList = L1 at *
        generalize (s.extract f p).data.toList = L2 at *
        generalize (s.extract (p + 1) s.size).data.toList = L3 at *
        subst he
        simp [List.intercalate, List.intersperse]
      · have hm : acc.map (·.data.toList) ≠ [] := by simpa using ha
        simp only [List.map_cons, List.map_nil]
        rw [inter_snoc _ _ _ (by simp), inter_snoc _ _ _ hm, inter_snoc _ _ _ hm, he]
        simp
    · rw [if_neg h, spl_join s n (p + 1) f _ (by omega) (by omega)]
where
  ext_whole (s : ByteArray) (f p : Nat) (hf : f ≤ p) (hp : p ≤ s.size) : (s.extract f p).data.toList = (s.data.toList.drop f).take (p - f) := by
    have h1 : (s.extract f p).data = s.data.extract f p := by simp [ByteArray.data_extract]
    rw [h1, Array.toList_extract]
theorem words_join (s : ByteArray) : Lib.join ((wordsOf s).map (·.data.toList)) [32] = s.data.toList := by
  unfold wordsOf splend
  by_cases h : s.size = 0
  · rw [if_pos h, h]
    have : s.data.toList = [] := List.eq_nil_of_length_eq_zero (by rw [blist_len, h])
    rw [this]
    simp [spl, Lib.join, List.intercalate]
  · rw [if_neg h, spl_join s s.size 0 0 [] (by omega) (Nat.le_refl _)]
    have : s.extract 0 s.size = s := by simp
    rw [List.nil_append, this]
    simp [Lib.join, List.intercalate]

set_option maxHeartbeats 4000000 in
theorem line_any (s : ByteArray) (hs : s.size ≤ 100000) (w : World) : Calls Tryd.prog 12 #[.string s] w fun e w' => e = .returned (.bool (isLine s)) ∧ w' = w := by
  have hX : Hid (∀ p, p < s.size → ∀ w, (Instr.index 9 (.string s) (.int .i64 (p : Int))).run Tryd.prog w = .ok (.int .u8 (bt s p : Int)) w) := Lib.hid (fun p hp w => by
    rw [run_index_string _ _ _ _ _ Tryd.underlying9, dif_pos ⟨by omega, by omega⟩, ← bt_at hp]
    rfl)
  go_enter Tryd.func12, Tryd.ntmps12
  go_wp2
  go_loopw [3] (fun v3 wr => wr = w ∧ ∃ (p n : Nat), v3 = .int .i64 p ∧ p + n = s.size ∧ Hid (lnb s n p = isLine s)) (fun v3 _ => s.size - (intOf v3).toNat)
  case atStart => exact ⟨rfl, 0, s.size, rfl, by omega, Lib.hid rfl⟩
  case round =>
    obtain ⟨rfl, p, n, rfl, hpn, HL⟩ := hrel
    by_cases hp : p < s.size
    · obtain ⟨n, rfl⟩ : ∃ m, n = m + 1 := ⟨n - 1, by omega⟩
      have hx := hX.out p hp
      by_cases hr : bt s p < 32 ∨ 126 < bt s p
      · have HE : Hid (isLine s = false) := Lib.hid (by rw [← HL.out, lnb, if_pos hr])
        clear HL
        by_cases hr1 : bt s p < 32
        · have r1 : (bt s p : Int) < 32 := by omega
          generalize bt s p = c at *
          go_wp2
          go_ret
          exact ⟨by rw [HE.out]; rfl, rfl⟩
        · have r1 : ¬ (bt s p : Int) < 32 := by omega
          have r2 : 126 < (bt s p : Int) := by omega
          generalize bt s p = c at *
          go_wp2
          go_ret
          exact ⟨by rw [HE.out]; rfl, rfl⟩
      · have r1 : ¬ (bt s p : Int) < 32 := by omega
        have r2 : ¬ 126 < (bt s p : Int) := by omega
        by_cases h32 : bt s p = 32
        · by_cases hb : p = 0 ∨ p + 1 = s.size ∨ bt s (p - 1) = 32
          · have HE : Hid (isLine s = false) := Lib.hid (by rw [← HL.out, lnb, if_neg hr, if_pos ⟨h32, hb⟩])
            clear HL
            by_cases hp0 : p = 0
            · have r3 : ((p : Int) == 0) = true := by simp; omega
              rw [h32] at hx
              clear hr hb r1 r2 h32 hp0
              go_wp2
              go_ret
              exact ⟨by rw [HE.out]; rfl, rfl⟩
            · have r3 : ((p : Int) == 0) = false := by simp; omega
              rw [h32] at hx
              clear r1 r2
              by_cases hp1 : p + 1 = s.size
              · have r4 : ((p : Int) == (s.size : Int) - 1) = true := by simp; omega
                clear hr hb h32
                go_wp2
                go_ret
                exact ⟨by rw [HE.out]; rfl, rfl⟩
              · have r4 : ((p : Int) == (s.size : Int) - 1) = false := by simp; omega
                have h5 : bt s (p - 1) = 32 := hb.elim (fun e => absurd e hp0) (fun e => e.elim (fun e => absurd e hp1) id)
                have hx2 := hX.out (p - 1) (by omega)
                rw [h5, show ((p - 1 : Nat) : Int) = (p : Int) - 1 by omega] at hx2
                clear hr hb h32 h5
                go_wp2
                go_ret
                exact ⟨by rw [HE.out]; rfl, rfl⟩
          · have HN : Hid (lnb s n (p + 1) = isLine s) := Lib.hid (by rw [← HL.out, lnb, if_neg hr, if_neg (fun e => hb e.2)])
            have r3 : ((p : Int) == 0) = false := by simp; omega
            have r4 : ((p : Int) == (s.size : Int) - 1) = false := by simp; omega
            have hx2 := hX.out (p - 1) (by omega)
            have r5 : ((bt s (p - 1) : Int) == 32) = false := by simp; omega
            rw [show ((p - 1 : Nat) : Int) = (p : Int) - 1 by omega] at hx2
            rw [h32] at hx
            clear hr hb h32 r1 r2 HL
            generalize bt s (p - 1) = c at *
            go_wp2
            go_roundw
            case rel => exact ⟨by first | rfl | trivial, p + 1, n, by go_num, by omega, HN⟩
            case measure => simp [intOf]; omega
        · have HN : Hid (lnb s n (p + 1) = isLine s) := Lib.hid (by rw [← HL.out, lnb, if_neg hr, if_neg (fun e => h32 e.1)])
          have r3 : ((bt s p : Int) == 32) = false := by simp; omega
          clear hr h32 HL
          generalize bt s p = c at *
          go_wp2
          go_roundw
          case rel => exact ⟨by first | rfl | trivial, p + 1, n, by go_num, by omega, HN⟩
          case measure => simp [intOf]; omega
    · obtain rfl : n = 0 := by omega
      have HE : Hid (isLine s = true) := Lib.hid (by rw [← HL.out, lnb])
      clear HL
      go_wp2
      go_ret
      exact ⟨by rw [HE.out]; rfl, rfl⟩
end Go.Proofs.YtogfjejodoefeaaDoor.Cur

/- Numbers read, at most so great: ReadInt, whatever the text. -/
import Derived.Test.YtogfjejodoefeaaDoorWrdE
namespace Go.Proofs.YtogfjejodoefeaaDoor.Cur
open Go.RowKit Mem
set_option linter.unusedVariables false
set_option maxRecDepth 100000

/-- What ReadInt answers. -/
def rniv (s : ByteArray) (m : Int) : Value := if su (Lib.decDigits (rnx s s.size 0 0).toNat) = s ∧ 0 ≤ m ∧ rnx s s.size 0 0 ≤ m then .tuple #[.int .i64 (rnx s s.size 0 0), .bool true] else .tuple #[.int .i64 0, .bool false]

set_option maxHeartbeats 4000000 in
theorem readint_any (s : ByteArray) (m : Int) (hm0 : -9223372036854775808 ≤ m) (hm1 : m < 9223372036854775808) (w : World) (hT : Tbs w) : Calls Tryd.prog 24 #[.string s, .int .i64 m] w fun e w' => e = .returned (rniv s m) ∧ Below w.heap.size w w' := by
  have HT := Lib.hid hT
  clear hT
  obtain ⟨hx0, hx1⟩ := rnx_bd s s.size 0 0 (by omega) (by omega)
  have HC := Lib.hid (readnum_any s w HT.out)
  have HR : Hid (rniv s m = if su (Lib.decDigits (rnx s s.size 0 0).toNat) = s ∧ 0 ≤ m ∧ rnx s s.size 0 0 ≤ m then .tuple #[.int .i64 (rnx s s.size 0 0), .bool true] else .tuple #[.int .i64 0, .bool false]) := Lib.hid rfl
  have HV : Hid (rnv s = if su (Lib.decDigits (rnx s s.size 0 0).toNat) = s then .tuple #[.int .u64 (rnx s s.size 0 0), .bool true] else .tuple #[.int .u64 0, .bool false]) := Lib.hid rfl
  have HX := Lib.hid (And.intro hx0 hx1)
  have HM := Lib.hid (And.intro hm0 hm1)
  clear hx0 hx1 hm0 hm1
  generalize rnx s s.size 0 0 = x at *
  generalize rniv s m = R at *
  generalize rnv s = V at *
  by_cases hd : su (Lib.decDigits x.toNat) = s
  · rw [if_pos hd] at HV
    have hV := HV.out
    subst hV
    by_cases hm : m < 0
    · rw [if_neg (by omega)] at HR
      have hR := HR.out
      subst hR
      clear hd HR
      go_enter Tryd.func24, Tryd.ntmps24
      go_wp2_with fail
      with_reducible refine HC.out.mono ?_
      rintro e w2 ⟨rfl, hb2⟩
      have HB2 := Lib.hid hb2
      clear hb2
      go_wp2
      go_ret2
      exact ⟨rfl, HB2.out⟩
    · have e0 : IntKind.u64.wrap m = m := by rw [IntKind.wrap_u64]; have := HM.out; omega
      by_cases hl : m < x
      · rw [if_neg (by omega)] at HR
        have hR := HR.out
        subst hR
        clear hd HR
        go_enter Tryd.func24, Tryd.ntmps24
        go_wp2_with fail
        with_reducible refine HC.out.mono ?_
        rintro e w2 ⟨rfl, hb2⟩
        have HB2 := Lib.hid hb2
        clear hb2
        go_wp2
        go_ret2
        exact ⟨rfl, HB2.out⟩
      · rw [if_pos ⟨hd, by omega, by omega⟩] at HR
        have hR := HR.out
        subst hR
        have e1 : IntKind.i64.wrap x = x := by rw [IntKind.wrap_i64]; have := HM.out; have := HX.out; omega
        clear hd HR
        go_enter Tryd.func24, Tryd.ntmps24
        go_wp2_with fail
        with_reducible refine HC.out.mono ?_
        rintro e w2 ⟨rfl, hb2⟩
        have HB2 := Lib.hid hb2
        clear hb2
        go_wp2
        go_ret2
        exact ⟨rfl, HB2.out⟩
  · rw [if_neg hd] at HV
    have hV := HV.out
    subst hV
    rw [if_neg (fun h => hd h.1)] at HR
    have hR := HR.out
    subst hR
    clear hd HR
    go_enter Tryd.func24, Tryd.ntmps24
    go_wp2_with fail
    with_reducible refine HC.out.mono ?_
    rintro e w2 ⟨rfl, hb2⟩
    have HB2 := Lib.hid hb2
    clear hb2
    go_wp2
    go_ret2
    exact ⟨rfl, HB2.out⟩
end Go.Proofs.YtogfjejodoefeaaDoor.Cur

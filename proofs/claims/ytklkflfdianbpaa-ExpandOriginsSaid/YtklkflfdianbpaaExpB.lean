/- A copy's bytes, one by one (again); tokens expanded (build), for bytes. -/
import Derived.Test.YtklkflfdianbpaaExpA
namespace Go.Proofs.Ytklkflfdianbpaa.Cur
open Go.RowKit Mem
set_option linter.unusedVariables false

theorem same_byte (x : Int) (w : World) : Calls Try.prog 24 #[.int .u8 x] w fun e w' => e = .returned (.int .u8 x) ∧ w = w' := by
  go_enter Try.func24, Try.ntmps24
  go_wp2
  go_ret
  exact ⟨rfl, rfl⟩

def AgPost (B : Nat) (z : List Int) (w : World) (e : Ending) (w' : World) : Prop := ∃ v', e = .returned v' ∧ Own w' B v' z ∧ Below B w w'

set_option maxRecDepth 100000 in
set_option maxHeartbeats 2000000 in
theorem again_byte (B : Nat) (v : Value) (z : List Int) (o : Int) (l : Nat) (w : World) (hv : Own w B v z) (hB : B ≤ w.heap.size) (hl : z.length + l ≤ 900000) (ho : 0 < l → 1 ≤ o ∧ o ≤ z.length) :
    Calls Try.prog 49 #[v, .int .i64 o, .int .i64 l, .func (.func 24) #[] #[]] w (AgPost B (agn 0 id z o l) w) := by
  go_enter Try.func49, Try.ntmps49
  go_wp2
  go_loopw [0, 10] (fun u i wr => ∃ k : Nat, k ≤ l ∧ i = .int .i64 k ∧ Own wr B u (agn 0 id z o k) ∧ Below B w wr) (fun _ i _ => l - (intOf i).toNat)
  case atStart => exact ⟨0, by omega, rfl, hv, Below.refl _ _⟩
  case round =>
    obtain ⟨k, hk, rfl, hu, hb⟩ := hrel
    by_cases hlt : k < l
    · obtain ⟨A, c, rfl, hbs, hnil, hle⟩ := hu.parts
      have hlen : (agn 0 id z o k).length = z.length + k := agn_length _ _ _ _ _
      obtain ⟨o1, o2⟩ := ho (by omega)
      obtain ⟨j, hj⟩ : ∃ j : Nat, ((z.length + k : Nat) : Int) - o = j := ⟨((z.length + k : Nat) - o).toNat, by omega⟩
      have hjl : j < (agn 0 id z o k).length := by omega
      obtain ⟨g, oo, rfl, hc⟩ := hbs.at_ hjl
      have HN : Hid (agn 0 id z o (k + 1) = agn 0 id z o k ++ [(agn 0 id z o k).getD j 0]) := Lib.hid (by rw [agn, hj, Int.toNat_natCast]; rfl)
      have e1 : IntKind.i64.wrap (((agn 0 id z o k).length : Int) - o) = j := by rw [hlen, hj]; exact IntWalk.i64_in _ (by omega)
      have hyl : (agn 0 id z o k).length ≤ 900000 := by omega
      have HLEN : Hid ((agn 0 id z o k).length + 1 ≤ 1000000) := Lib.hid (by omega)
      clear hlen hj
      generalize agn 0 id z o k = y at *
      generalize y.getD j 0 = x at *
      go_wp2_with fail
      refine (same_byte _ _).mono ?_
      rintro e w1 ⟨rfl, rfl⟩
      have hbA := below_one wr (.cells #[.int .u8 x] 5)
      have hoA := hu.below hbA
      have hbdA := hb.alloc (Nat.le_trans hB hb.size) (.cells #[.int .u8 x] 5)
      have hsA : Bs (wr.alloc (.cells #[.int .u8 x] 5)) (some ⟨wr.heap.size, 0, none⟩) 1 [x] := bs_new wr [x] 5
      have hB9 : B ≤ (wr.alloc (.cells #[.int .u8 x] 5)).heap.size := by have := hb.size; simp; omega
      have hgeA := own_ge hoA
      clear hu hb hc hbs hbA
      go_wp2_with (at_builtin; go_must (refine list_append_bs rfl (.tmp 12) (.tmp 22) rfl B _ y rfl hoA _ 1 _ [x] rfl hsA (by simp) HLEN.out hB9 ?_; intro v' w10 ho' hg'; have hbd10 := hbdA.grown hg' (by have := hB9; omega) (fun k hk => hgeA k hk); clear hoA hbdA hgeA hg' hsA))
      go_roundw
      case rel => exact ⟨k + 1, hlt, by go_num, by rw [HN.out]; exact ho', hbd10⟩
      case measure => simp [intOf]; omega
    · obtain rfl : k = l := by omega
      go_wp2
      go_ret
      exact ⟨_, rfl, hu, hb⟩
end Go.Proofs.Ytklkflfdianbpaa.Cur

/- Deep; rows of pairs, and a copy's pairs (again). -/
import Derived.Test.YtklkflfdianbpaaExpQ
namespace Go.Proofs.Ytklkflfdianbpaa.Cur
open Go.RowKit Mem
set_option linter.unusedVariables false

/-- The depths of what tokens make. -/
abbrev xpd (T : List Tk) (bound : Int) (k : Nat) : List Int × Int × Int := xp (zro T) 0 (· + 1) T bound k
set_option maxHeartbeats 1000000 in
theorem edeep_any (A : Option Addr) (n m : Nat) (T : List Tk) (w : World) (hT : TksL w A n T) (hok : ∀ t ∈ T, tkok t) (hn : n ≤ 100000) :
    Calls Try.prog 19 #[.slice A n m] w fun e w' => ∃ v, e = .returned (.tuple #[v, .bool ((xpd T 1048576 n).2.1 == 0)]) ∧ OwnI w' w.heap.size v (xpd T 1048576 n).1 ∧ Below w.heap.size w w' := by
  unfold xpd
  have hX := Blk.new w #[.slice A n m] 22
  have hb2 := below_one w (.cells #[.slice A n m] 22)
  have x0 := hX.c1
  have hT2 := hT.below hb2
  have hbld := build_int A n m _ T 1048576 _ hT2 hX hok hn (by omega)
  generalize xp (zro T) 0 (· + 1) T 1048576 n = g at *
  go_enter Try.func19, Try.ntmps19
  go_wp2_with fail
  refine hbld.mono ?_
  rintro e w1 ⟨v, rfl, ho, hb1⟩
  have hbd := hb2.trans (hb1.mono hb2.size)
  have hsz : w.heap.size + 1 ≤ (w.alloc (.cells #[.slice A n m] 22)).heap.size := by simp
  replace ho : OwnI _ (w.heap.size + 1) _ _ := own_base ho (fun g hg => by have := own_gej ho g hg; omega)
  obtain ⟨Av, cv, rfl⟩ := ho.slice
  have hbF := below_one w1 (.cells #[.int .i64 g.2.1, .int .i64 g.2.2] 28)
  have hbd2 := Lib.hid (hbd.trans (hbF.mono hbd.size))
  have ho2 : Hid (OwnI _ (w.heap.size + 1) _ _) := Lib.hid (own_below ho hbF)
  clear hX hT hT2 hb2 hb1 hbd hbF ho
  go_wp2_with fail
  refine (fgood_any _ _ _).mono ?_
  rintro e w3 ⟨rfl, hb3⟩
  have H1 := Lib.hid (hbd2.out.trans (hb3.mono hbd2.out.size))
  have H2 := Lib.hid (own_below ho2.out hb3)
  clear hb3
  go_wp2
  go_ret2
  exact ⟨_, rfl, own_base H2.out (fun g hg => by have := own_gej H2.out g hg; omega), H1.out⟩

/-! ### Pairs -/
def pv : List (Int × Int) → List Value
  | [] => []
  | p :: l => .int .i64 p.1 :: .int .i64 p.2 :: pv l
theorem pv_len : ∀ l, (pv l).length = l.length * 2
  | [] => rfl
  | p :: l => by simp [pv, pv_len l]; omega
theorem pv_append : ∀ a b, pv (a ++ b) = pv a ++ pv b
  | [], b => rfl
  | p :: a, b => by simp [pv, pv_append a b]
theorem pv_get : ∀ (l : List (Int × Int)) (j : Nat), j < l.length → (pv l)[j * 2]? = some (.int .i64 (l.getD j (0, 0)).1) ∧ (pv l)[j * 2 + 1]? = some (.int .i64 (l.getD j (0, 0)).2)
  | [], j, h => absurd h (by simp)
  | p :: l, 0, h => by simp [pv]
  | p :: l, j + 1, h => by
    have := pv_get l j (by simpa using h)
    rw [show (j + 1) * 2 = j * 2 + 1 + 1 by omega]
    simp only [pv, List.getElem?_cons_succ, List.getD_cons_succ]
    exact this
theorem pv_one (l : List (Int × Int)) : ∀ u ∈ pv l, u.oneCell' = true := by
  induction l with
  | nil => intro u h; cases h
  | cons p l ih =>
    intro u h
    simp only [pv, List.mem_cons] at h
    rcases h with rfl | rfl | h
    · rfl
    · rfl
    · exact ih u h
def OwnP (w : World) (B : Nat) (v : Value) (l : List (Int × Int)) : Prop := w.ownsRow B 47 2 v l.length (pv l)
theorem OwnP.nil (w : World) (B : Nat) : OwnP w B (.slice none 0 0) [] := World.ownsRow_nil w B 47 2
theorem OwnP.slice {w : World} {B : Nat} {v : Value} {l : List (Int × Int)} (h : OwnP w B v l) : ∃ A c, v = .slice A l.length c := by
  obtain ⟨A, c, e, _⟩ := own_slice h
  exact ⟨A, c, e⟩
theorem OwnP.far {w : World} {B : Nat} {v : Value} {z : List (Int × Int)} (h : OwnP w B v z) {p : Addr} (hp : p.block < B) (u : Value) : OwnP (w.setCell p u) B v z :=
  own_block h fun k hk => Below.heap_setCell w p u k (by have := own_gej h k hk; omega)

theorem same_2int (a b : Int) (w : World) : Calls Try.prog 43 #[.agg #[.int .i64 a, .int .i64 b]] w fun e w' => e = .returned (.agg #[.int .i64 a, .int .i64 b]) ∧ Below w.heap.size w w' := by
  have hX := (Blk.new w #[.int .i64 a, .int .i64 b] 47).alloc (.cells #[.int .i64 0, .int .i64 0] 47)
  have hF := Blk.new (w.alloc (.cells #[.int .i64 a, .int .i64 b] 47)) #[.int .i64 0, .int .i64 0] 47
  rw [show (w.alloc (.cells #[.int .i64 a, .int .i64 b] 47)).heap.size = w.heap.size + 1 by simp] at hF
  have hb2 := below_two w (.cells #[.int .i64 a, .int .i64 b] 47) (.cells #[.int .i64 0, .int .i64 0] 47)
  obtain ⟨x0, x1⟩ := hX.c2
  obtain ⟨f0, f1⟩ := hF.c2
  obtain ⟨g0, g1⟩ := hF.f2
  clear hX hF
  go_enter Try.func43, Try.ntmps43
  go_wp2
  refine bodyPost_ret (v := .agg #[.int .i64 a, .int .i64 b]) (by simp [results, Try.results43, go_sem]) rfl ⟨rfl, below_two w _ _⟩

def AgPPost (B : Nat) (z : List (Int × Int)) (w : World) (e : Ending) (w' : World) : Prop := ∃ v', e = .returned v' ∧ OwnP w' B v' z ∧ Below B w w'
set_option maxRecDepth 100000 in
set_option maxHeartbeats 2000000 in
theorem again_2int (B : Nat) (v : Value) (z : List (Int × Int)) (o : Int) (l : Nat) (w : World) (hv : OwnP w B v z) (hB : B ≤ w.heap.size) (hl : z.length + l ≤ 1048576) (ho : 0 < l → 1 ≤ o ∧ o ≤ z.length) :
    Calls Try.prog 61 #[v, .int .i64 o, .int .i64 l, .func (.func 43) #[] #[]] w (AgPPost B (agn (0, 0) id z o l) w) := by
  go_enter Try.func61, Try.ntmps61
  go_wp2
  go_loopw [0, 10] (fun u i wr => ∃ k : Nat, k ≤ l ∧ i = .int .i64 k ∧ OwnP wr B u (agn (0, 0) id z o k) ∧ Below B w wr) (fun _ i _ => l - (intOf i).toNat)
  case atStart => exact ⟨0, by omega, rfl, hv, Below.refl _ _⟩
  case round =>
    obtain ⟨k, hk, rfl, hu, hb⟩ := hrel
    by_cases hlt : k < l
    · obtain ⟨A, c, rfl⟩ := hu.slice
      have hlen : (agn (0, 0) id z o k).length = z.length + k := agn_length _ _ _ _ _
      obtain ⟨o1, o2⟩ := ho (by omega)
      obtain ⟨j, hj⟩ : ∃ j : Nat, ((z.length + k : Nat) : Int) - o = j := ⟨((z.length + k : Nat) - o).toNat, by omega⟩
      have hjl : j < (agn (0, 0) id z o k).length := by omega
      have hrw := (own_rw hu rfl).2.2.2
      obtain ⟨p0, p1⟩ := pv_get _ _ hjl
      obtain ⟨g, oo, rfl, hc⟩ := hrw (by rw [pv_len]; omega)
      have c0 := hc _ _ p0
      have c1 := hc _ _ p1
      rw [← Nat.add_assoc] at c1
      have HN : Hid (agn (0, 0) id z o (k + 1) = agn (0, 0) id z o k ++ [(agn (0, 0) id z o k).getD j (0, 0)]) := Lib.hid (by rw [agn, hj, Int.toNat_natCast]; rfl)
      have e1 : IntKind.i64.wrap (((agn (0, 0) id z o k).length : Int) - o) = j := by rw [hlen, hj]; exact IntWalk.i64_in _ (by omega)
      have hyl : (agn (0, 0) id z o k).length ≤ 1048576 := by omega
      have HLEN : Hid ((agn (0, 0) id z o k).length + 1 ≤ 4000000) := Lib.hid (by omega)
      clear hlen hj hrw hc p0 p1
      generalize agn (0, 0) id z o k = y at *
      generalize y.getD j (0, 0) = x at *
      obtain ⟨a, b⟩ := x
      dsimp only at c0 c1
      go_wp2_with fail
      refine (same_2int a b _).mono ?_
      rintro e w1 ⟨rfl, hb1⟩
      have hb' := hb.trans (hb1.mono (Nat.le_trans hB hb.size))
      have hu' : OwnP w1 B _ y := own_below hu hb1
      have hbA := below_one w1 (.cells #[.int .i64 a, .int .i64 b] 47)
      have hoA : OwnP _ B _ y := own_below hu' hbA
      have hbdA := hb'.alloc (Nat.le_trans hB hb'.size) (.cells #[.int .i64 a, .int .i64 b] 47)
      have hsA := rw_newj w1 [.int .i64 a, .int .i64 b] 47
      have hB9 : B ≤ (w1.alloc (.cells #[.int .i64 a, .int .i64 b] 47)).heap.size := by have := hb'.size; simp; omega
      have hgeA := own_gej hoA
      clear hu hb hu' hb' hb1 hbA c0 c1
      go_wp2_with (at_builtin; go_must (refine list_append_rl kindP rfl (.tmp 12) (.tmp 22) rfl B _ _ _ rfl hoA _ 1 _ [.int .i64 a, .int .i64 b] rfl rfl hsA (by simp) (by simp [Value.oneCell']) HLEN.out (by omega) hB9 ?_; intro v' w10 ho' hg' hgr'; have hbd10 := hbdA.grown hg' (by have := hB9; omega) (fun k hk => hgeA k hk); have H9 : Hid (OwnP w10 B v' (y ++ [(a, b)])) := Lib.hid (by unfold OwnP; rw [List.length_append, pv_append]; exact ho'); clear hoA hbdA hgeA hg' hgr' hsA ho'))
      go_roundw
      case rel => exact ⟨k + 1, hlt, by go_num, by rw [HN.out]; exact H9.out, hbd10⟩
      case measure => simp [intOf]; omega
    · obtain rfl : k = l := by omega
      go_wp2
      go_ret
      exact ⟨_, rfl, hu, hb⟩
end Go.Proofs.Ytklkflfdianbpaa.Cur

/- Rows of numbers and of pairs, longer than a million: appended to; the steps of Deep. -/
import Derived.Test.YtklkflfdianbpaaExpC
namespace Go.Proofs.Ytklkflfdianbpaa.Cur
open Go.RowKit Mem
set_option linter.unusedVariables false

/-- Appending to a row of the call's own, up to four million elements. -/
theorem run_append_rl {sl e : TypeId} {zv : Value} {size bytes : Nat} (E : Kind sl e zv size bytes) (w : World) (ty : TypeId) (B : Nat) (v : Value) (n : Nat) (xs : List Value) (hown : w.ownsRow B e size v n xs)
    (A : Option Addr) (m c : Nat) (news : List Value) (hl : news.length = m * size) (hr : Rw w A news) (hc : A = none → c = 0) (h1 : ∀ u ∈ news, u.oneCell' = true)
    (hsz : n + m ≤ 4000000) (hby : bytes ≤ 1000000) (hB : B ≤ w.heap.size) :
    ∃ v' w', (Builtin.append_ #[sl, sl] ty #[v, .slice A m c]).run Try.prog w = .ok v' w' ∧ w'.ownsRow B e size v' (n + m) (xs ++ news) ∧ w.grownBy w' v.ownBlock ∧ Gr v.ownBlock v'.ownBlock w := by
  obtain ⟨i0, hi, hz0, hz1, hz2⟩ := info_parts E.info
  have hbb : (n + m) * bytes ≤ 140737488355328 := Nat.le_trans (Nat.mul_le_mul hsz hby) (by omega)
  rcases A with _ | ad
  · have hm : m = 0 := by
      rcases Nat.eq_zero_or_pos m with h0 | h0
      · exact h0
      · obtain ⟨_, _, e, _⟩ := hr (by rw [hl]; exact Nat.mul_pos h0 E.pos)
        cases e
    subst hm
    obtain rfl := hc rfl
    have hn : news = [] := List.eq_nil_of_length_eq_zero (by rw [hl]; omega)
    subst hn
    exact ⟨v, w, run_append_owned_none (P := Try.prog) (w := w) B sl ty e i0 size E.und hi v _ _ hown, by simpa using hown, ⟨rfl, rfl, rfl, Nat.le_refl _, fun _ _ _ => rfl⟩, .inl rfl⟩
  · obtain ⟨v', w', hrun, h2, h3, _, h4⟩ := run_append_own_at (P := Try.prog) w B sl ty e i0 zv size bytes E.und hi hz0 hz1 hz2 E.zs E.pos v n xs hown ad m c news
      hl hr.news h1 (by simp only [maxLen]; omega) hbb hB
    exact ⟨v', w', hrun, h2, h3, h4.imp_right fun h => ⟨_, h, Nat.le_refl _⟩⟩
theorem list_append_rl {sl e : TypeId} {zv : Value} {size bytes : Nat} (E : Kind sl e zv size bytes) {w : World} {ops : Array Oper} {rest : List Oper} {o : Oper} {a : Act} {Q : Exit → Act → World → Prop} (hgd : o.guard = none) (s x : Operand)
    (ho : o.op = .call { callee := .builtin .append, args := #[s, x], argTypes := #[sl, sl] })
    (B : Nat) (v : Value) (n : Nat) (xs : List Value) (hs : a.eval s = v) (hown : w.ownsRow B e size v n xs) (A : Option Addr) (m c : Nat) (news : List Value) (hx : a.eval x = .slice A m c) (hl : news.length = m * size) (hr : Rw w A news) (hc : A = none → c = 0) (h1 : ∀ u ∈ news, u.oneCell' = true)
    (hsz : n + m ≤ 4000000) (hby : bytes ≤ 1000000) (hB : B ≤ w.heap.size)
    (h : ∀ v' w', w'.ownsRow B e size v' (n + m) (xs ++ news) → w.grownBy w' v.ownBlock → Gr v.ownBlock v'.ownBlock w → wpList Try.prog ops Q rest (a.put o.dst v') w') : wpList Try.prog ops Q (o :: rest) a w :=
  wpList_plain hgd fun _ hK => by
    obtain ⟨v', w', hrun, h2, h3, h4⟩ := run_append_rl E w o.type B v n xs hown A m c news hl hr hc h1 hsz hby hB
    unfold Oper.wp
    simp [execOp, ho, resolve, invoke, builtin, hs, hx, hrun, Result.andThen]
    exact hK _ _ (h v' w' h2 h3 h4)

theorem kindJ : Kind 44 3 (.int .i64 0) 1 8 := ⟨Try.underlying44, by kernel_rfl, rfl, by decide⟩
theorem kindP : Kind 41 47 (.agg #[.int .i64 0, .int .i64 0]) 2 16 := ⟨Try.underlying41, by kernel_rfl, rfl, by decide⟩
abbrev iv (l : List Int) : List Value := l.map (Value.int .i64)
def OwnI (w : World) (B : Nat) (v : Value) (l : List Int) : Prop := w.ownsRow B 3 1 v l.length (iv l)
theorem OwnI.nil (w : World) (B : Nat) : OwnI w B (.slice none 0 0) [] := World.ownsRow_nil w B 3 1
theorem OwnI.slice {w : World} {B : Nat} {v : Value} {l : List Int} (h : OwnI w B v l) : ∃ A c, v = .slice A l.length c := by
  obtain ⟨A, c, e, _⟩ := own_slice h
  exact ⟨A, c, e⟩
theorem rw_newj (w : World) (xs : List Value) (t : Nat) : Rw (w.alloc (.cells xs.toArray t)) (some ⟨w.heap.size, 0, none⟩) xs := fun _ =>
  ⟨_, _, rfl, fun i v hi => by
    rw [Nat.zero_add]
    exact (Blk.new w xs.toArray t).cell i (by simpa using hi)⟩
theorem own_gej {w : World} {B e size n : Nat} {v : Value} {xs : List Value} (h : w.ownsRow B e size v n xs) : ∀ g, v.ownBlock = some g → B ≤ g := fun g hg => (World.ownsRow.lt h g hg).1

theorem deeper (x : Int) (h0 : 0 ≤ x) (h1 : x ≤ 4000000) (w : World) : Calls Try.prog 45 #[.int .i64 x] w fun e w' => e = .returned (.int .i64 (x + 1)) ∧ w = w' := by
  go_enter Try.func45, Try.ntmps45
  go_wp2
  go_ret
  exact ⟨rfl, rfl⟩

def dp : List Int → Int → Nat → List Int := agn 0 (· + 1)
theorem dp_bd {z : List Int} {o : Int} {b : Int} (hz : ∀ x ∈ z, 0 ≤ x ∧ x ≤ b) (hb : 0 ≤ b) : ∀ l, ∀ x ∈ dp z o l, 0 ≤ x ∧ x ≤ b + l
  | 0, x, hx => by
    have := hz x hx
    omega
  | l + 1, x, hx => by
    unfold dp at hx
    rw [agn] at hx
    rcases List.mem_append.1 hx with h | h
    · have := dp_bd hz hb l x h
      omega
    · rw [List.mem_singleton] at h
      subst h
      have hd : ∀ k, 0 ≤ (dp z o l).getD k 0 ∧ (dp z o l).getD k 0 ≤ b + l := fun k => by
        rw [List.getD_eq_getElem?_getD]
        by_cases hk : k < (dp z o l).length
        · rw [List.getElem?_eq_getElem hk]
          exact dp_bd hz hb l _ (List.getElem_mem hk)
        · rw [List.getElem?_eq_none (by omega)]
          exact ⟨by simp, by simp; omega⟩
      have := hd ((((z.length + l : Nat) : Int) - o).toNat)
      unfold dp at this
      constructor <;> omega

def AgIPost (B : Nat) (z : List Int) (w : World) (e : Ending) (w' : World) : Prop := ∃ v', e = .returned v' ∧ OwnI w' B v' z ∧ Below B w w'
set_option maxRecDepth 100000 in
set_option maxHeartbeats 2000000 in
theorem again_int (B : Nat) (v : Value) (z : List Int) (o : Int) (l : Nat) (w : World) (hv : OwnI w B v z) (hB : B ≤ w.heap.size) (hl : z.length + l ≤ 1048576) (ho : 0 < l → 1 ≤ o ∧ o ≤ z.length) (hz : ∀ x ∈ z, 0 ≤ x ∧ x ≤ 2000000) :
    Calls Try.prog 62 #[v, .int .i64 o, .int .i64 l, .func (.func 45) #[] #[]] w (AgIPost B (dp z o l) w) := by
  have HZ := Lib.hid (fun k => dp_bd (o := o) hz (by omega) k)
  clear hz
  go_enter Try.func62, Try.ntmps62
  go_wp2
  go_loopw [0, 10] (fun u i wr => ∃ k : Nat, k ≤ l ∧ i = .int .i64 k ∧ OwnI wr B u (dp z o k) ∧ Below B w wr) (fun _ i _ => l - (intOf i).toNat)
  case atStart => exact ⟨0, by omega, rfl, hv, Below.refl _ _⟩
  case round =>
    obtain ⟨k, hk, rfl, hu, hb⟩ := hrel
    by_cases hlt : k < l
    · obtain ⟨A, c, rfl⟩ := hu.slice
      have hlen : (dp z o k).length = z.length + k := agn_length _ _ _ _ _
      obtain ⟨o1, o2⟩ := ho (by omega)
      obtain ⟨j, hj⟩ : ∃ j : Nat, ((z.length + k : Nat) : Int) - o = j := ⟨((z.length + k : Nat) - o).toNat, by omega⟩
      have hjl : j < (dp z o k).length := by omega
      have hrw := (own_rw hu rfl).2.2.2
      have hci : (iv (dp z o k))[j]? = some (.int .i64 ((dp z o k).getD j 0)) := by
        unfold iv
        rw [List.getElem?_map, List.getD_eq_getElem?_getD, List.getElem?_eq_getElem hjl]; rfl
      obtain ⟨g, oo, rfl, hc⟩ := Rw.at_ hrw hci
      have hxb := HZ.out k _ (getD_mem (z := dp z o k) (k := j) hjl)
      have HN : Hid (dp z o (k + 1) = dp z o k ++ [(dp z o k).getD j 0 + 1]) := Lib.hid (by unfold dp at hlen ⊢; rw [agn, hj, Int.toNat_natCast])
      have e1 : IntKind.i64.wrap (((dp z o k).length : Int) - o) = j := by rw [hlen, hj]; exact IntWalk.i64_in _ (by omega)
      have hyl : (dp z o k).length ≤ 1048576 := by omega
      have HLEN : Hid ((dp z o k).length + 1 ≤ 4000000) := Lib.hid (by omega)
      clear hlen hj hci hrw
      generalize dp z o k = y at *
      generalize y.getD j 0 = x at *
      go_wp2_with fail
      refine (deeper x (by omega) (by omega) _).mono ?_
      rintro e w1 ⟨rfl, rfl⟩
      have hbA := below_one wr (.cells #[.int .i64 (x + 1)] 3)
      have hoA : OwnI _ B _ y := own_below hu hbA
      have hbdA := hb.alloc (Nat.le_trans hB hb.size) (.cells #[.int .i64 (x + 1)] 3)
      have hsA := rw_newj wr [.int .i64 (x + 1)] 3
      have hB9 : B ≤ (wr.alloc (.cells #[.int .i64 (x + 1)] 3)).heap.size := by have := hb.size; simp; omega
      have hgeA := own_gej hoA
      clear hu hb hc hbA hxb
      go_wp2_with (at_builtin; go_must (refine list_append_rl kindJ rfl (.tmp 12) (.tmp 22) rfl B _ _ _ rfl hoA _ 1 _ [.int .i64 (x + 1)] rfl rfl hsA (by simp) (by simp [Value.oneCell']) HLEN.out (by omega) hB9 ?_; intro v' w10 ho' hg' hgr'; have hbd10 := hbdA.grown hg' (by have := hB9; omega) (fun k hk => hgeA k hk); have H9 : Hid (OwnI w10 B v' (y ++ [x + 1])) := Lib.hid (by unfold OwnI; rw [List.length_append]; unfold iv; rw [List.map_append]; exact ho'); clear hoA hbdA hgeA hg' hgr' hsA ho'))
      go_roundw
      case rel => exact ⟨k + 1, hlt, by go_num, by rw [HN.out]; exact H9.out, hbd10⟩
      case measure => simp [intOf]; omega
    · obtain rfl : k = l := by omega
      go_wp2
      go_ret
      exact ⟨_, rfl, hu, hb⟩
end Go.Proofs.Ytklkflfdianbpaa.Cur

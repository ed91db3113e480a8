/- As the seat's text, without what nothing here names. -/
import Derived.Test.YtlealkfkddhnnaaGreatK12v
import Derived.Deep.LoopGhost
import Derived.Test.YtlealkfkddhnnaaGreatK4v
import Derived.Test.YtlealkfkddhnnaaGreatK1v
import Derived.Deep.QuietTactic
import Derived.BigQuiet
namespace Go.Proofs.YtlealkfkddhnnaaGreat.Cur
open Go.RowKit Mem
set_option linter.unusedVariables false
def agn {α : Type} (d : α) (f : α → α) (z : List α) (o : Int) : Nat → List α
  | 0 => z
  | k + 1 => agn d f z o k ++ [f ((agn d f z o k).getD ((z.length + k : Nat) - o).toNat d)]
theorem agn_length {α : Type} (d : α) (f : α → α) (z : List α) (o : Int) (k : Nat) : (agn d f z o k).length = z.length + k := by
  induction k with
  | zero => rfl
  | succ k ih => rw [agn, List.length_append, ih]; rfl
end Go.Proofs.YtlealkfkddhnnaaGreat.Cur
namespace Go.Proofs.YtlealkfkddhnnaaGreat.Cur
open Go.RowKit Mem
set_option linter.unusedVariables false
theorem same_byte (x : Int) (w : World) : Calls Tryz.prog 185 #[.int .u8 x] w fun e w' => e = .returned (.int .u8 x) ∧ w = w' := by
  go_enter Tryz.func185, Tryz.ntmps185
  go_wp2
  go_ret
  exact ⟨rfl, rfl⟩
def AgPost (B : Nat) (z : List Int) (w : World) (e : Ending) (w' : World) : Prop := ∃ v', e = .returned v' ∧ Own w' B v' z ∧ Below B w w'
set_option maxRecDepth 100000 in
set_option maxHeartbeats 2000000 in
theorem again_byte (B : Nat) (v : Value) (z : List Int) (o : Int) (l : Nat) (w : World) (hv : Own w B v z) (hB : B ≤ w.heap.size) (hl : z.length + l ≤ 900000) (ho : 0 < l → 1 ≤ o ∧ o ≤ z.length) :
    Calls Tryz.prog 184 #[v, .int .i64 o, .int .i64 l, .func (.func 185) #[] #[]] w (AgPost B (agn 0 id z o l) w) := by
  go_enter Tryz.func184, Tryz.ntmps184
  go_wp2
  go_loopw [0, 10] (fun u i wr => ∃ k : Nat, k ≤ l ∧ i = .int .i64 k ∧ Own wr B u (agn 0 id z o k) ∧ Below B w wr) (fun _ i _ => l - (intOf i).toNat)
  case atStart => exact ⟨0, by omega, rfl, hv, Below.refl _ _⟩
  case round =>
    obtain ⟨k, hk, rfl, hu, hb⟩ := hrel
    by_cases hlt : k < l
    · obtain ⟨A, c, rfl, hbs, hnil, hle⟩ := hu.parts
      have hlen : (agn 0 id z o k).length = z.length + k := agn_length _ _ _ _ _
      obtain ⟨o1, o2⟩ := ho (by omega)
      obtain ⟨j, hj⟩ : ∃ j : Nat, ((z.length + k : Nat) : Int) - o = j := ⟨((z.length + k : Nat) - o).toNat, by omega⟩
      have hjl : j < (agn 0 id z o k).length := by omega
      obtain ⟨g, oo, rfl, hc⟩ := hbs.at_ hjl
      have HN : Hid (agn 0 id z o (k + 1) = agn 0 id z o k ++ [(agn 0 id z o k).getD j 0]) := Lib.hid (by rw [agn, hj, Int.toNat_natCast]; rfl)
      have e1 : IntKind.i64.wrap (((agn 0 id z o k).length : Int) - o) = j := by rw [hlen, hj]; exact IntWalk.i64_in _ (by omega)
      have hyl : (agn 0 id z o k).length ≤ 900000 := by omega
      have HLEN : Hid ((agn 0 id z o k).length + 1 ≤ 1000000) := Lib.hid (by omega)
      clear hlen hj
      generalize agn 0 id z o k = y at *
      generalize y.getD j 0 = x at *
      go_wp2_with fail
      refine (same_byte _ _).mono ?_
      rintro e w1 ⟨rfl, rfl⟩
      have hbA := below_one wr (.cells #[.int .u8 x] 5)
      have hoA := hu.below hbA
      have hbdA := hb.alloc (Nat.le_trans hB hb.size) (.cells #[.int .u8 x] 5)
      have hsA : Bs (wr.alloc (.cells #[.int .u8 x] 5)) (some ⟨wr.heap.size, 0, none⟩) 1 [x] := bs_new wr [x] 5
      have hB9 : B ≤ (wr.alloc (.cells #[.int .u8 x] 5)).heap.size := by have := hb.size; simp; omega
      have hgeA := own_ge hoA
      clear hu hb hc hbs hbA
      go_wp2_with (at_builtin; go_must (refine list_append_bs rfl (.tmp 12) (.tmp 22) rfl B _ y rfl hoA _ 1 _ [x] rfl hsA (by simp) HLEN.out hB9 ?_; intro v' w10 ho' hg'; have hbd10 := hbdA.grown hg' (by have := hB9; omega) (fun k hk => hgeA k hk); clear hoA hbdA hgeA hg' hsA))
      go_roundw
      case rel => exact ⟨k + 1, hlt, by go_num, by rw [HN.out]; exact ho', hbd10⟩
      case measure => simp [intOf]; omega
    · obtain rfl : k = l := by omega
      go_wp2
      go_ret
      exact ⟨_, rfl, hu, hb⟩
end Go.Proofs.YtlealkfkddhnnaaGreat.Cur
namespace Go.Proofs.YtlealkfkddhnnaaGreat.Cur
open Go.RowKit Mem
set_option linter.unusedVariables false
section
variable {α : Type} {own : Nat → List α} {d : α} {f : α → α} {T : List Tk} {bound : Int}
end
def XpPost (g : List Int × Int × Int) (w : World) (e : Ending) (w' : World) : Prop :=
  ∃ v, e = .returned (.tuple #[v, .agg #[.int .i64 g.2.1, .int .i64 g.2.2]]) ∧ Own w' w.heap.size v g.1 ∧ Below w.heap.size w w'
end Go.Proofs.YtlealkfkddhnnaaGreat.Cur
namespace Go.Proofs.YtlealkfkddhnnaaGreat.Cur
open Go.RowKit Mem
set_option linter.unusedVariables false
def EWPost (g : List Int) (w : World) (e : Ending) (w' : World) : Prop := ∃ v, e = .returned v ∧ Own w' w.heap.size v g ∧ Below w.heap.size w w'
set_option maxRecDepth 100000 in
set_option maxHeartbeats 2000000 in
theorem erwith_any (A : Option Addr) (n m : Nat) (z : List Int) (Ar : Option Addr) (Lr Cr : Nat) (y : List Int) (o : Int) (l : Nat) (w : World) (hz : Bs w A n z) (hA : A = none → m = 0) (hy : Bs w Ar Lr y) (hAr : Ar = none → Cr = 0)
    (hsz : n + Lr + l ≤ 900000) (ho : 0 < l → 1 ≤ o ∧ o ≤ n ∧ Lr = 0) :
    Calls Tryz.prog 135 #[.slice A n m, tv Ar Lr Cr o l] w (EWPost (agn 0 id (z ++ y) o l) w) := by
  obtain ⟨hX, hB⟩ := tbox w (.slice Ar Lr Cr) (.int .i64 o) (.int .i64 l) 161
  obtain ⟨c0, c1, c2⟩ := hX.c3
  have hz2 := hz.below hB
  have hy2 := hy.below hB
  have hzl := hz.1
  have hyl := hy.1
  have hlt : w.heap.size + 1 ≤ (w.alloc (.cells #[.slice Ar Lr Cr, .int .i64 o, .int .i64 l] 161)).heap.size := by simp
  have H1 : Hid (([] : List Int).length + n ≤ 1000000) := Lib.hid (by simp; omega)
  have H2 : Hid (([] ++ z : List Int).length + Lr ≤ 1000000) := Lib.hid (by simp; omega)
  have HLY : Hid (y.length = Lr) := Lib.hid hyl
  have HLZ : Hid (z.length = n) := Lib.hid hzl
  clear hz hy hzl hyl
  go_enter Tryz.func135, Tryz.ntmps135
  go_wp2_with (at_builtin; go_must (first | (refine list_append_gr rfl (.tmp 7) (.tmp 8) rfl (w.heap.size + 1) _ [] rfl (Own.nil _ _) _ n m z rfl hz2 hA H1.out hlt ?_; intro v' w10 ho' hg' hgr; have hX10 := hX.ks (Ks.of_grown (S := fun k => False) hg' (fun k e => by cases e)) (fun h => h); have hy10 := hy2.below (Below.of_grown_none hg'); have hb10 := hB.grown hg' (by simp) (fun k hk => by cases hk); have hlt10 : w.heap.size + 1 ≤ w10.heap.size := hX10.lt; obtain ⟨d0, d1, d2⟩ := hX10.c3; clear hX hy2 hB hg' hgr hz2 c0 c1 c2) | (refine list_append_gr rfl (.tmp 10) (.tmp 12) rfl (w.heap.size + 1) _ ([] ++ z) rfl ho' _ Lr Cr y rfl hy10 hAr H2.out hlt10 ?_; intro v2 w20 ho2 hg2 hgr2; have hge2 := own_ge ho'; have hX20 := hX10.ks (Ks.of_grown (S := fun k => w.heap.size + 1 ≤ k) hg2 hge2) (by omega); have hb20 := hb10.grown hg2 (by omega) (fun k hk => by have := hge2 k hk; omega); clear hX10 hb10 hg2 hgr2 ho' hge2 hy10 d0 d1 d2)))
  rw [List.nil_append] at ho2
  have HLZY : Hid ((z ++ y).length = n + Lr) := Lib.hid (by rw [List.length_append, HLZ.out, HLY.out])
  go_loopw [5, 6] (fun u i wr => ∃ k : Nat, k ≤ l ∧ i = .int .i64 k ∧ Own wr (w.heap.size + 1) u (agn 0 id (z ++ y) o k) ∧ Blk wr w.heap.size #[.slice Ar Lr Cr, .int .i64 o, .int .i64 l] 161 ∧ Below w.heap.size w wr) (fun _ i _ => l - (intOf i).toNat)
  case atStart => exact ⟨0, by omega, rfl, ho2, hX20, hb20⟩
  case round =>
    clear hX20 hb20 ho2
    obtain ⟨k, hk, rfl, hu, hX, hb⟩ := hrel
    obtain ⟨c0, c1, c2⟩ := hX.c3
    obtain ⟨A1, k1, rfl, hbs, hnil, hle⟩ := hu.parts
    by_cases hkl : k < l
    · have hlen : (agn 0 id (z ++ y) o k).length = n + Lr + k := by rw [agn_length, HLZY.out]
      obtain ⟨o1, o2, o3⟩ := ho (by omega)
      subst o3
      obtain ⟨j, hj⟩ : ∃ j : Nat, (n : Int) + k - o = j := ⟨((n : Int) + k - o).toNat, by omega⟩
      have hjl : j < (agn 0 id (z ++ y) o k).length := by omega
      obtain ⟨g, oo, rfl, hc⟩ := hbs.at_ hjl
      have HN : Hid (agn 0 id (z ++ y) o (k + 1) = agn 0 id (z ++ y) o k ++ [(agn 0 id (z ++ y) o k).getD j 0]) := Lib.hid (by rw [agn, HLZY.out, show (((n + 0 + k : Nat) : Int) - o) = j by omega, Int.toNat_natCast]; rfl)
      have e0 : IntKind.i64.wrap ((n : Int) + k) = n + k := IntWalk.i64_in _ (by omega)
      have e1 : IntKind.i64.wrap ((n : Int) + k - o) = j := by rw [hj]; exact IntWalk.i64_in _ (by omega)
      have hyl : (agn 0 id (z ++ y) o k).length ≤ 900000 := by omega
      have HLEN : Hid ((agn 0 id (z ++ y) o k).length + 1 ≤ 1000000) := Lib.hid (by omega)
      clear hlen hj
      generalize agn 0 id (z ++ y) o k = yy at *
      generalize yy.getD j 0 = x at *
      have hbA := below_one wr (.cells #[.int .u8 x] 5)
      have hoA := hu.below hbA
      have hXA := hX.below hbA
      have hbdA := hb.trans (hbA.mono hb.size)
      have hsA : Bs (wr.alloc (.cells #[.int .u8 x] 5)) (some ⟨wr.heap.size, 0, none⟩) 1 [x] := bs_new wr [x] 5
      have hB9 : w.heap.size + 1 ≤ (wr.alloc (.cells #[.int .u8 x] 5)).heap.size := by have := hX.lt; simp; omega
      have hgeA := own_ge hoA
      clear hu hb hbs hbA hX
      go_wp2_with (at_builtin; go_must (refine list_append_bs rfl (.tmp 20) (.tmp 31) rfl (w.heap.size + 1) _ yy rfl hoA _ 1 _ [x] rfl hsA (by simp) HLEN.out hB9 ?_; intro v' w10 ho' hg'; have hX10 := hXA.ks (Ks.of_grown (S := fun k => w.heap.size + 1 ≤ k) hg' hgeA) (by omega); have hbd10 := hbdA.grown hg' (by have := hB9; omega) (fun k hk => by have := hgeA k hk; omega); clear hoA hbdA hgeA hg' hsA hXA))
      go_roundw
      case rel => exact ⟨k + 1, hkl, by go_num, by rw [HN.out]; exact ho', hX10, hbd10⟩
      case measure => simp [intOf]; omega
    · obtain rfl : k = l := by omega
      go_wp2
      go_ret
      exact ⟨_, rfl, hu.base (fun g hg => by have := Own.ge hu g hg; omega), hb⟩
end Go.Proofs.YtlealkfkddhnnaaGreat.Cur
namespace Go.Proofs.YtlealkfkddhnnaaGreat.Cur
open Go.RowKit Mem
set_option linter.unusedVariables false
end Go.Proofs.YtlealkfkddhnnaaGreat.Cur
namespace Go.Proofs.YtlealkfkddhnnaaGreat.Cur
open Go.RowKit Mem
set_option linter.unusedVariables false
section
variable {α : Type} {own : Nat → List α} {d : α} {f : α → α} {T : List Tk} {bound : Int}
end
end Go.Proofs.YtlealkfkddhnnaaGreat.Cur
namespace Go.Proofs.YtlealkfkddhnnaaGreat.Cur
open Go.RowKit Mem
set_option linter.unusedVariables false
def ex (z : List Int) (bound : Int) (y : List Int) (p : Int) : Rs (List Int) :=
  (hd z p).bind [] fun h p1 => if bound < (y.length : Int) + h.2 then ([], 0, 11, p) else
    (trb z h p1).bind [] fun t p2 => if (y.length : Int) < t.2.1 then ([], 0, 10, p1) else (agn 0 id (y ++ t.1) t.2.1 t.2.2.toNat, p2, 0, 0)
def ExSt {α : Type} (g : Rs α) (v : α) (p' c' q' : Int) : Prop := (g.2.2.1 = 0 ∧ v = g.1 ∧ p' = g.2.1 ∧ c' = 0 ∧ q' = 0) ∨ (g.2.2.1 ≠ 0 ∧ c' = g.2.2.1 ∧ q' = g.2.2.2)
theorem ExSt.bad {α : Type} {g : Rs α} {x : α} {y c q : Int} (e : g = (x, y, c, q)) (hc : c ≠ 0) (v : α) (p : Int) : ExSt g v p c q := by
  subst e; exact .inr ⟨hc, rfl, rfl⟩
theorem ExSt.good {α : Type} {g : Rs α} {x : α} {y : Int} (e : g = (x, y, 0, 0)) : ExSt g x y 0 0 := by
  subst e; exact .inl ⟨rfl, rfl, rfl, rfl, rfl⟩
def XdPost (b B : Nat) (s : Value) (n : Nat) (g : Rs (List Int)) (w : World) (e : Ending) (w' : World) : Prop :=
  ∃ v y p' c' q', e = .returned v ∧ Own w' B v y ∧ Ks (fun k => k = b ∨ B ≤ k) w w' ∧ IsRd w' b s p' c' q' ∧ 0 ≤ p' ∧ p' ≤ n ∧ ExSt g y p' c' q'
end Go.Proofs.YtlealkfkddhnnaaGreat.Cur
namespace Go.Proofs.YtlealkfkddhnnaaGreat.Cur
open Go.RowKit Mem
set_option linter.unusedVariables false
theorem Ks.of_belowB {S : Nat → Prop} {B : Nat} {w w' : World} (h : Below B w w') (hS : ∀ k, ¬ S k → k < B) : Ks S w w' := ⟨h.os, h.tape, h.output, h.size, fun k _ hb => h.block k (hS k hb)⟩
theorem IsRd.ks' {S : Nat → Prop} {w w' : World} {b : Nat} {s : Value} {p c q : Int} (h : IsRd w b s p c q) (k : Ks S w w') (hb : ¬ S b) : IsRd w' b s p c q := Blk.ks (cs := #[s, .int .i64 p, .int .i64 c, .int .i64 q]) h k hb
set_option maxRecDepth 100000 in
set_option maxHeartbeats 4000000 in
theorem extend_any (b B : Nat) (a : Option Addr) (n m : Nat) (z y : List Int) (p bound : Int) (v : Value) (w : World) (hr : IsRd w b (.slice a n m) p 0 0) (hz : Bs w a n z) (h0 : 0 ≤ p) (h1 : p ≤ n) (hm : n ≤ m) (hn : n ≤ 100000) (hby : ∀ x ∈ z, 0 ≤ x ∧ x < 256)
    (ho : Own w B v y) (hB : B ≤ w.heap.size) (hbB : b < B) (hy : y.length ≤ 800000) (hg : (ex z bound y p).2.2.1 = 0 → (ex z bound y p).1.length ≤ 800000) :
    Calls Tryz.prog 173 #[.pointer (some ⟨b, 0, none⟩), v, .int .i64 bound] w (XdPost b B (.slice a n m) n (ex z bound y p) w) := by
  have HBY := Lib.hid hby
  have HG := Lib.hid hg
  have HZL := Lib.hid hz.1
  have hks := Ks.refl (fun k => k = b ∨ B ≤ k) w
  obtain ⟨Av, cv, rfl⟩ := ho.slice
  clear hby hg
  go_enter Tryz.func173, Tryz.ntmps173
  go_wp2_with fail
  refine (at_any _ _ _ _ _ _ hr).mono ?_
  rintro e w0 ⟨rfl, rfl⟩
  go_wp2_with fail
  refine (thead_any _ _ _ _ _ _ _ _ _ hr hz h0 h1 (by omega) HBY.out).mono ?_
  rintro e w1 ⟨cp, k, p1, c1, q1, rfl, hk1, hr1, hs1⟩
  obtain ⟨p10, p11⟩ := hs1.place
  have HS1 := Lib.hid hs1
  have hB1 : B ≤ w1.heap.size := Nat.le_trans hB hk1.size
  replace ho : Own _ B _ y := own_kp ho hk1 (ho.ne_blk hr (by decide))
  replace hks := hks.trans (Ks.of_kp hk1 (.inl rfl))
  replace hz := hz.kp hr (by simp) hk1
  replace hr := hr1
  clear hr1 hk1 hs1 hB
  by_cases hc1 : c1 = 0
  · subst hc1
    obtain ⟨hsh, rfl⟩ := St.shape hd_q HS1.out
    obtain ⟨kr0, kr1⟩ := hd_rng HBY.out (by rw [hsh])
    rw [hsh] at kr0 kr1
    simp only at kr0 kr1
    have e1 : IntKind.i64.wrap ((y.length : Int) + k) = y.length + k := IntWalk.i64_in _ (by omega)
    have HX : Hid (ex z bound y p = if bound < (y.length : Int) + k then ([], 0, 11, p) else (trb z (cp, k) p1).bind [] fun t p2 => if (y.length : Int) < t.2.1 then ([], 0, 10, p1) else (agn 0 id (y ++ t.1) t.2.1 t.2.2.toNat, p2, 0, 0)) := Lib.hid (by unfold ex; rw [Rs.bind_of hsh])
    clear hsh HS1
    by_cases hov : bound < (y.length : Int) + k
    · have HX2 : Hid (ex z bound y p = ([], 0, 11, p)) := Lib.hid (by rw [HX.out, if_pos hov])
      go_wp2_with fail
      refine (fail_any _ _ _ _ _ _ _ _ hr).mono ?_
      rintro e w2 ⟨c2, q2, rfl, hk2, hr2, hf⟩
      obtain ⟨rfl, rfl⟩ : c2 = 11 ∧ q2 = p := by
        rcases hf with ⟨_, h2, h3⟩ | ⟨h2, _⟩
        · exact ⟨h2, h3⟩
        · exact absurd rfl h2
      have hB2 : B ≤ w2.heap.size := Nat.le_trans hB1 hk2.size
      replace ho : Own _ B _ y := own_kp ho hk2 (ho.ne_blk hr (by decide))
      replace hks := hks.trans (Ks.of_kp hk2 (.inl rfl))
      replace hz := hz.kp hr (by simp) hk2
      replace hr := hr2
      clear hr2 hk2 hf hov HX hB1
      have hBk := hB2
      cases cp
      · go_wp2_with fail
        refine (take_st _ _ _ _ _ _ _ _ _ _ hr hz p10 p11 hm (by omega)).mono ?_
        rintro e w3 ⟨vl, l, p3, c3, q3, rfl, hol, hk3, hr3, hs3⟩
        obtain ⟨p30, p31⟩ := hs3.place
        obtain ⟨rfl, rfl, rfl⟩ := hs3.stays (by decide : (11 : Int) ≠ 0)
        have hB3 : B ≤ w3.heap.size := Nat.le_trans hBk hk3.size
        replace ho : Own _ B _ y := own_kp ho hk3 (ho.ne_blk hr (by decide))
        replace hks := hks.trans (Ks.of_kp hk3 (.inl rfl))
        replace hz := hz.kp hr (by simp) hk3
        replace hr := hr3
        clear hr3 hk3 hs3
        have hge := own_ge ho
        obtain ⟨Al, ml, rfl, hbl, hnl, hlel⟩ := hol.parts
        have HLEN : Hid (y.length + ([] : List Int).length ≤ 1000000) := Lib.hid (by first | (simp; omega) | omega)
        go_wp2_with (at_builtin; go_must (refine list_append_gr rfl (.tmp 29) (.tmp 32) rfl B _ y rfl ho _ (([] : List Int)).length ml ([] : List Int) rfl hbl hnl HLEN.out hB3 ?_; intro v' w9 ho' hg' hgr; have hr9 : IsRd w9 b _ _ _ _ := hr.ks' (Ks.of_grown (S := fun k => B ≤ k) hg' hge) (by omega); have hks9 := hks.trans (Ks.of_grown (S := fun k => k = b ∨ B ≤ k) hg' (fun k e => .inr (hge k e))); clear hg' hgr hge ho hr hks hbl))
        go_ret
        exact ⟨_, _, _, _, _, rfl, ho', hks9, hr9, p30, p31, ExSt.bad HX2.out (by decide) _ _⟩
      · go_wp2_with fail
        refine (at_any _ _ _ _ _ _ hr).mono ?_
        rintro e w3 ⟨rfl, rfl⟩
        go_wp2_with fail
        refine (toffset_any _ _ _ _ _ _ _ _ _ hr hz p10 p11 (by omega) HBY.out).mono ?_
        rintro e w3 ⟨ofv, p3, c3, q3, rfl, hk3, hr3, hs3⟩
        obtain ⟨p30, p31⟩ := hs3.place
        obtain ⟨rfl, rfl, rfl⟩ := hs3.stays (by decide : (11 : Int) ≠ 0)
        have hB3 : B ≤ w3.heap.size := Nat.le_trans hBk hk3.size
        replace ho : Own _ B _ y := own_kp ho hk3 (ho.ne_blk hr (by decide))
        replace hks := hks.trans (Ks.of_kp hk3 (.inl rfl))
        replace hz := hz.kp hr (by simp) hk3
        replace hr := hr3
        clear hr3 hk3 hs3
        have hz0 : ¬ ((y.length : Int) < 0) := by omega
        have hcb : ((11 : Int) == (0 : Int)) = false := by first | rfl | (simpa using (by decide : (11 : Int) ≠ 0))
        go_wp2_with fail
        refine (good_any _ _ _ _ _ _ hr).mono ?_
        rintro e w4 ⟨rfl, hb4⟩
        rw [hcb]
        replace hr := hr.below hb4
        replace ho := ho.below hb4
        replace hks := hks.trans (Ks.of_below hb4)
        go_wp2
        go_ret
        exact ⟨_, _, _, _, _, rfl, ho, hks, hr, p30, p31, ExSt.bad HX2.out (by decide) _ _⟩
    · have HX2 := HX.out
      rw [if_neg hov] at HX2
      replace HX2 := Lib.hid HX2
      clear HX
      have hBk := hB1
      cases cp
      · go_wp2_with fail
        refine (take_st _ _ _ _ _ _ _ _ _ _ hr hz p10 p11 hm (by omega)).mono ?_
        rintro e w3 ⟨vl, l, p3, c3, q3, rfl, hol, hk3, hr3, hs3⟩
        obtain ⟨p30, p31⟩ := hs3.place
        have HS3 := Lib.hid hs3
        have hB3 : B ≤ w3.heap.size := Nat.le_trans hBk hk3.size
        replace ho : Own _ B _ y := own_kp ho hk3 (ho.ne_blk hr (by decide))
        replace hks := hks.trans (Ks.of_kp hk3 (.inl rfl))
        replace hz := hz.kp hr (by simp) hk3
        replace hr := hr3
        clear hr3 hk3 hs3
        by_cases hc3 : c3 = 0
        · subst hc3
          obtain ⟨hsh, rfl⟩ := St.shape (tk_q p10 (by have := HZL.out; omega)) HS3.out
          have hex : ex z bound y p = (y ++ l, p3, 0, 0) := by
            rw [HX2.out, trb_run, Rs.bind_of (v := (l, 0, 0)) (p' := p3) (by rw [Rs.bind_of hsh])]
            rw [if_neg (by show ¬ ((y.length : Int) < 0); omega)]
            rfl
          have hyl := HG.out (by rw [hex])
          rw [hex, List.length_append] at hyl
          have HEX := Lib.hid hex
          clear hsh hex HS3 HX2
          have hge := own_ge ho
          obtain ⟨Al, ml, rfl, hbl, hnl, hlel⟩ := hol.parts
          have HLEN : Hid (y.length + l.length ≤ 1000000) := Lib.hid (by first | (simp; omega) | omega)
          go_wp2_with (at_builtin; go_must (refine list_append_gr rfl (.tmp 29) (.tmp 32) rfl B _ y rfl ho _ (l).length ml l rfl hbl hnl HLEN.out hB3 ?_; intro v' w9 ho' hg' hgr; have hr9 : IsRd w9 b _ _ _ _ := hr.ks' (Ks.of_grown (S := fun k => B ≤ k) hg' hge) (by omega); have hks9 := hks.trans (Ks.of_grown (S := fun k => k = b ∨ B ≤ k) hg' (fun k e => .inr (hge k e))); clear hg' hgr hge ho hr hks hbl))
          go_ret
          exact ⟨_, _, _, _, _, rfl, ho', hks9, hr9, p30, p31, ExSt.good HEX.out⟩
        · obtain rfl : l = [] := HS3.out.nil hc3
          obtain ⟨g1, g2, g3⟩ := HS3.out.flt hc3
          have hex : ex z bound y p = ([], 0, c3, q3) := by
            rw [HX2.out, trb_run]
            have e : (tk z k p1).bind tk0 (fun y p2 => ((y, 0, 0), p2, 0, 0)) = (tk0, 0, c3, q3) := by rw [Rs.bind_bad g1, g2, g3]
            rw [e, Rs.bind_bad (by exact hc3)]
          have HEX := Lib.hid hex
          have HC3 := Lib.hid hc3
          clear hex g1 g2 g3 HS3 HX2 hc3
          have hge := own_ge ho
          obtain ⟨Al, ml, rfl, hbl, hnl, hlel⟩ := hol.parts
          have HLEN : Hid (y.length + ([] : List Int).length ≤ 1000000) := Lib.hid (by first | (simp; omega) | omega)
          go_wp2_with (at_builtin; go_must (refine list_append_gr rfl (.tmp 29) (.tmp 32) rfl B _ y rfl ho _ (([] : List Int)).length ml ([] : List Int) rfl hbl hnl HLEN.out hB3 ?_; intro v' w9 ho' hg' hgr; have hr9 : IsRd w9 b _ _ _ _ := hr.ks' (Ks.of_grown (S := fun k => B ≤ k) hg' hge) (by omega); have hks9 := hks.trans (Ks.of_grown (S := fun k => k = b ∨ B ≤ k) hg' (fun k e => .inr (hge k e))); clear hg' hgr hge ho hr hks hbl))
          go_ret
          exact ⟨_, _, _, _, _, rfl, ho', hks9, hr9, p30, p31, ExSt.bad HEX.out HC3.out _ _⟩
      · go_wp2_with fail
        refine (at_any _ _ _ _ _ _ hr).mono ?_
        rintro e w3 ⟨rfl, rfl⟩
        go_wp2_with fail
        refine (toffset_any _ _ _ _ _ _ _ _ _ hr hz p10 p11 (by omega) HBY.out).mono ?_
        rintro e w3 ⟨ofv, p3, c3, q3, rfl, hk3, hr3, hs3⟩
        obtain ⟨p30, p31⟩ := hs3.place
        have HS3 := Lib.hid hs3
        have hB3 : B ≤ w3.heap.size := Nat.le_trans hBk hk3.size
        replace ho : Own _ B _ y := own_kp ho hk3 (ho.ne_blk hr (by decide))
        replace hks := hks.trans (Ks.of_kp hk3 (.inl rfl))
        replace hz := hz.kp hr (by simp) hk3
        replace hr := hr3
        clear hr3 hk3 hs3
        by_cases hc3 : c3 = 0
        · subst hc3
          obtain ⟨hsh, rfl⟩ := St.shape ofs_q HS3.out
          have ho1 : 1 ≤ ofv := by
            obtain ⟨v1, v2, e3⟩ := ofs_ok (z := z) (p := p1) (by rw [hsh])
            rw [hsh] at e3
            have := vg_bd z p1 HBY.out
            have e4 : ofv = (vg z p1).1 + 1 := congrArg (fun x => x.1) e3
            omega
          have hex : ex z bound y p = if (y.length : Int) < ofv then ([], 0, 10, p1) else (agn 0 id (y ++ []) ofv k.toNat, p3, 0, 0) := by
            rw [HX2.out, trb_cpy, Rs.bind_of (v := ([], ofv, k)) (p' := p3) (by rw [Rs.bind_of hsh])]
          clear hsh HS3 HX2
          by_cases hof : (y.length : Int) < ofv
          · rw [if_pos hof] at hex
            have HEX := Lib.hid hex
            clear hex
            go_wp2_with fail
            refine (fail_any _ _ _ _ _ _ _ _ hr).mono ?_
            rintro e w4 ⟨c4, q4, rfl, hk4, hr4, hf⟩
            obtain ⟨rfl, rfl⟩ : c4 = 10 ∧ q4 = p1 := by
              rcases hf with ⟨_, h2, h3⟩ | ⟨h2, _⟩
              · exact ⟨h2, h3⟩
              · exact absurd rfl h2
            replace ho : Own _ B _ y := own_kp ho hk4 (ho.ne_blk hr (by decide))
            replace hks := hks.trans (Ks.of_kp hk4 (.inl rfl))
            replace hz := hz.kp hr (by simp) hk4
            replace hr := hr4
            clear hr4 hk4 hf
            go_wp2_with fail
            refine (good_any _ _ _ _ _ _ hr).mono ?_
            rintro e w5 ⟨rfl, hb5⟩
            rw [show ((10 : Int) == 0) = false from rfl]
            replace hr := hr.below hb5
            replace ho := ho.below hb5
            replace hks := hks.trans (Ks.of_below hb5)
            go_wp2
            go_ret
            exact ⟨_, _, _, _, _, rfl, ho, hks, hr, p30, p31, ExSt.bad HEX.out (by decide) _ _⟩
          · rw [if_neg hof, List.append_nil] at hex
            have hyl := HG.out (by rw [hex])
            rw [hex, agn_length] at hyl
            obtain ⟨ln, rfl⟩ := Int.eq_ofNat_of_zero_le (show 0 ≤ k by omega)
            rw [Int.toNat_natCast] at hex hyl
            have HEX := Lib.hid hex
            clear hex
            go_wp2_with fail
            refine (good_any _ _ _ _ _ _ hr).mono ?_
            rintro e w5 ⟨rfl, hb5⟩
            rw [show ((0 : Int) == 0) = true from rfl]
            replace hr := hr.below hb5
            replace ho := ho.below hb5
            replace hks := hks.trans (Ks.of_below hb5)
            have hB5 : B ≤ w5.heap.size := Nat.le_trans hB3 hb5.size
            clear hb5
            go_wp2_with fail
            refine (again_byte B _ y ofv ln _ ho hB5 (by omega) (fun _ => by omega)).mono ?_
            rintro e w6 ⟨v6, rfl, ho6, hb6⟩
            have hr6 := hr.ks' (Ks.of_belowB (S := fun k => B ≤ k) hb6 (fun k h => by omega)) (by omega)
            replace hks := hks.trans (Ks.of_belowB (S := fun k => k = b ∨ B ≤ k) hb6 (fun k h => by have := Nat.lt_of_not_le (fun e => h (.inr e)); exact this))
            go_wp2
            go_ret
            exact ⟨_, _, _, _, _, rfl, ho6, hks, hr6, p30, p31, ExSt.good HEX.out⟩
        · obtain rfl : ofv = 0 := HS3.out.nil hc3
          obtain ⟨g1, g2, g3⟩ := HS3.out.flt hc3
          have hex : ex z bound y p = ([], 0, c3, q3) := by
            rw [HX2.out, trb_cpy]
            have e : (tkofs z p1).bind tk0 (fun o p2 => (([], o, k), p2, 0, 0)) = (tk0, 0, c3, q3) := by rw [Rs.bind_bad g1, g2, g3]
            rw [e, Rs.bind_bad (by exact hc3)]
          have HEX := Lib.hid hex
          have HC3 := Lib.hid hc3
          have hz0 : ¬ ((y.length : Int) < 0) := by omega
          have hcb : (c3 == (0 : Int)) = false := by simpa using hc3
          clear hex g1 g2 g3 HS3 HX2 hc3
          go_wp2_with fail
          refine (good_any _ _ _ _ _ _ hr).mono ?_
          rintro e w4 ⟨rfl, hb4⟩
          rw [hcb]
          replace hr := hr.below hb4
          replace ho := ho.below hb4
          replace hks := hks.trans (Ks.of_below hb4)
          go_wp2
          go_ret
          exact ⟨_, _, _, _, _, rfl, ho, hks, hr, p30, p31, ExSt.bad HEX.out HC3.out _ _⟩
  · have HX2 : Hid ((ex z bound y p).2.2.1 = c1 ∧ (ex z bound y p).2.2.2 = q1) := Lib.hid (by
      obtain ⟨g1, g2, g3⟩ := HS1.out.flt hc1
      unfold ex
      rw [Rs.bind_bad g1]
      exact ⟨g2.symm, g3.symm⟩)
    have hex : ∀ v p', ExSt (ex z bound y p) v p' c1 q1 := fun v p' => .inr ⟨by rw [HX2.out.1]; exact hc1, HX2.out.1.symm, HX2.out.2.symm⟩
    obtain ⟨rfl, rfl⟩ := hd_cp HS1.out hc1
    have HEX := Lib.hid hex
    have HC1 := Lib.hid hc1
    have e1 : IntKind.i64.wrap ((y.length : Int) + 0) = y.length := IntWalk.i64_in _ (by omega)
    clear hex HX2 HS1 hc1
    by_cases hov : bound < (y.length : Int)
    · go_wp2_with fail
      refine (fail_any _ _ _ _ _ _ _ _ hr).mono ?_
      rintro e w2 ⟨c2, q2, rfl, hk2, hr2, hf⟩
      obtain ⟨rfl, rfl⟩ : c2 = c1 ∧ q2 = q1 := by
        rcases hf with ⟨h2, _⟩ | ⟨_, h2, h3⟩
        · exact absurd h2 HC1.out
        · exact ⟨h2, h3⟩
      have hBk : B ≤ w2.heap.size := Nat.le_trans hB1 hk2.size
      replace ho : Own _ B _ y := own_kp ho hk2 (ho.ne_blk hr (by decide))
      replace hks := hks.trans (Ks.of_kp hk2 (.inl rfl))
      replace hz := hz.kp hr (by simp) hk2
      replace hr := hr2
      clear hr2 hk2 hf hov hB1
      go_wp2_with fail
      refine (take_st _ _ _ _ _ _ _ _ _ _ hr hz p10 p11 hm (by omega)).mono ?_
      rintro e w3 ⟨vl, l, p3, c3, q3, rfl, hol, hk3, hr3, hs3⟩
      obtain ⟨p30, p31⟩ := hs3.place
      obtain ⟨rfl, rfl, rfl⟩ := hs3.stays HC1.out
      have hB3 : B ≤ w3.heap.size := Nat.le_trans hBk hk3.size
      replace ho : Own _ B _ y := own_kp ho hk3 (ho.ne_blk hr (by decide))
      replace hks := hks.trans (Ks.of_kp hk3 (.inl rfl))
      replace hz := hz.kp hr (by simp) hk3
      replace hr := hr3
      clear hr3 hk3 hs3
      have hge := own_ge ho
      obtain ⟨Al, ml, rfl, hbl, hnl, hlel⟩ := hol.parts
      have HLEN : Hid (y.length + ([] : List Int).length ≤ 1000000) := Lib.hid (by first | (simp; omega) | omega)
      go_wp2_with (at_builtin; go_must (refine list_append_gr rfl (.tmp 29) (.tmp 32) rfl B _ y rfl ho _ (([] : List Int)).length ml ([] : List Int) rfl hbl hnl HLEN.out hB3 ?_; intro v' w9 ho' hg' hgr; have hr9 : IsRd w9 b _ _ _ _ := hr.ks' (Ks.of_grown (S := fun k => B ≤ k) hg' hge) (by omega); have hks9 := hks.trans (Ks.of_grown (S := fun k => k = b ∨ B ≤ k) hg' (fun k e => .inr (hge k e))); clear hg' hgr hge ho hr hks hbl))
      go_ret
      exact ⟨_, _, _, _, _, rfl, ho', hks9, hr9, p30, p31, HEX.out _ _⟩
    · have hBk := hB1
      go_wp2_with fail
      refine (take_st _ _ _ _ _ _ _ _ _ _ hr hz p10 p11 hm (by omega)).mono ?_
      rintro e w3 ⟨vl, l, p3, c3, q3, rfl, hol, hk3, hr3, hs3⟩
      obtain ⟨p30, p31⟩ := hs3.place
      obtain ⟨rfl, rfl, rfl⟩ := hs3.stays HC1.out
      have hB3 : B ≤ w3.heap.size := Nat.le_trans hBk hk3.size
      replace ho : Own _ B _ y := own_kp ho hk3 (ho.ne_blk hr (by decide))
      replace hks := hks.trans (Ks.of_kp hk3 (.inl rfl))
      replace hz := hz.kp hr (by simp) hk3
      replace hr := hr3
      clear hr3 hk3 hs3
      have hge := own_ge ho
      obtain ⟨Al, ml, rfl, hbl, hnl, hlel⟩ := hol.parts
      have HLEN : Hid (y.length + ([] : List Int).length ≤ 1000000) := Lib.hid (by first | (simp; omega) | omega)
      go_wp2_with (at_builtin; go_must (refine list_append_gr rfl (.tmp 29) (.tmp 32) rfl B _ y rfl ho _ (([] : List Int)).length ml ([] : List Int) rfl hbl hnl HLEN.out hB3 ?_; intro v' w9 ho' hg' hgr; have hr9 : IsRd w9 b _ _ _ _ := hr.ks' (Ks.of_grown (S := fun k => B ≤ k) hg' hge) (by omega); have hks9 := hks.trans (Ks.of_grown (S := fun k => k = b ∨ B ≤ k) hg' (fun k e => .inr (hge k e))); clear hg' hgr hge ho hr hks hbl))
      go_ret
      exact ⟨_, _, _, _, _, rfl, ho', hks9, hr9, p30, p31, HEX.out _ _⟩
end Go.Proofs.YtlealkfkddhnnaaGreat.Cur
namespace Go.Proofs.YtlealkfkddhnnaaGreat.Cur
open Go.RowKit Mem
set_option linter.unusedVariables false
def exs (z : List Int) (bound : Int) : Nat → Int → List Int → Rs (List Int)
  | 0, p, y => (y, p, 0, 0)
  | k + 1, p, y => if (z.length : Int) ≤ p then (y, p, 0, 0) else (ex z bound y p).bind [] fun y' p' => exs z bound k p' y'
theorem exs_stop {z : List Int} {bound : Int} {k : Nat} {p : Int} {y : List Int} (h : (z.length : Int) ≤ p) : exs z bound k p y = (y, p, 0, 0) := by
  cases k with
  | zero => rfl
  | succ k => show (if (z.length : Int) ≤ p then _ else _) = _; rw [if_pos h]
theorem exs_step {z : List Int} {bound : Int} {k : Nat} {p : Int} {y : List Int} (h : p < z.length) : exs z bound (k + 1) p y = (ex z bound y p).bind [] fun y' p' => exs z bound k p' y' := by
  show (if (z.length : Int) ≤ p then _ else _) = _; rw [if_neg (by omega)]
def exg (z : List Int) (bound : Int) : Rs (List Int) := exs z bound (z.length + 1) 0 []
def exv (z : List Int) (bound : Int) : List Int × Int × Int := if (exg z bound).2.2.1 = 0 then ((exg z bound).1, 0, 0) else ([], (exg z bound).2.2.1, (exg z bound).2.2.2)
theorem ex_ok {z : List Int} {bound : Int} {y : List Int} {p : Int} (hby : ∀ x ∈ z, 0 ≤ x ∧ x < 256) (h0 : 0 ≤ p) (h1 : p ≤ z.length) (h : (ex z bound y p).2.2.1 = 0) :
    p + 1 ≤ (ex z bound y p).2.1 ∧ (ex z bound y p).2.1 ≤ z.length ∧ ex z bound y p = ((ex z bound y p).1, (ex z bound y p).2.1, 0, 0) := by
  obtain ⟨g1, g2⟩ := Rs.bind_ok h
  obtain ⟨v1, v2, e1⟩ := hd_ok' g1
  have e : ex z bound y p = if bound < (y.length : Int) + (hd z p).1.2 then ([], 0, 11, p) else (trb z (hd z p).1 (hd z p).2.1).bind [] fun t p2 => if (y.length : Int) < t.2.1 then ([], 0, 10, (hd z p).2.1) else (agn 0 id (y ++ t.1) t.2.1 t.2.2.toNat, p2, 0, 0) := g2
  by_cases hov : bound < (y.length : Int) + (hd z p).1.2
  · rw [if_pos hov] at e
    rw [e] at h
    exact absurd h (by show ¬ (11 : Int) = 0; decide)
  · rw [if_neg hov] at e
    rw [e] at h
    obtain ⟨t1, t2⟩ := Rs.bind_ok h
    have htr : tr z p = trb z (hd z p).1 (hd z p).2.1 := by unfold tr; rw [Rs.bind_of (v := (hd z p).1) (p' := (hd z p).2.1) (by rw [e1])]
    obtain ⟨k1, k2, k3, _⟩ := tr_once hby h0 h1 (by rw [htr]; exact t1)
    rw [htr] at k1 k2 k3
    rw [t2] at e h
    by_cases hof : (y.length : Int) < (trb z (hd z p).1 (hd z p).2.1).1.2.1
    · rw [if_pos hof] at h
      exact absurd h (by show ¬ (10 : Int) = 0; decide)
    · rw [if_neg hof] at e
      rw [e]
      exact ⟨k1, k2, rfl⟩
def StepPost (b B oc : Nat) (s : Value) (n : Nat) (g : Rs (List Int)) (w : World) (e : Ending) (w' : World) : Prop :=
  ∃ v y p' c' q', e = .returned (.tuple #[]) ∧ Own w' B v y ∧ Blk w' oc #[v] 28 ∧ Ks (fun k => k = b ∨ k = oc ∨ B ≤ k) w w' ∧ IsRd w' b s p' c' q' ∧ 0 ≤ p' ∧ p' ≤ n ∧ ExSt g y p' c' q'
set_option maxHeartbeats 1000000 in
theorem step_byte (b B oc bb : Nat) (a : Option Addr) (n m : Nat) (z y : List Int) (p bound : Int) (v : Value) (w : World) (hr : IsRd w b (.slice a n m) p 0 0) (hz : Bs w a n z) (h0 : 0 ≤ p) (h1 : p ≤ n) (hm : n ≤ m) (hn : n ≤ 100000) (hby : ∀ x ∈ z, 0 ≤ x ∧ x < 256)
    (ho : Own w B v y) (hB : B ≤ w.heap.size) (hbB : b < B) (hy : y.length ≤ 800000) (hg : (ex z bound y p).2.2.1 = 0 → (ex z bound y p).1.length ≤ 800000)
    (hoc : Blk w oc #[v] 28) (hbb : Blk w bb #[.int .i64 bound] 3) (hob : oc ≠ b) (hoB : oc < B) :
    Calls Tryz.prog 172 #[.pointer (some ⟨b, 0, none⟩), .pointer (some ⟨oc, 0, none⟩), .pointer (some ⟨bb, 0, none⟩)] w (StepPost b B oc (.slice a n m) n (ex z bound y p) w) := by
  obtain ⟨Av, cv, rfl⟩ := ho.slice
  have o0 := hoc.c1
  have b0 := hbb.c1
  have hx := extend_any b B a n m z y p bound _ w hr hz h0 h1 hm hn hby ho hB hbB hy hg
  clear hr hz hg ho hbb
  go_enter Tryz.func172, Tryz.ntmps172
  go_wp2_with fail
  refine hx.mono ?_
  rintro e w1 ⟨v1, y1, p1, c1, q1, rfl, ho1, hk1, hr1, p10, p11, hs1⟩
  have hoc1 := hoc.ks hk1 (fun h => by rcases h with h | h <;> omega)
  obtain ⟨A1, m1, rfl⟩ := ho1.slice
  clear o0 b0
  have o0 := hoc1.c1
  have o1 := hoc1.free 0
  have hkE := ((Ks.refl (fun k => k = b ∨ k = oc ∨ B ≤ k) w).trans' hk1 (fun i _ h => by rcases h with h | h; exact .inl h; exact .inr (.inr h))).trans (Ks.setCell w1 oc 0 (.slice A1 y1.length m1) (.inr (.inl rfl)))
  go_wp2
  go_end0
  exact ⟨_, y1, p1, c1, q1, rfl, ho1.far (p := ⟨oc, 0, none⟩) hoB _, hoc1.set 0 _, hkE, hr1.kp (Kp.setCell _ oc 0 _) hob.symm, p10, p11, hs1⟩
end Go.Proofs.YtlealkfkddhnnaaGreat.Cur
namespace Go.Proofs.YtlealkfkddhnnaaGreat.Cur
open Go.RowKit Mem
set_option linter.unusedVariables false
def rdm (n b : Nat) (w : World) : Nat := match w.cell? ⟨b, 2, none⟩, w.cell? ⟨b, 1, none⟩ with
  | some (.int _ c), some (.int _ p) => if c = 0 then ((n : Int) - p).toNat + 1 else 0
  | _, _ => 0
theorem rdm_of {n b : Nat} {w : World} {s : Value} {p c q : Int} (h : IsRd w b s p c q) : rdm n b w = if c = 0 then ((n : Int) - p).toNat + 1 else 0 := by
  obtain ⟨_, c1, c2, _⟩ := h.cells
  unfold rdm
  rw [c1, c2]
theorem exv_good {z : List Int} {bound : Int} {k : Nat} {p : Int} {y : List Int} (e : exg z bound = exs z bound k p y) (h : (z.length : Int) ≤ p) : exv z bound = (y, 0, 0) := by
  unfold exv; rw [e, exs_stop h]; rfl
theorem exv_bad {z : List Int} {bound c q : Int} (h : (exg z bound).2.2.1 = c ∧ (exg z bound).2.2.2 = q) (hc : c ≠ 0) : exv z bound = ([], c, q) := by
  unfold exv; rw [h.1, h.2, if_neg hc]
def VisPost (oc : Nat) (g : List Int × Int × Int) (w : World) (e : Ending) (w' : World) : Prop :=
  ∃ v y c q, e = .returned (.agg #[.int .i64 c, .int .i64 q]) ∧ Own w' w.heap.size v y ∧ Blk w' oc #[v] 28 ∧ Ks (fun k => k = oc) w w' ∧ ((c = 0 ∧ g = (y, 0, 0) ∧ q = 0) ∨ (c ≠ 0 ∧ g = ([], c, q)))
def VJ (a : Option Addr) (n m oc bb : Nat) (z : List Int) (bound : Int) (R : Int → List Int → Prop) (w : World) (a' : Act) (wr : World) : Prop :=
  ∃ (k : Nat) (p c q : Int) (y : List Int) (v u6 u7 u8 u9 u10 u11 u12 u13 u14 u15 u16 u17 u18 u19 : Value), a' = { tmps := #[.slice a n m, .func (.func 172) #[] #[.pointer (some ⟨oc, 0, none⟩), .pointer (some ⟨bb, 0, none⟩)], undef, undef, .pointer (some ⟨w.heap.size, 0, none⟩), .pointer (some ⟨w.heap.size + 1, 0, none⟩), u6, u7, u8, u9, u10, u11, u12, u13, u14, u15, u16, u17, u18, u19], defers := [] } ∧
    Own wr (w.heap.size + 2) v y ∧ Blk wr oc #[v] 28 ∧ Blk wr bb #[.int .i64 bound] 3 ∧ IsRd wr (w.heap.size + 1) (.slice a n n) p c q ∧ Blk wr w.heap.size #[.int .i64 0, .int .i64 0] 48 ∧ Ks (fun k => k = oc) w wr ∧ 0 ≤ p ∧ p ≤ n ∧
    ((c = 0 ∧ q = 0 ∧ Hid (R p y) ∧ Hid ((n : Int) - p < k ∧ exg z bound = exs z bound k p y)) ∨ (c ≠ 0 ∧ Hid ((exg z bound).2.2.1 = c ∧ (exg z bound).2.2.2 = q)))
set_option maxRecDepth 100000 in
set_option maxHeartbeats 4000000 in
theorem visit_byte (a : Option Addr) (n m oc bb : Nat) (z : List Int) (bound : Int) (R : Int → List Int → Prop) (w : World) (hz : Bs w a n z) (hm : n ≤ m) (hn : n ≤ 100000) (hby : ∀ x ∈ z, 0 ≤ x ∧ x < 256)
    (hoc : Blk w oc #[.slice none 0 0] 28) (hbb : Blk w bb #[.int .i64 bound] 3) (hzo : 0 < n → ∀ A, a = some A → ¬ A.block = oc)
    (hR0 : R 0 []) (hRs : ∀ p y, R p y → 0 ≤ p → p < n → (ex z bound y p).2.2.1 = 0 → R (ex z bound y p).2.1 (ex z bound y p).1) (hRl : ∀ p y, R p y → y.length ≤ 800000) :
    Calls Tryz.prog 171 #[.slice a n m, .func (.func 172) #[] #[.pointer (some ⟨oc, 0, none⟩), .pointer (some ⟨bb, 0, none⟩)]] w (VisPost oc (exv z bound) w) := by
  have HBY := Lib.hid hby
  have HZO := Lib.hid hzo
  have HR0 := Lib.hid hR0
  have HRS := Lib.hid hRs
  have HRL := Lib.hid hRl
  have hzl := hz.1
  have hocl := hoc.lt
  have hbbl := hbb.lt
  have hob : bb ≠ oc := by
    intro e
    subst e
    have h1 := hoc.c1
    rw [hbb.c1] at h1
    injection h1 with h1
    cases h1
  have hF := Blk.new w #[.int .i64 0, .int .i64 0] 48
  have hbF := below_one w (.cells #[.int .i64 0, .int .i64 0] 48)
  clear hby hzo hR0 hRs hRl
  go_enter Tryz.func171, Tryz.ntmps171
  go_wp2
  refine jumps_skip 0 (VJ a n m oc bb z bound R w) (fun _ wr => rdm n (w.heap.size + 1) wr) rfl ?_ ?_
  · intro key
    have KEY := Lib.hid key
    clear key
    go_wp2_with fail
    refine (new_any _ _ _ _ hm).mono ?_
    rintro e w1 ⟨rfl, hb1, hsz, hr1⟩
    rw [show (w.alloc (.cells #[.int .i64 0, .int .i64 0] 48)).heap.size = w.heap.size + 1 by simp] at hr1 ⊢
    have hF1 := hF.below hb1
    have hoc1 := (hoc.below hbF).below hb1
    have hbb1 := (hbb.below hbF).below hb1
    have hk1 := (Ks.of_below (S := fun k => k = oc) hbF).trans (Ks.of_below hb1)
    clear hb1
    go_wp2_with fail
    go_step3
    rename_i Kq hKq
    refine hKq _ _ (KEY.out _ _ ?_)
    exact ⟨z.length + 1, 0, 0, 0, [], _, _, _, _, _, _, _, _, _, _, _, _, _, _, _, rfl, Own.nil _ _, hoc1, hbb1, hr1, hF1, hk1, by omega, by omega, .inl ⟨rfl, rfl, HR0, Lib.hid ⟨by omega, rfl⟩⟩⟩
  · clear hF hbF hoc hbb
    rintro a' wr ⟨k, p, c, q, y, v, u6, u7, u8, u9, u10, u11, u12, u13, u14, u15, u16, u17, u18, u19, rfl, ho, hoc, hbb, hr, hF, hks, h0, h1, hst⟩
    obtain ⟨Av, cv, rfl, _⟩ := ho.parts
    rcases hst with ⟨rfl, rfl, HR, HE⟩ | ⟨hc, HE⟩
    · go_wp2_with fail
      refine (good_any _ _ _ _ _ _ hr).mono ?_
      rintro e w1 ⟨rfl, hb1⟩
      rw [show ((0 : Int) == 0) = true from rfl]
      have hmz := rdm_of (n := n) hr
      replace ho : Own _ (w.heap.size + 2) _ y := ho.below hb1
      replace hoc := hoc.below hb1
      replace hbb := hbb.below hb1
      replace hr := hr.below hb1
      replace hF := hF.below hb1
      replace hks := hks.trans (Ks.of_below hb1)
      clear hb1
      go_wp2_with fail
      refine (left_any _ _ _ _ _ _ _ _ hr h0 h1 (by omega)).mono ?_
      rintro e w2 ⟨rfl, j, rfl⟩
      have hb2 := below_drewN (Below.refl w1.heap.size w1) j
      replace ho : Own _ (w.heap.size + 2) _ y := ho.below hb2
      replace hoc := hoc.below hb2
      replace hbb := hbb.below hb2
      replace hr := hr.below hb2
      replace hF := hF.below hb2
      replace hks := hks.trans (Ks.of_below hb2)
      clear hb2
      generalize w1.drewN j = w2 at *
      by_cases hpn : p = n
      · have hng : ¬ 0 < (n : Int) - p := by omega
        have HX := Lib.hid (exv_good HE.out.2 (by omega))
        clear hmz hpn
        go_wp2_with fail
        refine (fault_any _ _ _ _ _ _ hr).mono ?_
        rintro e w3 ⟨rfl, hb3⟩
        replace ho : Own _ (w.heap.size + 2) _ y := ho.below hb3
        replace hoc := hoc.below hb3
        replace hbb := hbb.below hb3
        replace hr := hr.below hb3
        replace hF := hF.below hb3
        replace hks := hks.trans (Ks.of_below hb3)
        clear hb3
        obtain ⟨f0, f1⟩ := hF.c2
        obtain ⟨g0, g1⟩ := hF.f2
        go_wp2
        simp only [Exit.jump]
        refine bodyPost_ret (v := .agg #[.int .i64 0, .int .i64 0]) (by simp [results, Tryz.results171, go_sem, f0, f1]) rfl ⟨.slice Av y.length cv, y, 0, 0, rfl, ?_, ?_, ?_, .inl ⟨rfl, HX.out, rfl⟩⟩
        · exact (Own.far (p := ⟨w.heap.size, 1, none⟩) (Own.far (p := ⟨w.heap.size, 0, none⟩) ho (by show w.heap.size < w.heap.size + 2; omega) _) (by show w.heap.size < w.heap.size + 2; omega) _).base (fun g hg => by have := Own.ge ho g hg; omega)
        · exact (hoc.far 0 _ (by omega)).far 1 _ (by omega)
        · exact (hks.trans' (Ks.setCell (S := fun k => k = w.heap.size) w3 w.heap.size 0 _ rfl) (fun i hi e => by omega)).trans' (Ks.setCell (S := fun k => k = w.heap.size) _ w.heap.size 1 _ rfl) (fun i hi e => by omega)
      · have hgt : 0 < (n : Int) - p := by omega
        obtain ⟨k, rfl⟩ : ∃ k', k = k' + 1 := ⟨k - 1, by have := HE.out.1; omega⟩
        have hlt : p < n := by omega
        have hB : w.heap.size + 2 ≤ w2.heap.size := hr.lt
        have hz2 := hz.ks hks HZO.out
        have hst := step_byte (w.heap.size + 1) (w.heap.size + 2) oc bb a n n z y p bound _ w2 hr hz2 h0 h1 (Nat.le_refl _) hn HBY.out ho hB (Nat.lt_succ_self _) (HRL.out _ _ HR.out) (fun h => HRL.out _ _ (HRS.out _ _ HR.out h0 hlt h)) hoc hbb (by omega) (by omega)
        have HLT := Lib.hid hlt
        clear hpn hlt
        go_wp2_with fail
        refine hst.mono ?_
        rintro e w3 ⟨v3, y3, p3, c3, q3, rfl, ho3, hoc3, hk3, hr3, p30, p31, hs3⟩
        have hbb3 := hbb.ks hk3 (fun h => by omega)
        have hF3 := hF.ks hk3 (fun h => by omega)
        have hks3 := hks.trans' hk3 (fun i hi h => by omega)
        have hm3 := rdm_of (n := n) hr3
        clear hst hk3 ho hoc hbb hr hF hks hz2
        go_wp2_with fail
        go_step3
        refine ⟨rfl, ⟨k, p3, c3, q3, y3, _, _, _, _, _, _, _, _, _, _, _, _, _, _, _, rfl, ho3, hoc3, hbb3, hr3, hF3, hks3, p30, p31, ?_⟩, ?_⟩
        · rcases hs3 with ⟨s1, rfl, rfl, rfl, rfl⟩ | ⟨s1, rfl, rfl⟩
          · obtain ⟨e1, e2, e3⟩ := ex_ok HBY.out h0 (by have := HLT.out; omega) s1
            refine .inl ⟨rfl, rfl, Lib.hid (HRS.out _ _ HR.out h0 HLT.out s1), Lib.hid ⟨by have := HE.out.1; omega, ?_⟩⟩
            rw [HE.out.2, exs_step (by have := HLT.out; omega), Rs.bind_of e3]
          · refine .inr ⟨s1, Lib.hid ?_⟩
            rw [HE.out.2, exs_step (by have := HLT.out; omega), Rs.bind_bad s1]
            exact ⟨rfl, rfl⟩
        · show rdm n (w.heap.size + 1) w3 < rdm n (w.heap.size + 1) wr
          rw [hm3, hmz, if_pos trivial]
          have hlt := HLT.out
          rcases hs3 with ⟨s1, rfl, rfl, rfl, rfl⟩ | ⟨s1, rfl, rfl⟩
          · obtain ⟨e1, e2, e3⟩ := ex_ok HBY.out h0 (by omega) s1
            rw [if_pos rfl]
            omega
          · rw [if_neg s1]
            omega
    · have hcb : (c == 0) = false := by simpa using hc
      have HX := Lib.hid (exv_bad HE.out hc)
      have HC := Lib.hid hc
      clear hc
      go_wp2_with fail
      refine (good_any _ _ _ _ _ _ hr).mono ?_
      rintro e w1 ⟨rfl, hb1⟩
      rw [hcb]
      replace ho : Own _ (w.heap.size + 2) _ y := ho.below hb1
      replace hoc := hoc.below hb1
      replace hbb := hbb.below hb1
      replace hr := hr.below hb1
      replace hF := hF.below hb1
      replace hks := hks.trans (Ks.of_below hb1)
      clear hb1
      go_wp2_with fail
      refine (fault_any _ _ _ _ _ _ hr).mono ?_
      rintro e w3 ⟨rfl, hb3⟩
      replace ho : Own _ (w.heap.size + 2) _ y := ho.below hb3
      replace hoc := hoc.below hb3
      replace hbb := hbb.below hb3
      replace hr := hr.below hb3
      replace hF := hF.below hb3
      replace hks := hks.trans (Ks.of_below hb3)
      clear hb3
      obtain ⟨f0, f1⟩ := hF.c2
      obtain ⟨g0, g1⟩ := hF.f2
      go_wp2
      simp only [Exit.jump]
      refine bodyPost_ret (v := .agg #[.int .i64 c, .int .i64 q]) (by simp [results, Tryz.results171, go_sem, f0, f1]) rfl ⟨.slice Av y.length cv, y, c, q, rfl, ?_, ?_, ?_, .inr ⟨HC.out, HX.out⟩⟩
      · exact (Own.far (p := ⟨w.heap.size, 1, none⟩) (Own.far (p := ⟨w.heap.size, 0, none⟩) ho (by show w.heap.size < w.heap.size + 2; omega) _) (by show w.heap.size < w.heap.size + 2; omega) _).base (fun g hg => by have := Own.ge ho g hg; omega)
      · exact (hoc.far 0 _ (by omega)).far 1 _ (by omega)
      · exact (hks.trans' (Ks.setCell (S := fun k => k = w.heap.size) w3 w.heap.size 0 _ rfl) (fun i hi e => by omega)).trans' (Ks.setCell (S := fun k => k = w.heap.size) _ w.heap.size 1 _ rfl) (fun i hi e => by omega)
end Go.Proofs.YtlealkfkddhnnaaGreat.Cur
namespace Go.Proofs.YtlealkfkddhnnaaGreat.Cur
open Go.RowKit Mem
set_option linter.unusedVariables false
theorem ex_len {z : List Int} {bound : Int} {y : List Int} {p : Int} (hby : ∀ x ∈ z, 0 ≤ x ∧ x < 256) (h0 : 0 ≤ p) (h1 : p ≤ z.length) (h : (ex z bound y p).2.2.1 = 0) :
    ((ex z bound y p).1.length : Int) = y.length + (hd z p).1.2 ∧ ((ex z bound y p).1.length : Int) ≤ bound := by
  obtain ⟨g1, g2⟩ := Rs.bind_ok h
  obtain ⟨r1, r2⟩ := hd_rng hby g1
  obtain ⟨l1, l2⟩ := hd_pl hby h0 h1 g1
  have e : ex z bound y p = if bound < (y.length : Int) + (hd z p).1.2 then ([], 0, 11, p) else (trb z (hd z p).1 (hd z p).2.1).bind [] fun t p2 => if (y.length : Int) < t.2.1 then ([], 0, 10, (hd z p).2.1) else (agn 0 id (y ++ t.1) t.2.1 t.2.2.toNat, p2, 0, 0) := g2
  by_cases hov : bound < (y.length : Int) + (hd z p).1.2
  · rw [if_pos hov] at e
    rw [e] at h
    exact absurd h (by show ¬ (11 : Int) = 0; decide)
  · rw [if_neg hov] at e
    rw [e] at h
    obtain ⟨t1, t2⟩ := Rs.bind_ok h
    have hl := trb_len (cp := (hd z p).1.1) (k := (hd z p).1.2) (by omega) l2 (by omega) t1
    rw [t2] at e h
    by_cases hof : (y.length : Int) < (trb z (hd z p).1 (hd z p).2.1).1.2.1
    · rw [if_pos hof] at h
      exact absurd h (by show ¬ (10 : Int) = 0; decide)
    · rw [if_neg hof] at e
      rw [e]
      show ((agn _ _ _ _ _).length : Int) = _ ∧ ((agn _ _ _ _ _).length : Int) ≤ _
      rw [agn_length, List.length_append]
      have hl' : ((trb z (hd z p).1 (hd z p).2.1).1.1.length : Int) + ((trb z (hd z p).1 (hd z p).2.1).1.2.2.toNat : Int) = (hd z p).1.2 := hl
      omega
set_option maxRecDepth 100000 in
set_option maxHeartbeats 2000000 in
theorem ebytes_any (a : Option Addr) (n m : Nat) (z : List Int) (bound : Int) (R : Int → List Int → Prop) (w : World) (hz : Bs w a n z) (hm : n ≤ m) (hn : n ≤ 100000) (hby : ∀ x ∈ z, 0 ≤ x ∧ x < 256)
    (hR0 : R 0 []) (hRs : ∀ p y, R p y → 0 ≤ p → p < n → (ex z bound y p).2.2.1 = 0 → R (ex z bound y p).2.1 (ex z bound y p).1) (hRl : ∀ p y, R p y → y.length ≤ 800000) :
    Calls Tryz.prog 155 #[.slice a n m, .int .i64 bound] w (XpPost (exv z bound) w) := by
  have hX := ((Blk.new w #[.int .i64 bound] 3).alloc (.cells #[.int .i64 0, .int .i64 0] 48)).alloc (.cells #[.slice none 0 0] 28)
  have hF := (Blk.new (w.alloc (.cells #[.int .i64 bound] 3)) #[.int .i64 0, .int .i64 0] 48).alloc (.cells #[.slice none 0 0] 28)
  have hO := Blk.new ((w.alloc (.cells #[.int .i64 bound] 3)).alloc (.cells #[.int .i64 0, .int .i64 0] 48)) #[.slice none 0 0] 28
  rw [show (w.alloc (.cells #[.int .i64 bound] 3)).heap.size = w.heap.size + 1 by simp] at hF
  rw [show ((w.alloc (.cells #[.int .i64 bound] 3)).alloc (.cells #[.int .i64 0, .int .i64 0] 48)).heap.size = w.heap.size + 2 by simp] at hO
  have hb3 : Below w.heap.size w (((w.alloc (.cells #[.int .i64 bound] 3)).alloc (.cells #[.int .i64 0, .int .i64 0] 48)).alloc (.cells #[.slice none 0 0] 28)) := by
    have h2 := below_two w (.cells #[.int .i64 bound] 3) (.cells #[.int .i64 0, .int .i64 0] 48)
    exact h2.alloc h2.size _
  have hz3 := hz.below hb3
  have hsz : (((w.alloc (.cells #[.int .i64 bound] 3)).alloc (.cells #[.int .i64 0, .int .i64 0] 48)).alloc (.cells #[.slice none 0 0] 28)).heap.size = w.heap.size + 3 := by simp
  have hv := visit_byte a n m (w.heap.size + 2) w.heap.size z bound R _ hz3 hm hn hby hO hX (fun h A hA e => by have := hz.lt h A hA; omega) hR0 hRs hRl
  have HSH : Hid (∀ y q, exv z bound = (y, 0, q) → q = 0) := Lib.hid (fun y q h => by
    unfold exv at h
    split at h
    · injection h with _ h; injection h with _ h; exact h.symm
    · rename_i h1; injection h with _ h; injection h with h _; exact absurd h h1)
  clear hz hz3 hby hR0 hRs hRl
  generalize exv z bound = g at *
  go_enter Tryz.func155, Tryz.ntmps155
  go_wp2_with fail
  generalize (((w.alloc (.cells #[.int .i64 bound] 3)).alloc (.cells #[.int .i64 0, .int .i64 0] 48)).alloc (.cells #[.slice none 0 0] 28)) = w1 at *
  refine hv.mono ?_
  rintro e w2 ⟨v, y, c, q, rfl, ho, hO2, hk, hg⟩
  rw [hsz] at ho
  have hF2 := hF.ks hk (by omega)
  have hbd := Ks.below hb3 (Nat.le_refl _) hk (fun k e => by omega)
  replace ho := ho.base (B' := w.heap.size + 2) (fun g hg => by have := Own.ge ho g hg; omega)
  have hG := Blk.new w2 #[.int .i64 c, .int .i64 q] 48
  have hbG := below_one w2 (.cells #[.int .i64 c, .int .i64 q] 48)
  replace hF2 := hF2.below hbG
  replace hO2 := hO2.below hbG
  replace ho := ho.below hbG
  replace hbd := hbd.trans (hbG.mono hbd.size)
  obtain ⟨x0, x1⟩ := hG.c2
  clear hbG hk hX hF hO hv
  go_wp2_with fail
  refine (fgood_any _ _ _).mono ?_
  rintro e w3 ⟨rfl, hb3⟩
  replace hG := hG.below hb3
  replace hF2 := hF2.below hb3
  replace hO2 := hO2.below hb3
  replace ho := ho.below hb3
  replace hbd := hbd.trans (hb3.mono hbd.size)
  obtain ⟨f0, f1⟩ := hF2.c2
  obtain ⟨g0, g1⟩ := hF2.f2
  have hFl := hF2.lt
  have hGl := hG.lt
  obtain ⟨Av, cv, rfl⟩ := ho.slice
  have o0 := hO2.c1
  clear x0 x1
  obtain ⟨x0, x1⟩ := hG.c2
  clear hb3
  rcases hg with ⟨rfl, rfl, rfl⟩ | ⟨hc, rfl⟩
  · rw [show ((0 : Int) == 0) = true from rfl]
    go_wp2
    go_region
    go_wp2
    refine bodyPost_ret (v := .tuple #[.slice Av y.length cv, .agg #[.int .i64 0, .int .i64 0]]) (by simp [results, Tryz.results155, go_sem, f0, f1]) rfl ⟨_, rfl, ?_, ?_⟩
    · exact (Own.far (p := ⟨w.heap.size + 1, 1, none⟩) (Own.far (p := ⟨w.heap.size + 1, 0, none⟩) ho (by show w.heap.size + 1 < w.heap.size + 2; omega) _) (by show w.heap.size + 1 < w.heap.size + 2; omega) _).base (fun g hg => by have := Own.ge ho g hg; omega)
    · exact (hbd.drew.setCell (by show w.heap.size ≤ w.heap.size + 1; omega) _).setCell (by show w.heap.size ≤ w.heap.size + 1; omega) _
  · rw [show (c == 0) = false by simpa using hc]
    clear hc
    go_wp2
    go_region
    go_wp2
    refine bodyPost_ret (v := .tuple #[.slice none 0 0, .agg #[.int .i64 c, .int .i64 q]]) (by simp [results, Tryz.results155, go_sem, f0, f1]) rfl ⟨_, rfl, ?_, ?_⟩
    · exact Own.nil _ _
    · exact (hbd.drew.setCell (by show w.heap.size ≤ w.heap.size + 1; omega) _).setCell (by show w.heap.size ≤ w.heap.size + 1; omega) _
end Go.Proofs.YtlealkfkddhnnaaGreat.Cur
namespace Go.Proofs.YtlealkfkddhnnaaGreat.Cur
open Go.RowKit Mem
set_option linter.unusedVariables false
end Go.Proofs.YtlealkfkddhnnaaGreat.Cur
namespace Go.Proofs.YtlealkfkddhnnaaGreat.Cur
open Go.RowKit Mem
set_option linter.unusedVariables false
end Go.Proofs.YtlealkfkddhnnaaGreat.Cur
namespace Go.Proofs.YtlealkfkddhnnaaGreat.Cur
open Go.RowKit Mem
set_option linter.unusedVariables false
def hv (x : Int) : Int := if (hdv x).2 ≤ 1048576 then (hdv x).2 else 0
theorem rhead_any (x : Int) (w : World) (x0 : 0 ≤ x) (x1 : x < 18446744073709551616) : Calls Tryz.prog 133 #[.int .u64 x] w fun e w' => e = .returned (.int .i64 (hv x)) ∧ w = w' := by
  have hm0 : 0 ≤ x % 2 ∧ x % 2 < 2 := by omega
  by_cases hcp : x % 2 = 1
  · have hce : (x % 2 == 0) = false := by simp; omega
    have hco : (x % 2 == 1) = true := by simpa using hcp
    have HV : hv x = if x / 2 + 4 ≤ 1048576 then x / 2 + 4 else 0 := by unfold hv hdv; rw [if_pos hcp]
    by_cases hb : x / 2 ≤ 1048572
    · rw [if_pos (by omega)] at HV
      have HV' := Lib.hid HV
      have e3 : IntKind.i64.wrap (x / 2) = x / 2 := IntWalk.i64_in _ (by omega)
      have e4 : IntKind.i64.wrap (x / 2 + 4) = x / 2 + 4 := IntWalk.i64_in _ (by omega)
      clear hcp HV hm0
      go_enter Tryz.func133, Tryz.ntmps133
      go_wp2
      go_ret
      exact ⟨by rw [HV'.out]; rfl, rfl⟩
    · rw [if_neg (by omega)] at HV
      have HV' := Lib.hid HV
      clear hcp HV hm0
      go_enter Tryz.func133, Tryz.ntmps133
      go_wp2
      go_ret
      exact ⟨by rw [HV'.out]; rfl, rfl⟩
  · have hce : (x % 2 == 0) = true := by simp; omega
    have hco : (x % 2 == 1) = false := by simpa using hcp
    have HV : hv x = if x / 2 + 1 ≤ 1048576 then x / 2 + 1 else 0 := by unfold hv hdv; rw [if_neg hcp]
    by_cases hb : x / 2 < 1048576
    · rw [if_pos (by omega)] at HV
      have HV' := Lib.hid HV
      have e3 : IntKind.i64.wrap (x / 2) = x / 2 := IntWalk.i64_in _ (by omega)
      have e4 : IntKind.i64.wrap (x / 2 + 1) = x / 2 + 1 := IntWalk.i64_in _ (by omega)
      clear hcp HV hm0
      go_enter Tryz.func133, Tryz.ntmps133
      go_wp2
      go_ret
      exact ⟨by rw [HV'.out]; rfl, rfl⟩
    · rw [if_neg (by omega)] at HV
      have HV' := Lib.hid HV
      clear hcp HV hm0
      go_enter Tryz.func133, Tryz.ntmps133
      go_wp2
      go_ret
      exact ⟨by rw [HV'.out]; rfl, rfl⟩
theorem ex_over {z : List Int} {bound : Int} {y : List Int} {p : Int} (h : (hd z p).2.2.1 = 0) (hb : bound < (y.length : Int) + (hd z p).1.2) : ex z bound y p = ([], 0, 11, p) := by
  obtain ⟨v1, v2, e1⟩ := hd_ok' h
  unfold ex
  rw [Rs.bind_of (v := (hd z p).1) (p' := (hd z p).2.1) (by rw [e1]), if_pos hb]
theorem ex_trbad {z : List Int} {bound : Int} {y : List Int} {p : Int} (hn : ¬ ((hd z p).2.2.1 = 0 ∧ bound < (y.length : Int) + (hd z p).1.2)) (h : (tr z p).2.2.1 ≠ 0) :
    (ex z bound y p).2.2.1 = (tr z p).2.2.1 ∧ (ex z bound y p).2.2.2 = (tr z p).2.2.2 := by
  by_cases hh : (hd z p).2.2.1 = 0
  · have hb : ¬ bound < (y.length : Int) + (hd z p).1.2 := fun e => hn ⟨hh, e⟩
    obtain ⟨v1, v2, e1⟩ := hd_ok' hh
    rw [tr_hd hh] at h ⊢
    unfold ex
    rw [Rs.bind_of (v := (hd z p).1) (p' := (hd z p).2.1) (by rw [e1]), if_neg hb, Rs.bind_bad h]
    exact ⟨rfl, rfl⟩
  · unfold ex tr
    rw [Rs.bind_bad hh, Rs.bind_bad hh]
    exact ⟨rfl, rfl⟩
theorem ex_trok {z : List Int} {bound : Int} {y : List Int} {p : Int} (hn : ¬ ((hd z p).2.2.1 = 0 ∧ bound < (y.length : Int) + (hd z p).1.2)) (h : tr z p = ((tr z p).1, (tr z p).2.1, 0, 0)) :
    (vg z p).2.2.1 = 0 ∧ ex z bound y p = if (y.length : Int) < (tr z p).1.2.1 then ([], 0, 10, (vg z p).2.1) else (agn 0 id (y ++ (tr z p).1.1) (tr z p).1.2.1 (tr z p).1.2.2.toNat, (tr z p).2.1, 0, 0) := by
  obtain ⟨hh, _⟩ := Rs.bind_ok (show ((hd z p).bind tk0 (trb z)).2.2.1 = 0 by have : (tr z p).2.2.1 = 0 := by rw [h]
                                                                              exact this)
  have hb : ¬ bound < (y.length : Int) + (hd z p).1.2 := fun e => hn ⟨hh, e⟩
  obtain ⟨v1, v2, e1⟩ := hd_ok' hh
  have h2 := h
  rw [tr_hd hh] at h2
  refine ⟨v1, ?_⟩
  unfold ex
  rw [Rs.bind_of (v := (hd z p).1) (p' := (hd z p).2.1) (by rw [e1]), if_neg hb, Rs.bind_of h2, tr_hd hh, show (hd z p).2.1 = (vg z p).2.1 by rw [e1]]
def LB (n m : Nat) (a : Option Addr) (z : List Int) (bound : Int) (R : Int → List Int → Prop) (w : World) (gk : Nat) (v : Value) (wr : World) : Prop :=
  ∃ (k : Nat) (pk : Int) (y : List Int), Own wr (w.heap.size + 2) v y ∧ Blk wr (w.heap.size + 1) (cvs (.slice a n m) pk 0 0) 50 ∧ Blk wr w.heap.size #[.int .i64 0, .int .i64 0] 48 ∧ Below w.heap.size w wr ∧ 0 ≤ pk ∧ pk ≤ n ∧
    gk = (n - pk).toNat + 1 ∧ Hid (R pk y) ∧ Hid ((n : Int) - pk < k ∧ exg z bound = exs z bound k pk y)
theorem exv_at {z : List Int} {bound : Int} {k : Nat} {p : Int} {y : List Int} (e : exg z bound = exs z bound (k + 1) p y) (h : p < z.length) (hc : (ex z bound y p).2.2.1 ≠ 0) : exv z bound = ([], (ex z bound y p).2.2.1, (ex z bound y p).2.2.2) := by
  refine exv_bad ?_ hc
  rw [e, exs_step h, Rs.bind_bad hc]
  exact ⟨rfl, rfl⟩
theorem hv_bd (x : Int) : hv x ≤ 1048576 := by unfold hv; split <;> omega
theorem hd_hv {z : List Int} {p x p1 : Int} (h : vg z p = (x, p1, 0, 0)) (x0 : 0 ≤ x) : (0 < hv x → hd z p = (hdv x, p1, 0, 0) ∧ (hdv x).2 = hv x) ∧ (¬ 0 < hv x → (hd z p).2.2.1 ≠ 0) := by
  have e : hd z p = if 1048576 < (hdv x).2 then ((false, 0), 0, 2, p) else (hdv x, p1, 0, 0) := by unfold hd; rw [Rs.bind_of h]
  have hp : 0 < (hdv x).2 := by unfold hdv; split <;> (simp only; omega)
  unfold hv
  constructor
  · intro h1
    split at h1
    · rename_i h2; rw [if_pos h2, e, if_neg (by omega)]; exact ⟨rfl, rfl⟩
    · exact absurd h1 (by omega)
  · intro h1
    split at h1
    · exact absurd hp h1
    · rename_i h2; rw [e, if_pos (by omega)]; show ¬ (2 : Int) = 0; decide
set_option maxRecDepth 100000 in
set_option maxHeartbeats 4000000 in
theorem rebytes_any (a : Option Addr) (n m : Nat) (z : List Int) (bound : Int) (R : Int → List Int → Prop) (w : World) (hz : Bs w a n z) (ha : a = none → m = 0) (hm : n ≤ m) (hn : n ≤ 100000) (hby : ∀ x ∈ z, 0 ≤ x ∧ x < 256)
    (hR0 : R 0 []) (hRs : ∀ p y, R p y → 0 ≤ p → p < n → (ex z bound y p).2.2.1 = 0 → R (ex z bound y p).2.1 (ex z bound y p).1) (hRl : ∀ p y, R p y → y.length ≤ 800000) :
    Calls Tryz.prog 102 #[.slice a n m, .int .i64 bound] w (XpPost (exv z bound) w) := by
  have HBY := Lib.hid hby
  have HA := Lib.hid ha
  have HRS := Lib.hid hRs
  have HRL := Lib.hid hRl
  have HR0 := Lib.hid hR0
  clear hby ha hRs hRl hR0
  have hzl := hz.1
  have hF := (Blk.new w #[.int .i64 0, .int .i64 0] 48).alloc (.cells (cvs (.slice a n m) 0 0 0) 50)
  have hC := Blk.new (w.alloc (.cells #[.int .i64 0, .int .i64 0] 48)) (cvs (.slice a n m) 0 0 0) 50
  rw [show (w.alloc (.cells #[.int .i64 0, .int .i64 0] 48)).heap.size = w.heap.size + 1 by simp] at hC
  have hbd := below_two w (.cells #[.int .i64 0, .int .i64 0] 48) (.cells (cvs (.slice a n m) 0 0 0) 50)
  go_enter Tryz.func102, Tryz.ntmps102
  go_wp2
  go_loopg [7] ((n : Nat) + 1) (fun gk v wr => LB n m a z bound R w gk v wr)
  case atStart => exact ⟨z.length + 1, 0, [], Own.nil _ _, hC, hF, hbd, by omega, by omega, by simp, HR0, Lib.hid ⟨by omega, rfl⟩⟩
  case round =>
    clear hC hF hbd HR0
    obtain ⟨k, pk, y, ho, hC, hF, hbd, k0, k1, hg, HR, H⟩ := hrel
    obtain ⟨Aw, cw, rfl, _, hnilw, _⟩ := ho.parts
    obtain ⟨c0, c1, c2, c3⟩ := hC.c4
    by_cases hkn : pk = n
    · have hng : ¬ pk < (n : Int) := by omega
      have HE := Lib.hid (exv_good H.out.2 (by omega))
      obtain ⟨f0, f1⟩ := hF.c2
      obtain ⟨g0, g1⟩ := hF.f2
      clear hkn
      go_wp2
      refine bodyPost_ret (v := .tuple #[.slice Aw y.length cw, .agg #[.int .i64 0, .int .i64 0]]) (by simp [results, Tryz.results102, go_sem, f0, f1]) rfl ⟨_, by rw [HE.out], ?_, ?_⟩
      · rw [HE.out]
        exact (Own.far (p := ⟨w.heap.size, 1, none⟩) (Own.far (p := ⟨w.heap.size, 0, none⟩) ho (by show w.heap.size < w.heap.size + 2; omega) _) (by show w.heap.size < w.heap.size + 2; omega) _).base (fun g hg => by have := Own.ge ho g hg; omega)
      · exact (hbd.setCell (Nat.le_refl _) _).setCell (Nat.le_refl _) _
    · have hgt : pk < (n : Int) := by omega
      have hlt : pk < z.length := by omega
      have HLT := Lib.hid hlt
      obtain ⟨k, rfl⟩ : ∃ k', k = k' + 1 := ⟨k - 1, by have := H.out.1; omega⟩
      have hyl := HRL.out _ _ HR.out
      clear hkn hlt
      go_wp2_with fail
      refine (rread_any _ _ _ _ _ _ _ _ (hz.below hbd) k0 k1 hm (by omega) HBY.out).mono ?_
      rintro e w1 ⟨x, p1, c1', q1, rfl, hb1, hs1⟩
      have hst := hs1.st hz.1 k0 k1 HBY.out
      obtain ⟨x0, x1⟩ := rd_lt hs1 hz.1 k0 k1 HBY.out
      obtain ⟨p10, p11⟩ := hst.place
      have HS := Lib.hid hst
      replace ho := ho.below hb1
      replace hF := hF.below hb1
      replace hC := hC.below hb1
      replace hbd := hbd.trans (hb1.mono hbd.size)
      clear hs1 hst hb1 c0 c1 c2 c3
      have hbD := below_one w1 (.cells (cvs (.slice a n m) p1 c1' q1) 50)
      have hD := Blk.new w1 (cvs (.slice a n m) p1 c1' q1) 50
      replace ho := ho.below hbD
      replace hF := hF.below hbD
      replace hC := hC.below hbD
      replace hbd := hbd.trans (hbD.mono hbd.size)
      obtain ⟨d0, d1, d2, d3⟩ := hD.c4
      obtain ⟨c0, c1, c2, c3⟩ := hC.c4
      clear hbD
      have hvb := hv_bd x
      obtain ⟨hh, hhx⟩ : ∃ hh, hh = hv x := ⟨_, rfl⟩
      rw [← hhx] at hvb
      have HHX := Lib.hid hhx
      clear hhx
      by_cases hc1 : c1' = 0
      · have hcb : (c1' == 0) = true := by simpa using hc1
        subst hc1
        obtain ⟨_, g0, gv, gp, gq⟩ := HS.out.good
        have hvg : vg z pk = (x, p1, 0, 0) := by rw [vg_shape g0, gv, gp]
        obtain ⟨q1', q2'⟩ := hd_hv hvg x0
        rw [← HHX.out] at q1' q2'
        clear g0 gv gp
        by_cases hpos : 0 < hh
        · obtain ⟨r1, r2⟩ := q1' hpos
          have e1 : IntKind.i64.wrap ((y.length : Int) + hh) = y.length + hh := IntWalk.i64_in _ (by omega)
          by_cases hov : bound < (y.length : Int) + hh
          · have HX : Hid (exv z bound = ([], 11, pk)) := Lib.hid (by
              have e := ex_over (z := z) (bound := bound) (y := y) (p := pk) (by rw [r1]) (by rw [r1, r2]; exact hov)
              have := exv_at H.out.2 HLT.out (by rw [e]; show ¬ (11 : Int) = 0; decide)
              rw [this, e])
            have hfq : fq 11 pk = pk := rfl
            clear r1 r2 q1' q2' hvg gq H HS
            go_wp2_with fail
            refine (rhead_any _ _ x0 x1).mono ?_
            rintro e w2 ⟨rfl, rfl⟩
            rw [← HHX.out]
            go_wp2_with fail
            refine (rhead_any _ _ x0 x1).mono ?_
            rintro e w2 ⟨rfl, rfl⟩
            rw [← HHX.out]
            go_wp2_with fail
            refine (rat_any _ _ _).mono ?_
            rintro e w9 ⟨rfl, hb9⟩
            rw [hfq]
            replace hF := hF.below hb9
            replace hbd := hbd.trans (hb9.mono hbd.size)
            clear hb9
            obtain ⟨f0, f1⟩ := hF.c2
            obtain ⟨g0, g1⟩ := hF.f2
            go_wp2
            refine bodyPost_ret (v := .tuple #[.slice none 0 0, .agg #[.int .i64 (11), .int .i64 (pk)]]) (by simp [results, Tryz.results102, go_sem, f0, f1]) rfl ⟨_, by rw [HX.out], by rw [HX.out]; exact Own.nil _ _, ?_⟩
            exact (hbd.setCell (Nat.le_refl _) _).setCell (Nat.le_refl _) _
          · have HN : Hid (¬ ((hd z pk).2.2.1 = 0 ∧ bound < (y.length : Int) + (hd z pk).1.2)) := Lib.hid (fun ⟨_, h⟩ => hov (by rw [r1, r2] at h; exact h))
            clear r1 r2 q1' q2' hvg gq
            go_wp2_with fail
            refine (rhead_any _ _ x0 x1).mono ?_
            rintro e w2 ⟨rfl, rfl⟩
            rw [← HHX.out]
            go_wp2_with fail
            refine (rhead_any _ _ x0 x1).mono ?_
            rintro e w2 ⟨rfl, rfl⟩
            rw [← HHX.out]
            go_wp2_with fail
            clear e1 hov hpos hcb
            refine (rtread_any _ _ _ _ _ _ _ _ (hz.below hbd) HA.out k0 k1 hm (by omega) HBY.out).mono ?_
            rintro e w3 ⟨v, t, p2, c2', q2, rfl, ho3, hb3, hs3⟩
            obtain ⟨p20, p21⟩ := hs3.place
            have HS3 := Lib.hid hs3
            obtain ⟨Au, mu, rfl, _, hnilu, _⟩ := ho3.parts
            replace ho := ho.below hb3
            replace hF := hF.below hb3
            replace hC := hC.below hb3
            replace hD := hD.below hb3
            replace hbd := hbd.trans (hb3.mono hbd.size)
            clear hs3 hb3 c0 c1 c2 c3 d0 d1 d2 d3
            have hDl := hD.lt
            go_upto_region 8 with (fail)
            have hb4 := below_two w3 (.cells (cvs (.slice a n m) p2 c2' q2) 50) (.cells #[.slice Au t.1.length mu, .int .i64 t.2.1, .int .i64 t.2.2] 161)
            have hE := (Blk.new w3 (cvs (.slice a n m) p2 c2' q2) 50).alloc (.cells #[.slice Au t.1.length mu, .int .i64 t.2.1, .int .i64 t.2.2] 161)
            have hX := Blk.new (w3.alloc (.cells (cvs (.slice a n m) p2 c2' q2) 50)) #[.slice Au t.1.length mu, .int .i64 t.2.1, .int .i64 t.2.2] 161
            rw [show (w3.alloc (.cells (cvs (.slice a n m) p2 c2' q2) 50)).heap.size = w3.heap.size + 1 by simp] at hX
            have hC3l := hC.lt
            replace ho := ho.below hb4
            replace ho3 := ho3.below hb4
            replace hF := hF.below hb4
            replace hC := hC.below hb4
            replace hD := hD.below hb4
            replace hbd := hbd.trans (hb4.mono hbd.size)
            generalize (w3.alloc (.cells (cvs (.slice a n m) p2 c2' q2) 50)).alloc (.cells #[.slice Au t.1.length mu, .int .i64 t.2.1, .int .i64 t.2.2] 161) = w4 at *
            clear hb4
            generalize w3.heap.size = X at *
            obtain ⟨e0', e1', e2', e3'⟩ := hE.c4
            by_cases hc2 : c2' = 0
            · have hcb2 : (c2' != 0) = false := by simpa using hc2
              subst hc2
              obtain ⟨_, g0, gv, gp, gq⟩ := HS3.out.good
              obtain ⟨t1, t2, t3, t4, t5, _⟩ := tr_once HBY.out k0 (by omega) g0
              obtain ⟨v1, hex⟩ := ex_trok HN.out t3
              have hp1 := St.pl HS.out v1
              rw [← gv, ← hp1, ← gp] at hex
              rw [← gv] at t4 t5
              rw [← gp] at t1
              subst gq
              have HEX := Lib.hid hex
              have HT4 := Lib.hid t4
              have HT1 := Lib.hid t1
              have hto := t5.2
              clear g0 gv gp t1 t2 t3 t4 t5 v1 hp1 hex HS3 HS
              obtain ⟨x0', x1', x2'⟩ := hX.c3
              obtain ⟨d0, d1, d2, d3⟩ := hD.c4
              by_cases hof : (y.length : Int) < t.2.1
              · have HX : Hid (exv z bound = ([], 10, p1)) := Lib.hid (by
                  have e := HEX.out
                  rw [if_pos hof] at e
                  have := exv_at H.out.2 HLT.out (by rw [e]; show ¬ (10 : Int) = 0; decide)
                  rw [this, e])
                have hfq : fq 10 p1 = p1 := rfl
                clear HEX HT4 H
                go_wp2_with fail
                refine (rat_any _ _ _).mono ?_
                rintro e w9 ⟨rfl, hb9⟩
                rw [hfq]
                replace hF := hF.below hb9
                replace hbd := hbd.trans (hb9.mono hbd.size)
                clear hb9
                obtain ⟨f0, f1⟩ := hF.c2
                obtain ⟨g0, g1⟩ := hF.f2
                go_wp2
                refine bodyPost_ret (v := .tuple #[.slice none 0 0, .agg #[.int .i64 (10), .int .i64 (p1)]]) (by simp [results, Tryz.results102, go_sem, f0, f1]) rfl ⟨_, by rw [HX.out], by rw [HX.out]; exact Own.nil _ _, ?_⟩
                exact (hbd.setCell (Nat.le_refl _) _).setCell (Nat.le_refl _) _
              · have hex := HEX.out
                rw [if_neg hof] at hex
                have hR2 := HRS.out _ _ HR.out k0 hgt (by rw [hex])
                rw [hex] at hR2
                have hyl2 := HRL.out _ _ hR2
                rw [agn_length, List.length_append] at hyl2
                obtain ⟨l0, l4⟩ : 0 ≤ t.2.2 ∧ (0 < t.2.2 → 1 ≤ t.2.1 ∧ t.1.length = 0) := by
                  have h4 := HT4.out
                  unfold tright trun tcpy at h4
                  rw [Bool.or_eq_true, decide_eq_true_eq, decide_eq_true_eq] at h4
                  rcases h4 with h4 | h4
                  · exact ⟨by omega, fun h => by omega⟩
                  · exact ⟨by omega, fun _ => ⟨by omega, by omega⟩⟩
                obtain ⟨ln, hln⟩ := Int.eq_ofNat_of_zero_le l0
                have hln2 : t.2.2.toNat = ln := by rw [hln]; rfl
                rw [hln2] at hR2 hyl2 hex
                have HR2 := Lib.hid hR2
                have HEX2 : Hid (exg z bound = exs z bound k p2 (agn 0 id (y ++ t.1) t.2.1 ln)) := Lib.hid (by rw [H.out.2, exs_step HLT.out, Rs.bind_of hex])
                have hw := erwith_any Aw y.length cw y Au t.1.length mu t.1 t.2.1 ln w4 ho.bs.2 hnilw ho3.bs.2 hnilu (by omega) (fun h => by rw [hln] at l4; have := l4 (by omega); omega)
                rw [← hln] at hw
                have HLN := Lib.hid hln
                have hCl := hC.lt
                clear HEX hex hR2 hln hln2 l0 l4 hyl2 HT4 d0 d1 d2 d3 hyl
                go_wp2_with fail
                refine hw.mono ?_
                rintro e w5 ⟨v2, rfl, ho5, hb5⟩
                replace ho5 := ho5.base (B' := w.heap.size + 2) (fun g hg => by have := Own.ge ho5 g hg; omega)
                replace hF := hF.below hb5
                replace hC := hC.below hb5
                replace hE := hE.below hb5
                replace hbd := hbd.trans (hb5.mono hbd.size)
                clear e0' e1' e2' e3'
                obtain ⟨c0, c1, c2, c3⟩ := hC.c4
                obtain ⟨f0, f1, f2, f3⟩ := hC.f4
                obtain ⟨e0', e1', e2', e3'⟩ := hE.c4
                obtain ⟨hC5, hk5⟩ := set4 hC (.slice a n m) (.int .i64 p2) (.int .i64 0) (.int .i64 0)
                have hF5 := blk_kp hF hk5 (by omega)
                have ho6 : Own _ _ _ (agn 0 id (y ++ t.1) t.2.1 ln) := own_kp ho5 hk5 (ho5.ne_blk hC (by decide))
                have hbd5 := Kp.below hbd (Nat.le_refl _) hk5 (by omega)
                clear hw hb5 ho ho3 hX hD ho5 x0' x1' x2' hF hbd hk5
                go_wp2
                go_roundg ((n - p2).toNat + 1)
                case measure => have := HT1.out; omega
                case rel => exact ⟨k, p2, _, ho6, hC5, hF5, hbd5, p20, p21, rfl, HR2.out, Lib.hid ⟨by have := H.out.1; have := HT1.out; omega, HEX2.out⟩⟩
            · have hcb2 : (c2' != 0) = true := by simpa using hc2
              obtain ⟨g1, g2, g3⟩ := HS3.out.flt hc2
              have HX : Hid (exv z bound = ([], c2', q2)) := Lib.hid (by
                obtain ⟨h1, h2⟩ := ex_trbad HN.out g1
                have := exv_at H.out.2 HLT.out (by rw [h1]; exact g1)
                rw [this, h1, h2, g2, g3])
              clear g1 g2 g3 HS3 HS hc2 H
              obtain ⟨f0, f1⟩ := hF.c2
              obtain ⟨g0, g1⟩ := hF.f2
              go_wp2
              go_region
              go_wp2
              refine bodyPost_ret (v := .tuple #[.slice none 0 0, .agg #[.int .i64 c2', .int .i64 q2]]) (by simp [results, Tryz.results102, go_sem, f0, f1]) rfl ⟨_, by rw [HX.out], by rw [HX.out]; exact Own.nil _ _, ?_⟩
              exact (hbd.drew.setCell (Nat.le_refl _) _).setCell (Nat.le_refl _) _
        · have HN : Hid (¬ ((hd z pk).2.2.1 = 0 ∧ bound < (y.length : Int) + (hd z pk).1.2)) := Lib.hid (fun ⟨h, _⟩ => q2' hpos h)
          clear q1' q2' hvg gq
          go_wp2_with fail
          refine (rhead_any _ _ x0 x1).mono ?_
          rintro e w2 ⟨rfl, rfl⟩
          rw [← HHX.out]
          go_wp2_with fail
          clear hpos hcb
          refine (rtread_any _ _ _ _ _ _ _ _ (hz.below hbd) HA.out k0 k1 hm (by omega) HBY.out).mono ?_
          rintro e w3 ⟨v, t, p2, c2', q2, rfl, ho3, hb3, hs3⟩
          obtain ⟨p20, p21⟩ := hs3.place
          have HS3 := Lib.hid hs3
          obtain ⟨Au, mu, rfl, _, hnilu, _⟩ := ho3.parts
          replace ho := ho.below hb3
          replace hF := hF.below hb3
          replace hC := hC.below hb3
          replace hD := hD.below hb3
          replace hbd := hbd.trans (hb3.mono hbd.size)
          clear hs3 hb3 c0 c1 c2 c3 d0 d1 d2 d3
          have hDl := hD.lt
          go_upto_region 8 with (fail)
          have hb4 := below_two w3 (.cells (cvs (.slice a n m) p2 c2' q2) 50) (.cells #[.slice Au t.1.length mu, .int .i64 t.2.1, .int .i64 t.2.2] 161)
          have hE := (Blk.new w3 (cvs (.slice a n m) p2 c2' q2) 50).alloc (.cells #[.slice Au t.1.length mu, .int .i64 t.2.1, .int .i64 t.2.2] 161)
          have hX := Blk.new (w3.alloc (.cells (cvs (.slice a n m) p2 c2' q2) 50)) #[.slice Au t.1.length mu, .int .i64 t.2.1, .int .i64 t.2.2] 161
          rw [show (w3.alloc (.cells (cvs (.slice a n m) p2 c2' q2) 50)).heap.size = w3.heap.size + 1 by simp] at hX
          have hC3l := hC.lt
          replace ho := ho.below hb4
          replace ho3 := ho3.below hb4
          replace hF := hF.below hb4
          replace hC := hC.below hb4
          replace hD := hD.below hb4
          replace hbd := hbd.trans (hb4.mono hbd.size)
          generalize (w3.alloc (.cells (cvs (.slice a n m) p2 c2' q2) 50)).alloc (.cells #[.slice Au t.1.length mu, .int .i64 t.2.1, .int .i64 t.2.2] 161) = w4 at *
          clear hb4
          generalize w3.heap.size = X at *
          obtain ⟨e0', e1', e2', e3'⟩ := hE.c4
          by_cases hc2 : c2' = 0
          · have hcb2 : (c2' != 0) = false := by simpa using hc2
            subst hc2
            obtain ⟨_, g0, gv, gp, gq⟩ := HS3.out.good
            obtain ⟨t1, t2, t3, t4, t5, _⟩ := tr_once HBY.out k0 (by omega) g0
            obtain ⟨v1, hex⟩ := ex_trok HN.out t3
            have hp1 := St.pl HS.out v1
            rw [← gv, ← hp1, ← gp] at hex
            rw [← gv] at t4 t5
            rw [← gp] at t1
            subst gq
            have HEX := Lib.hid hex
            have HT4 := Lib.hid t4
            have HT1 := Lib.hid t1
            have hto := t5.2
            clear g0 gv gp t1 t2 t3 t4 t5 v1 hp1 hex HS3 HS
            obtain ⟨x0', x1', x2'⟩ := hX.c3
            obtain ⟨d0, d1, d2, d3⟩ := hD.c4
            by_cases hof : (y.length : Int) < t.2.1
            · have HX : Hid (exv z bound = ([], 10, p1)) := Lib.hid (by
                have e := HEX.out
                rw [if_pos hof] at e
                have := exv_at H.out.2 HLT.out (by rw [e]; show ¬ (10 : Int) = 0; decide)
                rw [this, e])
              have hfq : fq 10 p1 = p1 := rfl
              clear HEX HT4 H
              go_wp2_with fail
              refine (rat_any _ _ _).mono ?_
              rintro e w9 ⟨rfl, hb9⟩
              rw [hfq]
              replace hF := hF.below hb9
              replace hbd := hbd.trans (hb9.mono hbd.size)
              clear hb9
              obtain ⟨f0, f1⟩ := hF.c2
              obtain ⟨g0, g1⟩ := hF.f2
              go_wp2
              refine bodyPost_ret (v := .tuple #[.slice none 0 0, .agg #[.int .i64 (10), .int .i64 (p1)]]) (by simp [results, Tryz.results102, go_sem, f0, f1]) rfl ⟨_, by rw [HX.out], by rw [HX.out]; exact Own.nil _ _, ?_⟩
              exact (hbd.setCell (Nat.le_refl _) _).setCell (Nat.le_refl _) _
            · have hex := HEX.out
              rw [if_neg hof] at hex
              have hR2 := HRS.out _ _ HR.out k0 hgt (by rw [hex])
              rw [hex] at hR2
              have hyl2 := HRL.out _ _ hR2
              rw [agn_length, List.length_append] at hyl2
              obtain ⟨l0, l4⟩ : 0 ≤ t.2.2 ∧ (0 < t.2.2 → 1 ≤ t.2.1 ∧ t.1.length = 0) := by
                have h4 := HT4.out
                unfold tright trun tcpy at h4
                rw [Bool.or_eq_true, decide_eq_true_eq, decide_eq_true_eq] at h4
                rcases h4 with h4 | h4
                · exact ⟨by omega, fun h => by omega⟩
                · exact ⟨by omega, fun _ => ⟨by omega, by omega⟩⟩
              obtain ⟨ln, hln⟩ := Int.eq_ofNat_of_zero_le l0
              have hln2 : t.2.2.toNat = ln := by rw [hln]; rfl
              rw [hln2] at hR2 hyl2 hex
              have HR2 := Lib.hid hR2
              have HEX2 : Hid (exg z bound = exs z bound k p2 (agn 0 id (y ++ t.1) t.2.1 ln)) := Lib.hid (by rw [H.out.2, exs_step HLT.out, Rs.bind_of hex])
              have hw := erwith_any Aw y.length cw y Au t.1.length mu t.1 t.2.1 ln w4 ho.bs.2 hnilw ho3.bs.2 hnilu (by omega) (fun h => by rw [hln] at l4; have := l4 (by omega); omega)
              rw [← hln] at hw
              have HLN := Lib.hid hln
              have hCl := hC.lt
              clear HEX hex hR2 hln hln2 l0 l4 hyl2 HT4 d0 d1 d2 d3 hyl
              go_wp2_with fail
              refine hw.mono ?_
              rintro e w5 ⟨v2, rfl, ho5, hb5⟩
              replace ho5 := ho5.base (B' := w.heap.size + 2) (fun g hg => by have := Own.ge ho5 g hg; omega)
              replace hF := hF.below hb5
              replace hC := hC.below hb5
              replace hE := hE.below hb5
              replace hbd := hbd.trans (hb5.mono hbd.size)
              clear e0' e1' e2' e3'
              obtain ⟨c0, c1, c2, c3⟩ := hC.c4
              obtain ⟨f0, f1, f2, f3⟩ := hC.f4
              obtain ⟨e0', e1', e2', e3'⟩ := hE.c4
              obtain ⟨hC5, hk5⟩ := set4 hC (.slice a n m) (.int .i64 p2) (.int .i64 0) (.int .i64 0)
              have hF5 := blk_kp hF hk5 (by omega)
              have ho6 : Own _ _ _ (agn 0 id (y ++ t.1) t.2.1 ln) := own_kp ho5 hk5 (ho5.ne_blk hC (by decide))
              have hbd5 := Kp.below hbd (Nat.le_refl _) hk5 (by omega)
              clear hw hb5 ho ho3 hX hD ho5 x0' x1' x2' hF hbd hk5
              go_wp2
              go_roundg ((n - p2).toNat + 1)
              case measure => have := HT1.out; omega
              case rel => exact ⟨k, p2, _, ho6, hC5, hF5, hbd5, p20, p21, rfl, HR2.out, Lib.hid ⟨by have := H.out.1; have := HT1.out; omega, HEX2.out⟩⟩
          · have hcb2 : (c2' != 0) = true := by simpa using hc2
            obtain ⟨g1, g2, g3⟩ := HS3.out.flt hc2
            have HX : Hid (exv z bound = ([], c2', q2)) := Lib.hid (by
              obtain ⟨h1, h2⟩ := ex_trbad HN.out g1
              have := exv_at H.out.2 HLT.out (by rw [h1]; exact g1)
              rw [this, h1, h2, g2, g3])
            clear g1 g2 g3 HS3 HS hc2 H
            obtain ⟨f0, f1⟩ := hF.c2
            obtain ⟨g0, g1⟩ := hF.f2
            go_wp2
            go_region
            go_wp2
            refine bodyPost_ret (v := .tuple #[.slice none 0 0, .agg #[.int .i64 c2', .int .i64 q2]]) (by simp [results, Tryz.results102, go_sem, f0, f1]) rfl ⟨_, by rw [HX.out], by rw [HX.out]; exact Own.nil _ _, ?_⟩
            exact (hbd.drew.setCell (Nat.le_refl _) _).setCell (Nat.le_refl _) _
      · have hcb : (c1' == 0) = false := by simpa using hc1
        have HN : Hid (¬ ((hd z pk).2.2.1 = 0 ∧ bound < (y.length : Int) + (hd z pk).1.2)) := Lib.hid (fun ⟨h, _⟩ => (HS.out.flt hc1).1 (hd_ok' h).1)
        clear hc1
        go_wp2_with fail
        clear hcb
        refine (rtread_any _ _ _ _ _ _ _ _ (hz.below hbd) HA.out k0 k1 hm (by omega) HBY.out).mono ?_
        rintro e w3 ⟨v, t, p2, c2', q2, rfl, ho3, hb3, hs3⟩
        obtain ⟨p20, p21⟩ := hs3.place
        have HS3 := Lib.hid hs3
        obtain ⟨Au, mu, rfl, _, hnilu, _⟩ := ho3.parts
        replace ho := ho.below hb3
        replace hF := hF.below hb3
        replace hC := hC.below hb3
        replace hD := hD.below hb3
        replace hbd := hbd.trans (hb3.mono hbd.size)
        clear hs3 hb3 c0 c1 c2 c3 d0 d1 d2 d3
        have hDl := hD.lt
        go_upto_region 8 with (fail)
        have hb4 := below_two w3 (.cells (cvs (.slice a n m) p2 c2' q2) 50) (.cells #[.slice Au t.1.length mu, .int .i64 t.2.1, .int .i64 t.2.2] 161)
        have hE := (Blk.new w3 (cvs (.slice a n m) p2 c2' q2) 50).alloc (.cells #[.slice Au t.1.length mu, .int .i64 t.2.1, .int .i64 t.2.2] 161)
        have hX := Blk.new (w3.alloc (.cells (cvs (.slice a n m) p2 c2' q2) 50)) #[.slice Au t.1.length mu, .int .i64 t.2.1, .int .i64 t.2.2] 161
        rw [show (w3.alloc (.cells (cvs (.slice a n m) p2 c2' q2) 50)).heap.size = w3.heap.size + 1 by simp] at hX
        have hC3l := hC.lt
        replace ho := ho.below hb4
        replace ho3 := ho3.below hb4
        replace hF := hF.below hb4
        replace hC := hC.below hb4
        replace hD := hD.below hb4
        replace hbd := hbd.trans (hb4.mono hbd.size)
        generalize (w3.alloc (.cells (cvs (.slice a n m) p2 c2' q2) 50)).alloc (.cells #[.slice Au t.1.length mu, .int .i64 t.2.1, .int .i64 t.2.2] 161) = w4 at *
        clear hb4
        generalize w3.heap.size = X at *
        obtain ⟨e0', e1', e2', e3'⟩ := hE.c4
        by_cases hc2 : c2' = 0
        · have hcb2 : (c2' != 0) = false := by simpa using hc2
          subst hc2
          obtain ⟨_, g0, gv, gp, gq⟩ := HS3.out.good
          obtain ⟨t1, t2, t3, t4, t5, _⟩ := tr_once HBY.out k0 (by omega) g0
          obtain ⟨v1, hex⟩ := ex_trok HN.out t3
          have hp1 := St.pl HS.out v1
          rw [← gv, ← hp1, ← gp] at hex
          rw [← gv] at t4 t5
          rw [← gp] at t1
          subst gq
          have HEX := Lib.hid hex
          have HT4 := Lib.hid t4
          have HT1 := Lib.hid t1
          have hto := t5.2
          clear g0 gv gp t1 t2 t3 t4 t5 v1 hp1 hex HS3 HS
          obtain ⟨x0', x1', x2'⟩ := hX.c3
          obtain ⟨d0, d1, d2, d3⟩ := hD.c4
          by_cases hof : (y.length : Int) < t.2.1
          · have HX : Hid (exv z bound = ([], 10, p1)) := Lib.hid (by
              have e := HEX.out
              rw [if_pos hof] at e
              have := exv_at H.out.2 HLT.out (by rw [e]; show ¬ (10 : Int) = 0; decide)
              rw [this, e])
            have hfq : fq 10 p1 = p1 := rfl
            clear HEX HT4 H
            go_wp2_with fail
            refine (rat_any _ _ _).mono ?_
            rintro e w9 ⟨rfl, hb9⟩
            rw [hfq]
            replace hF := hF.below hb9
            replace hbd := hbd.trans (hb9.mono hbd.size)
            clear hb9
            obtain ⟨f0, f1⟩ := hF.c2
            obtain ⟨g0, g1⟩ := hF.f2
            go_wp2
            refine bodyPost_ret (v := .tuple #[.slice none 0 0, .agg #[.int .i64 (10), .int .i64 (p1)]]) (by simp [results, Tryz.results102, go_sem, f0, f1]) rfl ⟨_, by rw [HX.out], by rw [HX.out]; exact Own.nil _ _, ?_⟩
            exact (hbd.setCell (Nat.le_refl _) _).setCell (Nat.le_refl _) _
          · have hex := HEX.out
            rw [if_neg hof] at hex
            have hR2 := HRS.out _ _ HR.out k0 hgt (by rw [hex])
            rw [hex] at hR2
            have hyl2 := HRL.out _ _ hR2
            rw [agn_length, List.length_append] at hyl2
            obtain ⟨l0, l4⟩ : 0 ≤ t.2.2 ∧ (0 < t.2.2 → 1 ≤ t.2.1 ∧ t.1.length = 0) := by
              have h4 := HT4.out
              unfold tright trun tcpy at h4
              rw [Bool.or_eq_true, decide_eq_true_eq, decide_eq_true_eq] at h4
              rcases h4 with h4 | h4
              · exact ⟨by omega, fun h => by omega⟩
              · exact ⟨by omega, fun _ => ⟨by omega, by omega⟩⟩
            obtain ⟨ln, hln⟩ := Int.eq_ofNat_of_zero_le l0
            have hln2 : t.2.2.toNat = ln := by rw [hln]; rfl
            rw [hln2] at hR2 hyl2 hex
            have HR2 := Lib.hid hR2
            have HEX2 : Hid (exg z bound = exs z bound k p2 (agn 0 id (y ++ t.1) t.2.1 ln)) := Lib.hid (by rw [H.out.2, exs_step HLT.out, Rs.bind_of hex])
            have hw := erwith_any Aw y.length cw y Au t.1.length mu t.1 t.2.1 ln w4 ho.bs.2 hnilw ho3.bs.2 hnilu (by omega) (fun h => by rw [hln] at l4; have := l4 (by omega); omega)
            rw [← hln] at hw
            have HLN := Lib.hid hln
            have hCl := hC.lt
            clear HEX hex hR2 hln hln2 l0 l4 hyl2 HT4 d0 d1 d2 d3 hyl
            go_wp2_with fail
            refine hw.mono ?_
            rintro e w5 ⟨v2, rfl, ho5, hb5⟩
            replace ho5 := ho5.base (B' := w.heap.size + 2) (fun g hg => by have := Own.ge ho5 g hg; omega)
            replace hF := hF.below hb5
            replace hC := hC.below hb5
            replace hE := hE.below hb5
            replace hbd := hbd.trans (hb5.mono hbd.size)
            clear e0' e1' e2' e3'
            obtain ⟨c0, c1, c2, c3⟩ := hC.c4
            obtain ⟨f0, f1, f2, f3⟩ := hC.f4
            obtain ⟨e0', e1', e2', e3'⟩ := hE.c4
            obtain ⟨hC5, hk5⟩ := set4 hC (.slice a n m) (.int .i64 p2) (.int .i64 0) (.int .i64 0)
            have hF5 := blk_kp hF hk5 (by omega)
            have ho6 : Own _ _ _ (agn 0 id (y ++ t.1) t.2.1 ln) := own_kp ho5 hk5 (ho5.ne_blk hC (by decide))
            have hbd5 := Kp.below hbd (Nat.le_refl _) hk5 (by omega)
            clear hw hb5 ho ho3 hX hD ho5 x0' x1' x2' hF hbd hk5
            go_wp2
            go_roundg ((n - p2).toNat + 1)
            case measure => have := HT1.out; omega
            case rel => exact ⟨k, p2, _, ho6, hC5, hF5, hbd5, p20, p21, rfl, HR2.out, Lib.hid ⟨by have := H.out.1; have := HT1.out; omega, HEX2.out⟩⟩
        · have hcb2 : (c2' != 0) = true := by simpa using hc2
          obtain ⟨g1, g2, g3⟩ := HS3.out.flt hc2
          have HX : Hid (exv z bound = ([], c2', q2)) := Lib.hid (by
            obtain ⟨h1, h2⟩ := ex_trbad HN.out g1
            have := exv_at H.out.2 HLT.out (by rw [h1]; exact g1)
            rw [this, h1, h2, g2, g3])
          clear g1 g2 g3 HS3 HS hc2 H
          obtain ⟨f0, f1⟩ := hF.c2
          obtain ⟨g0, g1⟩ := hF.f2
          go_wp2
          go_region
          go_wp2
          refine bodyPost_ret (v := .tuple #[.slice none 0 0, .agg #[.int .i64 c2', .int .i64 q2]]) (by simp [results, Tryz.results102, go_sem, f0, f1]) rfl ⟨_, by rw [HX.out], by rw [HX.out]; exact Own.nil _ _, ?_⟩
          exact (hbd.drew.setCell (Nat.le_refl _) _).setCell (Nat.le_refl _) _
end Go.Proofs.YtlealkfkddhnnaaGreat.Cur
namespace Go.Proofs.YtlealkfkddhnnaaGreat.Cur
open Go.RowKit Mem
set_option linter.unusedVariables false
end Go.Proofs.YtlealkfkddhnnaaGreat.Cur

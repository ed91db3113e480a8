/- Tokens expanded, by the program and by the document: Tokens, With, Tokens. -/
import Derived.Test.YtklkflfdianbpaaExpC
namespace Go.Proofs.Ytklkflfdianbpaa.Cur
open Go.RowKit Mem
set_option linter.unusedVariables false

/-- What tokens make, as bytes. -/
abbrev xpb (T : List Tk) (bound : Int) (k : Nat) : List Int × Int × Int := xp (fun k => (T.getD k tk0).1) 0 id T bound k

set_option maxHeartbeats 1000000 in
theorem etokens_any (A : Option Addr) (n m : Nat) (T : List Tk) (bound : Int) (w : World) (hT : TksL w A n T) (hok : ∀ t ∈ T, tkok t) (hn : n ≤ 100000) (hb : bound ≤ 800000) :
    Calls Try.prog 9 #[.slice A n m, .int .i64 bound] w (XpPost (xpb T bound n) w) := by
  unfold xpb
  have hX := (Blk.new w #[.slice A n m] 22).alloc (.cells #[.int .i64 0, .int .i64 0] 28)
  have hF := Blk.new (w.alloc (.cells #[.slice A n m] 22)) #[.int .i64 0, .int .i64 0] 28
  rw [show (w.alloc (.cells #[.slice A n m] 22)).heap.size = w.heap.size + 1 by simp] at hF
  have hb2 := below_two w (.cells #[.slice A n m] 22) (.cells #[.int .i64 0, .int .i64 0] 28)
  have x0 := hX.c1
  have hT2 := hT.below hb2
  have hbld := build_byte A n m _ T bound _ hT2 hX hok hn hb
  generalize xp (fun k => (T.getD k tk0).1) 0 id T bound n = g at *
  go_enter Try.func9, Try.ntmps9
  go_wp2_with fail
  refine hbld.mono ?_
  rintro e w1 ⟨v, rfl, ho, hb1⟩
  replace hF := hF.below hb1
  have hbd := hb2.trans (hb1.mono hb2.size)
  obtain ⟨f0, f1⟩ := hF.c2
  obtain ⟨g0, g1⟩ := hF.f2
  have hsz : w.heap.size + 2 ≤ ((w.alloc (.cells #[.slice A n m] 22)).alloc (.cells #[.int .i64 0, .int .i64 0] 28)).heap.size := by simp
  replace ho := ho.base (B' := w.heap.size + 2) (fun g hg => by have := Own.ge ho g hg; omega)
  obtain ⟨Av, cv, rfl⟩ := ho.slice
  clear hX hT hT2 hb2 hb1 x0
  go_wp2
  refine bodyPost_ret (v := .tuple #[.slice Av g.1.length cv, .agg #[.int .i64 g.2.1, .int .i64 g.2.2]]) (by simp [results, Try.results9, go_sem, f0, f1]) rfl ⟨_, rfl, ?_, ?_⟩
  · exact (Own.far (p := ⟨w.heap.size + 1, 1, none⟩) (Own.far (p := ⟨w.heap.size + 1, 0, none⟩) ho (by show w.heap.size + 1 < w.heap.size + 2; omega) _) (by show w.heap.size + 1 < w.heap.size + 2; omega) _).base (fun g hg => by have := Own.ge ho g hg; omega)
  · exact (hbd.setCell (by show w.heap.size ≤ w.heap.size + 1; omega) _).setCell (by show w.heap.size ≤ w.heap.size + 1; omega) _

def EWPost (g : List Int) (w : World) (e : Ending) (w' : World) : Prop := ∃ v, e = .returned v ∧ Own w' w.heap.size v g ∧ Below w.heap.size w w'

set_option maxRecDepth 100000 in
set_option maxHeartbeats 2000000 in
theorem rwith_any (A : Option Addr) (n m : Nat) (z : List Int) (Ar : Option Addr) (Lr Cr : Nat) (y : List Int) (o : Int) (l : Nat) (w : World) (hz : Bs w A n z) (hA : A = none → m = 0) (hy : Bs w Ar Lr y) (hAr : Ar = none → Cr = 0)
    (hsz : n + Lr + l ≤ 900000) (ho : 0 < l → 1 ≤ o ∧ o ≤ n ∧ Lr = 0) :
    Calls Try.prog 27 #[.slice A n m, tv Ar Lr Cr o l] w (EWPost (agn 0 id (z ++ y) o l) w) := by
  obtain ⟨hX, hB⟩ := tbox w (.slice Ar Lr Cr) (.int .i64 o) (.int .i64 l) 34
  obtain ⟨c0, c1, c2⟩ := hX.c3
  have hz2 := hz.below hB
  have hy2 := hy.below hB
  have hzl := hz.1
  have hyl := hy.1
  have hlt : w.heap.size + 1 ≤ (w.alloc (.cells #[.slice Ar Lr Cr, .int .i64 o, .int .i64 l] 34)).heap.size := by simp
  have H1 : Hid (([] : List Int).length + n ≤ 1000000) := Lib.hid (by simp; omega)
  have H2 : Hid (([] ++ z : List Int).length + Lr ≤ 1000000) := Lib.hid (by simp; omega)
  have HLY : Hid (y.length = Lr) := Lib.hid hyl
  have HLZ : Hid (z.length = n) := Lib.hid hzl
  clear hz hy hzl hyl
  go_enter Try.func27, Try.ntmps27
  go_wp2_with (at_builtin; go_must (first | (refine list_append_gr rfl (.tmp 7) (.tmp 8) rfl (w.heap.size + 1) _ [] rfl (Own.nil _ _) _ n m z rfl hz2 hA H1.out hlt ?_; intro v' w10 ho' hg' hgr; have hX10 := hX.ks (Ks.of_grown (S := fun k => False) hg' (fun k e => by cases e)) (fun h => h); have hy10 := hy2.below (Below.of_grown_none hg'); have hb10 := hB.grown hg' (by simp) (fun k hk => by cases hk); have hlt10 : w.heap.size + 1 ≤ w10.heap.size := hX10.lt; obtain ⟨d0, d1, d2⟩ := hX10.c3; clear hX hy2 hB hg' hgr hz2 c0 c1 c2) | (refine list_append_gr rfl (.tmp 10) (.tmp 12) rfl (w.heap.size + 1) _ ([] ++ z) rfl ho' _ Lr Cr y rfl hy10 hAr H2.out hlt10 ?_; intro v2 w20 ho2 hg2 hgr2; have hge2 := own_ge ho'; have hX20 := hX10.ks (Ks.of_grown (S := fun k => w.heap.size + 1 ≤ k) hg2 hge2) (by omega); have hb20 := hb10.grown hg2 (by omega) (fun k hk => by have := hge2 k hk; omega); clear hX10 hb10 hg2 hgr2 ho' hge2 hy10 d0 d1 d2)))
  rw [List.nil_append] at ho2
  have HLZY : Hid ((z ++ y).length = n + Lr) := Lib.hid (by rw [List.length_append, HLZ.out, HLY.out])
  go_loopw [5, 6] (fun u i wr => ∃ k : Nat, k ≤ l ∧ i = .int .i64 k ∧ Own wr (w.heap.size + 1) u (agn 0 id (z ++ y) o k) ∧ Blk wr w.heap.size #[.slice Ar Lr Cr, .int .i64 o, .int .i64 l] 34 ∧ Below w.heap.size w wr) (fun _ i _ => l - (intOf i).toNat)
  case atStart => exact ⟨0, by omega, rfl, ho2, hX20, hb20⟩
  case round =>
    clear hX20 hb20 ho2
    obtain ⟨k, hk, rfl, hu, hX, hb⟩ := hrel
    obtain ⟨c0, c1, c2⟩ := hX.c3
    obtain ⟨A1, k1, rfl, hbs, hnil, hle⟩ := hu.parts
    by_cases hkl : k < l
    · have hlen : (agn 0 id (z ++ y) o k).length = n + Lr + k := by rw [agn_length, HLZY.out]
      obtain ⟨o1, o2, o3⟩ := ho (by omega)
      subst o3
      obtain ⟨j, hj⟩ : ∃ j : Nat, (n : Int) + k - o = j := ⟨((n : Int) + k - o).toNat, by omega⟩
      have hjl : j < (agn 0 id (z ++ y) o k).length := by omega
      obtain ⟨g, oo, rfl, hc⟩ := hbs.at_ hjl
      have HN : Hid (agn 0 id (z ++ y) o (k + 1) = agn 0 id (z ++ y) o k ++ [(agn 0 id (z ++ y) o k).getD j 0]) := Lib.hid (by rw [agn, HLZY.out, show (((n + 0 + k : Nat) : Int) - o) = j by omega, Int.toNat_natCast]; rfl)
      have e0 : IntKind.i64.wrap ((n : Int) + k) = n + k := IntWalk.i64_in _ (by omega)
      have e1 : IntKind.i64.wrap ((n : Int) + k - o) = j := by rw [hj]; exact IntWalk.i64_in _ (by omega)
      have hyl : (agn 0 id (z ++ y) o k).length ≤ 900000 := by omega
      have HLEN : Hid ((agn 0 id (z ++ y) o k).length + 1 ≤ 1000000) := Lib.hid (by omega)
      clear hlen hj
      generalize agn 0 id (z ++ y) o k = yy at *
      generalize yy.getD j 0 = x at *
      have hbA := below_one wr (.cells #[.int .u8 x] 5)
      have hoA := hu.below hbA
      have hXA := hX.below hbA
      have hbdA := hb.trans (hbA.mono hb.size)
      have hsA : Bs (wr.alloc (.cells #[.int .u8 x] 5)) (some ⟨wr.heap.size, 0, none⟩) 1 [x] := bs_new wr [x] 5
      have hB9 : w.heap.size + 1 ≤ (wr.alloc (.cells #[.int .u8 x] 5)).heap.size := by have := hX.lt; simp; omega
      have hgeA := own_ge hoA
      clear hu hb hbs hbA hX
      go_wp2_with (at_builtin; go_must (refine list_append_bs rfl (.tmp 20) (.tmp 31) rfl (w.heap.size + 1) _ yy rfl hoA _ 1 _ [x] rfl hsA (by simp) HLEN.out hB9 ?_; intro v' w10 ho' hg'; have hX10 := hXA.ks (Ks.of_grown (S := fun k => w.heap.size + 1 ≤ k) hg' hgeA) (by omega); have hbd10 := hbdA.grown hg' (by have := hB9; omega) (fun k hk => by have := hgeA k hk; omega); clear hoA hbdA hgeA hg' hsA hXA))
      go_roundw
      case rel => exact ⟨k + 1, hkl, by go_num, by rw [HN.out]; exact ho', hX10, hbd10⟩
      case measure => simp [intOf]; omega
    · obtain rfl : k = l := by omega
      go_wp2
      go_ret
      exact ⟨_, rfl, hu.base (fun g hg => by have := Own.ge hu g hg; omega), hb⟩
end Go.Proofs.Ytklkflfdianbpaa.Cur

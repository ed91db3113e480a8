/- PenBound: called with any int and any rows of bytes, the law returns true; no condition. -/
import Derived.Test.YtafbmickbgccfaaRows
import Derived.Test.YtafbmickbgccfaaPenL
import Derived.Test.YtafbmickbgccfaaOpenA
import Derived.IntWalk
import Derived.ProofKit
import Derived.OpenShut
import Derived.ShutString
import Derived.ChangeOld
namespace Go.Proofs.Ytafbmickbgccfaa.penBound
open Go.ChangeShapes Go.WideShapes Go.ChangeAt Go.RowKit
open Go.ChangeMaps (open_string shut_string)
set_option linter.unusedVariables false

theorem own : ownKnob Try.prog.godebug = none := by kernel_rfl
theorem laidOut : laidOutB Try.prog = true := by kernel_rfl
open Cur Mem

/-- The first k rows are short. -/
def Short (w : World) (A : Option Addr) (k : Nat) : Prop := ∀ i, i < k → ∀ b o Ar Lr Cr, A = some ⟨b, o, none⟩ → w.cell? ⟨b, o + i, none⟩ = some (.slice Ar Lr Cr) → Lr ≤ 200
theorem Short.next {w : World} {b o k : Nat} {Ar : Option Addr} {Lr Cr : Nat} (h : Short w (some ⟨b, o, none⟩) k) (hc : w.cell? ⟨b, o + k, none⟩ = some (.slice Ar Lr Cr)) (hl : Lr ≤ 200) : Short w (some ⟨b, o, none⟩) (k + 1) := by
  intro i hi b' o' A' L' C' e hc'
  rcases Nat.lt_succ_iff_lt_or_eq.1 hi with h1 | rfl
  · exact h i h1 _ _ _ _ _ e hc'
  · injection e with e; injection e with e1 e2; subst e1 e2
    rw [hc] at hc'; injection hc' with hc'; injection hc' with _ e2 _; omega

/-- A row of the call's own apart from the writer. -/
def Dj (v : Value) (b : Nat) (r : Option Nat) : Prop := ∀ g, v.ownBlock = some g → ¬ WS b r g
theorem Dj.append {w : World} {B b : Nat} {r : Option Nat} {z : List Int} {M c : Int} {v v' : Value} (h : Dj v b r) (hw : Wr w B b r z M c) (hg : Gr v.ownBlock v'.ownBlock w) : Dj v' b r := by
  intro g hv
  rcases hg with e | ⟨g', e, hg⟩
  · exact h g (by rw [← e]; exact hv)
  · rw [e] at hv; injection hv with hv; subst hv; exact hw.off_new hg
theorem Dj.put {w : World} {B b : Nat} {r r' : Option Nat} {z : List Int} {v : Value} (h : Dj v b r) (hv : Own w B v z) (hg : Gr r r' w) : Dj v b r' := by
  intro g hg' hs
  rcases hs with e | e
  · exact h g hg' (.inl e)
  · rcases hg with rfl | ⟨g', e', hge⟩
    · exact h g hg' (.inr e)
    · rw [e'] at e; injection e with e; subst e; have := hv.lt _ hg'; omega

/-- What holds at the head of the second loop. -/
def Rel (b : Nat) (W w : World) (M : Int) (k : Nat) (v : Value) (ov : Bool) : Prop :=
  ∃ r z, Wr w W.heap.size b r z M (if ov = true then 2 else 0) ∧ Own w W.heap.size v z ∧ Dj v b r ∧ z.length ≤ 200 * k ∧ Below W.heap.size W w


set_option maxRecDepth 100000 in
set_option maxHeartbeats 1000000 in
theorem walk {H : Type} (enc : TypeId × Value → H) (w : World) (base : Nat) (v0 : Value) (d0 : DataW H) (p0 : List MemPlace) (g0 : Value.okWide Try.prog w .any base 3 v0) (h0 : DataW.Trod enc Try.prog w 0 (fun _ => true) true 3 v0 d0 p0) (v1 : Value) (d1 : DataW H) (p1 : List MemPlace) (g1 : Value.okWide Try.prog w .any base 49 v1) (h1 : DataW.Trod enc Try.prog w 0 (fun _ => true) true 49 v1 d1 p1) :
    Calls Try.prog 5 #[v0, v1] w fun e w' => e = .returned (.bool true) ∧ Below w.heap.size w w' := by
  obtain ⟨most, rfl, m0, m1⟩ := open_i64 g0 h0
  obtain ⟨A, n, cap, rfl, _, hrows⟩ := open_rows g1 h1
  clear g0 h0 g1 h1
  go_enter Try.func5, Try.ntmps5
  go_wp2_with fail
  go_loop [5] (fun i => ∃ k : Nat, k ≤ n ∧ k ≤ 100 ∧ i = .int .i64 k ∧ Short w A k) (fun i => n - (intOf i).toNat)
  case atStart => exact ⟨0, Nat.zero_le _, Nat.zero_le _, rfl, fun i hi => absurd hi (by omega)⟩
  case round =>
    obtain ⟨k, hk, hk1, rfl, hsh⟩ := hrel
    have k0 : (0 : Int) ≤ k := by omega
    by_cases hlt : k < n ∧ k < 100
    · obtain ⟨l0, l1⟩ := hlt
      obtain ⟨bb, o, Ar, Lr, Cr, z, rfl, hc, _⟩ := hrows k l0
      have l2 : (k : Int) < n := by omega
      have l3 : (k : Int) < 100 := by omega
      have HH := Lib.hid hsh
      clear hsh
      by_cases hl : 200 < (Lr : Int)
      · go_wp2_with fail
        refine (live3_any _).mono ?_
        rintro e w4 ⟨rfl, hb4⟩
        go_wp2
        go_ret
        exact ⟨rfl, hb4⟩
      · have hn := HH.out.next hc (by omega)
        have HN := Lib.hid hn
        clear hn HH
        go_wp2_with fail
        go_round
        case rel => exact ⟨k + 1, by omega, by omega, by go_num, HN.out⟩
        case measure => simp [intOf]; omega
    · have HH := Lib.hid hsh
      clear hsh
      by_cases hn : 100 < (n : Int)
      · have hk' : ¬ (k : Int) < 100 := by omega
        have hkn : (k : Int) < n := by omega
        go_wp2_with fail
        refine (live3_any _).mono ?_
        rintro e w4 ⟨rfl, hb4⟩
        go_wp2
        go_ret
        exact ⟨rfl, hb4⟩
      · have hk' : k = n := by omega
        have hkn : ¬ (k : Int) < n := by omega
        rw [hk'] at HH
        clear hlt hk'
        have hM : ∃ M : Int, 0 ≤ M ∧ M ≤ 9223372036854775807 ∧ M = (if most < 0 then 0 else most) ∧ ((¬ 0 ≤ most ∧ M = 0) ∨ (0 ≤ most ∧ M = most)) := by
          refine ⟨_, ?_, ?_, rfl, ?_⟩ <;> split <;> omega
        obtain ⟨M, M0, M1, hMe, hM⟩ := hM
        have HMe := Lib.hid hMe
        clear hMe
        rcases hM with ⟨hm, e⟩ | ⟨hm, e⟩
        · subst e
          go_wp2_with fail
          refine (wnew_any _ _ m1).mono ?_
          rintro e w1 ⟨b, rfl, hb, hb1, hw1⟩
          rw [← HMe.out] at hw1
          go_wp2_with fail
          go_loopw [7, 8, 9] (fun v o i wr => ∃ (k2 : Nat) (ov : Bool), k2 ≤ n ∧ i = .int .i64 k2 ∧ o = .bool ov ∧ Rel b w wr 0 k2 v ov) (fun _ _ i _ => n - (intOf i).toNat)
          case atStart => exact ⟨0, false, Nat.zero_le _, rfl, rfl, none, [], hw1, Own.nil _ _, fun g hg => by simp [Value.ownBlock] at hg, Nat.zero_le _, hb1⟩
          case round =>
            obtain ⟨k2, ov, hk2, rfl, rfl, r, z, hw, ho, hdj, hzl, hbd⟩ := hrel
            clear hw1 hb1
            obtain rfl : z = [] := List.eq_nil_of_length_eq_zero (by have := hw.most.1; omega)
            simp only [List.length_nil] at hzl
            have k20 : (0 : Int) ≤ k2 := by omega
            by_cases hlt2 : k2 < n
            · obtain ⟨bb, o, Ar, Lr, Cr, y, rfl, hc, hy, hyb, hnil, hle⟩ := hrows k2 hlt2
              have hL : Lr ≤ 200 := HH.out k2 hlt2 _ _ _ _ _ rfl hc
              have hbb := lt_of_cell hc
              have hcell : ∀ wq, Below w.heap.size w wq → wq.cell? ⟨bb, o + k2, none⟩ = some (.slice Ar Lr Cr) := fun wq hb => (hb.cell (p := ⟨bb, _, none⟩) hbb).trans hc
              have hcr := hcell _ hbd
              have hyr := hy.below hbd
              have k21 : (k2 : Int) < n := by omega
              have hoff : 0 < Lr → ∀ a, Ar = some a → ¬ WS b r a.block := fun hn a ha hs => by have := WS.ge hw _ hs; have := hy.lt hn a ha; omega
              have hB := hbd.size
              have hln := hy.1
              subst hln
              clear hc HH hyb
              obtain ⟨A1, c1, rfl⟩ := ho.slice
              rw [List.length_nil] at ho hdj ⊢
              cases ov
              · rw [if_neg (by simp)] at hw
                by_cases hfit : 0 < (y.length : Int)
                · have hfit0 : 0 < y.length := by omega
                  have hp1 : putZ [] y 0 0 = [] := putZ_bad (by rw [List.length_nil]; omega)
                  have hp2 : putC [] y 0 0 = 2 := by unfold putC fitsC; rw [if_pos ⟨rfl, by rw [List.length_nil]; omega⟩]
                  have HP1 := Lib.hid hp1
                  have HP2 := Lib.hid hp2
                  clear hp1 hp2
                  go_wp2_with fail
                  refine (wput_any _ _ _ hw hyr hnil hoff (by simp only [List.length_nil]; omega) hB).mono ?_
                  rintro e w2 ⟨r', rfl, hks, hgr, hw2⟩
                  rw [HP1.out, HP2.out] at hw2
                  have hb2 := hw.belowOf hbd (Nat.le_refl _) hks (Nat.le_refl _)
                  have ho2 := ho.ks hks hdj
                  have hdj2 := hdj.put ho hgr
                  clear hw hks hgr hbd ho hdj hcr hyr hoff hB HP1 HP2
                  go_wp2_with fail
                  refine (wlen_any hw2).mono ?_
                  rintro e w3 ⟨rfl, rfl⟩
                  go_wp2_with fail
                  refine (wlen_any hw2).mono ?_
                  rintro e w3 ⟨rfl, rfl⟩
                  go_wp2_with fail
                  refine (wcode_any hw2).mono ?_
                  rintro e w3 ⟨rfl, rfl⟩
                  go_wp2
                  go_roundw
                  case rel => exact ⟨k2 + 1, true, by omega, by go_num, rfl, r', [], by simpa using hw2, ho2, hdj2, by first | omega | (rw [List.length_append]; omega) | (simp), hb2⟩
                  case measure => simp [intOf]; omega
                · obtain rfl : y = [] := List.eq_nil_of_length_eq_zero (by omega)
                  rw [List.length_nil] at hcell hcr hyr hoff hle hL
                  clear hfit
                  have hp1 : putZ [] [] 0 0 = [] := by decide
                  have hp2 : putC [] [] 0 0 = 0 := by decide
                  have HP1 := Lib.hid hp1
                  have HP2 := Lib.hid hp2
                  clear hp1 hp2
                  go_wp2_with (at_builtin; go_must (refine list_append_gr rfl (.tmp 60) (.tmp 64) rfl w.heap.size (.slice A1 0 c1) [] rfl ho _ _ _ _ rfl hyr hnil (by simp) hB ?_; intro v' w1 ho1 hg1 hgr1; obtain ⟨A3, c3, hv3⟩ := ho1.slice; subst hv3; have k1 := Ks.of_grown (S := fun k => (Value.slice A1 0 c1).ownBlock = some k) hg1 fun k hk => hk; have hw1 := hw.ks k1 (fun i hi => hdj i hi); have hb1 := k1.below hbd (Nat.le_refl _) (fun k hk => ho.ge k hk); have hdj1 := hdj.append hw hgr1; have hyr1 := hy.below hb1; have hc1 := hcell _ hb1; have hB1 := hb1.size; have hoff1 : 0 < 0 → ∀ a, Ar = some a → ¬ WS b r a.block := (fun hn a ha hs => by have := WS.ge hw1 _ hs; have := hy.lt hn a ha; omega); clear hcr hyr hoff hB hw ho hdj hbd hg1 hgr1 k1))
                  refine (wput_any _ _ _ hw1 hyr1 hnil hoff1 (by simp) hB1).mono ?_
                  rintro e w2 ⟨r', rfl, hks, hgr, hw2⟩
                  rw [HP1.out, HP2.out] at hw2
                  have hb2 := hw1.belowOf hb1 (Nat.le_refl _) hks (Nat.le_refl _)
                  have ho2 := ho1.ks hks hdj1
                  have hdj2 := hdj1.put ho1 hgr
                  clear hw1 hks hgr hb1 ho1 hdj1 hc1 hyr1 hoff1 hB1 HP1 HP2
                  go_wp2_with fail
                  refine (wlen_any hw2).mono ?_
                  rintro e w3 ⟨rfl, rfl⟩
                  go_wp2_with fail
                  refine (wlen_any hw2).mono ?_
                  rintro e w3 ⟨rfl, rfl⟩
                  go_wp2_with fail
                  refine (wcode_any hw2).mono ?_
                  rintro e w3 ⟨rfl, rfl⟩
                  go_wp2
                  go_roundw
                  case rel => exact ⟨k2 + 1, false, by omega, by go_num, rfl, r', [], by simpa using hw2, (by simpa using ho2), (by simpa using hdj2), by first | omega | (rw [List.length_append]; omega) | (simp), hb2⟩
                  case measure => simp [intOf]; omega
              · rw [if_pos rfl] at hw
                have hp1 : putZ [] y 0 2 = [] := putZ_bad (by rw [List.length_nil]; omega)
                have hp2 : putC [] y 0 2 = 2 := by unfold putC fitsC; rw [if_neg (by omega)]
                have HP1 := Lib.hid hp1
                have HP2 := Lib.hid hp2
                clear hp1 hp2
                go_wp2_with fail
                refine (wput_any _ _ _ hw hyr hnil hoff (by simp only [List.length_nil]; omega) hB).mono ?_
                rintro e w2 ⟨r', rfl, hks, hgr, hw2⟩
                rw [HP1.out, HP2.out] at hw2
                have hb2 := hw.belowOf hbd (Nat.le_refl _) hks (Nat.le_refl _)
                have ho2 := ho.ks hks hdj
                have hdj2 := hdj.put ho hgr
                clear hw hks hgr hbd ho hdj hcr hyr hoff hB HP1 HP2
                go_wp2_with fail
                refine (wlen_any hw2).mono ?_
                rintro e w3 ⟨rfl, rfl⟩
                go_wp2_with fail
                refine (wlen_any hw2).mono ?_
                rintro e w3 ⟨rfl, rfl⟩
                go_wp2_with fail
                refine (wcode_any hw2).mono ?_
                rintro e w3 ⟨rfl, rfl⟩
                go_wp2
                go_roundw
                case rel => exact ⟨k2 + 1, true, by omega, by go_num, rfl, r', [], by simpa using hw2, ho2, hdj2, by first | omega | (rw [List.length_append]; omega) | (simp), hb2⟩
                case measure => simp [intOf]; omega
            · have hB := hbd.size
              obtain ⟨A1, c1, rfl⟩ := ho.slice
              rw [List.length_nil] at ho hdj ⊢
              skip
              clear HH
              cases ov
              · rw [if_neg (by simp)] at hw
                go_wp2_with fail
                refine (wbytes_good hw (by simp)).mono ?_
                rintro e w2 ⟨g, rfl, hg, hb2, hblk⟩
                have hg' : ¬ WS b r g := hw.off_new hg
                have hw2 := hw.below hb2
                have ho2 := ho.below hb2
                have hbd2 := hbd.trans (hb2.mono hbd.size)
                have hgo : ∀ q, (Value.slice A1 0 c1).ownBlock = some q → q ≠ g := fun q hq => by have := ho.lt q hq; omega
                have hrow : Row w2 g 0 := ⟨[], by first | rfl | simp, hblk⟩
                have hgw : w.heap.size ≤ g := by omega
                clear hw ho hbd hb2 hblk hdj hg
                go_wp2_with fail
                go_loopw [12] (fun i w3 => ∃ k3 : Nat, k3 ≤ 0 ∧ i = .int .i64 k3 ∧ Ks (fun k => k = g) w2 w3 ∧ Row w3 g 0) (fun i _ => 0 - (intOf i).toNat)
                case atStart => exact ⟨0, Nat.zero_le _, rfl, Ks.refl _ _, hrow⟩
                case round =>
                  obtain ⟨k3, hk3, rfl, hks, hrw⟩ := hrel
                  have k30 : (0 : Int) ≤ k3 := by omega
                  by_cases hlt3 : (k3 : Int) < 0
                  · exfalso; omega
                  · have hw3 := hw2.ks hks (fun i hi => by rw [hi]; exact hg')
                    have ho3 := ho2.ks hks (fun q hq e => hgo q hq e)
                    have hbd3 := hks.below hbd2 (Nat.le_refl _) (fun k hk => by rw [hk]; exact hgw)
                    clear hw2 ho2 hks hrw hbd2 hrow
                    go_wp2_with fail
                    refine (wbytes_good hw3 (by first | omega | simp)).mono ?_
                    rintro e w4 ⟨g2, rfl, hg2, hb4, hblk4⟩
                    have hbd4 := hbd3.trans (hb4.mono hbd3.size)
                    go_wp2_with fail
                    refine (same_any _ _ _ _ _ _ [] _ (Bs.of_block hblk4) ((ho3.below hb4).bs.2)).mono ?_
                    rintro e w5 ⟨rfl, rfl⟩
                    go_wp2_with fail
                    refine (live3_any _).mono ?_
                    rintro e w6 ⟨rfl, hb6⟩
                    go_wp2
                    go_ret
                    exact ⟨rfl, hbd4.trans (hb6.mono hbd4.size)⟩
              · rw [if_pos rfl] at hw
                go_wp2_with fail
                refine (wbytes_bad hw rfl).mono ?_
                rintro e w2 ⟨rfl, rfl⟩
                go_wp2_with fail
                refine (live3_any _).mono ?_
                rintro e w4 ⟨rfl, hb4⟩
                go_wp2
                go_ret
                exact ⟨rfl, hbd.trans (hb4.mono hbd.size)⟩
        · subst e
          go_wp2_with fail
          refine (wnew_any _ _ m1).mono ?_
          rintro e w1 ⟨b, rfl, hb, hb1, hw1⟩
          rw [← HMe.out] at hw1
          go_wp2_with fail
          go_loopw [7, 8, 9] (fun v o i wr => ∃ (k2 : Nat) (ov : Bool), k2 ≤ n ∧ i = .int .i64 k2 ∧ o = .bool ov ∧ Rel b w wr M k2 v ov) (fun _ _ i _ => n - (intOf i).toNat)
          case atStart => exact ⟨0, false, Nat.zero_le _, rfl, rfl, none, [], hw1, Own.nil _ _, fun g hg => by simp [Value.ownBlock] at hg, Nat.zero_le _, hb1⟩
          case round =>
            obtain ⟨k2, ov, hk2, rfl, rfl, r, z, hw, ho, hdj, hzl, hbd⟩ := hrel
            clear hw1 hb1
            have k20 : (0 : Int) ≤ k2 := by omega
            by_cases hlt2 : k2 < n
            · obtain ⟨bb, o, Ar, Lr, Cr, y, rfl, hc, hy, hyb, hnil, hle⟩ := hrows k2 hlt2
              have hL : Lr ≤ 200 := HH.out k2 hlt2 _ _ _ _ _ rfl hc
              have hbb := lt_of_cell hc
              have hcell : ∀ wq, Below w.heap.size w wq → wq.cell? ⟨bb, o + k2, none⟩ = some (.slice Ar Lr Cr) := fun wq hb => (hb.cell (p := ⟨bb, _, none⟩) hbb).trans hc
              have hcr := hcell _ hbd
              have hyr := hy.below hbd
              have k21 : (k2 : Int) < n := by omega
              have hoff : 0 < Lr → ∀ a, Ar = some a → ¬ WS b r a.block := fun hn a ha hs => by have := WS.ge hw _ hs; have := hy.lt hn a ha; omega
              have hB := hbd.size
              have hln := hy.1
              subst hln
              clear hc HH hyb
              obtain ⟨A1, c1, rfl⟩ := ho.slice
              cases ov
              · rw [if_neg (by simp)] at hw
                have hzM := hw.most.1
                by_cases hfit : M < (z.length : Int) + y.length
                · have hp1 : putZ z y M 0 = z := putZ_bad (by omega)
                  have hp2 : putC z y M 0 = 2 := by unfold putC fitsC; rw [if_pos ⟨rfl, by omega⟩]
                  have HP1 := Lib.hid hp1
                  have HP2 := Lib.hid hp2
                  clear hp1 hp2
                  go_wp2_with fail
                  refine (wput_any _ _ _ hw hyr hnil hoff (by omega) hB).mono ?_
                  rintro e w2 ⟨r', rfl, hks, hgr, hw2⟩
                  rw [HP1.out, HP2.out] at hw2
                  have hb2 := hw.belowOf hbd (Nat.le_refl _) hks (Nat.le_refl _)
                  have ho2 := ho.ks hks hdj
                  have hdj2 := hdj.put ho hgr
                  clear hw hks hgr hbd ho hdj hcr hyr hoff hB HP1 HP2
                  go_wp2_with fail
                  refine (wlen_any hw2).mono ?_
                  rintro e w3 ⟨rfl, rfl⟩
                  go_wp2_with fail
                  refine (wlen_any hw2).mono ?_
                  rintro e w3 ⟨rfl, rfl⟩
                  go_wp2_with fail
                  refine (wcode_any hw2).mono ?_
                  rintro e w3 ⟨rfl, rfl⟩
                  go_wp2
                  go_roundw
                  case rel => exact ⟨k2 + 1, true, by omega, by go_num, rfl, r', z, by simpa using hw2, ho2, hdj2, by first | omega | (rw [List.length_append]; omega) | (simp), hb2⟩
                  case measure => simp [intOf]; omega
                · have hp1 : putZ z y M 0 = z ++ y := if_pos ⟨rfl, by omega⟩
                  have hp2 : putC z y M 0 = 0 := by unfold putC fitsC; rw [if_neg (by omega)]
                  have HP1 := Lib.hid hp1
                  have HP2 := Lib.hid hp2
                  clear hp1 hp2
                  go_wp2_with (at_builtin; go_must (refine list_append_gr rfl (.tmp 60) (.tmp 64) rfl w.heap.size (.slice A1 z.length c1) z rfl ho _ _ _ _ rfl hyr hnil (by omega) hB ?_; intro v' w1 ho1 hg1 hgr1; obtain ⟨A3, c3, hv3⟩ := ho1.slice; subst hv3; have k1 := Ks.of_grown (S := fun k => (Value.slice A1 z.length c1).ownBlock = some k) hg1 fun k hk => hk; have hw1 := hw.ks k1 (fun i hi => hdj i hi); have hb1 := k1.below hbd (Nat.le_refl _) (fun k hk => ho.ge k hk); have hdj1 := hdj.append hw hgr1; have hyr1 := hy.below hb1; have hc1 := hcell _ hb1; have hB1 := hb1.size; have hoff1 : 0 < y.length → ∀ a, Ar = some a → ¬ WS b r a.block := (fun hn a ha hs => by have := WS.ge hw1 _ hs; have := hy.lt hn a ha; omega); clear hcr hyr hoff hB hw ho hdj hbd hg1 hgr1 k1))
                  refine (wput_any _ _ _ hw1 hyr1 hnil hoff1 (by omega) hB1).mono ?_
                  rintro e w2 ⟨r', rfl, hks, hgr, hw2⟩
                  rw [HP1.out, HP2.out] at hw2
                  have hb2 := hw1.belowOf hb1 (Nat.le_refl _) hks (Nat.le_refl _)
                  have ho2 := ho1.ks hks hdj1
                  have hdj2 := hdj1.put ho1 hgr
                  have hzM2 : (z.length : Int) + y.length ≤ M := by omega
                  clear hw1 hks hgr hb1 ho1 hdj1 hc1 hyr1 hoff1 hB1 HP1 HP2
                  go_wp2_with fail
                  refine (wlen_any hw2).mono ?_
                  rintro e w3 ⟨rfl, rfl⟩
                  go_wp2_with fail
                  refine (wlen_any hw2).mono ?_
                  rintro e w3 ⟨rfl, rfl⟩
                  go_wp2_with fail
                  refine (wcode_any hw2).mono ?_
                  rintro e w3 ⟨rfl, rfl⟩
                  go_wp2
                  go_roundw
                  case rel => exact ⟨k2 + 1, false, by omega, by go_num, rfl, r', (z ++ y), by simpa using hw2, (by simpa using ho2), (by simpa using hdj2), by first | omega | (rw [List.length_append]; omega) | (simp), hb2⟩
                  case measure => simp [intOf]; omega
              · rw [if_pos rfl] at hw
                have hp1 : putZ z y M 2 = z := putZ_bad (by omega)
                have hp2 : putC z y M 2 = 2 := by unfold putC fitsC; rw [if_neg (by omega)]
                have HP1 := Lib.hid hp1
                have HP2 := Lib.hid hp2
                clear hp1 hp2
                have hzM := hw.most.1
                go_wp2_with fail
                refine (wput_any _ _ _ hw hyr hnil hoff (by omega) hB).mono ?_
                rintro e w2 ⟨r', rfl, hks, hgr, hw2⟩
                rw [HP1.out, HP2.out] at hw2
                have hb2 := hw.belowOf hbd (Nat.le_refl _) hks (Nat.le_refl _)
                have ho2 := ho.ks hks hdj
                have hdj2 := hdj.put ho hgr
                clear hw hks hgr hbd ho hdj hcr hyr hoff hB HP1 HP2
                go_wp2_with fail
                refine (wlen_any hw2).mono ?_
                rintro e w3 ⟨rfl, rfl⟩
                go_wp2_with fail
                refine (wlen_any hw2).mono ?_
                rintro e w3 ⟨rfl, rfl⟩
                go_wp2_with fail
                refine (wcode_any hw2).mono ?_
                rintro e w3 ⟨rfl, rfl⟩
                go_wp2
                go_roundw
                case rel => exact ⟨k2 + 1, true, by omega, by go_num, rfl, r', z, by simpa using hw2, ho2, hdj2, by first | omega | (rw [List.length_append]; omega) | (simp), hb2⟩
                case measure => simp [intOf]; omega
            · have hB := hbd.size
              obtain ⟨A1, c1, rfl⟩ := ho.slice
              have hz20 : z.length ≤ 20000 := by omega
              clear HH
              cases ov
              · rw [if_neg (by simp)] at hw
                go_wp2_with fail
                refine (wbytes_good hw (by omega)).mono ?_
                rintro e w2 ⟨g, rfl, hg, hb2, hblk⟩
                have hg' : ¬ WS b r g := hw.off_new hg
                have hw2 := hw.below hb2
                have ho2 := ho.below hb2
                have hbd2 := hbd.trans (hb2.mono hbd.size)
                have hgo : ∀ q, (Value.slice A1 z.length c1).ownBlock = some q → q ≠ g := fun q hq => by have := ho.lt q hq; omega
                have hrow : Row w2 g z.length := ⟨z, by first | rfl | simp, hblk⟩
                have hgw : w.heap.size ≤ g := by omega
                clear hw ho hbd hb2 hblk hdj hg
                go_wp2_with fail
                go_loopw [12] (fun i w3 => ∃ k3 : Nat, k3 ≤ z.length ∧ i = .int .i64 k3 ∧ Ks (fun k => k = g) w2 w3 ∧ Row w3 g z.length) (fun i _ => z.length - (intOf i).toNat)
                case atStart => exact ⟨0, Nat.zero_le _, rfl, Ks.refl _ _, hrow⟩
                case round =>
                  obtain ⟨k3, hk3, rfl, hks, hrw⟩ := hrel
                  have k30 : (0 : Int) ≤ k3 := by omega
                  by_cases hlt3 : (k3 : Int) < z.length
                  · obtain ⟨x, hx⟩ := hrw.cell (k := k3) (by omega)
                    have hf := hrw.free k3
                    go_wp2
                    go_roundw
                    case rel => exact ⟨k3 + 1, by omega, by go_num, hks.trans (Ks.setCell _ _ _ _ rfl), hrw.set_ k3 _⟩
                    case measure => simp [intOf]; omega
                  · have hw3 := hw2.ks hks (fun i hi => by rw [hi]; exact hg')
                    have ho3 := ho2.ks hks (fun q hq e => hgo q hq e)
                    have hbd3 := hks.below hbd2 (Nat.le_refl _) (fun k hk => by rw [hk]; exact hgw)
                    clear hw2 ho2 hks hrw hbd2 hrow
                    go_wp2_with fail
                    refine (wbytes_good hw3 (by first | omega | simp)).mono ?_
                    rintro e w4 ⟨g2, rfl, hg2, hb4, hblk4⟩
                    have hbd4 := hbd3.trans (hb4.mono hbd3.size)
                    go_wp2_with fail
                    refine (same_any _ _ _ _ _ _ z _ (Bs.of_block hblk4) ((ho3.below hb4).bs.2)).mono ?_
                    rintro e w5 ⟨rfl, rfl⟩
                    go_wp2_with fail
                    refine (live3_any _).mono ?_
                    rintro e w6 ⟨rfl, hb6⟩
                    go_wp2
                    go_ret
                    exact ⟨rfl, hbd4.trans (hb6.mono hbd4.size)⟩
              · rw [if_pos rfl] at hw
                go_wp2_with fail
                refine (wbytes_bad hw rfl).mono ?_
                rintro e w2 ⟨rfl, rfl⟩
                go_wp2_with fail
                refine (live3_any _).mono ?_
                rintro e w4 ⟨rfl, hb4⟩
                go_wp2
                go_ret
                exact ⟨rfl, hbd.trans (hb4.mono hbd.size)⟩

set_option maxRecDepth 100000 in
theorem lifted (os : Os) (started : os.Started) (H : Type) (enc : TypeId × Value → H) :
    ReturnsInHanded {} Try.checked os 5 .any (Rows.penBoundSpec.pre6 enc Try.prog Try.f5 Rows.penBoundRow.domain false) (Rows.penBoundSpec.post enc Try.prog Try.f5 false true false false) := by
  refine returnsInHanded_of_change (C := Try.checked) own started (by kernel_rfl) Try.func5
    (ChangeSpec.witness6 (enc := enc) (C := Try.checked) false ⟨#[], #[.int .i64 0, .slice none 0 0], []⟩ 8 (by kernel_rfl) (by kernel_rfl) (by kernel_rfl) (by kernel_rfl)) ?_
  intro W base args ds gs before hval0 hW hcnd _
  have hval : ∀ (j : Nat) t v, Try.f5.params[j]? = some t → args[j]? = some v → Value.okWide Try.prog W .any base t v := hval0
  have hW' := hW
  obtain ⟨p, q, hA0, hV, rfl, hfz, hnd⟩ := hW
  have hA : DataW.TrodAll enc Try.prog W 0 (fun _ => true) true Try.f5.params.toList args.toList ds p := hA0
  rw [Try.params5] at hA hval
  obtain ⟨v0, vs0, d0, ds0, p0, q0, hargs, rfl, rfl, h0, r0⟩ := trodAll_cons hA
  obtain ⟨v1, vs1, d1, ds1, p1, q1, rfl, rfl, rfl, h1, r1⟩ := trodAll_cons r0
  obtain ⟨rfl, rfl, rfl⟩ := trodAll_nil r1
  obtain rfl : args = #[v0, v1] := by cases args; simp_all
  obtain ⟨rfl, rfl⟩ := trodVars_none hV
  have lt0 : ∀ x ∈ p0, x.block < W.heap.size := by obtain ⟨m, hm⟩ := h0; exact DataW.trod_lt m _ _ _ hm
  have lt1 : ∀ x ∈ p1, x.block < W.heap.size := by obtain ⟨m, hm⟩ := h1; exact DataW.trod_lt m _ _ _ hm
  clear hA0 hval0
  refine (walk enc W base v0 d0 p0 (hval 0 3 v0 rfl rfl) h0 v1 d1 p1 (hval 1 49 v1 rfl rfl) h1).mono fun e W' ⟨he, bel⟩ => ?_
  subst he
  exact ⟨_, rfl, _, _, _, [], _, [], hW', trodAll_mk1 (shut_bool Try.underlying4 _), (trodAll_cons_mk (Below.trod laidOut (by kernel_rfl) (of_decide_eq_true (by kernel_rfl)) h0 bel lt0) (trodAll_cons_mk (Below.trod laidOut (by kernel_rfl) (of_decide_eq_true (by kernel_rfl)) h1 bel lt1) trodAll_mk0)), rfl, bel.frame _, fun h => by cases h⟩

theorem over : Rows.penBoundRow.holds Try.pinned (OpenSpec.ofChange Rows.penBoundSpec) :=
  OpenClaim.holds_of_wide 5 Try.f5 rfl rfl rfl rfl rfl rfl rfl ⟨rfl, rfl, rfl, rfl, rfl⟩ rfl rfl rfl rfl rfl (by kernel_rfl) Try.func5 (by kernel_rfl)
    (of_decide_eq_true (by kernel_rfl)) (by unfold Func.isWrapper; first | (rw [if_pos (by decide +kernel)]; kernel_rfl) | (rw [if_neg (by decide +kernel)]; exact ⟨rfl, rfl⟩))
    (fun os started H enc _ => lifted os started H enc)

/-- THE STATEMENT. -/
theorem proved : Rows.PenBoundSaid := over
#print axioms proved
end Go.Proofs.Ytafbmickbgccfaa.penBound

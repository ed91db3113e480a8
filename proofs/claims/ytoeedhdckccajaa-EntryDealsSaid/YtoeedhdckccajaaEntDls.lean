/- EntryDeals: called with any entries, any numbers and any bytes, the law returns true; no condition. -/
import Derived.Test.YtoeedhdckccajaaRows
import Derived.Test.YtoeedhdckccajaaEntH
import Derived.Test.YtoeedhdckccajaaK34
import Derived.Test.YtoeedhdckccajaaK33
import Derived.ProofKit
import Derived.OpenShut
import Derived.ShutString
import Derived.ChangeOld
namespace Go.Proofs.Ytoeedhdckccajaa.entryDeals
open Go.ChangeShapes Go.WideShapes Go.ChangeAt Go.RowKit
open Go.ChangeMaps (open_string shut_string)
set_option linter.unusedVariables false

theorem own : ownKnob Try.prog.godebug = none := by kernel_rfl
theorem laidOut : laidOutB Try.prog = true := by kernel_rfl
open Cur Mem

set_option maxRecDepth 100000

theorem ens_bytes {w : World} {P : Nat → Prop} {A : Option Addr} {n : Nat} {L : List En} (h : Ens w P A n L) : ∀ k, ∀ x ∈ (L.getD k en0).2, 0 ≤ x ∧ x < 256 := fun k x hx => by
  rcases Nat.lt_or_ge k n with hk | hk
  · obtain ⟨g, o, _, _, _, hc⟩ := h.cells (by omega)
    obtain ⟨K, D, a, l, m, b, r, k1, he, _, _, _, _, _, _, hbb, _⟩ := hc k hk
    rw [he] at hx
    exact hbb x hx
  · rw [List.getD_eq_getElem?_getD, List.getElem?_eq_none (by rw [h.1]; exact hk)] at hx
    simp [en0] at hx

set_option maxHeartbeats 16000000 in
theorem walk {H : Type} (enc : TypeId × Value → H) (w : World) (base : Nat) (v0 : Value) (d0 : DataW H) (p0 : List MemPlace) (g0 : Value.okWide Try.prog w .any base 54 v0) (h0 : DataW.Trod enc Try.prog w 0 (fun _ => true) true 54 v0 d0 p0) (v1 : Value) (d1 : DataW H) (p1 : List MemPlace) (g1 : Value.okWide Try.prog w .any base 55 v1) (h1 : DataW.Trod enc Try.prog w 0 (fun _ => true) true 55 v1 d1 p1) (v2 : Value) (d2 : DataW H) (p2 : List MemPlace) (g2 : Value.okWide Try.prog w .any base 24 v2) (h2 : DataW.Trod enc Try.prog w 0 (fun _ => true) true 24 v2 d2 p2) :
    Calls Try.prog 5 #[v0, v1, v2] w fun e w' => e = .returned (.bool true) ∧ Below w.heap.size w w' := by
  obtain ⟨A, n, m, L, rfl, hnm, hnilA, hz⟩ := open_entries g0 h0
  obtain ⟨B, q, c, S, rfl, hqc, hS, hSb, hnilB⟩ := open_i64s g1 h1
  obtain ⟨C, r, d, z, rfl, hrd, hzb, hbyb, hnilC⟩ := open_bytes g2 h2
  clear g0 h0 g1 h1 g2 h2
  have HL := Lib.hid hz.1
  have HZ := Lib.hid hz
  have HC := Lib.hid (fun h => hz.cells h)
  have HS := Lib.hid hS
  have HD := Lib.hid hzb
  have HSB := Lib.hid hSb
  have HBB := Lib.hid hbyb
  have HEB := Lib.hid (ens_bytes hz)
  clear hz hS hzb hSb hbyb hnilA hnilB hnilC
  go_enter Try.func5, Try.ntmps5
  go_wp2_with fail
  refine (many_any _ A n m L w HZ.out).mono ?_
  rintro e w0 ⟨lb, rfl, hbd, hmany⟩
  cases lb
  case true =>
    clear hmany
    go_wp2_with fail
    refine (live24_any _).mono ?_
    rintro e wl ⟨rfl, hbl⟩
    replace hbd := hbd.trans (hbl.mono hbd.size)
    go_wp2
    go_ret
    exact ⟨rfl, hbd⟩
  by_cases hq : 50 < (q : Int)
  · clear hmany
    go_wp2_with fail
    refine (live24_any _).mono ?_
    rintro e wl ⟨rfl, hbl⟩
    replace hbd := hbd.trans (hbl.mono hbd.size)
    go_wp2
    go_ret
    exact ⟨rfl, hbd⟩
  by_cases hr : 500 < (r : Int)
  · clear hmany
    go_wp2_with fail
    refine (live24_any _).mono ?_
    rintro e wl ⟨rfl, hbl⟩
    replace hbd := hbd.trans (hbl.mono hbd.size)
    go_wp2
    go_ret
    exact ⟨rfl, hbd⟩
  obtain ⟨hn30, hsm⟩ := hmany rfl
  have HSM := Lib.hid hsm
  clear hmany hsm
  have hq' : q ≤ 50 := by omega
  have hr' : r ≤ 500 := by omega
  go_wp2
  go_loopw [7, 8] (fun v i wr => ∃ k : Nat, k ≤ n ∧ i = .int .i64 k ∧ Hid (OwnN wr w.heap.size v (il L k)) ∧ Below w.heap.size w wr) (fun _ i _ => n - (intOf i).toNat)
  case atStart => exact ⟨0, by omega, rfl, Lib.hid (World.ownsRow_nil _ _ _ _), hbd⟩
  case round =>
    clear hbd
    obtain ⟨k, hk, rfl, ho, hbd⟩ := hrel
    by_cases hlt : k < n
    · obtain ⟨g, o, rfl, _, hg, hc⟩ := HC.out (by omega)
      obtain ⟨K, D, a1, l1, m1, b1, r1, k1, he, hlm, hnl, hks, hrk, hnb, hbs, hbb, hsq, hcell⟩ := hc k hlt
      have ek : (k : Int) < n := by omega
      have e3 : IntKind.i64.wrap ((k : Int) + 1) = ((k + 1 : Nat) : Int) := IntWalk.i64_in _ (by omega)
      obtain ⟨c0, c1⟩ := hcell wr hbd
      have HIN : Hid (il L (k + 1) = il L k ++ [(r1 : Int)]) := Lib.hid (by rw [il_next, he, ← hbs.1])
      have hbA := below_one wr (.cells #[.int .i64 (r1 : Int)] 3)
      have hrA := rw_new24 wr (iv [(r1 : Int)]) 3
      have hoA := own_below ho.out hbA
      have hbX := hbd.trans (hbA.mono hbd.size)
      have hwB := hbX.size
      have hgeA := fun j hj => own_ge hoA j hj
      have HLEN : Hid ((il L k).length + 1 ≤ 1000000) := Lib.hid (by rw [il_len]; omega)
      clear hc hcell he hlm hnl hks hrk hnb hbs hbb hsq hbA ho hbd
      go_wp2_with (at_builtin; go_must (refine list_append_rw kindI24 rfl (.tmp 37) (.tmp 44) rfl w.heap.size _ _ _ rfl hoA _ 1 _ (iv [(r1 : Int)]) rfl rfl hrA (by simp) (fun u hu => by simp at hu; subst hu; rfl) HLEN.out (by omega) hwB ?_; intro v' w' ho' hg' hgr'; have hb' := hbX.grown hg' hwB (fun j hj => hgeA j hj); have HO : Hid (OwnN w' w.heap.size v' (il L (k + 1))) := Lib.hid (by unfold OwnN; rw [HIN.out, List.length_append]; simpa using ho'); clear ho' hg' hgr' hoA hrA hgeA hbX hwB))
      go_roundw
      case rel => exact ⟨k + 1, by omega, by go_num, HO, hb'⟩
      case measure => simp [intOf]; omega
    · obtain rfl : k = n := by omega
      obtain ⟨A7, c7, rfl, his⟩ := ho.out.is
      rw [il_len] at his ⊢
      have HIS := Lib.hid his
      clear ho his hlt
      have hN1 : (jk L k).length ≤ 15000 := by have := jk_le HSM.out k (by rw [HL.out]; exact Nat.le_refl _); omega
      have HFT : Hid (Fits (il L k) k (jk L k).length) := Lib.hid (by exact fits_il (by rw [HL.out]; exact Nat.le_refl _))
      have hb0 := Below.refl wr.heap.size wr
      go_wp2_with fail
      refine (join_any24 _ A k m L wr (HZ.out.below hbd) hn30 HSM.out).mono ?_
      rintro e w1 ⟨A1, m1, rfl, hc1, hs1, hnil1, _, _⟩
      have his1 := HIS.out.below hc1
      replace hbd := hbd.trans (hc1.mono hbd.size)
      clear hc1
      go_wp2_with fail
      refine (deal_any _ A A7 A1 k m k c7 (jk L k).length m1 L (il L k) (jk L k) w1 (HZ.out.below hbd) his1 hs1 hn30 (by omega) (by omega) HSM.out (il_bd HSM.out k) (jk_byte HEB.out k (by rw [HL.out]; exact Nat.le_refl _))).mono ?_
      rintro e w2 hdp
      obtain ⟨A2, c2, k2, ok2, rfl, hc1, halt⟩ := dealt_post hdp
      rcases halt with ⟨_, _, h⟩ | ⟨rfl, rfl, _, _, hens⟩
      · exact absurd ⟨rfl, HFT.out⟩ h
      rw [dealt_il HL.out] at hens
      have hs2 := hs1.below hc1
      clear his1 hs1 hdp
      replace hbd := hbd.trans (hc1.mono hbd.size)
      clear hc1
      go_wp2_with fail
      refine (rjoin_any _ A k2 m L w2 (HZ.out.below hbd) hn30 HSM.out).mono ?_
      rintro e w3 ⟨A3, m3, rfl, hc1, hs3, _, _, _⟩
      replace hs2 := hs2.below hc1
      replace hens := hens.below hc1
      replace hbd := hbd.trans (hc1.mono hbd.size)
      clear hc1
      go_wp2_with fail
      refine (same_any _ _ _ _ _ _ (jk L k2) _ hs2 hs3).mono ?_
      rintro e w4 ⟨rfl, rfl⟩
      clear hs2 hs3
      have htot := total_any _ A k2 m L w3 (HZ.out.below hbd) hn30 HSM.out
      unfold BPost at htot
      go_wp2_with fail
      refine htot.mono ?_
      rintro e w5 ⟨rfl, hc1⟩
      replace hens := hens.below hc1
      clear htot
      replace hbd := hbd.trans (hc1.mono hbd.size)
      clear hc1
      have hall := rall_any _ _ A2 A k2 k2 c2 m L L w5 hens (HZ.out.below hbd) (by omega) (by omega) HSM.out HSM.out
      rw [show decide (L = L) = true from decide_eq_true rfl] at hall
      unfold BPost at hall
      go_wp2_with fail
      refine hall.mono ?_
      rintro e w6 ⟨rfl, hc1⟩
      clear hall hens
      replace hbd := hbd.trans (hc1.mono hbd.size)
      clear hc1
      go_wp2_with fail
      refine (deal_any _ A B C k2 m q c r d L S z w6 (HZ.out.below hbd) (HS.out.below hbd) (HD.out.below hbd) hn30 (by omega) (by omega) HSM.out HSB.out HBB.out).mono ?_
      rintro e w7 hdp
      obtain ⟨A8, c8, k8, ok8, rfl, hc1, halt⟩ := dealt_post hdp
      have HALT := Lib.hid halt
      have hb68 := hc1
      clear hdp halt hb0
      replace hbd := hbd.trans (hc1.mono hbd.size)
      clear hc1
      go_wp2
      go_loopw [14, 15, 16] (fun gv tv i wr => ∃ (j : Nat) (gb : Bool) (t : Int), j ≤ q ∧ gv = .bool gb ∧ tv = .int .i64 t ∧ i = .int .i64 j ∧ wr = w7 ∧ Hid (gb = true → q = k2 ∧ t = ofs S j ∧ ofs S j ≤ r ∧ ∀ y, y < j → 0 ≤ S.getD y 0 ∧ ofs S (y + 1) ≤ r) ∧ Hid (gb = false → ¬ (q = k2 ∧ Fits S k2 r))) (fun _ _ i _ => q - (intOf i).toNat)
      case atStart =>
        refine ⟨0, _, _, Nat.zero_le _, rfl, rfl, rfl, rfl, Lib.hid (fun h => ?_), Lib.hid (fun h hh => ?_)⟩
        · have h2 : (q : Int) = k2 := by simpa using h
          exact ⟨by omega, rfl, Nat.zero_le _, fun y hy => by omega⟩
        · have h2 : ¬ (q : Int) = k2 := by simpa using h
          omega
      case round =>
        obtain ⟨j, gb, t, hj, rfl, rfl, rfl, hwr, HG1, HG2⟩ := hrel
        have hwr2 := hwr.symm
        subst hwr2
        cases gb
        · have HNO := Lib.hid (HG2.out rfl)
          clear HG1 HG2
          by_cases hlt : (j : Int) < q
          · rcases HALT.out with ⟨rfl, rfl, _⟩ | ⟨_, _, h1, h2, _⟩
            rotate_left
            · exact absurd ⟨h1, h2⟩ HNO.out
            go_wp2_with fail
            refine (live24_any _).mono ?_
            rintro e wl ⟨rfl, hbl⟩
            replace hbd := hbd.trans (hbl.mono hbd.size)
            go_wp2
            go_ret
            exact ⟨rfl, hbd⟩
          · rcases HALT.out with ⟨rfl, rfl, _⟩ | ⟨_, _, h1, h2, _⟩
            rotate_left
            · exact absurd ⟨h1, h2⟩ HNO.out
            go_wp2_with fail
            refine (live24_any _).mono ?_
            rintro e wl ⟨rfl, hbl⟩
            replace hbd := hbd.trans (hbl.mono hbd.size)
            go_wp2
            go_ret
            exact ⟨rfl, hbd⟩
        · obtain ⟨hqn, ht, htr, hfs⟩ := HG1.out rfl
          have HFS := Lib.hid hfs
          have HQN := Lib.hid hqn
          have HTO := Lib.hid ht
          obtain ⟨u, hu⟩ : ∃ u, u = ofs S j := ⟨_, rfl⟩
          rw [← hu] at ht htr
          have HU := Lib.hid hu
          subst ht
          clear HG1 HG2 hfs hqn hu
          by_cases hlt : j < q
          · have ej : (j : Int) < q := by omega
            have e3 : IntKind.i64.wrap ((j : Int) + 1) = ((j + 1 : Nat) : Int) := IntWalk.i64_in _ (by omega)
            obtain ⟨gs, os, hBe, s0⟩ := (HS.out.below hbd).at_ hlt
            subst hBe
            obtain ⟨s, hs⟩ : ∃ s, s = S.getD j 0 := ⟨_, rfl⟩
            rw [← hs] at s0
            have HSS := Lib.hid hs
            have HOF : Hid (ofs S (j + 1) = ofs S j + (S.getD j 0).toNat) := Lib.hid rfl
            have e6 : IntKind.i64.wrap ((r : Int) - (u : Int)) = (r : Int) - u := IntWalk.i64_in _ (by omega)
            clear hs
            by_cases h0 : s < 0
            · have HN : Hid (¬ (q = k2 ∧ Fits S k2 r)) := Lib.hid fun h => by have := (h.2.1 j (by omega)).1; rw [← HSS.out] at this; omega
              have e7 : max s 0 = 0 := by omega
              have e8 : IntKind.i64.wrap ((u : Int) + 0) = (u : Int) := IntWalk.i64_in _ (by omega)
              have e9 : ¬ (s ≥ 0) := by omega
              go_wp2
              go_roundw
              case rel => exact ⟨j + 1, false, _, by omega, rfl, rfl, by go_num, trivial, Lib.hid (fun h => by cases h), Lib.hid (fun _ => HN.out)⟩
              case measure => simp [intOf]; omega
            · obtain ⟨v, rfl⟩ := Int.eq_ofNat_of_zero_le (show 0 ≤ s by omega)
              have e7 : max (v : Int) 0 = (v : Int) := by omega
              by_cases h1 : (v : Int) ≤ (r : Int) - u
              · have HI : Hid (ofs S (j + 1) = u + v ∧ u + v ≤ r) := Lib.hid ⟨by rw [HOF.out, ← HSS.out, ← HU.out]; simp, by omega⟩
                have HFN : Hid (∀ y, y < j + 1 → 0 ≤ S.getD y 0 ∧ ofs S (y + 1) ≤ r) := Lib.hid fun y hy => by
                  rcases Nat.lt_or_ge y j with h | h
                  · exact HFS.out y h
                  · obtain rfl : y = j := by omega
                    rw [← HSS.out, HI.out.1]; have := HI.out.2; omega
                clear h0
                go_wp2
                go_roundw
                case rel => exact ⟨j + 1, true, ((u + v : Nat) : Int), by omega, rfl, (by congr 1), by go_num, trivial, Lib.hid (fun _ => ⟨HQN.out, by rw [HI.out.1], by rw [HI.out.1]; exact HI.out.2, HFN.out⟩), Lib.hid (fun h => by cases h)⟩
                case measure => simp [intOf]; omega
              · have HN : Hid (¬ (q = k2 ∧ Fits S k2 r)) := Lib.hid fun h => by have := (h.2.1 j (by omega)).2; rw [HOF.out, ← HSS.out, ← HU.out] at this; simp at this; omega
                clear h0
                go_wp2
                go_roundw
                case rel => exact ⟨j + 1, false, _, by omega, rfl, rfl, by go_num, trivial, Lib.hid (fun h => by cases h), Lib.hid (fun _ => HN.out)⟩
                case measure => simp [intOf]; omega
          · obtain rfl : j = q := by omega
            rcases Nat.lt_or_ge u r with hur | hur
            · have e9 : ((u : Int) == (r : Int)) = false := by simp; omega
              have HNO : Hid (¬ (j = k2 ∧ Fits S k2 r)) := Lib.hid fun h => by have := h.2.2; rw [← h.1, ← HU.out] at this; omega
              clear hur
              rcases HALT.out with ⟨rfl, rfl, _⟩ | ⟨_, _, h1, h2, _⟩
              rotate_left
              · exact absurd ⟨h1, h2⟩ HNO.out
              go_wp2_with fail
              refine (live24_any _).mono ?_
              rintro e wl ⟨rfl, hbl⟩
              replace hbd := hbd.trans (hbl.mono hbd.size)
              go_wp2
              go_ret
              exact ⟨rfl, hbd⟩
            · obtain rfl : u = r := by omega
              have e9 : ((u : Int) == (u : Int)) = true := by simp
              rcases HALT.out with ⟨_, _, h⟩ | ⟨rfl, rfl, _, _, hens⟩
              · exact (h ⟨HQN.out, by rw [← HQN.out]; exact ⟨HFS.out, HU.out.symm⟩⟩).elim
              have hjk := HQN.out
              subst hjk
              have HC2 := Lib.hid (fun h => hens.cells h)
              have hnot : ¬ ((j : Int) < (j : Int)) := by omega
              clear hens HALT hur hlt HQN
              go_wp2
              go_loopw [15, 17] (fun tv i wr => ∃ k t : Nat, k ≤ j ∧ tv = .int .i64 t ∧ i = .int .i64 k ∧ Hid (t = ofs S k) ∧ Hid (Below w7.heap.size w7 wr)) (fun _ i _ => j - (intOf i).toNat)
              case atStart => exact ⟨0, 0, Nat.zero_le _, rfl, rfl, Lib.hid rfl, Lib.hid (Below.refl _ _)⟩
              case round =>
                obtain ⟨k, t, hk, rfl, rfl, HT, HB⟩ := hrel
                by_cases hlt : k < j
                · obtain ⟨g, o, hAe, _, hg, hc⟩ := HC.out (by omega)
                  obtain ⟨g', o', hAe', _, _, hc'⟩ := HC2.out (by omega)
                  subst hAe hAe'
                  obtain ⟨K, D, a1, l1, m1, b1, r1, k1, he, hlm, hnl, hks, hrk, hnb, hbs, hbb, hsq, hcell⟩ := hc k hlt
                  obtain ⟨K2, D2, a2, l2, m2, b2, r2, k2', he2, _, _, hks2, _, _, hbs2, hbb2, _, hcell2⟩ := hc' k hlt
                  rw [dealt_at hlt] at he2
                  unfold dle at he2
                  rw [he, ← HT.out] at he2
                  obtain ⟨e1, e2⟩ := Prod.mk.inj he2
                  replace e1 : K = K2 := e1
                  subst e1
                  have hsn := (HFS.out k hlt).1
                  have hfo := (HFS.out k hlt).2
                  obtain ⟨gs, os, hBe, s0⟩ := (HS.out.below hbd).at_ hlt
                  subst hBe
                  obtain ⟨s, hs⟩ := Int.eq_ofNat_of_zero_le hsn
                  have hof : ofs S (k + 1) = t + s := by show ofs S k + (S.getD k 0).toNat = _; rw [hs, ← HT.out]; rfl
                  rw [hof] at hfo
                  rw [hs] at s0 e2
                  rw [Int.toNat_natCast] at e2
                  have HOF2 := Lib.hid hof
                  have hsm := HSM.out k
                  rw [he] at hsm
                  replace hsm : K.length ≤ 50 ∧ blen 50 K ∧ D.length ≤ 500 := hsm
                  have hsl : ∀ w', (Instr.slice 24 (.slice C u d) (some (.int .i64 (t : Int))) (some (.int .i64 ((t + s : Nat) : Int))) none).run Try.prog w' = .ok (.slice (if d = t then C else C.map (·.add t)) s (d - t)) w' := fun w' => by
                    obtain ⟨A', c', q1, _, _, q2, q3⟩ := slice_lh8 C u d t s hfo hrd w'
                    rw [q1, q2, q3]
                  simp only [Int.natCast_add] at hsl
                  have hpc : ∀ w', Below w.heap.size w w' → Bs w' (if d = t then C else C.map (·.add t)) s D2 := fun w' h => by
                    by_cases h0 : s = 0
                    · subst h0
                      rw [← e2]
                      exact ⟨by simp, fun h => absurd h (by omega)⟩
                    · have h9 := (HD.out.below h).mid t s hfo
                      rw [if_neg h0, e2] at h9
                      rw [if_neg (by omega)]
                      exact h9
                  have hpb : ∀ x ∈ D2, 0 ≤ x ∧ x < 256 := hbb2
                  generalize (if d = t then C else C.map (·.add t)) = A9 at *
                  have hb9 := hbd.trans (HB.out.mono hbd.size)
                  have hbD : Below w7.heap.size w7 wr.drew := HB.out.trans ((below_one' wr).mono HB.out.size)
                  have hb9D := hbd.trans (hbD.mono hbd.size)
                  have hcon := rensame_any _ _ a2 a1 b2 A9 l2 l1 m2 m1 r2 s k2' (d - t) K K D2 D2 wr.drew (hks2.below hbD) (hks.below hb9D) (by rw [← hks2.1]; omega) (by rw [← hks.1]; omega) (hsm.2.1.le (by omega)) (hsm.2.1.le (by omega)) (hbs2.below hbD) (hpc _ hb9D) hbb2 hbb2
                  rw [show decide (((K, D2) : En) = (K, D2)) = true from decide_eq_true rfl] at hcon
                  unfold BPost at hcon
                  have ek : (k : Int) < j := by omega
                  have e3 : IntKind.i64.wrap ((k : Int) + 1) = ((k + 1 : Nat) : Int) := IntWalk.i64_in _ (by omega)
                  have e5 : IntKind.i64.wrap ((t : Int) + (s : Int)) = (t : Int) + s := IntWalk.i64_in _ (by omega)
                  have hS0 : EnS w7 wr.drew := hbD
                  have L1 : ∀ w', EnS w7 w' → (w'.cell? ⟨g, o + k * 2, none⟩ = some (.slice a1 l1 m1) ∧ w'.cell? ⟨g, o + k * 2 + 1, none⟩ = some (.slice b1 r1 k1)) ∧ (w'.cell? ⟨g', o' + k * 2, none⟩ = some (.slice a2 l2 m2) ∧ w'.cell? ⟨g', o' + k * 2 + 1, none⟩ = some (.slice b2 r2 k2')) ∧ w'.cell? ⟨gs, os + k, none⟩ = some (.int .i64 (s : Int)) := fun w' h => ⟨hcell w' (hbd.trans (Below.mono h hbd.size)), hcell2 w' h, (Below.cell h (lt_of_cell s0)).trans s0⟩
                  have HCL := Lib.hid L1
                  clear hc hc' hcell hcell2 he he2 hlm hnl hks hrk hnb hbs hbb hsq hks2 hbs2 hbb2 hpc hpb e2 hsm hs hof hb9 hb9D hsn s0 hbD
                  go_wp2
                  refine Seq.wp_region_seq (EnS w7) (by kernel_rfl) (by kernel_rfl) hS0 ?_
                  repeat (first | (refine Seq.Seq.skip (by rfl) ?_; (try simp only [Act.put, List.setIfInBounds_toArray, List.set_cons_zero, List.set_cons_succ])) | (refine Seq.Seq.det ?_ (by rfl) (fun w hS => ?_) ?_; rotate_left; ((try dsimp only at hS); go_simp; (try rw [if_pos (by omega)]); with_reducible rfl); (try simp only [Act.put, List.setIfInBounds_toArray, List.set_cons_zero, List.set_cons_succ])))
                  refine Seq.Seq.make (by rfl) (by rfl) (fun K Q' hK => ?_)
                  go_simp
                  go_at_call 21
                  refine hcon.mono ?_
                  rintro en v1 ⟨rfl, hc1⟩
                  have hS2 : EnS w7 v1 := Below.trans hS0 (hc1.mono (show w7.heap.size ≤ wr.drew.heap.size from Below.size hS0))
                  clear hc1 hcon
                  refine hK.out _ _ (hS2) ?_
                  clear hK K
                  try simp only [Act.put, List.setIfInBounds_toArray, List.set_cons_zero, List.set_cons_succ]
                  repeat (first | (refine Seq.Seq.skip (by rfl) ?_; (try simp only [Act.put, List.setIfInBounds_toArray, List.set_cons_zero, List.set_cons_succ])) | (refine Seq.Seq.det ?_ (by rfl) (fun w hS => ?_) ?_; rotate_left; ((try dsimp only at hS); go_simp; (try rw [if_pos (by omega)]); with_reducible rfl); (try simp only [Act.put, List.setIfInBounds_toArray, List.set_cons_zero, List.set_cons_succ])))
                  refine Seq.Seq.nil ?_
                  have HB2 : Hid (Below w7.heap.size w7 v1) := Lib.hid hS2
                  have s1 := (HCL.out v1 hS2).2.2
                  clear L1 hS0 hS2 hsl HCL
                  go_wp2
                  go_roundw
                  case rel => exact ⟨k + 1, t + s, by omega, (by congr 1), by go_num, Lib.hid HOF2.out.symm, HB2⟩
                  case measure => simp [intOf]; omega
                · obtain rfl : k = j := by omega
                  replace hbd := hbd.trans (HB.out.mono hbd.size)
                  clear HB HT hlt
                  go_wp2_with fail
                  refine (live24_any _).mono ?_
                  rintro e wl ⟨rfl, hbl⟩
                  replace hbd := hbd.trans (hbl.mono hbd.size)
                  go_wp2
                  go_ret
                  exact ⟨rfl, hbd⟩

set_option maxRecDepth 100000 in
theorem lifted (os : Os) (started : os.Started) (H : Type) (enc : TypeId × Value → H) :
    ReturnsInHanded {} Try.checked os 5 .any (Rows.entryDealsSpec.pre6 enc Try.prog Try.f5 Rows.entryDealsRow.domain false) (Rows.entryDealsSpec.post enc Try.prog Try.f5 false true false false) := by
  refine returnsInHanded_of_change (C := Try.checked) own started (by kernel_rfl) Try.func5
    (ChangeSpec.witness6 (enc := enc) (C := Try.checked) false ⟨#[], #[.slice none 0 0, .slice none 0 0, .slice none 0 0], []⟩ 8 (by kernel_rfl) (by kernel_rfl) (by kernel_rfl) (by kernel_rfl)) ?_
  intro W base args ds gs before hval0 hW hcnd _
  have hval : ∀ (j : Nat) t v, Try.f5.params[j]? = some t → args[j]? = some v → Value.okWide Try.prog W .any base t v := hval0
  have hW' := hW
  obtain ⟨p, q, hA0, hV, rfl, hfz, hnd⟩ := hW
  have hA : DataW.TrodAll enc Try.prog W 0 (fun _ => true) true Try.f5.params.toList args.toList ds p := hA0
  rw [Try.params5] at hA hval
  obtain ⟨v0, vs0, d0, ds0, p0, q0, hargs, rfl, rfl, h0, r0⟩ := trodAll_cons hA
  obtain ⟨v1, vs1, d1, ds1, p1, q1, rfl, rfl, rfl, h1, r1⟩ := trodAll_cons r0
  obtain ⟨v2, vs2, d2, ds2, p2, q2, rfl, rfl, rfl, h2, r2⟩ := trodAll_cons r1
  obtain ⟨rfl, rfl, rfl⟩ := trodAll_nil r2
  obtain rfl : args = #[v0, v1, v2] := by cases args; simp_all
  obtain ⟨rfl, rfl⟩ := trodVars_none hV
  have lt0 : ∀ x ∈ p0, x.block < W.heap.size := by obtain ⟨m, hm⟩ := h0; exact DataW.trod_lt m _ _ _ hm
  have lt1 : ∀ x ∈ p1, x.block < W.heap.size := by obtain ⟨m, hm⟩ := h1; exact DataW.trod_lt m _ _ _ hm
  have lt2 : ∀ x ∈ p2, x.block < W.heap.size := by obtain ⟨m, hm⟩ := h2; exact DataW.trod_lt m _ _ _ hm
  clear hA0 hval0
  refine (walk enc W base v0 d0 p0 (hval 0 54 v0 rfl rfl) h0 v1 d1 p1 (hval 1 55 v1 rfl rfl) h1 v2 d2 p2 (hval 2 24 v2 rfl rfl) h2).mono fun e W' ⟨he, bel⟩ => ?_
  subst he
  exact ⟨_, rfl, _, _, _, [], _, [], hW', trodAll_mk1 (shut_bool Try.underlying4 _), (trodAll_cons_mk (Below.trod laidOut (by kernel_rfl) (of_decide_eq_true (by kernel_rfl)) h0 bel lt0) (trodAll_cons_mk (Below.trod laidOut (by kernel_rfl) (of_decide_eq_true (by kernel_rfl)) h1 bel lt1) (trodAll_cons_mk (Below.trod laidOut (by kernel_rfl) (of_decide_eq_true (by kernel_rfl)) h2 bel lt2) trodAll_mk0))), rfl, bel.frame _, fun h => by cases h⟩

theorem over : Rows.entryDealsRow.holds Try.pinned (OpenSpec.ofChange Rows.entryDealsSpec) :=
  OpenClaim.holds_of_wide 5 Try.f5 rfl rfl rfl rfl rfl rfl rfl ⟨rfl, rfl, rfl, rfl, rfl⟩ rfl rfl rfl rfl rfl (by kernel_rfl) Try.func5 (by kernel_rfl)
    (of_decide_eq_true (by kernel_rfl)) (by unfold Func.isWrapper; first | (rw [if_pos (by decide +kernel)]; kernel_rfl) | (rw [if_neg (by decide +kernel)]; exact ⟨rfl, rfl⟩))
    (fun os started H enc _ => lifted os started H enc)

/-- THE STATEMENT. -/
theorem proved : Rows.EntryDealsSaid := over
#print axioms proved
end Go.Proofs.Ytoeedhdckccajaa.entryDeals

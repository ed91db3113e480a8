/- ChainAll: called with any bytes, the law returns true; no condition. -/
import Derived.Test.YtibooihekjdpfaaRows
import Derived.Test.YtibooihekjdpfaaChnG
import Derived.ProofKit
import Derived.OpenShut
import Derived.ShutString
import Derived.ChangeOld
namespace Go.Proofs.Ytibooihekjdpfaa.chainAll
open Go.ChangeShapes Go.WideShapes Go.ChangeAt Go.RowKit
open Go.ChangeMaps (open_string shut_string)
set_option linter.unusedVariables false

theorem own : ownKnob Try.prog.godebug = none := by kernel_rfl
theorem laidOut : laidOutB Try.prog = true := by kernel_rfl
open Cur Mem


theorem frs_mem {z : List Int} {i : Int} {p j : Nat} (h : p ∈ frs z i j) : p < j ∧ sk z p i = true := by
  unfold frs at h
  split at h
  · rename_i h2
    obtain ⟨h3, h4, h5⟩ := pls_mem.1 h
    refine ⟨h3, ?_⟩
    unfold sk
    rw [hk_nat h4, h2]
    simpa using h5
  · cases h
theorem frs_sorted (z : List Int) (i : Int) (j : Nat) : (frs z i j).Pairwise (· > ·) := by
  unfold frs
  split
  · exact pls_sorted
  · exact List.Pairwise.nil
theorem frs_len {z : List Int} {i : Int} {j : Nat} : (frs z i j).length ≤ j := by
  unfold frs
  split
  · exact pls_len
  · simp


set_option maxRecDepth 100000 in
set_option maxHeartbeats 8000000 in
theorem walk {H : Type} (enc : TypeId × Value → H) (w : World) (base : Nat) (v0 : Value) (d0 : DataW H) (p0 : List MemPlace) (g0 : Value.okWide Try.prog w .any base 22 v0) (h0 : DataW.Trod enc Try.prog w 0 (fun _ => true) true 22 v0 d0 p0) :
    Calls Try.prog 5 #[v0] w fun e w' => e = .returned (.bool true) ∧ Below w.heap.size w w' := by
  obtain ⟨A, n, m, z, rfl, hnm, hz, hby, hAm⟩ := open_bytes g0 h0
  clear g0 h0
  by_cases h200 : 200 < n
  · go_enter Try.func5, Try.ntmps5
    clear hz hby hAm
    go_wp2_with fail
    refine (live13_any _).mono ?_
    rintro e w15 ⟨rfl, hb15⟩
    go_wp2
    go_ret
    exact ⟨rfl, hb15⟩
  · have hn : n ≤ 200 := by omega
    have HZ := Lib.hid hz
    have HBY := Lib.hid hby
    have hnew := chnew_any (m := m) hz (by omega)
    clear h200 hz hby hAm
    go_enter Try.func5, Try.ntmps5
    go_wp2_with fail
    refine hnew.mono ?_
    rintro e w2 ⟨c, mb, A', m', rfl, hc, hb2⟩
    have HC := Lib.hid hc
    have HB2 := Lib.hid hb2
    clear hnew hc hb2
    go_wp2
    go_loopw [4] (fun v wr => ∃ (a : Nat) (r : Option Nat), a ≤ n ∧ v = .int .i64 a ∧ Chn wr w.heap.size c mb r A' n m' z a ∧ Below w.heap.size w wr) (fun v _ => n - (intOf v).toNat)
    case atStart => exact ⟨0, none, Nat.zero_le _, rfl, HC.out, HB2.out⟩
    case round =>
      obtain ⟨a, r, ha, rfl, hc, hb⟩ := hrel
      have HBA := Lib.hid hb
      have hB9 := hb.size
      by_cases hlt : a < n
      · have hnear := near_any (a : Int) 1000 hc HBY.out (by omega) (by omega)
        have el : (nrs z a a).take (1000 : Int).toNat = frs z a a := by
          rw [nrs_frs, Int.toNat_natCast, Nat.min_self, List.take_of_length_le (by have := frs_len (z := z) (i := a) (j := a); show _ ≤ 1000; omega)]
        unfold NearPost at hnear
        rw [el] at hnear
        have HI := Lib.hid hlt
        have HCA := Lib.hid hc
        clear hc hb el
        go_wp2_with fail
        refine hnear.mono ?_
        rintro e w3 ⟨v3, rfl, ho3, hb3⟩
        obtain ⟨A3, c3, rfl⟩ := ho3.slice
        rw [List.length_map] at ho3 ⊢
        have hc3 := HCA.out.below hb3
        have hB3 := HBA.out.trans (hb3.mono HBA.out.size)
        have hlen := frs_len (z := z) (i := a) (j := a)
        have hrw : Rw w3 A3 (gv ((frs z a a).map fun x : Nat => (x : Int))) := (own_rw ho3 rfl).2.2.2
        have HO := Lib.hid hrw
        have HC3 := Lib.hid hc3
        have HB3 := Lib.hid hB3
        clear hnear hb3 ho3 hrw hc3 hB3
        have HZ3 := Lib.hid (HZ.out.below HB3.out)
        have HFS := Lib.hid (fun i : Nat => (⟨fun h => frs_hit h, fun h => frs_miss h⟩ : (sk z i a = true → frs z a (i + 1) = i :: frs z a i) ∧ (sk z i a = false → frs z a (i + 1) = frs z a i)))
        have HM := Lib.hid (fun p (h : p ∈ frs z a a) => frs_mem h)
        have HSO := Lib.hid (frs_sorted z a a)
        have HK := Lib.hid (fun (q : Nat) (i : Nat) => rkey_any (w := w3.drewN q) (A := A) (n := n) (m := m) (z := z) (i : Int) (a : Int) (HZ3.out.drewN q) HBY.out hnm (by omega))
        have H0 := Lib.hid (frs_zero z a)
        go_wp2
        go_loopw [6, 7] (fun v6 v7 wr => ∃ i q : Nat, i ≤ a ∧ v7 = .int .i64 i ∧ v6 = .int .i64 ((frs z a i).length : Nat) ∧ wr = w3.drewN q) (fun _ v7 _ => a - (intOf v7).toNat)
        case atStart => exact ⟨0, 0, Nat.zero_le _, rfl, by rw [H0.out]; rfl, rfl⟩
        case round =>
          obtain ⟨i, q, hi, rfl, rfl, rfl⟩ := hrel
          have hli := frs_len (z := z) (i := a) (j := i)
          by_cases hia : i < a
          · have hk := HK.out q i
            obtain ⟨f1, f2⟩ := HFS.out i
            cases hs : sk z i a
            · rw [hs] at hk
              have HF := Lib.hid (f2 hs)
              clear f1 f2 hs
              go_wp2_with fail
              refine hk.mono ?_
              rintro e w4 ⟨rfl, q4, rfl⟩
              clear hk
              go_wp2
              go_roundw
              case rel => exact ⟨i + 1, q + q4, hia, by go_num, by rw [HF.out], rfl⟩
              case measure => simp [intOf]; omega
            · rw [hs] at hk
              have HF := Lib.hid (f1 hs)
              clear f1 f2 hs
              go_wp2_with fail
              refine hk.mono ?_
              rintro e w4 ⟨rfl, q4, rfl⟩
              clear hk
              go_wp2
              go_roundw
              case rel => exact ⟨i + 1, q + q4, hia, by go_num, by rw [HF.out]; simp, rfl⟩
              case measure => simp [intOf]; omega
          · obtain rfl : i = a := by omega
            obtain ⟨l, hl⟩ : ∃ l, frs z i i = l := ⟨_, rfl⟩
            rw [hl] at HM HSO HO hli ⊢
            have HL := Lib.hid hl
            clear hlen hl
            have hll : l.length ≤ 200 := by omega
            go_wp2
            go_loopw [8] (fun v8 wr => ∃ j q : Nat, j ≤ l.length ∧ v8 = .int .i64 j ∧ wr = w3.drewN q) (fun v8 _ => l.length - (intOf v8).toNat)
            case atStart => exact ⟨0, q, Nat.zero_le _, rfl, rfl⟩
            case round =>
              obtain ⟨j, q, hj, rfl, rfl⟩ := hrel
              by_cases hjl : j < l.length
              · have HJ := Lib.hid hjl
                obtain ⟨g, o, rfl, hcc⟩ := HO.out (by simp; omega)
                have cell : ∀ k, k < l.length → w3.cell? ⟨g, o + k, none⟩ = some (.int .i64 ((l.getD k 0 : Nat) : Int)) := fun k hk => by
                  refine hcc k _ ?_
                  unfold gv
                  rw [List.getElem?_map, List.getElem?_map, List.getD_eq_getElem?_getD, List.getElem?_eq_getElem hk]
                  rfl
                have hmem : l.getD j 0 ∈ l := by rw [List.getD_eq_getElem?_getD, List.getElem?_eq_getElem hjl]; exact List.getElem_mem hjl
                obtain ⟨hpi, hsk⟩ := HM.out _ hmem
                have hcj := cell j hjl
                have hk := fun q' : Nat => HK.out q' (l.getD j 0)
                rw [hsk] at hk
                have HKK := Lib.hid hk
                have e1 : decide (i ≤ l.getD j 0) = false := decide_eq_false (by omega)
                rcases Nat.eq_zero_or_pos j with h0 | h0
                · subst h0
                  generalize l.getD 0 0 = p at *
                  have L : ∀ w', (∃ q, w' = w3.drewN q) → w'.cell? ⟨g, o, none⟩ = some (.int .i64 (p : Int)) := fun w' h => by
                    obtain ⟨q, rfl⟩ := h
                    exact hcj
                  clear hcc cell hmem hpi hsk hcj hk
                  go_wp2
                  refine Seq.wp_region_seq (fun w' => ∃ q, w' = w3.drewN q) (by kernel_rfl) (by kernel_rfl) ⟨q + 1, rfl⟩ ?_
                  repeat (first | (refine Seq.Seq.skip (by rfl) ?_; (try simp only [Act.put, List.setIfInBounds_toArray, List.set_cons_zero, List.set_cons_succ])) | (refine Seq.Seq.det ?_ (by rfl) (fun w hS => ?_) ?_; rotate_left; ((try dsimp only at hS); go_simp; (try rw [if_pos (by omega)]); with_reducible rfl); (try simp only [Act.put, List.setIfInBounds_toArray, List.set_cons_zero, List.set_cons_succ])))
                  refine Seq.Seq.make (by rfl) (by rfl) (fun K Q' hK => ?_)
                  go_simp
                  go_at_call 9
                  refine (HKK.out (q + 1)).mono ?_
                  rintro e w4 ⟨rfl, q4, rfl⟩
                  have hS2 : ∃ q', (w3.drewN (q + 1)).drewN q4 = w3.drewN q' := ⟨_, World.drewN_drewN _ _ _⟩
                  refine hK.out _ _ (hS2) ?_
                  clear hK K
                  try simp only [Act.put, List.setIfInBounds_toArray, List.set_cons_zero, List.set_cons_succ]
                  repeat (first | (refine Seq.Seq.skip (by rfl) ?_; (try simp only [Act.put, List.setIfInBounds_toArray, List.set_cons_zero, List.set_cons_succ])) | (refine Seq.Seq.det ?_ (by rfl) (fun w hS => ?_) ?_; rotate_left; ((try dsimp only at hS); go_simp; (try rw [if_pos (by omega)]); with_reducible rfl); (try simp only [Act.put, List.setIfInBounds_toArray, List.set_cons_zero, List.set_cons_succ])))
                  refine Seq.Seq.nil ?_
                  clear L e1
                  go_wp2
                  go_roundw
                  case rel => exact ⟨0 + 1, _, HJ.out, by go_num, rfl⟩
                  case measure => have := HJ.out; simp [intOf]; omega
                · obtain ⟨j, rfl⟩ : ∃ k, j = k + 1 := ⟨j - 1, by omega⟩
                  have hj2 : j < l.length := by omega
                  have hcj2 := cell j hj2
                  have hlt2 : l.getD (j + 1) 0 < l.getD j 0 := by
                    have := List.pairwise_iff_getElem.1 HSO.out j (j + 1) hj2 hjl (by omega)
                    rw [List.getD_eq_getElem?_getD, List.getD_eq_getElem?_getD, List.getElem?_eq_getElem hj2, List.getElem?_eq_getElem hjl]
                    exact this
                  generalize l.getD (j + 1) 0 = p at *
                  generalize l.getD j 0 = p2 at *
                  have e2 : decide (p2 ≤ p) = false := decide_eq_false (by omega)
                  have e3 : IntKind.i64.wrap ((j : Int) + 1 - 1) = j := by rw [show (j : Int) + 1 - 1 = j by omega]; exact IntWalk.i64_in _ (by omega)
                  have e4 : (0 : Int) < (j : Int) + 1 := by omega
                  have e8 : IntKind.i64.wrap (j : Int) = j := IntWalk.i64_in _ (by omega)
                  have e5 : ((j : Int) + 1).toNat = j + 1 := by omega
                  have e6 : (j : Int) + 1 < l.length := by omega
                  have e7 : (0 : Int) ≤ (j : Int) + 1 := by omega
                  have L : ∀ w', (∃ q, w' = w3.drewN q) → w'.cell? ⟨g, o + (j + 1), none⟩ = some (.int .i64 (p : Int)) ∧ w'.cell? ⟨g, o + j, none⟩ = some (.int .i64 (p2 : Int)) := fun w' h => by
                    obtain ⟨q, rfl⟩ := h
                    exact ⟨hcj, hcj2⟩
                  clear hcc cell hmem hpi hsk hcj hk hcj2 hlt2
                  go_wp2
                  refine Seq.wp_region_seq (fun w' => ∃ q, w' = w3.drewN q) (by kernel_rfl) (by kernel_rfl) ⟨q + 1, rfl⟩ ?_
                  repeat (first | (refine Seq.Seq.skip (by rfl) ?_; (try simp only [Act.put, List.setIfInBounds_toArray, List.set_cons_zero, List.set_cons_succ])) | (refine Seq.Seq.det ?_ (by rfl) (fun w hS => ?_) ?_; rotate_left; ((try dsimp only at hS); go_simp; (try rw [if_pos (by omega)]); with_reducible rfl); (try simp only [Act.put, List.setIfInBounds_toArray, List.set_cons_zero, List.set_cons_succ])))
                  refine Seq.Seq.make (by rfl) (by rfl) (fun K Q' hK => ?_)
                  go_simp
                  go_at_call 9
                  refine (HKK.out (q + 1)).mono ?_
                  rintro e w4 ⟨rfl, q4, rfl⟩
                  have hS2 : ∃ q', (w3.drewN (q + 1)).drewN q4 = w3.drewN q' := ⟨_, World.drewN_drewN _ _ _⟩
                  refine hK.out _ _ (hS2) ?_
                  clear hK K
                  try simp only [Act.put, List.setIfInBounds_toArray, List.set_cons_zero, List.set_cons_succ]
                  repeat (first | (refine Seq.Seq.skip (by rfl) ?_; (try simp only [Act.put, List.setIfInBounds_toArray, List.set_cons_zero, List.set_cons_succ])) | (refine Seq.Seq.det ?_ (by rfl) (fun w hS => ?_) ?_; rotate_left; ((try dsimp only at hS); go_simp; (try rw [if_pos (by omega)]); with_reducible rfl); (try simp only [Act.put, List.setIfInBounds_toArray, List.set_cons_zero, List.set_cons_succ])))
                  refine Seq.Seq.nil ?_
                  clear L e1 e2 e3 e4 e5 e6 e7 e8
                  go_wp2
                  go_roundw
                  case rel => exact ⟨j + 1 + 1, _, HJ.out, by go_num, rfl⟩
                  case measure => have := HJ.out; simp [intOf]; omega
              · obtain rfl : j = l.length := by omega
                have hadd := chadd_any (HC3.out.drewN q) HBY.out (by omega) (Nat.le_trans HB3.out.size (below_drewN (Below.refl w3.heap.size w3) q).size)
                unfold ChAddPost at hadd
                rw [decide_eq_true HI.out, Nat.min_eq_left HI.out] at hadd
                go_wp2_with fail
                refine hadd.mono ?_
                rintro e w5 ⟨r5, rfl, hc5, hk5, _⟩
                have hd := below_drewN (Below.refl w3.heap.size w3) q
                have hB5 := hk5.below (HB3.out.trans (hd.mono HB3.out.size)) (Nat.le_refl _) (fun k hk => HC3.out.ge k hk)
                have HC5 := Lib.hid hc5
                have HB5 := Lib.hid hB5
                clear hadd hc5 hk5 hB5 hd
                go_wp2
                go_roundw
                case rel => exact ⟨i + 1, r5, HI.out, by go_num, HC5.out, HB5.out⟩
                case measure => have := HI.out; simp [intOf]; omega
      · obtain rfl : a = n := by omega
        have hadd := chadd_any hc HBY.out (by omega) hB9
        unfold ChAddPost at hadd
        rw [decide_eq_false (Nat.lt_irrefl _)] at hadd
        have HGE := Lib.hid hc.ge
        clear hc hb
        go_wp2_with fail
        refine hadd.mono ?_
        rintro e w5 ⟨r5, rfl, hc5, hk5, _⟩
        have HB5 := Lib.hid (hk5.below HBA.out (Nat.le_refl _) (fun k hk => by have := HGE.out k hk; omega))
        clear hadd hc5 hk5
        go_wp2_with fail
        refine (live13_any _).mono ?_
        rintro e w15 ⟨rfl, hb15⟩
        go_wp2
        go_ret
        exact ⟨rfl, HB5.out.trans (hb15.mono HB5.out.size)⟩

set_option maxRecDepth 100000 in
theorem lifted (os : Os) (started : os.Started) (H : Type) (enc : TypeId × Value → H) :
    ReturnsInHanded {} Try.checked os 5 .any (Rows.chainAllSpec.pre6 enc Try.prog Try.f5 Rows.chainAllRow.domain false) (Rows.chainAllSpec.post enc Try.prog Try.f5 false true false false) := by
  refine returnsInHanded_of_change (C := Try.checked) own started (by kernel_rfl) Try.func5
    (ChangeSpec.witness6 (enc := enc) (C := Try.checked) false ⟨#[], #[.slice none 0 0], []⟩ 8 (by kernel_rfl) (by kernel_rfl) (by kernel_rfl) (by kernel_rfl)) ?_
  intro W base args ds gs before hval0 hW hcnd _
  have hval : ∀ (j : Nat) t v, Try.f5.params[j]? = some t → args[j]? = some v → Value.okWide Try.prog W .any base t v := hval0
  have hW' := hW
  obtain ⟨p, q, hA0, hV, rfl, hfz, hnd⟩ := hW
  have hA : DataW.TrodAll enc Try.prog W 0 (fun _ => true) true Try.f5.params.toList args.toList ds p := hA0
  rw [Try.params5] at hA hval
  obtain ⟨v0, vs0, d0, ds0, p0, q0, hargs, rfl, rfl, h0, r0⟩ := trodAll_cons hA
  obtain ⟨rfl, rfl, rfl⟩ := trodAll_nil r0
  obtain rfl : args = #[v0] := by cases args; simp_all
  obtain ⟨rfl, rfl⟩ := trodVars_none hV
  have lt0 : ∀ x ∈ p0, x.block < W.heap.size := by obtain ⟨m, hm⟩ := h0; exact DataW.trod_lt m _ _ _ hm
  clear hA0 hval0
  refine (walk enc W base v0 d0 p0 (hval 0 22 v0 rfl rfl) h0).mono fun e W' ⟨he, bel⟩ => ?_
  subst he
  exact ⟨_, rfl, _, _, _, [], _, [], hW', trodAll_mk1 (shut_bool Try.underlying4 _), (trodAll_cons_mk (Below.trod laidOut (by kernel_rfl) (of_decide_eq_true (by kernel_rfl)) h0 bel lt0) trodAll_mk0), rfl, bel.frame _, fun h => by cases h⟩

theorem over : Rows.chainAllRow.holds Try.pinned (OpenSpec.ofChange Rows.chainAllSpec) :=
  OpenClaim.holds_of_wide 5 Try.f5 rfl rfl rfl rfl rfl rfl rfl ⟨rfl, rfl, rfl, rfl, rfl⟩ rfl rfl rfl rfl rfl (by kernel_rfl) Try.func5 (by kernel_rfl)
    (of_decide_eq_true (by kernel_rfl)) (by unfold Func.isWrapper; first | (rw [if_pos (by decide +kernel)]; kernel_rfl) | (rw [if_neg (by decide +kernel)]; exact ⟨rfl, rfl⟩))
    (fun os started H enc _ => lifted os started H enc)

/-- THE STATEMENT. -/
theorem proved : Rows.ChainAllSaid := over
#print axioms proved
end Go.Proofs.Ytibooihekjdpfaa.chainAll

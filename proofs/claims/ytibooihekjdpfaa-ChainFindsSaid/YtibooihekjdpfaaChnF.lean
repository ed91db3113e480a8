/- Chains: the document's places, keys; two lists compared; the example. -/
import Derived.Test.YtibooihekjdpfaaChnE
namespace Go.Proofs.Ytibooihekjdpfaa.Cur
open Go.RowKit Mem
set_option linter.unusedVariables false
set_option maxRecDepth 100000


/-! ### Lists compared -/
def eqs : List Int → List Int → Bool
  | [], [] => true
  | a :: x, b :: y => a == b && eqs x y
  | _, _ => false
theorem eqs_self : ∀ x, eqs x x = true
  | [] => rfl
  | a :: x => by rw [eqs, eqs_self x]; simp
set_option maxHeartbeats 1000000 in
/-- The same list twice. -/
theorem ints_same {w : World} {A A' : Option Addr} {c c' : Nat} {l : List Int} (h : Rw w A (gv l)) (h' : Rw w A' (gv l)) (hl : l.length ≤ 100000) :
    Calls Try.prog 15 #[.slice A l.length c, .slice A' l.length c'] w fun e w' => e = .returned (.bool true) ∧ ∃ k, w' = w.drewN k := by
  have hz : gv l = l.map (Value.int .i64) := rfl
  obtain ⟨n, hn⟩ : ∃ n, l.length = n := ⟨_, rfl⟩
  rw [hn]
  have e0 : ((n : Int) != (n : Int)) = false := by simp
  have HN := Lib.hid hn
  have H1 := Lib.hid h
  have H2 := Lib.hid h'
  clear h h' hz
  rw [hn] at hl
  clear hn
  go_enter Try.func15, Try.ntmps15
  go_wp2
  go_loopw [5] (fun v wr => ∃ k q : Nat, k ≤ n ∧ v = .int .i64 k ∧ wr = w.drewN q) (fun v _ => n - (intOf v).toNat)
  case atStart => exact ⟨0, 0, Nat.zero_le _, rfl, rfl⟩
  case round =>
    obtain ⟨k, q, hk, rfl, rfl⟩ := hrel
    by_cases hlt : k < n
    · obtain ⟨g, o, rfl, hc⟩ := H1.out (by simp [HN.out]; omega)
      obtain ⟨g', o', rfl, hc'⟩ := H2.out (by simp [HN.out]; omega)
      have hx : (gv l)[k]? = some (.int .i64 (l.getD k 0)) := by
        rw [List.getElem?_map, List.getD_eq_getElem?_getD, List.getElem?_eq_getElem (by rw [HN.out]; exact hlt)]; rfl
      have c1 := hc k _ hx
      have c2 := hc' k _ hx
      generalize l.getD k 0 = x at *
      have L : ∀ w', (∃ j, w' = w.drewN j) → w'.cell? ⟨g, o + k, none⟩ = some (.int .i64 x) ∧ w'.cell? ⟨g', o' + k, none⟩ = some (.int .i64 x) := fun w' h => by
        obtain ⟨j, rfl⟩ := h
        exact ⟨c1, c2⟩
      have e1 : (x != x) = false := by simp
      clear hc hc' c1 c2 hx
      go_wp2
      refine Seq.wp_region_seq (fun w' => ∃ j, w' = w.drewN j) (by kernel_rfl) (by kernel_rfl) ⟨q + 1, rfl⟩ ?_
      repeat (first | (refine Seq.Seq.skip (by rfl) ?_; (try simp only [Act.put, List.setIfInBounds_toArray, List.set_cons_zero, List.set_cons_succ])) | (refine Seq.Seq.det ?_ (by rfl) (fun w hS => ?_) ?_; rotate_left; ((try dsimp only at hS); go_simp; (try rw [if_pos (by omega)]); with_reducible rfl); (try simp only [Act.put, List.setIfInBounds_toArray, List.set_cons_zero, List.set_cons_succ])))
      refine Seq.Seq.nil ?_
      go_wp2
      go_roundw
      case rel => exact ⟨k + 1, q + 1, hlt, by go_num, rfl⟩
      case measure => simp [intOf]; omega
    · obtain rfl : k = n := by omega
      go_wp2
      go_ret
      exact ⟨rfl, q, rfl⟩
/-- The places below j with the key of place i. -/
def frs (z : List Int) (i : Int) (j : Nat) : List Nat := if hk z i = true then pls z (ky z i.toNat) j else []
theorem nrs_frs (z : List Int) (a : Nat) (i : Int) : nrs z a i = frs z i (min i.toNat a) := rfl
theorem frs_zero (z : List Int) (i : Int) : frs z i 0 = [] := by unfold frs; split <;> rfl
theorem frs_hit {z : List Int} {i : Int} {j : Nat} (h : sk z j i = true) : frs z i (j + 1) = j :: frs z i j := by
  unfold sk at h
  simp only [Bool.and_eq_true, decide_eq_true_eq] at h
  obtain ⟨⟨h1, h2⟩, h3⟩ := h
  obtain ⟨k, hk1, hk2⟩ := hk_pos h1
  obtain rfl : j = k := by omega
  unfold frs
  rw [if_pos h2, if_pos h2, pls_hit ⟨hk2, by simpa using h3⟩]
theorem frs_miss {z : List Int} {i : Int} {j : Nat} (h : sk z j i = false) : frs z i (j + 1) = frs z i j := by
  unfold frs
  split
  · rename_i h2
    refine pls_miss fun ⟨h3, h4⟩ => ?_
    have : sk z j i = true := by
      unfold sk
      rw [hk_nat h3, h2]
      simpa using h4
    rw [this] at h
    cases h
  · rfl
theorem OwnG.none_ (w : World) (B : Nat) (l : List Int) (h : l = []) : OwnG w B (.slice none 0 0) l := by subst h; exact World.ownsRow_nil _ _ _ _
/-- The document's places. -/
def RNearPost (z : List Int) (a : Nat) (i most : Int) (w : World) (e : Ending) (w' : World) : Prop :=
  ∃ v, e = .returned v ∧ OwnG w' w.heap.size v (((nrs z a i).take most.toNat).map fun x : Nat => (x : Int)) ∧ Below w.heap.size w w'
set_option maxHeartbeats 2000000 in
theorem rnear_any {w : World} {A : Option Addr} {n m : Nat} {z : List Int} (a : Nat) (i most : Int) (hz : Bs w A n z) (hby : ∀ x ∈ z, 0 ≤ x ∧ x < 256) (hm : n ≤ m) (hn : n ≤ 60000) (ha : a ≤ n) (hi : -9223372036854775808 ≤ i ∧ i ≤ 9223372036854775807) :
    Calls Try.prog 17 #[.slice A n m, .int .i64 a, .int .i64 i, .int .i64 most] w (RNearPost z a i most w) := by
  have hzl := hz.1
  by_cases hr : 0 ≤ i ∧ i ≤ n
  · obtain ⟨k, rfl⟩ : ∃ k : Nat, i = k := ⟨i.toNat, by omega⟩
    have hkn : k ≤ n := by omega
    have HF := Lib.hid (nrs_frs z a k)
    rw [Int.toNat_natCast] at HF
    obtain ⟨t, ht⟩ : ∃ t, min k a = t := ⟨_, rfl⟩
    have htk : t ≤ k ∧ t ≤ a := by omega
    have hmin : min (k : Int) (a : Int) = t := by omega
    have HT := Lib.hid ht
    have HMIN := Lib.hid hmin
    have HZ := Lib.hid hz
    have HBY := Lib.hid hby
    have hK := fun (w' : World) (hb : Below w.heap.size w w') (j : Nat) => rkey_any (w := w') (A := A) (n := n) (m := m) (z := z) (j : Int) (k : Int) (hz.below hb) hby hm (by omega)
    have HK := Lib.hid hK
    have e1 : IntKind.i64.wrap ((t : Int) - 1) = t - 1 := IntWalk.i64_in _ (by omega)
    have d1 : decide (n < k) = false := by simp; omega
    have d2 : decide ((k : Int) < 0) = false := by simp
    clear hz hby hK ht hr hzl hi
    go_enter Try.func17, Try.ntmps17
    go_wp2
    clear e1 hmin d1 d2
    go_loopw [9, 10] (fun v9 v10 wr => ∃ (j : Nat) (x : Int) (out : List Nat), v10 = .int .i64 x ∧ Hid (x + 1 = j) ∧ j ≤ t ∧ OwnG wr w.heap.size v9 (out.map fun x : Nat => (x : Int)) ∧ Below w.heap.size w wr ∧ Hid ((nrs z a k).take most.toNat = (out ++ frs z k j).take most.toNat) ∧ (out.length : Int) ≤ max most 0 ∧ out.length + j ≤ t) (fun _ v10 _ => (intOf v10 + 1).toNat)
    case atStart => exact ⟨t, (t : Int) - 1, [], by first | rfl | go_num, Lib.hid (by omega), Nat.le_refl _, OwnG.none_ _ _ _ rfl, Below.refl _ _, Lib.hid (by rw [HF.out, HT.out]; rfl), by simp; omega, by simp⟩
    case round =>
      obtain ⟨j, x, out, rfl, HJ, hj, ho, hb, HN, hol, hoj⟩ := hrel
      obtain ⟨Ao, co, rfl⟩ := ho.slice
      rw [List.length_map] at ho ⊢
      cases j with
      | zero =>
        obtain rfl : x = -1 := by have := HJ.out; omega
        have HE : Hid ((nrs z a k).take most.toNat = out) := Lib.hid (by rw [HN.out, frs_zero, List.append_nil, List.take_of_length_le (by omega)])
        have HO := Lib.hid ho
        clear ho
        go_wp2
        go_ret
        exact ⟨_, rfl, by rw [HE.out]; exact HO.out, hb⟩
      | succ j =>
        obtain rfl : x = (j : Int) := by have := HJ.out; omega
        by_cases hlt : (out.length : Int) < most
        · have hjk : (k : Int) - j ≤ 65536 ∧ 0 ≤ (k : Int) - j := by omega
          have hKj := HK.out wr hb j
          have HO := Lib.hid ho
          have HLEN : Hid (out.length + 1 ≤ 1000000) := Lib.hid (by omega)
          have HBB := Lib.hid hb
          clear ho hb
          cases hs : sk z j k
          · rw [hs] at hKj
            have HFN := Lib.hid (frs_miss hs)
            clear hs
            go_wp2_with fail
            refine hKj.mono ?_
            rintro e w1 ⟨rfl, q, rfl⟩
            clear hKj
            have hd := below_drewN (Below.refl wr.heap.size wr) q
            have HO2 := Lib.hid (own_below HO.out hd)
            have HB2 := Lib.hid (HBB.out.trans (hd.mono HBB.out.size))
            clear hd
            go_wp2
            go_roundw
            case rel => exact ⟨j, (j : Int) - 1, out, by first | rfl | go_num, Lib.hid (by omega), by omega, HO2.out, HB2.out, Lib.hid (by rw [HN.out, HFN.out]), hol, by omega⟩
            case measure => simp [intOf]
          · rw [hs] at hKj
            have HFN := Lib.hid (frs_hit hs)
            clear hs
            go_wp2_with fail
            refine hKj.mono ?_
            rintro e w1 ⟨rfl, q, rfl⟩
            clear hKj
            have hd := below_drewN (Below.refl wr.heap.size wr) q
            have ho2 := own_below HO.out hd
            have hb2 := HBB.out.trans (hd.mono HBB.out.size)
            generalize wr.drewN q = wd at *
            have hA := below_one wd (.cells #[.int .i64 (j : Int)] 3)
            have hoA := own_below ho2 hA
            have hbA := hb2.trans (hA.mono hb2.size)
            have hrwA := rw_newg wd [.int .i64 (j : Int)] 3
            have hB9 := hbA.size
            clear hd ho2 hb2 hA HO HBB
            go_wp2_with (at_builtin; go_must (refine list_append_rw kindG rfl (.tmp 44) (.tmp 46) rfl w.heap.size _ _ _ rfl hoA _ 1 _ [.int .i64 (j : Int)] rfl rfl hrwA (by simp) (by simp [Value.oneCell']) (by rw [List.length_map]; exact HLEN.out) (by omega) hB9 ?_; intro v' w10 ho' hg' hgr'; have HO3 : Hid (OwnG w10 w.heap.size v' ((out ++ [j]).map fun x : Nat => (x : Int))) := Lib.hid (by unfold OwnG gv at *; rw [List.length_map, List.length_append, List.map_map, List.map_append]; rw [List.map_map, List.length_map] at ho'; exact ho'); have HB3 := Lib.hid (hbA.grown hg' hB9 (own_geg hoA)); clear ho' hg' hgr' hoA hbA hrwA hB9))
            go_roundw
            case rel => exact ⟨j, (j : Int) - 1, out ++ [j], by first | rfl | go_num, Lib.hid (by omega), by omega, HO3.out, HB3.out, Lib.hid (by rw [HN.out, HFN.out, List.append_assoc]; rfl), by rw [List.length_append]; simp; omega, by rw [List.length_append]; simp; omega⟩
            case measure => simp [intOf]
        · have HE : Hid ((nrs z a k).take most.toNat = out) := Lib.hid (by
            rw [HN.out, List.take_append_of_le_length (by omega), List.take_of_length_le (by omega)])
          have hge : most ≤ (out.length : Int) := by omega
          have HO := Lib.hid ho
          clear ho hlt
          go_wp2
          go_ret
          exact ⟨_, rfl, by rw [HE.out]; exact HO.out, hb⟩
  · have e : nrs z a i = [] := nrs_no (by unfold hk; rw [decide_eq_false_iff_not]; omega)
    unfold RNearPost
    rw [e]
    clear e hz hby
    by_cases h0 : i < 0
    · clear hr
      go_enter Try.func17, Try.ntmps17
      go_wp2
      go_ret
      exact ⟨.slice none 0 0, rfl, OwnG.none_ _ _ _ (by simp), Below.refl _ _⟩
    · have h1 : (n : Int) < i := by omega
      clear hr
      go_enter Try.func17, Try.ntmps17
      go_wp2
      go_ret
      exact ⟨.slice none 0 0, rfl, OwnG.none_ _ _ _ (by simp), Below.refl _ _⟩

/-! ### Keys -/
theorem sk_comm (z : List Int) (i k : Int) : sk z i k = sk z k i := by
  unfold sk
  rw [Bool.and_comm (hk z i)]
  congr 1
  rw [Bool.eq_iff_iff]
  simp only [decide_eq_true_eq]
  exact eq_comm
def fb (z : List Int) (i k : Nat) : Bool := decide (i + 4 ≤ z.length) && (frs z i k).isEmpty
theorem fb_zero (z : List Int) (i : Nat) : fb z i 0 = decide (i + 4 ≤ z.length) := by unfold fb; rw [frs_zero]; simp
theorem fb_succ (z : List Int) (i k : Nat) : fb z i (k + 1) = (fb z i k && !sk z i k) := by
  unfold fb
  rw [sk_comm]
  cases h : sk z k i
  · rw [frs_miss h]; simp
  · rw [frs_hit h]; simp
theorem kct_fb (z : List Int) (i : Nat) : kct z (i + 1) = kct z i + if fb z i i = true then 1 else 0 := by
  rw [kct]
  congr 1
  unfold fb
  by_cases h : i + 4 ≤ z.length
  · have e : frs z i i = pls z (ky z i) i := by unfold frs; rw [hk_nat h]; rfl
    rw [e]
    cases pls z (ky z i) i <;> simp [h]
  · simp [h]
set_option maxHeartbeats 2000000 in
theorem rkeys_any {w : World} {A : Option Addr} {n m : Nat} {z : List Int} (a : Nat) (hz : Bs w A n z) (hby : ∀ x ∈ z, 0 ≤ x ∧ x < 256) (hm : n ≤ m) (hn : n ≤ 60000) (ha : a ≤ n) :
    Calls Try.prog 14 #[.slice A n m, .int .i64 a] w fun e w' => e = .returned (.int .i64 (kct z a)) ∧ ∃ k, w' = w.drewN k := by
  have hzl := hz.1
  have hK := fun (q : Nat) (i k : Nat) => rkey_any (w := w.drewN q) (A := A) (n := n) (m := m) (z := z) (i : Int) (k : Int) (hz.drewN q) hby hm (by omega)
  have HK := Lib.hid hK
  have HZL := Lib.hid hzl
  clear hz hby hK hzl
  go_enter Try.func14, Try.ntmps14
  go_wp2
  go_loopw [5, 6] (fun v5 v6 wr => ∃ i q : Nat, i ≤ a ∧ v6 = .int .i64 i ∧ v5 = .int .i64 (kct z i) ∧ wr = w.drewN q) (fun _ v6 _ => a - (intOf v6).toNat)
  case atStart => exact ⟨0, 0, Nat.zero_le _, rfl, rfl, rfl⟩
  case round =>
    obtain ⟨i, q, hi, rfl, rfl, rfl⟩ := hrel
    by_cases hlt : i < a
    · have hkb := kct_le z i
      have HKC := Lib.hid (kct_fb z i)
      have HI := Lib.hid hlt
      have HB0 := Lib.hid (fb_zero z i)
      have hb0 : (decide ((i : Int) + 4 ≤ (n : Int))) = fb z i 0 := by rw [HB0.out, HZL.out, Bool.eq_iff_iff]; simp; omega
      have HB00 := Lib.hid hb0
      clear hb0
      obtain ⟨kc, hkc⟩ : ∃ kc, kct z i = kc := ⟨_, rfl⟩
      rw [hkc] at HKC hkb ⊢
      clear hkc
      cases hfb : fb z i 0
      all_goals
        have H00 := HB00.out
        rw [hfb] at H00
        have HFB := Lib.hid hfb
        clear hfb
        go_wp2
        clear H00
        go_loopw [7, 8] (fun v7 v8 wr => ∃ k q2 : Nat, k ≤ i ∧ v8 = .int .i64 k ∧ v7 = .bool (fb z i k) ∧ wr = w.drewN q2) (fun _ v8 _ => i - (intOf v8).toNat)
        case atStart => exact ⟨0, q, Nat.zero_le _, rfl, by rw [HFB.out], rfl⟩
        case round =>
          obtain ⟨k, q2, hk, rfl, rfl, rfl⟩ := hrel
          by_cases hlk : k < i
          · have HS := Lib.hid (fb_succ z i k)
            have HK2 := HK.out q2 i k
            cases hf : fb z i k
            · rw [hf] at HS
              clear hf HK2
              go_wp2
              go_roundw
              case rel => exact ⟨k + 1, q2, hlk, by go_num, by rw [HS.out]; rfl, rfl⟩
              case measure => simp [intOf]; omega
            · rw [hf] at HS
              clear hf
              obtain ⟨sb, hsb⟩ : ∃ sb, sk z i k = sb := ⟨_, rfl⟩
              rw [hsb] at HK2 HS
              clear hsb
              go_wp2_with fail
              refine HK2.mono ?_
              rintro e w1 ⟨rfl, q3, rfl⟩
              clear HK2
              go_wp2
              go_roundw
              case rel => exact ⟨k + 1, _, hlk, by go_num, by rw [HS.out]; rfl, rfl⟩
              case measure => simp [intOf]; omega
          · obtain rfl : k = i := by omega
            have hie : ¬ (k : Int) < k := by omega
            cases hf : fb z k k
            · rw [hf] at HKC
              clear hf
              go_wp2
              go_roundw
              case rel => exact ⟨k + 1, q2, HI.out, by go_num, by rw [HKC.out]; rfl, rfl⟩
              case measure => have := HI.out; simp [intOf]; omega
            · rw [hf] at HKC
              clear hf
              go_wp2
              go_roundw
              case rel => exact ⟨k + 1, q2, HI.out, by go_num, by rw [HKC.out]; go_num, rfl⟩
              case measure => have := HI.out; simp [intOf]; omega
    · obtain rfl : i = a := by omega
      go_wp2
      go_ret
      exact ⟨rfl, q, rfl⟩
end Go.Proofs.Ytibooihekjdpfaa.Cur

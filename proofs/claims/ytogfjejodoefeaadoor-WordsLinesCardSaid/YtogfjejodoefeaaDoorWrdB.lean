/- Bytes as words: Hex; the document's Hex. -/
import Derived.Test.YtogfjejodoefeaaDoorWrdA
import Derived.Test.YtogfjejodoefeaaDoorK1
import Derived.OwnWalk
import Derived.Laws.BitsAllLaws
import Derived.Laws.DeepStrings4
namespace Go.Proofs.YtogfjejodoefeaaDoor.Cur
open Go.RowKit Mem
set_option linter.unusedVariables false
set_option maxRecDepth 100000


/-- The sixteen signs. -/
def sgn (d : Nat) : Int := if d < 10 then 48 + d else 87 + d
def b8 (x : Int) : UInt8 := UInt8.ofNat x.toNat
theorem sgn_bd {d : Nat} (h : d < 16) : 0 ≤ sgn d ∧ sgn d < 256 := by unfold sgn; split <;> omega
theorem b8_nat {x : Int} (h0 : 0 ≤ x) (h1 : x < 256) : ((b8 x).toNat : Int) = x := by
  unfold b8
  have : (UInt8.ofNat x.toNat).toNat = x.toNat := by simp; omega
  rw [this]; omega
/-- The signs of the first k bytes. -/
def hz (z : List Int) : Nat → List Int
  | 0 => []
  | k + 1 => hz z k ++ [sgn ((z.getD k 0).toNat / 16), sgn ((z.getD k 0).toNat % 16)]
theorem hz_len (z : List Int) (k : Nat) : (hz z k).length = 2 * k := by
  induction k with
  | zero => rfl
  | succ k ih => unfold hz; rw [List.length_append, ih]; simp; omega
theorem hz_byte {z : List Int} (hby : ∀ x ∈ z, 0 ≤ x ∧ x < 256) (k : Nat) (hk : k ≤ z.length) : ∀ x ∈ hz z k, 0 ≤ x ∧ x < 256 := by
  induction k with
  | zero => intro x hx; simp [hz] at hx
  | succ k ih =>
    intro x hx
    unfold hz at hx
    rw [List.mem_append] at hx
    rcases hx with hx | hx
    · exact ih (by omega) x hx
    · have hb := hby _ (getD_mem (z := z) (k := k) (by omega))
      have h1 := sgn_bd (d := (z.getD k 0).toNat / 16) (by omega)
      have h2 := sgn_bd (d := (z.getD k 0).toNat % 16) (by omega)
      simp only [List.mem_cons, List.not_mem_nil, or_false] at hx
      rcases hx with rfl | rfl
      · exact h1
      · exact h2
/-- A text of these bytes. -/
def txt (z : List Int) : ByteArray := ⟨(z.map b8).toArray⟩
/-- The word of bytes. -/
def hxw (z : List Int) : ByteArray := if z = [] then txt [45] else txt (hz z z.length)

/-- A row of bytes, made a text. -/
theorem text_of {w : World} {A : Option Addr} {n c : Nat} {z : List Int} (h : Bs w A n z) (hby : ∀ x ∈ z, 0 ≤ x ∧ x < 256) (hn : 0 < n) : (convert 34 9 (.slice A n c)).run Tryd.prog w = .ok (.string (txt z)) w := by
  obtain ⟨g, o, rfl, hc⟩ := h.2 hn
  have hl := h.1
  have := run_convert_bytes_back (P := Tryd.prog) w 34 9 5 ⟨g, o, none⟩ c (z.map b8) Tryd.underlying34 Tryd.underlying5 Tryd.underlying9 (fun j hj => by
    have hj' : j < z.length := by simpa using hj
    rw [Lib.add_plain, List.getElem_map]
    have hb := hby _ (List.getElem_mem hj')
    rw [b8_nat hb.1 hb.2]
    exact hc j _ (List.getElem?_eq_getElem hj'))
  rw [List.length_map, hl] at this
  exact this

def DIG : ByteArray := ⟨#[48, 49, 50, 51, 52, 53, 54, 55, 56, 57, 97, 98, 99, 100, 101, 102]⟩
theorem idx16 {q : Nat} (h : q < 16) (w : World) : (Instr.index 9 (.string ⟨#[48, 49, 50, 51, 52, 53, 54, 55, 56, 57, 97, 98, 99, 100, 101, 102]⟩) (.int .u8 (q : Int))).run Tryd.prog w = .ok (.int .u8 (sgn q)) w := by
  have h2 : q = 0 ∨ q = 1 ∨ q = 2 ∨ q = 3 ∨ q = 4 ∨ q = 5 ∨ q = 6 ∨ q = 7 ∨ q = 8 ∨ q = 9 ∨ q = 10 ∨ q = 11 ∨ q = 12 ∨ q = 13 ∨ q = 14 ∨ q = 15 := by omega
  rcases h2 with rfl | rfl | rfl | rfl | rfl | rfl | rfl | rfl | rfl | rfl | rfl | rfl | rfl | rfl | rfl | rfl <;>
    (rw [run_index_string w _ _ _ _ Tryd.underlying9]; rfl)

set_option maxHeartbeats 4000000 in
theorem hex_any (A : Option Addr) (n m : Nat) (z : List Int) (w : World) (hz' : Bs w A n z) (hn : n ≤ 100000) (hby : ∀ x ∈ z, 0 ≤ x ∧ x < 256) :
    Calls Tryd.prog 17 #[.slice A n m] w fun e w' => e = .returned (.string (hxw z)) ∧ Below w.heap.size w w' := by
  have HZ := Lib.hid hz'
  have HZL := Lib.hid hz'.1
  have HBY := Lib.hid hby
  clear hz' hby
  by_cases h0 : n = 0
  · have HE : Hid (hxw z = txt [45]) := Lib.hid (by unfold hxw; rw [if_pos (List.eq_nil_of_length_eq_zero (by rw [HZL.out, h0]))])
    subst h0
    go_enter Tryd.func17, Tryd.ntmps17
    go_wp2
    go_ret
    exact ⟨by rw [HE.out]; rfl, Below.refl _ _⟩
  · have HE : Hid (hxw z = txt (hz z n)) := Lib.hid (by unfold hxw; rw [if_neg (fun e => h0 (by rw [← HZL.out, e]; rfl)), HZL.out])
    have hd0 : ((n : Int) == 0) = false := by simp; omega
    have e2 : IntKind.i64.wrap (2 * (n : Int)) = ((2 * n : Nat) : Int) := by rw [IntWalk.i64_in _ (by omega)]; push_cast; rfl
    obtain ⟨i0, hi, hz0, hz1, hz2⟩ := info_parts (P := Tryd.prog) (e := 5) (z := .int .u8 0) (size := 1) (bytes := 1) (by kernel_rfl)
    go_enter Tryd.func17, Tryd.ntmps17
    go_wp2_with (at_make; go_must (refine wpList_make_own _ rfl _ _ 34 rfl w.heap.size 5 i0 (.int .u8 0) 1 Tryd.underlying34 hi hz0 hz1 .i64 .i64 _ (2 * n) rfl rfl (by push_cast; rfl) (by rw [hz2]; omega) (by simp [maxLen]; omega) (Nat.le_refl _) ?_; intro w1 ho1 hg1; have hO1 : Own w1 w.heap.size (.slice (some ⟨w.heap.size, 0, none⟩) 0 (2 * n)) [] := ho1; have hb1 := Below.of_grown_none hg1; clear ho1 hg1))
    go_loopw [3, 15] (fun v3 v15 wr => ∃ k : Nat, k ≤ n ∧ v15 = .int .i64 k ∧ Own wr w.heap.size v3 (hz z k) ∧ Below w.heap.size w wr) (fun _ v15 _ => n - (intOf v15).toNat)
    case atStart => exact ⟨0, Nat.zero_le _, rfl, hO1, hb1⟩
    case round =>
      obtain ⟨k, hk, rfl, ho, hb⟩ := hrel
      clear hO1 hb1
      by_cases hlt : k < n
      · have hki : (k : Int) < n := by omega
        obtain ⟨g, o, rfl, hc⟩ := HZ.out.at_ hlt
        have hx := HBY.out _ (getD_mem (z := z) (k := k) (by rw [HZL.out]; exact hlt))
        have HH : Hid (hz z (k + 1) = hz z k ++ [sgn ((z.getD k 0).toNat / 16), sgn ((z.getD k 0).toNat % 16)]) := Lib.hid rfl
        have hcw := (hb.cell (lt_of_cell hc)).trans hc
        obtain ⟨A0, c0, rfl⟩ := ho.slice
        have hO : Own wr.drew w.heap.size (.slice A0 (hz z k).length c0) (hz z k) := ho
        have hzl := Lib.hid (hz_len z k)
        clear ho hc
        generalize z.getD k 0 = x at *
        obtain ⟨d, rfl⟩ := Int.eq_ofNat_of_zero_le hx.1
        rw [Int.toNat_natCast] at HH
        have hd : d < 256 := by omega
        obtain ⟨q, hq⟩ : ∃ q, d / 16 = q := ⟨_, rfl⟩
        obtain ⟨r, hr⟩ : ∃ r, d % 16 = r := ⟨_, rfl⟩
        rw [hq, hr] at HH
        have i1 := fun w => idx16 (q := q) (by omega) w
        have i2 := fun w => idx16 (q := r) (by omega) w
        have hq' : (d : Int) / 16 = (q : Int) := by omega
        have hr' : bits .and .u8 (d : Int) 15 = (r : Int) := by
          have h1 := u8_and_nat d 15 hd (by omega)
          have h2 : d &&& 15 = d % 16 := Nat.and_two_pow_sub_one_eq_mod d 4
          rw [h2, hr] at h1
          exact h1
        have hs1 := sgn_bd (d := q) (by omega)
        have hs2 := sgn_bd (d := r) (by omega)
        have HS := Lib.hid (And.intro hs1 hs2)
        clear hq hr hs1 hs2
        generalize sgn q = sq at *
        generalize sgn r = sr at *
        go_wp2
        have hS := hb.drew
        refine Seq.wp_region_seq (fun w' => Below w.heap.size w w') (by kernel_rfl) (by kernel_rfl) hS ?_
        clear hb hcw
        generalize wr.drew = wd at *
        generalize hz z k = Z0 at *
        repeat (first | (refine Seq.Seq.skip (by rfl) ?_; (try simp only [Act.put, List.setIfInBounds_toArray, List.set_cons_zero, List.set_cons_succ])) | (refine Seq.Seq.det ?_ (by rfl) (fun w hS => ?_) ?_; rotate_left; ((try dsimp only at hS); go_simp; (try rw [if_pos (by omega)]); with_reducible rfl); (try simp only [Act.put, List.setIfInBounds_toArray, List.set_cons_zero, List.set_cons_succ])))
        refine Seq.Seq.make (by rfl) (by rfl) (fun K Q' hK => ?_)
        go_simp
        have hA := below_one wd (.cells #[Value.int .u8 sq, .int .u8 sr] 5)
        have hbs : Bs (wd.alloc (.cells #[Value.int .u8 sq, .int .u8 sr] 5)) (some ⟨wd.heap.size, 0, none⟩) 2 [sq, sr] := Bs.of_block (z := [sq, sr]) (heap_alloc_new _ _)
        have hS2 := hS.trans (hA.mono hS.size)
        have hO2 := own_below hO hA
        refine hK.out _ _ (hS2) ?_
        clear hK K
        try simp only [Act.put, List.setIfInBounds_toArray, List.set_cons_zero, List.set_cons_succ]
        refine Seq.Seq.make (by rfl) (by rfl) (fun K Q' hK => ?_)
        refine oper_append_gr (.tmp 19) (.tmp 26) rfl w.heap.size _ _ rfl hO2 _ _ _ _ rfl hbs (by simp) (by have := hzl.out; omega) hS2.size ?_
        intro v' w2 ho' hg' hgr
        have hb3 := Own.belowOf hS2 hS2.size hO2 hg'
        refine hK.out _ _ hb3 ?_
        clear hK K
        try simp only [Act.put, List.setIfInBounds_toArray, List.set_cons_zero, List.set_cons_succ]
        repeat (first | (refine Seq.Seq.skip (by rfl) ?_; (try simp only [Act.put, List.setIfInBounds_toArray, List.set_cons_zero, List.set_cons_succ])) | (refine Seq.Seq.det ?_ (by rfl) (fun w hS => ?_) ?_; rotate_left; ((try dsimp only at hS); go_simp; (try rw [if_pos (by omega)]); with_reducible rfl); (try simp only [Act.put, List.setIfInBounds_toArray, List.set_cons_zero, List.set_cons_succ])))
        refine Seq.Seq.nil ?_
        have H1 := Lib.hid ho'
        have H2 := Lib.hid hb3
        clear ho' hb3 hg' hgr hS2 hO2 hbs hA hS hO i1 i2
        go_wp2
        go_roundw
        case rel => exact ⟨k + 1, hlt, by go_num, by rw [HH.out]; exact H1.out, H2.out⟩
        case measure => simp [intOf]; omega
      · obtain rfl : k = n := by omega
        obtain ⟨A', c', rfl⟩ := ho.slice
        have hcv := text_of (c := c') ho.bs.2 (hz_byte HBY.out k (by rw [HZL.out]; exact Nat.le_refl _)) (by rw [hz_len]; omega)
        have HB := Lib.hid hb
        clear ho hb
        go_wp2
        go_ret
        exact ⟨by rw [HE.out]; rfl, HB.out⟩
theorem txt_append (a b : List Int) : txt a ++ txt b = txt (a ++ b) := by unfold txt; rw [ba_append, List.map_append]
theorem txt_size (a : List Int) : (txt a).size = a.length := by unfold txt; simp [ByteArray.size]

theorem sl16 {q : Nat} (h : q < 16) (w : World) : (Instr.slice 9 (.string ⟨#[48, 49, 50, 51, 52, 53, 54, 55, 56, 57, 97, 98, 99, 100, 101, 102]⟩) (some (.int .i64 (q : Int))) (some (.int .i64 ((q : Int) + 1))) none).run Tryd.prog w = .ok (.string (txt [sgn q])) w := by
  have h2 : q = 0 ∨ q = 1 ∨ q = 2 ∨ q = 3 ∨ q = 4 ∨ q = 5 ∨ q = 6 ∨ q = 7 ∨ q = 8 ∨ q = 9 ∨ q = 10 ∨ q = 11 ∨ q = 12 ∨ q = 13 ∨ q = 14 ∨ q = 15 := by omega
  rcases h2 with rfl | rfl | rfl | rfl | rfl | rfl | rfl | rfl | rfl | rfl | rfl | rfl | rfl | rfl | rfl | rfl <;> (rw [run_slice_string_if w _ _ _ _ _ _ Tryd.underlying9]; rfl)

set_option maxHeartbeats 4000000 in
theorem rhex_any (A : Option Addr) (n m : Nat) (z : List Int) (w : World) (hz' : Bs w A n z) (hn : n ≤ 100000) (hby : ∀ x ∈ z, 0 ≤ x ∧ x < 256) :
    Calls Tryd.prog 18 #[.slice A n m] w fun e w' => e = .returned (.string (hxw z)) ∧ Below w.heap.size w w' := by
  have HZ := Lib.hid hz'
  have HZL := Lib.hid hz'.1
  have HBY := Lib.hid hby
  clear hz' hby
  go_enter Tryd.func18, Tryd.ntmps18
  go_wp2
  go_loopw [3, 4] (fun v3 v4 wr => ∃ k : Nat, k ≤ n ∧ v4 = .int .i64 k ∧ v3 = .string (txt (hz z k)) ∧ Below w.heap.size w wr) (fun _ v4 _ => n - (intOf v4).toNat)
  case atStart => exact ⟨0, Nat.zero_le _, rfl, rfl, Below.refl _ _⟩
  case round =>
    obtain ⟨k, hk, rfl, rfl, hb⟩ := hrel
    by_cases hlt : k < n
    · have hki : (k : Int) < n := by omega
      obtain ⟨g, o, rfl, hc⟩ := HZ.out.at_ hlt
      have hx := HBY.out _ (getD_mem (z := z) (k := k) (by rw [HZL.out]; exact hlt))
      have HH : Hid (hz z (k + 1) = hz z k ++ [sgn ((z.getD k 0).toNat / 16), sgn ((z.getD k 0).toNat % 16)]) := Lib.hid rfl
      have C : ∀ w', Below w.heap.size w w' → w'.cell? ⟨g, o + k, none⟩ = some (.int .u8 (z.getD k 0)) := fun w' h => (h.cell (lt_of_cell hc)).trans hc
      generalize z.getD k 0 = x at *
      obtain ⟨d, rfl⟩ := Int.eq_ofNat_of_zero_le hx.1
      rw [Int.toNat_natCast] at HH
      have hd : d < 256 := by omega
      obtain ⟨q, hq⟩ : ∃ q, d / 16 = q := ⟨_, rfl⟩
      obtain ⟨r, hr⟩ : ∃ r, d % 16 = r := ⟨_, rfl⟩
      rw [hq, hr] at HH
      have hq' : IntKind.i64.wrap (Int.tdiv (d : Int) 16) = (q : Int) := by rw [Int.tdiv_eq_ediv_of_nonneg (by omega), IntWalk.i64_in _ (by omega)]; omega
      have hr' : Int.tmod (d : Int) 16 = (r : Int) := by rw [Int.tmod_eq_emod_of_nonneg (by omega)]; omega
      have hq2 : IntKind.i64.wrap ((d : Int) / 16) = (q : Int) := by rw [IntWalk.i64_in _ (by omega)]; omega
      have hr2 : (d : Int) % 16 = (r : Int) := by omega
      have e5 : IntKind.i64.wrap ((q : Int) + 1) = (q : Int) + 1 := IntWalk.i64_in _ (by omega)
      have e6 : IntKind.i64.wrap ((r : Int) + 1) = (r : Int) + 1 := IntWalk.i64_in _ (by omega)
      have hw : IntKind.i64.wrap (d : Int) = (d : Int) := IntWalk.i64_in _ (by omega)
      have hq16 : q < 16 := by omega
      have hr16 : r < 16 := by omega
      have hS := hb.drew
      go_wp2
      refine Seq.wp_region_seq (fun w' => Below w.heap.size w w') (by kernel_rfl) (by kernel_rfl) hS ?_
      clear hb
      generalize wr.drew = wd at *
      repeat (first | (refine Seq.Seq.skip (by rfl) ?_; (try simp only [Act.put, List.setIfInBounds_toArray, List.set_cons_zero, List.set_cons_succ])) | (refine Seq.Seq.det ?_ (by rfl) (fun w hS => ?_) ?_; rotate_left; ((try dsimp only at hS); go_simp; (try rw [if_pos (by omega)]); with_reducible rfl); (try simp only [Act.put, List.setIfInBounds_toArray, List.set_cons_zero, List.set_cons_succ])))
      refine Seq.Seq.nil ?_
      have l1 := fun w => sl16 hq16 w
      have l2 := fun w => sl16 hr16 w
      have hzl := hz_len z k
      have a1 : txt (hz z k) ++ txt [sgn q] = txt (hz z k ++ [sgn q]) := txt_append _ _
      have a2 : txt (hz z k ++ [sgn q]) ++ txt [sgn r] = txt (hz z (k + 1)) := by rw [txt_append, HH.out]; simp
      have z1 : (txt (hz z k)).size = 2 * k := by rw [txt_size, hzl]
      have z2 : (txt [sgn q]).size = 1 := by rw [txt_size]; rfl
      have z3 : (txt (hz z k ++ [sgn q])).size = 2 * k + 1 := by rw [txt_size, List.length_append, hzl]; rfl
      have z4 : (txt [sgn r]).size = 1 := by rw [txt_size]; rfl
      have m1 : ¬ 9223372036854775807 < (txt (hz z k)).size + (txt [sgn q]).size := by omega
      have m2 : ¬ 9223372036854775807 < (txt (hz z k ++ [sgn q])).size + (txt [sgn r]).size := by omega
      have hq1 : (q : Int) < 16 := by omega
      have hr1 : (r : Int) < 16 := by omega
      clear z1 z2 z3 z4 hzl C hc hw hq' hr' hq hr hq2 hr2
      obtain ⟨S3, hS3⟩ : ∃ S, txt (hz z (k + 1)) = S := ⟨_, rfl⟩
      rw [hS3] at a2
      have HS3 := Lib.hid hS3
      clear hS3
      generalize txt (hz z k ++ [sgn q]) = S2 at *
      generalize txt (hz z k) = S1 at *
      generalize txt [sgn q] = T1 at *
      generalize txt [sgn r] = T2 at *
      go_wp2
      replace hS := hS.drew
      refine Seq.wp_region_seq (fun w' => Below w.heap.size w w') (by kernel_rfl) (by kernel_rfl) hS ?_
      generalize wd.drew = we at *
      repeat (first | (refine Seq.Seq.skip (by rfl) ?_; (try simp only [Act.put, List.setIfInBounds_toArray, List.set_cons_zero, List.set_cons_succ])) | (refine Seq.Seq.det ?_ (by rfl) (fun w hS => ?_) ?_; rotate_left; ((try dsimp only at hS); go_simp; (try rw [if_pos (by omega)]); with_reducible rfl); (try simp only [Act.put, List.setIfInBounds_toArray, List.set_cons_zero, List.set_cons_succ])))
      refine Seq.Seq.nil ?_
      have HB := Lib.hid hS
      clear hS l1 l2 a1 a2 m1 m2 e5 e6 hq1 hr1
      go_wp2
      go_roundw
      case rel => exact ⟨k + 1, hlt, by go_num, by rw [HS3.out], HB.out⟩
      case measure => simp [intOf]; omega
    · obtain rfl : k = n := by omega
      have HB := Lib.hid hb
      clear hb
      by_cases h0 : k = 0
      · have HE : Hid (hxw z = txt [45]) := Lib.hid (by unfold hxw; rw [if_pos (List.eq_nil_of_length_eq_zero (by rw [HZL.out, h0]))])
        subst h0
        have he : txt (hz z 0) = ⟨#[]⟩ := rfl
        rw [he]
        go_wp2
        go_ret
        exact ⟨by rw [HE.out]; rfl, HB.out⟩
      · have HE : Hid (hxw z = txt (hz z k)) := Lib.hid (by unfold hxw; rw [if_neg (fun e => h0 (by rw [← HZL.out, e]; rfl)), HZL.out])
        have he : (txt (hz z k)).toList.isEmpty = false := by
          unfold txt
          rw [ByteArray.toList_mk, List.isEmpty_eq_false_iff]
          intro e
          have := congrArg List.length e
          rw [List.length_map, hz_len] at this
          simp at this
          omega
        generalize txt (hz z k) = S at *
        go_wp2
        go_ret
        exact ⟨by rw [HE.out]; rfl, HB.out⟩
end Go.Proofs.YtogfjejodoefeaaDoor.Cur

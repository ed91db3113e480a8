/- As the seat's text, without what nothing here names. -/
import Derived.Test.YtlealkfkddhnnaaGreatK6v
import Derived.BigRegion
import Derived.Deep.Cut
namespace Go.Proofs.YtlealkfkddhnnaaGreat.Cur
open Go.RowKit Mem
set_option linter.unusedVariables false
def bel (b : Int) (l : List Int) (k : Nat) : Int := (b :: l).getD k 0
theorem bel_bd {b : Int} {l : List Int} {k : Nat} (h0 : 0 ≤ b) (h1 : b < 18446744073709551616) (hb : ∀ x ∈ l, 0 ≤ x ∧ x < 18446744073709551616) (hk : k ≤ l.length) : 0 ≤ bel b l k ∧ bel b l k < 18446744073709551616 := by
  cases k with
  | zero => exact ⟨h0, h1⟩
  | succ k => exact hb _ (getD_mem (by omega))
def flb : Int → List Int → Bool
  | _, [] => true
  | b, x :: l => decide (x < b) && flb x l
theorem flb_iff : ∀ (l : List Int) (b : Int), flb b l = true ↔ ∀ k, k < l.length → l.getD k 0 < bel b l k
  | [], b => by simp [flb]
  | x :: l, b => by
    rw [flb, Bool.and_eq_true, flb_iff l x, decide_eq_true_eq]
    constructor
    · rintro ⟨h1, h2⟩ k hk
      cases k with
      | zero => exact h1
      | succ k => exact h2 k (by simpa using hk)
    · intro h
      exact ⟨h 0 (by simp), fun k hk => h (k + 1) (by simpa using hk)⟩
theorem flb_no {b : Int} {l : List Int} {k : Nat} (hk : k < l.length) (h : ¬ l.getD k 0 < bel b l k) : flb b l = false := by
  cases e : flb b l with
  | false => rfl
  | true => exact absurd ((flb_iff l b).1 e k hk) h
def dif : Int → List Int → List Int
  | _, [] => []
  | b, x :: l => (b - x - 1) :: dif x l
theorem dif_len : ∀ (l : List Int) (b : Int), (dif b l).length = l.length
  | [], _ => rfl
  | x :: l, b => by rw [dif, List.length_cons, dif_len l x, List.length_cons]
theorem dif_getD : ∀ (l : List Int) (b : Int) (k : Nat), k < l.length → (dif b l).getD k 0 = bel b l k - l.getD k 0 - 1
  | x :: l, b, 0, _ => rfl
  | x :: l, b, k + 1, h => dif_getD l x k (by simpa using h)
def unl : Int → List Int → List Int
  | _, [] => []
  | b, s :: l => (b - s - 1) :: unl (b - s - 1) l
theorem unl_len : ∀ (s : List Int) (b : Int), (unl b s).length = s.length
  | [], _ => rfl
  | x :: l, b => by rw [unl, List.length_cons, unl_len l _, List.length_cons]
def uok : Int → List Int → Bool
  | _, [] => true
  | b, s :: l => decide (s < b) && uok (b - s - 1) l
theorem dif_unl : ∀ (s : List Int) (b : Int), dif b (unl b s) = s
  | [], _ => rfl
  | x :: l, b => by rw [unl, dif, show b - (b - x - 1) - 1 = x by omega, dif_unl l _]
theorem flb_unl : ∀ (s : List Int) (b : Int), (∀ x ∈ s, 0 ≤ x) → flb b (unl b s) = true
  | [], _, _ => rfl
  | x :: l, b, h => by
    have := h x (List.mem_cons_self ..)
    rw [unl, flb, flb_unl l _ (fun y hy => h y (List.mem_cons_of_mem _ hy)), Bool.and_true, decide_eq_true_eq]
    omega
theorem dif_bd : ∀ (l : List Int) (b : Int), flb b l = true → b < 18446744073709551616 → (∀ x ∈ l, 0 ≤ x) → ∀ x ∈ dif b l, 0 ≤ x ∧ x < 18446744073709551616
  | [], _, _, _, _ => by simp [dif]
  | x :: l, b, h, hb, h0 => by
    rw [flb, Bool.and_eq_true, decide_eq_true_eq] at h
    have hx := h0 x (List.mem_cons_self ..)
    intro y hy
    rw [dif, List.mem_cons] at hy
    rcases hy with rfl | hy
    · omega
    · exact dif_bd l x h.2 (by omega) (fun y hy => h0 y (List.mem_cons_of_mem _ hy)) y hy
theorem unl_bd : ∀ (s : List Int) (b : Int), uok b s = true → b < 18446744073709551616 → (∀ x ∈ s, 0 ≤ x) → ∀ x ∈ unl b s, 0 ≤ x ∧ x < 18446744073709551616
  | [], _, _, _, _ => by simp [unl]
  | x :: l, b, h, hb, h0 => by
    rw [uok, Bool.and_eq_true, decide_eq_true_eq] at h
    have hx := h0 x (List.mem_cons_self ..)
    intro y hy
    rw [unl, List.mem_cons] at hy
    rcases hy with rfl | hy
    · omega
    · exact unl_bd l _ h.2 (by omega) (fun y hy => h0 y (List.mem_cons_of_mem _ hy)) y hy
def dgo (z : List Int) : Nat → Int → Int → List Int → Rs (List Int)
  | 0, p, _, acc => (acc, p, 0, 0)
  | k + 1, p, b, acc => (vg z p).bind [] fun x p1 => if b ≤ x then ([], 0, 13, p) else dgo z k p1 (b - x - 1) (acc ++ [b - x - 1])
def dl (z : List Int) (mo b p : Int) : Rs (List Int) := (vm z mo p).bind [] fun x p1 => dgo z x.toNat p1 b []
theorem dgo_once {z : List Int} (hby : ∀ x ∈ z, 0 ≤ x ∧ x < 256) : ∀ (N : Nat) (p b : Int) (acc : List Int), 0 ≤ p → p ≤ z.length → (dgo z N p b acc).2.2.1 = 0 →
    ∃ s p', dgo z N p b acc = (acc ++ unl b s, p', 0, 0) ∧ s.length = N ∧ uok b s = true ∧ (∀ x ∈ s, 0 ≤ x ∧ x < 18446744073709551616) ∧ p ≤ p' ∧ p' ≤ z.length ∧ (s.map vz).flatten = piece z p.toNat p'.toNat
  | 0, p, b, acc, h0, h1, h => ⟨[], p, by simp [dgo, unl], rfl, rfl, by simp, Int.le_refl _, h1, by simp [piece]⟩
  | N + 1, p, b, acc, h0, h1, h => by
    rw [dgo] at h ⊢
    obtain ⟨g0, e⟩ := Rs.bind_ok h
    rw [e] at h ⊢
    obtain ⟨a1, a2, a3, a4, a5⟩ := vg_once hby h0 h1 g0
    by_cases hx : b ≤ (vg z p).1
    · rw [if_pos hx] at h; exact absurd h (by show ¬ (13 : Int) = 0; decide)
    · rw [if_neg hx] at h ⊢
      obtain ⟨s, p', b1, b2, b3, b4, b5, b6, b7⟩ := dgo_once hby N _ _ _ (by omega) a5 h
      refine ⟨(vg z p).1 :: s, p', by rw [b1, unl, List.append_assoc]; rfl, by rw [List.length_cons, b2], ?_, ?_, by omega, b6, ?_⟩
      · rw [uok, b3, Bool.and_true, decide_eq_true_eq]; omega
      · intro x hx
        rcases List.mem_cons.1 hx with rfl | hx
        · exact ⟨a2, a3⟩
        · exact b4 x hx
      · rw [List.map_cons, List.flatten_cons, b7, a1]
        exact piece_append (by omega) (by omega) (by omega)
theorem dl_once {z : List Int} {mo b p : Int} (hby : ∀ x ∈ z, 0 ≤ x ∧ x < 256) (h0 : 0 ≤ p) (h1 : p ≤ z.length) (hb1 : b < 18446744073709551616) (h : (dl z mo b p).2.2.1 = 0) :
    ∃ l p', dl z mo b p = (l, p', 0, 0) ∧ (l.length : Int) ≤ mo ∧ flb b l = true ∧ (∀ x ∈ l, 0 ≤ x ∧ x < 18446744073709551616) ∧ p ≤ p' ∧ p' ≤ z.length ∧ lz (dif b l) = piece z p.toNat p'.toNat := by
  unfold dl at h ⊢
  obtain ⟨g0, e⟩ := Rs.bind_ok h
  rw [e] at h ⊢
  obtain ⟨v0, v1, v2⟩ := vm_ok g0
  rw [v2] at h ⊢
  obtain ⟨a1, a2, a3, a4, a5⟩ := vg_once hby h0 h1 v0
  obtain ⟨s, p', b1, b2, b3, b4, b5, b6, b7⟩ := dgo_once hby _ _ b [] (by omega) a5 h
  have e2 : lz (dif b (unl b s)) = vz s.length ++ (s.map vz).flatten := by rw [dif_unl]; rfl
  refine ⟨unl b s, p', by rw [b1]; rfl, by rw [unl_len, b2]; omega, flb_unl s b (fun x hx => (b4 x hx).1), unl_bd s b b3 hb1 (fun x hx => (b4 x hx).1), by omega, b6, ?_⟩
  rw [e2, b7, b2, show (((vg z p).1.toNat : Nat) : Int) = (vg z p).1 by omega, a1]
  exact piece_append (by omega) (by omega) (by omega)
end Go.Proofs.YtlealkfkddhnnaaGreat.Cur
namespace Go.Proofs.YtlealkfkddhnnaaGreat.Cur
open Go.RowKit Mem
set_option linter.unusedVariables false
def rowz (L : List Int) (n k : Nat) : List Value := uv (L.take k) ++ List.replicate (n - k) (.int .u64 0)
theorem rowz_made (L : List Int) (n : Nat) : madeCells #[.int .u64 0] n = (rowz L n 0).toArray := by
  unfold madeCells rowz
  apply Array.ext
  · simp
  · intro i h1 h2
    simp [Nat.mod_one]
theorem rowz_at {L : List Int} {n k : Nat} (hl : L.length = n) (hk : k < n) : (rowz L n k).toArray[k]? = some (.int .u64 0) := by
  have e : (uv (L.take k)).length = k := by rw [List.length_map, List.length_take]; omega
  rw [List.getElem?_toArray]
  unfold rowz
  rw [List.getElem?_append_right (by omega), e, Nat.sub_self, List.getElem?_replicate]
  rw [if_pos (by omega)]
theorem rowz_set {L : List Int} {n k : Nat} (hl : L.length = n) (hk : k < n) : (rowz L n k).toArray.setIfInBounds k (.int .u64 (L.getD k 0)) = (rowz L n (k + 1)).toArray := by
  have e : (uv (L.take k)).length = k := by rw [List.length_map, List.length_take]; omega
  rw [List.setIfInBounds_toArray]
  congr 1
  unfold rowz
  rw [List.set_append_right _ _ (by omega), e, Nat.sub_self, show n - k = (n - (k + 1)) + 1 by omega, List.replicate_succ, List.set_cons_zero, List.take_succ_eq_append_getElem (by omega : k < L.length), uv, uv, List.map_append, List.append_assoc]
  congr 1
  simp [List.getD_eq_getElem?_getD, List.getElem?_eq_getElem (by omega : k < L.length)]
theorem rowz_end {L : List Int} {n : Nat} (hl : L.length = n) : rowz L n n = uv L := by
  unfold rowz; rw [Nat.sub_self, ← hl, List.take_length]; simp
theorem ownu_of_blk {w : World} {g B : Nat} {z : List Int} (h : Blk w g (uv z).toArray 22) (hB : B ≤ g) (hm : z.length ≤ 1000000) : OwnU w B (.slice (some ⟨g, 0, none⟩) z.length z.length) z :=
  ⟨by simp, .inr ⟨g, z.length, _, rfl, hB, h, Nat.le_refl _, by simp only [maxLen]; omega, by simp, by rw [Nat.mul_one]; exact List.take_of_length_le (by simp)⟩⟩
theorem Us.at2 {w : World} {g o n : Nat} {z : List Int} (h : Us w (some ⟨g, o, none⟩) n z) {k : Nat} (hk : k < n) : w.cell? ⟨g, o + k, none⟩ = some (.int .u64 (z.getD k 0)) := by
  obtain ⟨g', o', e, hc⟩ := h.at_ hk
  injection e with e
  injection e with e1 e2
  subst e1 e2
  exact hc
set_option maxHeartbeats 1000000 in
theorem dfalls_any (A : Option Addr) (n m : Nat) (b : Int) (z : List Int) (w : World) (hz : Us w A n z) (hn : n ≤ 1000000) (hby : ∀ x ∈ z, 0 ≤ x ∧ x < 18446744073709551616) (b0 : 0 ≤ b) (b1 : b < 18446744073709551616) :
    Calls Tryz.prog 112 #[.int .u64 b, .slice A n m] w (BPost (.bool (flb b z)) w) := by
  unfold BPost
  have HB := Lib.hid hby
  have HL := Lib.hid hz.1
  have HU := Lib.hid hz
  have HE := Lib.hid (And.intro b0 b1)
  clear hby hz b0 b1
  go_enter Tryz.func112, Tryz.ntmps112
  go_wp2
  go_loopw [0, 8] (fun v i wr => ∃ k : Nat, k ≤ n ∧ i = .int .i64 k ∧ v = .int .u64 (bel b z k) ∧ Hid (∀ j, j < k → z.getD j 0 < bel b z j) ∧ Below w.heap.size w wr) (fun _ i _ => n - (intOf i).toNat)
  case atStart => exact ⟨0, by omega, rfl, rfl, Lib.hid (by intro j hj; omega), Below.refl _ _⟩
  case round =>
    obtain ⟨k, hk, rfl, rfl, hj, hb⟩ := hrel
    by_cases hlt : k < n
    · have hx := HB.out _ (getD_mem (z := z) (k := k) (by rw [HL.out]; exact hlt))
      have hy := bel_bd (k := k) HE.out.1 HE.out.2 HB.out (by rw [HL.out]; omega)
      obtain ⟨g, o, rfl, hc⟩ := (HU.out.below hb).at_ hlt
      have HS := Lib.hid (show bel b z (k + 1) = z.getD k 0 from rfl)
      obtain ⟨x, hxe⟩ : ∃ x, x = z.getD k 0 := ⟨_, rfl⟩
      obtain ⟨y, hye⟩ : ∃ y, y = bel b z k := ⟨_, rfl⟩
      rw [← hxe] at hx hc HS
      rw [← hye] at hy ⊢
      have HX := Lib.hid hxe
      have HY := Lib.hid hye
      clear hxe hye
      have e3 : IntKind.i64.wrap ((k : Int) + 1) = ((k + 1 : Nat) : Int) := IntWalk.i64_in _ (by omega)
      by_cases hle : x < y
      · go_wp2
        go_roundw
        case rel => exact ⟨k + 1, hlt, by go_num, by rw [HS.out], Lib.hid (fun j hjk => by
          rcases Nat.lt_or_ge j k with h | h
          · exact hj.out j h
          · obtain rfl : j = k := by omega
            rw [← HX.out, ← HY.out]; exact hle), hb⟩
        case measure => simp [intOf]; omega
      · go_wp2
        go_ret
        exact ⟨by rw [flb_no (by rw [HL.out]; exact hlt) (by rw [← HX.out, ← HY.out]; omega)]; rfl, hb⟩
    · obtain rfl : k = n := by omega
      have HT : Hid (flb b z = true) := Lib.hid ((flb_iff z b).2 (fun j hj2 => hj.out j (by rw [← HL.out]; exact hj2)))
      go_wp2
      go_ret
      exact ⟨by rw [HT.out]; rfl, hb⟩
end Go.Proofs.YtlealkfkddhnnaaGreat.Cur
namespace Go.Proofs.YtlealkfkddhnnaaGreat.Cur
open Go.RowKit Mem
set_option linter.unusedVariables false
theorem make_u64 (L : List Int) (n : Nat) (hn : n ≤ 1000000) (w' : World) : (Instr.makeSlice 133 (.int .i64 (n : Int)) (.int .i64 (n : Int))).run Tryz.prog w' = .ok (.slice (some ⟨w'.heap.size, 0, none⟩) n n) (w'.alloc (.cells (rowz L n 0).toArray 22)) := by
  have hinfo : (Tryz.prog.info? 22).map (fun i => (i.zero, i.size, i.bytes)) = some (some (.int .u64 0), 1, 8) := by kernel_rfl
  obtain ⟨i, h1, hzz⟩ := Option.map_eq_some_iff.1 hinfo
  simp only [Prod.mk.injEq] at hzz
  obtain ⟨h2, h3, h4⟩ := hzz
  have hr := Go.run_make (P := Tryz.prog) w' 133 22 i _ Tryz.underlying133 h1 h2 .i64 .i64 n n (by omega) (Int.le_refl _) (by rw [h4]; omega) (by omega)
  simp only [Int.toNat_natCast, h3, Nat.mul_one] at hr
  rw [hr, ← rowz_made]
  rfl
def RBPost (l : List Int) (ok : Bool) (w : World) (e : Ending) (w' : World) : Prop :=
  ∃ v, e = .returned (.tuple #[v, .bool ok]) ∧ OwnU w' w.heap.size v l ∧ Below w.heap.size w w'
def difo (b : Int) (l : List Int) : List Int := if flb b l = true then dif b l else []
theorem difo_yes {b : Int} {l : List Int} (h : flb b l = true) : difo b l = dif b l := if_pos h
theorem difo_no {b : Int} {l : List Int} (h : flb b l = false) : difo b l = [] := if_neg (by simp [h])
set_option maxHeartbeats 2000000 in
theorem steps_any (A : Option Addr) (n m : Nat) (b : Int) (z : List Int) (w : World) (hz : Us w A n z) (hn : n ≤ 1000000) (hby : ∀ x ∈ z, 0 ≤ x ∧ x < 18446744073709551616) (b0 : 0 ≤ b) (b1 : b < 18446744073709551616) :
    Calls Tryz.prog 139 #[.int .u64 b, .slice A n m] w (RBPost (difo b z) (flb b z) w) := by
  have HFA := dfalls_any A n m b z w hz hn hby b0 b1
  cases hf : flb b z with
  | false =>
    rw [difo_no hf]
    rw [hf] at HFA
    clear hf
    go_enter Tryz.func139, Tryz.ntmps139
    go_wp2_with fail
    refine HFA.mono ?_
    rintro e w1 ⟨rfl, hb⟩
    go_wp2
    go_ret2
    exact ⟨_, rfl, OwnU.nil _ _, hb⟩
  | true =>
    have HF := Lib.hid ((flb_iff z b).1 hf)
    rw [difo_yes hf]
    rw [hf] at HFA
    have HB := Lib.hid hby
    have HL := Lib.hid hz.1
    have HU := Lib.hid hz
    have HE := Lib.hid (And.intro b0 b1)
    have HD : Hid ((dif b z).length = n) := Lib.hid (by rw [dif_len, hz.1])
    have hmk := fun w' => make_u64 (dif b z) n hn w'
    clear hby hz b0 b1 hf
    go_enter Tryz.func139, Tryz.ntmps139
    go_wp2_with fail
    refine HFA.mono ?_
    rintro e w1 ⟨rfl, hb1⟩
    have hs1 := hb1.size
    have hbM := hb1.alloc hs1 (.cells (rowz (dif b z) n 0).toArray 22)
    have hR0 := Blk.new w1 (rowz (dif b z) n 0).toArray 22
    clear HFA hb1
    go_wp2
    clear hmk
    generalize w1.alloc (.cells (rowz (dif b z) n 0).toArray 22) = w2 at *
    generalize w1.heap.size = g at *
    go_loopw [0, 17] (fun v i wr => ∃ k : Nat, k ≤ n ∧ i = .int .i64 k ∧ v = .int .u64 (bel b z k) ∧ Blk wr g (rowz (dif b z) n k).toArray 22 ∧ Below w.heap.size w wr) (fun _ i _ => n - (intOf i).toNat)
    case atStart => exact ⟨0, by omega, rfl, rfl, hR0, hbM⟩
    case round =>
      clear hR0 hbM
      obtain ⟨k, hk, rfl, rfl, hR, hb⟩ := hrel
      by_cases hlt : k < n
      · have hx := HB.out _ (getD_mem (z := z) (k := k) (by rw [HL.out]; exact hlt))
        have hy := bel_bd (k := k) HE.out.1 HE.out.2 HB.out (by rw [HL.out]; omega)
        have hxy := HF.out k (by rw [HL.out]; exact hlt)
        have hst := dif_getD z b k (by rw [HL.out]; exact hlt)
        have u0 := hR.free k
        have v0 := hR.cell k (rowz_at HD.out hlt)
        have hR2 := hR.set k (.int .u64 ((dif b z).getD k 0))
        rw [rowz_set HD.out hlt] at hR2
        have hb2 := hb.setCell (p := ⟨g, k, none⟩) hs1 (.int .u64 ((dif b z).getD k 0))
        have hU := HU.out.below hb
        have hU2 := HU.out.below hb2
        have HS := Lib.hid (show bel b z (k + 1) = z.getD k 0 from rfl)
        obtain ⟨ga, oa, rfl, hc⟩ := hU.at_ hlt
        have hc2 := hU2.at2 hlt
        rw [hst] at hR2 hb2 hc2
        obtain ⟨x, hxe⟩ : ∃ x, x = z.getD k 0 := ⟨_, rfl⟩
        obtain ⟨y, hye⟩ : ∃ y, y = bel b z k := ⟨_, rfl⟩
        rw [← hxe] at hx hc HS hR2 hb2 hc2 hxy
        rw [← hye] at hy hR2 hb2 hc2 hxy ⊢
        clear hst hxe hye hU hU2 hR
        have e3 : IntKind.i64.wrap ((k : Int) + 1) = ((k + 1 : Nat) : Int) := IntWalk.i64_in _ (by omega)
        have e4 : IntKind.u64.wrap (y - x) = y - x := by rw [wrapu]; omega
        have e5 : IntKind.u64.wrap (y - x - 1) = y - x - 1 := by rw [wrapu]; omega
        go_upto_region 8 with (fail)
        generalize wr.setCell ⟨g, k, none⟩ (.int .u64 (y - x - 1)) = wr2 at *
        clear u0 v0 hc hb
        go_wp2
        go_roundw
        case rel => exact ⟨k + 1, hlt, by go_num, by rw [HS.out], hR2, hb2⟩
        case measure => simp [intOf]; omega
      · obtain rfl : k = n := by omega
        rw [rowz_end HD.out] at hR
        have ho := ownu_of_blk hR hs1 (by rw [HD.out]; omega)
        rw [HD.out] at ho
        clear hR
        go_wp2
        go_ret2
        exact ⟨_, rfl, ho, hb⟩
end Go.Proofs.YtlealkfkddhnnaaGreat.Cur
namespace Go.Proofs.YtlealkfkddhnnaaGreat.Cur
open Go.RowKit Mem
set_option linter.unusedVariables false
theorem own_addr {w : World} {B e size n m c : Nat} {A : Option Addr} {xs : List Value} (h : w.ownsRow B e size (.slice A m c) n xs) : ∀ a, A = some a → B ≤ a.block := by
  intro a ha
  subst ha
  rcases h.2 with ⟨e, _⟩ | ⟨g, cap, cur, e, hg, _⟩
  · injection e with e; cases e
  · injection e with e; injection e with e; subst e; exact hg
set_option maxRecDepth 100000 in
set_option maxHeartbeats 2000000 in
theorem dput_yes {w : World} {B b : Nat} {r : Option Nat} {y : List Int} {M c : Int} (A : Option Addr) (n m : Nat) (bb : Int) (z : List Int) (h : Wr w B b r y M c) (hz : Us w A n z) (hn : n ≤ 10000) (hby : ∀ x ∈ z, 0 ≤ x ∧ x < 18446744073709551616) (b0 : 0 ≤ bb) (b1 : bb < 18446744073709551616) (hf : flb bb z = true)
    (hy : y.length ≤ 700000) (hBw : B ≤ w.heap.size) :
    Calls Tryz.prog 109 #[.pointer (some ⟨b, 0, none⟩), .int .u64 bb, .slice A n m] w (WPutsPost B b r y (litems (dif bb z)) M c w) := by
  have HST := steps_any A n m bb z w hz (by omega) hby b0 b1
  rw [hf, difo_yes hf] at HST
  have HB := Lib.hid (dif_bd z bb hf b1 (fun x hx => (hby x hx).1))
  have HL : Hid ((dif bb z).length = n) := Lib.hid (by rw [dif_len, hz.1])
  have hn0 : (0 : Int) ≤ n := by omega
  have hn1 : (n : Int) < 18446744073709551616 := by omega
  clear hby hz hf b0 b1
  generalize dif bb z = l at *
  go_enter Tryz.func109, Tryz.ntmps109
  go_wp2_with fail
  refine HST.mono ?_
  rintro e w1 ⟨v, rfl, ho1, hb1⟩
  obtain ⟨A1, c1, hv⟩ := ho1.slice
  rw [HL.out] at hv
  subst hv
  have HGE := Lib.hid (own_addr ho1)
  have hu1 := (OwnU.us ho1).2.2.2
  have HOFF : Hid (0 < n → ∀ a, A1 = some a → ¬ WS b r a.block) := Lib.hid (fun _ a ha => h.off (HGE.out a ha))
  have HLT : Hid (0 < n → ∀ a, A1 = some a → a.block < w1.heap.size) := Lib.hid (fun h0 => hu1.2.lt (by rw [List.length_map, HL.out]; exact h0))
  have h1 := h.below hb1
  have hk1 : Ks (WS b r) w w1 := Ks.of_below hb1
  have hBw1 : B ≤ w1.heap.size := Nat.le_trans hBw hb1.size
  clear HST ho1 h
  go_wp2_with fail
  refine (vput_any _ h1 hn0 hn1 (by omega) hBw1).mono ?_
  rintro e w2 ⟨r1, rfl, hk2, hg2, hw2⟩
  have hz2 := hu1.ks hk2 HOFF.out
  have HS1 := Lib.hid hb1.size
  have HK1 := Lib.hid hk1
  clear hn0 hn1 h1 hu1 hk1 hb1
  go_wp2
  go_loopw [26] (fun i wr => ∃ (k : Nat) (r' : Option Nat), k ≤ n ∧ i = .int .i64 k ∧ Ks (WS b r) w1 wr ∧ Gr r r' w1 ∧ Wr wr B b r' (puts (vz l.length :: (l.take k).map vz) y M c).1 M (puts (vz l.length :: (l.take k).map vz) y M c).2 ∧ Us wr A1 n l) (fun i _ => n - (intOf i).toNat)
  case atStart => exact ⟨0, r1, by omega, rfl, hk2, hg2, by rw [HL.out]; exact hw2, hz2⟩
  case round =>
    obtain ⟨k, r', hk, rfl, hks, hgr, hw, hus⟩ := hrel
    by_cases hlt : k < n
    · have hx := HB.out _ (getD_mem (z := l) (k := k) (by rw [HL.out]; exact hlt))
      have hle := puts_le (vz l.length :: (l.take k).map vz) y M c
      have hle2 := flatten_le l k (by rw [HL.out]; omega)
      have HN := Lib.hid (litems_take l k (by rw [HL.out]; exact hlt))
      have HSN := Lib.hid (puts_snoc (vz l.length :: (l.take k).map vz) (vz (l.getD k 0)) y M c)
      have HLE : Hid ((puts (vz l.length :: (l.take k).map vz) y M c).1.length ≤ 900000) := Lib.hid (by omega)
      clear hle hle2
      obtain ⟨g, o, rfl, hc⟩ := hus.at_ hlt
      generalize l.getD k 0 = x at *
      go_wp2_with fail
      refine (vput_any _ hw hx.1 hx.2 HLE.out (by have := hks.size; omega)).mono ?_
      rintro e w3 ⟨r2, rfl, hk3, hg3, hw3⟩
      have hus3 := hus.ks hk3 (off_gr HLT.out HOFF.out hgr)
      have hks3 := Ks.wr hks hgr hk3
      have hgr3 : Gr r r2 w1 := hgr.trans hg3 hks.size
      have hw4 : Wr w3 B b r2 (puts (vz l.length :: (l.take (k + 1)).map vz) y M c).1 M (puts (vz l.length :: (l.take (k + 1)).map vz) y M c).2 := by rw [HN.out, HSN.out]; exact hw3
      clear hks hk3 hw hus hg3 hgr hw3
      go_wp2
      go_roundw
      case rel => exact ⟨k + 1, r2, hlt, by go_num, hks3, hgr3, hw4, hus3⟩
      case measure => simp [intOf]; omega
    · obtain rfl : k = n := by omega
      have hrz : vz l.length :: (l.take k).map vz = litems l := by unfold litems; rw [← HL.out, List.take_length]
      rw [hrz] at hw
      go_wp2
      go_end0
      exact ⟨r', rfl, HK1.out.trans hks, (Gr.refl r w).trans hgr HS1.out, hw⟩
end Go.Proofs.YtlealkfkddhnnaaGreat.Cur
namespace Go.Proofs.YtlealkfkddhnnaaGreat.Cur
open Go.RowKit Mem
set_option linter.unusedVariables false
theorem St.tst {α : Type} {d : α} {n : Nat} {g : Rs Int} {p c q v p1 c1 q1 : Int} {bad : Int → Prop} [DecidablePred bad] {C P : Int} {r : Int → α} (h : St 0 n g p c q v p1 c1 q1) (hC : C ≠ 0) {u : α} {c2 q2 : Int}
    (k : (bad v ∧ u = d ∧ FailSt c1 q1 C P c2 q2) ∨ (¬ bad v ∧ u = (if c1 = 0 then r v else d) ∧ c2 = c1 ∧ q2 = q1)) :
    St d n (g.bind d fun x p1 => if bad x then (d, 0, C, P) else (r x, p1, 0, 0)) p c q u p1 c2 q2 := by
  have hp := h.place
  refine h.bind ?_
  rcases k with ⟨hb, rfl, hf⟩ | ⟨hb, rfl, rfl, rfl⟩
  · rcases hf with ⟨rfl, rfl, rfl⟩ | ⟨hc, rfl, rfl⟩
    · unfold fq
      rw [if_neg hC]
      exact St.fault (x := u) (y := 0) (by rw [if_pos hb]) hC hp.1 hp.2
    · exact St.stay hp.1 hp.2 hc
  · by_cases hc : c2 = 0
    · subst hc
      rw [if_pos rfl]
      exact St.done (by rw [if_neg hb]) hp.1 hp.2
    · rw [if_neg hc]
      exact St.stay hp.1 hp.2 hc
theorem FailSt.nz {c q C P c2 q2 : Int} (h : FailSt c q C P c2 q2) (hC : C ≠ 0) : c2 ≠ 0 := by
  rcases h with ⟨_, rfl, _⟩ | ⟨h, rfl, _⟩
  · exact hC
  · exact h
def db (z : List Int) (b p : Int) : Rs Int := (vg z p).bind 0 fun x p1 => if b ≤ x then (0, 0, 13, p) else (b - x - 1, p1, 0, 0)
theorem dgo_succ (z : List Int) (k : Nat) (p b : Int) (acc : List Int) : dgo z (k + 1) p b acc = (db z b p).bind [] fun y p1 => dgo z k p1 y (acc ++ [y]) := by
  rw [dgo]
  unfold db Rs.bind
  by_cases h : (vg z p).2.2.1 ≠ 0
  · rw [if_pos h, if_pos h, if_pos (by exact h)]
  · rw [if_neg h, if_neg h]
    dsimp only
    by_cases hx : b ≤ (vg z p).1
    · simp [hx]
    · simp [hx]
def DbPost (b : Nat) (s : Value) (n : Nat) (z : List Int) (be p c q : Int) (w : World) (e : Ending) (w' : World) : Prop :=
  ∃ v u p' c' q', e = .returned (.int .u64 v) ∧ Kp b w w' ∧ IsRd w' b s p' c' q' ∧ St 0 n (db z be p) p c q u p' c' q' ∧ 0 ≤ v ∧ v < 18446744073709551616 ∧ (c' = 0 → v = u ∧ p + 1 ≤ p')
set_option maxHeartbeats 1000000 in
theorem readbelow_any (b : Nat) (a : Option Addr) (n m : Nat) (z : List Int) (be p c q : Int) (w : World) (h : IsRd w b (.slice a n m) p c q) (hz : Bs w a n z) (h0 : 0 ≤ p) (h1 : p ≤ n) (hn : n ≤ 1000000) (hby : ∀ x ∈ z, 0 ≤ x ∧ x < 256) (be0 : 0 ≤ be) (be1 : be < 18446744073709551616) :
    Calls Tryz.prog 181 #[.pointer (some ⟨b, 0, none⟩), .int .u64 be] w (DbPost b (.slice a n m) n z be p c q w) := by
  go_enter Tryz.func181, Tryz.ntmps181
  go_wp2_with fail
  refine (at_any _ _ _ _ _ _ h).mono ?_
  rintro e w' ⟨rfl, rfl⟩
  go_wp2_with fail
  refine (vread_any _ _ _ _ _ _ _ _ _ h hz h0 h1 hn hby).mono ?_
  rintro e w1 ⟨x, p', c', q', rfl, hk, hr, hs⟩
  have hst := hs.st hz.1 h0 h1 hby
  have hx := rd_lt hs hz.1 h0 h1 hby
  have hmv : c' = 0 → p + 1 ≤ p' := fun hc => by
    by_cases h00 : c = 0
    · subst h00
      rcases rd_ways hs hz.1 h0 h1 hby with ⟨_, _, _, _, _, h, _⟩ | ⟨h, _, hc2, _⟩
      · exact h
      · rw [hc] at hc2; exact absurd hc2.symm h
    · exact absurd (hst.bad h00).2.1 (by rw [hc]; exact fun e => h00 e.symm)
  have HS := Lib.hid hst
  have HM := Lib.hid hmv
  clear hs hst hmv h hz hby
  by_cases hle : be ≤ x
  · have d1 : decide (be ≤ x) = true := by simpa using hle
    go_wp2_with fail
    refine (fail_any _ _ _ _ _ _ _ _ hr).mono ?_
    rintro e w2 ⟨c2, q2, rfl, hk2, hr2, hf⟩
    have HF := Lib.hid hf
    clear hf
    go_wp2
    go_ret
    exact ⟨0, 0, p', c2, q2, rfl, hk.trans hk2, hr2, HS.out.tst (bad := fun x => be ≤ x) (r := fun x => be - x - 1) (by decide) (.inl ⟨hle, rfl, HF.out⟩), by decide, by decide, fun hc => absurd hc (HF.out.nz (by decide))⟩
  · have d1 : decide (be ≤ x) = false := by simpa using hle
    have e1 : IntKind.u64.wrap (be - x) = be - x := by rw [wrapu]; omega
    have e2 : IntKind.u64.wrap (be - x - 1) = be - x - 1 := by rw [wrapu]; omega
    have HLE := Lib.hid hle
    clear hle
    go_wp2
    go_ret
    exact ⟨be - x - 1, if c' = 0 then be - x - 1 else 0, p', c', q', rfl, hk, hr, HS.out.tst (bad := fun x => be ≤ x) (r := fun x => be - x - 1) (by decide) (.inr ⟨by have := HLE.out; omega, rfl, rfl, rfl⟩), by have := HLE.out; omega, by have := HLE.out; omega, fun hc => ⟨(if_pos hc).symm, HM.out hc⟩⟩
set_option maxRecDepth 100000 in
set_option maxHeartbeats 2000000 in
theorem dread_any (b : Nat) (a : Option Addr) (n m : Nat) (z : List Int) (p c q be mo : Int) (w : World) (h : IsRd w b (.slice a n m) p c q) (hz : Bs w a n z) (h0 : 0 ≤ p) (h1 : p ≤ n) (hn : n ≤ 100000) (hby : ∀ x ∈ z, 0 ≤ x ∧ x < 256) (hmo : mo ≤ 9223372036854775807) (be0 : 0 ≤ be) (be1 : be < 18446744073709551616) :
    Calls Tryz.prog 170 #[.pointer (some ⟨b, 0, none⟩), .int .u64 be, .int .i64 mo] w (BLPost b (.slice a n m) n (dl z mo be p) p c q w) := by
  have HBY := Lib.hid hby
  have HBE := Lib.hid (And.intro be0 be1)
  clear hby be0 be1
  go_enter Tryz.func170, Tryz.ntmps170
  go_wp2_with fail
  refine (vint_any _ _ _ _ _ _ _ _ _ _ h hz h0 h1 (by omega) HBY.out hmo).mono ?_
  rintro e w1 ⟨N, p1, c1, q1, rfl, hk1, hr1, hs1⟩
  have hst := hs1.st hz.1 h0 h1 HBY.out
  obtain ⟨p10, p11⟩ := hst.place
  obtain ⟨n0, _⟩ := vm_bd hst HBY.out
  by_cases hc1 : c1 = 0
  case neg =>
    have hN := hst.nil hc1
    have hb := St.bind (f := fun x p1 => dgo z x.toNat p1 be []) hst (St.stay (d := []) p10 p11 hc1)
    have HB := Lib.hid hb
    subst hN
    clear hs1 hst hb
    go_wp2
    go_loopw [7, 11] (fun v i wr => v = .slice none 0 0 ∧ i = .int .i64 0 ∧ wr = w1) (fun _ i _ => 0)
    case atStart => exact ⟨rfl, rfl, rfl⟩
    case round =>
      obtain ⟨rfl, rfl, rfl⟩ := hrel
      go_wp2
      go_ret
      exact ⟨_, [], _, _, _, rfl, OwnU.nil _ _, hk1, hr1, HB.out, by simp⟩
  case pos =>
    subst hc1
    obtain ⟨hc, g0, gv, gp, gq⟩ := hst.good
    subst hc
    rw [gq] at hr1
    obtain ⟨NN, rfl⟩ := Int.eq_ofNat_of_zero_le n0
    have HDL : Hid (dl z mo be p = dgo z NN p1 be []) := Lib.hid (by
      have := vm_shape g0
      unfold dl
      rw [Rs.bind_of (v := (NN : Int)) (p' := p1) (by rw [gv, gp]; exact this), Int.toNat_natCast])
    clear hs1 hst g0 gv gp gq
    go_wp2
    go_loopw [1, 7, 11] (fun bv v i wr => ∃ (k : Nat) (pk bk : Int) (acc : List Int), k ≤ NN ∧ (k : Int) ≤ pk ∧ i = .int .i64 k ∧ bv = .int .u64 bk ∧ OwnU wr w.heap.size v acc ∧ acc.length = k ∧ IsRd wr b (.slice a n m) pk 0 q ∧ Kp b w wr ∧ 0 ≤ pk ∧ pk ≤ n ∧ Hid (0 ≤ bk ∧ bk < 18446744073709551616 ∧ dl z mo be p = dgo z (NN - k) pk bk acc ∧ ∀ x ∈ acc, 0 ≤ x ∧ x < 18446744073709551616)) (fun _ _ i _ => NN - (intOf i).toNat)
    case atStart => exact ⟨0, p1, be, [], by omega, by omega, rfl, rfl, OwnU.nil _ _, rfl, hr1, hk1, p10, p11, Lib.hid ⟨HBE.out.1, HBE.out.2, HDL.out, by simp⟩⟩
    case round =>
      clear hr1 hk1
      obtain ⟨k, pk, bk, acc, hkN, hkp, rfl, rfl, ho, rfl, hr, hk, k0, k1, H⟩ := hrel
      obtain ⟨A1, cc1, rfl⟩ := ho.slice
      by_cases hlt : acc.length < NN
      · have hz1 := hz.kp h (by simp) hk
        go_wp2_with fail
        refine (readbelow_any b a n m z bk pk 0 q _ hr hz1 k0 k1 (by omega) HBY.out H.out.1 H.out.2.1).mono ?_
        rintro e w2 ⟨v, u, p', c', q', rfl, hk2, hr2, hs2, v0, v1, hv⟩
        obtain ⟨p0', p1'⟩ := hs2.place
        have ho2 : OwnU w2 w.heap.size _ acc := own_kp ho hk2 (OwnU.ne_rd ho hr)
        have hk3 := hk.trans hk2
        have HS := Lib.hid hs2
        have HV := Lib.hid hv
        have HN := Lib.hid (show NN - acc.length = (NN - (acc.length + 1)) + 1 by omega)
        clear ho hr hk hk2 hz1 hs2 hv
        go_wp2_with fail
        refine (good_any _ _ _ _ _ _ hr2).mono ?_
        rintro e w3 ⟨rfl, hb3⟩
        have hr3 := hr2.below hb3
        have ho3 : OwnU w3 w.heap.size _ acc := own_below ho2 hb3
        have hk4 := hk3.trans (Kp.of_below hb3)
        clear hr2 ho2 hk3 hb3
        by_cases hc : c' = 0
        · obtain ⟨hvu, hpp⟩ := HV.out hc
          subst hvu
          subst hc
          have h1 := HS.out
          obtain ⟨_, g0, gv, gp, gq⟩ := h1.good
          rw [gq] at hr3
          have HG : Hid (dgo z (NN - acc.length) pk bk acc = dgo z (NN - (acc.length + 1)) p' v (acc ++ [v])) := Lib.hid (by
            rw [HN.out, dgo_succ]
            have e4 : (db z bk pk).2.2.2 = 0 := by
              have g1 := g0
              unfold db at g1 ⊢
              obtain ⟨a0, e5⟩ := Rs.bind_ok g1
              rw [e5] at g1 ⊢
              split
              · rename_i hx; rw [if_pos hx] at g1; exact absurd g1 (by show ¬ (13 : Int) = 0; decide)
              · rfl
            rw [Rs.bind_of (v := v) (p' := p') (by rw [gv, gp]; exact Prod.ext rfl (Prod.ext rfl (Prod.ext g0 e4)))])
          clear h1 g0 gv gp gq
          rw [show ((0 : Int) == 0) = true from rfl]
          have hbA := below_one w3 (.cells #[.int .u64 v] 22)
          have hoA := own_below ho3 hbA
          have hB9 : w.heap.size ≤ (w3.alloc (.cells #[.int .u64 v] 22)).heap.size := by have := hk4.size; simp; omega
          have hrA := hr3.below hbA
          have hkA := hk4.trans (Kp.of_below hbA)
          have hrwA := rw_new w3 (uv [v]) 22
          have hneA := OwnU.ne_rd hoA hrA
          have hgeA := own_ge hoA
          have HLEN : Hid (acc.length + 1 ≤ 1000000) := Lib.hid (by omega)
          clear ho3 hr3 hk4 hbA
          go_wp2_with (at_builtin; go_must (refine list_append_rw kindU rfl (.tmp 19) (.tmp 21) rfl w.heap.size _ _ _ rfl hoA _ 1 _ (uv [v]) rfl rfl hrwA (by simp) (uv_one _) HLEN.out (by omega) hB9 ?_; intro v' w10 ho' hg' hgr; have hk10 := Kp.grown hkA hg' hgeA; have hr10 := rd_grown hrA hg' hneA; clear hrwA hoA hrA hkA hneA hgeA))
          go_roundw
          case rel =>
            refine ⟨acc.length + 1, p', v, acc ++ [v], hlt, by omega, by go_num, rfl, ?_, by rw [List.length_append]; rfl, hr10, hk10, p0', p1', Lib.hid ⟨v0, v1, ?_, ?_⟩⟩
            · unfold OwnU; rw [List.length_append, uv, List.map_append]; exact ho'
            · rw [H.out.2.2.1, HG.out]
            · intro t ht
              rcases List.mem_append.1 ht with ht | ht
              · exact H.out.2.2.2 t ht
              · simp at ht; subst ht; exact ⟨v0, v1⟩
          case measure => simp [intOf]; omega
        · have hcb : (c' == 0) = false := by simpa using hc
          rw [hcb]
          have HE : Hid (St [] n (dl z mo be p) p 0 q [] p' c' q') := Lib.hid (by
            have hb := St.bind (f := fun y p1 => dgo z (NN - (acc.length + 1)) p1 y (acc ++ [y])) HS.out (St.stay (d := []) p0' p1' hc)
            rw [H.out.2.2.1, HN.out, dgo_succ]
            obtain ⟨_, _, hb⟩ := hb
            refine ⟨p0', p1', ?_⟩
            exact hb)
          clear hc
          go_wp2
          go_ret
          exact ⟨_, [], _, _, _, rfl, OwnU.nil _ _, hk4, hr3, HE.out, by simp⟩
      · have hkk : acc.length = NN := by omega
        have HE : Hid (dl z mo be p = (acc, pk, 0, 0)) := Lib.hid (by rw [H.out.2.2.1, hkk, Nat.sub_self]; rfl)
        clear hkk
        go_wp2
        go_ret
        exact ⟨_, acc, _, _, _, rfl, ho, hk, hr, St.done HE.out k0 k1, H.out.2.2.2⟩
end Go.Proofs.YtlealkfkddhnnaaGreat.Cur
namespace Go.Proofs.YtlealkfkddhnnaaGreat.Cur
open Go.RowKit Mem
set_option linter.unusedVariables false
theorem copied3 {w wr : World} {D R B : Nat} {v : Value} {acc : List Int} {s : Value} {p c q : Int} (p' c' q' : Int) {a' : Array Value}
    (hC : Blk wr D (cvs s p c q) 50) (hR : Blk wr R a' 50) (hne : R ≠ D) (ho : OwnU wr B v acc) (hB : D < B) (hb : Below w.heap.size w wr) (hD : w.heap.size ≤ D) :
    ∃ w1, (((((wr.setCell ⟨D, 0, none⟩ s).setCell ⟨D, 1, none⟩ (.int .i64 p')).setCell ⟨D, 2, none⟩ (.int .i64 c')).setCell ⟨D, 3, none⟩ (.int .i64 q'))) = w1 ∧
    Blk w1 D (cvs s p' c' q') 50 ∧ Blk w1 R a' 50 ∧ OwnU w1 B v acc ∧ Below w.heap.size w w1 := by
  obtain ⟨h1, h2⟩ := set4 hC s (.int .i64 p') (.int .i64 c') (.int .i64 q')
  have h3 := Kp.below hb (Nat.le_refl _) h2 hD
  exact ⟨_, rfl, h1, blk_kp hR h2 hne, own_kp ho h2 (fun e => by have := own_ge ho _ e; omega), h3⟩
def DS (a : Option Addr) (n m : Nat) (z : List Int) (mo be p c q : Int) (NN : Nat) (w : World) (D : Nat) (bv v i : Value) (wr : World) : Prop :=
  ∃ (pk ck qk bk : Int) (acc : List Int), bv = .int .u64 bk ∧ OwnU wr (D + 1) v acc ∧ i = .int .i64 acc.length ∧ acc.length ≤ NN ∧ Blk wr D (cvs (.slice a n m) pk ck qk) 50 ∧ Blk wr (w.heap.size + 1) (cvs (.slice none 0 0) 0 0 0) 50 ∧ Below w.heap.size w wr ∧ 0 ≤ pk ∧ pk ≤ n ∧ 0 ≤ bk ∧ bk < 18446744073709551616 ∧
    (((acc.length : Int) ≤ pk ∧ ck = 0 ∧ qk = q ∧ c = 0 ∧ Hid (dl z mo be p = dgo z (NN - acc.length) pk bk acc ∧ ∀ x ∈ acc, 0 ≤ x ∧ x < 18446744073709551616)) ∨
     (ck ≠ 0 ∧ acc.length ≤ 200000 ∧ Hid (St [] n (dl z mo be p) p c q [] pk ck qk)))
set_option maxRecDepth 100000 in
set_option maxHeartbeats 2000000 in
theorem rdread_any (a : Option Addr) (n m : Nat) (z : List Int) (p c q be mo : Int) (w : World) (hz : Bs w a n z) (h0 : 0 ≤ p) (h1 : p ≤ n) (hm : n ≤ m) (hn : n ≤ 100000) (hby : ∀ x ∈ z, 0 ≤ x ∧ x < 256) (hmo : mo ≤ 9223372036854775807) (be0 : 0 ≤ be) (be1 : be < 18446744073709551616) :
    Calls Tryz.prog 132 #[cv (.slice a n m) p c q, .int .u64 be, .int .i64 mo] w (RRLPost (.slice a n m) n (dl z mo be p) p c q w) := by
  have HBY := Lib.hid hby
  have HBE := Lib.hid (And.intro be0 be1)
  clear hby be0 be1
  go_enter Tryz.func132, Tryz.ntmps132
  go_wp2_with fail
  refine (rint_any _ _ _ _ _ _ _ _ _ (hz.below (below_two _ _ _)) h0 h1 hm (by omega) HBY.out hmo).mono ?_
  rintro e w1 ⟨N, p1, c1, q1, rfl, hb1, hs1⟩
  obtain ⟨hC0, hR0, hbd0⟩ := two_new hb1
  have hst := hs1.st hz.1 h0 h1 HBY.out
  obtain ⟨p10, p11⟩ := hst.place
  obtain ⟨n0, _⟩ := vm_bd hst HBY.out
  have HS := Lib.hid hst
  obtain ⟨NN, rfl⟩ := Int.eq_ofNat_of_zero_le n0
  have hbd := hbd0.alloc hbd0.size (.cells (cvs (.slice a n m) p1 c1 q1) 50)
  have hR := hR0.alloc (.cells (cvs (.slice a n m) p1 c1 q1) 50)
  have hD := Blk.new w1 (cvs (.slice a n m) p1 c1 q1) 50
  have hlt1 : w.heap.size + 1 < w1.heap.size := hR0.lt
  clear hb1 hC0 hR0 hbd0 hs1 hst
  go_wp2
  generalize w1.alloc (.cells (cvs (.slice a n m) p1 c1 q1) 50) = w2 at *
  generalize w1.heap.size = D at *
  go_loopw [1, 10, 11] (fun bv v i wr => DS a n m z mo be p c q NN w D bv v i wr) (fun _ _ i _ => NN - (intOf i).toNat)
  case atStart =>
    by_cases hc1 : c1 = 0
    · have hg := HS.out
      rw [hc1] at hg
      obtain ⟨hc, g0, gv, gp, gq⟩ := hg.good
      subst hc1
      subst hc
      rw [gq] at hD
      refine ⟨p1, 0, q, be, [], rfl, OwnU.nil _ _, rfl, by simp, hD, hR, hbd, p10, p11, HBE.out.1, HBE.out.2, .inl ⟨by simpa using p10, rfl, rfl, rfl, Lib.hid ⟨?_, by simp⟩⟩⟩
      have := vm_shape g0
      unfold dl
      rw [Rs.bind_of (v := (NN : Int)) (p' := p1) (by rw [gv, gp]; exact this), Int.toNat_natCast]
      rfl
    · have hb := St.bind (f := fun x p1 => dgo z x.toNat p1 be []) HS.out (St.stay (d := []) p10 p11 hc1)
      exact ⟨p1, c1, q1, be, [], rfl, OwnU.nil _ _, rfl, by simp, hD, hR, hbd, p10, p11, HBE.out.1, HBE.out.2, .inr ⟨hc1, by simp, Lib.hid hb⟩⟩
  case round =>
    obtain ⟨pk, ck, qk, bk, acc, rfl, ho, rfl, hkN, hC, hR, hbd, k0, k1, bk0, bk1, hst⟩ := hrel
    clear hD
    rcases hst with ⟨hkp, hck, hqk, hc, H⟩ | ⟨hck, hal, H⟩
    · subst hck
      subst hqk
      subst hc
      obtain ⟨c0, c1, c2, c3⟩ := hC.c4
      obtain ⟨f0, f1, f2, f3⟩ := hC.f4
      by_cases hkE : acc.length = NN
      · have hz0 : NN - acc.length = 0 := by omega
        have e := H.out.1
        rw [hz0] at e
        have HE := Lib.hid (show dl z mo be p = (acc, pk, 0, 0) from e)
        have hnl : ¬ (acc.length : Int) < (NN : Int) := by omega
        have hnd : decide ((acc.length : Int) < (NN : Int)) = false := by simp; omega
        have hnd2 : decide (acc.length < NN) = false := by simp; omega
        obtain ⟨r0, r1, r2, r3⟩ := hR.c4
        obtain ⟨g0, g1, g2, g3⟩ := hR.f4
        clear e hz0 hkE
        go_wp2
        refine bodyPost_ret (v := .tuple #[cv (.slice a n m) pk 0 qk, _]) (by simp [results, Tryz.results132, go_sem, r0, r1, r2, r3]; rfl) rfl ⟨_, acc, _, _, _, rfl, ?_, ?_, St.done HE.out k0 k1, H.out.2⟩
        · exact (set4_own ho (by omega) _ _ _ _).base (by omega)
        · exact set4_below hbd (by omega) _ _ _ _
      · have hlt : (acc.length : Int) < (NN : Int) := by omega
        have hN : NN - acc.length = (NN - (acc.length + 1)) + 1 := by omega
        have hlt2 : decide (acc.length < NN) = true := by simp; omega
        have HLT : Hid (acc.length + 1 ≤ NN) := Lib.hid (by omega)
        have HN := Lib.hid hN
        clear hkE hN
        go_wp2_with fail
        refine (rread_any _ _ _ _ _ _ _ _ (hz.below hbd) k0 k1 hm (by omega) HBY.out).mono ?_
        rintro e w3 ⟨x, p', c', q', rfl, hb3, hs3⟩
        have hst3 := hs3.st hz.1 k0 k1 HBY.out
        have hx := rd_lt hs3 hz.1 k0 k1 HBY.out
        have hmv : c' = 0 → pk + 1 ≤ p' := fun hc => by
          rcases rd_ways hs3 hz.1 k0 k1 HBY.out with ⟨_, _, _, _, _, h, _⟩ | ⟨h, _, hc2, _⟩
          · exact h
          · rw [hc] at hc2; exact absurd hc2.symm h
        obtain ⟨p0', p1'⟩ := hst3.place
        have HST := Lib.hid hst3
        have HMV := Lib.hid hmv
        have hC3 := hC.below hb3
        have hR3 := hR.below hb3
        have ho3 : OwnU w3 (D + 1) _ acc := own_below ho hb3
        have hbd3 := hbd.trans (hb3.mono hbd.size)
        have hn3 : D < w3.heap.size := hC3.lt
        clear hs3 hst3 hmv hC hR ho hbd hb3 c0 c1 c2 c3 f0 f1 f2 f3 hlt hlt2
        go_upto_region 7 with (fail)
        have hE := Blk.new w3 (cvs (.slice a n m) p' c' q') 50
        have hbX := below_one w3 (.cells (cvs (.slice a n m) p' c' q') 50)
        replace hC := hC3.below hbX
        replace hR := hR3.below hbX
        replace ho : OwnU _ (D + 1) _ acc := own_below ho3 hbX
        replace hbd := hbd3.trans (hbX.mono hbd3.size)
        clear hC3 hR3 ho3 hbd3 hbX
        generalize w3.alloc (.cells (cvs (.slice a n m) p' c' q') 50) = w4 at *
        generalize w3.heap.size = E at *
        obtain ⟨V, e4⟩ : ∃ V, IntKind.u64.wrap (bk - x) = V := ⟨_, rfl⟩
        obtain ⟨Y, e5⟩ : ∃ Y, IntKind.u64.wrap (V - 1) = Y := ⟨_, rfl⟩
        have HY : Hid (0 ≤ Y ∧ Y < 18446744073709551616) := Lib.hid (by rw [← e5, wrapu]; omega)
        have HLEN : Hid (acc.length + 1 ≤ 1000000) := Lib.hid (by omega)
        obtain ⟨c0, c1, c2, c3⟩ := hE.c4
        by_cases hc : c' = 0
        · have hcb : (c' == 0) = true := by simp [hc]
          by_cases hle : bk ≤ x
          · have d1 : decide (bk ≤ x) = true := by simpa using hle
            have hD1 := (hC.c4).2.1
            have HST2 : Hid (∀ c2 q2, FailSt c' q' 13 pk c2 q2 → St 0 n (db z bk pk) pk 0 qk 0 p' c2 q2 ∧ c2 ≠ 0) := Lib.hid fun c2 q2 hf => ⟨HST.out.tst (bad := fun x => bk ≤ x) (r := fun x => bk - x - 1) (by decide) (.inl ⟨hle, rfl, hf⟩), hf.nz (by decide)⟩
            clear hc hle
            go_wp2_with fail
            refine (rfail_any _ _ _ _ _ _ _ _ _).mono ?_
            rintro e w5 ⟨c5, q5, rfl, hb5, hf5⟩
            obtain ⟨hst5, hc5⟩ := HST2.out _ _ hf5
            have HST5 := Lib.hid hst5
            replace hE := hE.below hb5
            replace hC := hC.below hb5
            replace hR := hR.below hb5
            replace ho : OwnU _ (D + 1) _ acc := own_below ho hb5
            replace hbd := hbd.trans (hb5.mono hbd.size)
            obtain ⟨f0, f1, f2, f3⟩ := hE.f4
            clear hf5 hst5 hb5 hD1 c0 c1 c2 c3
            obtain ⟨c0, c1, c2, c3⟩ := hE.c4
            go_upto_region 9 with (fail)
            obtain ⟨hE2, hkE⟩ := set4 hE (.slice a n m) (.int .i64 p') (.int .i64 c5) (.int .i64 q5)
            replace hC := blk_kp hC hkE (by omega)
            replace hR := blk_kp hR hkE (by omega)
            have hneE := own_ne_blk ho hE (by decide)
            replace ho : OwnU _ (D + 1) _ acc := own_kp ho hkE hneE
            replace hbd := Kp.below hbd (Nat.le_refl _) hkE (by omega)
            clear hE hkE hneE f0 f1 f2 f3 c0 c1 c2 c3
            generalize ((((w5.setCell ⟨E, 0, none⟩ (.slice a n m)).setCell ⟨E, 1, none⟩ (.int .i64 p')).setCell ⟨E, 2, none⟩ (.int .i64 c5)).setCell ⟨E, 3, none⟩ (.int .i64 q5)) = w6 at *
            have hE := hE2
            clear hE2
            have hB9 : D + 1 ≤ (w6.alloc (.cells #[.int .u64 Y] 22)).heap.size := by have := hC.lt; simp; omega
            have hbA := below_one w6 (.cells #[.int .u64 Y] 22)
            have hoA := own_below ho hbA
            have hrwA := rw_new w6 (uv [Y]) 22
            have hCA := hC.below hbA
            have hRA := hR.below hbA
            have hEA := hE.below hbA
            have hbdA := hbd.trans (hbA.mono hbd.size)
            have hgeA := own_ge hoA
            have hneA := own_ne_blk hoA hEA (by decide)
            clear hC hR hE ho hbd hbA
            go_wp2_with (at_builtin; go_must (refine list_append_rw kindU rfl (.tmp 53) (.tmp 55) rfl (D + 1) _ _ _ rfl hoA _ 1 _ (uv [Y]) rfl rfl hrwA (by simp) (uv_one _) HLEN.out (by omega) hB9 ?_; intro v' w10 ho' hg' hgr; have hC10 := hCA.ks (Ks.of_grown (S := fun k => D + 1 ≤ k) hg' hgeA) (by omega); have hR10 := hRA.ks (Ks.of_grown (S := fun k => D + 1 ≤ k) hg' hgeA) (by omega); have hbd10 := hbdA.grown hg' (by omega) (fun k hk => by have := hgeA k hk; omega); have hE10 := (hg'.block E hEA.lt (fun e => hneA e.symm)).trans hEA; obtain ⟨x0, x1, x2, x3⟩ := Blk.c4 hE10; obtain ⟨f0, f1, f2, f3⟩ := hC10.f4; obtain ⟨y0, y1, y2, y3⟩ := Blk.c4 hC10; clear hrwA hoA hCA hRA hEA hbdA hgeA hneA))
            go_roundw
            case rel =>
              have hou : OwnU w10 (D + 1) v' (acc ++ [Y]) := by unfold OwnU; rw [List.length_append, uv, List.map_append]; exact ho'
              obtain ⟨wd, hwd, hCd, hRd, hod, hbdd⟩ := copied3 p' c5 q5 hC10 hR10 (by omega) hou (by omega) hbd10 (by omega)
              rw [hwd]
              refine ⟨p', c5, q5, Y, acc ++ [Y], rfl, ?_, by rw [List.length_append]; go_num, by rw [List.length_append]; exact HLT.out, hCd, hRd, hbdd, p0', p1', HY.out.1, HY.out.2, .inr ⟨hc5, by rw [List.length_append]; simp; omega, Lib.hid ?_⟩⟩
              · exact hod
              · have hb := St.bind (f := fun y p1 => dgo z (NN - (acc.length + 1)) p1 y (acc ++ [y])) HST5.out (St.stay (d := []) p0' p1' hc5)
                rw [H.out.1, HN.out, dgo_succ]
                exact hb
            case measure => simp [intOf]; have := HLT.out; omega
          · have d1 : decide (bk ≤ x) = false := by simpa using hle
            have hYe : Y = bk - x - 1 := by rw [← e5, ← e4, wrapu, wrapu]; omega
            have h1 := HST.out
            have h2 := HMV.out hc
            subst hc
            obtain ⟨_, g0, gv, gp, gq⟩ := h1.good
            subst gq
            have HG : Hid (dgo z (NN - acc.length) pk bk acc = dgo z (NN - (acc.length + 1)) p' Y (acc ++ [Y])) := Lib.hid (by
              rw [HN.out, dgo, Rs.bind_of (v := x) (p' := p') (by rw [gv, gp]; exact vg_shape g0), if_neg hle, hYe])
            have HLE := Lib.hid hle
            clear h1 g0 gv gp hYe hle
            have hB9 : D + 1 ≤ (w4.alloc (.cells #[.int .u64 Y] 22)).heap.size := by have := hC.lt; simp; omega
            have hbA := below_one w4 (.cells #[.int .u64 Y] 22)
            have hoA := own_below ho hbA
            have hrwA := rw_new w4 (uv [Y]) 22
            have hCA := hC.below hbA
            have hRA := hR.below hbA
            have hEA := hE.below hbA
            have hbdA := hbd.trans (hbA.mono hbd.size)
            have hgeA := own_ge hoA
            have hneA := own_ne_blk hoA hEA (by decide)
            clear hC hR hE ho hbd hbA
            go_wp2_with (at_builtin; go_must (refine list_append_rw kindU rfl (.tmp 53) (.tmp 55) rfl (D + 1) _ _ _ rfl hoA _ 1 _ (uv [Y]) rfl rfl hrwA (by simp) (uv_one _) HLEN.out (by omega) hB9 ?_; intro v' w10 ho' hg' hgr; have hC10 := hCA.ks (Ks.of_grown (S := fun k => D + 1 ≤ k) hg' hgeA) (by omega); have hR10 := hRA.ks (Ks.of_grown (S := fun k => D + 1 ≤ k) hg' hgeA) (by omega); have hbd10 := hbdA.grown hg' (by omega) (fun k hk => by have := hgeA k hk; omega); have hE10 := (hg'.block E hEA.lt (fun e => hneA e.symm)).trans hEA; obtain ⟨x0, x1, x2, x3⟩ := Blk.c4 hE10; obtain ⟨f0, f1, f2, f3⟩ := hC10.f4; obtain ⟨y0, y1, y2, y3⟩ := Blk.c4 hC10; clear hrwA hoA hCA hRA hEA hbdA hgeA hneA))
            go_roundw
            case rel =>
              have hou : OwnU w10 (D + 1) v' (acc ++ [Y]) := by unfold OwnU; rw [List.length_append, uv, List.map_append]; exact ho'
              obtain ⟨wd, hwd, hCd, hRd, hod, hbdd⟩ := copied3 p' 0 q' hC10 hR10 (by omega) hou (by omega) hbd10 (by omega)
              rw [hwd]
              refine ⟨p', 0, q', Y, acc ++ [Y], rfl, ?_, by rw [List.length_append]; go_num, by rw [List.length_append]; exact HLT.out, hCd, hRd, hbdd, p0', p1', HY.out.1, HY.out.2, .inl ⟨by rw [List.length_append]; simp; omega, rfl, rfl, rfl, Lib.hid ⟨?_, ?_⟩⟩⟩
              · exact hod
              · rw [H.out.1, HG.out, List.length_append]; rfl
              · intro t ht
                rcases List.mem_append.1 ht with ht | ht
                · exact H.out.2 t ht
                · simp at ht; subst ht; exact HY.out
            case measure => simp [intOf]; have := HLT.out; omega
        · have hcb : (c' == 0) = false := by simpa using hc
          have HCN := Lib.hid hc
          clear hc
          have hB9 : D + 1 ≤ (w4.alloc (.cells #[.int .u64 Y] 22)).heap.size := by have := hC.lt; simp; omega
          have hbA := below_one w4 (.cells #[.int .u64 Y] 22)
          have hoA := own_below ho hbA
          have hrwA := rw_new w4 (uv [Y]) 22
          have hCA := hC.below hbA
          have hRA := hR.below hbA
          have hEA := hE.below hbA
          have hbdA := hbd.trans (hbA.mono hbd.size)
          have hgeA := own_ge hoA
          have hneA := own_ne_blk hoA hEA (by decide)
          clear hC hR hE ho hbd hbA
          go_wp2_with (at_builtin; go_must (refine list_append_rw kindU rfl (.tmp 53) (.tmp 55) rfl (D + 1) _ _ _ rfl hoA _ 1 _ (uv [Y]) rfl rfl hrwA (by simp) (uv_one _) HLEN.out (by omega) hB9 ?_; intro v' w10 ho' hg' hgr; have hC10 := hCA.ks (Ks.of_grown (S := fun k => D + 1 ≤ k) hg' hgeA) (by omega); have hR10 := hRA.ks (Ks.of_grown (S := fun k => D + 1 ≤ k) hg' hgeA) (by omega); have hbd10 := hbdA.grown hg' (by omega) (fun k hk => by have := hgeA k hk; omega); have hE10 := (hg'.block E hEA.lt (fun e => hneA e.symm)).trans hEA; obtain ⟨x0, x1, x2, x3⟩ := Blk.c4 hE10; obtain ⟨f0, f1, f2, f3⟩ := hC10.f4; obtain ⟨y0, y1, y2, y3⟩ := Blk.c4 hC10; clear hrwA hoA hCA hRA hEA hbdA hgeA hneA))
          go_roundw
          case rel =>
            have hou : OwnU w10 (D + 1) v' (acc ++ [Y]) := by unfold OwnU; rw [List.length_append, uv, List.map_append]; exact ho'
            obtain ⟨wd, hwd, hCd, hRd, hod, hbdd⟩ := copied3 p' c' q' hC10 hR10 (by omega) hou (by omega) hbd10 (by omega)
            rw [hwd]
            refine ⟨p', c', q', Y, acc ++ [Y], rfl, ?_, by rw [List.length_append]; go_num, by rw [List.length_append]; exact HLT.out, hCd, hRd, hbdd, p0', p1', HY.out.1, HY.out.2, .inr ⟨HCN.out, by rw [List.length_append]; simp; omega, Lib.hid ?_⟩⟩
            · exact hod
            · have hb := St.bind (f := fun x p1 => if bk ≤ x then ([], 0, 13, pk) else dgo z (NN - (acc.length + 1)) p1 (bk - x - 1) (acc ++ [bk - x - 1])) HST.out (St.stay (d := []) p0' p1' HCN.out)
              rw [H.out.1, HN.out, dgo]
              exact hb
          case measure => simp [intOf]; have := HLT.out; omega
    · have hcb : (ck == 0) = false := by simpa using hck
      have hcb' : (ck != 0) = true := by simpa using hck
      clear hck
      by_cases hkE : acc.length < NN
      · have hlt2 : decide (acc.length < NN) = true := by simpa using hkE
        obtain ⟨c0, c1, c2, c3⟩ := hC.c4
        obtain ⟨r0, r1, r2, r3⟩ := hR.c4
        obtain ⟨g0, g1, g2, g3⟩ := hR.f4
        go_wp2
        refine bodyPost_ret (v := .tuple #[cv (.slice a n m) pk ck qk, .slice none 0 0]) (by simp [results, Tryz.results132, go_sem, r0, r1, r2, r3]) rfl ⟨_, [], _, _, _, rfl, OwnU.nil _ _, ?_, H.out, by simp⟩
        exact set4_below hbd (by omega) _ _ _ _
      · have hlt2 : decide (acc.length < NN) = false := by simpa using hkE
        obtain ⟨c0, c1, c2, c3⟩ := hC.c4
        obtain ⟨r0, r1, r2, r3⟩ := hR.c4
        obtain ⟨g0, g1, g2, g3⟩ := hR.f4
        go_wp2
        refine bodyPost_ret (v := .tuple #[cv (.slice a n m) pk ck qk, .slice none 0 0]) (by simp [results, Tryz.results132, go_sem, r0, r1, r2, r3]) rfl ⟨_, [], _, _, _, rfl, OwnU.nil _ _, ?_, H.out, by simp⟩
        exact set4_below hbd (by omega) _ _ _ _
end Go.Proofs.YtlealkfkddhnnaaGreat.Cur

/- Entries: rows of them, gone through; their bytes, one behind the other. -/
import Derived.Test.YtoeedhdckccajaaEntD
namespace Go.Proofs.Ytoeedhdckccajaa.Cur
open Go.RowKit Mem
set_option linter.unusedVariables false
set_option maxRecDepth 100000


/-- No entry is long. -/
def esm (L : List En) : Prop := ∀ k, (L.getD k en0).1.length ≤ 50 ∧ blen 50 (L.getD k en0).1 ∧ (L.getD k en0).2.length ≤ 500
/-- The bytes of the first k entries. -/
def jk (L : List En) (k : Nat) : List Int := ((L.take k).map (·.2)).flatten
theorem jk_zero (L : List En) : jk L 0 = [] := rfl
theorem jk_next {L : List En} {k : Nat} (h : k < L.length) : jk L (k + 1) = jk L k ++ (L.getD k en0).2 := by
  unfold jk
  rw [List.take_succ_eq_append_getElem h, List.map_append, List.flatten_append, List.getD_eq_getElem?_getD, List.getElem?_eq_getElem h]
  simp
theorem jk_next_len {L : List En} {k : Nat} (h : k < L.length) : (jk L (k + 1)).length = (jk L k).length + (L.getD k en0).2.length := by rw [jk_next h, List.length_append]
theorem jk_le {L : List En} (h : esm L) (k : Nat) : k ≤ L.length → (jk L k).length ≤ 500 * k := by
  induction k with
  | zero => intro _; simp [jk_zero]
  | succ k ih => intro hk; rw [jk_next_len (by omega)]; have := ih (by omega); have := (h k).2.2; omega
theorem jk_mono {L : List En} {k n : Nat} (h : k ≤ n) (hn : n ≤ L.length) : (jk L k).length ≤ (jk L n).length := by
  induction n with
  | zero => obtain rfl : k = 0 := by omega
            exact Nat.le_refl _
  | succ n ih =>
    rcases Nat.lt_or_ge n k with h2 | h2
    · obtain rfl : k = n + 1 := by omega
      exact Nat.le_refl _
    · rw [jk_next_len (by omega)]; have := ih h2 (by omega); omega
theorem jk_byte {L : List En} (h : ∀ k, ∀ x ∈ (L.getD k en0).2, 0 ≤ x ∧ x < 256) (k : Nat) : k ≤ L.length → ∀ x ∈ jk L k, 0 ≤ x ∧ x < 256 := by
  induction k with
  | zero => intro _ x hx; simp [jk_zero] at hx
  | succ k ih => intro hk x hx; rw [jk_next (by omega)] at hx; rcases List.mem_append.1 hx with hx | hx; exact ih (by omega) x hx; exact h k x hx

def ManyPost (n : Nat) (L : List En) (w : World) (e : Ending) (w' : World) : Prop := ∃ b, e = .returned (.bool b) ∧ Below w.heap.size w w' ∧ (b = false → n ≤ 30 ∧ esm L)
set_option maxHeartbeats 2000000 in
theorem many_any (P : Nat → Prop) (A : Option Addr) (n m : Nat) (L : List En) (w : World) (hz : Ens w P A n L) :
    Calls Try.prog 24 #[.slice A n m] w (ManyPost n L w) := by
  have HL := Lib.hid hz.1
  have HC := Lib.hid (fun h => hz.cells h)
  clear hz
  go_enter Try.func24, Try.ntmps24
  go_wp2
  go_loopw [3] (fun i wr => ∃ k : Nat, k ≤ n ∧ k ≤ 30 ∧ i = .int .i64 k ∧ Hid (∀ j, j < k → (L.getD j en0).1.length ≤ 50 ∧ blen 50 (L.getD j en0).1 ∧ (L.getD j en0).2.length ≤ 500) ∧ Below w.heap.size w wr) (fun i _ => 30 - (intOf i).toNat)
  case atStart => exact ⟨0, by omega, by omega, rfl, Lib.hid (by intro j hj; omega), Below.refl _ _⟩
  case round =>
    obtain ⟨k, hk, hk50, rfl, hj, hbd⟩ := hrel
    by_cases hlt : k < n
    · by_cases h50 : k < 30
      · have e2 : (k : Int) < 30 := by omega
        obtain ⟨g, o, rfl, _, hg, hc⟩ := HC.out (by omega)
        obtain ⟨K, D, a1, l1, m1, b1, r1, k1, he, hlm, hnl, hks, hrk, hnb, hbs, hbb, hsq, hcell⟩ := hc k hlt
        have ek : (k : Int) < n := by omega
        have e3 : IntKind.i64.wrap ((k : Int) + 1) = ((k + 1 : Nat) : Int) := IntWalk.i64_in _ (by omega)
        obtain ⟨c0, c1⟩ := hcell wr hbd
        have hcon := long24_any P a1 l1 m1 K b1 r1 k1 wr (hks.below hbd)
        have HLL : Hid (l1 ≤ 50 ∧ blen 50 K ∧ r1 ≤ 500 → (L.getD k en0).1.length ≤ 50 ∧ blen 50 (L.getD k en0).1 ∧ (L.getD k en0).2.length ≤ 500) := Lib.hid (by rw [he]; show _ → K.length ≤ 50 ∧ blen 50 K ∧ D.length ≤ 500; rw [hks.1, hbs.1]; exact id)
        clear hc hcell he hlm hnl hks hrk hnb hbs hbb hsq
        go_wp2_with fail
        refine hcon.mono ?_
        rintro e w1 ⟨lb, rfl, hb1, hlong⟩
        have hbd1 := hbd.trans (hb1.mono hbd.size)
        clear hcon c0 c1 hb1 hbd
        cases lb
        · have HSM := Lib.hid (HLL.out (hlong rfl))
          clear hlong
          go_wp2
          go_roundw
          case rel => exact ⟨k + 1, by omega, by omega, by go_num, Lib.hid (fun j hjk => by
            rcases Nat.lt_or_ge j k with h | h
            · exact hj.out j h
            · obtain rfl : j = k := by omega
              exact HSM.out), hbd1⟩
          case measure => simp [intOf]; omega
        · clear hlong
          go_wp2
          go_ret
          exact ⟨true, rfl, hbd1, fun h => by cases h⟩
      · have e2 : ¬ (k : Int) < 30 := by omega
        have e3 : 30 < (n : Int) := by omega
        have e1 : (k : Int) < n := by omega
        go_wp2
        go_ret
        exact ⟨true, rfl, hbd, fun h => by cases h⟩
    · obtain rfl : k = n := by omega
      have e3 : ¬ 30 < (k : Int) := by omega
      have HN : Hid (esm L) := Lib.hid fun j => by
        rcases Nat.lt_or_ge j k with h | h
        · exact hj.out j h
        · rw [List.getD_eq_getElem?_getD, List.getElem?_eq_none (by rw [HL.out]; exact h)]
          exact ⟨by simp [en0], fun s hs => by simp [en0] at hs, by simp [en0]⟩
      go_wp2
      go_ret
      exact ⟨false, rfl, hbd, fun _ => ⟨hk50, HN.out⟩⟩

set_option maxHeartbeats 2000000 in
theorem total_any (P : Nat → Prop) (A : Option Addr) (n m : Nat) (L : List En) (w : World) (hz : Ens w P A n L) (hn : n ≤ 30) (hs : esm L) :
    Calls Try.prog 28 #[.slice A n m] w (BPost (.int .i64 (jk L n).length) w) := by
  have HL := Lib.hid hz.1
  have HC := Lib.hid (fun h => hz.cells h)
  have HJN := Lib.hid (fun k (h : k < L.length) => jk_next_len h)
  have HJL := Lib.hid (fun k => jk_le hs k)
  have hj0 : (jk L 0).length = 0 := rfl
  unfold BPost
  generalize hJ : (fun k => (jk L k).length) = J
  have hJ' : ∀ k, (jk L k).length = J k := fun k => by rw [← hJ]
  simp only [hJ'] at HJN HJL hj0 ⊢
  clear hJ hJ' hz hs
  go_enter Try.func28, Try.ntmps28
  go_wp2
  go_loopw [3, 8] (fun t i wr => ∃ k : Nat, k ≤ n ∧ t = .int .i64 (J k) ∧ i = .int .i64 k ∧ Below w.heap.size w wr) (fun _ i _ => n - (intOf i).toNat)
  case atStart => exact ⟨0, by omega, by rw [hj0]; rfl, rfl, Below.refl _ _⟩
  case round =>
    obtain ⟨k, hk, rfl, rfl, hbd⟩ := hrel
    by_cases hlt : k < n
    · obtain ⟨g, o, rfl, _, hg, hc⟩ := HC.out (by omega)
      obtain ⟨K, D, a1, l1, m1, b1, r1, k1, he, hlm, hnl, hks, hrk, hnb, hbs, hbb, hsq, hcell⟩ := hc k hlt
      have ek : (k : Int) < n := by omega
      have e3 : IntKind.i64.wrap ((k : Int) + 1) = ((k + 1 : Nat) : Int) := IntWalk.i64_in _ (by omega)
      obtain ⟨c0, c1⟩ := hcell wr hbd
      have hX := Blk.new wr (enc' a1 l1 m1 b1 r1 k1) 26
      have hbX := hbd.trans ((below_one wr (.cells (enc' a1 l1 m1 b1 r1 k1) 26)).mono hbd.size)
      obtain ⟨x0, x1⟩ := hX.c2
      have hjn := HJN.out k (by rw [HL.out]; exact hlt)
      rw [he] at hjn
      replace hjn : J (k + 1) = J k + D.length := hjn
      rw [hbs.1] at hjn
      have hjl := HJL.out (k + 1) (by rw [HL.out]; exact hlt)
      have e4 : IntKind.i64.wrap ((J k : Int) + r1) = (J (k + 1) : Int) := by rw [IntWalk.i64_in _ (by omega)]; omega
      clear hc hcell he hlm hnl hks hrk hnb hbs hbb hsq hbd hjn hjl
      go_wp2
      go_roundw
      case rel => exact ⟨k + 1, by omega, by go_num, by go_num, hbX⟩
      case measure => simp [intOf]; omega
    · obtain rfl : k = n := by omega
      go_wp2
      go_ret
      exact ⟨rfl, hbd⟩

theorem own_parts24 {w : World} {B : Nat} {v : Value} {z : List Int} (h : Own w B v z) : ∃ A c, v = .slice A z.length c ∧ Bs w A z.length z ∧ (A = none → c = 0) ∧ z.length ≤ c := by
  obtain ⟨A, c, rfl, h0, h1⟩ := own_slice h
  exact ⟨A, c, rfl, h.bs.2, h0, h1⟩
set_option maxHeartbeats 2000000 in
theorem rjoin_any (P : Nat → Prop) (A : Option Addr) (n m : Nat) (L : List En) (w : World) (hz : Ens w P A n L) (hn : n ≤ 30) (hs : esm L) :
    Calls Try.prog 27 #[.slice A n m] w (RowPost (jk L n) w) := by
  have HL := Lib.hid hz.1
  have HC := Lib.hid (fun h => hz.cells h)
  have HJN := Lib.hid (fun k (h : k < L.length) => jk_next h)
  have HJL := Lib.hid (fun k => jk_le hs k)
  clear hz hs
  go_enter Try.func27, Try.ntmps27
  go_wp2
  go_loopw [3, 4] (fun v i wr => ∃ k : Nat, k ≤ n ∧ i = .int .i64 k ∧ Hid (Own wr w.heap.size v (jk L k)) ∧ Below w.heap.size w wr) (fun _ i _ => n - (intOf i).toNat)
  case atStart => exact ⟨0, by omega, rfl, Lib.hid (Own.nil _ _), Below.refl _ _⟩
  case round =>
    obtain ⟨k, hk, rfl, ho, hbd⟩ := hrel
    by_cases hlt : k < n
    · obtain ⟨g, o, rfl, _, hg, hc⟩ := HC.out (by omega)
      obtain ⟨K, D, a1, l1, m1, b1, r1, k1, he, hlm, hnl, hks, hrk, hnb, hbs, hbb, hsq, hcell⟩ := hc k hlt
      have ek : (k : Int) < n := by omega
      have e3 : IntKind.i64.wrap ((k : Int) + 1) = ((k + 1 : Nat) : Int) := IntWalk.i64_in _ (by omega)
      have hjn := HJN.out k (by rw [HL.out]; exact hlt)
      rw [he] at hjn
      replace hjn : jk L (k + 1) = jk L k ++ D := hjn
      have hll : (jk L k).length + r1 ≤ 15000 := by
        have := HJL.out (k + 1) (by rw [HL.out]; exact hlt)
        rw [hjn, List.length_append, hbs.1] at this
        omega
      obtain ⟨c0, c1⟩ := hcell wr hbd
      have hbs2 := hbs.below hbd
      have hwB := hbd.size
      clear hc hcell he hlm hnl hks hbs hbb hsq
      go_wp2_with (at_builtin; go_must (refine list_append_gr rfl (.tmp 11) (.tmp 16) rfl w.heap.size _ (jk L k) rfl ho.out _ r1 k1 D rfl hbs2 hnb (by omega) hwB ?_; intro v' w' ho' hg' hgr'; have hb' := Own.belowOf hbd hwB ho.out hg'; rw [← hjn] at ho'; have HO := Lib.hid ho'; clear ho' hg' hgr'))
      go_roundw
      case rel => exact ⟨k + 1, by omega, by go_num, HO, hb'⟩
      case measure => simp [intOf]; omega
    · obtain rfl : k = n := by omega
      obtain ⟨A', c', rfl⟩ := ho.out.slice
      have HR := Lib.hid (Own.rowPost (B := 0) ho.out hbd)
      clear ho
      go_wp2
      go_ret
      exact HR.out
theorem make_by (N : Nat) (hN : N ≤ 1000000) (w' : World) : (Instr.makeSlice 24 (.int .i64 0) (.int .i64 (N : Int))).run Try.prog w' = .ok (.slice (some ⟨w'.heap.size, 0, none⟩) 0 N) (w'.alloc (.cells (madeCells #[.int .u8 0] N) 5)) := by
  obtain ⟨i0, hi, hz0, hz1, hz2⟩ := info_parts info5
  have hr := run_make (P := Try.prog) w' 24 5 i0 (.int .u8 0) Try.underlying24 hi hz0 .i64 .i64 0 (N : Int) (by omega) (by omega) (by rw [hz2]; omega) (by omega)
  simp only [Int.toNat_zero, Int.toNat_natCast, hz1, Nat.mul_one] at hr
  exact hr
theorem own_made24 (w : World) (N : Nat) (hN : N ≤ 1000000) : Own (w.alloc (.cells (madeCells #[.int .u8 0] N) 5)) w.heap.size (.slice (some ⟨w.heap.size, 0, none⟩) 0 N) [] :=
  ⟨by simp, .inr ⟨w.heap.size, N, madeCells #[.int .u8 0] N, rfl, Nat.le_refl _, Blk.new _ _ _, Nat.zero_le _, by simp only [maxLen]; omega, by simp [size_madeCells], by simp⟩⟩
set_option maxHeartbeats 2000000 in
theorem join_any24 (P : Nat → Prop) (A : Option Addr) (n m : Nat) (L : List En) (w : World) (hz : Ens w P A n L) (hn : n ≤ 30) (hs : esm L) :
    Calls Try.prog 25 #[.slice A n m] w (RowPost (jk L n) w) := by
  have HL := Lib.hid hz.1
  have HC := Lib.hid (fun h => hz.cells h)
  have HJN := Lib.hid (fun k (h : k < L.length) => jk_next h)
  have HJL := Lib.hid (fun k => jk_le hs k)
  have hcon := total_any P A n m L w hz hn hs
  obtain ⟨N, hN⟩ : ∃ N, N = (jk L n).length := ⟨_, rfl⟩
  have hN1 : N ≤ 15000 := by have := HJL.out n (by rw [HL.out]; exact Nat.le_refl _); omega
  rw [← hN] at hcon
  unfold BPost at hcon
  clear hz hs hN
  go_enter Try.func25, Try.ntmps25
  go_wp2_with fail
  refine hcon.mono ?_
  rintro e w1 ⟨rfl, hb1⟩
  have hmk := make_by N (by omega) w1
  have hbA := hb1.trans ((below_one w1 (.cells (madeCells #[.int .u8 0] N) 5)).mono hb1.size)
  have hoA := (own_made24 w1 N (by omega)).base (B' := w.heap.size) (fun g hg => by have := (own_made24 w1 N (by omega)).ge g hg; have := hb1.size; omega)
  clear hcon hb1
  go_wp2
  clear hmk
  generalize w1.alloc (.cells (madeCells #[.int .u8 0] N) 5) = w2 at *
  go_loopw [3, 11] (fun v i wr => ∃ k : Nat, k ≤ n ∧ i = .int .i64 k ∧ Hid (Own wr w.heap.size v (jk L k)) ∧ Below w.heap.size w wr) (fun _ i _ => n - (intOf i).toNat)
  case atStart => exact ⟨0, by omega, rfl, Lib.hid hoA, hbA⟩
  case round =>
    clear hoA hbA
    obtain ⟨k, hk, rfl, ho, hbd⟩ := hrel
    by_cases hlt : k < n
    · obtain ⟨g, o, rfl, _, hg, hc⟩ := HC.out (by omega)
      obtain ⟨K, D, a1, l1, m1, b1, r1, k1, he, hlm, hnl, hks, hrk, hnb, hbs, hbb, hsq, hcell⟩ := hc k hlt
      have ek : (k : Int) < n := by omega
      have e3 : IntKind.i64.wrap ((k : Int) + 1) = ((k + 1 : Nat) : Int) := IntWalk.i64_in _ (by omega)
      have hjn := HJN.out k (by rw [HL.out]; exact hlt)
      rw [he] at hjn
      replace hjn : jk L (k + 1) = jk L k ++ D := hjn
      have hll : (jk L k).length + r1 ≤ 15000 := by
        have := HJL.out (k + 1) (by rw [HL.out]; exact hlt)
        rw [hjn, List.length_append, hbs.1] at this
        omega
      obtain ⟨c0, c1⟩ := hcell wr hbd
      have hbO := below_one wr (.cells (enc' a1 l1 m1 b1 r1 k1) 26)
      have hX := Blk.new wr (enc' a1 l1 m1 b1 r1 k1) 26
      have hbX := hbd.trans (hbO.mono hbd.size)
      have hoX := ho.out.below hbO
      have hbs2 := hbs.below hbX
      have hwB := hbX.size
      obtain ⟨x0, x1⟩ := hX.c2
      clear hc hcell he hlm hnl hks hbs hbb hsq hbO
      go_wp2_with (at_builtin; go_must (refine list_append_gr rfl (.tmp 15) (.tmp 17) rfl w.heap.size _ (jk L k) rfl hoX _ r1 k1 D rfl hbs2 hnb (by omega) hwB ?_; intro v' w' ho' hg' hgr'; have hb' := Own.belowOf hbX hwB hoX hg'; rw [← hjn] at ho'; have HO := Lib.hid ho'; clear ho' hg' hgr'))
      go_roundw
      case rel => exact ⟨k + 1, by omega, by go_num, HO, hb'⟩
      case measure => simp [intOf]; omega
    · obtain rfl : k = n := by omega
      obtain ⟨A', c', rfl⟩ := ho.out.slice
      have HR := Lib.hid (Own.rowPost (B := 0) ho.out hbd)
      clear ho
      go_wp2
      go_ret
      exact HR.out
end Go.Proofs.Ytoeedhdckccajaa.Cur

/- As the seat's text, without what nothing here names. -/
import Derived.Test.YtoemmppoejaapaaK37f
import Derived.Test.YtoemmppoejaapaaK1f
namespace Go.Proofs.Ytoemmppoejaapaa.Cur
open Go.RowKit Mem
set_option linter.unusedVariables false
set_option maxRecDepth 100000
def esm (L : List En) : Prop := ∀ k, (L.getD k en0).1.length ≤ 50 ∧ blen 50 (L.getD k en0).1 ∧ (L.getD k en0).2.length ≤ 500
def jk (L : List En) (k : Nat) : List Int := ((L.take k).map (·.2)).flatten
theorem jk_zero (L : List En) : jk L 0 = [] := rfl
theorem jk_next {L : List En} {k : Nat} (h : k < L.length) : jk L (k + 1) = jk L k ++ (L.getD k en0).2 := by
  unfold jk
  rw [List.take_succ_eq_append_getElem h, List.map_append, List.flatten_append, List.getD_eq_getElem?_getD, List.getElem?_eq_getElem h]
  simp
theorem jk_next_len {L : List En} {k : Nat} (h : k < L.length) : (jk L (k + 1)).length = (jk L k).length + (L.getD k en0).2.length := by rw [jk_next h, List.length_append]
theorem jk_le {L : List En} (h : esm L) (k : Nat) : k ≤ L.length → (jk L k).length ≤ 500 * k := by
  induction k with
  | zero => intro _; simp [jk_zero]
  | succ k ih => intro hk; rw [jk_next_len (by omega)]; have := ih (by omega); have := (h k).2.2; omega
def ManyPost (n : Nat) (L : List En) (w : World) (e : Ending) (w' : World) : Prop := ∃ b, e = .returned (.bool b) ∧ Below w.heap.size w w' ∧ (b = false → n ≤ 30 ∧ esm L)
set_option maxHeartbeats 2000000 in
theorem many_any (P : Nat → Prop) (A : Option Addr) (n m : Nat) (L : List En) (w : World) (hz : Ens w P A n L) :
    Calls Try.prog 21 #[.slice A n m] w (ManyPost n L w) := by
  have HL := Lib.hid hz.1
  have HC := Lib.hid (fun h => hz.cells h)
  clear hz
  go_enter Try.func21, Try.ntmps21
  go_wp2
  go_loopw [3] (fun i wr => ∃ k : Nat, k ≤ n ∧ k ≤ 30 ∧ i = .int .i64 k ∧ Hid (∀ j, j < k → (L.getD j en0).1.length ≤ 50 ∧ blen 50 (L.getD j en0).1 ∧ (L.getD j en0).2.length ≤ 500) ∧ Below w.heap.size w wr) (fun i _ => 30 - (intOf i).toNat)
  case atStart => exact ⟨0, by omega, by omega, rfl, Lib.hid (by intro j hj; omega), Below.refl _ _⟩
  case round =>
    obtain ⟨k, hk, hk50, rfl, hj, hbd⟩ := hrel
    by_cases hlt : k < n
    · by_cases h50 : k < 30
      · have e2 : (k : Int) < 30 := by omega
        obtain ⟨g, o, rfl, _, hg, hc⟩ := HC.out (by omega)
        obtain ⟨K, D, a1, l1, m1, b1, r1, k1, he, hlm, hnl, hks, hrk, hnb, hbs, hbb, hsq, hcell⟩ := hc k hlt
        have ek : (k : Int) < n := by omega
        have e3 : IntKind.i64.wrap ((k : Int) + 1) = ((k + 1 : Nat) : Int) := IntWalk.i64_in _ (by omega)
        obtain ⟨c0, c1⟩ := hcell wr hbd
        have hcon := long24_any P a1 l1 m1 K b1 r1 k1 wr (hks.below hbd)
        have HLL : Hid (l1 ≤ 50 ∧ blen 50 K ∧ r1 ≤ 500 → (L.getD k en0).1.length ≤ 50 ∧ blen 50 (L.getD k en0).1 ∧ (L.getD k en0).2.length ≤ 500) := Lib.hid (by rw [he]; show _ → K.length ≤ 50 ∧ blen 50 K ∧ D.length ≤ 500; rw [hks.1, hbs.1]; exact id)
        clear hc hcell he hlm hnl hks hrk hnb hbs hbb hsq
        go_wp2_with fail
        refine hcon.mono ?_
        rintro e w1 ⟨lb, rfl, hb1, hlong⟩
        have hbd1 := hbd.trans (hb1.mono hbd.size)
        clear hcon c0 c1 hb1 hbd
        cases lb
        · have HSM := Lib.hid (HLL.out (hlong rfl))
          clear hlong
          go_wp2
          go_roundw
          case rel => exact ⟨k + 1, by omega, by omega, by go_num, Lib.hid (fun j hjk => by
            rcases Nat.lt_or_ge j k with h | h
            · exact hj.out j h
            · obtain rfl : j = k := by omega
              exact HSM.out), hbd1⟩
          case measure => simp [intOf]; omega
        · clear hlong
          go_wp2
          go_ret
          exact ⟨true, rfl, hbd1, fun h => by cases h⟩
      · have e2 : ¬ (k : Int) < 30 := by omega
        have e3 : 30 < (n : Int) := by omega
        have e1 : (k : Int) < n := by omega
        go_wp2
        go_ret
        exact ⟨true, rfl, hbd, fun h => by cases h⟩
    · obtain rfl : k = n := by omega
      have e3 : ¬ 30 < (k : Int) := by omega
      have HN : Hid (esm L) := Lib.hid fun j => by
        rcases Nat.lt_or_ge j k with h | h
        · exact hj.out j h
        · rw [List.getD_eq_getElem?_getD, List.getElem?_eq_none (by rw [HL.out]; exact h)]
          exact ⟨by simp [en0], fun s hs => by simp [en0] at hs, by simp [en0]⟩
      go_wp2
      go_ret
      exact ⟨false, rfl, hbd, fun _ => ⟨hk50, HN.out⟩⟩
set_option maxHeartbeats 2000000 in
theorem total_any (P : Nat → Prop) (A : Option Addr) (n m : Nat) (L : List En) (w : World) (hz : Ens w P A n L) (hn : n ≤ 30) (hs : esm L) :
    Calls Try.prog 54 #[.slice A n m] w (BPost (.int .i64 (jk L n).length) w) := by
  have HL := Lib.hid hz.1
  have HC := Lib.hid (fun h => hz.cells h)
  have HJN := Lib.hid (fun k (h : k < L.length) => jk_next_len h)
  have HJL := Lib.hid (fun k => jk_le hs k)
  have hj0 : (jk L 0).length = 0 := rfl
  unfold BPost
  generalize hJ : (fun k => (jk L k).length) = J
  have hJ' : ∀ k, (jk L k).length = J k := fun k => by rw [← hJ]
  simp only [hJ'] at HJN HJL hj0 ⊢
  clear hJ hJ' hz hs
  go_enter Try.func54, Try.ntmps54
  go_wp2
  go_loopw [3, 8] (fun t i wr => ∃ k : Nat, k ≤ n ∧ t = .int .i64 (J k) ∧ i = .int .i64 k ∧ Below w.heap.size w wr) (fun _ i _ => n - (intOf i).toNat)
  case atStart => exact ⟨0, by omega, by rw [hj0]; rfl, rfl, Below.refl _ _⟩
  case round =>
    obtain ⟨k, hk, rfl, rfl, hbd⟩ := hrel
    by_cases hlt : k < n
    · obtain ⟨g, o, rfl, _, hg, hc⟩ := HC.out (by omega)
      obtain ⟨K, D, a1, l1, m1, b1, r1, k1, he, hlm, hnl, hks, hrk, hnb, hbs, hbb, hsq, hcell⟩ := hc k hlt
      have ek : (k : Int) < n := by omega
      have e3 : IntKind.i64.wrap ((k : Int) + 1) = ((k + 1 : Nat) : Int) := IntWalk.i64_in _ (by omega)
      obtain ⟨c0, c1⟩ := hcell wr hbd
      have hX := Blk.new wr (enc' a1 l1 m1 b1 r1 k1) 31
      have hbX := hbd.trans ((below_one wr (.cells (enc' a1 l1 m1 b1 r1 k1) 31)).mono hbd.size)
      obtain ⟨x0, x1⟩ := hX.c2
      have hjn := HJN.out k (by rw [HL.out]; exact hlt)
      rw [he] at hjn
      replace hjn : J (k + 1) = J k + D.length := hjn
      rw [hbs.1] at hjn
      have hjl := HJL.out (k + 1) (by rw [HL.out]; exact hlt)
      have e4 : IntKind.i64.wrap ((J k : Int) + r1) = (J (k + 1) : Int) := by rw [IntWalk.i64_in _ (by omega)]; omega
      clear hc hcell he hlm hnl hks hrk hnb hbs hbb hsq hbd hjn hjl
      go_wp2
      go_roundw
      case rel => exact ⟨k + 1, by omega, by go_num, by go_num, hbX⟩
      case measure => simp [intOf]; omega
    · obtain rfl : k = n := by omega
      go_wp2
      go_ret
      exact ⟨rfl, hbd⟩
end Go.Proofs.Ytoemmppoejaapaa.Cur
namespace Go.Proofs.Ytoemmppoejaapaa.Cur
open Go.RowKit Mem Go.ChangeShapes Go.WideShapes
set_option linter.unusedVariables false
set_option maxRecDepth 100000
abbrev iv (z : List Int) : List Value := z.map (Value.int .i64)
def Is (w : World) (A : Option Addr) (n : Nat) (z : List Int) : Prop := z.length = n ∧ Rw w A (iv z)
theorem Is.below {w w' : World} {A : Option Addr} {n : Nat} {z : List Int} (h : Is w A n z) (hb : Below w.heap.size w w') : Is w' A n z := ⟨h.1, h.2.below hb⟩
theorem Is.at_ {w : World} {A : Option Addr} {n : Nat} {z : List Int} (h : Is w A n z) {k : Nat} (hk : k < n) : ∃ g o, A = some ⟨g, o, none⟩ ∧ w.cell? ⟨g, o + k, none⟩ = some (.int .i64 (z.getD k 0)) := by
  have hz : k < z.length := by rw [h.1]; exact hk
  refine h.2.at_ ?_
  rw [List.getElem?_map, List.getElem?_eq_getElem hz, List.getD_eq_getElem?_getD, List.getElem?_eq_getElem hz]
  rfl
section
variable {H : Type} {enc : TypeId × Value → H} {w : World} {base : Nat} {v : Value} {d : DataW H} {p : List MemPlace}
end
end Go.Proofs.Ytoemmppoejaapaa.Cur
namespace Go.Proofs.Ytoemmppoejaapaa.Cur
open Go.RowKit Mem
set_option linter.unusedVariables false
set_option maxRecDepth 100000
theorem make_ent (n : Nat) (hn : n ≤ 10000) : ∃ cur : Array Value, cur.size = n * 2 ∧ ∀ w', (Instr.makeSlice 23 (.int .i64 (n : Int)) (.int .i64 (n : Int))).run Try.prog w' = .ok (.slice (some ⟨w'.heap.size, 0, none⟩) n n) (w'.alloc (.cells cur 31)) := by
  have hinfo : (Try.prog.info? 31).map (fun i => (i.zero, i.size, i.bytes)) = some (some (.agg #[.slice none 0 0, .slice none 0 0]), 2, 48) := by kernel_rfl
  obtain ⟨i, h1, hzz⟩ := Option.map_eq_some_iff.1 hinfo
  simp only [Prod.mk.injEq] at hzz
  obtain ⟨h2, h3, h4⟩ := hzz
  refine ⟨madeCells #[.slice none 0 0, .slice none 0 0] (n * 2), by simp [size_madeCells], fun w' => ?_⟩
  · have hr := Go.run_make (P := Try.prog) w' 23 31 i _ Try.underlying23 h1 h2 .i64 .i64 n n (by omega) (Int.le_refl _) (by rw [h4]; omega) (by omega)
    simp only [Int.toNat_natCast, h3] at hr
    exact hr
theorem ens_of_cells {w : World} {P : Nat → Prop} {g n : Nat} {L : List En} (hl : L.length = n) (hg : P g) (h : ∀ i, i < n → ∃ a b, (w.cell? ⟨g, i * 2, none⟩ = some a ∧ w.cell? ⟨g, i * 2 + 1, none⟩ = some b) ∧ EnE.R w P [a, b] (L.getD i en0)) : Ens w P (some ⟨g, 0, none⟩) n L := by
  obtain ⟨cs, xs, l1, l2, hp⟩ := pick_n (p := fun i c x => x = L.getD i en0 ∧ ∃ u v, c = [u, v] ∧ (w.cell? ⟨g, i * 2, none⟩ = some u ∧ w.cell? ⟨g, i * 2 + 1, none⟩ = some v) ∧ EnE.R w P [u, v] (L.getD i en0)) n fun i hi => by
    obtain ⟨a, b, h1, h2⟩ := h i hi
    exact ⟨[a, b], _, rfl, a, b, rfl, h1, h2⟩
  have hxs : xs = L := by
    apply List.ext_getElem (by omega)
    intro i h1 h2
    have := (hp i (cs[i]'(by omega)) xs[i] (List.getElem?_eq_getElem _) (List.getElem?_eq_getElem _)).1
    rw [this, List.getD_eq_getElem?_getD, List.getElem?_eq_getElem h2]; rfl
  subst hxs
  refine ⟨hl, cs, Ch.of (by omega) fun i c x hc hx => ?_, fun hpos => ⟨g, 0, rfl, hg, fun i v hv => ?_⟩⟩
  · obtain ⟨e, a, b, rfl, _, hR⟩ := hp i c x hc hx
    rw [e]; exact hR
  · have hlen : ∀ c ∈ cs, c.length = 2 := fun c hcm => by
      obtain ⟨i, hi, e⟩ := List.mem_iff_getElem.1 hcm
      obtain ⟨_, a, b, e2, _⟩ := hp i c _ (by rw [List.getElem?_eq_getElem hi, e]) (List.getElem?_eq_getElem (by omega))
      rw [e2]; rfl
    obtain ⟨i', j, c, e, hj, hci, hcv⟩ := flat_at hlen i v hv
    have hi' := (List.getElem?_eq_some_iff.1 hci).1
    obtain ⟨_, a, b, rfl, ⟨h1, h2⟩, _⟩ := hp i' c _ hci (List.getElem?_eq_getElem (by omega))
    rw [Nat.zero_add, e]
    rcases j with _ | _ | j
    · simp at hcv; subst hcv; exact h1
    · simp at hcv; subst hcv; exact h2
    · omega
def CpE (w : World) (B g n k : Nat) (f : Nat → En) (cur : Array Value) : Prop :=
  Blk w g cur 31 ∧ n * 2 ≤ cur.size ∧ ∀ i, i < k → ∃ a b, (cur[i * 2]? = some a ∧ cur[i * 2 + 1]? = some b) ∧ EnE.R w (fun b => B ≤ b ∧ b ≠ g) [a, b] (f i)
theorem CpE.below {w w' : World} {B g n k : Nat} {f : Nat → En} {cur : Array Value} (h : CpE w B g n k f cur) (hb : Below w.heap.size w w') : CpE w' B g n k f cur := by
  obtain ⟨h1, h2, h3⟩ := h
  refine ⟨h1.below hb, h2, fun i hi => ?_⟩
  obtain ⟨a, b, hv, hR⟩ := h3 i hi
  exact ⟨a, b, hv, EnE.keep hR fun b _ hl => hb.block b hl⟩
theorem CpE.next {w : World} {B g n k : Nat} {f : Nat → En} {cur : Array Value} {a b : Value} (h : CpE w B g n k f cur) (hk : k < n) (hv : EnE.R w (fun b => B ≤ b ∧ b ≠ g) [a, b] (f k)) :
    CpE ((w.setCell ⟨g, k * 2, none⟩ a).setCell ⟨g, k * 2 + 1, none⟩ b) B g n (k + 1) f ((cur.set! (k * 2) a).set! (k * 2 + 1) b) := by
  obtain ⟨h1, h2, h3⟩ := h
  have hkp : ∀ b', b' ≠ g → ((w.setCell ⟨g, k * 2, none⟩ a).setCell ⟨g, k * 2 + 1, none⟩ b).heap[b']? = w.heap[b']? := fun b' hb' => by
    rw [Below.heap_setCell _ _ _ _ hb', Below.heap_setCell _ _ _ _ hb']
  have hg3 := get2 cur (k * 2) a b (by omega)
  refine ⟨(h1.set (k * 2) a).set (k * 2 + 1) b, by simpa using h2, fun i hi => ?_⟩
  rcases Nat.lt_or_ge i k with h5 | h5
  · obtain ⟨a', b', ⟨q1, q2⟩, hR⟩ := h3 i h5
    refine ⟨a', b', ⟨?_, ?_⟩, EnE.keep hR fun b hb hl => hkp b hb.2⟩
    · rw [hg3, if_neg (by omega), if_neg (by omega)]; exact q1
    · rw [hg3, if_neg (by omega), if_neg (by omega)]; exact q2
  · obtain rfl : i = k := by omega
    refine ⟨a, b, ⟨?_, ?_⟩, EnE.keep hv fun b hb hl => hkp b hb.2⟩
    · rw [hg3, if_neg (by omega), if_pos rfl]
    · rw [hg3, if_pos rfl]
theorem CpE.ens {w : World} {B g n : Nat} {f : Nat → En} {cur : Array Value} (h : CpE w B g n n f cur) (hg : B ≤ g) : Ens w (fun b => B ≤ b) (some ⟨g, 0, none⟩) n ((List.range n).map f) := by
  obtain ⟨h1, h2, h3⟩ := h
  refine ens_of_cells (by simp) hg fun i hi => ?_
  obtain ⟨a, b, ⟨q1, q2⟩, hR⟩ := h3 i hi
  refine ⟨a, b, ⟨h1.cell _ q1, h1.cell _ q2⟩, ?_⟩
  rw [show ((List.range n).map f).getD i en0 = f i by rw [List.getD_eq_getElem?_getD, List.getElem?_map, List.getElem?_range hi]; rfl]
  exact EnE.mono hR fun b hb _ => hb.1
end Go.Proofs.Ytoemmppoejaapaa.Cur
namespace Go.Proofs.Ytoemmppoejaapaa.Cur
open Go.RowKit Mem
set_option linter.unusedVariables false
set_option maxRecDepth 100000
end Go.Proofs.Ytoemmppoejaapaa.Cur

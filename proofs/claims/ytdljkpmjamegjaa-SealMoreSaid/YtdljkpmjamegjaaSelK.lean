/- The greatest tail of an epoch's seals. -/
import Derived.Test.YtdljkpmjamegjaaSelJ
namespace Go.Proofs.Ytdljkpmjamegjaa.Cur
open Go.RowKit Mem
set_option linter.unusedVariables false
set_option maxRecDepth 100000

/-- These are the nodes of seals. -/
def Nds (L : List Sl3) (D : List Int) : Prop := ∀ x, x ∈ D ↔ ∃ s ∈ L, s.2.1 = x
/-- This is the greatest tail of seals, or 0. -/
def Mx (L : List Sl3) (t : Int) : Prop := 0 ≤ t ∧ (∀ s ∈ L, s.2.2 ≤ t) ∧ (t = 0 ∨ ∃ s ∈ L, s.2.2 = t)
theorem Mx.nil : Mx [] 0 := ⟨Int.le_refl _, fun s h => by simp at h, .inl rfl⟩
theorem Mx.snoc {L : List Sl3} {t : Int} (h : Mx L t) (s : Sl3) : Mx (L ++ [s]) (max t s.2.2) := by
  obtain ⟨h0, h1, h2⟩ := h
  refine ⟨by omega, fun u hu => ?_, ?_⟩
  · rcases List.mem_append.1 hu with hu | hu
    · have := h1 u hu; omega
    · rw [List.mem_singleton] at hu; subst hu; omega
  · by_cases hm : s.2.2 ≤ t
    · rw [show max t s.2.2 = t by omega]
      rcases h2 with h2 | ⟨u, hu, e⟩
      · exact .inl h2
      · exact .inr ⟨u, List.mem_append_left _ hu, e⟩
    · exact .inr ⟨s, by simp, by omega⟩
theorem Mx.le {L1 L2 : List Sl3} {t1 t2 : Int} (h1 : Mx L1 t1) (h2 : Mx L2 t2) (hs : ∀ s ∈ L1, s ∈ L2) : t1 ≤ t2 := by
  obtain ⟨_, _, rfl | ⟨s, hs1, rfl⟩⟩ := h1
  · exact h2.1
  · exact h2.2.1 s (hs s hs1)
theorem nodup_le {A : List Int} : ∀ {B : List Int}, A.Nodup → (∀ x ∈ A, x ∈ B) → A.length ≤ B.length := by
  induction A with
  | nil => intro B _ _; exact Nat.zero_le _
  | cons a A ih =>
    intro B hn hs
    rw [List.nodup_cons] at hn
    have ha : a ∈ B := hs a (by simp)
    have := ih (B := B.erase a) hn.2 (fun x hx => (List.mem_erase_of_ne (fun e => hn.1 (by rw [← e]; exact hx))).2 (hs x (by simp [hx])))
    rw [List.length_erase_of_mem ha] at this
    have hp := List.length_pos_of_mem ha
    simp only [List.length_cons]
    omega
theorem Rising.nodup {D : List Int} (h : Rising D) : D.Nodup := by
  rw [List.nodup_iff_pairwise_ne, List.pairwise_iff_getElem]
  intro i j hi hj hij
  have := h i j hij hj
  rw [List.getD_eq_getElem?_getD, List.getD_eq_getElem?_getD, List.getElem?_eq_getElem hi, List.getElem?_eq_getElem hj] at this
  show D[i] ≠ D[j]
  have h2 : D[i] < D[j] := this
  omega
theorem nds_le {L1 L2 : List Sl3} {D1 D2 : List Int} (h1 : Nds L1 D1) (n1 : D1.Nodup) (h2 : Nds L2 D2) (hs : ∀ s ∈ L1, s ∈ L2) : D1.length ≤ D2.length :=
  nodup_le n1 fun x hx => by
    obtain ⟨s, hs1, e⟩ := (h1 x).1 hx
    exact (h2 x).2 ⟨s, hs s hs1, e⟩

def TlPost (L : List Sl3) (q : Int) (w : World) (e : Ending) (w' : World) : Prop :=
  Below w.heap.size w w' ∧ ((q < 1 ∧ e = .returned (.tuple #[.int .u64 0, .bool false])) ∨ (1 ≤ q ∧ ∃ D, Rising D ∧ Nds L D ∧ ((D.length < q ∧ e = .returned (.tuple #[.int .u64 0, .bool false])) ∨ (q ≤ D.length ∧ ∃ t, Mx L t ∧ e = .returned (.tuple #[.int .u64 t, .bool true])))))
set_option maxHeartbeats 4000000 in
theorem tail_any (A : Option Addr) (n m : Nat) (l : List Sl3) (e0 q : Int) (w : World) (hz : Sls w A n l) (hn : n ≤ 100000) (hq : q ≤ 9223372036854775807) :
    Calls Try.prog 25 #[.slice A n m, .int .u64 e0, .int .i64 q] w (TlPost (vl e0 l) q w) := by
  by_cases hq1 : q < 1
  · go_enter Try.func25, Try.ntmps25
    go_wp2
    go_ret2
    exact ⟨Below.refl _ _, .inl ⟨hq1, rfl⟩⟩
  have hnd := nodes_any A n m l e0 w hz hn
  have htold := fun w' (hb : Below w.heap.size w w') => told_any A n m l e0 w' (hz.below hb) hn
  have hvl : (vl e0 l).length ≤ 100000 := Nat.le_trans (vl_len e0 l) (by rw [hz.1]; exact hn)
  generalize vl e0 l = L at *
  unfold LPost at htold
  unfold NdPost at hnd
  have HT := Lib.hid htold
  clear hz htold
  go_enter Try.func25, Try.ntmps25
  go_wp2_with fail
  refine hnd.mono ?_
  rintro e w1 ⟨v, D, rfl, hu, hb1, hr, hd, _⟩
  obtain ⟨Av, cv, rfl⟩ := OwnU.slice hu
  have HR := Lib.hid hr
  have HD := Lib.hid hd
  have hq1' : 1 ≤ q := by omega
  have HQ := Lib.hid hq1'
  obtain ⟨d, hd2⟩ : ∃ d, d = D.length := ⟨_, rfl⟩
  rw [← hd2]
  have HDL := Lib.hid hd2
  clear hnd hu hr hd hd2
  by_cases hlt : (d : Int) < q
  · have HLT := Lib.hid hlt
    go_wp2
    go_ret2
    exact ⟨hb1, .inr ⟨HQ.out, D, HR.out, HD.out, .inl ⟨by rw [← HDL.out]; exact HLT.out, rfl⟩⟩⟩
  · have HLT : Hid (q ≤ D.length) := Lib.hid (by rw [← HDL.out]; omega)
    go_wp2_with fail
    refine (HT.out w1 hb1).mono ?_
    rintro e w2 ⟨v, rfl, ho, hb2⟩
    obtain ⟨A2, c2', rfl, _, _, hz2⟩ := ho.slice
    have HC : Hid (L.length ≠ 0 → ∃ g o, A2 = some ⟨g, o, none⟩ ∧ g < w2.heap.size ∧ ∀ w', Below w2.heap.size w2 w' → ∀ k, k < L.length →
      w'.cell? ⟨g, o + k * 3, none⟩ = some (.int .u64 (L.getD k (0, 0, 0)).1) ∧ w'.cell? ⟨g, o + k * 3 + 1, none⟩ = some (.int .u64 (L.getD k (0, 0, 0)).2.1) ∧ w'.cell? ⟨g, o + k * 3 + 2, none⟩ = some (.int .u64 (L.getD k (0, 0, 0)).2.2)) := Lib.hid fun h => hz2.cells (by omega)
    have HB2 := Lib.hid (hb1.trans (hb2.mono hb1.size))
    obtain ⟨N, hN⟩ : ∃ N, N = L.length := ⟨_, rfl⟩
    rw [← hN] at HC hvl ⊢
    have HN := Lib.hid hN
    clear ho hz2 hb1 hb2 hN HT
    go_wp2
    go_loopw [8, 25] (fun v i wr => ∃ (k : Nat) (t : Int), k ≤ N ∧ i = .int .i64 k ∧ v = .int .u64 t ∧ Hid (Mx (L.take k) t) ∧ Below w2.heap.size w2 wr) (fun _ i _ => N - (intOf i).toNat)
    case atStart => exact ⟨0, 0, by omega, rfl, rfl, Lib.hid Mx.nil, Below.refl _ _⟩
    case round =>
      obtain ⟨k, t, hk, rfl, rfl, hm, hb⟩ := hrel
      by_cases hlk : k < N
      · obtain ⟨g, o, rfl, hg, hc⟩ := HC.out (by omega)
        obtain ⟨c0, c1, c2⟩ := hc wr hb k hlk
        have hkl : k < L.length := by rw [← HN.out]; exact hlk
        have HM : Hid (Mx (L.take (k + 1)) (max t (L.getD k (0, 0, 0)).2.2)) := Lib.hid (by rw [take_one L k hkl]; exact hm.out.snoc _)
        generalize L.getD k (0, 0, 0) = s at *
        obtain ⟨s0, s1, s2⟩ := s
        dsimp only at c0 c1 c2 HM
        have e2 : (k : Int) < N := by omega
        have e3 : IntKind.i64.wrap ((k : Int) + 1) = ((k + 1 : Nat) : Int) := IntWalk.i64_in _ (by omega)
        have hX := Blk.new wr #[.int .u64 s0, .int .u64 s1, .int .u64 s2] 24
        have hbX := below_one wr (.cells #[.int .u64 s0, .int .u64 s1, .int .u64 s2] 24)
        have hb1 := hb.trans (hbX.mono hb.size)
        obtain ⟨x0, x1, x2⟩ := hX.c3
        clear hc hb hbX hX
        go_wp2
        go_roundw
        case rel => exact ⟨k + 1, _, by omega, by go_num, rfl, HM, hb1⟩
        case measure => simp [intOf]; omega
      · obtain rfl : k = N := by omega
        have HM : Hid (Mx L t) := Lib.hid (by have := hm.out; rw [List.take_of_length_le (by rw [HN.out]; exact Nat.le_refl _)] at this; exact this)
        have HBB := Lib.hid (HB2.out.trans (hb.mono HB2.out.size))
        clear hb hm
        go_wp2
        go_ret2
        exact ⟨HBB.out, .inr ⟨HQ.out, D, HR.out, HD.out, .inr ⟨HLT.out, t, HM.out, rfl⟩⟩⟩
end Go.Proofs.Ytdljkpmjamegjaa.Cur

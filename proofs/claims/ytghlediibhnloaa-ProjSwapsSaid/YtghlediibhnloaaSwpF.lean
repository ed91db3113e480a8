/- A node in the place of another one: in one stripe. -/
import Derived.Test.YtghlediibhnloaaSwpD
import Derived.Test.YtghlediibhnloaaSwpE
import Derived.Test.YtghlediibhnloaaStpT
namespace Go.Proofs.Ytghlediibhnloaa.Cur
open Go.RowKit Mem
set_option linter.unusedVariables false
set_option maxRecDepth 100000


theorem rises_nodup {l : List Int} (h : risesB l = true) : l.Nodup := by
  have := rises_lt h
  exact this.imp fun h => by omega
theorem sok_rises : ∀ {S A : List (List Int)}, sok A S = true → ∀ l ∈ S, risesB l = true ∧ 1 ≤ l.length ∧ l.length ≤ 8
  | [], _, _, l, hl => by simp at hl
  | l :: S, A, h, r, hr => by
    unfold sok at h
    rw [Bool.and_eq_true] at h
    rcases List.mem_cons.1 hr with rfl | hr
    · have h1 := h.1
      unfold seok at h1
      simp only [Bool.and_eq_true, decide_eq_true_eq] at h1
      exact ⟨h1.1.1.2, h1.1.1.1.1, h1.1.1.1.2⟩
    · exact sok_rises h.2 r hr
def RplPost (W : Nat) (v : Value) (L : List Stp) (a : Nat → Nat) (b : Nat → Nat → Nat) (i : Nat) (o d : Int) (w : World) (en : Ending) (w' : World) : Prop :=
  en = .returned (.tuple #[]) ∧ StpD w' W v (L.set i (swst o d (L.getD i stp0))) a b ∧ Ks (fun x => ∃ k, k < slen L i ∧ x = b i k) w w'
set_option maxHeartbeats 4000000 in
theorem replace_any (W g n cap : Nat) (L : List Stp) (a : Nat → Nat) (b : Nat → Nat → Nat) (i : Nat) (o d : Int) (w : World) (h : StpD w W (.slice (some ⟨g, 0, none⟩) n cap) L a b) (hA : Apt L.length (slen L) a b) (hi : i < L.length) (hok : stok (L.getD i stp0) = true) (hd : 0 ≤ d ∧ d < 18446744073709551616) (hg : g < w.heap.size) :
    Calls Try.prog 70 #[.pointer (some ⟨g, i * 3, none⟩), .int .u64 o, .int .u64 d] w (RplPost W (.slice (some ⟨g, 0, none⟩) n cap) L a b i o d w) := by
  obtain ⟨g', cap', c, hv, hgW, hgl, c0, c1, c2, hc, hst, hfz, hcell⟩ := h.cells hi
  injection hv with hv1 hv2 hv3
  injection hv1 with hv1
  injection hv1 with hv1
  subst hv1 hv2 hv3
  have hsp := stok_parts hok
  obtain ⟨s, hs⟩ : ∃ s, s = L.getD i stp0 := ⟨_, rfl⟩
  have hsl : slen L i = s.2.2.length := by rw [hs]
  unfold RplPost
  rw [hsl]
  have HND := Lib.hid (fun w' k u2 z' hk hc hks hd => h.num (w' := w') (k := k) (u2 := u2) (z' := z') hA hi hk hc hks hd)
  rw [hsl, ← hs] at HND
  rw [← hs] at c0 c1 c2 hc hst hcell hok hsp ⊢
  have HS := Lib.hid hs
  clear hs hsl
  obtain ⟨f, t, S⟩ := s
  dsimp only at *
  have HH := Lib.hid h
  obtain ⟨hs1, hs2, hs3, hs4, hs5⟩ := hsp
  have hset := stset_any _ f t (some ⟨a i, 0, none⟩) S.length c S o w hst hc (by omega) (fun l hl => by have := sok_rises hs5 l hl; omega)
  rw [if_pos hok] at hset
  unfold BPost at hset
  have HCELL := Lib.hid hcell
  have HOK5 := Lib.hid hs5
  clear h hst hcell hok hs5 hA
  rcases hli_cases S o with ⟨h1, h2⟩ | ⟨k, h1, h2, h3⟩
  · rw [hlv_no h1] at hset
    have HN := Lib.hid (sws_none (d := d) h2)
    clear h1 h2
    go_enter Try.func70, Try.ntmps70
    go_wp2_with fail
    refine hset.mono ?_
    rintro en w1 ⟨rfl, hb1⟩
    go_wp2
    refine bodyPost_ret (v := .tuple #[]) (results_none rfl _ _ _) rfl ?_
    refine ⟨rfl, ?_, Ks.of_below hb1⟩
    have e1 : swst o d (f, t, S) = L.getD i stp0 := by rw [← HS.out]; unfold swst; rw [HN.out]
    rw [e1]
    have e2 : L.set i (L.getD i stp0) = L := by
      apply List.ext_getElem?
      intro j
      rw [List.getElem?_set]
      by_cases hij : i = j
      · subst hij; rw [if_pos rfl, if_pos hi, List.getD_eq_getElem?_getD, List.getElem?_eq_getElem hi]; rfl
      · rw [if_neg hij]
    rw [e2]
    exact HH.out.below hb1
  · rw [hlv_yes h2] at hset
    have HW := Lib.hid (sws_set (d := d) HOK5.out h1 h3)
    obtain ⟨u2, q0, hsd⟩ := HCELL.out k h1
    obtain ⟨_, hbW, hbl, c3, rfl, hc3⟩ := hsd.blk
    obtain ⟨z, hz⟩ : ∃ z, z = S.getD k [] := ⟨_, rfl⟩
    rw [← hz] at q0 hsd hc3 HW h3
    have hzS : z ∈ S := by rw [hz, List.getD_eq_getElem?_getD, List.getElem?_eq_getElem h1]; exact List.getElem_mem h1
    obtain ⟨hr1, hr2, hr3⟩ := sok_rises HOK5.out z hzS
    have HNDUP := Lib.hid (rises_nodup hr1)
    have HCON := Lib.hid h3
    have HSD := Lib.hid hsd
    obtain ⟨_, hu1, hu2, hu3⟩ := hsd.2.1.us
    have HU := Lib.hid hu3
    have hk2 : (k : Int) < S.length := by omega
    have HK1 := Lib.hid h1
    obtain ⟨nz, hnz⟩ : ∃ nz, nz = z.length := ⟨_, rfl⟩
    rw [← hnz] at q0 hc3 HU HSD hr2 hr3
    have HNZ := Lib.hid hnz
    have Q0 := Lib.hid q0
    clear h1 h2 h3 hz hzS hr1 hsd hu1 hu2 hu3 HCELL hfz hnz
    go_enter Try.func70, Try.ntmps70
    go_wp2_with fail
    refine hset.mono ?_
    rintro en w1 ⟨rfl, hb1⟩
    have c2' := (hb1.cell (lt_of_cell c2)).trans c2
    have q0' := (hb1.cell (lt_of_cell q0)).trans q0
    have hsd1 := HSD.out.keep (hb1.block _ hbl)
    have hus := HU.out.below hb1
    clear hset c0 c1 c2 q0
    go_wp2_with fail
    refine (index_any _ _ _ _ _ _ hus (by omega)).mono ?_
    rintro en w2 ⟨r, rfl, hw, hix⟩
    subst hw
    rcases hix with ⟨j, rfl, hj⟩ | ⟨_, hno⟩
    case inr =>
      have := HCON.out
      rw [hno] at this; cases this
    have hjl : j < nz := by rw [HNZ.out]; exact (List.getElem?_eq_some_iff.1 hj).1
    have hj2 : (j : Int) < nz := by omega
    have hou := hsd1.2.1
    have hou' : w1.ownsRow W 22 1 (.slice (some ⟨b i k, 0, none⟩) nz c3) nz (uv z) := by
      have h9 := hou
      unfold OwnU at h9
      rw [← HNZ.out] at h9
      exact h9
    have HST := Lib.hid (World.ownsRow.stored hou' j (.int .u64 d))
    have y0 : ∃ y, w1.cell? ⟨b i k, j, none⟩ = some y := ⟨_, (World.ownsRow.cellAt hou' j (by omega)).trans (List.getElem?_eq_getElem (by rw [List.length_map, ← HNZ.out]; exact hjl))⟩
    obtain ⟨_, y0⟩ := y0
    have y1 : w1.frozen? ⟨b i k, j, none⟩ = false := World.ownsRow.frozenAt hou' j
    have hbd3 : Ks (fun x => x = b i k) w (w1.setCell ⟨b i k, j, none⟩ (.int .u64 d)) := (Ks.of_below hb1).trans (Ks.setCell _ _ _ _ rfl)
    have HJ := Lib.hid hj
    clear hj hus hou hou' hb1 hsd1
    go_wp2_with fail
    generalize w1.setCell ⟨b i k, j, none⟩ (.int .u64 d) = w3 at *
    have hou3 : OwnU w3 W (.slice (some ⟨b i k, 0, none⟩) nz c3) (z.set j d) := by
      have h9 := HST.out.1
      unfold OwnU
      rw [List.length_set, ← HNZ.out, show uv (z.set j d) = (uv z).set j (.int .u64 d) from List.map_set]
      exact h9
    refine (usort_any (g := b i k) rfl hou3 (by rw [List.length_set, ← HNZ.out]; omega)).mono ?_
    rintro en w4 ⟨rfl, z', hp, hle, ho4, hk4⟩
    have hz' : z' = putl o d z := putl_is hle (by rw [← set_ren HNDUP.out HJ.out]; exact hp)
    subst hz'
    have hKs := hbd3.trans' hk4 (fun x _ e => by injection e with e; exact e.symm)
    have hsd4 : SetD w4 W (.slice (some ⟨b i k, 0, none⟩) nz c3) (putl o d z) (b i k) := ⟨rfl, ho4, putl_bd HSD.out.2.2 hd⟩
    have HEND := Lib.hid (HND.out w4 k _ (putl o d z) HK1.out Q0.out hKs hsd4)
    have HKS := Lib.hid (hKs.trans' (Ks.refl (fun x => x = b i k) w4) (S := fun x => x = b i k) (fun x _ e => e))
    clear hKs hsd4 ho4 hk4 hp hle hbd3 hou3
    go_wp2
    go_end0
    refine ⟨rfl, ?_, ?_⟩
    · have e1 : swst o d (f, t, S) = (f, t, S.set k (putl o d z)) := by unfold swst; rw [HW.out]
      rw [e1]; exact HEND.out
    · exact ⟨HKS.out.os, HKS.out.tape, HKS.out.output, HKS.out.size, fun x hx hn => HKS.out.block x hx fun e => hn ⟨k, HK1.out, e⟩⟩
end Go.Proofs.Ytghlediibhnloaa.Cur

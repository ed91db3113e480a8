/- Locate: Nodes. -/
import Derived.Test.YtmcabaebdloakaaLocH
import Derived.Test.YtmcabaebdloakaaLocJ
namespace Go.Proofs.Ytmcabaebdloakaa.Cur
open Go.RowKit Mem
set_option linter.unusedVariables false
set_option maxRecDepth 100000


/-- All nodes, stripe by stripe. -/
def nall (L : List Stp) : List Int := (L.map fun s => nds s.2.2).flatten
theorem nall_mem {L : List Stp} {x : Int} : x ∈ nall L ↔ ∃ s ∈ L, ∃ t ∈ s.2.2, x ∈ t := by
  unfold nall
  rw [List.mem_flatten]
  refine ⟨fun ⟨l, h1, h2⟩ => ?_, fun ⟨s, h1, t, h2, h3⟩ => ?_⟩
  · obtain ⟨s, hs, rfl⟩ := List.mem_map.1 h1
    obtain ⟨t, ht, hx⟩ := List.mem_flatten.1 ((nds_mem _ _).1 h2)
    exact ⟨s, hs, t, ht, hx⟩
  · exact ⟨nds s.2.2, List.mem_map.2 ⟨s, h1, rfl⟩, (nds_mem _ _).2 (List.mem_flatten.2 ⟨t, h2, h3⟩)⟩
theorem nall_tk {L : List Stp} {k : Nat} (h : k < L.length) : nall (L.take (k + 1)) = nall (L.take k) ++ nds (L.getD k stp0).2.2 := by
  unfold nall
  rw [List.take_add_one, List.getElem?_eq_getElem h, List.map_append, List.flatten_append, List.getD_eq_getElem?_getD, List.getElem?_eq_getElem h]
  simp
theorem nds64 {s : Stp} (h : stok s = true) : 1 ≤ (nds s.2.2).length ∧ (nds s.2.2).length ≤ 64 := by
  obtain ⟨_, _, k3, k4, k5⟩ := stok_parts h
  have h1 := flen_le (sok_lens k5)
  have h2 := (fne_parts (sok_fine k5 0 (by omega))).1
  have h3 := ftk s.2.2 (k := 0) (by omega)
  have h4 := ftk_le s.2.2 1
  rw [show (0 + 1) = 1 from rfl] at h3
  rw [h3, List.length_append] at h4
  rw [nds_len]
  omega
theorem nall_len {L : List Stp} (hv : Vd L) : ∀ k, k ≤ L.length → k ≤ (nall (L.take k)).length ∧ (nall (L.take k)).length ≤ 64 * k
  | 0, _ => by simp [nall]
  | k + 1, h => by
    have ih := nall_len hv k (by omega)
    have h2 := nds64 (hv.ok k (by omega))
    rw [nall_tk (by omega), List.length_append]
    omega
theorem sort_facts {z : List Int} {d : Array Int} (h : d.toList = z.mergeSort (fun x y => decide (x ≤ y))) :
    d.size = z.length ∧ (∀ i, 0 < i → i < z.length → d[i - 1]! ≤ d[i]!) ∧ ∀ x, (∃ i, i < z.length ∧ d[i]! = x) ↔ x ∈ z := by
  have hs : d.size = z.length := by rw [← Array.length_toList, h, List.length_mergeSort]
  have hg : ∀ i (hi : i < z.length), d[i]! = d.toList[i]'(by rw [Array.length_toList, hs]; exact hi) := fun i hi => by
    rw [getElem!_pos d i (by rw [hs]; exact hi), Array.getElem_toList]
  refine ⟨hs, fun i h0 h1 => ?_, fun x => ?_⟩
  · have h2 : (z.mergeSort fun x y => decide (x ≤ y)).Pairwise (fun x y => decide (x ≤ y) = true) := List.pairwise_mergeSort (fun a b c h1 h2 => by simp at *; omega) (fun a b => by simp; omega) _
    rw [← h] at h2
    have h3 := List.pairwise_iff_getElem.1 h2 (i - 1) i (by rw [Array.length_toList, hs]; omega) (by rw [Array.length_toList, hs]; omega) (by omega)
    rw [hg _ (by omega), hg _ h1]
    simpa using h3
  · rw [← (List.mergeSort_perm z (fun x y => decide (x ≤ y))).mem_iff, ← h, List.mem_iff_getElem]
    refine ⟨fun ⟨i, h1, h2⟩ => ⟨i, by rw [Array.length_toList, hs]; exact h1, by rw [← hg i h1]; exact h2⟩, fun ⟨i, h1, h2⟩ => ?_⟩
    rw [Array.length_toList, hs] at h1
    exact ⟨i, h1, by rw [hg i h1]; exact h2⟩
/-- What Nodes tells. -/
def NaPost (e : Int) (L : List Stp) (w : World) (en : Ending) (w' : World) : Prop :=
  ∃ a l m R, en = .returned (.slice a l m) ∧ Us w' a l R ∧ Below w.heap.size w w' ∧ (prok (e, L) = false → l = 0) ∧ (prok (e, L) = true → R.Pairwise (· < ·) ∧ (∀ x, x ∈ R ↔ ∃ s ∈ L, ∃ t ∈ s.2.2, x ∈ t) ∧ l ≤ 5000)
set_option maxHeartbeats 4000000 in
theorem allnodes_any (P : Nat → Prop) (e : Int) (A : Option Addr) (n m : Nat) (L : List Stp) (w : World) (hz : Pts w P A n L) (hn : n ≤ 1000000) (hlen : plen 1000000 L) :
    Calls Try.prog 16 #[pragg e A n m] w (NaPost e L w) := by
  have hX := Blk.new w (prc e A n m) 25
  have hb := below_one w (.cells (prc e A n m) 25)
  have hcon := prright_any P e A n m L _ (hz.below hb) hn hlen
  unfold BPost at hcon
  cases hp : prok (e, L)
  · have HP := Lib.hid hp
    rw [hp] at hcon
    obtain ⟨x0, x1⟩ := hX.c2
    clear hz hlen hp
    go_enter Try.func16, Try.ntmps16
    go_wp2_with fail
    refine hcon.mono ?_
    rintro en w1 ⟨rfl, hb1⟩
    replace hb := hb.trans (hb1.mono hb.size)
    clear hcon hb1 x0 x1 hX
    have HU := Lib.hid (show Us w1 none 0 [] from ⟨rfl, fun h => by simp at h⟩)
    go_wp2
    go_ret
    exact ⟨none, 0, 0, [], rfl, HU.out, hb, fun _ => rfl, fun h => by rw [HP.out] at h; cases h⟩
  have HP := Lib.hid hp
  have HV := Lib.hid (vd_of hp)
  have HL := Lib.hid hz.1
  have HC := Lib.hid (fun h => hz.cells h)
  rw [hp] at hcon
  obtain ⟨x0, x1⟩ := hX.c2
  clear hz hlen hp
  go_enter Try.func16, Try.ntmps16
  go_wp2_with fail
  refine hcon.mono ?_
  rintro en w1 ⟨rfl, hb1⟩
  replace hb := hb.trans (hb1.mono hb.size)
  replace hX := hX.below hb1
  clear hcon hb1 x0 x1
  obtain ⟨x0, x1⟩ := hX.c2
  have hn64 : n ≤ 64 := by rw [← HL.out]; exact HV.out.most
  have hn1 : 1 ≤ n := by rw [← HL.out]; exact HV.out.pos
  have H0 : Hid (OwnU w1 w.heap.size (.slice none 0 0) (nall (L.take 0)) ∧ Below w.heap.size w w1) := Lib.hid ⟨OwnU.nil _ _, hb⟩
  clear hb hX
  go_wp2
  clear x0 x1
  go_loopw [3, 12] (fun x y wr => ∃ k : Nat, k ≤ n ∧ y = .int .i64 k ∧ Hid (OwnU wr w.heap.size x (nall (L.take k)) ∧ Below w.heap.size w wr)) (fun _ y _ => n - (intOf y).toNat)
  case atStart => exact ⟨0, by omega, rfl, H0⟩
  case round =>
    clear H0
    obtain ⟨k, hk, rfl, HR⟩ := hrel
    obtain ⟨ho, hb⟩ := HR.out
    clear HR
    by_cases hlt : k < n
    · obtain ⟨g, o, hAe, _, hg, hc⟩ := HC.out (by omega)
      subst hAe
      obtain ⟨f, t, S, a, l, mm, he, _, _, hl, hlm, _, hst, hcell⟩ := hc k hlt
      obtain ⟨c0, c1, c2⟩ := hcell wr hb
      have hkL : k < L.length := by rw [HL.out]; exact hlt
      have hok := HV.out.ok k hkL
      have h64 := nds64 hok
      have hna := (nall_len HV.out k (by omega)).2
      have hns := nall_tk hkL
      rw [he] at hok hns h64
      replace hns : nall (L.take (k + 1)) = nall (L.take k) ++ nds S := hns
      replace h64 : 1 ≤ (nds S).length ∧ (nds S).length ≤ 64 := h64
      obtain ⟨_, _, _, k4, k5⟩ := stok_parts hok
      replace k4 : l ≤ 8 := by rw [← hl]; exact k4
      have hbx := below_one wr (.cells (stc f t a l mm) 39)
      have hsn := snodes_any P f t a l mm S _ ((hst.below hb).below hbx) hlm (by omega) (fun l hl => by have := sok_lens k5 l hl; omega) hok
      have hbw := hb.trans (hbx.mono hb.size)
      have how := own_below ho hbx
      have e1 : (k : Int) < n := by omega
      have e2 : IntKind.i64.wrap ((k : Int) + 1) = ((k + 1 : Nat) : Int) := IntWalk.i64_in _ (by omega)
      have HNS := Lib.hid hns
      clear hc hcell hst he hl hok hns hkL ho k5 hbx
      go_wp2_with fail
      generalize wr.alloc (.cells (stc f t a l mm) 39) = w2 at *
      refine hsn.mono ?_
      rintro en w3 ⟨v, rfl, ho3, hb3⟩
      obtain ⟨av, cv, rfl⟩ := ho3.slice
      obtain ⟨_, _, q3, q4⟩ := OwnU.us ho3
      have ho := own_below how hb3
      have hb4 := hbw.trans (hb3.mono hbw.size)
      have hrw := q4.2
      obtain ⟨N, hN⟩ : ∃ N, N = (nds S).length := ⟨_, rfl⟩
      have hul : (uv (nds S)).length = N * 1 := by rw [List.length_map, hN, Nat.mul_one]
      have hu1 := uv_one (nds S)
      have hl' : (nall (L.take k)).length + N ≤ 1000000 := by omega
      have hB9 := hb4.size
      rw [← hN]
      have HE := Lib.hid (fun (v' : Value) (w' : World) (ho' : w'.ownsRow w.heap.size 22 1 v' ((nall (L.take k)).length + N) (uv (nall (L.take k)) ++ uv (nds S))) => (show OwnU w' w.heap.size v' (nall (L.take (k + 1))) from by
        unfold OwnU
        rw [HNS.out, List.length_append, uv, List.map_append, ← hN]
        exact ho'))
      have HB := Lib.hid (And.intro hb4 ho)
      clear c0 c1 c2 hsn how ho3 q4 hb3 hN hb hbw
      go_wp2_with (at_builtin; go_must (refine list_append_rw kindU rfl (.tmp 16) (.tmp 18) rfl w.heap.size _ _ _ rfl ho av N cv (uv (nds S)) rfl hul hrw q3 hu1 hl' (by omega) hB9 ?_; intro v' w10 ho' hg' hgr'; have HN := Lib.hid (And.intro (HE.out _ _ ho') (HB.out.1.grown hg' hB9 (fun k e => own_ge HB.out.2 k e))); clear ho' hg' hgr'))
      go_roundw
      case rel => exact ⟨k + 1, by omega, by go_num, HN⟩
      case measure => simp [intOf]; omega
    · have hke : k = n := by omega
      subst hke
      have e1 : ¬ (k : Int) < k := by omega
      have hna := nall_len HV.out k (by rw [HL.out]; exact Nat.le_refl _)
      have htk : L.take k = L := List.take_of_length_le (by rw [HL.out]; exact Nat.le_refl _)
      rw [htk] at hna ho
      obtain ⟨g, cap, hvv, hg, hA⟩ := own_arr ho (by omega)
      subst hvv
      obtain ⟨N, hN⟩ : ∃ N, N = (nall L).length := ⟨_, rfl⟩
      rw [← hN] at hna hA ⊢
      have hso := ssort_any w.heap.size g N cap (nall L).toArray wr hA (by omega)
      have HN := Lib.hid hN
      clear ho hA hN htk
      go_wp2_with fail
      refine hso.mono ?_
      rintro en w3 ⟨rfl, ⟨d, hd, hdl⟩, hks⟩
      have hb3 : Below w.heap.size w w3 := Ks.below hb (Nat.le_refl _) hks (fun x e => by rw [e]; exact hg)
      have hcm := compact_any w.heap.size g N cap d w3 hd (by omega) (by omega)
      have HD := Lib.hid hdl
      clear hso hd hdl hks hb
      go_wp2_with fail
      refine hcm.mono ?_
      rintro en w4 ⟨j, c, rfl, hj, hu, hks⟩
      have hb4 : Below w.heap.size w w4 := Ks.below hb3 (Nat.le_refl _) hks (fun x e => by rw [e]; exact hg)
      have HE : Hid (Us w4 (some ⟨g, 0, none⟩) j (cpn (fun i => d[i]!) N) ∧ j ≤ 5000) := Lib.hid ⟨hu, by omega⟩
      clear hcm hb3 hu hks
      go_wp2
      go_ret
      obtain ⟨s1, s2, s3⟩ := sort_facts HD.out
      have s4 := cpn_pw (f := fun i => d[i]!) N (fun i q1 q2 => s2 i q1 (by have := HN.out; simpa using (show i < (nall L).length by omega)))
      refine ⟨_, j, c, cpn (fun i => d[i]!) N, rfl, HE.out.1, hb4, fun h => (by rw [HP.out] at h; cases h), fun _ => ⟨s4.1, fun x => ?_, HE.out.2⟩⟩
      rw [cpn_mem, ← nall_mem, HN.out]
      simpa using s3 x
end Go.Proofs.Ytmcabaebdloakaa.Cur

/- As the seat's text, without what nothing here names. -/
import Derived.Test.YtoemmppoejaapaaPekHf
import Derived.Test.YtoemmppoejaapaaK35f
import Derived.Deep.Cut
import Derived.Carry
namespace Go.Proofs.Ytoemmppoejaapaa.Cur
open Go.RowKit Mem
set_option linter.unusedVariables false
set_option maxRecDepth 100000
def lrise (L : List Lk) : Nat → Prop
  | 0 => True
  | k + 1 => lrise L k ∧ (k = 0 ∨ (L.getD (k - 1) lk0).1 < (L.getD k lk0).1)
theorem lrise_le {L : List Lk} : ∀ {k : Nat}, lrise L k → ∀ {j : Nat}, j ≤ k → lrise L j
  | 0, h0, j, h => by
    have e : j = 0 := by omega
    subst e
    exact h0
  | k + 1, h, j, hj => by
    by_cases e : j = k + 1
    · subst e; exact h
    · exact lrise_le h.1 (by omega)
theorem lrise_lt {L : List Lk} : ∀ {k : Nat}, lrise L k → ∀ {j : Nat}, j + 1 < k → (L.getD j lk0).1 < (L.getD (k - 1) lk0).1
  | 0, _, j, hj => by omega
  | k + 1, h, j, hj => by
    have h2 := h.2.resolve_left (by omega)
    rw [Nat.add_sub_cancel]
    by_cases e : j = k - 1
    · subst e; exact h2
    · have := lrise_lt h.1 (j := j) (by omega)
      omega
theorem fl_none {L : List Lk} {s : Int} (h : ∀ x ∈ L, x.1 ≠ s) : fl L s = none := by
  unfold fl
  rw [List.find?_eq_none.2 (fun y hy => by simpa using h y hy)]
  rfl
theorem fl_snoc {L : List Lk} {k : Nat} (hk : k < L.length) (h : lrise L (k + 1)) (t : Int) : fl (L.take (k + 1)) t = if t = (L.getD k lk0).1 then some (L.getD k lk0).2 else fl (L.take k) t := by
  have e : L.take (k + 1) = L.take k ++ [L.getD k lk0] := by
    rw [List.take_add_one, List.getElem?_eq_getElem hk, List.getD_eq_getElem?_getD, List.getElem?_eq_getElem hk]; rfl
  rw [e, fl_append, fl_cons]
  by_cases ht : t = (L.getD k lk0).1
  · subst ht
    rw [fl_none (L := L.take k), if_pos rfl, if_pos rfl]
    intro x hx
    obtain ⟨j, hj, rfl⟩ := List.mem_iff_getElem.1 hx
    rw [List.length_take] at hj
    have := lrise_lt h (j := j) (by omega)
    rw [Nat.add_sub_cancel, List.getD_eq_getElem?_getD, List.getElem?_eq_getElem (by omega)] at this
    rw [List.getElem_take]
    intro e2
    simp only [Option.getD_some] at this
    omega
  · rw [if_neg ht, if_neg (fun e => ht e.symm)]
    cases fl (L.take k) t <;> rfl
def BsPost (L : List Lk) (w : World) (e : Ending) (w' : World) : Prop :=
  Below w.heap.size w w' ∧ ((¬ lrise L L.length ∧ e = .returned (.tuple #[.map none, .bool false])) ∨
    (lrise L L.length ∧ ∃ mb D f, e = .returned (.tuple #[.map (some mb), .bool true]) ∧ w.heap.size ≤ mb ∧ MapV w' mb L.length D ∧ MV D f ∧ TlE w' (fun x => w.heap.size ≤ x ∧ x ≠ mb) f (fl L)))
set_option maxHeartbeats 4000000 in
theorem bystream_any (P : Nat → Prop) (A : Option Addr) (n m : Nat) (L : List Lk) (w : World) (hz : Lks w P A n L) (hnil : A = none → m = 0) (hn : n ≤ 5000) (hlen : blen 100000 L) :
    Calls Try.prog 31 #[.slice A n m] w (BsPost L w) := by
  have hM := World.ownsMap_made w Try.prog 22 valR
  have hb := below_one w (.map #[] 0)
  have hcp := lcopy_any P A n m L (w.alloc (.map #[] 0)) (hz.below hb) hnil (by omega) hlen
  unfold LCoPost at hcp
  unfold BsPost
  have HZ := Lib.hid (fun h => hz.cells h)
  have HL := Lib.hid hz.1
  have HLN := Lib.hid hlen
  clear hz hlen hnil
  have hmm := @run_makeMap Try.prog
  go_enter Try.func31, Try.ntmps31
  go_wp2_with fail
  clear hmm
  refine hcp.mono ?_
  rintro e w2 ⟨v, rfl, hb2, ho2⟩
  obtain ⟨A2, c2, rfl, h21, h22, hz2⟩ := ho2.lks
  have hsz1 : (w.alloc (.map #[] 0)).heap.size = w.heap.size + 1 := by simp
  rw [hsz1] at hz2
  have hM2 : MapV w2 w.heap.size 0 (.map []) := MapV.below hM hb2
  have HB2 := Lib.hid (hb.trans (hb2.mono hb.size))
  have HZ2 := Lib.hid hz2
  have HN : Hid (L.length = n) := Lib.hid HL.out
  have HS2 : Hid (w.heap.size < w2.heap.size) := Lib.hid (by have := hb2.size; omega)
  clear hcp ho2 hz2 h21 h22 hb hM hb2
  rw [HN.out]
  go_wp2
  go_loopw [11] (fun i wr => ∃ k : Nat, k ≤ n ∧ i = .int .i64 k ∧ lrise L k ∧ (∃ D f, MapV wr w.heap.size k D ∧ MV D f ∧ TlE wr (fun x => w.heap.size ≤ x ∧ x ≠ w.heap.size) f (fl (L.take k))) ∧ Below w.heap.size w wr ∧ Ks (fun x => x = w.heap.size) w2 wr) (fun i _ => n - (intOf i).toNat)
  case atStart => exact ⟨0, Nat.zero_le _, rfl, trivial, ⟨_, _, hM2, MV.nil, fun s => ⟨fun _ => rfl, fun v hv => by cases hv⟩⟩, HB2.out, Ks.refl _ _⟩
  case round =>
    clear hM2
    obtain ⟨k, hk, rfl, hrk, ⟨D, f, q1, q2, q3⟩, hbw, hks⟩ := hrel
    by_cases hlt : k < n
    · have hzr := HZ2.out.keep fun b hb hl => hks.block b hl (by omega)
      obtain ⟨g2, o2, rfl, hP2, hg2, hc2⟩ := hzr.cells (by have := HN.out; omega)
      obtain ⟨s, z, a, l, mm, he, hsb, hzl, hlm, hnl, hus, hzb, hblk, hsq, hcell⟩ := hc2 k (by have := HN.out; omega)
      subst hzl
      have hA := below_one wr (.cells (lkc s a z.length mm) 51)
      have hX := Blk.new wr (lkc s a z.length mm) 51
      obtain ⟨c0, c1⟩ := hcell wr (Below.refl _ _)
      have hR : LkE.R wr (fun x => w.heap.size ≤ x ∧ x ≠ w.heap.size) [.int .u64 s, .slice a z.length mm] (s, z) := LkE.mono (LkE.mk hsb rfl hlm hnl hsq) fun x hx _ => ⟨by omega, by omega⟩
      have hlt2 : (k : Int) < n := by omega
      have hq1 := q1.below hA
      have HQ := Lib.hid (And.intro q2 (And.intro (q3.below hA) (LkE.keep hR fun x _ hl => hA.block x hl)))
      have HKS := Lib.hid (hks.trans (Ks.of_below (S := fun x => x = w.heap.size) hA))
      have HBW := Lib.hid (hbw.trans (hA.mono hbw.size))
      have hbl := (HLN.out.at_ k)
      rw [he] at hbl
      have HE := Lib.hid (And.intro he (And.intro hsb hbl))
      have HRK := Lib.hid hrk
      have hzo := HZ.out (by omega)
      obtain ⟨g, o, rfl, _, _, hcz⟩ := hzo
      have HX := Lib.hid hX
      clear hzr hc2 hcell hus hzb hblk hsq hR q1 q2 q3 hks hP2 hlm hnl he hbl
      go_upto_region 5 with (fail)
      clear c0 c1
      generalize wr.alloc (.cells (lkc s a z.length mm) 51) = wE at *
      generalize wr.heap.size = bx at *
      obtain ⟨x0, x1⟩ := HX.out.c2
      by_cases hk0 : k = 0
      · have HRI : Hid (lrise L (k + 1)) := Lib.hid ⟨HRK.out, .inl hk0⟩
        have e9 : ¬ 0 < k := by omega
        clear hk0
        clear hcz
        go_quiet (fail)
        have hd := below_drewN (Below.refl wE.heap.size wE) nq
        have hX9 := HX.out.drewN nq
        have hq9 := MapV.below hq1 hd
        have hT9 := HQ.out.2.1.below hd
        have hR9 := LkE.keep HQ.out.2.2 fun x _ hl => hd.block x hl
        have HB9 := Lib.hid (HBW.out.trans (hd.mono HBW.out.size))
        have HK9 := Lib.hid (HKS.out.trans (Ks.of_below (S := fun x => x = w.heap.size) hd))
        generalize wE.drewN nq = wd at *
        clear x0 x1 hd
        obtain ⟨x0, x1⟩ := hX9.c2
        obtain ⟨w9, hrun, hm9, hf9, hg9⟩ := MapV.upd hq9 HQ.out.1 (by simp only [maxLen]; omega) HE.out.2.1.1 HE.out.2.1.2 (lkagg s a z.length mm)
        have hkp : ∀ x, (w.heap.size ≤ x ∧ x ≠ w.heap.size) → x < wd.heap.size → w9.heap[x]? = wd.heap[x]? := fun x hx hl => hg9.block x hl (fun e => hx.2 (by injection e))
        have htl := (hT9.keep hkp).put (LkE.keep hR9 hkp) HE.out.2.2
        have hfs : (fun t => if t = s then some z else fl (L.take k) t) = fl (L.take (k + 1)) := funext fun t => by
          rw [fl_snoc (by have := HN.out; omega) HRI.out t, HE.out.1]
        have HEND := Lib.hid (And.intro hm9 (And.intro hf9 (hfs ▸ htl)))
        have HB8 := Lib.hid (HB9.out.grown hg9 HB9.out.size (fun x e => by injection e with e; omega))
        have HK8 := Lib.hid (HK9.out.trans (Ks.of_grown hg9 (fun x e => by injection e with e; exact e.symm)))
        clear hm9 hf9 hg9 hkp htl hfs hX9 hq9 hT9 hR9
        go_wp2
        go_roundw
        case rel => exact ⟨k + 1, by omega, by rw [Int.natCast_add]; rfl, HRI.out, ⟨_, _, HEND.out.1, HEND.out.2.1, HEND.out.2.2⟩, HB8.out, HK8.out⟩
        case measure => simp [intOf]; omega
      · obtain ⟨ps, pz, pa, pl, pm, hpe, hpb, _, _, _, _, _, _, _, hpc⟩ := hcz (k - 1) (by omega)
        obtain ⟨y0, _⟩ := hpc wE HBW.out
        have e5 : ((k : Int) - 1).toNat = k - 1 := by omega
        have e6 : (k : Int) - 1 < n := by omega
        have e7 : 0 ≤ (k : Int) - 1 := by omega
        have e8 : 0 < (k : Int) := by omega
        have e9 : 0 < k := by omega
        clear hcz hpc hpb
        by_cases hcmp : s ≤ ps
        · have HNO : Hid (¬ lrise L L.length) := Lib.hid (fun h => by
            have h2 := lrise_le h (j := k + 1) (by have := HN.out; omega)
            have h3 := h2.2.resolve_left hk0
            rw [hpe, HE.out.1] at h3
            dsimp only at h3
            omega)
          clear hpe
          go_quiet (fail)
          have HB9 := Lib.hid (HBW.out.trans ((below_drewN (Below.refl wE.heap.size wE) nq).mono HBW.out.size))
          go_wp2
          exact bodyPost_ret (v := .tuple #[.map none, .bool false]) (by simp [results, Try.results31, go_sem]) rfl ⟨HB9.out, .inl ⟨HNO.out, rfl⟩⟩
        · have HRI : Hid (lrise L (k + 1)) := Lib.hid ⟨HRK.out, .inr (by rw [hpe, HE.out.1]; dsimp only; omega)⟩
          clear hpe
          go_quiet (fail)
          have hd := below_drewN (Below.refl wE.heap.size wE) nq
          have hX9 := HX.out.drewN nq
          have hq9 := MapV.below hq1 hd
          have hT9 := HQ.out.2.1.below hd
          have hR9 := LkE.keep HQ.out.2.2 fun x _ hl => hd.block x hl
          have HB9 := Lib.hid (HBW.out.trans (hd.mono HBW.out.size))
          have HK9 := Lib.hid (HKS.out.trans (Ks.of_below (S := fun x => x = w.heap.size) hd))
          generalize wE.drewN nq = wd at *
          clear x0 x1 hd
          obtain ⟨x0, x1⟩ := hX9.c2
          obtain ⟨w9, hrun, hm9, hf9, hg9⟩ := MapV.upd hq9 HQ.out.1 (by simp only [maxLen]; omega) HE.out.2.1.1 HE.out.2.1.2 (lkagg s a z.length mm)
          have hkp : ∀ x, (w.heap.size ≤ x ∧ x ≠ w.heap.size) → x < wd.heap.size → w9.heap[x]? = wd.heap[x]? := fun x hx hl => hg9.block x hl (fun e => hx.2 (by injection e))
          have htl := (hT9.keep hkp).put (LkE.keep hR9 hkp) HE.out.2.2
          have hfs : (fun t => if t = s then some z else fl (L.take k) t) = fl (L.take (k + 1)) := funext fun t => by
            rw [fl_snoc (by have := HN.out; omega) HRI.out t, HE.out.1]
          have HEND := Lib.hid (And.intro hm9 (And.intro hf9 (hfs ▸ htl)))
          have HB8 := Lib.hid (HB9.out.grown hg9 HB9.out.size (fun x e => by injection e with e; omega))
          have HK8 := Lib.hid (HK9.out.trans (Ks.of_grown hg9 (fun x e => by injection e with e; exact e.symm)))
          clear hm9 hf9 hg9 hkp htl hfs hX9 hq9 hT9 hR9
          go_wp2
          go_roundw
          case rel => exact ⟨k + 1, by omega, by rw [Int.natCast_add]; rfl, HRI.out, ⟨_, _, HEND.out.1, HEND.out.2.1, HEND.out.2.2⟩, HB8.out, HK8.out⟩
          case measure => simp [intOf]; omega
    · obtain rfl : k = n := by omega
      have HF := Lib.hid (And.intro hrk (And.intro q1 (And.intro q2 q3)))
      have HBW := Lib.hid hbw
      clear hrk q1 q2 q3 hbw hks
      go_wp2
      refine bodyPost_ret (v := .tuple #[.map (some w.heap.size), .bool true]) (by simp [results, Try.results31, go_sem]) rfl ⟨HBW.out, .inr ⟨by rw [HN.out]; exact HF.out.1, w.heap.size, D, f, rfl, Nat.le_refl _, by rw [HN.out]; exact HF.out.2.1, HF.out.2.2.1, ?_⟩⟩
      have h9 := HF.out.2.2.2
      rw [← HN.out, List.take_length] at h9
      exact h9
end Go.Proofs.Ytoemmppoejaapaa.Cur

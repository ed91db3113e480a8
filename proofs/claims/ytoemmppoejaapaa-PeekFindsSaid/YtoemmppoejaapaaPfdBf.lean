/- As the seat's text, without what nothing here names. -/
import Derived.Test.YtoemmppoejaapaaPfdAf
import Derived.Test.YtoemmppoejaapaaK36f
import Derived.Carry
namespace Go.Proofs.Ytoemmppoejaapaa.Cur
open Go.RowKit Mem
set_option linter.unusedVariables false
set_option maxRecDepth 100000
set_option maxHeartbeats 2000000 in
theorem of_step {bx sb V n : Nat} {b s : Int} {L : List En} {hd : Hdr} (w : World) (hs : esm L) (hn : n ≤ 30) (hVB : bx < V) (hsb : sb ≠ bx) (hsV : sb < V) (b0 : 0 ≤ b) (hh : HdS w bx V n L hd) :
    VisStep 25 #[.pointer (some ⟨sb, 0, none⟩), .pointer (some ⟨bx, 0, none⟩)] b n hd (AcS bx V) (fun k i w => AcI bx V (acE (hOf b s) L k i) w ∧ Blk w sb #[.int .u64 s] 22) w := by
  intro hbn k i g o wr hk hi hA hks hI
  obtain ⟨hlen, hcc⟩ := hh k i hk hi
  obtain ⟨hgS, hg, hc⟩ := hcc g o hA
  have hi2 : i < (L.getD k en0).1.length := by rw [← hlen]; exact hi
  have hnx := acE_next (h := hOf b s) hi2
  have hal := acE_len (h := hOf b s) (L := L) (fun _ _ => by unfold hOf; split <;> simp) hs k i (by omega)
  have hl50 := (hs k).1
  obtain ⟨x, hx0⟩ : ∃ x, x = ((L.getD k en0).1.getD i lk0).1 := ⟨_, rfl⟩
  have hho : hOf b s k ((L.getD k en0).1.getD i lk0) = if x = s then [b + k] else [] := by unfold hOf; rw [hx0]
  rw [← hx0] at hc
  rw [hho] at hnx
  dsimp only at hI ⊢
  rw [hnx]
  generalize acE (hOf b s) L k i = acc at *
  have hal2 : acc.length + 1 ≤ 1000000 := by omega
  obtain ⟨⟨Av, cv, hX, ho, hV⟩, hsx⟩ := hI
  have hcr := (ks_cell hks hg hgS).trans hc
  clear hh hlen hcc hgS hg hc hnx hal hl50 hx0 hho hks hA hi hi2 hs hbn hd
  simp only [List.append_toArray, List.cons_append, List.nil_append]
  obtain ⟨p, hp⟩ : ∃ p, p = b + (k : Int) := ⟨_, rfl⟩
  rw [← hp]
  have HP := Lib.hid hp
  clear hp
  have c0 := hsx.c1
  by_cases he : x = s
  · subst he
    rw [if_pos rfl]
    have e1 : (x == x) = true := by simp
    have y0 := hX.c1
    have HX := Lib.hid hX
    have HO := Lib.hid ho
    have HS := Lib.hid hsx
    have HV := Lib.hid hV
    clear hX ho hsx hV
    go_enter Try.func25, Try.ntmps25
    go_wp2
    go_quiet (fail)
    have hb0 := below_drewN (Below.refl wr.heap.size wr) nq
    have hXd := HX.out.below hb0
    have hSd := HS.out.below hb0
    have hod := own_below HO.out hb0
    have hVd : V ≤ (wr.drewN nq).heap.size := Nat.le_trans HV.out hb0.size
    have HKD := Lib.hid (Ks.of_below (S := AcS bx V) hb0)
    clear hb0 y0 c0
    generalize wr.drewN nq = wd at *
    have y0 := hXd.c1
    have hb5 := below_one wd (.cells #[.int .u64 p] 22)
    have ho5 : (wd.alloc (.cells #[.int .u64 p] 22)).ownsRow (V + 1) 22 1 (.slice Av acc.length cv) acc.length (uv acc) := own_below hod hb5
    have hge5 := own_ge ho5
    have hrw5 := rw_new wd [.int .u64 p] 22
    have hB5 : V + 1 ≤ (wd.alloc (.cells #[.int .u64 p] 22)).heap.size := by simp; omega
    have HX5 := Lib.hid (hXd.below hb5)
    have HS5 := Lib.hid (hSd.below hb5)
    have HK5 := Lib.hid (HKD.out.trans (Ks.of_below (S := AcS bx V) hb5))
    clear hXd hSd hod hVd hb5 HX HO HS HV HKD
    go_wp2_with (at_builtin; go_must (refine list_append_rw kindU rfl (.tmp 12) (.tmp 14) rfl (V + 1) _ _ _ rfl ho5 _ 1 _ [.int .u64 p] rfl rfl hrw5 (by simp) (by simp [Value.oneCell']) hal2 (by omega) hB5 ?_; intro v9 w9 ho9 hg9 hgr9; have hk9 := Ks.of_grown (S := AcS bx V) hg9 (fun q hq => .inr (by have := hge5 q hq; omega)); have hX9 : Blk w9 bx #[.slice Av acc.length cv] 34 := (hg9.block bx HX5.out.lt (fun e => by have := hge5 bx e.symm; omega)).trans HX5.out; have hS9 : Blk w9 sb #[.int .u64 x] 22 := (hg9.block sb HS5.out.lt (fun e => by have := hge5 sb e.symm; omega)).trans HS5.out; have ho9' : OwnU w9 (V + 1) v9 (acc ++ [p]) := (by unfold OwnU; rw [List.length_append, uv, List.map_append]; exact ho9); have hge9 := own_ge ho9'; have hV9 : V ≤ w9.heap.size := (by have := hg9.size; omega); obtain ⟨Z2, hZ2⟩ : ∃ Z2, Z2 = acc ++ [p] := ⟨_, rfl⟩; have HZ2 := Lib.hid hZ2; rw [← hZ2] at ho9'; clear hZ2; obtain ⟨A9, c9, hv9⟩ := ho9'.slice; subst hv9; have z0 := hX9.c1; have zf := hX9.free 0; have HX10 := Lib.hid (hX9.set 0 (.slice A9 Z2.length c9)); have HS10 := Lib.hid (hS9.far (g := bx) 0 (.slice A9 Z2.length c9) hsb); have HO10 : Hid (OwnU (w9.setCell ⟨bx, 0, none⟩ (.slice A9 Z2.length c9)) (V + 1) (.slice A9 Z2.length c9) Z2) := Lib.hid (own_block ho9' (fun q hq => Below.heap_setCell _ _ _ _ (by have := hge9 q hq; show q ≠ bx; omega))); have HK10 := Lib.hid ((HK5.out.trans hk9).trans (Ks.setCell (S := AcS bx V) w9 bx 0 (.slice A9 Z2.length c9) (.inl rfl))); have HV10 : Hid (V ≤ (w9.setCell ⟨bx, 0, none⟩ (.slice A9 Z2.length c9)).heap.size) := Lib.hid (by rw [World.size_setCell]; exact hV9); clear ho9 hg9 hgr9 hk9 hX9 hS9 ho9' hge9 hV9 ho5 hge5 hrw5 hB5))
    go_end0
    exact ⟨rfl, ⟨by rw [← HZ2.out]; exact ⟨A9, c9, HX10.out, HO10.out, HV10.out⟩, HS10.out⟩, HK10.out⟩
  · rw [if_neg he, List.append_nil]
    have e1 : (x == s) = false := by simpa using he
    have HI := Lib.hid (And.intro (show AcI bx V acc wr from ⟨Av, cv, hX, ho, hV⟩) hsx)
    clear hX ho hsx hV he
    go_enter Try.func25, Try.ntmps25
    go_wp2
    go_quiet (fail)
    go_wp2
    go_end0
    have hb0 := below_drewN (Below.refl wr.heap.size wr) nq
    exact ⟨rfl, ⟨HI.out.1.below hb0, HI.out.2.below hb0⟩, Ks.of_below hb0⟩
end Go.Proofs.Ytoemmppoejaapaa.Cur

/- Locate: a position's place leads back to it, and a place's position to that. -/
import Derived.Test.YtmcabaebdloakaaLocD
namespace Go.Proofs.Ytmcabaebdloakaa.Cur
open Go.RowKit Mem
set_option linter.unusedVariables false
set_option maxRecDepth 100000

theorem wset_int {L : List Stp} {p : Int} (hv : Vd L) (p0 : 0 ≤ p) (p1 : p < 4611686018427387904) : (wset L p : Int) = (p - (L.getD (wsi L p) stp0).1) % ((L.getD (wsi L p) stp0).2.2.length : Int) ∧ wset L p < (L.getD (wsi L p) stp0).2.2.length := by
  obtain ⟨q1, q2, q3⟩ := hv.wsi p0 p1
  obtain ⟨k1, k2, k3, k4, _⟩ := stok_parts (hv.ok _ q1)
  have r0 := Int.emod_nonneg (p - (L.getD (wsi L p) stp0).1) (show ((L.getD (wsi L p) stp0).2.2.length : Int) ≠ 0 by omega)
  have r1 := Int.emod_lt_of_pos (p - (L.getD (wsi L p) stp0).1) (show (0 : Int) < ((L.getD (wsi L p) stp0).2.2.length : Int) by omega)
  unfold wset
  omega
theorem place_back {L : List Stp} {p : Int} (hv : Vd L) (p0 : 0 ≤ p) (p1 : p < 4611686018427387904) : lpt L (wsi L p) (wset L p) (wloc L p) ∧ lpp L (wsi L p) (wset L p) (wloc L p) = p := by
  obtain ⟨q1, q2, q3⟩ := hv.wsi p0 p1
  have h := bk_deal (hv.ok _ q1) q2 q3
  obtain ⟨e1, _⟩ := wset_int hv p0 p1
  rw [← e1] at h
  replace h : bkv (L.getD (wsi L p) stp0) (wset L p) (wloc L p) = .tuple #[.int .u64 p, .bool true] := h
  by_cases hl : wloc L p < shv (L.getD (wsi L p) stp0) (wset L p)
  · refine ⟨⟨by omega, by omega, by rw [Int.toNat_natCast]; exact hl⟩, ?_⟩
    rw [bkv_yes hl] at h
    injection h with h
    have h2 := congrArg (fun a : Array Value => a[0]?) h
    simp at h2
    unfold lpp
    rw [Int.toNat_natCast]
    exact h2
  · rw [bkv_no hl] at h
    injection h with h
    have h2 := congrArg (fun a : Array Value => a[1]?) h
    simp at h2
theorem back_place {L : List Stp} {x : Nat} {y l : Int} (hv : Vd L) (l0 : 0 ≤ l) (h : lpt L x y l) : 0 ≤ lpp L x y l ∧ lpp L x y l < 4611686018427387904 ∧ wsi L (lpp L x y l) = x ∧ (wset L (lpp L x y l) : Int) = y ∧ wloc L (lpp L x y l) = l := by
  obtain ⟨h0, h1, h2⟩ := h
  rw [Int.toNat_natCast] at h2
  have hx : x < L.length := by omega
  obtain ⟨hok, y0, y1, hsum⟩ := shv_pos h2 l0
  obtain ⟨k1, k2, k3, k4, _⟩ := stok_parts hok
  have hf := hv.from0 x hx
  have e : lpp L x y l = (L.getD x stp0).1 + l * (L.getD x stp0).2.2.length + y := by unfold lpp; rw [Int.toNat_natCast]
  have hm : 0 ≤ l * ((L.getD x stp0).2.2.length : Int) := Int.mul_nonneg l0 (by omega)
  have hw : wsi L (lpp L x y l) = x := hv.only hx (by omega) (by omega)
  have hd := deal_bk h2 l0
  rw [← e, dlv_yes ⟨hok, by omega, by omega⟩] at hd
  injection hd with hd
  have d0 := congrArg (fun a : Array Value => a[0]?) hd
  have d1 := congrArg (fun a : Array Value => a[1]?) hd
  simp at d0 d1
  refine ⟨by omega, by omega, hw, ?_, ?_⟩
  · have := (wset_int hv (p := lpp L x y l) (by omega) (by omega)).1
    rw [this, hw]; exact d0
  · unfold wloc; rw [hw]; exact d1
end Go.Proofs.Ytmcabaebdloakaa.Cur

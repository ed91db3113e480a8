/- As the seat's text, without what nothing here names. -/
import Derived.Test.YtoemmppoejaapaaBtcMf
import Derived.Test.YtoemmppoejaapaaK38f
import Derived.Test.YtoemmppoejaapaaK20f
namespace Go.Proofs.Ytoemmppoejaapaa.Cur
open Go.RowKit Mem Go.ChangeShapes Go.WideShapes
set_option linter.unusedVariables false
set_option maxRecDepth 100000
abbrev btagg (e b : Int) (A : Option Addr) (n m : Nat) : Value := .agg #[.int .u64 e, .int .u64 b, .slice A n m]
abbrev btenc (e b : Int) (A : Option Addr) (n m : Nat) : Array Value := #[.int .u64 e, .int .u64 b, .slice A n m]
theorem blk_f3 {w : World} {b : Nat} {cs : Array Value} {t : Nat} (h : Blk w b cs t) : w.frozen? ⟨b, 0, none⟩ = false ∧ w.frozen? ⟨b, 1, none⟩ = false ∧ w.frozen? ⟨b, 2, none⟩ = false := ⟨h.free 0, h.free 1, h.free 2⟩
theorem set3 {w : World} {b : Nat} {v0 v1 v2 : Value} {t : Nat} (h : Blk w b #[v0, v1, v2] t) (u0 u1 u2 : Value) :
    Blk (((w.setCell ⟨b, 0, Option.none⟩ u0).setCell ⟨b, 1, Option.none⟩ u1).setCell ⟨b, 2, Option.none⟩ u2) b #[u0, u1, u2] t ∧
    Kp b w (((w.setCell ⟨b, 0, Option.none⟩ u0).setCell ⟨b, 1, Option.none⟩ u1).setCell ⟨b, 2, Option.none⟩ u2) :=
  ⟨((h.set 0 u0).set 1 u1).set 2 u2, ((Kp.setCell _ _ _ _).trans (Kp.setCell _ _ _ _)).trans (Kp.setCell _ _ _ _)⟩
theorem opens_batch : Opens (PrE U64E (PrE U64E (SlE EnE))) 25 := opens_three Try.underlying25 rfl rfl rfl (by kernel_rfl) (by kernel_rfl) (by kernel_rfl) (by kernel_rfl) (opens_u64 Try.underlying22) (opens_u64 Try.underlying22) (opens_slice Try.underlying23 (by kernel_rfl) (by decide) opens_entry)
section
variable {H : Type} {enc : TypeId × Value → H} {w : World} {base : Nat} {v : Value} {d : DataW H} {p : List MemPlace}
theorem open_batch (g : Value.okWide Try.prog w .any base 25 v) (h : DataW.Trod enc Try.prog w 0 (fun _ => true) true 25 v d p) :
    ∃ e b A n m L, v = btagg e b A n m ∧ (0 ≤ e ∧ e < 18446744073709551616) ∧ (0 ≤ b ∧ b < 18446744073709551616) ∧ n ≤ m ∧ (A = none → m = 0) ∧ Ens w (fun b => b < w.heap.size) A n L := by
  obtain ⟨cs, s, rfl, hs⟩ := open_st Try.underlying25 opens_batch g h
  obtain ⟨d, e, hc, ⟨rfl, b0⟩, d2, e2, rfl, ⟨rfl, b1⟩, A, m, rfl, h1, h2, h3⟩ := hs
  refine ⟨s.1, s.2.1, A, s.2.2.length, m, s.2.2, ?_, b0, b1, h1, h2, rfl, h3.mono fun b _ hb => hb⟩
  rw [show cs = cs.toList.toArray by simp, hc]
  rfl
end
theorem Ens.bds {w : World} {P : Nat → Prop} {A : Option Addr} {n : Nat} {L : List En} (h : Ens w P A n L) : ∀ x ∈ L, lbd x.1 ∧ ∀ y ∈ x.2, 0 ≤ y ∧ y < 256 := by
  intro x hx
  obtain ⟨k, hk, e⟩ := List.mem_iff_getElem.1 hx
  have hn : n ≠ 0 := by have := h.1; omega
  obtain ⟨g, o, rfl, _, hg, hc⟩ := h.cells hn
  obtain ⟨K, D, a1, l1, m1, b1, r1, k1, he, _, _, hks, _, _, _, hbb, _, _⟩ := hc k (by rw [← h.1]; exact hk)
  rw [List.getD_eq_getElem?_getD, List.getElem?_eq_getElem hk] at he
  replace he : L[k] = (K, D) := he
  rw [← e, he]
  exact ⟨hks.bds, hbb⟩
theorem jn_of_jk {L : List En} {n : Nat} (h : L.length = n) : jn L = jk L n := by rw [← h]; exact jn_jk
theorem fitn_no1 {b n : Int} (h : ¬ 1 ≤ n) : fitn b n = false := decide_eq_false fun x => h x.1
theorem fitn_no2 {b n : Int} (h : ¬ n ≤ 16) : fitn b n = false := decide_eq_false fun x => h x.2.1
theorem fitn_no3 {b n : Int} (h : ¬ b + n ≤ 4611686018427387904) : fitn b n = false := decide_eq_false fun x => h x.2.2
theorem fitn_bd {b n : Int} (h : fitn b n = true) : 1 ≤ n ∧ n ≤ 16 ∧ b + n ≤ 4611686018427387904 := of_decide_eq_true h
theorem fits_any (b n : Int) (w : World) (h0 : 0 ≤ b) (h1 : b < 18446744073709551616) (hn : -9223372036854775808 ≤ n ∧ n ≤ 9223372036854775807) :
    Calls Try.prog 52 #[.int .u64 b, .int .i64 n] w fun e w' => e = .returned (.bool (fitn b n)) ∧ w = w' := by
  by_cases n1 : 1 ≤ n
  · by_cases n2 : n ≤ 16
    · have HE := Lib.hid (epos_any b)
      have e1 : IntKind.u64.wrap n = n := IntWalk.u64_in _ (by omega)
      by_cases hb : b ≤ 4611686018427387903
      · have hp : psk b = true := decide_eq_true hb
        rw [hp] at HE
        have e2 : IntKind.u64.wrap (b + n) = b + n := IntWalk.u64_in _ (by omega)
        have e3 : IntKind.u64.wrap (b + n - 1) = b + n - 1 := IntWalk.u64_in _ (by omega)
        have hv : fitn b n = psk (b + n - 1) := by unfold fitn psk; exact decide_eq_decide.2 ⟨fun h => by omega, fun h => by omega⟩
        have HE2 := Lib.hid (epos_any (b + n - 1))
        generalize fitn b n = v at hv
        generalize psk (b + n - 1) = v2 at hv HE2
        clear hp
        go_enter Try.func52, Try.ntmps52
        go_wp2_with fail
        refine (HE.out _).mono ?_
        rintro e w1 ⟨rfl, rfl⟩
        go_wp2_with fail
        refine (HE2.out _).mono ?_
        rintro e w1 ⟨rfl, rfl⟩
        go_wp2
        go_ret
        first | exact ⟨rfl, rfl⟩ | exact ⟨by rw [hv]; rfl, rfl⟩ | exact ⟨by rw [hv], rfl⟩
      · have hp : psk b = false := decide_eq_false hb
        rw [hp] at HE
        have hv : fitn b n = false := fitn_no3 (by omega)
        generalize fitn b n = v at hv
        clear hp
        go_enter Try.func52, Try.ntmps52
        go_wp2_with fail
        refine (HE.out _).mono ?_
        rintro e w1 ⟨rfl, rfl⟩
        go_wp2
        go_ret
        first | exact ⟨rfl, rfl⟩ | exact ⟨by rw [hv]; rfl, rfl⟩ | exact ⟨by rw [hv], rfl⟩
    · have hv : fitn b n = false := fitn_no2 n2
      generalize fitn b n = v at hv
      go_enter Try.func52, Try.ntmps52
      go_wp2
      go_ret
      first | exact ⟨rfl, rfl⟩ | exact ⟨by rw [hv]; rfl, rfl⟩ | exact ⟨by rw [hv], rfl⟩
  · have hv : fitn b n = false := fitn_no1 n1
    generalize fitn b n = v at hv
    go_enter Try.func52, Try.ntmps52
    go_wp2
    go_ret
    first | exact ⟨rfl, rfl⟩ | exact ⟨by rw [hv]; rfl, rfl⟩ | exact ⟨by rw [hv], rfl⟩
theorem bend_any (e b : Int) (A : Option Addr) (n m : Nat) (w : World) (hn : n ≤ 1000000) :
    Calls Try.prog 22 #[btagg e b A n m] w (BPost (.int .u64 (IntKind.u64.wrap (b + n))) w) := by
  unfold BPost
  have hX := Blk.new w (btenc e b A n m) 25
  have hb := below_one w (.cells (btenc e b A n m) 25)
  have HX := Lib.hid hX
  obtain ⟨x0, x1, x2⟩ := hX.c3
  clear hX
  have e1 : IntKind.u64.wrap (n : Int) = n := IntWalk.u64_in _ (by omega)
  obtain ⟨v, hv⟩ : ∃ v, v = IntKind.u64.wrap (b + n) := ⟨_, rfl⟩
  have hv2 := hv.symm
  rw [hv2]
  have HV := Lib.hid hv
  clear hv
  go_enter Try.func22, Try.ntmps22
  go_wp2
  go_ret
  first | exact ⟨rfl, hb⟩ | exact ⟨by rw [HV.out], hb⟩
end Go.Proofs.Ytoemmppoejaapaa.Cur

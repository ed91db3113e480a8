/- Frames that are looked for: the document's Next. -/
import Derived.Test.YtncomjeidlahlaaDoorFrmX
namespace Go.Proofs.YtncomjeidlahlaaDoor.Cur
open Go.RowKit Mem CrcM
set_option linter.unusedVariables false
set_option maxRecDepth 100000


theorem slice_l2 {w : World} {A : Option Addr} {n : Nat} {z : List Int} (hz : Bs w A n z) (m : Nat) (l : Int) (h0 : 0 ≤ l) (h1 : l ≤ n) (hm : n ≤ m) (hA : A = none → m = 0) :
    ∃ A' M, (∀ w', (Instr.slice 22 (.slice A n m) (some (.int .i64 l)) none none).run Tryd.prog w' = .ok (.slice A' (n - l).toNat M) w') ∧ Bs w A' (n - l).toNat (z.drop l.toNat) ∧ (n - l).toNat ≤ M ∧ (A' = none → M = 0) := by
  have hs : ∀ w', (sizeOf 5).run Tryd.prog w' = .ok 1 w' := fun w' => by kernel_rfl
  have he : Tryd.prog.elem 22 = 5 := by kernel_rfl
  refine ⟨if m = l.toNat then A else A.map (·.add (l.toNat * 1)), m - l.toNat, fun w' => ?_, ?_, by omega, fun h => ?_⟩
  · have := run_slice_l (P := Tryd.prog) (w := w') 22 A n m (by rw [he]; exact Tryd.underlying22) .i64 l h0 h1
    rw [this, he, hs]
    simp [Result.andThen, sliced]
    omega
  · have := hz.sub m l.toNat n (by omega) (Nat.le_refl _) hm
    rw [show (n - l).toNat = n - l.toNat by omega]
    have e : piece z l.toNat n = z.drop l.toNat := by unfold piece; exact List.take_of_length_le (by rw [List.length_drop, hz.1]; exact Nat.le_refl _)
    rw [← e]
    exact this
  · have : A = none := by
      split at h
      · exact h
      · simpa using h
    have := hA this
    omega

/-- What the document's Next gives. -/
def rn (z : List Int) (lim : Int) (f : Nat) : Int := match nx z lim f with
  | some q => (q : Int)
  | none => -1
theorem St.code0 {α : Type} {d : α} {n : Nat} {g : Rs α} {p q : Int} {v : α} {p' c' q' : Int} (h : St d n g p 0 q v p' c' q') : (c' = 0 ↔ g.2.2.1 = 0) ∧ (c' = 0 → p' = g.2.1) := by
  obtain ⟨_, _, ⟨h0, _⟩ | ⟨_, h1, h2, h3, h4, _⟩ | ⟨_, h1, _, h2, _⟩⟩ := h
  · exact absurd rfl h0
  · exact ⟨⟨fun _ => h1, fun _ => h4⟩, fun _ => h3⟩
  · exact ⟨⟨fun e => absurd (h2 ▸ e) h1, fun e => absurd e h1⟩, fun e => absurd (h2 ▸ e) h1⟩

set_option maxHeartbeats 4000000 in
theorem rnext_any {w : World} {A : Option Addr} {n m : Nat} {z : List Int} (f mo : Int) (F : Nat) (hz : Bs w A n z) (hby : ∀ x ∈ z, 0 ≤ x ∧ x < 256) (hA : A = none → m = 0) (hm : n ≤ m) (hn : n ≤ 100000) (hF : max f 0 = (F : Int)) (hF2 : F ≤ 9223372036854775807) :
    Calls Tryd.prog 30 #[.slice A n m, .int .i64 f, .int .i64 mo] w fun e w' => e = .returned (.int .i64 (rn z (min mo 2097152) F)) ∧ Below w.heap.size w w' := by
  have HBY := Lib.hid hby
  have HZ := Lib.hid hz
  have HZL := Lib.hid hz.1
  have HAN := Lib.hid hA
  have HM := Lib.hid hm
  have HR := fun (a : Option Addr) (n m : Nat) (z : List Int) (w : World) (hz : Bs w a n z) (ha : a = none → m = 0) (hm : n ≤ m) (hn : n ≤ 1000000) (hby : ∀ x ∈ z, 0 ≤ x ∧ x < 256) => rfread_any a n m z 0 0 0 mo w hz ha (Int.le_refl 0) (by omega) hm hn hby
  generalize min mo 2097152 = lim at *
  have HRR := Lib.hid HR
  clear hby hz hA HR hm
  go_enter Tryd.func30, Tryd.ntmps30
  go_wp2
  clear hF
  go_loopw [7] (fun kv wr => ∃ p : Nat, (p ≤ n ∨ p = F) ∧ F ≤ p ∧ kv = .int .i64 p ∧ Below w.heap.size w wr ∧ Hid (nx z lim F = nx z lim p)) (fun kv _ => n - (intOf kv).toNat)
  case atStart => exact ⟨F, .inr rfl, Nat.le_refl _, rfl, Below.refl _ _, Lib.hid rfl⟩
  case round =>
    obtain ⟨p, hp, hFp, rfl, hb, HN⟩ := hrel
    by_cases hlt : p < n
    · have hpi : (p : Int) < n := by omega
      obtain ⟨A', M, hsl, hbs, hM, hAM⟩ := slice_l2 HZ.out m (p : Int) (by omega) (by omega) HM.out HAN.out
      rw [Int.toNat_natCast] at hbs
      have hcall := HRR.out A' ((n : Int) - p).toNat M (z.drop p) wr (hbs.below hb) hAM hM (by omega) (fun x hx => HBY.out x (List.mem_of_mem_drop hx))
      have HB := Lib.hid hb
      clear hbs hb
      generalize ((n : Int) - p).toNat = n' at *
      go_wp2_with fail
      with_reducible refine hcall.mono ?_
      rintro e w1 ⟨A2, k2, m2, l, p', c', q', rfl, hb1, hst, _, _⟩
      have hbd1 := HB.out.trans (hb1.mono HB.out.size)
      have HC := Lib.hid hst.code0
      clear hcall hb1 hst
      by_cases hc : c' = 0
      · subst hc
        have HV : Hid (rn z lim F = (p : Int)) := Lib.hid (by
          unfold rn
          rw [HN.out, nx_yes (by rw [HZL.out]; exact hlt) (decide_eq_true (HC.out.1.1 rfl))])
        go_wp2
        go_ret
        exact ⟨by rw [HV.out]; rfl, hbd1.alloc hbd1.size _⟩
      · have hcb : (c' == 0) = false := by simpa using hc
        have HV : Hid (nx z lim F = nx z lim (p + 1)) := Lib.hid (by
          rw [HN.out]
          exact nx_no (by rw [HZL.out]; exact hlt) (decide_eq_false (fun h => hc (HC.out.1.2 h))))
        clear hc
        go_wp2
        go_roundw
        case rel => exact ⟨p + 1, .inl (by omega), by omega, by go_num, hbd1.alloc hbd1.size _, HV⟩
        case measure => simp [intOf]; omega
    · have hpi : ¬ (p : Int) < n := by omega
      have HV : Hid (rn z lim F = -1) := Lib.hid (by
        unfold rn
        rw [HN.out, nx_end (by rw [HZL.out]; omega)])
      have HB := Lib.hid hb
      clear hb
      go_wp2
      go_ret
      exact ⟨by rw [HV.out]; rfl, HB.out⟩
end Go.Proofs.YtncomjeidlahlaaDoor.Cur

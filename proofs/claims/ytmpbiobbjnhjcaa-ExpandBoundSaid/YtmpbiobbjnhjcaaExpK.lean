/- Written tokens expanded, by the program: Bytes. -/
import Derived.Test.YtmpbiobbjnhjcaaExpJ
namespace Go.Proofs.Ytmpbiobbjnhjcaa.Cur
open Go.RowKit Mem
set_option linter.unusedVariables false

theorem hd_pl {z : List Int} {p : Int} (hby : ∀ x ∈ z, 0 ≤ x ∧ x < 256) (h0 : 0 ≤ p) (h1 : p ≤ z.length) (h : (hd z p).2.2.1 = 0) : p + 1 ≤ (hd z p).2.1 ∧ (hd z p).2.1 ≤ z.length := by
  obtain ⟨v1, v2, e1⟩ := hd_ok' h
  obtain ⟨o1, o2, o3, o4, o5⟩ := vg_once hby h0 h1 v1
  rw [e1]
  exact ⟨by show p + 1 ≤ (vg z p).2.1; omega, o5⟩
/-- How many bytes a token makes that is read behind its head. -/
theorem trb_len {z : List Int} {cp : Bool} {k p1 : Int} (h0 : 0 ≤ p1) (h1 : p1 ≤ z.length) (hk : 0 ≤ k) (h : (trb z (cp, k) p1).2.2.1 = 0) :
    ((trb z (cp, k) p1).1.1.length : Int) + ((trb z (cp, k) p1).1.2.2.toNat : Int) = k := by
  cases cp
  · rw [trb_run] at h ⊢
    obtain ⟨q1, q2⟩ := Rs.bind_ok h
    obtain ⟨k1, k2, f1⟩ := tk_once h0 h1 q1
    rw [q2, f1]
    have hl : (piece z p1.toNat (p1 + k).toNat).length = k.toNat := by rw [length_piece rfl (by omega)]; omega
    show ((piece z p1.toNat (p1 + k).toNat).length : Int) + (((0 : Int).toNat : Nat) : Int) = k
    rw [hl]
    simp
    omega
  · rw [trb_cpy] at h ⊢
    obtain ⟨q1, q2⟩ := Rs.bind_ok h
    rw [q2]
    show ((([] : List Int).length : Nat) : Int) + (k.toNat : Int) = k
    simp
    omega
theorem ex_len {z : List Int} {bound : Int} {y : List Int} {p : Int} (hby : ∀ x ∈ z, 0 ≤ x ∧ x < 256) (h0 : 0 ≤ p) (h1 : p ≤ z.length) (h : (ex z bound y p).2.2.1 = 0) :
    ((ex z bound y p).1.length : Int) = y.length + (hd z p).1.2 ∧ ((ex z bound y p).1.length : Int) ≤ bound := by
  obtain ⟨g1, g2⟩ := Rs.bind_ok h
  obtain ⟨r1, r2⟩ := hd_rng hby g1
  obtain ⟨l1, l2⟩ := hd_pl hby h0 h1 g1
  have e : ex z bound y p = if bound < (y.length : Int) + (hd z p).1.2 then ([], 0, 11, p) else (trb z (hd z p).1 (hd z p).2.1).bind [] fun t p2 => if (y.length : Int) < t.2.1 then ([], 0, 10, (hd z p).2.1) else (agn 0 id (y ++ t.1) t.2.1 t.2.2.toNat, p2, 0, 0) := g2
  by_cases hov : bound < (y.length : Int) + (hd z p).1.2
  · rw [if_pos hov] at e
    rw [e] at h
    exact absurd h (by show ¬ (11 : Int) = 0; decide)
  · rw [if_neg hov] at e
    rw [e] at h
    obtain ⟨t1, t2⟩ := Rs.bind_ok h
    have hl := trb_len (cp := (hd z p).1.1) (k := (hd z p).1.2) (by omega) l2 (by omega) t1
    rw [t2] at e h
    by_cases hof : (y.length : Int) < (trb z (hd z p).1 (hd z p).2.1).1.2.1
    · rw [if_pos hof] at h
      exact absurd h (by show ¬ (10 : Int) = 0; decide)
    · rw [if_neg hof] at e
      rw [e]
      show ((agn _ _ _ _ _).length : Int) = _ ∧ ((agn _ _ _ _ _).length : Int) ≤ _
      rw [agn_length, List.length_append]
      have hl' : ((trb z (hd z p).1 (hd z p).2.1).1.1.length : Int) + ((trb z (hd z p).1 (hd z p).2.1).1.2.2.toNat : Int) = (hd z p).1.2 := hl
      omega

set_option maxRecDepth 100000 in
set_option maxHeartbeats 2000000 in
theorem ebytes_any (a : Option Addr) (n m : Nat) (z : List Int) (bound : Int) (R : Int → List Int → Prop) (w : World) (hz : Bs w a n z) (hm : n ≤ m) (hn : n ≤ 100000) (hby : ∀ x ∈ z, 0 ≤ x ∧ x < 256)
    (hR0 : R 0 []) (hRs : ∀ p y, R p y → 0 ≤ p → p < n → (ex z bound y p).2.2.1 = 0 → R (ex z bound y p).2.1 (ex z bound y p).1) (hRl : ∀ p y, R p y → y.length ≤ 800000) :
    Calls Try.prog 13 #[.slice a n m, .int .i64 bound] w (XpPost (exv z bound) w) := by
  have hX := ((Blk.new w #[.int .i64 bound] 3).alloc (.cells #[.int .i64 0, .int .i64 0] 28)).alloc (.cells #[.slice none 0 0] 25)
  have hF := (Blk.new (w.alloc (.cells #[.int .i64 bound] 3)) #[.int .i64 0, .int .i64 0] 28).alloc (.cells #[.slice none 0 0] 25)
  have hO := Blk.new ((w.alloc (.cells #[.int .i64 bound] 3)).alloc (.cells #[.int .i64 0, .int .i64 0] 28)) #[.slice none 0 0] 25
  rw [show (w.alloc (.cells #[.int .i64 bound] 3)).heap.size = w.heap.size + 1 by simp] at hF
  rw [show ((w.alloc (.cells #[.int .i64 bound] 3)).alloc (.cells #[.int .i64 0, .int .i64 0] 28)).heap.size = w.heap.size + 2 by simp] at hO
  have hb3 : Below w.heap.size w (((w.alloc (.cells #[.int .i64 bound] 3)).alloc (.cells #[.int .i64 0, .int .i64 0] 28)).alloc (.cells #[.slice none 0 0] 25)) := by
    have h2 := below_two w (.cells #[.int .i64 bound] 3) (.cells #[.int .i64 0, .int .i64 0] 28)
    exact h2.alloc h2.size _
  have hz3 := hz.below hb3
  have hsz : (((w.alloc (.cells #[.int .i64 bound] 3)).alloc (.cells #[.int .i64 0, .int .i64 0] 28)).alloc (.cells #[.slice none 0 0] 25)).heap.size = w.heap.size + 3 := by simp
  have hv := visit_byte a n m (w.heap.size + 2) w.heap.size z bound R _ hz3 hm hn hby hO hX (fun h A hA e => by have := hz.lt h A hA; omega) hR0 hRs hRl
  have HSH : Hid (∀ y q, exv z bound = (y, 0, q) → q = 0) := Lib.hid (fun y q h => by
    unfold exv at h
    split at h
    · injection h with _ h; injection h with _ h; exact h.symm
    · rename_i h1; injection h with _ h; injection h with h _; exact absurd h h1)
  clear hz hz3 hby hR0 hRs hRl
  generalize exv z bound = g at *
  go_enter Try.func13, Try.ntmps13
  go_wp2_with fail
  generalize (((w.alloc (.cells #[.int .i64 bound] 3)).alloc (.cells #[.int .i64 0, .int .i64 0] 28)).alloc (.cells #[.slice none 0 0] 25)) = w1 at *
  refine hv.mono ?_
  rintro e w2 ⟨v, y, c, q, rfl, ho, hO2, hk, hg⟩
  rw [hsz] at ho
  have hF2 := hF.ks hk (by omega)
  have hbd := Ks.below hb3 (Nat.le_refl _) hk (fun k e => by omega)
  replace ho := ho.base (B' := w.heap.size + 2) (fun g hg => by have := Own.ge ho g hg; omega)
  have hG := Blk.new w2 #[.int .i64 c, .int .i64 q] 28
  have hbG := below_one w2 (.cells #[.int .i64 c, .int .i64 q] 28)
  replace hF2 := hF2.below hbG
  replace hO2 := hO2.below hbG
  replace ho := ho.below hbG
  replace hbd := hbd.trans (hbG.mono hbd.size)
  obtain ⟨x0, x1⟩ := hG.c2
  clear hbG hk hX hF hO hv
  go_wp2_with fail
  refine (fgood_any _ _ _).mono ?_
  rintro e w3 ⟨rfl, hb3⟩
  replace hG := hG.below hb3
  replace hF2 := hF2.below hb3
  replace hO2 := hO2.below hb3
  replace ho := ho.below hb3
  replace hbd := hbd.trans (hb3.mono hbd.size)
  obtain ⟨f0, f1⟩ := hF2.c2
  obtain ⟨g0, g1⟩ := hF2.f2
  have hFl := hF2.lt
  have hGl := hG.lt
  obtain ⟨Av, cv, rfl⟩ := ho.slice
  have o0 := hO2.c1
  clear x0 x1
  obtain ⟨x0, x1⟩ := hG.c2
  clear hb3
  rcases hg with ⟨rfl, rfl, rfl⟩ | ⟨hc, rfl⟩
  · rw [show ((0 : Int) == 0) = true from rfl]
    go_wp2
    go_region
    go_wp2
    refine bodyPost_ret (v := .tuple #[.slice Av y.length cv, .agg #[.int .i64 0, .int .i64 0]]) (by simp [results, Try.results13, go_sem, f0, f1]) rfl ⟨_, rfl, ?_, ?_⟩
    · exact (Own.far (p := ⟨w.heap.size + 1, 1, none⟩) (Own.far (p := ⟨w.heap.size + 1, 0, none⟩) ho (by show w.heap.size + 1 < w.heap.size + 2; omega) _) (by show w.heap.size + 1 < w.heap.size + 2; omega) _).base (fun g hg => by have := Own.ge ho g hg; omega)
    · exact (hbd.drew.setCell (by show w.heap.size ≤ w.heap.size + 1; omega) _).setCell (by show w.heap.size ≤ w.heap.size + 1; omega) _
  · rw [show (c == 0) = false by simpa using hc]
    clear hc
    go_wp2
    go_region
    go_wp2
    refine bodyPost_ret (v := .tuple #[.slice none 0 0, .agg #[.int .i64 c, .int .i64 q]]) (by simp [results, Try.results13, go_sem, f0, f1]) rfl ⟨_, rfl, ?_, ?_⟩
    · exact Own.nil _ _
    · exact (hbd.drew.setCell (by show w.heap.size ≤ w.heap.size + 1; omega) _).setCell (by show w.heap.size ≤ w.heap.size + 1; omega) _
end Go.Proofs.Ytmpbiobbjnhjcaa.Cur

/- What a reader reads, as a value: what is read from a place of bytes on, the place behind it, or the fault. -/
import Derived.Test.YtkedmhopajpkhaaZigE
namespace Go.Proofs.Ytkedmhopajpkhaa.Cur
open Go.RowKit Mem
set_option linter.unusedVariables false

/-- A value and the place behind it; or the fault's code and place. -/
abbrev Rs (α : Type) := α × Int × Int × Int
/-- What a reader does that reads g from place p on, if it has no fault c at q. -/
def St {α : Type} (d : α) (n : Nat) (g : Rs α) (p c q : Int) (v : α) (p' c' q' : Int) : Prop :=
  0 ≤ p' ∧ p' ≤ n ∧ ((c ≠ 0 ∧ v = d ∧ c' = c ∧ q' = q) ∨ (c = 0 ∧ g.2.2.1 = 0 ∧ v = g.1 ∧ p' = g.2.1 ∧ c' = 0 ∧ q' = q) ∨ (c = 0 ∧ g.2.2.1 ≠ 0 ∧ v = d ∧ c' = g.2.2.1 ∧ q' = g.2.2.2))
theorem St.det {α : Type} {d : α} {n : Nat} {g : Rs α} {p c q : Int} {v v2 : α} {p' c' q' p2 c2 q2 : Int} (h : St d n g p c q v p' c' q') (k : St d n g p c q v2 p2 c2 q2) : v = v2 ∧ c' = c2 ∧ q' = q2 ∧ (c' = 0 → p' = p2) := by
  obtain ⟨_, _, h⟩ := h
  obtain ⟨_, _, k⟩ := k
  rcases h with ⟨a0, rfl, rfl, rfl⟩ | ⟨a0, a1, rfl, rfl, rfl, rfl⟩ | ⟨a0, a1, rfl, rfl, rfl⟩ <;>
  rcases k with ⟨b0, rfl, rfl, rfl⟩ | ⟨b0, b1, rfl, rfl, rfl, rfl⟩ | ⟨b0, b1, rfl, rfl, rfl⟩ <;>
  first | exact absurd a0 b0 | exact absurd b0 a0 | exact absurd a1 b1 | exact absurd b1 a1 | exact ⟨rfl, rfl, rfl, fun h => absurd h (by assumption)⟩ | exact ⟨rfl, rfl, rfl, fun _ => rfl⟩
theorem St.place {α : Type} {d : α} {n : Nat} {g : Rs α} {p c q : Int} {v : α} {p' c' q' : Int} (h : St d n g p c q v p' c' q') : 0 ≤ p' ∧ p' ≤ n := ⟨h.1, h.2.1⟩
theorem St.good {α : Type} {d : α} {n : Nat} {g : Rs α} {p c q : Int} {v : α} {p' q' : Int} (h : St d n g p c q v p' 0 q') : c = 0 ∧ g.2.2.1 = 0 ∧ v = g.1 ∧ p' = g.2.1 ∧ q' = q := by
  obtain ⟨_, _, ⟨h0, _, h1, _⟩ | ⟨h0, h1, h2, h3, _, h4⟩ | ⟨_, h0, _, h1, _⟩⟩ := h
  · exact absurd h1.symm h0
  · exact ⟨h0, h1, h2, h3, h4⟩
  · exact absurd h1.symm h0
theorem St.nil {α : Type} {d : α} {n : Nat} {g : Rs α} {p c q : Int} {v : α} {p' c' q' : Int} (h : St d n g p c q v p' c' q') (hc : c' ≠ 0) : v = d := by
  obtain ⟨_, _, ⟨_, h1, _⟩ | ⟨_, _, _, _, h1, _⟩ | ⟨_, _, h1, _⟩⟩ := h
  · exact h1
  · exact absurd h1 hc
  · exact h1
theorem St.bad {α : Type} {d : α} {n : Nat} {g : Rs α} {p c q : Int} {v : α} {p' c' q' : Int} (h : St d n g p c q v p' c' q') (hc : c ≠ 0) : v = d ∧ c' = c ∧ q' = q := by
  obtain ⟨_, _, ⟨_, h1⟩ | ⟨h0, _⟩ | ⟨h0, _⟩⟩ := h
  · exact h1
  · exact absurd h0 hc
  · exact absurd h0 hc
theorem St.stay {α : Type} {d : α} {n : Nat} {g : Rs α} {p c q p' : Int} (h0 : 0 ≤ p') (h1 : p' ≤ n) (hc : c ≠ 0) : St d n g p c q d p' c q := ⟨h0, h1, .inl ⟨hc, rfl, rfl, rfl⟩⟩
theorem St.done {α : Type} {d : α} {n : Nat} {g : Rs α} {p q : Int} {v : α} {p' : Int} (e : g = (v, p', 0, 0)) (h0 : 0 ≤ p') (h1 : p' ≤ n) : St d n g p 0 q v p' 0 q := by
  subst e; exact ⟨h0, h1, .inr (.inl ⟨rfl, rfl, rfl, rfl, rfl, rfl⟩)⟩
theorem St.fault {α : Type} {d x : α} {n : Nat} {g : Rs α} {p q : Int} {p' c' q' y : Int} (e : g = (x, y, c', q')) (hc : c' ≠ 0) (h0 : 0 ≤ p') (h1 : p' ≤ n) : St d n g p 0 q d p' c' q' := by
  subst e; exact ⟨h0, h1, .inr (.inr ⟨rfl, hc, rfl, rfl, rfl⟩)⟩
theorem St.of_done {α : Type} {d : α} {n : Nat} {g : Rs α} {p q : Int} {v : α} {p' c' q' : Int} {u : α} {p2 : Int} (h : St d n g p 0 q v p' c' q') (e : g = (u, p2, 0, 0)) : v = u ∧ p' = p2 ∧ c' = 0 ∧ q' = q := by
  obtain ⟨_, _, ⟨h0, _⟩ | ⟨_, _, h1, h2, h3, h4⟩ | ⟨_, h0, _⟩⟩ := h
  · exact absurd rfl h0
  · rw [e] at h1 h2; exact ⟨h1, h2, h3, h4⟩
  · rw [e] at h0; exact absurd rfl h0
/-- One behind the other. -/
def Rs.bind {α β : Type} (g : Rs α) (d : β) (f : α → Int → Rs β) : Rs β := if g.2.2.1 ≠ 0 then (d, 0, g.2.2.1, g.2.2.2) else f g.1 g.2.1
theorem St.bind {α β : Type} {d1 : α} {d : β} {n : Nat} {g : Rs α} {f : α → Int → Rs β} {p c q : Int} {v : α} {p1 c1 q1 : Int} {u : β} {p2 c2 q2 : Int} (h : St d1 n g p c q v p1 c1 q1) (k : St d n (f v p1) p1 c1 q1 u p2 c2 q2) :
    St d n (g.bind d f) p c q u p2 c2 q2 := by
  obtain ⟨_, _, h⟩ := h
  obtain ⟨k0, k1, k⟩ := k
  refine ⟨k0, k1, ?_⟩
  rcases h with ⟨a0, rfl, rfl, rfl⟩ | ⟨a0, a1, rfl, rfl, rfl, rfl⟩ | ⟨a0, a1, rfl, rfl, rfl⟩
  · rcases k with ⟨b0, rfl, rfl, rfl⟩ | ⟨b0, _⟩ | ⟨b0, _⟩
    · exact .inl ⟨a0, rfl, rfl, rfl⟩
    · exact absurd b0 a0
    · exact absurd b0 a0
  · rcases k with ⟨b0, _⟩ | ⟨b0, b1, rfl, rfl, rfl, rfl⟩ | ⟨b0, b1, rfl, rfl, rfl⟩
    · exact absurd rfl b0
    · refine .inr (.inl ⟨a0, ?_⟩)
      unfold Rs.bind
      rw [if_neg (by simp [a1])]
      exact ⟨b1, rfl, rfl, rfl, rfl⟩
    · refine .inr (.inr ⟨a0, ?_⟩)
      unfold Rs.bind
      rw [if_neg (by simp [a1])]
      exact ⟨b1, rfl, rfl, rfl⟩
  · rcases k with ⟨b0, rfl, rfl, rfl⟩ | ⟨b0, _⟩ | ⟨b0, _⟩
    · refine .inr (.inr ⟨a0, ?_⟩)
      unfold Rs.bind
      rw [if_pos a1]
      exact ⟨a1, rfl, rfl, rfl⟩
    · exact absurd b0 a1
    · exact absurd b0 a1
/-- What is read, turned. -/
def Rs.map {α β : Type} (g : Rs α) (f : α → β) : Rs β := (f g.1, g.2.1, g.2.2.1, g.2.2.2)
theorem St.map {α β : Type} {d : α} {n : Nat} {g : Rs α} (f : α → β) {p c q : Int} {v : α} {p' c' q' : Int} (h : St d n g p c q v p' c' q') : St (f d) n (g.map f) p c q (f v) p' c' q' := by
  obtain ⟨h0, h1, h⟩ := h
  refine ⟨h0, h1, ?_⟩
  rcases h with ⟨a0, rfl, rfl, rfl⟩ | ⟨a0, a1, rfl, rfl, rfl, rfl⟩ | ⟨a0, a1, rfl, rfl, rfl⟩
  · exact .inl ⟨a0, rfl, rfl, rfl⟩
  · exact .inr (.inl ⟨a0, a1, rfl, rfl, rfl, rfl⟩)
  · exact .inr (.inr ⟨a0, a1, rfl, rfl, rfl⟩)
theorem Rs.bind_ok {α β : Type} {g : Rs α} {d : β} {f : α → Int → Rs β} (h : (g.bind d f).2.2.1 = 0) : g.2.2.1 = 0 ∧ g.bind d f = f g.1 g.2.1 := by
  unfold Rs.bind at h ⊢
  split at h
  · rename_i hg; exact absurd h hg
  · rename_i hg; rw [if_neg hg]; exact ⟨by simpa using hg, rfl⟩
theorem Rs.bind_of {α β : Type} {g : Rs α} {d : β} {f : α → Int → Rs β} {v : α} {p' : Int} (h : g = (v, p', 0, 0)) : g.bind d f = f v p' := by
  subst h; unfold Rs.bind; rw [if_neg (by simp)]

/-- A number. -/
def vg (z : List Int) (p : Int) : Rs Int := ((vgo (z.drop p.toNat) 0 0).1, p + (vgo (z.drop p.toNat) 0 0).2.1, (vgo (z.drop p.toNat) 0 0).2.2.1, if (vgo (z.drop p.toNat) 0 0).2.2.1 = 0 then 0 else p + (vgo (z.drop p.toNat) 0 0).2.2.2)
theorem RdSt.st {n : Nat} {z : List Int} {p c q v p' c' q' : Int} (h : RdSt n z p c q v p' c' q') (hz : z.length = n) (h0 : 0 ≤ p) (h1 : p ≤ n) (hby : ∀ x ∈ z, 0 ≤ x ∧ x < 256) : St 0 n (vg z p) p c q v p' c' q' := by
  by_cases hc : c = 0
  · subst hc
    rcases rd_ways h hz h0 h1 hby with ⟨g0, rfl, rfl, rfl, rfl, p1, p2, _⟩ | ⟨g0, rfl, rfl, rfl, p1, p2⟩
    · exact ⟨by omega, by omega, .inr (.inl ⟨rfl, g0, rfl, rfl, rfl, rfl⟩)⟩
    · exact ⟨p1, p2, .inr (.inr ⟨rfl, g0, rfl, rfl, by unfold vg; rw [if_neg g0]⟩)⟩
  · rcases h with ⟨_, rfl, rfl, rfl, rfl⟩ | ⟨h, _⟩
    · exact ⟨h0, h1, .inl ⟨hc, rfl, rfl, rfl⟩⟩
    · exact absurd h hc
/-- A number of at most mo. -/
def vm (z : List Int) (mo p : Int) : Rs Int := if (vg z p).2.2.1 ≠ 0 then (0, 0, (vg z p).2.2.1, (vg z p).2.2.2) else if mo < (vg z p).1 then (0, 0, 2, p) else vg z p
theorem most_st {n : Nat} {z : List Int} {p c q mo v0 p' c0 q0 v c' q' : Int} (h : RdSt n z p c q v0 p' c0 q0) (hz : z.length = n) (h0 : 0 ≤ p) (h1 : p ≤ n) (hby : ∀ x ∈ z, 0 ≤ x ∧ x < 256)
    (hv : (mo < v0 ∧ v = 0 ∧ FailSt c0 q0 2 p c' q') ∨ (v0 ≤ mo ∧ v = v0 ∧ c' = c0 ∧ q' = q0)) : St 0 n (vm z mo p) p c q v p' c' q' := by
  have hs := h.st hz h0 h1 hby
  obtain ⟨k0, k1, k⟩ := hs
  refine ⟨k0, k1, ?_⟩
  rcases k with ⟨a0, rfl, rfl, rfl⟩ | ⟨a0, a1, rfl, rfl, rfl, rfl⟩ | ⟨a0, a1, rfl, rfl, rfl⟩
  · refine .inl ⟨a0, ?_⟩
    rcases hv with ⟨_, rfl, hf⟩ | ⟨_, rfl, rfl, rfl⟩
    · rcases hf with ⟨hf, _⟩ | ⟨_, rfl, rfl⟩
      · exact absurd hf a0
      · exact ⟨rfl, rfl, rfl⟩
    · exact ⟨rfl, rfl, rfl⟩
  · rcases hv with ⟨hm, rfl, hf⟩ | ⟨hm, rfl, rfl, rfl⟩
    · rcases hf with ⟨_, rfl, hq⟩ | ⟨hf, _⟩
      · refine .inr (.inr ⟨a0, ?_⟩)
        unfold vm
        rw [if_neg (by simp [a1]), if_pos hm]
        exact ⟨by show (2 : Int) ≠ 0; decide, rfl, rfl, hq⟩
      · exact absurd rfl hf
    · refine .inr (.inl ⟨a0, ?_⟩)
      unfold vm
      rw [if_neg (by simp [a1]), if_neg (by omega)]
      exact ⟨a1, rfl, rfl, rfl, rfl⟩
  · refine .inr (.inr ⟨a0, ?_⟩)
    unfold vm
    rw [if_pos a1]
    rcases hv with ⟨_, rfl, hf⟩ | ⟨_, rfl, rfl, rfl⟩
    · rcases hf with ⟨hf, _⟩ | ⟨_, rfl, rfl⟩
      · exact absurd hf a1
      · exact ⟨a1, rfl, rfl, rfl⟩
    · exact ⟨a1, rfl, rfl, rfl⟩
theorem MostSt.st {n : Nat} {z : List Int} {p c q mo v p' c' q' : Int} (h : MostSt n z p c q mo v p' c' q') (hz : z.length = n) (h0 : 0 ≤ p) (h1 : p ≤ n) (hby : ∀ x ∈ z, 0 ≤ x ∧ x < 256) : St 0 n (vm z mo p) p c q v p' c' q' := by
  obtain ⟨v0, c0, q0, hr, hv⟩ := h
  exact most_st hr hz h0 h1 hby hv
theorem IntSt.st {n : Nat} {z : List Int} {p c q mo v p' c' q' : Int} (h : IntSt n z p c q mo v p' c' q') (hz : z.length = n) (h0 : 0 ≤ p) (h1 : p ≤ n) (hby : ∀ x ∈ z, 0 ≤ x ∧ x < 256) : St 0 n (vm z mo p) p c q v p' c' q' := by
  rcases h with ⟨_, h⟩ | ⟨hm, rfl, v0, c0, q0, hr, hf⟩
  · exact h.st hz h0 h1 hby
  · have := hr.nonneg hby
    exact most_st hr hz h0 h1 hby (.inl ⟨by omega, rfl, hf⟩)
theorem vg_bd (z : List Int) (p : Int) (hby : ∀ x ∈ z, 0 ≤ x ∧ x < 256) : 0 ≤ (vg z p).1 := vgo_nonneg _ (fun x hx => hby x (List.mem_of_mem_drop hx)) 0 0 (Int.le_refl _)
theorem vm_ok {z : List Int} {mo p : Int} (h : (vm z mo p).2.2.1 = 0) : (vg z p).2.2.1 = 0 ∧ (vg z p).1 ≤ mo ∧ vm z mo p = vg z p := by
  unfold vm at h ⊢
  split at h
  · rename_i hg; exact absurd h hg
  · rename_i hg
    split at h
    · exact absurd h (by show ¬ (2 : Int) = 0; decide)
    · rename_i hm; rw [if_neg hg, if_neg hm]; exact ⟨by simpa using hg, by omega, rfl⟩
theorem vm_bd {n : Nat} {z : List Int} {mo p c q v p' c' q' : Int} (h : St 0 n (vm z mo p) p c q v p' c' q') (hby : ∀ x ∈ z, 0 ≤ x ∧ x < 256) : 0 ≤ v ∧ (v ≤ mo ∨ v = 0) := by
  obtain ⟨_, _, ⟨_, rfl, _⟩ | ⟨_, h1, rfl, _⟩ | ⟨_, _, rfl, _⟩⟩ := h
  · exact ⟨Int.le_refl _, .inr rfl⟩
  · obtain ⟨_, h2, h3⟩ := vm_ok h1
    rw [h3]
    exact ⟨vg_bd z p hby, .inl h2⟩
  · exact ⟨Int.le_refl _, .inr rfl⟩
/-- So many bytes. -/
def tk (z : List Int) (x p : Int) : Rs (List Int) := if x < 0 then ([], 0, 17, p) else if (z.length : Int) - p < x then ([], 0, 1, z.length) else (piece z p.toNat (p + x).toNat, p + x, 0, 0)
theorem SkipSt.st {n : Nat} {z : List Int} {p c q x : Int} {ok : Bool} {p' c' q' : Int} (h : SkipSt n p c q x ok p' c' q') (hz : z.length = n) (h0 : 0 ≤ p) (h1 : p ≤ n) : St [] n (tk z x p) p c q (if ok = true then piece z p.toNat (p + x).toNat else []) p' c' q' := by
  unfold tk
  rw [hz]
  rcases h with ⟨a0, rfl, rfl, rfl, rfl⟩ | ⟨rfl, a1, rfl, rfl, rfl, rfl⟩ | ⟨rfl, a1, rfl, rfl, rfl, rfl⟩ | ⟨rfl, a1, a2, rfl, rfl, rfl, rfl⟩
  · exact ⟨h0, h1, .inl ⟨a0, rfl, rfl, rfl⟩⟩
  · rw [if_pos a1]; exact ⟨h0, h1, .inr (.inr ⟨rfl, by show (17 : Int) ≠ 0; decide, rfl, rfl, rfl⟩)⟩
  · rw [if_neg (by omega), if_pos a1]; exact ⟨h0, h1, .inr (.inr ⟨rfl, by show (1 : Int) ≠ 0; decide, rfl, rfl, rfl⟩)⟩
  · rw [if_neg (by omega), if_neg (by omega)]; exact ⟨by omega, by omega, .inr (.inl ⟨rfl, rfl, rfl, rfl, rfl, rfl⟩)⟩
/-- A number that is read is put so again, and is below 2^64. -/
theorem vg_once {z : List Int} {p : Int} (hby : ∀ x ∈ z, 0 ≤ x ∧ x < 256) (h0 : 0 ≤ p) (h1 : p ≤ z.length) (h : (vg z p).2.2.1 = 0) :
    vz (vg z p).1 = piece z p.toNat (vg z p).2.1.toNat ∧ 0 ≤ (vg z p).1 ∧ (vg z p).1 < 18446744073709551616 ∧ p + 1 ≤ (vg z p).2.1 ∧ (vg z p).2.1 ≤ z.length := by
  obtain ⟨y, j, hj1, hj2, hj, hy, hy0, hy1, hvz, _⟩ := vgo_once (z.drop p.toNat) 0 0 (fun x hx => hby x (List.mem_of_mem_drop hx)) (by omega) h
  rw [Int.pow_zero, Int.mul_one, Int.zero_add] at hy
  rw [Int.pow_zero, Int.mul_one] at hy1
  rw [List.length_drop] at hj2
  have e1 : (vg z p).1 = y := hy
  have e2 : (vg z p).2.1 = p + j := by show p + _ = _; rw [hj]; omega
  rw [e1, e2]
  refine ⟨?_, hy0, by omega, by omega, by omega⟩
  rw [hvz]; unfold piece; congr 1; omega
/-- A number that is put is read. -/
theorem vg_put {z rest pre : List Int} {x : Int} (hz : z = pre ++ vz x ++ rest) (x0 : 0 ≤ x) (x1 : x < 18446744073709551616) : vg z pre.length = (x, ((pre.length + vsz x : Nat) : Int), 0, 0) := by
  have : z.drop (pre.length : Int).toNat = vz x ++ rest := by rw [hz, Int.toNat_natCast, List.append_assoc, List.drop_append, List.drop_length, Nat.sub_self]; simp
  unfold vg
  rw [this, vgo_put x rest x0 x1]
  simp
theorem vm_put {z rest pre : List Int} {x mo : Int} (hz : z = pre ++ vz x ++ rest) (x0 : 0 ≤ x) (x1 : x < 18446744073709551616) (hm : x ≤ mo) : vm z mo pre.length = (x, ((pre.length + vsz x : Nat) : Int), 0, 0) := by
  unfold vm
  rw [vg_put hz x0 x1, if_neg (by simp), if_neg (by show ¬ mo < x; omega)]
theorem tk_put {z rest pre y : List Int} (hz : z = pre ++ y ++ rest) : tk z y.length pre.length = (y, ((pre.length + y.length : Nat) : Int), 0, 0) := by
  unfold tk
  have hl : z.length = pre.length + y.length + rest.length := by rw [hz]; simp; omega
  rw [if_neg (by omega), if_neg (by omega)]
  have : piece z (pre.length : Int).toNat ((pre.length : Int) + y.length).toNat = y := by
    unfold piece
    rw [Int.toNat_natCast, show ((pre.length : Int) + y.length).toNat = pre.length + y.length by omega, Nat.add_sub_cancel_left, hz, List.append_assoc, List.drop_append, List.drop_length, Nat.sub_self]
    simp
  rw [this]
  simp
theorem tk_once {z : List Int} {x p : Int} (h0 : 0 ≤ p) (h1 : p ≤ z.length) (h : (tk z x p).2.2.1 = 0) : 0 ≤ x ∧ x ≤ z.length - p ∧ tk z x p = (piece z p.toNat (p + x).toNat, p + x, 0, 0) := by
  unfold tk at h ⊢
  split at h
  · exact absurd h (by show ¬ (17 : Int) = 0; decide)
  · rename_i hx
    split at h
    · exact absurd h (by show ¬ (1 : Int) = 0; decide)
    · rename_i hy; rw [if_neg hx, if_neg hy]; exact ⟨by omega, by omega, rfl⟩
end Go.Proofs.Ytkedmhopajpkhaa.Cur

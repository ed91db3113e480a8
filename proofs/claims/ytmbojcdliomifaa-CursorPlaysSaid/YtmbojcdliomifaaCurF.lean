/- Bytes that are appended to a row of the call's own; Take where there are enough bytes. -/
import Derived.Test.YtmbojcdliomifaaCurE
import Derived.Maps.AppendAt
import Derived.Laws.AppendOwnNone
namespace Go.Proofs.Ytmbojcdliomifaa.Cur
open Go.RowKit
set_option linter.unusedVariables false

/-- The slice value v is a row of the call's own, from block B on: the bytes z. -/
def Own (w : World) (B : Nat) (v : Value) (z : List Int) : Prop := w.ownsRow B 5 1 v z.length (z.map (Value.int .u8))

theorem Own.nil (w : World) (B : Nat) : Own w B (.slice none 0 0) [] := World.ownsRow_nil w B 5 1
theorem Own.block {w w' : World} {B : Nat} {v : Value} {z : List Int} (h : Own w B v z) (hb : ∀ k, v.ownBlock = some k → w'.heap[k]? = w.heap[k]?) : Own w' B v z := by
  obtain ⟨h1, h2⟩ := h
  refine ⟨h1, ?_⟩
  rcases h2 with h2 | ⟨g, cap, cur, rfl, hg, hh, r⟩
  · exact .inl h2
  · exact .inr ⟨g, cap, cur, rfl, hg, (hb g rfl).trans hh, r⟩
theorem Own.below {w w' : World} {B : Nat} {v : Value} {z : List Int} (h : Own w B v z) (hb : Below w.heap.size w w') : Own w' B v z :=
  h.block fun k hk => hb.block k (World.ownsRow.lt h k hk).2
theorem Own.ne_rd {w : World} {B b : Nat} {v s : Value} {z : List Int} {p c q : Int} (h : Own w B v z) (hr : IsRd w b s p c q) : v.ownBlock ≠ some b := by
  rcases h.2 with ⟨rfl, _⟩ | ⟨g, cap, cur, rfl, _, hh, _⟩
  · simp [Value.ownBlock]
  · intro he
    have : g = b := by simpa [Value.ownBlock] using he
    subst this
    unfold IsRd at hr
    rw [hh] at hr
    simp at hr
theorem Own.kp {w w' : World} {B b : Nat} {v s : Value} {z : List Int} {p c q : Int} (h : Own w B v z) (hr : IsRd w b s p c q) (hb : Kp b w w') : Own w' B v z :=
  h.block fun k hk => hb.block k (World.ownsRow.lt h k hk).2 (fun e => h.ne_rd hr (by rw [hk, e]))
theorem Own.bs {w : World} {B n c : Nat} {A : Option Addr} {z : List Int} (h : Own w B (.slice A n c) z) : n = z.length ∧ Bs w A n z := by
  rcases h.2 with ⟨e, h0⟩ | ⟨g, cap, cur, e, _, hh, _⟩
  · injection e with e1 e2 e3
    subst e2
    have hz : z = [] := List.eq_nil_of_length_eq_zero h0
    subst hz
    exact ⟨rfl, rfl, fun h => absurd h (by omega)⟩
  · injection e with e1 e2 e3
    subst e1 e2
    refine ⟨rfl, rfl, fun _ => ⟨g, 0, rfl, fun i x hx => ?_⟩⟩
    have := World.ownsRow.cells h (g := g) rfl i (.int .u8 x) (by rw [List.getElem?_map, hx]; rfl)
    rw [← this]
    congr 1
    unfold Addr.add
    by_cases h0 : i = 0 <;> simp [h0]
theorem Own.slice {w : World} {B : Nat} {v : Value} {z : List Int} (h : Own w B v z) : ∃ A c, v = .slice A z.length c := by
  rcases h.2 with ⟨e, h0⟩ | ⟨g, cap, cur, e, _⟩
  · exact ⟨none, 0, by rw [e, h0]⟩
  · exact ⟨_, cap, e⟩

theorem bs_news {w : World} {ad : Addr} {m : Nat} {z : List Int} (h : Bs w (some ad) m z) : ∀ j u, (z.map (Value.int .u8))[j]? = some u → w.cell? (ad.add j) = some u := by
  intro j u hu
  rw [List.getElem?_map, Option.map_eq_some_iff] at hu
  obtain ⟨x, hx, rfl⟩ := hu
  obtain ⟨k, o, e, hc⟩ := h.2 (by have := (List.getElem?_eq_some_iff.1 hx).1; rw [h.1] at this; omega)
  injection e with e
  subst e
  rw [← hc j x hx]
  congr 1
  unfold Addr.add
  by_cases h0 : j = 0 <;> simp [h0]

theorem run_append_bs (w : World) (ty : TypeId) (B : Nat) (v : Value) (z : List Int) (hown : Own w B v z) (A : Option Addr) (m c : Nat) (news : List Int) (hr : Bs w A m news) (hc : A = none → c = 0)
    (hsz : z.length + m ≤ 1000000) (hB : B ≤ w.heap.size) :
    ∃ v' w', (Builtin.append_ #[22, 22] ty #[v, .slice A m c]).run Try.prog w = .ok v' w' ∧ Own w' B v' (z ++ news) ∧ w.grownBy w' v.ownBlock := by
  obtain ⟨i0, hi, hz0, hz1, hz2⟩ := info_parts info5
  rcases A with _ | ad
  · have hm : m = 0 := by
      rcases Nat.eq_zero_or_pos m with h0 | h0
      · exact h0
      · obtain ⟨_, _, e, _⟩ := hr.2 h0
        cases e
    subst hm
    obtain rfl := hc rfl
    have hn : news = [] := List.eq_nil_of_length_eq_zero hr.1
    subst hn
    exact ⟨v, w, run_append_owned_none (P := Try.prog) (w := w) B 22 ty 5 i0 1 Try.underlying22 hi v _ _ hown, by simpa using hown, ⟨rfl, rfl, rfl, Nat.le_refl _, fun _ _ _ => rfl⟩⟩
  · obtain ⟨v', w', hrun, h2, h3, _, _⟩ := run_append_own_at (P := Try.prog) w B 22 ty 5 i0 (.int .u8 0) 1 1 Try.underlying22 hi hz0 hz1 hz2 rfl (by omega) v z.length (z.map (Value.int .u8)) hown ad m c (news.map (Value.int .u8))
      (by rw [List.length_map, hr.1, Nat.mul_one]) (bs_news hr) (fun u hu => by obtain ⟨x, _, rfl⟩ := List.mem_map.1 hu; rfl) (by simp only [maxLen]; omega) (by omega) hB
    refine ⟨v', w', hrun, ?_, h3⟩
    unfold Own
    rw [List.length_append, List.map_append, hr.1]
    exact h2

theorem oper_append_bs {w : World} {o : Oper} {a : Act} {K : Act → World → Prop} {Q : Exit → Act → World → Prop} (s x : Operand)
    (ho : o.op = .call { callee := .builtin .append, args := #[s, x], argTypes := #[22, 22] })
    (B : Nat) (v : Value) (z : List Int) (hs : a.eval s = v) (hown : Own w B v z) (A : Option Addr) (m c : Nat) (news : List Int) (hx : a.eval x = .slice A m c) (hr : Bs w A m news) (hc : A = none → c = 0)
    (hsz : z.length + m ≤ 1000000) (hB : B ≤ w.heap.size)
    (h : ∀ v' w', Own w' B v' (z ++ news) → w.grownBy w' v.ownBlock → K (a.put o.dst v') w') : o.wp Try.prog a w K Q := by
  obtain ⟨v', w', hrun, h2, h3⟩ := run_append_bs w o.type B v z hown A m c news hr hc hsz hB
  unfold Oper.wp
  simp [execOp, ho, resolve, invoke, builtin, hs, hx, hrun, Result.andThen]
  exact h v' w' h2 h3

theorem list_append_bs {w : World} {ops : Array Oper} {rest : List Oper} {o : Oper} {a : Act} {Q : Exit → Act → World → Prop} (hgd : o.guard = none) (s x : Operand)
    (ho : o.op = .call { callee := .builtin .append, args := #[s, x], argTypes := #[22, 22] })
    (B : Nat) (v : Value) (z : List Int) (hs : a.eval s = v) (hown : Own w B v z) (A : Option Addr) (m c : Nat) (news : List Int) (hx : a.eval x = .slice A m c) (hr : Bs w A m news) (hc : A = none → c = 0)
    (hsz : z.length + m ≤ 1000000) (hB : B ≤ w.heap.size)
    (h : ∀ v' w', Own w' B v' (z ++ news) → w.grownBy w' v.ownBlock → wpList Try.prog ops Q rest (a.put o.dst v') w') : wpList Try.prog ops Q (o :: rest) a w :=
  wpList_plain hgd fun _ hK => oper_append_bs s x ho B v z hs hown A m c news hx hr hc hsz hB fun v' w' h2 h3 => hK _ _ (h v' w' h2 h3)

theorem draw_append_bs {w : World} {ops : Array Oper} {o : Oper} {a : Act} {K : Act → World → Prop} {Q : Exit → Act → World → Prop} {E : Prop} (hgd : o.guard = none) (s x : Operand)
    (ho : o.op = .call { callee := .builtin .append, args := #[s, x], argTypes := #[22, 22] })
    (B : Nat) (v : Value) (z : List Int) (hs : a.eval s = v) (hown : Own w B v z) (A : Option Addr) (m c : Nat) (news : List Int) (hx : a.eval x = .slice A m c) (hr : Bs w A m news) (hc : A = none → c = 0)
    (hsz : z.length + m ≤ 1000000) (hB : B ≤ w.heap.size)
    (h : ∀ v' w', Own w' B v' (z ++ news) → w.grownBy w' v.ownBlock → K (a.put o.dst v') w') :
    if Region.wanted o (yielded ops a.tmps) = true then Oper.wp Try.prog o a w K Q else E := by
  rw [if_pos (by simp [Region.wanted, hgd])]
  exact oper_append_bs s x ho B v z hs hown A m c news hx hr hc hsz hB h

theorem IsRd.grown {w w' : World} {b B : Nat} {s v : Value} {p c q : Int} {z : List Int} (h : IsRd w b s p c q) (hown : Own w B v z) (hg : w.grownBy w' v.ownBlock) : IsRd w' b s p c q :=
  (hg.block b h.lt (fun e => hown.ne_rd h e.symm)).trans h
theorem Own.belowOf {w0 w w' : World} {B : Nat} {v : Value} {z : List Int} (hb : Below B w0 w) (hB : B ≤ w.heap.size) (h : Own w B v z) (hg : w.grownBy w' v.ownBlock) : Below B w0 w' :=
  hb.grown hg hB fun k hk => (World.ownsRow.lt h k hk).1

def TakenPost (b : Nat) (s : Value) (z : List Int) (p q x : Int) (w : World) (e : Ending) (w' : World) : Prop :=
  ∃ g, e = .returned (.slice (some ⟨g, 0, none⟩) x.toNat x.toNat) ∧ w.heap.size ≤ g ∧ Kp b w w' ∧ IsRd w' b s (p + x) 0 q ∧ Bs w' (some ⟨g, 0, none⟩) x.toNat (piece z p.toNat (p + x).toNat)

theorem take_yes (b : Nat) (a : Option Addr) (n m : Nat) (z : List Int) (p q x : Int) (w : World) (h : IsRd w b (.slice a n m) p 0 q) (hz : Bs w a n z) (h0 : 0 ≤ p) (hm : n ≤ m) (hn : n ≤ 300) (hx0 : 0 ≤ x) (hx1 : x ≤ n - p) :
    Calls Try.prog 14 #[.pointer (some ⟨b, 0, none⟩), .int .i64 x] w (TakenPost b (.slice a n m) z p q x w) := by
  refine (take_any _ _ _ _ _ _ _ _ _ _ h hz h0 (by omega) hm hn).mono ?_
  rintro e w2 ⟨ok, p', c', q', hk, hr2, hs, ht⟩
  obtain ⟨rfl, rfl, rfl, rfl⟩ := skip_yes hs hx0 hx1
  rcases ht with ⟨_, g, rfl, hg, hrow⟩ | ⟨h, _⟩
  · refine ⟨g, rfl, hg, hk, hr2, ?_⟩
    have := Bs.of_block hrow
    rw [length_piece hz.1 (by omega)] at this
    rw [show x.toNat = (p + x).toNat - p.toNat by omega]
    exact this
  · cases h
end Go.Proofs.Ytmbojcdliomifaa.Cur

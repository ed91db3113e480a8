/- As the seat's text, without what nothing here names. -/
import Derived.Test.YtoemmppoejaapaaPekAf
import Derived.Test.YtoemmppoejaapaaPekMf
import Derived.Maps.OwnOps
import Derived.Maps.OwnSet
import Derived.Maps.Views
import Derived.WalkArith
namespace Go.Proofs.Ytoemmppoejaapaa.Cur
open Go.RowKit Mem Go.Maps
set_option linter.unusedVariables false
set_option maxRecDepth 100000
def valR (v : Value) : Option (DataW Value × List MemPlace) := some (.held v, [])
abbrev MapV (w : World) (b n : Nat) (D : DataW Value) : Prop := w.ownsMap Try.prog 22 valR b n D
theorem keyed64 : Maps.Keyed Try.prog 22 := Maps.int_keyed Try.underlying22
theorem key64 {s : Int} (h0 : 0 ≤ s) (h1 : s < 18446744073709551616) : keyOf Try.prog 22 (.int .u64 s) = some (.int .u64 s) := Maps.keyOf_int_mk Try.underlying22 (by first | exact WalkArith.wf_u64 (by omega) | go_wf)
structure MV (D : DataW Value) (f : Int → Option Value) : Prop where
  tidy : Maps.Tidy D
  no : ∀ s, f s = none → Maps.has D (.int .u64 s) = false
  yes : ∀ s v, f s = some v → Maps.has D (.int .u64 s) = true ∧ ∀ zd, D.atKey (.int .u64 s) zd = .held v
theorem MV.nil : MV (.map []) (fun _ => none) := ⟨Maps.tidy_empty, fun _ _ => rfl, fun s v h => by cases h⟩
theorem MV.put {D : DataW Value} {f : Int → Option Value} (h : MV D f) (s : Int) (v : Value) : MV (D.put (.int .u64 s) (.held v)) (fun t => if t = s then some v else f t) := by
  have kl : WideAt.IsKeyLit (.int .u64 s) := trivial
  refine ⟨h.tidy.put kl _, fun t ht => ?_, fun t u ht => ?_⟩
  · skip
    by_cases e : t = s
    · rw [if_pos e] at ht; cases ht
    · rw [if_neg e] at ht
      rw [Maps.has_put_other (fun hc => e (by injection hc))]
      exact h.no t ht
  · skip
    by_cases e : t = s
    · rw [if_pos e] at ht
      injection ht with ht
      subst e ht
      exact ⟨Maps.has_put_same h.tidy.isMap kl _, fun zd => Maps.atKey_put_same h.tidy.isMap kl _ _⟩
    · rw [if_neg e] at ht
      have hne : Lit.int .u64 t ≠ Lit.int .u64 s := fun hc => e (by injection hc)
      rw [Maps.has_put_other hne]
      exact ⟨(h.yes t u ht).1, fun zd => (Maps.atKey_put_other hne _ _).trans ((h.yes t u ht).2 zd)⟩
theorem valR_inv {v u : Value} {ps : List MemPlace} (h : valR v = some (.held u, ps)) : v = u := by
  unfold valR at h
  injection h with h
  injection h with h _
  injection h
abbrev zlk : Value := lkagg 0 none 0 0
theorem zlk_is (w : World) : (zeroValue 51).run Try.prog w = .ok zlk w := by kernel_rfl
theorem MapV.look {w : World} {b n : Nat} {D : DataW Value} {f : Int → Option Value} (h : MapV w b n D) (hf : MV D f) {s : Int} (h0 : 0 ≤ s) (h1 : s < 18446744073709551616) :
    (Instr.lookup 61 (.map (some b)) (.int .u64 s) false).run Try.prog w = .ok ((f s).getD zlk) w := by
  obtain ⟨v, ps, hrun, hv⟩ := World.ownsMap.lookup h keyed64 Try.underlying61 (zlk_is w) (show valR zlk = some (.held zlk, []) from rfl) (key64 h0 h1)
  rw [hrun]
  rcases hfs : f s with _ | u
  · rw [Maps.atKey_of_not_has (hf.no s hfs)] at hv
    rw [valR_inv hv]; rfl
  · rw [(hf.yes s u hfs).2] at hv
    rw [valR_inv hv]; rfl
theorem MapV.upd {w : World} {b n : Nat} {D : DataW Value} {f : Int → Option Value} (h : MapV w b n D) (hf : MV D f) (hn : n < maxLen) {s : Int} (h0 : 0 ≤ s) (h1 : s < 18446744073709551616) (v : Value) :
    ∃ w', (Instr.mapUpdate 61 (.map (some b)) (.int .u64 s) v).run Try.prog w = .ok () w' ∧ MapV w' b (n + 1) (D.put (.int .u64 s) (.held v)) ∧ MV (D.put (.int .u64 s) (.held v)) (fun t => if t = s then some v else f t) ∧ w.grownBy w' (some b) := by
  obtain ⟨w', h2, h3, h4⟩ := World.ownsMap.update h keyed64 Try.underlying61 hn (key64 h0 h1) (show valR v = some (.held v, []) from rfl)
  exact ⟨w', h2, h3, hf.put s v, h4⟩
theorem MapV.block {w w' : World} {b a : Nat} {D : DataW Value} (h : MapV w b a D) (hb : w'.heap[b]? = w.heap[b]?) : MapV w' b a D := by
  obtain ⟨es, clock, h0, h1⟩ := h
  exact ⟨es, clock, hb.trans h0, h1⟩
theorem MapV.below {w w' : World} {b a : Nat} {D : DataW Value} (h : MapV w b a D) (hb : Below w.heap.size w w') : MapV w' b a D := h.block (hb.block b (World.ownsMap.lt h))
theorem MapV.ne_blk {w : World} {b a c t : Nat} {D : DataW Value} {cs : Array Value} (h : MapV w b a D) (hc : Blk w c cs t) : c ≠ b := by
  obtain ⟨es, clock, h0, _⟩ := h
  intro e
  subst e
  have := (show w.heap[c]? = _ from hc).symm.trans h0
  cases this
end Go.Proofs.Ytoemmppoejaapaa.Cur

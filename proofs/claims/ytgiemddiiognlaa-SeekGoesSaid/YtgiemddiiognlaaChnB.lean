/- Chains in memory: the word for it; how many places and keys it has; the nearest place ahead. -/
import Derived.Test.YtgiemddiiognlaaChnA
import Derived.Test.YtgiemddiiognlaaK1
namespace Go.Proofs.Ytgiemddiiognlaa.Cur
open Go.RowKit Mem
set_option linter.unusedVariables false
set_option maxRecDepth 100000

abbrev gv (l : List Int) : List Value := l.map (Value.int .i64)
def OwnG (w : World) (B : Nat) (v : Value) (l : List Int) : Prop := w.ownsRow B 3 1 v l.length (gv l)
theorem OwnG.slice {w : World} {B : Nat} {v : Value} {l : List Int} (h : OwnG w B v l) : ∃ A c, v = .slice A l.length c := by
  obtain ⟨A, c, e, _⟩ := own_slice h
  exact ⟨A, c, e⟩
theorem rw_newg (w : World) (xs : List Value) (t : Nat) : Rw (w.alloc (.cells xs.toArray t)) (some ⟨w.heap.size, 0, none⟩) xs := fun _ =>
  ⟨_, _, rfl, fun i v hi => by
    rw [Nat.zero_add]
    exact (Blk.new w xs.toArray t).cell i (by simpa using hi)⟩
theorem own_geg {w : World} {B e size n : Nat} {v : Value} {xs : List Value} (h : w.ownsRow B e size v n xs) : ∀ g, v.ownBlock = some g → B ≤ g := fun g hg => (World.ownsRow.lt h g hg).1
theorem own_ltg {w : World} {B e size n : Nat} {v : Value} {xs : List Value} (h : w.ownsRow B e size v n xs) : ∀ g, v.ownBlock = some g → g < w.heap.size := fun g hg => (World.ownsRow.lt h g hg).2
theorem own_apart {w : World} {B B' e e' size size' n n' : Nat} {v v' : Value} {xs xs' : List Value} (h : w.ownsRow B e size v n xs) (h' : w.ownsRow B' e' size' v' n' xs') (ht : e ≠ e') {g : Nat} (hg : v.ownBlock = some g) : v'.ownBlock ≠ some g := by
  rcases h.2 with ⟨rfl, _⟩ | ⟨g1, cap, cur, rfl, _, hh, _⟩
  · cases hg
  rcases h'.2 with ⟨rfl, _⟩ | ⟨g2, cap2, cur2, rfl, _, hh2, _⟩
  · intro h; cases h
  intro he
  have e1 : g1 = g := by simpa [Value.ownBlock] using hg
  have e2 : g2 = g := by simpa [Value.ownBlock] using he
  subst e1
  subst e2
  rw [hh2] at hh
  injection hh with hh
  injection hh with _ hh
  exact ht hh.symm

/-! ### The map -/
abbrev MapOf (w : World) (b a : Nat) (D : DataW Unit) : Prop := w.ownsMap Try.prog 55 (plainElem Try.prog 3) b a D
theorem keyed32 : Maps.Keyed Try.prog 55 := Maps.int_keyed Try.underlying55
theorem MapOf.block {w w' : World} {b a : Nat} {D : DataW Unit} (h : MapOf w b a D) (hb : w'.heap[b]? = w.heap[b]?) : MapOf w' b a D := by
  obtain ⟨es, clock, h0, h1⟩ := h
  exact ⟨es, clock, hb.trans h0, h1⟩
theorem MapOf.below {w w' : World} {b a : Nat} {D : DataW Unit} (h : MapOf w b a D) (hb : Below w.heap.size w w') : MapOf w' b a D := h.block (hb.block b (World.ownsMap.lt h))
theorem MapOf.ne_blk {w : World} {b a c t : Nat} {D : DataW Unit} {cs : Array Value} (h : MapOf w b a D) (hc : Blk w c cs t) : c ≠ b := by
  obtain ⟨es, clock, h0, _⟩ := h
  intro e
  subst e
  have := (show w.heap[c]? = _ from hc).symm.trans h0
  cases this
theorem MapOf.ne_own {w : World} {b a : Nat} {D : DataW Unit} (h : MapOf w b a D) {B e size n : Nat} {v : Value} {xs : List Value} (ho : w.ownsRow B e size v n xs) : v.ownBlock ≠ some b := by
  obtain ⟨es, clock, h0, _⟩ := h
  rcases ho.2 with ⟨rfl, _⟩ | ⟨g1, cap, cur, rfl, _, hh, _⟩
  · intro h; cases h
  · intro he
    have e1 : g1 = b := by simpa [Value.ownBlock] using he
    subst e1
    rw [hh] at h0
    cases h0

/-! ### The chain -/
/-- The blocks that a chain writes. -/
def CS (c mb : Nat) (r : Option Nat) : Nat → Prop := fun k => k = c ∨ k = mb ∨ r = some k
/-- A chain at block c, of the call's own from block B on: bytes z, of which the first a places were added. -/
def Chn (w : World) (B c mb : Nat) (r : Option Nat) (A : Option Addr) (n m : Nat) (z : List Int) (a : Nat) : Prop :=
  ∃ v D, v.ownBlock = r ∧ Blk w c #[.slice A n m, .map (some mb), v] 54 ∧ Own w B (.slice A n m) z ∧ OwnG w B v (pvl z a) ∧ MapOf w mb a D ∧ MapIs z a D ∧ a ≤ n ∧ B ≤ c ∧ B ≤ mb
theorem Chn.le {w : World} {B c mb : Nat} {r : Option Nat} {A : Option Addr} {n m : Nat} {z : List Int} {a : Nat} (h : Chn w B c mb r A n m z a) : a ≤ n := by
  obtain ⟨v, D, _, _, _, _, _, _, h, _⟩ := h
  exact h
theorem Chn.bs {w : World} {B c mb : Nat} {r : Option Nat} {A : Option Addr} {n m : Nat} {z : List Int} {a : Nat} (h : Chn w B c mb r A n m z a) : Bs w A n z ∧ n ≤ m := by
  obtain ⟨v, D, _, _, h, _⟩ := h
  exact ⟨h.bs.2, h.cap⟩
theorem Chn.lt {w : World} {B c mb : Nat} {r : Option Nat} {A : Option Addr} {n m : Nat} {z : List Int} {a : Nat} (h : Chn w B c mb r A n m z a) : c < w.heap.size := by
  obtain ⟨v, D, _, h, _⟩ := h
  exact h.lt
theorem Chn.below {w w' : World} {B c mb : Nat} {r : Option Nat} {A : Option Addr} {n m : Nat} {z : List Int} {a : Nat} (h : Chn w B c mb r A n m z a) (hb : Below w.heap.size w w') : Chn w' B c mb r A n m z a := by
  obtain ⟨v, D, h1, h2, h3, h4, h5, h6⟩ := h
  exact ⟨v, D, h1, h2.below hb, own_below h3 hb, own_below h4 hb, h5.below hb, h6⟩
theorem Chn.drewN {w : World} {B c mb : Nat} {r : Option Nat} {A : Option Addr} {n m : Nat} {z : List Int} {a : Nat} (h : Chn w B c mb r A n m z a) (k : Nat) : Chn (w.drewN k) B c mb r A n m z a := h.below (below_drewN (Below.refl _ _) k)
theorem Chn.ge {w : World} {B c mb : Nat} {r : Option Nat} {A : Option Addr} {n m : Nat} {z : List Int} {a : Nat} (h : Chn w B c mb r A n m z a) : ∀ k, CS c mb r k → B ≤ k := by
  obtain ⟨v, D, rfl, h2, h3, h4, h5, h6, h7, h8, h9⟩ := h
  rintro k (rfl | rfl | e)
  · exact h8
  · exact h9
  · exact own_geg h4 k e
/-- What writes none of its blocks leaves it. -/
theorem Chn.ks {w w' : World} {S : Nat → Prop} {B c mb : Nat} {r : Option Nat} {A : Option Addr} {n m : Nat} {z : List Int} {a : Nat} (h : Chn w B c mb r A n m z a) (hk : Ks S w w') (hS : ∀ k, S k → ¬ CS c mb r k ∧ (Value.slice A n m).ownBlock ≠ some k) : Chn w' B c mb r A n m z a := by
  obtain ⟨v, D, rfl, h2, h3, h4, h5, h6⟩ := h
  refine ⟨v, D, rfl, h2.ks hk (fun e => (hS _ e).1 (.inl rfl)), own_ks h3 hk (fun g hg e => (hS _ e).2 hg), own_ks h4 hk (fun g hg e => (hS _ e).1 (.inr (.inr hg))), h5.block ?_, h6⟩
  exact hk.block mb (World.ownsMap.lt h5) (fun e => (hS _ e).1 (.inr (.inl rfl)))
/-- The parts that are read. -/
theorem Chn.cells {w : World} {B c mb : Nat} {r : Option Nat} {A : Option Addr} {n m : Nat} {z : List Int} {a : Nat} (h : Chn w B c mb r A n m z a) :
    ∃ Av cv, w.cell? ⟨c, 0, none⟩ = some (.slice A n m) ∧ w.cell? ⟨c, 1, none⟩ = some (.map (some mb)) ∧ w.cell? ⟨c, 2, none⟩ = some (.slice Av a cv) ∧ (∀ i, i < a → ∃ g o, Av = some ⟨g, o, none⟩ ∧ w.cell? ⟨g, o + i, none⟩ = some (.int .i64 (nh (nrs z i i)))) := by
  obtain ⟨v, D, h1, h2, h3, h4, h5, h6⟩ := h
  obtain ⟨Av, cv, rfl⟩ := h4.slice
  obtain ⟨c0, c1, c2⟩ := h2.c3
  rw [pvl_len] at c2 h4
  refine ⟨Av, cv, c0, c1, c2, fun i hi => ?_⟩
  obtain ⟨_, _, _, hr⟩ := own_rw h4 rfl
  obtain ⟨g, o, e, hc⟩ := hr (by simp [pvl_len]; omega)
  exact ⟨g, o, e, hc i _ (by rw [List.getElem?_map, pvl_get z hi]; rfl)⟩

theorem chadded_any {w : World} {B c mb : Nat} {r : Option Nat} {A : Option Addr} {n m : Nat} {z : List Int} {a : Nat} (h : Chn w B c mb r A n m z a) :
    Calls Try.prog 28 #[.pointer (some ⟨c, 0, none⟩)] w fun e w' => e = .returned (.int .i64 a) ∧ w = w' := by
  obtain ⟨Av, cv, c0, c1, c2, _⟩ := h.cells
  clear h
  go_enter Try.func28, Try.ntmps28
  go_wp2
  go_ret
  exact ⟨rfl, rfl⟩
theorem chadded_none (w : World) : Calls Try.prog 28 #[.pointer none] w fun e w' => e = .returned (.int .i64 0) ∧ w = w' := by
  go_enter Try.func28, Try.ntmps28
  go_wp2
  go_ret
  exact ⟨rfl, rfl⟩
/-- The nearest place ahead with the same key. -/
def NearestPost (z : List Int) (a : Nat) (i : Int) (w : World) (e : Ending) (w' : World) : Prop := e = .returned (.int .i64 (nh (nrs z a i))) ∧ ∃ k, w' = w.drewN k
set_option maxHeartbeats 1000000 in
theorem chnearest_any {w : World} {B c mb : Nat} {r : Option Nat} {A : Option Addr} {n m : Nat} {z : List Int} {a : Nat} (i : Int) (h : Chn w B c mb r A n m z a) (hby : ∀ x ∈ z, 0 ≤ x ∧ x < 256) (hn : n ≤ 100000) :
    Calls Try.prog 26 #[.pointer (some ⟨c, 0, none⟩), .int .i64 i] w (NearestPost z a i w) := by
  unfold NearestPost
  obtain ⟨Av, cv, c0, c1, c2, hc⟩ := h.cells
  have hB := h.bs
  by_cases h1 : 0 ≤ i ∧ i < a
  · obtain ⟨k, rfl⟩ : ∃ k : Nat, i = k := ⟨i.toNat, by omega⟩
    have hka : k < a := by omega
    obtain ⟨g, o, rfl, hv⟩ := hc k hka
    rw [← nrs_own (z := z) (a := a) (Nat.le_of_lt hka)] at hv
    have hA := fun w' (hw : w = w') => chadded_any (h.below (hw ▸ Below.refl _ _ : Below w.heap.size w w'))
    generalize nh (nrs z a k) = x at *
    clear hc h hB h1
    go_enter Try.func26, Try.ntmps26
    go_wp2_with fail
    refine (hA _ rfl).mono ?_
    rintro e w1 ⟨rfl, rfl⟩
    clear hA
    go_wp2_with fail
    go_ret
    exact ⟨rfl, 0, rfl⟩
  · have hA := fun w' (hw : w = w') => chadded_any (h.below (hw ▸ Below.refl _ _ : Below w.heap.size w w'))
    have hK := fun w' (hw : w = w') => ckey_any (w := w') (A := A) (n := n) (m := m) (z := z) i (hw ▸ hB.1) hby hB.2 (by omega)
    have hzl := hB.1.1
    have hla := h.le
    obtain ⟨v, D, _, _, _, _, hm, hD, _⟩ := h
    unfold KeyPost at hK
    cases hh : hk z i
    · rw [hh] at hK
      have e0 : nrs z a i = [] := nrs_no hh
      rw [e0]
      clear e0 hh hm hD hc hby hB hzl
      by_cases hi : 0 ≤ i
      · have hia : (a : Int) ≤ i := by omega
        clear h1
        go_enter Try.func26, Try.ntmps26
        go_wp2_with fail
        refine (hA _ rfl).mono ?_
        rintro e w1 ⟨rfl, rfl⟩
        clear hA
        go_wp2_with fail
        refine (hK _ rfl).mono ?_
        rintro e w1 ⟨rfl, k1, rfl⟩
        clear hK
        go_wp2
        go_ret
        exact ⟨rfl, k1, rfl⟩
      · clear h1 hA
        go_enter Try.func26, Try.ntmps26
        go_wp2_with fail
        refine (hK _ rfl).mono ?_
        rintro e w1 ⟨rfl, k1, rfl⟩
        clear hK
        go_wp2
        go_ret
        exact ⟨rfl, k1, rfl⟩
    · rw [hh] at hK
      obtain ⟨k, rfl, hkz⟩ := hk_pos hh
      have hka : a ≤ k := by omega
      rw [nrs_yes hkz, Nat.min_eq_right hka]
      rw [if_pos rfl, Int.toNat_natCast] at hK
      have hbd := ky_bd hby k
      have hN := hD.none_ (ky z k)
      have hS := hD.some_ (ky z k)
      generalize ky z k = x at *
      have hkey : keyOf Try.prog 55 (.int .u32 x) = some (.int .u32 x) := Maps.keyOf_int_mk Try.underlying55 (by first | go_wf | exact WalkArith.wf_u32 (by omega))
      have hai : (a : Int) ≤ k := by omega
      clear h1 hc hby hB hh hkz hka hD
      cases hp : pls z x a with
      | nil =>
        have hhas := hN hp
        clear hN hS hp
        go_enter Try.func26, Try.ntmps26
        go_wp2_with fail
        refine (hA _ rfl).mono ?_
        rintro e w1 ⟨rfl, rfl⟩
        clear hA
        go_wp2_with fail
        refine (hK _ rfl).mono ?_
        rintro e w1 ⟨rfl, k1, rfl⟩
        clear hK
        go_wp2_with (at_lookup; refine wpList_lookup_own_ok_int _ rfl _ _ 51 rfl 55 3 .i64 keyed32 Try.underlying51 Try.underlying3 (by kernel_rfl) mb a D rfl (show MapOf _ mb a D from hm) _ _ rfl hkey ?_; intro cc hat hwc; clear hat)
        go_ret
        exact ⟨rfl, k1, rfl⟩
      | cons p l =>
        obtain ⟨hhas, hat0⟩ := hS p l hp
        have HAT := Lib.hid hat0
        clear hN hS hp hat0
        go_enter Try.func26, Try.ntmps26
        go_wp2_with fail
        refine (hA _ rfl).mono ?_
        rintro e w1 ⟨rfl, rfl⟩
        clear hA
        go_wp2_with fail
        refine (hK _ rfl).mono ?_
        rintro e w1 ⟨rfl, k1, rfl⟩
        clear hK
        go_wp2_with (at_lookup; refine wpList_lookup_own_ok_int _ rfl _ _ 51 rfl 55 3 .i64 keyed32 Try.underlying51 Try.underlying3 (by kernel_rfl) mb a D rfl (show MapOf _ mb a D from hm) _ _ rfl hkey ?_; intro cc hat hwc; obtain rfl : cc = (p : Int) := (by have := (HAT.out _).symm.trans hat; injection this with this; injection this with _ this; exact this.symm); clear hat hwc)
        go_ret
        exact ⟨rfl, k1, rfl⟩
theorem chnearest_none (i : Int) (w : World) (hi : i < 0 ∨ 0 ≤ i) : Calls Try.prog 26 #[.pointer none, .int .i64 i] w fun e w' => e = .returned (.int .i64 (-1)) ∧ w = w' := by
  rcases hi with hi | hi
  · go_enter Try.func26, Try.ntmps26
    go_wp2
    go_ret
    exact ⟨rfl, rfl⟩
  · go_enter Try.func26, Try.ntmps26
    go_wp2_with fail
    refine (chadded_none _).mono ?_
    rintro e w1 ⟨rfl, rfl⟩
    go_wp2
    go_ret
    exact ⟨rfl, rfl⟩
end Go.Proofs.Ytgiemddiiognlaa.Cur

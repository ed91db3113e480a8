/- Projections copied. -/
import Derived.Test.YtghlediibhnloaaPrjA
import Derived.Test.YtghlediibhnloaaStpQ
namespace Go.Proofs.Ytghlediibhnloaa.Cur
open Go.RowKit Mem
set_option linter.unusedVariables false
set_option maxRecDepth 100000


theorem kindST : Kind 23 60 (.agg #[.int .u64 0, .int .u64 0, .slice none 0 0]) 3 40 := ⟨Try.underlying23, by kernel_rfl, rfl, by decide⟩
def RawPost3 (n : Nat) (xs : List Value) (w : World) (en : Ending) (w' : World) : Prop := ∃ v, en = .returned v ∧ w'.ownsRow w.heap.size 60 3 v n xs ∧ Below w.heap.size w w'
set_option maxHeartbeats 1000000 in
theorem clonep_any (A : Option Addr) (n c : Nat) (xs : List Value) (w : World) (hl : xs.length = n * 3) (hr : Rw w A xs) (h1 : ∀ u ∈ xs, u.oneCell' = true) (hnil : A = none → c = 0) (hn : n ≤ 1000000) :
    Calls Try.prog 47 #[.slice A n c] w (RawPost3 n xs w) := by
  have q0 : ∀ (w : World) (a : Option Addr) (n c : Nat), (binOp .eql 23 (.slice a n c) (.slice none 0 0)).run Try.prog w = .ok (.bool a.isNone) w := fun w a n c => Lib.run_eql_slice_nil w _ _ a n c 0 0 Try.underlying23
  have hown0 := own_empty w 60 3
  have hge := own_ge hown0
  have hbA := below_one w (.cells #[] 60)
  have hrA := hr.below hbA
  rcases A with _ | ad
  · have hn0 : n = 0 := by
      rcases Nat.eq_zero_or_pos n with h0 | h0
      · exact h0
      · obtain ⟨_, _, e, _⟩ := hr (by rw [hl]; omega)
        cases e
    subst hn0
    have hxs : xs = [] := List.eq_nil_of_length_eq_zero (by omega)
    subst hxs
    go_enter Try.func47, Try.ntmps47
    go_wp2
    go_ret
    exact ⟨_, rfl, World.ownsRow_nil w _ _ _, Below.refl _ _⟩
  · have HB : Hid (w.heap.size ≤ (w.alloc (.cells #[] 60)).heap.size) := Lib.hid hbA.size
    go_enter Try.func47, Try.ntmps47
    go_wp2_with (at_builtin; go_must (refine list_append_rw kindST rfl (.tmp 5) (.tmp 6) rfl w.heap.size _ 0 [] rfl hown0 _ n c xs rfl hl hrA (by simp) h1 (by rw [Nat.zero_add]; exact hn) (by omega) HB.out ?_; intro v' w' ho' hg' hgr'; have H1 : Hid (w'.ownsRow w.heap.size 60 3 v' n xs) := Lib.hid (by rw [Nat.zero_add, List.nil_append] at ho'; exact ho'); have H2 : Hid (Below w.heap.size w w') := Lib.hid (hbA.grown hg' HB.out (fun k e => hge k e)); clear ho' hg' hgr' hrA hown0 hbA))
    go_ret
    exact ⟨_, rfl, H1.out, H2.out⟩

/-- Three cells set, one behind the other. -/
theorem get3 (cur : Array Value) (p : Nat) (a b c : Value) (hp : p + 3 ≤ cur.size) (x : Nat) : (((cur.set! p a).set! (p + 1) b).set! (p + 2) c)[x]? = if x = p + 2 then some c else if x = p + 1 then some b else if x = p then some a else cur[x]? := by
  simp only [Array.set!_eq_setIfInBounds, Array.getElem?_setIfInBounds, Array.size_setIfInBounds]
  by_cases h1 : x = p + 2
  · subst h1; rw [if_pos rfl, if_pos (by omega), if_pos rfl]
  · rw [if_neg (fun e => h1 e.symm), if_neg h1]
    by_cases h2 : x = p + 1
    · subst h2; rw [if_pos rfl, if_pos (by omega), if_pos rfl]
    · rw [if_neg (fun e => h2 e.symm), if_neg h2]
      by_cases h3 : x = p
      · subst h3; rw [if_pos rfl, if_pos (by omega), if_pos rfl]
      · rw [if_neg (fun e => h3 e.symm), if_neg h3]
theorem StE.mk {w : World} {P : Nat → Prop} {f t : Int} {A : Option Addr} {l m : Nat} {S : List (List Int)} (hf : 0 ≤ f ∧ f < 18446744073709551616) (ht : 0 ≤ t ∧ t < 18446744073709551616) (hl : S.length = l) (hm : l ≤ m) (hn : A = none → m = 0) (h : Sts w P A l S) :
    StE.R w P [.int .u64 f, .int .u64 t, .slice A l m] (f, t, S) :=
  ⟨[_], [_, _], rfl, ⟨rfl, hf.1, hf.2⟩, [_], [_], rfl, ⟨rfl, ht.1, ht.2⟩, A, m, by rw [hl], by rw [hl]; exact hm, hn, h.2⟩
/-- Whatever cells stand for the stripes. -/
theorem pts_of_cells {w : World} {P : Nat → Prop} {g n : Nat} {L : List Stp} (hl : L.length = n) (hg : P g) (h : ∀ i, i < n → ∃ a b c, (w.cell? ⟨g, i * 3, none⟩ = some a ∧ w.cell? ⟨g, i * 3 + 1, none⟩ = some b ∧ w.cell? ⟨g, i * 3 + 2, none⟩ = some c) ∧ StE.R w P [a, b, c] (L.getD i stp0)) : Pts w P (some ⟨g, 0, none⟩) n L := by
  obtain ⟨cs, xs, l1, l2, hp⟩ := pick_n (p := fun i c x => x = L.getD i stp0 ∧ ∃ u v z, c = [u, v, z] ∧ (w.cell? ⟨g, i * 3, none⟩ = some u ∧ w.cell? ⟨g, i * 3 + 1, none⟩ = some v ∧ w.cell? ⟨g, i * 3 + 2, none⟩ = some z) ∧ StE.R w P [u, v, z] (L.getD i stp0)) n fun i hi => by
    obtain ⟨a, b, c, h1, h2⟩ := h i hi
    exact ⟨[a, b, c], _, rfl, a, b, c, rfl, h1, h2⟩
  have hxs : xs = L := by
    apply List.ext_getElem (by omega)
    intro i h1 h2
    have := (hp i (cs[i]'(by omega)) xs[i] (List.getElem?_eq_getElem _) (List.getElem?_eq_getElem _)).1
    rw [this, List.getD_eq_getElem?_getD, List.getElem?_eq_getElem h2]; rfl
  subst hxs
  refine ⟨hl, cs, Ch.of (by omega) fun i c x hc hx => ?_, fun hpos => ⟨g, 0, rfl, hg, fun i v hv => ?_⟩⟩
  · obtain ⟨e, a, b, d, rfl, _, hR⟩ := hp i c x hc hx
    rw [e]; exact hR
  · have hlen : ∀ c ∈ cs, c.length = 3 := fun c hcm => by
      obtain ⟨i, hi, e⟩ := List.mem_iff_getElem.1 hcm
      obtain ⟨_, a, b, d, e2, _⟩ := hp i c _ (by rw [List.getElem?_eq_getElem hi, e]) (List.getElem?_eq_getElem (by omega))
      rw [e2]; rfl
    obtain ⟨i', j, c, e, hj, hci, hcv⟩ := flat_at hlen i v hv
    have hi' := (List.getElem?_eq_some_iff.1 hci).1
    obtain ⟨_, a, b, d, rfl, ⟨h1, h2, h3⟩, _⟩ := hp i' c _ hci (List.getElem?_eq_getElem (by omega))
    rw [Nat.zero_add, e]
    rcases j with _ | _ | _ | j
    · simp at hcv; subst hcv; exact h1
    · simp at hcv; subst hcv; exact h2
    · simp at hcv; subst hcv; exact h3
    · omega

/-- The first k of n stripes are copies, the others are as they were. -/
def CpP (w : World) (B g n k : Nat) (L : List Stp) (old : List Value) (cur : Array Value) : Prop :=
  Blk w g cur 60 ∧ n * 3 ≤ cur.size ∧ (∀ i, i < k → ∃ a b c, (cur[i * 3]? = some a ∧ cur[i * 3 + 1]? = some b ∧ cur[i * 3 + 2]? = some c) ∧ StE.R w (fun b => B ≤ b ∧ b ≠ g) [a, b, c] (L.getD i stp0)) ∧ ∀ i v, k * 3 ≤ i → old[i]? = some v → cur[i]? = some v
theorem CpP.below {w w' : World} {B g n k : Nat} {L : List Stp} {old : List Value} {cur : Array Value} (h : CpP w B g n k L old cur) (hb : Below w.heap.size w w') : CpP w' B g n k L old cur := by
  obtain ⟨h1, h2, h3, h4⟩ := h
  refine ⟨h1.below hb, h2, fun i hi => ?_, h4⟩
  obtain ⟨a, b, c, hv, hR⟩ := h3 i hi
  exact ⟨a, b, c, hv, StE.keep hR fun b _ hl => hb.block b hl⟩
theorem CpP.ks {S0 : Nat → Prop} {w w' : World} {B g n k : Nat} {L : List Stp} {old : List Value} {cur : Array Value} (h : CpP w B g n k L old cur) (hk : Ks S0 w w') (h0 : ∀ b, S0 b → b < B) (hg : B ≤ g) : CpP w' B g n k L old cur := by
  obtain ⟨h1, h2, h3, h4⟩ := h
  refine ⟨h1.ks hk (fun hs => by have := h0 g hs; omega), h2, fun i hi => ?_, h4⟩
  obtain ⟨a, b, c, hv, hR⟩ := h3 i hi
  exact ⟨a, b, c, hv, StE.keep hR fun b hb hl => hk.block b hl fun hs => by have := h0 b hs; omega⟩
/-- One more is copied. -/
theorem CpP.next {w : World} {B g n k : Nat} {L : List Stp} {old : List Value} {cur : Array Value} {a b c : Value} (h : CpP w B g n k L old cur) (hk : k < n) (hv : StE.R w (fun b => B ≤ b ∧ b ≠ g) [a, b, c] (L.getD k stp0)) :
    CpP (((w.setCell ⟨g, k * 3, none⟩ a).setCell ⟨g, k * 3 + 1, none⟩ b).setCell ⟨g, k * 3 + 2, none⟩ c) B g n (k + 1) L old (((cur.set! (k * 3) a).set! (k * 3 + 1) b).set! (k * 3 + 2) c) := by
  obtain ⟨h1, h2, h3, h4⟩ := h
  have hkp : ∀ b', b' ≠ g → (((w.setCell ⟨g, k * 3, none⟩ a).setCell ⟨g, k * 3 + 1, none⟩ b).setCell ⟨g, k * 3 + 2, none⟩ c).heap[b']? = w.heap[b']? := fun b' hb' => by
    rw [Below.heap_setCell _ _ _ _ hb', Below.heap_setCell _ _ _ _ hb', Below.heap_setCell _ _ _ _ hb']
  have hg3 := get3 cur (k * 3) a b c (by omega)
  refine ⟨((h1.set (k * 3) a).set (k * 3 + 1) b).set (k * 3 + 2) c, by simpa using h2, fun i hi => ?_, fun i u hi hu => ?_⟩
  · rcases Nat.lt_or_ge i k with h5 | h5
    · obtain ⟨a', b', c', ⟨q1, q2, q3⟩, hR⟩ := h3 i h5
      refine ⟨a', b', c', ⟨?_, ?_, ?_⟩, StE.keep hR fun b hb hl => hkp b hb.2⟩
      · rw [hg3, if_neg (by omega), if_neg (by omega), if_neg (by omega)]; exact q1
      · rw [hg3, if_neg (by omega), if_neg (by omega), if_neg (by omega)]; exact q2
      · rw [hg3, if_neg (by omega), if_neg (by omega), if_neg (by omega)]; exact q3
    · obtain rfl : i = k := by omega
      refine ⟨a, b, c, ⟨?_, ?_, ?_⟩, StE.keep hv fun b hb hl => hkp b hb.2⟩
      · rw [hg3, if_neg (by omega), if_neg (by omega), if_pos rfl]
      · rw [hg3, if_neg (by omega), if_pos rfl]
      · rw [hg3, if_pos rfl]
  · rw [hg3, if_neg (by omega), if_neg (by omega), if_neg (by omega)]
    exact h4 i u (by omega) hu
theorem CpP.pts {w : World} {B g n : Nat} {L : List Stp} {old : List Value} {cur : Array Value} (h : CpP w B g n n L old cur) (hg : B ≤ g) (hl : L.length = n) : Pts w (fun b => B ≤ b) (some ⟨g, 0, none⟩) n L := by
  obtain ⟨h1, h2, h3, h4⟩ := h
  refine pts_of_cells hl hg fun i hi => ?_
  obtain ⟨a, b, c, ⟨q1, q2, q3⟩, hR⟩ := h3 i hi
  exact ⟨a, b, c, ⟨h1.cell _ q1, h1.cell _ q2, h1.cell _ q3⟩, StE.mono hR fun b hb _ => hb.1⟩
/-- The copies are a row of the call's own. -/
theorem own_of_cpp {w w' : World} {B B' g n cap : Nat} {L : List Stp} {old : List Value} {cur : Array Value} (h : CpP w B g n n L old cur) (hl : L.length = n) (hcap : n ≤ cap) (hmx : cap ≤ maxLen) (hsz : cur.size = cap * 3) (hg : B ≤ g) (hB : B' ≤ B)
    (hk : ∀ b, B ≤ b → b < w.heap.size → w'.heap[b]? = w.heap[b]?) : OwnQ StE 60 w' B' (fun k => B' ≤ k ∧ (Value.slice (some ⟨g, 0, none⟩) n cap).ownBlock ≠ some k) (.slice (some ⟨g, 0, none⟩) n cap) L := by
  obtain ⟨h1, h2, h3, _⟩ := h
  obtain ⟨cs, xs, l1, l2, hp⟩ := pick_n (p := fun i c x => x = L.getD i stp0 ∧ ∃ u v z, c = [u, v, z] ∧ (cur[i * 3]? = some u ∧ cur[i * 3 + 1]? = some v ∧ cur[i * 3 + 2]? = some z) ∧ StE.R w (fun b => B ≤ b ∧ b ≠ g) [u, v, z] (L.getD i stp0)) n fun i hi => by
    obtain ⟨a, b, c, h1, h2⟩ := h3 i hi
    exact ⟨[a, b, c], _, rfl, a, b, c, rfl, h1, h2⟩
  have hxs : xs = L := by
    apply List.ext_getElem (by omega)
    intro i h1 h2
    have := (hp i (cs[i]'(by omega)) xs[i] (List.getElem?_eq_getElem _) (List.getElem?_eq_getElem _)).1
    rw [this, List.getD_eq_getElem?_getD, List.getElem?_eq_getElem h2]; rfl
  subst hxs
  have hch : Ch StE w' (fun k => B' ≤ k ∧ (Value.slice (some ⟨g, 0, none⟩) n cap).ownBlock ≠ some k) cs xs := Ch.of (by omega) fun i c x hc hx => by
    obtain ⟨e, a, b, d, rfl, _, hR⟩ := hp i c x hc hx
    rw [e]
    exact StE.mono (StE.keep hR fun b hb hlt => hk b hb.1 hlt) fun b hb _ => ⟨by omega, fun e => hb.2 (by injection e with e; exact e.symm)⟩
  have hfl : cs.flatten.length = n * 3 := by rw [hch.flat, l2]; rfl
  refine ⟨cs, hch, ⟨by rw [hfl, l2]; rfl, .inr ⟨g, cap, cur, by rw [l2], by omega, (hk g hg h1.lt).trans h1, by rw [l2]; exact hcap, hmx, hsz, ?_⟩⟩, fun g' hg' hh => hh.2 hg'⟩
  have hlen : ∀ c ∈ cs, c.length = 3 := fun c hcm => by
    obtain ⟨i, hi, e⟩ := List.mem_iff_getElem.1 hcm
    obtain ⟨_, a, b, d, e2, _⟩ := hp i c _ (by rw [List.getElem?_eq_getElem hi, e]) (List.getElem?_eq_getElem (by omega))
    rw [e2]; rfl
  rw [l2]
  show List.take (n * 3) cur.toList = cs.flatten
  apply List.ext_getElem?
  intro j
  by_cases hj : j < n * 3
  · have hv := List.getElem?_eq_getElem (l := cs.flatten) (by rw [hfl]; exact hj : j < cs.flatten.length)
    obtain ⟨i', jj, c, e, hjj, hci, hcv⟩ := flat_at hlen j _ hv
    have hi' := (List.getElem?_eq_some_iff.1 hci).1
    obtain ⟨_, a, b, d, rfl, ⟨q1, q2, q3⟩, _⟩ := hp i' c _ hci (List.getElem?_eq_getElem (by omega))
    rw [hv, List.getElem?_take_of_lt hj, Array.getElem?_toList]
    generalize cs.flatten[j] = v at hcv
    subst e
    rcases jj with _ | _ | _ | jj
    · simp at hcv; subst hcv; exact q1
    · simp at hcv; subst hcv; exact q2
    · simp at hcv; subst hcv; exact q3
    · omega
  · rw [List.getElem?_eq_none (by rw [List.length_take]; omega), List.getElem?_eq_none (by rw [hfl]; omega)]
end Go.Proofs.Ytghlediibhnloaa.Cur

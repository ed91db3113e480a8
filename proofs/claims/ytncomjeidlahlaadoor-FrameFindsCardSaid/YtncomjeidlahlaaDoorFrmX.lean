/- Frames that are looked for: all of them, one behind the other (Scan). -/
import Derived.Test.YtncomjeidlahlaaDoorK9
namespace Go.Proofs.YtncomjeidlahlaaDoor.Cur
open Go.RowKit Mem CrcM
set_option linter.unusedVariables false
set_option maxRecDepth 100000


theorem kindI : Kind 61 3 (.int .i64 0) 1 8 := ⟨Tryd.underlying61, by kernel_rfl, rfl, by decide⟩
abbrev iv (l : List Int) : List Value := l.map (Value.int .i64)

/-- A frame has at least four bytes, and lies in the bytes. -/
theorem fas_bd {z : List Int} {lim : Int} (hby : ∀ x ∈ z, 0 ≤ x ∧ x < 256) (h : fao z lim = true) : ∃ s : Nat, fas z lim = s ∧ 4 ≤ s ∧ s ≤ z.length := by
  have h0 : (fr z lim 0).2.2.1 = 0 := of_decide_eq_true h
  have g0 : (vm z lim 0).2.2.1 = 0 := Classical.byContradiction fun hc => fr_novm hc h0
  obtain ⟨l, u, e, _, _, _⟩ := vm_nat hby g0
  have hl : u + l + 4 ≤ z.length := Classical.byContradiction fun hc => fr_short e (by omega) h0
  have hf := fa_long e hl
  by_cases hs : lev (piece z (u + l) (u + l + 4)) = ((sm (piece z u (u + l)) : Nat) : Int)
  · exact ⟨u + l + 4, by rw [(hf.1 hs).2]; push_cast; rfl, by omega, hl⟩
  · rw [(hf.2 hs).1] at h; cases h
theorem nxo_fao {z : List Int} {lim : Int} {q : Nat} : ∀ (k p : Nat), nxo z lim k p = some q → fao (z.drop q) lim = true
  | 0, p, h => by cases h
  | k + 1, p, h => by
    unfold nxo at h
    split at h
    · rename_i hf; cases h; exact hf
    · exact nxo_fao k (p + 1) h
theorem nx_fao {z : List Int} {lim : Int} {p q : Nat} (h : nx z lim p = some q) : fao (z.drop q) lim = true := nxo_fao _ _ h
theorem nx_bd {z : List Int} {lim : Int} {p q : Nat} (hby : ∀ x ∈ z, 0 ≤ x ∧ x < 256) (h : nx z lim p = some q) : ∃ s : Nat, fas (z.drop q) lim = s ∧ 4 ≤ s ∧ q + s ≤ z.length := by
  obtain ⟨s, e, h1, h2⟩ := fas_bd (fun x hx => hby x (List.mem_of_mem_drop hx)) (nx_fao h)
  have := nx_lt h
  rw [List.length_drop] at h2
  exact ⟨s, e, h1, by omega⟩

/-- From p one comes by these positions to p'. -/
def Pth (z : List Int) (lim : Int) : Nat → List Int → Nat → Prop
  | p, [], p' => p' = p
  | p, x :: L, p' => ∃ q s : Nat, nx z lim p = some q ∧ x = q ∧ fas (z.drop q) lim = s ∧ Pth z lim (q + s) L p'
theorem Pth.snoc {z : List Int} {lim : Int} {L : List Int} : ∀ {p p' q s : Nat}, Pth z lim p L p' → nx z lim p' = some q → fas (z.drop q) lim = s → Pth z lim p (L ++ [(q : Int)]) (q + s) := by
  induction L with
  | nil => intro p p' q s h h1 h2; cases h; exact ⟨q, s, h1, rfl, h2, rfl⟩
  | cons x L ih =>
    intro p p' q s h h1 h2
    obtain ⟨q1, s1, a, b, c, d⟩ := h
    exact ⟨q1, s1, a, b, c, ih d h1 h2⟩
theorem Pth.len {z : List Int} {lim : Int} (hby : ∀ x ∈ z, 0 ≤ x ∧ x < 256) {L : List Int} : ∀ {p p' : Nat}, Pth z lim p L p' → 4 * L.length + p ≤ p' ∧ (p ≤ z.length → p' ≤ z.length) := by
  induction L with
  | nil => intro p p' h; cases h; exact ⟨by simp, fun h => h⟩
  | cons x L ih =>
    intro p p' h
    obtain ⟨q, s, h1, rfl, h2, h3⟩ := h
    obtain ⟨s', e, h4, h5⟩ := nx_bd hby h1
    rw [e] at h2
    obtain rfl : s' = s := by omega
    have := ih h3
    have := nx_lt h1
    simp only [List.length_cons]
    omega

theorem own_ne_own {w : World} {B B' e e' size size' n n' : Nat} {v v' : Value} {xs xs' : List Value} (h : w.ownsRow B e size v n xs) (h' : w.ownsRow B' e' size' v' n' xs') (ht : e ≠ e') {g : Nat} (hg : v.ownBlock = some g) : v'.ownBlock ≠ some g := by
  rcases h.2 with ⟨rfl, _⟩ | ⟨g1, cap, cur, rfl, _, hh, _⟩
  · cases hg
  rcases h'.2 with ⟨rfl, _⟩ | ⟨g2, cap2, cur2, rfl, _, hh2, _⟩
  · intro h; cases h
  intro he
  have e1 : g1 = g := by simpa [Value.ownBlock] using hg
  have e2 : g2 = g := by simpa [Value.ownBlock] using he
  subst e1
  subst e2
  rw [hh2] at hh
  injection hh with hh
  injection hh with _ hh
  exact ht hh.symm
/-- The row of positions is none of the search's blocks. -/
theorem Sr.apart {w : World} {B B' sb n : Nat} {r : Option Nat} {s v : Value} {lim : Int} {z : List Int} {k : Nat} {xs : List Value} (h : Sr w B sb r s lim z k) (ho : w.ownsRow B' 3 1 v n xs) : ∀ g, v.ownBlock = some g → ¬ WS sb r g := by
  obtain ⟨u, rfl, hb, hu, _⟩ := h
  rintro g hg (rfl | e)
  · exact own_ne_blk ho hb (by decide) hg
  · exact own_ne_own ho hu (by decide) hg e

/-- What the loop holds. -/
def XRel (z : List Int) (lim : Int) (n : Nat) (w : World) (sb : Nat) (s : Value) (v6 v7 v8 v9 : Value) (wr : World) : Prop :=
  ∃ (acc : List Int) (p : Nat) (r : Option Nat) (k : Nat), wr.ownsRow w.heap.size 3 1 v6 acc.length (iv acc) ∧ Below w.heap.size w wr ∧ Sr wr w.heap.size sb r s lim z k ∧ k ≤ n + 1 ∧ Hid (Pth z lim 0 acc p) ∧
    ((∃ q sz : Nat, v7 = .int .i64 q ∧ v8 = .int .i64 sz ∧ v9 = .bool true ∧ 4 ≤ sz ∧ q + sz ≤ n ∧ acc.length ≤ q ∧ Hid (nx z lim p = some q ∧ fas (z.drop q) lim = sz)) ∨ (v9 = .bool false ∧ Hid (nx z lim p = none)))
/-- What Scan gives. -/
def SPost (z : List Int) (lim : Int) (w : World) (e : Ending) (w' : World) : Prop :=
  ∃ v L p, e = .returned v ∧ w'.ownsRow w.heap.size 3 1 v L.length (iv L) ∧ Below w.heap.size w w' ∧ Pth z lim 0 L p ∧ nx z lim p = none
def xm (n : Nat) (v7 v9 : Value) : Nat := match v9 with
  | .bool true => n + 1 - (intOf v7).toNat
  | _ => 0
/-- What the next one leaves. -/
theorem XRel.next {z : List Int} {lim : Int} {n : Nat} {w wr : World} {sb : Nat} {s v6 : Value} {acc : List Int} {p : Nat} {r : Option Nat} {k : Nat} (hby : ∀ x ∈ z, 0 ≤ x ∧ x < 256) (hn : z.length = n) (ho : wr.ownsRow w.heap.size 3 1 v6 acc.length (iv acc)) (hb : Below w.heap.size w wr)
    (hs : Sr wr w.heap.size sb r s lim z k) (hk : k ≤ n + 1) (hp : Pth z lim 0 acc p) : ∃ a b c, nv z lim p = .tuple #[a, b, c] ∧ XRel z lim n w sb s v6 a b c wr ∧ ((∃ q : Nat, a = .int .i64 q ∧ p ≤ q ∧ c = .bool true) ∨ c = .bool false) := by
  cases h : nx z lim p with
  | none => exact ⟨_, _, _, by unfold nv; rw [h], ⟨acc, p, r, k, ho, hb, hs, hk, Lib.hid hp, .inr ⟨rfl, Lib.hid h⟩⟩, .inr rfl⟩
  | some q =>
    obtain ⟨sz, e, h4, h5⟩ := nx_bd hby h
    have hl := (Pth.len hby hp).1
    have hq := (nx_lt h).1
    exact ⟨.int .i64 q, .int .i64 sz, .bool true, by unfold nv; rw [h]; simp only [e], ⟨acc, p, r, k, ho, hb, hs, hk, Lib.hid hp, .inl ⟨q, sz, rfl, rfl, rfl, h4, by omega, by omega, Lib.hid ⟨h, e⟩⟩⟩, .inl ⟨q, rfl, hq, rfl⟩⟩

set_option maxHeartbeats 4000000 in
theorem fscan_any {w : World} {A : Option Addr} {n m : Nat} {z : List Int} (mo : Int) (hz : Bs w A n z) (hby : ∀ x ∈ z, 0 ≤ x ∧ x < 256) (hT : Tbs w) (hm : n ≤ m) (hn : n ≤ 100000) :
    Calls Tryd.prog 31 #[.slice A n m, .int .i64 mo] w (SPost z (min mo 2097152) w) := by
  have HBY := Lib.hid hby
  have HT := Lib.hid hT
  have HZ := Lib.hid hz
  have HZL := Lib.hid hz.1
  have hli := fun w => limited_any mo w
  have HL : Hid (min mo 2097152 ≤ 2097152) := Lib.hid (by omega)
  generalize min mo 2097152 = lim at *
  clear hby hT hz
  have hX := Blk.new w #[.slice A n m, .int .i64 lim, .slice none 0 0] 93
  have hA := below_one w (.cells #[.slice A n m, .int .i64 lim, .slice none 0 0] 93)
  go_enter Tryd.func31, Tryd.ntmps31
  go_wp2_with fail
  refine (hli _).mono ?_
  rintro e w' ⟨rfl, rfl⟩
  have hsr := Sr.new (w := w) (B := w.heap.size) z hX (Nat.le_refl _)
  have hc := snext_any 0 hsr hA HZ.out HBY.out HT.out (Nat.zero_le _) hm (Nat.zero_le _) hn HL.out
  rw [show ((0 : Nat) : Int) = 0 from rfl] at hc
  have HGE := Lib.hid hsr.ge
  have HA := Lib.hid hA
  clear hX hsr hA
  go_wp2_with fail
  with_reducible refine hc.mono ?_
  rintro e w1 ⟨r1, k1, rfl, hk1, hg1, hs1, hl1⟩
  have hb1 := hk1.below HA.out (Nat.le_refl _) HGE.out
  obtain ⟨a, b, c, hnv, hx, _⟩ := XRel.next (w := w) (v6 := .slice none 0 0) (acc := []) HBY.out HZL.out ⟨by simp, .inl ⟨rfl, rfl⟩⟩ hb1 hs1 hl1 rfl
  rw [hnv]
  have HX := Lib.hid hx
  clear hc hk1 hg1 hs1 hb1 hnv hx HGE HA hli hl1
  generalize hsb : w.heap.size = sb at HX ⊢
  go_wp2
  go_loopw [6, 7, 8, 9] (fun v6 v7 v8 v9 wr => XRel z lim n w sb (.slice A n m) v6 v7 v8 v9 wr) (fun _ v7 _ v9 _ => xm n v7 v9)
  case atStart => exact HX.out
  case round =>
    obtain ⟨acc, p, r, k, ho, hb, hs, hk, HP, ⟨q, sz, rfl, rfl, rfl, h4, h5, h6, HQ⟩ | ⟨rfl, HQ⟩⟩ := hrel
    · have hap := hs.apart ho
      obtain ⟨A1, cap1, rfl, _⟩ := own_slice ho
      have hA := below_one wr (.cells #[.int .i64 q] 3)
      have hoA := own_below ho hA
      have hsA := hs.below hA
      have hbA := hb.trans (hA.mono hb.size)
      have hrwA := rw_new wr [.int .i64 q] 3
      have HLEN : Hid (acc.length + 1 ≤ 1000000) := Lib.hid (by omega)
      have HAP := Lib.hid hap
      have HSA := Lib.hid hsA
      have HBA := Lib.hid hbA
      have HOA := Lib.hid hoA
      have HK := Lib.hid hk
      have hB9 := hbA.size
      clear hs ho hb hA hap hsA hbA HX hk
      go_wp2_with (at_builtin; go_must (refine list_append_rw kindI rfl (.tmp 28) (.tmp 30) rfl w.heap.size _ _ _ rfl HOA.out _ 1 _ [.int .i64 q] rfl rfl hrwA (by simp) (by simp [Value.oneCell']) HLEN.out (by omega) hB9 ?_; intro v' w10 ho' hg' hgr'; have hs10 := HSA.out.ks (Ks.of_grown (S := fun i => (Value.slice A1 acc.length cap1).ownBlock = some i) hg' (fun k hk => hk)) (fun i hi => HAP.out i hi); have hb10 := (Ks.of_grown (S := fun i => (Value.slice A1 acc.length cap1).ownBlock = some i) hg' (fun k hk => hk)).below HBA.out (Nat.le_refl _) (fun k hk => (World.ownsRow.lt HOA.out k hk).1); have HO' := Lib.hid ho'; have HS10 := Lib.hid hs10; have HB10 := Lib.hid hb10; clear ho' hg' hgr' hs10 hb10 hrwA hB9))
      have hc := snext_any (q + sz) HS10.out HB10.out HZ.out HBY.out HT.out h5 hm HK.out hn HL.out
      rw [Int.natCast_add] at hc
      with_reducible refine hc.mono ?_
      rintro e w11 ⟨r2, k2, rfl, hk2, hg2, hs2, hl2⟩
      have hb11 := hk2.below HB10.out (Nat.le_refl _) HS10.out.ge
      have ho11 := own_ks HO'.out hk2 (HS10.out.apart HO'.out)
      have ho12 : w11.ownsRow w.heap.size 3 1 v' (acc ++ [(q : Int)]).length (iv (acc ++ [(q : Int)])) := by
        rw [List.length_append]; unfold iv; rw [List.map_append]; exact ho11
      obtain ⟨a2, b2, c2, hnv, hx, hcase⟩ := XRel.next HBY.out HZL.out ho12 hb11 hs2 hl2 (Pth.snoc HP.out HQ.out.1 HQ.out.2)
      rw [hnv]
      have HX2 := Lib.hid hx
      have HM : Hid (xm n a2 c2 < n + 1 - q) := Lib.hid (by
        rcases hcase with ⟨q2, rfl, hq2, rfl⟩ | rfl
        · show n + 1 - (intOf (.int .i64 (q2 : Int))).toNat < _
          simp [intOf]; omega
        · show 0 < _
          omega)
      clear hc hk2 hg2 hs2 hl2 hb11 ho11 ho12 hnv hx hcase
      go_wp2
      go_roundw
      case rel => exact HX2.out
      case measure =>
        have := HM.out
        show xm n a2 c2 < n + 1 - (intOf (.int .i64 (q : Int))).toNat
        simpa [intOf] using this
    · have HO := Lib.hid ho
      have HB := Lib.hid hb
      clear ho hb hs hk HX
      go_wp2
      go_ret
      exact ⟨_, acc, p, rfl, HO.out, HB.out, HP.out, HQ.out⟩
end Go.Proofs.YtncomjeidlahlaaDoor.Cur

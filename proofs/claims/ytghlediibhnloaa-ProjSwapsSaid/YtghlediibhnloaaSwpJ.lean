/- A node in the place of another one: one set by the document. -/
import Derived.Test.YtghlediibhnloaaSwpI
import Derived.Test.YtghlediibhnloaaStpE
namespace Go.Proofs.Ytghlediibhnloaa.Cur
open Go.RowKit Mem
set_option linter.unusedVariables false
set_option maxRecDepth 100000


def pks (o d : Int) (z : List Int) (k : Nat) : List Int := (z.take k).foldl (fun out x => ins (ren o d x) out) []
theorem pks_succ {o d : Int} {z : List Int} {k : Nat} (hk : k < z.length) : pks o d z (k + 1) = ins (ren o d (z.getD k 0)) (pks o d z k) := by
  unfold pks
  rw [← take_snoc (d := 0) hk, List.foldl_append]; rfl
theorem pks_len (o d : Int) (z : List Int) {k : Nat} (hk : k ≤ z.length) : (pks o d z k).length = k := by
  unfold pks
  rw [(fold_ins (o := o) (d := d) (z.take k) []).length_eq]
  simp; omega
theorem ins_at {x : Int} : ∀ {l : List Int} {j : Nat}, j ≤ l.length → (∀ i, i < j → l.getD i 0 < x) → (j = l.length ∨ ¬ l.getD j 0 < x) → ins x l = l.take j ++ x :: l.drop j
  | [], j, hj, _, _ => by
    have : j = 0 := by simpa using hj
    subst this; rfl
  | y :: l, 0, _, _, h => by
    rcases h with h | h
    · simp at h
    · have hy : ¬ y < x := by simpa using h
      unfold ins
      rw [List.takeWhile_cons_of_neg (by simpa using hy), List.dropWhile_cons_of_neg (by simpa using hy)]; rfl
  | y :: l, j + 1, hj, h1, h2 => by
    have hy : y < x := by simpa using h1 0 (by omega)
    have ih := ins_at (x := x) (l := l) (j := j) (by simpa using hj) (fun i hi => by simpa using h1 (i + 1) (by omega)) (by
      rcases h2 with h2 | h2
      · left; simpa using h2
      · right; simpa using h2)
    unfold ins at ih ⊢
    rw [List.takeWhile_cons_of_pos (by simpa using hy), List.dropWhile_cons_of_pos (by simpa using hy), List.cons_append, ih]; rfl
theorem Us.take {w : World} {A : Option Addr} {n : Nat} {z : List Int} (h : Us w A n z) {j : Nat} (hj : j ≤ n) : Us w A j (z.take j) := by
  refine ⟨by rw [List.length_take, h.1]; omega, fun hn => ?_⟩
  obtain ⟨g, o, e, hc⟩ := h.2 (by rw [List.length_map, List.length_take] at hn; rw [List.length_map]; omega)
  refine ⟨g, o, e, fun i v hv => hc i v ?_⟩
  rw [show uv (z.take j) = (uv z).take j from List.map_take, List.getElem?_take] at hv
  split at hv
  · exact hv
  · cases hv
theorem Us.drop {w : World} {g n : Nat} {z : List Int} (h : Us w (some ⟨g, 0, none⟩) n z) {j : Nat} (hj : j ≤ n) : Us w (some ⟨g, j, none⟩) (n - j) (z.drop j) := by
  refine ⟨by rw [List.length_drop, h.1], fun hn => ?_⟩
  obtain ⟨g', o, e, hc⟩ := h.2 (by rw [List.length_map, List.length_drop] at hn; rw [List.length_map]; omega)
  injection e with e
  injection e with e1 e2
  subst e1 e2
  refine ⟨g, j, rfl, fun i v hv => ?_⟩
  rw [show uv (z.drop j) = (uv z).drop j from List.map_drop, List.getElem?_drop] at hv
  have := hc (j + i) v hv
  rwa [Nat.zero_add] at this
theorem Us.dropc {w : World} {g n co : Nat} {z : List Int} (h : Us w (some ⟨g, 0, none⟩) n z) {j : Nat} (hj : j ≤ n) (hc : n ≤ co) : Rw w (if co = j then some ⟨g, 0, none⟩ else some ⟨g, j, none⟩) (uv (z.drop j)) := by
  by_cases e : co = j
  · rw [if_pos e]
    intro hn
    rw [List.length_map, List.length_drop, h.1] at hn
    omega
  · rw [if_neg e]
    exact (h.drop hj).2
theorem own_put {w : World} {B B' j r : Nat} {v : Value} {a b : List Int} {x : Int} (h : w.ownsRow B 22 1 v (j + 1 + r) ((uv a ++ [.int .u64 x]) ++ uv b)) (hB : B' ≤ B) (ha : a.length = j) (hb : b.length = r) : OwnU w B' v (a ++ x :: b) := by
  unfold OwnU
  have e1 : (a ++ x :: b).length = j + 1 + r := by rw [List.length_append, List.length_cons]; omega
  have e2 : uv (a ++ x :: b) = (uv a ++ [.int .u64 x]) ++ uv b := by simp [uv]
  rw [e1, e2]
  exact ⟨h.1, h.2.imp id fun ⟨g, c, cur, e1, e2, e3⟩ => ⟨g, c, cur, e1, by omega, e3⟩⟩
def PutPost (z : List Int) (w : World) (e : Ending) (w' : World) : Prop := ∃ v, e = .returned v ∧ Below w.heap.size w w' ∧ OwnU w' w.heap.size v z
set_option maxHeartbeats 4000000 in
theorem rput_any (A : Option Addr) (n m : Nat) (z : List Int) (o d : Int) (w : World) (hz : Us w A n z) (hn : n ≤ 1000) : Calls Try.prog 72 #[.slice A n m, .int .u64 o, .int .u64 d] w (PutPost (putl o d z) w) := by
  have HZ := Lib.hid hz
  have HL := Lib.hid hz.1
  have hPK : putl o d z = pks o d z n := by unfold putl pks; rw [List.take_of_length_le (by rw [hz.1]; exact Nat.le_refl _)]
  rw [hPK]
  clear hz hPK
  go_enter Try.func72, Try.ntmps72
  go_wp2
  go_loopw [7, 8] (fun v i wr => ∃ k : Nat, k ≤ n ∧ i = .int .i64 k ∧ Hid (OwnU wr w.heap.size v (pks o d z k)) ∧ Hid (k = 0 → v = .slice none 0 0) ∧ Below w.heap.size w wr) (fun _ i _ => n - (intOf i).toNat)
  case atStart => exact ⟨0, by omega, rfl, Lib.hid (OwnU.nil _ _), Lib.hid (fun _ => rfl), Below.refl _ _⟩
  case round =>
    obtain ⟨k, hk, rfl, HO, HV, hb⟩ := hrel
    obtain ⟨wo, hwo⟩ : ∃ wo, wo = wr := ⟨_, rfl⟩
    subst hwo
    by_cases hlt : k < n
    · obtain ⟨g, of, rfl, c0⟩ := (HZ.out.below hb).at_ hlt
      have hpl := pks_len o d z (k := k) (by rw [HL.out]; omega)
      have e2 : (k : Int) < n := by omega
      have e3 : IntKind.i64.wrap ((k : Int) + 1) = ((k + 1 : Nat) : Int) := IntWalk.i64_in _ (by omega)
      obtain ⟨y, hy⟩ : ∃ y, y = z.getD k 0 := ⟨_, rfl⟩
      rw [← hy] at c0
      have HY := Lib.hid hy
      have HPL := Lib.hid hpl
      clear hy hpl
      rcases Nat.eq_zero_or_pos k with hk0 | hk0
      · subst hk0
        rw [Nat.add_zero] at c0
        have hv7 := HV.out rfl
        subst hv7
        by_cases hyo : y = o
        · have hyb : (y == o) = true := by simpa using hyo
          have HYO := Lib.hid hyo
          clear hyo
          have HX : Hid (d = ren o d (z.getD 0 0)) := Lib.hid (by rw [← HY.out]; unfold ren; first | rw [if_pos HYO.out] | rw [if_neg HYO.out])
          have HI : Hid (pks o d z 1 = [d]) := Lib.hid (by rw [pks_succ (by rw [HL.out]; exact hlt), ← HX.out]; rfl)
          go_wp2
          go_loopw [10] (fun i wr2 => i = .int .i64 0 ∧ wr2 = wo) (fun i _ => 0)
          case atStart => exact ⟨rfl, rfl⟩
          case round =>
            obtain ⟨rfl, hw2⟩ := hrel
            subst hw2
            have hnw := World.ownsRow_nil wr wr.heap.size 22 1
            have hr0 := Rw.nil wr none
            have hwr := hb.size
            go_wp2_with (at_builtin; go_must (first | (refine list_append_rw kindU rfl (.tmp 40) (.tmp 43) rfl wr.heap.size (.slice none 0 0) 0 [] rfl hnw _ 0 0 [] rfl rfl hr0 (fun _ => rfl) (fun u hu => by simp at hu) (by omega) (by omega) (Nat.le_refl _) ?_; intro v3 w3 ho3 hg3 hgr3; have hb3 : Below wr.heap.size wr w3 := (Below.refl _ _).grown hg3 (Nat.le_refl _) (fun k e => by cases e); obtain ⟨A3, m3, hv3, _⟩ := own_slice ho3; subst hv3; have hbA := below_one w3 (.cells #[.int .u64 d] 22); have hrwX := rw_new w3 [.int .u64 d] 22; have hoA := own_below ho3 hbA; have hbA2 := hb3.trans (hbA.mono hb3.size); have hszA := hbA2.size; clear ho3 hg3 hgr3 hbA hb3 hnw hr0) | (refine list_append_rw kindU rfl (.tmp 45) (.tmp 47) rfl wr.heap.size _ _ _ rfl hoA _ 1 1 [.int .u64 d] rfl rfl hrwX (by simp) (by simp [Value.oneCell']) (by omega) (by omega) hszA ?_; intro v5 w5 ho5 hg5 hgr5; have hb5 : Below wr.heap.size wr w5 := hbA2.grown hg5 hszA (fun k e => own_ge hoA k e); obtain ⟨A5, m5, hv5, _⟩ := own_slice ho5; subst hv5; have hrw5 := Rw.nil w5 none; have hsz5 := hb5.size; clear hg5 hgr5 hoA hrwX hbA2 hszA) | (refine list_append_rw kindU rfl (.tmp 49) (.tmp 52) rfl wr.heap.size _ _ _ rfl ho5 _ 0 0 [] rfl rfl hrw5 (fun _ => rfl) (fun u hu => by simp at hu) (by omega) (by omega) hsz5 ?_; intro v6 w6 ho6 hg6 hgr6; have hb6 : Below wr.heap.size wr w6 := hb5.grown hg6 hsz5 (fun k e => own_ge ho5 k e); have HEND : Hid (OwnU w6 w.heap.size v6 (pks o d z 1)) := Lib.hid (by rw [HI.out]; exact own_put (a := []) (b := []) (j := 0) (r := 0) ho6 hwr rfl rfl); have HB6 := Lib.hid (hb.trans (hb6.mono hb.size)); clear ho5 ho6 hg6 hgr6 hb5 hb6 hrw5 hsz5)))
            go_roundw
            case rel => exact ⟨1, by omega, by go_num, HEND, Lib.hid (fun h => by omega), HB6.out⟩
            case measure => simp [intOf]; omega
        · have hyb : (y == o) = false := by simpa using hyo
          have HYO := Lib.hid hyo
          clear hyo
          have HX : Hid (y = ren o d (z.getD 0 0)) := Lib.hid (by rw [← HY.out]; unfold ren; first | rw [if_pos HYO.out] | rw [if_neg HYO.out])
          have HI : Hid (pks o d z 1 = [y]) := Lib.hid (by rw [pks_succ (by rw [HL.out]; exact hlt), ← HX.out]; rfl)
          go_wp2
          go_loopw [10] (fun i wr2 => i = .int .i64 0 ∧ wr2 = wo) (fun i _ => 0)
          case atStart => exact ⟨rfl, rfl⟩
          case round =>
            obtain ⟨rfl, hw2⟩ := hrel
            subst hw2
            have hnw := World.ownsRow_nil wr wr.heap.size 22 1
            have hr0 := Rw.nil wr none
            have hwr := hb.size
            go_wp2_with (at_builtin; go_must (first | (refine list_append_rw kindU rfl (.tmp 40) (.tmp 43) rfl wr.heap.size (.slice none 0 0) 0 [] rfl hnw _ 0 0 [] rfl rfl hr0 (fun _ => rfl) (fun u hu => by simp at hu) (by omega) (by omega) (Nat.le_refl _) ?_; intro v3 w3 ho3 hg3 hgr3; have hb3 : Below wr.heap.size wr w3 := (Below.refl _ _).grown hg3 (Nat.le_refl _) (fun k e => by cases e); obtain ⟨A3, m3, hv3, _⟩ := own_slice ho3; subst hv3; have hbA := below_one w3 (.cells #[.int .u64 y] 22); have hrwX := rw_new w3 [.int .u64 y] 22; have hoA := own_below ho3 hbA; have hbA2 := hb3.trans (hbA.mono hb3.size); have hszA := hbA2.size; clear ho3 hg3 hgr3 hbA hb3 hnw hr0) | (refine list_append_rw kindU rfl (.tmp 45) (.tmp 47) rfl wr.heap.size _ _ _ rfl hoA _ 1 1 [.int .u64 y] rfl rfl hrwX (by simp) (by simp [Value.oneCell']) (by omega) (by omega) hszA ?_; intro v5 w5 ho5 hg5 hgr5; have hb5 : Below wr.heap.size wr w5 := hbA2.grown hg5 hszA (fun k e => own_ge hoA k e); obtain ⟨A5, m5, hv5, _⟩ := own_slice ho5; subst hv5; have hrw5 := Rw.nil w5 none; have hsz5 := hb5.size; clear hg5 hgr5 hoA hrwX hbA2 hszA) | (refine list_append_rw kindU rfl (.tmp 49) (.tmp 52) rfl wr.heap.size _ _ _ rfl ho5 _ 0 0 [] rfl rfl hrw5 (fun _ => rfl) (fun u hu => by simp at hu) (by omega) (by omega) hsz5 ?_; intro v6 w6 ho6 hg6 hgr6; have hb6 : Below wr.heap.size wr w6 := hb5.grown hg6 hsz5 (fun k e => own_ge ho5 k e); have HEND : Hid (OwnU w6 w.heap.size v6 (pks o d z 1)) := Lib.hid (by rw [HI.out]; exact own_put (a := []) (b := []) (j := 0) (r := 0) ho6 hwr rfl rfl); have HB6 := Lib.hid (hb.trans (hb6.mono hb.size)); clear ho5 ho6 hg6 hgr6 hb5 hb6 hrw5 hsz5)))
            go_roundw
            case rel => exact ⟨1, by omega, by go_num, HEND, Lib.hid (fun h => by omega), HB6.out⟩
            case measure => simp [intOf]; omega
      · obtain ⟨bo, hvb⟩ : ∃ b, u7.ownBlock = some b := own_some HO.out (by rw [HPL.out]; exact hk0)
        obtain ⟨⟨cb, hcb⟩, hbW, hbl, co, hvo, hco⟩ := row_blk HO.out hvb
        rw [HPL.out] at hvo hco
        subst hvo
        by_cases hyo : y = o
        · have hyb : (y == o) = true := by simpa using hyo
          have HYO := Lib.hid hyo
          clear hyo
          have HX : Hid (d = ren o d (z.getD k 0)) := Lib.hid (by rw [← HY.out]; unfold ren; first | rw [if_pos HYO.out] | rw [if_neg HYO.out])
          go_wp2
          go_loopw [10] (fun i wr2 => ∃ j : Nat, j ≤ k ∧ i = .int .i64 j ∧ Hid (∀ i, i < j → (pks o d z k).getD i 0 < d) ∧ wr2 = wo) (fun i _ => k - (intOf i).toNat)
          case atStart => exact ⟨0, by omega, rfl, Lib.hid (by intro i hi; omega), rfl⟩
          case round =>
            obtain ⟨j, hj, rfl, hlt2, hw2⟩ := hrel
            subst hw2
            have hrow : wr.ownsRow w.heap.size 22 1 (.slice (some ⟨bo, 0, none⟩) k co) k (uv (pks o d z k)) := by
              have h9 := HO.out
              unfold OwnU at h9
              rw [HPL.out] at h9
              exact h9
            have e6 : IntKind.i64.wrap ((j : Int) + 1) = ((j + 1 : Nat) : Int) := IntWalk.i64_in _ (by omega)
            obtain ⟨q, hq⟩ : ∃ q, q = (pks o d z k).getD j 0 := ⟨_, rfl⟩
            have HQ := Lib.hid hq
            by_cases hgo : j < k ∧ q < d
            · obtain ⟨hjk, hqx⟩ := hgo
              have d0 : wr.cell? ⟨bo, j, none⟩ = some (.int .u64 q) := (World.ownsRow.cellAt hrow j (by omega)).trans (by rw [hq, List.getElem?_map, List.getD_eq_getElem?_getD, List.getElem?_eq_getElem (by rw [HPL.out]; exact hjk)]; rfl)
              have e5 : (j : Int) < k := by omega
              clear hq hrow
              go_wp2
              go_roundw
              case rel => exact ⟨j + 1, by omega, by go_num, Lib.hid (fun i hi => by
                rcases Nat.lt_or_ge i j with h | h
                · exact hlt2.out i h
                · obtain rfl : i = j := by omega
                  rw [← HQ.out]; exact hqx), by trivial⟩
              case measure => simp [intOf]; omega
            · have HI : Hid (pks o d z (k + 1) = (pks o d z k).take j ++ d :: (pks o d z k).drop j) := Lib.hid (by
                rw [pks_succ (by rw [HL.out]; exact hlt), ← HX.out]
                refine ins_at (by rw [HPL.out]; exact hj) hlt2.out ?_
                rw [HPL.out, ← hq]
                by_cases h : j < k
                · right; exact fun h2 => hgo ⟨h, h2⟩
                · left; omega)
              have hus : Us wr (some ⟨bo, 0, none⟩) k (pks o d z k) := by
                have h9 := HO.out
                have := (OwnU.us h9).2.2.2
                exact this
              have hrw1 := (hus.take hj).2
              have hln1 : (uv ((pks o d z k).take j)).length = j * 1 := by rw [List.length_map, List.length_take, HPL.out]; omega
              have hon1 : ∀ u ∈ uv ((pks o d z k).take j), u.oneCell' = true := uv_one _
              have hln2 : (uv ((pks o d z k).drop j)).length = (k - j) * 1 := by rw [List.length_map, List.length_drop, HPL.out]; omega
              have hon2 : ∀ u ∈ uv ((pks o d z k).drop j), u.oneCell' = true := uv_one _
              have HDR := Lib.hid (fun w' (h : Below wr.heap.size wr w') => (hus.below h).dropc hj hco)
              have HDA := Lib.hid (fun w' (h : Below wr.heap.size wr w') => ((hus.below h).drop hj).2)
              have hnw := World.ownsRow_nil wr wr.heap.size 22 1
              have hjc : (j : Int) ≤ co := by omega
              have hjk2 : (j : Int) ≤ k := by omega
              have hwr := hb.size
              by_cases hjk : j < k
              · have hqx : ¬ q < d := fun h => hgo ⟨hjk, h⟩
                have d0 : wr.cell? ⟨bo, j, none⟩ = some (.int .u64 q) := (World.ownsRow.cellAt hrow j (by omega)).trans (by rw [hq, List.getElem?_map, List.getD_eq_getElem?_getD, List.getElem?_eq_getElem (by rw [HPL.out]; exact hjk)]; rfl)
                have e5 : (j : Int) < k := by omega
                clear hq hrow hgo hus
                go_wp2_with (at_builtin; go_must (first | (refine list_append_rw kindU rfl (.tmp 40) (.tmp 43) rfl wr.heap.size (.slice none 0 0) 0 [] rfl hnw _ j co (uv ((pks o d z k).take j)) rfl hln1 hrw1 (fun e => by cases e) hon1 (by omega) (by omega) (Nat.le_refl _) ?_; intro v3 w3 ho3 hg3 hgr3; have hb3 : Below wr.heap.size wr w3 := (Below.refl _ _).grown hg3 (Nat.le_refl _) (fun k e => by cases e); rw [Nat.zero_add, List.nil_append] at ho3; obtain ⟨A3, m3, hv3, _⟩ := own_slice ho3; subst hv3; have hbA := below_one w3 (.cells #[.int .u64 d] 22); have hrwX := rw_new w3 [.int .u64 d] 22; have hoA := own_below ho3 hbA; have hbA2 := hb3.trans (hbA.mono hb3.size); have hszA := hbA2.size; clear ho3 hg3 hgr3 hbA hb3 hnw hrw1 hln1 hon1) | (refine list_append_rw kindU rfl (.tmp 45) (.tmp 47) rfl wr.heap.size _ j _ rfl hoA _ 1 1 [.int .u64 d] rfl rfl hrwX (by simp) (by simp [Value.oneCell']) (by omega) (by omega) hszA ?_; intro v5 w5 ho5 hg5 hgr5; have hb5 : Below wr.heap.size wr w5 := hbA2.grown hg5 hszA (fun k e => own_ge hoA k e); obtain ⟨A5, m5, hv5, _⟩ := own_slice ho5; subst hv5; have hrw5 := HDA.out w5 hb5; have hsz5 := hb5.size; clear hg5 hgr5 hoA hrwX hbA2 hszA) | (refine list_append_rw kindU rfl (.tmp 49) (.tmp 52) rfl wr.heap.size _ (j + 1) _ rfl ho5 _ (k - j) (co - j) (uv ((pks o d z k).drop j)) rfl hln2 hrw5 (fun e => by first | (cases e; done) | (split at e <;> cases e)) hon2 (by omega) (by omega) hsz5 ?_; intro v6 w6 ho6 hg6 hgr6; have hb6 : Below wr.heap.size wr w6 := hb5.grown hg6 hsz5 (fun k e => own_ge ho5 k e); have HEND : Hid (OwnU w6 w.heap.size v6 (pks o d z (k + 1))) := Lib.hid (by rw [HI.out]; exact own_put ho6 hwr (by rw [List.length_take, HPL.out]; omega) (by rw [List.length_drop, HPL.out])); have HB6 := Lib.hid (hb.trans (hb6.mono hb.size)); clear ho5 ho6 hg6 hgr6 hb5 hb6 hrw5 hsz5)))
                go_roundw
                case rel => exact ⟨k + 1, by omega, by go_num, HEND, Lib.hid (fun h => by omega), HB6.out⟩
                case measure => simp [intOf]; omega
              · have e5 : ¬ (j : Int) < k := by omega
                clear hq hrow hgo hus
                go_wp2_with (at_builtin; go_must (first | (refine list_append_rw kindU rfl (.tmp 40) (.tmp 43) rfl wr.heap.size (.slice none 0 0) 0 [] rfl hnw _ j co (uv ((pks o d z k).take j)) rfl hln1 hrw1 (fun e => by cases e) hon1 (by omega) (by omega) (Nat.le_refl _) ?_; intro v3 w3 ho3 hg3 hgr3; have hb3 : Below wr.heap.size wr w3 := (Below.refl _ _).grown hg3 (Nat.le_refl _) (fun k e => by cases e); rw [Nat.zero_add, List.nil_append] at ho3; obtain ⟨A3, m3, hv3, _⟩ := own_slice ho3; subst hv3; have hbA := below_one w3 (.cells #[.int .u64 d] 22); have hrwX := rw_new w3 [.int .u64 d] 22; have hoA := own_below ho3 hbA; have hbA2 := hb3.trans (hbA.mono hb3.size); have hszA := hbA2.size; clear ho3 hg3 hgr3 hbA hb3 hnw hrw1 hln1 hon1) | (refine list_append_rw kindU rfl (.tmp 45) (.tmp 47) rfl wr.heap.size _ j _ rfl hoA _ 1 1 [.int .u64 d] rfl rfl hrwX (by simp) (by simp [Value.oneCell']) (by omega) (by omega) hszA ?_; intro v5 w5 ho5 hg5 hgr5; have hb5 : Below wr.heap.size wr w5 := hbA2.grown hg5 hszA (fun k e => own_ge hoA k e); obtain ⟨A5, m5, hv5, _⟩ := own_slice ho5; subst hv5; have hrw5 := HDR.out w5 hb5; have hsz5 := hb5.size; clear hg5 hgr5 hoA hrwX hbA2 hszA) | (refine list_append_rw kindU rfl (.tmp 49) (.tmp 52) rfl wr.heap.size _ (j + 1) _ rfl ho5 _ (k - j) (co - j) (uv ((pks o d z k).drop j)) rfl hln2 hrw5 (fun e => by first | (cases e; done) | (split at e <;> cases e)) hon2 (by omega) (by omega) hsz5 ?_; intro v6 w6 ho6 hg6 hgr6; have hb6 : Below wr.heap.size wr w6 := hb5.grown hg6 hsz5 (fun k e => own_ge ho5 k e); have HEND : Hid (OwnU w6 w.heap.size v6 (pks o d z (k + 1))) := Lib.hid (by rw [HI.out]; exact own_put ho6 hwr (by rw [List.length_take, HPL.out]; omega) (by rw [List.length_drop, HPL.out])); have HB6 := Lib.hid (hb.trans (hb6.mono hb.size)); clear ho5 ho6 hg6 hgr6 hb5 hb6 hrw5 hsz5)))
                go_roundw
                case rel => exact ⟨k + 1, by omega, by go_num, HEND, Lib.hid (fun h => by omega), HB6.out⟩
                case measure => simp [intOf]; omega
        · have hyb : (y == o) = false := by simpa using hyo
          have HYO := Lib.hid hyo
          clear hyo
          have HX : Hid (y = ren o d (z.getD k 0)) := Lib.hid (by rw [← HY.out]; unfold ren; first | rw [if_pos HYO.out] | rw [if_neg HYO.out])
          go_wp2
          go_loopw [10] (fun i wr2 => ∃ j : Nat, j ≤ k ∧ i = .int .i64 j ∧ Hid (∀ i, i < j → (pks o d z k).getD i 0 < y) ∧ wr2 = wo) (fun i _ => k - (intOf i).toNat)
          case atStart => exact ⟨0, by omega, rfl, Lib.hid (by intro i hi; omega), rfl⟩
          case round =>
            obtain ⟨j, hj, rfl, hlt2, hw2⟩ := hrel
            subst hw2
            have hrow : wr.ownsRow w.heap.size 22 1 (.slice (some ⟨bo, 0, none⟩) k co) k (uv (pks o d z k)) := by
              have h9 := HO.out
              unfold OwnU at h9
              rw [HPL.out] at h9
              exact h9
            have e6 : IntKind.i64.wrap ((j : Int) + 1) = ((j + 1 : Nat) : Int) := IntWalk.i64_in _ (by omega)
            obtain ⟨q, hq⟩ : ∃ q, q = (pks o d z k).getD j 0 := ⟨_, rfl⟩
            have HQ := Lib.hid hq
            by_cases hgo : j < k ∧ q < y
            · obtain ⟨hjk, hqx⟩ := hgo
              have d0 : wr.cell? ⟨bo, j, none⟩ = some (.int .u64 q) := (World.ownsRow.cellAt hrow j (by omega)).trans (by rw [hq, List.getElem?_map, List.getD_eq_getElem?_getD, List.getElem?_eq_getElem (by rw [HPL.out]; exact hjk)]; rfl)
              have e5 : (j : Int) < k := by omega
              clear hq hrow
              go_wp2
              go_roundw
              case rel => exact ⟨j + 1, by omega, by go_num, Lib.hid (fun i hi => by
                rcases Nat.lt_or_ge i j with h | h
                · exact hlt2.out i h
                · obtain rfl : i = j := by omega
                  rw [← HQ.out]; exact hqx), by trivial⟩
              case measure => simp [intOf]; omega
            · have HI : Hid (pks o d z (k + 1) = (pks o d z k).take j ++ y :: (pks o d z k).drop j) := Lib.hid (by
                rw [pks_succ (by rw [HL.out]; exact hlt), ← HX.out]
                refine ins_at (by rw [HPL.out]; exact hj) hlt2.out ?_
                rw [HPL.out, ← hq]
                by_cases h : j < k
                · right; exact fun h2 => hgo ⟨h, h2⟩
                · left; omega)
              have hus : Us wr (some ⟨bo, 0, none⟩) k (pks o d z k) := by
                have h9 := HO.out
                have := (OwnU.us h9).2.2.2
                exact this
              have hrw1 := (hus.take hj).2
              have hln1 : (uv ((pks o d z k).take j)).length = j * 1 := by rw [List.length_map, List.length_take, HPL.out]; omega
              have hon1 : ∀ u ∈ uv ((pks o d z k).take j), u.oneCell' = true := uv_one _
              have hln2 : (uv ((pks o d z k).drop j)).length = (k - j) * 1 := by rw [List.length_map, List.length_drop, HPL.out]; omega
              have hon2 : ∀ u ∈ uv ((pks o d z k).drop j), u.oneCell' = true := uv_one _
              have HDR := Lib.hid (fun w' (h : Below wr.heap.size wr w') => (hus.below h).dropc hj hco)
              have HDA := Lib.hid (fun w' (h : Below wr.heap.size wr w') => ((hus.below h).drop hj).2)
              have hnw := World.ownsRow_nil wr wr.heap.size 22 1
              have hjc : (j : Int) ≤ co := by omega
              have hjk2 : (j : Int) ≤ k := by omega
              have hwr := hb.size
              by_cases hjk : j < k
              · have hqx : ¬ q < y := fun h => hgo ⟨hjk, h⟩
                have d0 : wr.cell? ⟨bo, j, none⟩ = some (.int .u64 q) := (World.ownsRow.cellAt hrow j (by omega)).trans (by rw [hq, List.getElem?_map, List.getD_eq_getElem?_getD, List.getElem?_eq_getElem (by rw [HPL.out]; exact hjk)]; rfl)
                have e5 : (j : Int) < k := by omega
                clear hq hrow hgo hus
                go_wp2_with (at_builtin; go_must (first | (refine list_append_rw kindU rfl (.tmp 40) (.tmp 43) rfl wr.heap.size (.slice none 0 0) 0 [] rfl hnw _ j co (uv ((pks o d z k).take j)) rfl hln1 hrw1 (fun e => by cases e) hon1 (by omega) (by omega) (Nat.le_refl _) ?_; intro v3 w3 ho3 hg3 hgr3; have hb3 : Below wr.heap.size wr w3 := (Below.refl _ _).grown hg3 (Nat.le_refl _) (fun k e => by cases e); rw [Nat.zero_add, List.nil_append] at ho3; obtain ⟨A3, m3, hv3, _⟩ := own_slice ho3; subst hv3; have hbA := below_one w3 (.cells #[.int .u64 y] 22); have hrwX := rw_new w3 [.int .u64 y] 22; have hoA := own_below ho3 hbA; have hbA2 := hb3.trans (hbA.mono hb3.size); have hszA := hbA2.size; clear ho3 hg3 hgr3 hbA hb3 hnw hrw1 hln1 hon1) | (refine list_append_rw kindU rfl (.tmp 45) (.tmp 47) rfl wr.heap.size _ j _ rfl hoA _ 1 1 [.int .u64 y] rfl rfl hrwX (by simp) (by simp [Value.oneCell']) (by omega) (by omega) hszA ?_; intro v5 w5 ho5 hg5 hgr5; have hb5 : Below wr.heap.size wr w5 := hbA2.grown hg5 hszA (fun k e => own_ge hoA k e); obtain ⟨A5, m5, hv5, _⟩ := own_slice ho5; subst hv5; have hrw5 := HDA.out w5 hb5; have hsz5 := hb5.size; clear hg5 hgr5 hoA hrwX hbA2 hszA) | (refine list_append_rw kindU rfl (.tmp 49) (.tmp 52) rfl wr.heap.size _ (j + 1) _ rfl ho5 _ (k - j) (co - j) (uv ((pks o d z k).drop j)) rfl hln2 hrw5 (fun e => by first | (cases e; done) | (split at e <;> cases e)) hon2 (by omega) (by omega) hsz5 ?_; intro v6 w6 ho6 hg6 hgr6; have hb6 : Below wr.heap.size wr w6 := hb5.grown hg6 hsz5 (fun k e => own_ge ho5 k e); have HEND : Hid (OwnU w6 w.heap.size v6 (pks o d z (k + 1))) := Lib.hid (by rw [HI.out]; exact own_put ho6 hwr (by rw [List.length_take, HPL.out]; omega) (by rw [List.length_drop, HPL.out])); have HB6 := Lib.hid (hb.trans (hb6.mono hb.size)); clear ho5 ho6 hg6 hgr6 hb5 hb6 hrw5 hsz5)))
                go_roundw
                case rel => exact ⟨k + 1, by omega, by go_num, HEND, Lib.hid (fun h => by omega), HB6.out⟩
                case measure => simp [intOf]; omega
              · have e5 : ¬ (j : Int) < k := by omega
                clear hq hrow hgo hus
                go_wp2_with (at_builtin; go_must (first | (refine list_append_rw kindU rfl (.tmp 40) (.tmp 43) rfl wr.heap.size (.slice none 0 0) 0 [] rfl hnw _ j co (uv ((pks o d z k).take j)) rfl hln1 hrw1 (fun e => by cases e) hon1 (by omega) (by omega) (Nat.le_refl _) ?_; intro v3 w3 ho3 hg3 hgr3; have hb3 : Below wr.heap.size wr w3 := (Below.refl _ _).grown hg3 (Nat.le_refl _) (fun k e => by cases e); rw [Nat.zero_add, List.nil_append] at ho3; obtain ⟨A3, m3, hv3, _⟩ := own_slice ho3; subst hv3; have hbA := below_one w3 (.cells #[.int .u64 y] 22); have hrwX := rw_new w3 [.int .u64 y] 22; have hoA := own_below ho3 hbA; have hbA2 := hb3.trans (hbA.mono hb3.size); have hszA := hbA2.size; clear ho3 hg3 hgr3 hbA hb3 hnw hrw1 hln1 hon1) | (refine list_append_rw kindU rfl (.tmp 45) (.tmp 47) rfl wr.heap.size _ j _ rfl hoA _ 1 1 [.int .u64 y] rfl rfl hrwX (by simp) (by simp [Value.oneCell']) (by omega) (by omega) hszA ?_; intro v5 w5 ho5 hg5 hgr5; have hb5 : Below wr.heap.size wr w5 := hbA2.grown hg5 hszA (fun k e => own_ge hoA k e); obtain ⟨A5, m5, hv5, _⟩ := own_slice ho5; subst hv5; have hrw5 := HDR.out w5 hb5; have hsz5 := hb5.size; clear hg5 hgr5 hoA hrwX hbA2 hszA) | (refine list_append_rw kindU rfl (.tmp 49) (.tmp 52) rfl wr.heap.size _ (j + 1) _ rfl ho5 _ (k - j) (co - j) (uv ((pks o d z k).drop j)) rfl hln2 hrw5 (fun e => by first | (cases e; done) | (split at e <;> cases e)) hon2 (by omega) (by omega) hsz5 ?_; intro v6 w6 ho6 hg6 hgr6; have hb6 : Below wr.heap.size wr w6 := hb5.grown hg6 hsz5 (fun k e => own_ge ho5 k e); have HEND : Hid (OwnU w6 w.heap.size v6 (pks o d z (k + 1))) := Lib.hid (by rw [HI.out]; exact own_put ho6 hwr (by rw [List.length_take, HPL.out]; omega) (by rw [List.length_drop, HPL.out])); have HB6 := Lib.hid (hb.trans (hb6.mono hb.size)); clear ho5 ho6 hg6 hgr6 hb5 hb6 hrw5 hsz5)))
                go_roundw
                case rel => exact ⟨k + 1, by omega, by go_num, HEND, Lib.hid (fun h => by omega), HB6.out⟩
                case measure => simp [intOf]; omega
    · obtain rfl : k = n := by omega
      go_wp2
      go_ret
      exact ⟨u7, rfl, hb, HO.out⟩
end Go.Proofs.Ytghlediibhnloaa.Cur

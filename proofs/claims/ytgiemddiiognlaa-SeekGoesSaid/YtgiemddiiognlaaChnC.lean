/- Chains: a new one; a place added, and places up to a number. -/
import Derived.Test.YtgiemddiiognlaaChnB
import Derived.Test.YtgiemddiiognlaaSeqE
import Derived.Test.YtgiemddiiognlaaShelf
import Derived.Carry
import Derived.Deep.LoopGhost
namespace Go.Proofs.Ytgiemddiiognlaa.Cur
open Go.RowKit Mem
set_option linter.unusedVariables false
set_option maxRecDepth 100000


theorem kindG : Kind 52 3 (.int .i64 0) 1 8 := ⟨Try.underlying52, by kernel_rfl, rfl, by decide⟩
theorem oper_append_rg {sl e : TypeId} {zv : Value} {size bytes : Nat} (E : Kind sl e zv size bytes) {w : World} {o : Oper} {a : Act} {K : Act → World → Prop} {Q : Exit → Act → World → Prop} (s x : Operand)
    (ho : o.op = .call { callee := .builtin .append, args := #[s, x], argTypes := #[sl, sl] })
    (B : Nat) (v : Value) (n : Nat) (xs : List Value) (hs : a.eval s = v) (hown : w.ownsRow B e size v n xs) (A : Option Addr) (m c : Nat) (news : List Value) (hx : a.eval x = .slice A m c) (hl : news.length = m * size) (hr : Rw w A news) (hc : A = none → c = 0) (h1 : ∀ u ∈ news, u.oneCell' = true)
    (hsz : n + m ≤ 1000000) (hby : bytes ≤ 1000000) (hB : B ≤ w.heap.size)
    (h : ∀ v' w', w'.ownsRow B e size v' (n + m) (xs ++ news) → w.grownBy w' v.ownBlock → Gr v.ownBlock v'.ownBlock w → K (a.put o.dst v') w') : o.wp Try.prog a w K Q := by
  obtain ⟨v', w', hrun, h2, h3, h4⟩ := run_append_rw E w o.type B v n xs hown A m c news hl hr hc h1 hsz hby hB
  unfold Oper.wp
  simp [execOp, ho, resolve, invoke, builtin, hs, hx, hrun, Result.andThen]
  exact h v' w' h2 h3 h4

def ClonePost (n : Nat) (z : List Int) (w : World) (e : Ending) (w' : World) : Prop := ∃ A' m', e = .returned (.slice A' n m') ∧ Own w' w.heap.size (.slice A' n m') z ∧ Below w.heap.size w w'
theorem clone_any {w : World} {A : Option Addr} {n m : Nat} {z : List Int} (hz : Bs w A n z) (hn : n ≤ 100000) : Calls Try.prog 20 #[.slice A n m] w (ClonePost n z w) := by
  have hzl := hz.1
  rcases A with _ | ad
  · have h0 : z = [] := by
      rcases Nat.eq_zero_or_pos n with h0 | h0
      · exact List.eq_nil_of_length_eq_zero (by omega)
      · obtain ⟨_, _, e, _⟩ := hz.2 h0
        cases e
    subst h0
    obtain rfl : n = 0 := by simpa using hzl.symm
    refine (Try.bytes_Clone_nil 0 m w).mono ?_
    rintro e w' ⟨rfl, rfl⟩
    exact ⟨none, 0, rfl, World.ownsRow_nil _ _ _ _, Below.refl _ _⟩
  · refine (Try.bytes_Clone_at ad n m z w hzl (by omega) (fun i hi => ?_)).mono ?_
    · obtain ⟨k, o, e, hc⟩ := hz.2 (by omega)
      injection e with e
      subst e
      have := hc i _ (show z[i]? = some (z.getD i 0) by rw [List.getD_eq_getElem?_getD, List.getElem?_eq_getElem (by omega)]; rfl)
      unfold Addr.add
      split
      · rename_i h; subst h; exact this
      · exact this
    · rintro e w' ⟨v', rfl, ho, _, hb⟩
      obtain ⟨A', m', rfl, _, _⟩ := own_slice ho
      refine ⟨A', m', rfl, ?_, hb⟩
      unfold Own
      rw [hzl]
      exact ho

def ChNewPost (n : Nat) (z : List Int) (w : World) (e : Ending) (w' : World) : Prop :=
  ∃ c mb A' m', e = .returned (.pointer (some ⟨c, 0, none⟩)) ∧ Chn w' w.heap.size c mb none A' n m' z 0 ∧ Below w.heap.size w w'
set_option maxHeartbeats 1000000 in
theorem chnew_any {w : World} {A : Option Addr} {n m : Nat} {z : List Int} (hz : Bs w A n z) (hn : n ≤ 100000) : Calls Try.prog 21 #[.slice A n m] w (ChNewPost n z w) := by
  have hC := clone_any (m := m) hz hn
  have hmm := @run_makeMap Try.prog
  clear hz
  go_enter Try.func21, Try.ntmps21
  go_wp2_with fail
  refine hC.mono ?_
  rintro e w1 ⟨A', m', rfl, ho, hb⟩
  clear hC
  have HO := Lib.hid ho
  have HB := Lib.hid hb
  clear ho hb
  go_wp2
  go_ret
  have h1 := below_one w1 (.map #[] 0)
  have hX := Blk.new (w1.alloc (.map #[] 0)) #[.slice A' n m', .map (some w1.heap.size), .slice none 0 0] 54
  have h2 := below_one (w1.alloc (.map #[] 0)) (.cells #[.slice A' n m', .map (some w1.heap.size), .slice none 0 0] 54)
  have h3 := h1.trans (h2.mono h1.size)
  rw [show (w1.alloc (.map #[] 0)).heap.size = w1.heap.size + 1 by simp] at hX
  have hsz := HB.out.size
  refine ⟨w1.heap.size + 1, w1.heap.size, A', m', rfl, ⟨.slice none 0 0, .map [], rfl, hX, own_below HO.out h3, World.ownsRow_nil _ _ _ _, MapOf.below (World.ownsMap_made _ _ _ _) h2, MapIs.nil z, Nat.zero_le _, by omega, hsz⟩, HB.out.trans (h3.mono hsz)⟩

/-- One more place is behind those that are kept. -/
theorem chn_push {w wA w2 : World} {B c mb n m a k : Nat} {A : Option Addr} {v v' : Value} {z : List Int} {D : DataW Unit} {x : Int} (hX : Blk w c #[.slice A n m, .map (some mb), v] 54) (hO : Own w B (.slice A n m) z) (hP : OwnG w B v (pvl z a)) (hM : MapOf w mb k D)
    (hA : Below w.heap.size w wA) (ho' : w2.ownsRow B 3 1 v' ((pvl z a).length + 1) (gv (pvl z a) ++ [Value.int .i64 x])) (hx : x = nh (nrs z a a)) (hg : wA.grownBy w2 v.ownBlock) (hgr : Gr v.ownBlock v'.ownBlock wA) :
    Blk (w2.setCell ⟨c, 2, none⟩ v') c #[.slice A n m, .map (some mb), v'] 54 ∧ Own (w2.setCell ⟨c, 2, none⟩ v') B (.slice A n m) z ∧ OwnG (w2.setCell ⟨c, 2, none⟩ v') B v' (pvl z (a + 1)) ∧ MapOf (w2.setCell ⟨c, 2, none⟩ v') mb k D ∧
      Ks (CS c mb v.ownBlock) w (w2.setCell ⟨c, 2, none⟩ v') ∧ Gr v.ownBlock v'.ownBlock w := by
  have hne : v.ownBlock ≠ some c := own_ne_blk hP hX (by decide)
  have hXA := hX.below hA
  have hOA := own_below hO hA
  have hPA := own_below hP hA
  have hMA := hM.below hA
  have hX2 : Blk w2 c #[.slice A n m, .map (some mb), v] 54 := (hg.block c hXA.lt (fun e => hne e.symm)).trans hXA
  have hO2 : Own w2 B (.slice A n m) z := own_block hOA fun i hi => hg.block i (own_ltg hOA i hi) (fun e => own_apart hOA hPA (by decide) hi e.symm)
  have hM2 : MapOf w2 mb k D := hMA.block (hg.block mb (World.ownsMap.lt hMA) (fun e => hMA.ne_own hPA e.symm))
  have hne' : v'.ownBlock ≠ some c := own_ne_blk ho' hX2 (by decide)
  have hneO : (Value.slice A n m).ownBlock ≠ some c := own_ne_blk hO2 hX2 (by decide)
  refine ⟨hX2.set 2 _, own_block hO2 fun i hi => Below.heap_setCell w2 _ _ i (fun e => hneO (by rw [hi, e])), ?_, hM2.block (Below.heap_setCell w2 _ _ mb (fun e => hM2.ne_blk hX2 e.symm)), ?_, ?_⟩
  · have e : gv (pvl z (a + 1)) = gv (pvl z a) ++ [Value.int .i64 x] := by unfold gv; rw [pvl, List.map_append, hx]; rfl
    unfold OwnG
    rw [e, show (pvl z (a + 1)).length = (pvl z a).length + 1 by rw [pvl_len, pvl_len]]
    exact own_block ho' fun i hi => Below.heap_setCell w2 _ _ i (fun e => hne' (by rw [hi, e]))
  · exact (Ks.of_below hA).trans ((Ks.of_grown hg fun i hi => .inr (.inr hi)).trans (Ks.setCell _ _ _ _ (.inl rfl)))
  · rcases hgr with e | ⟨g, e, hg'⟩
    · exact .inl e
    · exact .inr ⟨g, e, Nat.le_trans hA.size hg'⟩

def ChAddPost (B c mb : Nat) (r : Option Nat) (A : Option Addr) (n m : Nat) (z : List Int) (a : Nat) (w : World) (e : Ending) (w' : World) : Prop :=
  ∃ r', e = .returned (.bool (decide (a < n))) ∧ Chn w' B c mb r' A n m z (min (a + 1) n) ∧ Ks (CS c mb r) w w' ∧ Gr r r' w
set_option maxHeartbeats 2000000 in
theorem chadd_any {w : World} {B c mb : Nat} {r : Option Nat} {A : Option Addr} {n m : Nat} {z : List Int} {a : Nat} (h : Chn w B c mb r A n m z a) (hby : ∀ x ∈ z, 0 ≤ x ∧ x < 256) (hn : n ≤ 100000) (hB : B ≤ w.heap.size) :
    Calls Try.prog 29 #[.pointer (some ⟨c, 0, none⟩)] w (ChAddPost B c mb r A n m z a w) := by
  have hle := h.le
  have hA := chadded_any h
  by_cases ha : a = n
  · subst ha
    obtain ⟨Av, cv, c0, c1, c2, _⟩ := h.cells
    have HH := Lib.hid h
    clear h
    go_enter Try.func29, Try.ntmps29
    go_wp2_with fail
    refine hA.mono ?_
    rintro e w1 ⟨rfl, rfl⟩
    clear hA
    go_wp2
    go_ret
    exact ⟨r, by simp, by rw [Nat.min_eq_right (by omega)]; exact HH.out, Ks.refl _ _, Gr.refl _ _⟩
  · have hlt : a < n := by omega
    have hneq : ((a : Int) == (n : Int)) = false := by simp; omega
    have hN := chnearest_any (a : Int) (h.drewN 1) hby hn
    have hzb := h.bs
    obtain ⟨v, D, rfl, hX, hO, hP, hM, hD, _, hBc, hBm⟩ := h
    obtain ⟨Av, cv, rfl⟩ := hP.slice
    have hPL := pvl_len z a
    have hS : Blk w.drew c #[.slice A n m, .map (some mb), .slice Av (pvl z a).length cv] 54 := hX
    have L : ∀ w', Blk w' c #[.slice A n m, .map (some mb), .slice Av (pvl z a).length cv] 54 → w'.cell? ⟨c, 0, none⟩ = some (.slice A n m) ∧ w'.cell? ⟨c, 2, none⟩ = some (.slice Av (pvl z a).length cv) := fun w' h => ⟨h.c3.1, h.c3.2.2⟩
    obtain ⟨c0, c1, c2⟩ := hX.c3
    unfold NearestPost at hN
    obtain ⟨x, hx⟩ : ∃ x, nh (nrs z a a) = x := ⟨_, rfl⟩
    rw [hx] at hN
    have HX := Lib.hid hX
    have HO := Lib.hid hO
    have HP := Lib.hid hP
    have HM := Lib.hid hM
    have HD := Lib.hid hD
    have HXX := Lib.hid hx
    have HBY := Lib.hid hby
    have HN := Lib.hid hN
    have HPL := Lib.hid hPL
    have HB := Lib.hid hB
    clear hX hO hP hM hD hx hby hN hPL hzb ha hB
    go_enter Try.func29, Try.ntmps29
    go_wp2_with fail
    refine hA.mono ?_
    rintro e w1 ⟨rfl, rfl⟩
    clear hA
    go_wp2_with fail
    clear c0 c1 c2
    refine Seq.wp_region_last (fun w' => Blk w' c #[.slice A n m, .map (some mb), .slice Av (pvl z a).length cv] 54) (by kernel_rfl) (by kernel_rfl) (by kernel_rfl) hS ?_
    repeat (first | (refine Seq.SeqE.skip (by rfl) ?_; (try simp only [Act.put, List.setIfInBounds_toArray, List.set_cons_zero, List.set_cons_succ])) | (refine Seq.SeqE.det ?_ (by rfl) (fun w hS => ?_) ?_; rotate_left; ((try dsimp only at hS); go_simp; (try rw [if_pos (by omega)]); with_reducible rfl); (try simp only [Act.put, List.setIfInBounds_toArray, List.set_cons_zero, List.set_cons_succ])))
    refine Seq.SeqE.make (by rfl) (by rfl) (fun K Q' hK => ?_)
    go_simp
    go_at_call 26
    refine HN.out.mono ?_
    rintro e w1 ⟨rfl, k1, rfl⟩
    have hS1 : Blk ((w.drewN 1).drewN k1) c #[.slice A n m, .map (some mb), .slice Av (pvl z a).length cv] 54 := hS
    refine hK.out _ _ (hS1) ?_
    clear hK K
    try simp only [Act.put, List.setIfInBounds_toArray, List.set_cons_zero, List.set_cons_succ]
    repeat (first | (refine Seq.SeqE.skip (by rfl) ?_; (try simp only [Act.put, List.setIfInBounds_toArray, List.set_cons_zero, List.set_cons_succ])) | (refine Seq.SeqE.det ?_ (by rfl) (fun w hS => ?_) ?_; rotate_left; ((try dsimp only at hS); go_simp; (try rw [if_pos (by omega)]); with_reducible rfl); (try simp only [Act.put, List.setIfInBounds_toArray, List.set_cons_zero, List.set_cons_succ])))
    refine Seq.SeqE.make (by rfl) (by rfl) (fun K Q' hK => ?_)
    go_simp
    have hA1 : Below w.heap.size w ((w.drewN (1 + k1)).alloc (.cells #[.int .i64 x] 3)) := (below_drewN (Below.refl w.heap.size w) (1 + k1)).alloc (below_drewN (Below.refl w.heap.size w) (1 + k1)).size _
    have hrw : Rw ((w.drewN (1 + k1)).alloc (.cells #[.int .i64 x] 3)) (some ⟨w.heap.size, 0, none⟩) [.int .i64 x] := rw_newg (w.drewN (1 + k1)) [.int .i64 x] 3
    have hB9 : B ≤ ((w.drewN (1 + k1)).alloc (.cells #[.int .i64 x] 3)).heap.size := Nat.le_trans HB.out hA1.size
    have hSA := HX.out.below (w' := (w.drewN (1 + k1)).alloc (.cells #[.int .i64 x] 3)) hA1
    refine hK.out _ _ (hSA) ?_
    clear hK K
    try simp only [Act.put, List.setIfInBounds_toArray, List.set_cons_zero, List.set_cons_succ]
    generalize (w.drewN (1 + k1)).alloc (.cells #[.int .i64 x] 3) = wA at *
    have HA1 := Lib.hid hA1
    have hPA := own_below HP.out hA1
    clear hA1 hS hS1
    refine Seq.SeqE.make (by rfl) (by rfl) (fun K Q' hK => ?_)
    refine oper_append_rg kindG (.tmp 23) (.tmp 27) rfl B _ _ _ rfl hPA _ 1 _ [Value.int .i64 x] rfl rfl hrw (by simp) (by simp [Value.oneCell']) (by rw [HPL.out]; omega) (by omega) hB9 ?_
    intro v' w2 ho' hg hgr
    have hSB : Blk w2 c #[.slice A n m, .map (some mb), .slice Av (pvl z a).length cv] 54 := (hg.block c hSA.lt (fun e => own_ne_blk hPA hSA (by decide) e.symm)).trans hSA
    obtain ⟨p1, p2, p3, p4, p5, p6⟩ := chn_push HX.out HO.out HP.out HM.out HA1.out ho' HXX.out.symm hg hgr
    obtain ⟨Av', cv', rfl, _, _⟩ := own_slice ho'
    refine hK.out _ _ (hSB) ?_
    clear hK K
    try simp only [Act.put, List.setIfInBounds_toArray, List.set_cons_zero, List.set_cons_succ]
    have P1 := Lib.hid p1
    have P2 := Lib.hid p2
    have P3 := Lib.hid p3
    have P4 := Lib.hid p4
    have P5 := Lib.hid p5
    have P6 := Lib.hid p6
    clear p1 p2 p3 p4 p5 p6 ho' hg hgr hPA hrw hSA hB9
    repeat (first | (refine Seq.SeqE.skip (by rfl) ?_; (try simp only [Act.put, List.setIfInBounds_toArray, List.set_cons_zero, List.set_cons_succ])) | (refine Seq.SeqE.det ?_ (by rfl) (fun w hS => ?_) ?_; rotate_left; ((try dsimp only at hS); go_simp; (try rw [if_pos (by omega)]); with_reducible rfl); (try simp only [Act.put, List.setIfInBounds_toArray, List.set_cons_zero, List.set_cons_succ])))
    have hfz := hSB.free 2
    have hS0 := hSB.c3.2.2
    refine Seq.SeqE.last (by rfl) (by rfl) (fun K Q' hK => ?_)
    go_simp
    refine hK.out _ _ ?_
    clear hK K
    try simp only [Act.put, List.setIfInBounds_toArray, List.set_cons_zero, List.set_cons_succ]
    clear hfz hS0 hSB L
    generalize w2.setCell ⟨c, 2, none⟩ _ = w3 at *
    obtain ⟨c0, c1, _⟩ := P1.out.c3
    have hzb := Own.bs P2.out
    have hcap := Own.cap P2.out
    have hK := ckey_any (w := w3) (A := A) (n := n) (m := m) (z := z) (a : Int) hzb.2 HBY.out hcap (by omega)
    unfold KeyPost at hK
    have hmin : min (a + 1) n = a + 1 := Nat.min_eq_left hlt
    have HMIN := Lib.hid hmin
    have hzl := Lib.hid hzb.1
    clear hzb hmin
    cases hh : hk z a
    · have hns := hk_neg hh
      have HNS : Hid (¬ a + 4 ≤ z.length) := Lib.hid (by omega)
      rw [hh] at hK
      clear hh hns
      go_wp2_with fail
      refine hK.mono ?_
      rintro e w1 ⟨rfl, k2, rfl⟩
      clear hK c0 c1
      go_wp2
      go_ret
      have hd := below_drewN (Below.refl w3.heap.size w3) k2
      refine ⟨_, by simp [hlt], ?_, P5.out.trans (Ks.of_below hd), P6.out⟩
      rw [HMIN.out]
      exact ⟨_, D, rfl, P1.out.below hd, own_below P2.out hd, own_below P3.out hd, MapOf.below (World.ownsMap.mono P4.out (Nat.le_succ a)) hd, HD.out.skip HNS.out, hlt, hBc, hBm⟩
    · obtain ⟨k, hk1, hkz⟩ := hk_pos hh
      obtain rfl : a = k := by omega
      rw [hh, if_pos rfl, Int.toNat_natCast] at hK
      have hbd := ky_bd HBY.out a
      have HKZ := Lib.hid hkz
      obtain ⟨x2, hx2⟩ : ∃ x2, ky z a = x2 := ⟨_, rfl⟩
      rw [hx2] at hK hbd
      have hkey : keyOf Try.prog 55 (.int .u32 x2) = some (.int .u32 x2) := Maps.keyOf_int_mk Try.underlying55 (by first | go_wf | exact WalkArith.wf_u32 (by omega))
      have hval : plainElem (H := Unit) Try.prog 3 (.int .i64 (a : Int)) = some (.lit (.int .i64 a), []) := plainElem_int Try.underlying3 (by first | go_wf | exact WalkArith.wf_i64 (by omega))
      have HPUT := Lib.hid (HD.out.put hkz)
      rw [hx2] at HPUT
      clear hh hk1 hkz hx2
      go_wp2_with fail
      refine hK.mono ?_
      rintro e w1 ⟨rfl, k2, rfl⟩
      clear hK
      have hd := below_drewN (Below.refl w3.heap.size w3) k2
      have hM5 : MapOf (w3.drewN k2) mb a D := P4.out.below hd
      go_wp2_with (at_mapUpdate; refine wpList_mapUpdate_own _ rfl _ _ _ 51 rfl 55 3 keyed32 Try.underlying51 _ mb a D rfl hM5 (by unfold maxLen; omega) _ _ _ rfl rfl hkey _ [] hval ?_; intro w6 hm6 hg6; clear c0 c1 hM5)
      go_ret
      have q1 := P1.out.below hd
      have q2 := own_below P2.out hd
      have q3 := own_below P3.out hd
      have q4 := P4.out.below hd
      refine ⟨_, by simp [hlt], ?_, (P5.out.trans (Ks.of_below hd)).trans (Ks.of_grown hg6 fun i hi => .inr (.inl (by injection hi with hi; exact hi.symm))), P6.out⟩
      rw [HMIN.out]
      refine ⟨_, _, rfl, (hg6.block c q1.lt (fun e => q4.ne_blk q1 (by injection e))).trans q1, own_block q2 fun i hi => hg6.block i (own_ltg q2 i hi) (fun e => q4.ne_own q2 (hi.trans e)), own_block q3 fun i hi => hg6.block i (own_ltg q3 i hi) (fun e => q4.ne_own q3 (hi.trans e)), hm6, HPUT.out, hlt, hBc, hBm⟩
theorem Ks.ch {w w1 w2 : World} {c mb : Nat} {r r1 : Option Nat} (h : Ks (CS c mb r) w w1) (g : Gr r r1 w) (k : Ks (CS c mb r1) w1 w2) : Ks (CS c mb r) w w2 :=
  h.trans' k fun i hi hS => by
    rcases hS with e | e | e
    · exact .inl e
    · exact .inr (.inl e)
    · rcases g with rfl | ⟨g', e', hg⟩
      · exact .inr (.inr e)
      · rw [e'] at e
        injection e with e
        omega

/-- How many places there are behind AddTo. -/
def tgt (a n : Nat) (at_ : Int) : Nat := max a (min at_.toNat n)
def ChToPost (B c mb : Nat) (r : Option Nat) (A : Option Addr) (n m : Nat) (z : List Int) (a : Nat) (at_ : Int) (w : World) (e : Ending) (w' : World) : Prop :=
  ∃ r', e = .returned (.int .i64 (tgt a n at_)) ∧ Chn w' B c mb r' A n m z (tgt a n at_) ∧ Ks (CS c mb r) w w' ∧ Gr r r' w
set_option maxHeartbeats 2000000 in
theorem chaddto_any {w : World} {B c mb : Nat} {r : Option Nat} {A : Option Addr} {n m : Nat} {z : List Int} {a : Nat} (at_ : Int) (h : Chn w B c mb r A n m z a) (hby : ∀ x ∈ z, 0 ≤ x ∧ x < 256) (hn : n ≤ 100000) (hB : B ≤ w.heap.size) :
    Calls Try.prog 22 #[.pointer (some ⟨c, 0, none⟩), .int .i64 at_] w (ChToPost B c mb r A n m z a at_ w) := by
  have hle := h.le
  have HBY := Lib.hid hby
  have HH := Lib.hid h
  obtain ⟨t, ht⟩ : ∃ t, tgt a n at_ = t := ⟨_, rfl⟩
  have HT := Lib.hid ht
  have htn : a ≤ t ∧ t ≤ n := by unfold tgt at ht; omega
  clear hby h ht
  go_enter Try.func22, Try.ntmps22
  go_wp2
  go_loopg [12] (n + 1 - a) (fun gk _ wr => ∃ (a' : Nat) (r' : Option Nat), a ≤ a' ∧ a' ≤ t ∧ gk = n + 1 - a' ∧ Chn wr B c mb r' A n m z a' ∧ Ks (CS c mb r) w wr ∧ Gr r r' w)
  case atStart => exact ⟨a, r, Nat.le_refl _, htn.1, rfl, HH.out, Ks.refl _ _, Gr.refl _ _⟩
  case round =>
    obtain ⟨a', r', h1, h2, hgk, hc, hks, hgr⟩ := hrel
    have hA := chadded_any hc
    have HC := Lib.hid hc
    have HKS := Lib.hid hks
    have HGK := Lib.hid hgk
    clear hc hks hgk
    by_cases hlt : (a' : Int) < at_
    · go_wp2_with fail
      refine hA.mono ?_
      rintro e w1 ⟨rfl, rfl⟩
      clear hA
      have hD := chadd_any HC.out HBY.out hn (Nat.le_trans hB HKS.out.size)
      by_cases hn1 : a' < n
      · have HT2 : Hid (a' + 1 ≤ t) := Lib.hid (by have := HT.out; unfold tgt at this; omega)
        unfold ChAddPost at hD
        rw [decide_eq_true hn1, Nat.min_eq_left hn1] at hD
        go_wp2_with fail
        refine hD.mono ?_
        rintro e w2 ⟨r2, rfl, hc2, hk2, hg2⟩
        have HC2 := Lib.hid hc2
        have HK2 := Lib.hid (HKS.out.ch hgr hk2)
        have HG2 := Lib.hid (hgr.trans hg2 HKS.out.size)
        clear hD hc2 hk2 hg2 hgr
        go_wp2
        go_roundg (n + 1 - (a' + 1))
        case measure => have := HGK.out; omega
        case rel => exact ⟨a' + 1, r2, by omega, HT2.out, rfl, HC2.out, HK2.out, HG2.out⟩
      · have ha : a' = n := by omega
        have HT2 : Hid (a' = t) := Lib.hid (by omega)
        unfold ChAddPost at hD
        rw [decide_eq_false hn1, Nat.min_eq_right (by omega)] at hD
        go_wp2_with fail
        refine hD.mono ?_
        rintro e w2 ⟨r2, rfl, hc2, hk2, hg2⟩
        have hA2 := chadded_any hc2
        have HC2 := Lib.hid hc2
        have HK2 := Lib.hid (HKS.out.ch hgr hk2)
        have HG2 := Lib.hid (hgr.trans hg2 HKS.out.size)
        have HAN := Lib.hid ha
        clear hD hc2 hk2 hg2 hgr ha
        go_wp2_with fail
        refine hA2.mono ?_
        rintro e w3 ⟨rfl, rfl⟩
        clear hA2
        go_wp2
        go_ret
        have e : tgt a n at_ = n := by rw [HT.out, ← HT2.out, HAN.out]
        exact ⟨r2, by rw [e]; rfl, by rw [e]; exact HC2.out, HK2.out, HG2.out⟩
    · have HT2 : Hid (tgt a n at_ = a') := Lib.hid (by have := HT.out; unfold tgt at *; omega)
      have hge : at_ ≤ (a' : Int) := by omega
      go_wp2_with fail
      refine hA.mono ?_
      rintro e w1 ⟨rfl, rfl⟩
      go_wp2_with fail
      refine hA.mono ?_
      rintro e w1 ⟨rfl, rfl⟩
      clear hA
      go_wp2
      go_ret
      exact ⟨r', by rw [HT2.out]; rfl, by rw [HT2.out]; exact HC.out, HKS.out, hgr⟩
theorem chadd_none (w : World) : Calls Try.prog 29 #[.pointer none] w fun e w' => e = .returned (.bool false) ∧ w = w' := by
  go_enter Try.func29, Try.ntmps29
  go_wp2_with fail
  refine (chadded_none _).mono ?_
  rintro e w1 ⟨rfl, rfl⟩
  go_wp2
  go_ret
  exact ⟨rfl, rfl⟩
theorem chaddto_none (at_ : Int) (w : World) : Calls Try.prog 22 #[.pointer none, .int .i64 at_] w fun e w' => e = .returned (.int .i64 0) ∧ w = w' := by
  by_cases h : 0 < at_
  · go_enter Try.func22, Try.ntmps22
    go_wp2
    refine wp_loop_rounds 1 ?_
    rw [rounds_succ]
    go_wp2_with fail
    refine (chadded_none _).mono ?_
    rintro e w1 ⟨rfl, rfl⟩
    go_wp2_with fail
    refine (chadd_none _).mono ?_
    rintro e w1 ⟨rfl, rfl⟩
    go_wp2_with fail
    refine (chadded_none _).mono ?_
    rintro e w1 ⟨rfl, rfl⟩
    go_wp2
    go_ret
    exact ⟨rfl, rfl⟩
  · have h' : at_ ≤ 0 := by omega
    go_enter Try.func22, Try.ntmps22
    go_wp2
    refine wp_loop_rounds 1 ?_
    rw [rounds_succ]
    go_wp2_with fail
    refine (chadded_none _).mono ?_
    rintro e w1 ⟨rfl, rfl⟩
    go_wp2_with fail
    refine (chadded_none _).mono ?_
    rintro e w1 ⟨rfl, rfl⟩
    go_wp2
    go_ret
    exact ⟨rfl, rfl⟩
end Go.Proofs.Ytgiemddiiognlaa.Cur

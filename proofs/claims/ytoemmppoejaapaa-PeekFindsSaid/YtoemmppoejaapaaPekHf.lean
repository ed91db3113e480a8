/- As the seat's text, without what nothing here names. -/
import Derived.Test.YtoemmppoejaapaaPekGf
import Derived.Test.YtoemmppoejaapaaK34f
namespace Go.Proofs.Ytoemmppoejaapaa.Cur
open Go.RowKit Mem
set_option linter.unusedVariables false
set_option maxRecDepth 100000
def TlE (w : World) (P : Nat → Prop) (f : Int → Option Value) (T : TL) : Prop :=
  ∀ s, (f s = none → T s = none) ∧ ∀ v, f s = some v → ∃ A m z, v = lkagg s A z.length m ∧ T s = some z ∧ LkE.R w P [.int .u64 s, .slice A z.length m] (s, z) ∧ z.length ≤ 100000
theorem TlE.keep {w w' : World} {P : Nat → Prop} {f : Int → Option Value} {T : TL} (h : TlE w P f T) (hk : ∀ b, P b → b < w.heap.size → w'.heap[b]? = w.heap[b]?) : TlE w' P f T := fun s => ⟨(h s).1, fun v hv => by
  obtain ⟨A, m, z, h1, h2, h3, h4⟩ := (h s).2 v hv
  exact ⟨A, m, z, h1, h2, LkE.keep h3 hk, h4⟩⟩
theorem TlE.below {w w' : World} {P : Nat → Prop} {f : Int → Option Value} {T : TL} (h : TlE w P f T) (hb : Below w.heap.size w w') : TlE w' P f T := h.keep fun b _ hl => hb.block b hl
theorem TlE.mono {w : World} {P Q : Nat → Prop} {f : Int → Option Value} {T : TL} (h : TlE w P f T) (hq : ∀ b, P b → b < w.heap.size → Q b) : TlE w Q f T := fun s => ⟨(h s).1, fun v hv => by
  obtain ⟨A, m, z, h1, h2, h3, h4⟩ := (h s).2 v hv
  exact ⟨A, m, z, h1, h2, LkE.mono h3 hq, h4⟩⟩
theorem TlE.put {w : World} {P : Nat → Prop} {f : Int → Option Value} {T : TL} (h : TlE w P f T) {s : Int} {A : Option Addr} {m : Nat} {z : List Int} (hz : LkE.R w P [.int .u64 s, .slice A z.length m] (s, z)) (hl : z.length ≤ 100000) :
    TlE w P (fun t => if t = s then some (lkagg s A z.length m) else f t) (fun t => if t = s then some z else T t) := fun t => by
  by_cases e : t = s
  · subst e
    refine ⟨fun hh => ?_, fun v hv => ?_⟩
    · dsimp only at hh; rw [if_pos rfl] at hh; cases hh
    · dsimp only at hv
      rw [if_pos rfl] at hv
      injection hv with hv
      exact ⟨A, m, z, hv.symm, by dsimp only; rw [if_pos rfl], hz, hl⟩
  · refine ⟨fun hh => ?_, fun v hv => ?_⟩
    · dsimp only at hh ⊢; rw [if_neg e] at hh ⊢; exact (h t).1 hh
    · dsimp only at hv
      rw [if_neg e] at hv
      obtain ⟨A', m', z', h1, h2, h3, h4⟩ := (h t).2 v hv
      exact ⟨A', m', z', h1, by dsimp only; rw [if_neg e]; exact h2, h3, h4⟩
theorem nodup_len : ∀ {l m : List Int}, l.Nodup → (∀ x ∈ l, x ∈ m) → l.length ≤ m.length
  | [], _, _, _ => Nat.zero_le _
  | x :: l, m, h, hs => by
    obtain ⟨h1, h2⟩ := List.nodup_cons.1 h
    have hx := hs x (by simp)
    have := nodup_len (m := m.erase x) h2 fun y hy => (List.mem_erase_of_ne (fun e => h1 (by rw [← e]; exact hy))).2 (hs y (by simp [hy]))
    rw [List.length_erase_of_mem hx] at this
    have := List.length_pos_of_mem hx
    rw [List.length_cons]
    omega
def keyI : Lit → Option Int
  | .int .u64 x => some x
  | _ => none
theorem ukeys_len {D : DataW Value} {ss : List Int} (h : UKeys D ss) : ss.length ≤ Maps.size D := by
  cases D with
  | map es =>
    have := nodup_len (m := es.filterMap fun p => keyI p.1) h.1 fun x hx => by
      have := (h.2.2 x).1 hx
      rw [Maps.has_eq, List.any_eq_true] at this
      obtain ⟨p, hp, hs⟩ := this
      exact List.mem_filterMap.2 ⟨p, hp, by rw [WideAt.sameKey_eq hs]; rfl⟩
    exact Nat.le_trans this (List.length_filterMap_le _ _)
  | _ =>
    have : ss = [] := by
      cases ss with
      | nil => rfl
      | cons x l => have := (h.2.2 x).1 (by simp); cases this
    subst this
    exact Nat.zero_le _
def lkOf (T : TL) (ss : List Int) : List Lk := ss.map fun s => (s, (T s).getD [])
def InPost (B0 : Nat) (T : TL) (w : World) (e : Ending) (w' : World) : Prop :=
  ∃ A m ss, e = .returned (.slice A (lkOf T ss).length m) ∧ (lkOf T ss).length ≤ m ∧ (A = none → m = 0) ∧ Lks w' (fun k => B0 ≤ k) A (lkOf T ss).length (lkOf T ss) ∧ ss.Pairwise (· < ·) ∧ (∀ x ∈ ss, 0 ≤ x ∧ x < 18446744073709551616) ∧ (∀ s, s ∈ ss ↔ T s ≠ none) ∧ Below w.heap.size w w'
set_option maxHeartbeats 4000000 in
theorem inorder_any (B0 b nn : Nat) (D : DataW Value) (f : Int → Option Value) (T : TL) (w : World) (hown : MapV w b nn D) (hf : MV D f) (ht : TlE w (fun k => B0 ≤ k) f T) (hsz : Maps.size D ≤ 5000) (hB0 : B0 ≤ w.heap.size) :
    Calls Try.prog 36 #[.map (some b)] w (InPost B0 T w) := by
  have hA := below_one w (.cells #[.map (some b)] 61)
  have hX := Blk.new w #[.map (some b)] 61
  have hS := sortedu_any w.heap.size b nn D (w.alloc (.cells #[.map (some b)] 61)) (by simp) hX.c1 (hown.below hA) hsz (fun ss h => Nat.le_trans (ukeys_len h) hsz)
  unfold ApPost at hS
  unfold InPost
  have HOW := Lib.hid hown
  have HF := Lib.hid hf
  have HT := Lib.hid ht
  have HA := Lib.hid hA
  have HBB := Lib.hid hB0
  have HSZ := Lib.hid hsz
  clear hX hown hf ht hsz hA hB0
  go_enter Try.func36, Try.ntmps36
  go_wp2_with fail
  refine (keysu_any b _).mono ?_
  rintro e w1 ⟨rfl, rfl⟩
  go_wp2_with fail
  refine hS.mono ?_
  rintro e w2 ⟨v, ss, rfl, hSK, hO, hb2⟩
  have hb := HA.out.trans (hb2.mono HA.out.size)
  obtain ⟨A, c, rfl, hnil, hc⟩ := own_slice hO
  have hlen : ss.length ≤ 5000 := Nat.le_trans (ukeys_len ⟨hSK.1.imp (fun h => by omega), hSK.2.1, hSK.2.2⟩) HSZ.out
  have HSK := Lib.hid hSK
  have HB := Lib.hid hb
  have HO := Lib.hid hO
  have HUS : Hid (Us w2 A ss.length ss) := Lib.hid (OwnU.us (show OwnU w2 _ _ ss from hO)).2.2.2
  have HS2 : Hid (w.heap.size < w2.heap.size) := Lib.hid (by have := hb2.size; simp at this; omega)
  clear hS hSK hO hb hb2 hnil hc
  go_wp2
  go_loopw [3, 10] (fun v i wr => ∃ k : Nat, k ≤ ss.length ∧ i = .int .i64 k ∧ OwnQ LkE 51 wr w2.heap.size (fun x => B0 ≤ x ∧ x < w2.heap.size) v (lkOf T (ss.take k)) ∧ Below w2.heap.size w2 wr) (fun _ i _ => ss.length - (intOf i).toNat)
  case atStart => exact ⟨0, Nat.zero_le _, rfl, OwnQ.nil _ _ _ _ _, Below.refl _ _⟩
  case round =>
    obtain ⟨k, hk, rfl, ho, hbr⟩ := hrel
    by_cases hlt : k < ss.length
    · obtain ⟨s, hs⟩ : ∃ s, ss[k]? = some s := ⟨_, List.getElem?_eq_getElem hlt⟩
      have hmem : s ∈ ss := List.mem_of_getElem? hs
      obtain ⟨s0, s1⟩ := HSK.out.2.1 s hmem
      have hhas := (HSK.out.2.2 s).1 hmem
      rcases hfs : f s with _ | u
      · rw [HF.out.no s hfs] at hhas; cases hhas
      obtain ⟨A4, m4, z4, rfl, hz4, hR4, hl4⟩ := (HT.out s).2 u hfs
      have hbr0 := HB.out.trans (hbr.mono HB.out.size)
      have hlook := MapV.look (HOW.out.below hbr0) HF.out s0 s1
      rw [hfs] at hlook
      have hus := (HUS.out.below hbr)
      obtain ⟨g9, o9, rfl, hcell⟩ := hus.2 (by simp; omega)
      have hcl := hcell k (.int .u64 s) (by simp [hs])
      obtain ⟨cs, g1, g2, g3⟩ := ho.below (below_one wr (.cells #[.int .u64 s, .slice A4 z4.length m4] 51))
      have hA2 := below_one wr (.cells #[.int .u64 s, .slice A4 z4.length m4] 51)
      have hrwX := rw_new wr [.int .u64 s, .slice A4 z4.length m4] 51
      have hbA := hbr.trans (hA2.mono hbr.size)
      have hel : LkE.R (wr.alloc (.cells #[.int .u64 s, .slice A4 z4.length m4] 51)) (fun x => B0 ≤ x ∧ x < w2.heap.size) [.int .u64 s, .slice A4 z4.length m4] (s, z4) :=
        LkE.keep (LkE.keep (LkE.mono hR4 fun x hx hl => (⟨hx, by have := HS2.out; omega⟩ : B0 ≤ x ∧ x < w2.heap.size)) fun x _ hl => hbr0.block x hl) fun x _ hl => hA2.block x hl
      have htk : lkOf T (ss.take (k + 1)) = lkOf T (ss.take k) ++ [(s, z4)] := by
        unfold lkOf
        rw [List.take_add_one, hs, List.map_append]
        show _ ++ [(s, (T s).getD [])] = _
        rw [hz4]; rfl
      have hll : (lkOf T (ss.take k)).length = k := by unfold lkOf; rw [List.length_map, List.length_take]; omega
      have g2' : (wr.alloc (.cells #[.int .u64 s, .slice A4 z4.length m4] 51)).ownsRow w2.heap.size 51 2 _ (lkOf T (ss.take k)).length cs.flatten := g2
      have HTK := Lib.hid htk
      have hB6 : w2.heap.size ≤ (wr.alloc (.cells #[.int .u64 s, .slice A4 z4.length m4] 51)).heap.size := hbA.size
      have HL1 : Hid ((lkOf T (ss.take k)).length + 1 ≤ 1000000) := Lib.hid (by omega)
      have HBA := Lib.hid hbA
      have hge2 := own_ge g2'
      have HGE := Lib.hid hge2
      have hlt2 : (k : Int) < ss.length := by omega
      clear ho hbr hbr0 hus hA2 hbA hhas hmem hR4 htk hcell
      go_wp2_with (at_builtin; go_must (refine list_append_rw kindLK rfl (.tmp 14) (.tmp 18) rfl w2.heap.size _ _ _ rfl g2' _ 1 _ [.int .u64 s, .slice A4 z4.length m4] rfl rfl hrwX (by simp) (by simp [Value.oneCell']) HL1.out (by omega) hB6 ?_; intro v' w8 ho8 hg8 hgr8; have H8 := OwnQ.snoc g1 g3 hel ho8 hg8 hgr8; have HK8 := Lib.hid (HBA.out.grown hg8 hB6 (fun g e => hge2 g e)); clear g1 g2 g2' g3 hel ho8 hg8 hrwX hge2 hB6))
      go_roundw
      case rel => exact ⟨k + 1, by omega, by rw [Int.natCast_add]; rfl, by
        rw [HTK.out]
        exact H8.mono (fun x hx _ => hx.1) (fun g hg hx => by
          rcases hgr8 with e2 | ⟨g', e2, hg'⟩
          · rw [e2] at hg; exact absurd hx (by have := HGE.out g hg; omega)
          · rw [e2] at hg
            injection hg with hg
            have h9 : w2.heap.size ≤ g' := Nat.le_trans HBA.out.size hg'
            omega), HK8.out⟩
      case measure => simp [intOf]; omega
    · obtain rfl : k = ss.length := by omega
      obtain ⟨A', c', rfl, h1, h2, h3⟩ := ho.slice
      rw [List.take_length] at ho h1 h3 ⊢
      have hge : ∀ x, (Value.slice A' (lkOf T ss).length c').ownBlock = some x → w2.heap.size ≤ x := by
        obtain ⟨cs, _, h, _⟩ := ho
        exact own_ge h
      have HL := Lib.hid (show Lks wr (fun k => B0 ≤ k) A' (lkOf T ss).length (lkOf T ss) from ⟨rfl, h3.mono fun x hx _ => by
        rcases hx with hx | hx
        · exact hx.1
        · have := hge x hx; have := HS2.out; have := HBB.out; omega⟩)
      have H1 := Lib.hid (And.intro h1 h2)
      have HB3 := Lib.hid (HB.out.trans (hbr.mono HB.out.size))
      have HIN : Hid (∀ s, s ∈ ss ↔ T s ≠ none) := Lib.hid (fun s => by
        rw [HSK.out.2.2 s]
        rcases hfs : f s with _ | u
        · rw [HF.out.no s hfs, (HT.out s).1 hfs]; simp
        · rw [(HF.out.yes s u hfs).1]
          obtain ⟨_, _, z, _, hz, _⟩ := (HT.out s).2 u hfs
          rw [hz]; simp)
      clear ho hbr h1 h2 h3 hge
      go_wp2
      go_ret
      exact ⟨A', c', ss, rfl, H1.out.1, H1.out.2, HL.out, HSK.out.1, HSK.out.2.1, HIN.out, HB3.out⟩
end Go.Proofs.Ytoemmppoejaapaa.Cur

/- stripe.Nodes of a valid stripe. -/
import Derived.Test.YtpoicagalmhfdaaSrtP
namespace Go.Proofs.Ytpoicagalmhfdaa.Cur
open Go.RowKit Mem
set_option linter.unusedVariables false
set_option maxRecDepth 100000

theorem flen_le {S : List (List Int)} (h : ∀ l ∈ S, l.length ≤ 8) : S.flatten.length ≤ 8 * S.length := by
  induction S with
  | nil => simp
  | cons l S ih =>
    rw [List.flatten_cons, List.length_append, List.length_cons]
    have h1 := h l (by simp)
    have h2 := ih fun x hx => h x (by simp [hx])
    omega
/-- The nodes of a stripe in their order. -/
def nds (S : List (List Int)) : List Int := S.flatten.mergeSort fun x y => decide (x ≤ y)
theorem nds_len (S : List (List Int)) : (nds S).length = S.flatten.length := List.length_mergeSort _
theorem own_arr {w : World} {B : Nat} {v : Value} {z : List Int} (h : OwnU w B v z) (h1 : 1 ≤ z.length) : ∃ g cap, v = .slice (some ⟨g, 0, none⟩) z.length cap ∧ B ≤ g ∧ OwnA w B g z.length cap z.toArray := by
  rcases h.2 with ⟨e, h0⟩ | ⟨g, cap, cur, e, hg, r⟩
  · omega
  · subst e; exact ⟨g, cap, rfl, hg, by simp, h⟩
set_option maxHeartbeats 2000000 in
theorem snodes_any (P : Nat → Prop) (f t : Int) (A : Option Addr) (n m : Nat) (S : List (List Int)) (w : World) (hz : Sts w P A n S) (hm : n ≤ m) (hn : n ≤ 1000000) (hlen : ∀ l ∈ S, l.length ≤ 1000000) (hok : stok (f, t, S) = true) :
    Calls Try.prog 29 #[stagg f t A n m] w (URowPost (nds S) w) := by
  obtain ⟨_, _, k3, k4, k5⟩ := stok_parts hok
  replace k3 : 1 ≤ S.length := k3
  replace k4 : S.length ≤ 8 := k4
  have hl8 : ∀ l ∈ S, l.length ≤ 8 := sok_lens k5
  have hT2 : S.flatten.length ≤ 1000 := by have := flen_le hl8; omega
  have hT1 : 1 ≤ S.flatten.length := by
    have h1 := sok_fine k5 0 k3
    have h2 := ftk S (k := 0) k3
    have h3 := ftk_le S 1
    rw [show (0 + 1) = 1 from rfl] at h2
    rw [h2, List.length_append] at h3
    unfold fne at h1
    simp only [Bool.and_eq_true, decide_eq_true_eq] at h1
    omega
  have hL : S.length = n := hz.1
  rw [hL] at k3 k4
  have HT := Lib.hid (And.intro hT1 hT2)
  have hX := Blk.new w (stc f t A n m) 25
  have hb := below_one w (.cells (stc f t A n m) 25)
  have hrcon := stright_any P f t A n m S _ (hz.below hb) hm hn hlen
  rw [hok] at hrcon
  have HZ := Lib.hid hz
  unfold BPost at hrcon
  obtain ⟨x0, x1, x2⟩ := hX.c3
  clear hz hlen hok k5 hl8 hT1 hT2 hL
  go_enter Try.func29, Try.ntmps29
  go_wp2_with fail
  refine hrcon.mono ?_
  rintro e w1 ⟨rfl, hb1⟩
  replace hX := hX.below hb1
  replace hb := hb.trans (hb1.mono hb.size)
  clear hrcon hb1 x0 x1 x2
  obtain ⟨x0, x1, x2⟩ := hX.c3
  have hcc := sconcat_any P A n m S w1 (HZ.out.below hb) (by omega) (by omega) HT.out.1 HT.out.2
  have HB := Lib.hid hb
  clear hX hb
  go_wp2_with fail
  with_reducible refine hcc.mono ?_
  rintro e w2 ⟨v, rfl, ho, hb2⟩
  obtain ⟨g, cap, rfl, hg, hA⟩ := own_arr ho HT.out.1
  have hso := ssort_any w1.heap.size g S.flatten.length cap S.flatten.toArray w2 hA HT.out.2
  have HB2 := Lib.hid (HB.out.trans (hb2.mono HB.out.size))
  have HG : Hid (w.heap.size ≤ g ∧ w.heap.size ≤ w1.heap.size) := Lib.hid ⟨Nat.le_trans HB.out.size hg, HB.out.size⟩
  obtain ⟨N, hN⟩ : ∃ N, N = S.flatten.length := ⟨_, rfl⟩
  rw [← hN] at hso ⊢
  have HN := Lib.hid hN
  clear hcc ho hb2 hg hA x0 x1 x2 hN
  go_wp2_with fail
  with_reducible refine hso.mono ?_
  rintro e w3 ⟨rfl, ⟨d, hd, hl⟩, hk⟩
  have HE : Hid (OwnU w3 w.heap.size (.slice (some ⟨g, 0, none⟩) N cap) (nds S) ∧ Below w.heap.size w w3) := Lib.hid ⟨by
    have h9 : OwnU w3 w1.heap.size (.slice (some ⟨g, 0, none⟩) N cap) (nds S) := by
      have h8 := hd.2
      rw [hl] at h8
      unfold OwnU
      rw [nds_len, ← HN.out]
      exact h8
    exact ownu_base h9 HG.out.2, Ks.below HB2.out (Nat.le_refl _) hk (fun k e => by rw [e]; exact HG.out.1)⟩
  clear hso hd hl hk
  go_wp2
  go_ret
  exact ⟨_, rfl, HE.out.1, HE.out.2⟩
end Go.Proofs.Ytpoicagalmhfdaa.Cur

/- A node in the place of another one: the plain facts. -/
import Derived.Test.YtghlediibhnloaaPrjO
import Derived.Test.YtghlediibhnloaaStpT
namespace Go.Proofs.Ytghlediibhnloaa.Cur
open Go.RowKit Mem
set_option linter.unusedVariables false

/-- A number put into a rising list. -/
def ins (x : Int) (l : List Int) : List Int := l.takeWhile (fun y => decide (y < x)) ++ x :: l.dropWhile (fun y => decide (y < x))
def ren (o d x : Int) : Int := if x = o then d else x
/-- A list with a number in the place of another one, rising. -/
def putl (o d : Int) (l : List Int) : List Int := l.foldl (fun out x => ins (ren o d x) out) []
def sws (o d : Int) (S : List (List Int)) : List (List Int) := S.map fun l => if l.contains o then putl o d l else l
def swst (o d : Int) (s : Stp) : Stp := (s.1, s.2.1, sws o d s.2.2)
def swp (o d : Int) (L : List Stp) : List Stp := L.map (swst o d)
def hasv (L : List Stp) (x : Int) : Bool := L.any fun s => s.2.2.any fun l => l.contains x
def swv (e : Int) (L : List Stp) (o d : Int) : Int × Prj := if prok (e, L) = false then (3, prj0) else if hasv L o = false then (16, prj0) else endv e (swp o d L)

theorem ins_perm (x : Int) (l : List Int) : (ins x l).Perm (x :: l) := by
  unfold ins
  refine List.perm_middle.trans ?_
  rw [List.takeWhile_append_dropWhile]
theorem ins_le (x : Int) : ∀ (l : List Int), l.Pairwise (· ≤ ·) → (ins x l).Pairwise (· ≤ ·)
  | [], _ => by unfold ins; simp
  | y :: l, h => by
    have h' := List.pairwise_cons.1 h
    have ih := ins_le x l h'.2
    unfold ins at ih ⊢
    by_cases hy : y < x
    · rw [List.takeWhile_cons_of_pos (by simpa using hy), List.dropWhile_cons_of_pos (by simpa using hy), List.cons_append, List.pairwise_cons]
      refine ⟨fun z hz => ?_, ih⟩
      have hm := (ins_perm x l).mem_iff.1 (show z ∈ ins x l from hz)
      rcases List.mem_cons.1 hm with rfl | hm
      · omega
      · exact h'.1 z hm
    · rw [List.takeWhile_cons_of_neg (by simpa using hy), List.dropWhile_cons_of_neg (by simpa using hy), List.nil_append, List.pairwise_cons]
      refine ⟨fun z hz => ?_, h⟩
      rcases List.mem_cons.1 hz with rfl | hz
      · omega
      · have := h'.1 z hz; omega
theorem fold_ins {o d : Int} : ∀ (l out : List Int), (l.foldl (fun out x => ins (ren o d x) out) out).Perm (l.map (ren o d) ++ out)
  | [], out => List.Perm.refl _
  | x :: l, out => by
    rw [List.foldl_cons, List.map_cons, List.cons_append]
    refine (fold_ins l _).trans ?_
    refine ((ins_perm (ren o d x) out).append_left (l.map (ren o d))).trans ?_
    exact List.perm_middle
theorem fold_le {o d : Int} : ∀ (l out : List Int), out.Pairwise (· ≤ ·) → (l.foldl (fun out x => ins (ren o d x) out) out).Pairwise (· ≤ ·)
  | [], out, h => h
  | x :: l, out, h => by rw [List.foldl_cons]; exact fold_le l _ (ins_le _ _ h)
theorem putl_perm (o d : Int) (l : List Int) : (putl o d l).Perm (l.map (ren o d)) := by have := fold_ins (o := o) (d := d) l []; rwa [List.append_nil] at this
theorem putl_le (o d : Int) (l : List Int) : (putl o d l).Pairwise (· ≤ ·) := fold_le l [] List.Pairwise.nil
theorem putl_len (o d : Int) (l : List Int) : (putl o d l).length = l.length := by rw [(putl_perm o d l).length_eq, List.length_map]
/-- There is one rising order alone. -/
theorem rise_one {l r : List Int} (h1 : l.Pairwise (· ≤ ·)) (h2 : r.Pairwise (· ≤ ·)) (h : l.Perm r) : l = r := List.Perm.eq_of_pairwise (fun a b _ _ h1 h2 => by omega) h1 h2 h
theorem putl_is {o d : Int} {l r : List Int} (hr : r.Pairwise (· ≤ ·)) (h : r.Perm (l.map (ren o d))) : r = putl o d l := rise_one hr (putl_le o d l) (h.trans (putl_perm o d l).symm)
theorem putl_bd {o d : Int} {l : List Int} (h : ∀ x ∈ l, 0 ≤ x ∧ x < 18446744073709551616) (hd : 0 ≤ d ∧ d < 18446744073709551616) : ∀ x ∈ putl o d l, 0 ≤ x ∧ x < 18446744073709551616 := fun x hx => by
  have hm := (putl_perm o d l).mem_iff.1 hx
  obtain ⟨y, hy, rfl⟩ := List.mem_map.1 hm
  unfold ren
  by_cases he : y = o
  · rw [if_pos he]; exact hd
  · rw [if_neg he]; exact h y hy
/-- In a list in which a number stands once, it is set at its place. -/
theorem set_ren {o d : Int} : ∀ {l : List Int} {i : Nat}, l.Nodup → l[i]? = some o → l.set i d = l.map (ren o d)
  | [], _, _, h => by simp at h
  | x :: l, 0, hn, h => by
    simp at h; subst h
    have hx := (List.nodup_cons.1 hn).1
    rw [List.set_cons_zero, List.map_cons]
    unfold ren
    rw [if_pos rfl]
    congr 1
    conv => lhs; rw [← List.map_id l]
    exact List.map_congr_left fun y hy => by rw [if_neg (fun e => hx (by rw [← e]; exact hy))]; rfl
  | x :: l, i + 1, hn, h => by
    obtain ⟨hx, hn2⟩ := List.nodup_cons.1 hn
    have h2 : l[i]? = some o := by simpa using h
    rw [List.set_cons_succ, List.map_cons, set_ren hn2 h2]
    congr 1
    unfold ren
    rw [if_neg (fun e => hx (by rw [e]; exact List.mem_of_getElem? h2))]
theorem ren_no {o d : Int} {l : List Int} (h : l.contains o = false) : l.map (ren o d) = l := by
  conv => rhs; rw [← List.map_id l]
  exact List.map_congr_left fun y hy => by
    unfold ren
    rw [if_neg (fun e => by subst e; rw [List.contains_eq_mem] at h; simp [hy] at h)]; rfl
/-- Back again. -/
theorem ren_back {o d : Int} {l : List Int} (h : l.contains d = false) : (l.map (ren o d)).map (ren d o) = l := by
  rw [List.map_map]
  conv => rhs; rw [← List.map_id l]
  exact List.map_congr_left fun y hy => by
    have hyd : y ≠ d := fun e => by subst e; rw [List.contains_eq_mem] at h; simp [hy] at h
    show ren d o (ren o d y) = y
    unfold ren
    by_cases e : y = o
    · rw [if_pos e, if_pos rfl, e]
    · rw [if_neg e, if_neg hyd]
theorem rises_lt : ∀ {l : List Int}, risesB l = true → l.Pairwise (· < ·)
  | [], _ => List.Pairwise.nil
  | [a], _ => by simp
  | a :: b :: l, h => by
    unfold risesB at h
    simp only [Bool.and_eq_true, decide_eq_true_eq] at h
    have h2 := rises_lt h.2
    rw [List.pairwise_cons]
    refine ⟨fun c hc => ?_, h2⟩
    rcases List.mem_cons.1 hc with rfl | hc
    · exact h.1
    · have := (List.pairwise_cons.1 h2).1 c hc; omega
theorem putl_back {o d : Int} {l : List Int} (hr : risesB l = true) (h : l.contains d = false) : putl d o (putl o d l) = l := by
  symm
  refine putl_is ((rises_lt hr).imp fun h => by omega) ?_
  have h1 := (putl_perm o d l).map (ren d o)
  rw [ren_back h] at h1
  exact h1.symm
theorem putl_has {o d : Int} {l : List Int} (h : l.contains o = true) : (putl o d l).contains d = true := by
  rw [List.contains_eq_mem, decide_eq_true_eq] at h ⊢
  refine (putl_perm o d l).mem_iff.2 (List.mem_map.2 ⟨o, h, ?_⟩)
  unfold ren; rw [if_pos rfl]
theorem sws_back {o d : Int} : ∀ {S : List (List Int)}, (∀ l ∈ S, risesB l = true) → (S.any fun l => l.contains d) = false → sws d o (sws o d S) = S
  | [], _, _ => rfl
  | l :: S, hr, h => by
    rw [List.any_cons, Bool.or_eq_false_iff] at h
    unfold sws
    rw [List.map_cons, List.map_cons]
    have ih := sws_back (o := o) (S := S) (fun r hm => hr r (by simp [hm])) h.2
    unfold sws at ih
    rw [ih]
    congr 1
    by_cases ho : l.contains o = true
    · rw [if_pos ho, if_pos (putl_has ho), putl_back (hr l (by simp)) h.1]
    · rw [if_neg ho, if_neg (by rw [h.1]; decide)]
theorem swp_back {o d : Int} {L : List Stp} (hr : ∀ s ∈ L, ∀ l ∈ s.2.2, risesB l = true) (h : hasv L d = false) : swp d o (swp o d L) = L := by
  unfold swp
  rw [List.map_map]
  conv => rhs; rw [← List.map_id L]
  refine List.map_congr_left fun s hs => ?_
  show swst d o (swst o d s) = s
  unfold swst
  have h2 : (s.2.2.any fun l => l.contains d) = false := by
    unfold hasv at h
    rw [List.any_eq_false] at h
    simpa using h s hs
  rw [sws_back (hr s hs) h2]
theorem swp_len (o d : Int) (L : List Stp) : (swp o d L).length = L.length := by unfold swp; simp
theorem swp_at {o d : Int} {L : List Stp} {i : Nat} (hi : i < L.length) : (swp o d L).getD i stp0 = swst o d (L.getD i stp0) := by
  unfold swp
  rw [List.getD_eq_getElem?_getD, List.getElem?_map, List.getD_eq_getElem?_getD, List.getElem?_eq_getElem hi]; rfl
theorem swp_plen {M : Nat} {o d : Int} {L : List Stp} (h : plen M L) : plen M (swp o d L) := by
  intro s hs
  obtain ⟨r, hr, rfl⟩ := List.mem_map.1 hs
  obtain ⟨h1, h2⟩ := h r hr
  refine ⟨by show (sws o d r.2.2).length ≤ M; unfold sws; rw [List.length_map]; exact h1, fun l hl => ?_⟩
  obtain ⟨q, hq, rfl⟩ := List.mem_map.1 (show l ∈ sws o d r.2.2 from hl)
  by_cases ho : q.contains o = true
  · rw [if_pos ho, putl_len]; exact h2 q hq
  · rw [if_neg ho]; exact h2 q hq
/-- A node stands in the stripes behind the swap. -/
theorem has_back {o d : Int} {L : List Stp} (h : hasv L o = true) : hasv (swp o d L) d = true := by
  unfold hasv at h ⊢
  rw [List.any_eq_true] at h ⊢
  obtain ⟨s, hs, h⟩ := h
  rw [List.any_eq_true] at h
  obtain ⟨l, hl, h⟩ := h
  refine ⟨swst o d s, List.mem_map.2 ⟨s, hs, rfl⟩, ?_⟩
  rw [List.any_eq_true]
  exact ⟨putl o d l, List.mem_map.2 ⟨l, hl, by rw [if_pos h]⟩, putl_has h⟩
theorem swv_no {e : Int} {L : List Stp} {o d : Int} (h : prok (e, L) = false) : swv e L o d = (3, prj0) := by unfold swv; rw [if_pos h]
theorem swv_none {e : Int} {L : List Stp} {o d : Int} (h : prok (e, L) = true) (h2 : hasv L o = false) : swv e L o d = (16, prj0) := by unfold swv; rw [if_neg (by simp [h]), if_pos h2]
theorem swv_end {e : Int} {L : List Stp} {o d : Int} (h : prok (e, L) = true) (h2 : hasv L o = true) : swv e L o d = endv e (swp o d L) := by unfold swv; rw [if_neg (by simp [h]), if_neg (by simp [h2])]
end Go.Proofs.Ytghlediibhnloaa.Cur

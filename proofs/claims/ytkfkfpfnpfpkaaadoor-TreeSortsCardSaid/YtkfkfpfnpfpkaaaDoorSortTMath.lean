/- Plain mathematics: what the library's stable sort leaves of files, put in the order of their paths, is the document's order. Of no program. -/
import Derived.Test.YtkfkfpfnpfpkaaaDoorFrame
import Derived.Test.YtkfkfpfnpfpkaaaDoorGen
import Derived.Test.YtkfkfpfnpfpkaaaDoorOwnL
import Derived.Test.YtkfkfpfnpfpkaaaDoorRowN
import Derived.Test.YtkfkfpfnpfpkaaaDoorRows
import Derived.Test.YtkfkfpfnpfpkaaaDoorSortMath
import Derived.Test.YtkfkfpfnpfpkaaaDoorTreeMath
import Derived.BigQuiet
import Derived.Lib.Hide
import Derived.WalkKit
import Derived.WalkLawsBesides
import Derived.WalkSpells
set_option linter.unusedVariables false
namespace Go.Proofs.YtkfkfpfnpfpkaaaDoor
open Go.RowKit

def fileN (xs : List FileD) (i : Nat) : FileD := xs.getD i ⟨[], 0, []⟩
def cvF (xs : List FileD) (i k : Nat) : Int := ordS (fileN xs i).path (fileN xs k).path
def ltF (xs : List FileD) (i k : Nat) : Bool := decide (cvF xs i k < 0)
theorem ltF_swo (xs : List FileD) : SWo (ltF xs) := by
  refine ⟨fun x => ?_, fun x y z h k => ?_, fun x y z h k => ?_⟩
  · unfold ltF cvF; rw [ordS_self]; rfl
  · unfold ltF cvF at *
    rw [decide_eq_true_eq] at *
    have T := ordS_trans _ _ _ (show ordS (fileN xs x).path (fileN xs y).path ≤ 0 by omega) (show ordS (fileN xs y).path (fileN xs z).path ≤ 0 by omega)
    rcases Int.lt_or_eq_of_le T.1 with c | c
    · exact c
    · have := (T.2 c).1; omega
  · unfold ltF cvF at *
    rw [decide_eq_false_iff_not] at *
    have e1 := ordS_neg (fileN xs x).path (fileN xs y).path
    have e2 := ordS_neg (fileN xs y).path (fileN xs z).path
    have e3 := ordS_neg (fileN xs x).path (fileN xs z).path
    have T := ordS_trans (fileN xs z).path (fileN xs y).path (fileN xs x).path (by omega) (by omega)
    omega
/-- Place n let in behind all that does not stand behind it. -/
def insI (xs : List FileD) (n : Nat) : List Nat → List Nat
  | [] => [n]
  | y :: r => if cvF xs n y < 0 then n :: y :: r else y :: insI xs n r
theorem insI_map (xs : List FileD) (n : Nat) : ∀ l : List Nat, insS (fileN xs n) (l.map (fileN xs)) = (insI xs n l).map (fileN xs)
  | [] => rfl
  | y :: r => by
    show (if ordS (fileN xs n).path (fileN xs y).path < 0 then _ else _) = List.map _ (if ordS (fileN xs n).path (fileN xs y).path < 0 then _ else _)
    split
    · rfl
    · rw [insI_map xs n r]; rfl
theorem insI_perm (xs : List FileD) (n : Nat) : ∀ l : List Nat, (insI xs n l).Perm (n :: l)
  | [] => List.Perm.refl _
  | y :: r => by
    unfold insI
    split
    · exact List.Perm.refl _
    · exact ((insI_perm xs n r).cons y).trans (List.Perm.swap n y r)
theorem insI_sorted (xs : List FileD) (n : Nat) : ∀ l : List Nat, (∀ y ∈ l, y < n) → l.Pairwise (Ltn (ltF xs)) → (insI xs n l).Pairwise (Ltn (ltF xs))
  | [], _, _ => List.pairwise_singleton _ _
  | y :: r, hl, hp => by
    have hy := hl y (by simp)
    rw [List.pairwise_cons] at hp
    unfold insI
    split
    · rename_i h
      have hny : Ltn (ltF xs) n y := .inl (by unfold ltF; simpa using h)
      rw [List.pairwise_cons, List.pairwise_cons]
      refine ⟨fun z hz => ?_, hp⟩
      simp at hz
      rcases hz with rfl | hz
      · exact hny
      · exact hny.trans (ltF_swo xs) (hp.1 z hz)
    · rename_i h
      rw [List.pairwise_cons]
      refine ⟨fun z hz => ?_, insI_sorted xs n r (fun z hz => hl z (by simp [hz])) hp.2⟩
      rw [(insI_perm xs n r).mem_iff] at hz
      simp at hz
      rcases hz with rfl | hz
      · exact .inr ⟨by unfold ltF; simpa using h, hy⟩
      · exact hp.1 z hz
theorem sort_ord (xs : List FileD) : ∀ n, n ≤ xs.length → ∃ ord : List Nat, ord.Perm (List.range n) ∧ ord.Pairwise (Ltn (ltF xs)) ∧ sortS (xs.take n) = ord.map (fileN xs) := by
  intro n
  induction n with
  | zero => intro _; exact ⟨[], by simp, List.Pairwise.nil, rfl⟩
  | succ n ih =>
    intro hn
    obtain ⟨ord, h1, h2, h3⟩ := ih (by omega)
    have hlt : n < xs.length := by omega
    have ef : fileN xs n = xs[n] := by unfold fileN; simp [List.getD_eq_getElem?_getD, List.getElem?_eq_getElem hlt]
    refine ⟨insI xs n ord, ?_, insI_sorted xs n ord (fun y hy => by simpa using h1.mem_iff.1 hy) h2, ?_⟩
    · refine (insI_perm xs n ord).trans ((h1.cons n).trans ?_)
      rw [List.range_succ]
      exact (List.perm_append_singleton n (List.range n)).symm
    · rw [List.take_add_one, List.getElem?_eq_getElem hlt]
      show sortS (xs.take n ++ [xs[n]]) = _
      have : sortS (xs.take n ++ [xs[n]]) = insS xs[n] (sortS (xs.take n)) := by unfold sortS; rw [List.foldl_append]; rfl
      rw [this, h3, ← ef, insI_map]
theorem sort_is (xs : List FileD) (d : Nat → Nat) (hs : Sorted (ltF xs) d 0 xs.length) (hp : (seg d 0 xs.length).Perm (seg (fun k => k) 0 xs.length)) : (seg d 0 xs.length).map (fileN xs) = sortS xs := by
  obtain ⟨ord, h1, h2, h3⟩ := sort_ord xs xs.length (Nat.le_refl _)
  rw [List.take_length] at h3
  rw [h3]
  congr 1
  have e0 : seg (fun k => k) 0 xs.length = List.range xs.length := by
    unfold seg
    rw [Nat.sub_zero, List.range_eq_range']
    exact List.map_id _
  rw [e0] at hp
  refine List.Perm.eq_of_pairwise (le := Ltn (ltF xs)) (fun a b _ _ k1 k2 => absurd (k1.trans (ltF_swo xs) k2) (Ltn.irr (ltF_swo xs) a)) ?_ h2 (hp.trans h1.symm)
  unfold seg
  rw [Nat.sub_zero, List.pairwise_map]
  refine List.Pairwise.imp_of_mem ?_ (List.pairwise_lt_range' (s := 0) (n := xs.length))
  intro a b ha hb hab
  rw [List.mem_range'_1] at hb
  exact hs a b (Nat.zero_le _) hab (by omega)
theorem seg_len (d : Nat → Nat) (n : Nat) : (seg d 0 n).length = n := by unfold seg; simp
theorem seg_get (d : Nat → Nat) (n k : Nat) (h : k < (seg d 0 n).length) : (seg d 0 n)[k] = d k := by
  unfold seg; simp
end Go.Proofs.YtkfkfpfnpfpkaaaDoor

/- Parts, boxes: mathematics. -/
import Derived.Test.YtiknfohadnjkiaaFrame
import Derived.Test.YtiknfohadnjkiaaGen
import Derived.Test.YtiknfohadnjkiaaOwnL
import Derived.Test.YtiknfohadnjkiaaRowN
set_option linter.unusedVariables false
namespace Go.Proofs.Ytiknfohadnjkiaa
open Go.RowKit

structure PartD where
  at' : Int
  of' : Int
  text : List UInt8
def encPt (p : PartD) : List Value := [.int .i64 p.at', .int .i64 p.of', .string ⟨p.text.toArray⟩]
theorem encPt_ok : EncN encPt 3 := ⟨fun _ => rfl, fun x u hu => by simp [encPt] at hu; rcases hu with rfl | rfl | rfl <;> rfl⟩
structure PartOk (p : PartD) : Prop where
  a : -9223372036854775808 ≤ p.at' ∧ p.at' ≤ 9223372036854775807
  o : -9223372036854775808 ≤ p.of' ∧ p.of' ≤ 9223372036854775807
  t : p.text.length ≤ 140737488351232
/-- A text cut from the left: each piece but the last of so many bytes; the empty text is one piece. -/
def cutF : Nat → Nat → List UInt8 → List (List UInt8)
  | 0, _, s => [s]
  | f + 1, n, s => if n < s.length then s.take n :: cutF f n (s.drop n) else [s]
def cutL (n : Nat) (s : List UInt8) : List (List UInt8) := cutF s.length n s
theorem cutF_fuel : ∀ (f k n : Nat) (s : List UInt8), 0 < n → s.length ≤ f → s.length ≤ k → cutF f n s = cutF k n s
  | 0, 0, _, _, _, _, _ => rfl
  | 0, k + 1, n, s, _, h, _ => by
    have : s = [] := List.eq_nil_of_length_eq_zero (by omega)
    subst this
    rw [cutF, cutF, if_neg (by simp)]
  | f + 1, 0, n, s, _, _, h => by
    have : s = [] := List.eq_nil_of_length_eq_zero (by omega)
    subst this
    rw [cutF, cutF, if_neg (by simp)]
  | f + 1, k + 1, n, s, hn, h1, h2 => by
    rw [cutF, cutF]
    by_cases c : n < s.length
    · rw [if_pos c, if_pos c, cutF_fuel f k n (s.drop n) hn (by rw [List.length_drop]; omega) (by rw [List.length_drop]; omega)]
    · rw [if_neg c, if_neg c]
theorem cutL_step {n : Nat} {s : List UInt8} (hn : 0 < n) : cutL n s = if n < s.length then s.take n :: cutL n (s.drop n) else [s] := by
  unfold cutL
  by_cases c : n < s.length
  · rw [if_pos c]
    obtain ⟨f, hf⟩ : ∃ f, s.length = f + 1 := ⟨s.length - 1, by omega⟩
    rw [hf, cutF, if_pos (by omega), cutF_fuel f (s.drop n).length n (s.drop n) hn (by rw [List.length_drop]; omega) (Nat.le_refl _)]
  · rw [if_neg c]
    cases h : s.length with
    | zero => rfl
    | succ f => rw [cutF, if_neg (by omega)]
theorem cutL_flat : ∀ (k n : Nat) (s : List UInt8), 0 < n → s.length ≤ k → (cutL n s).flatten = s
  | 0, n, s, hn, h => by
    rw [cutL_step hn, if_neg (by omega)]
    simp
  | k + 1, n, s, hn, h => by
    rw [cutL_step hn]
    split
    · rw [List.flatten_cons, cutL_flat k n (s.drop n) hn (by rw [List.length_drop]; omega), List.take_append_drop]
    · simp
theorem cutL_pos {n : Nat} {s : List UInt8} (hn : 0 < n) : 0 < (cutL n s).length := by
  rw [cutL_step hn]
  split <;> simp
theorem cutL_len : ∀ (k n : Nat) (s : List UInt8), 0 < n → s.length ≤ k → (cutL n s).length ≤ s.length + 1
  | 0, n, s, hn, h => by
    rw [cutL_step hn, if_neg (by omega)]
    simp
  | k + 1, n, s, hn, h => by
    rw [cutL_step hn]
    split
    · have := cutL_len k n (s.drop n) hn (by rw [List.length_drop]; omega)
      rw [List.length_drop] at this
      rw [List.length_cons]
      omega
    · simp
theorem cutL_bound : ∀ (k n : Nat) (s : List UInt8), 0 < n → s.length ≤ k → ∀ t ∈ cutL n s, t.length ≤ s.length
  | 0, n, s, hn, h, t, ht => by
    rw [cutL_step hn, if_neg (by omega)] at ht
    rw [List.mem_singleton.1 ht]
    exact Nat.le_refl _
  | k + 1, n, s, hn, h, t, ht => by
    rw [cutL_step hn] at ht
    split at ht
    · rcases List.mem_cons.1 ht with rfl | c
      · rw [List.length_take]; omega
      · have := cutL_bound k n (s.drop n) hn (by rw [List.length_drop]; omega) t c
        rw [List.length_drop] at this
        omega
    · rw [List.mem_singleton.1 ht]
      exact Nat.le_refl _
/-- The parts of pieces. -/
def partsL (l : List (List UInt8)) : List PartD := l.zipIdx.map (fun x => ⟨(x.2 : Int), (l.length : Int), x.1⟩)
theorem partsL_len (l : List (List UInt8)) : (partsL l).length = l.length := by unfold partsL; simp
theorem partsL_get (l : List (List UInt8)) (i : Nat) (h : i < (partsL l).length) : (partsL l)[i] = ⟨(i : Int), (l.length : Int), l[i]'(by rw [← partsL_len]; exact h)⟩ := by
  simp only [partsL, List.getElem_map, List.getElem_zipIdx, Nat.zero_add]
def cutE (s : List UInt8) (size : Int) : Int := if size < 1 then 1 else if 524288 < s.length then 4 else if 4096 < (cutL size.toNat s).length then 7 else 0
def cutP (s : List UInt8) (size : Int) : List PartD := if cutE s size ≠ 0 then [] else partsL (cutL size.toNat s)
/-- A box: what is in each place. -/
abbrev BoxS := List (Option (List UInt8))
def allB (st : BoxS) : List UInt8 := (st.map (fun o => o.getD [])).flatten
def missB (st : BoxS) : List Nat := (List.range st.length).filter (fun i => st[i]?.getD none == none)
def leftB (st : BoxS) : Nat := st.countP (fun o => o.isNone)
def putE (st : BoxS) (p : PartD) : Int :=
  if p.of' ≠ st.length then 1
  else if p.at' < 0 ∨ (st.length : Int) ≤ p.at' then 2
  else match st[p.at'.toNat]?.getD none with
    | some t => if t = p.text then 0 else 6
    | none => if 524288 < (allB st).length + p.text.length then 4 else 0
def putB' (st : BoxS) (p : PartD) : BoxS := if putE st p ≠ 0 then st else st.set p.at'.toNat (some p.text)
def missN (st : BoxS) (most : Int) : List Nat := (missB st).take most.toNat
def textE (st : BoxS) : Int := if 0 < leftB st then 3 else 0
def textB (st : BoxS) : List UInt8 := if 0 < leftB st then [] else allB st
theorem putB'_len (st : BoxS) (p : PartD) : (putB' st p).length = st.length := by
  unfold putB'
  split
  · rfl
  · rw [List.length_set]
theorem missB_snoc (st : BoxS) (o : Option (List UInt8)) : missB (st ++ [o]) = missB st ++ if o = none then [st.length] else [] := by
  unfold missB
  rw [List.length_append, List.length_singleton, List.range_succ, List.filter_append]
  congr 1
  · refine List.filter_congr fun i hi => ?_
    rw [List.getElem?_append_left (List.mem_range.1 hi)]
  · rw [List.filter_cons, List.getElem?_append_right (Nat.le_refl _), Nat.sub_self]
    cases o with
    | none => simp
    | some t => simp
theorem missB_len : ∀ (n : Nat) (st : BoxS), st.length = n → (missB st).length = leftB st
  | 0, st, h => by
    have : st = [] := List.eq_nil_of_length_eq_zero h
    subst this
    rfl
  | n + 1, st, h => by
    obtain ⟨r, o, rfl⟩ : ∃ r o, st = r ++ [o] := ⟨_, _, (List.dropLast_concat_getLast (l := st) (by intro c; subst c; simp at h)).symm⟩
    rw [missB_snoc, List.length_append, missB_len n r (by simpa using h)]
    unfold leftB
    rw [List.countP_append]
    cases o <;> simp
theorem missB_mem {st : BoxS} {i : Nat} : i ∈ missB st ↔ i < st.length ∧ st[i]?.getD none = none := by
  unfold missB
  rw [List.mem_filter, List.mem_range]
  simp
theorem leftB_zero {st : BoxS} : leftB st = 0 ↔ ∀ i, i < st.length → st[i]?.getD none ≠ none := by
  rw [← missB_len _ st rfl]
  constructor
  · intro h i hi c
    have : i ∈ missB st := missB_mem.2 ⟨hi, c⟩
    rw [List.eq_nil_of_length_eq_zero h] at this
    simp at this
  · intro h
    cases hm : missB st with
    | nil => rfl
    | cons i r =>
      have : i ∈ missB st := by rw [hm]; exact List.mem_cons_self
      obtain ⟨h1, h2⟩ := missB_mem.1 this
      exact absurd h2 (h i h1)
theorem allB_snoc (st : BoxS) (o : Option (List UInt8)) : allB (st ++ [o]) = allB st ++ o.getD [] := by
  unfold allB
  simp
end Go.Proofs.Ytiknfohadnjkiaa

/- Lists of numbers and of texts: made. (Written by gen/lists.py.) -/
import Derived.Test.YtfgimhgkjodcgaaDoorAwake
import Derived.Test.YtfgimhgkjodcgaaDoorCodeMath
import Derived.Test.YtfgimhgkjodcgaaDoorCodeNumW
import Derived.Test.YtfgimhgkjodcgaaDoorFrame
import Derived.Test.YtfgimhgkjodcgaaDoorGen
import Derived.Test.YtfgimhgkjodcgaaDoorReadW
import Derived.Test.YtfgimhgkjodcgaaDoorRows
import Derived.Test.YtfgimhgkjodcgaaDoorText
import Derived.BigQuiet
import Derived.Lib.Hide
import Derived.WalkKit
import Derived.WalkLawsBesides
import Derived.WalkSpells
set_option linter.unusedVariables false
namespace Go.Proofs.YtfgimhgkjodcgaaDoor
open Go.RowKit

/-- A part's bytes and error. -/
def intE (n : Int) : List UInt8 × Int := if n < 0 ∨ 4611686018427387903 < n then ([], 2) else (nb n.toNat, 0)
def textE (l : List UInt8) : List UInt8 × Int := if 1048576 < l.length then ([], 4) else (tb l, 0)
theorem intE_len (n : Int) : (intE n).1.length ≤ 1048586 := by
  unfold intE; split
  · simp
  · have := (nb_length n.toNat).2; simp only; omega
theorem textE_len (l : List UInt8) : (textE l).1.length ≤ 1048586 := by
  unfold textE; split
  · simp
  · have := (nb_length l.length).2; simp only [tb, List.length_append]; omega
/-- The parts' bytes behind others, or the first part's error. -/
def lsE {α : Type} (enc : α → List UInt8 × Int) : List UInt8 → List α → List UInt8 × Int
  | acc, [] => (acc, 0)
  | acc, x :: xs => if (enc x).2 = 0 then lsE enc (acc ++ (enc x).1) xs else ([], (enc x).2)
theorem lsE_at {α : Type} (enc : α → List UInt8 × Int) (acc : List UInt8) (xs : List α) (k : Nat) (h : k < xs.length) :
    lsE enc acc (xs.drop k) = if (enc xs[k]).2 = 0 then lsE enc (acc ++ (enc xs[k]).1) (xs.drop (k + 1)) else ([], (enc xs[k]).2) := by
  rw [List.drop_eq_getElem_cons h]; rfl
def listE {α : Type} (enc : α → List UInt8 × Int) (xs : List α) : List UInt8 × Int := lsE enc (nb xs.length) xs

theorem addInt_any (base : Nat) (n : Int) (v : Value) (l : List UInt8) (w : World) (hl : l.length < 70368740000000) (hb : base ≤ w.heap.size) (hown : Own w base 5 v l) :
    Calls Tryd.prog 95 #[v, .int .i64 n] w fun e w' => ∃ v', e = .returned (.tuple #[v', .int .i64 (intE n).2]) ∧
      ((intE n).2 = 0 → Own w' base 5 v' (l ++ (intE n).1)) ∧ Below base w w' := by
  by_cases h : n < 0 ∨ 4611686018427387903 < n
  · have e1 : intE n = ([], 2) := by unfold intE; rw [if_pos h]
    rw [e1]
    refine (addNum_no n v w h).mono ?_
    rintro e w' ⟨rfl, rfl⟩
    exact ⟨_, rfl, fun h => absurd h (by decide), Below.refl _ _⟩
  · obtain ⟨m, rfl⟩ := Int.eq_ofNat_of_zero_le (show 0 ≤ n by omega)
    have e1 : intE (m : Int) = (nb m, 0) := by unfold intE; rw [if_neg h]; simp
    rw [e1]
    refine (addNum_any base m v l w (by omega) (by omega) hb hown).mono ?_
    rintro e w' ⟨v', rfl, ho, hbl⟩
    exact ⟨_, rfl, fun _ => ho, hbl⟩


theorem refInt_any (n : Int) (w : World) :
    Calls Tryd.prog 57 #[.int .i64 n] w fun e w' => e = .returned (.tuple #[.string ⟨(intE n).1.toArray⟩, .int .i64 (intE n).2]) ∧ Below w.heap.size w w' := by
  by_cases h : n < 0 ∨ 4611686018427387903 < n
  · have e1 : intE n = ([], 2) := by unfold intE; rw [if_pos h]
    rw [e1]
    refine (refNum_no n w h).mono ?_
    rintro e w' ⟨rfl, rfl⟩
    exact ⟨rfl, Below.refl _ _⟩
  · obtain ⟨m, rfl⟩ := Int.eq_ofNat_of_zero_le (show 0 ≤ n by omega)
    have e1 : intE (m : Int) = (nb m, 0) := by unfold intE; rw [if_neg h]; simp
    rw [e1]
    exact refNum_ok m w (by omega)

theorem refStr_any (s : List UInt8) (w : World) :
    Calls Tryd.prog 33 #[.string ⟨s.toArray⟩] w fun e w' => e = .returned (.tuple #[.string ⟨(textE s).1.toArray⟩, .int .i64 (textE s).2]) ∧ Below w.heap.size w w' := by
  by_cases h : 1048576 < s.length
  · have e1 : textE s = ([], 4) := by unfold textE; rw [if_pos h]
    rw [e1]
    refine (refText_no s w h).mono ?_
    rintro e w' ⟨rfl, rfl⟩
    exact ⟨rfl, Below.refl _ _⟩
  · have e1 : textE s = (tb s, 0) := by unfold textE; rw [if_neg h]
    rw [e1]
    exact refText_ok s w (by omega)









theorem Row.below {α : Type} {enc : α → Value} {w w' : World} {v : Value} {xs : List α} (h : Row enc (· < w.heap.size) w v xs) (hb : Below w.heap.size w w') : Row enc (· < w'.heap.size) w' v xs :=
  (h.kept (Kept.of_below hb) (fun k hk hm => by omega)).mono fun k hk => Nat.lt_of_lt_of_le hk hb.size

end Go.Proofs.YtfgimhgkjodcgaaDoor

/- Plain mathematics of patterns: which may be, what they fit. Of no program. -/
import Derived.Test.YtkfkfpfnpfpkaaaDoorMarkMath
import Derived.Test.YtkfkfpfnpfpkaaaDoorReadW
import Derived.Test.YtkfkfpfnpfpkaaaDoorRowN
import Derived.Test.YtkfkfpfnpfpkaaaDoorRows
import Derived.Test.YtkfkfpfnpfpkaaaDoorTreeMath
import Derived.BigQuiet
import Derived.Deep.Draws
import Derived.Laws.Bits128
import Derived.Laws.IdiomStrings
import Derived.Lib.AppendStr
import Derived.Lib.Hide
import Derived.OpenShut
import Derived.ProofKit
import Derived.ShutString
import Derived.SizedLaws
import Derived.SliceStrings
import Derived.WalkKit
import Derived.WalkLawsBesides
import Derived.WalkSpells
set_option linter.unusedVariables false
namespace Go.Proofs.YtkfkfpfnpfpkaaaDoor
open Go.RowKit

def patC (c : UInt8) : UInt8 := if c = 42 ∨ c = 63 then 97 else c
def patOk (x : Txt) : Bool := (x == [42, 42]) || nameS (x.map patC)
def patternS (s : Txt) : Int := if 200 < s.length then 4 else if (namesS s).all patOk then 0 else 10
def starS {α : Type} (f : List α → Bool) : List α → Bool
  | [] => f []
  | d :: t => f (d :: t) || starS f t
def inS : Txt → Txt → Bool
  | [], s => s.isEmpty
  | c :: p, s => if c = 42 then starS (inS p) s else match s with
    | [] => false
    | d :: t => (c == 63 || c == d) && inS p t
def matF : List Txt → List Txt → Bool
  | [], l => l.isEmpty
  | p :: r, l => if p = [42, 42] then starS (matF r) l else match l with
    | [] => false
    | x :: t => inS p x && matF r t
def matchS (p s : Txt) : Bool := decide (patternS p = 0) && decide (pathS s = 0) && matF (namesS p) (namesS s)
theorem inS_end (p s : Txt) (k : Nat) (hk : k ≤ s.length) : inS (p.drop p.length) (s.drop k) = decide (k = s.length) := by
  rw [List.drop_eq_nil_of_le (Nat.le_refl _)]
  show (s.drop k).isEmpty = _
  by_cases h : k = s.length
  · rw [decide_eq_true h, h, List.drop_eq_nil_of_le (Nat.le_refl _)]; rfl
  · rw [decide_eq_false h, List.drop_eq_getElem_cons (show k < s.length by omega)]; rfl
theorem starS_at {α : Type} (f : List α → Bool) (s : List α) (k : Nat) : starS f (s.drop k) = (f (s.drop k) || (decide (k < s.length) && starS f (s.drop (k + 1)))) := by
  by_cases h : k < s.length
  · rw [List.drop_eq_getElem_cons h, decide_eq_true h, Bool.true_and]; rfl
  · rw [List.drop_eq_nil_of_le (by omega), decide_eq_false h, Bool.false_and, Bool.or_false]; rfl
theorem inS_star (p s : Txt) (i k : Nat) (hi : i < p.length) (hc : p[i] = 42) : inS (p.drop i) (s.drop k) = (inS (p.drop (i + 1)) (s.drop k) || (decide (k < s.length) && inS (p.drop i) (s.drop (k + 1)))) := by
  rw [List.drop_eq_getElem_cons hi]
  have e : ∀ x, inS (p[i] :: p.drop (i + 1)) x = starS (inS (p.drop (i + 1))) x := fun x => by
    show (if p[i] = 42 then _ else _) = _
    rw [if_pos hc]
  rw [e, e, starS_at]
theorem inS_one (p s : Txt) (i k : Nat) (hi : i < p.length) (hc : ¬ p[i] = 42) (hk : k < s.length) : inS (p.drop i) (s.drop k) = ((p[i] == 63 || p[i] == s[k]) && inS (p.drop (i + 1)) (s.drop (k + 1))) := by
  rw [List.drop_eq_getElem_cons hi, List.drop_eq_getElem_cons hk]
  show (if p[i] = 42 then _ else _) = _
  rw [if_neg hc]
theorem inS_none (p s : Txt) (i k : Nat) (hi : i < p.length) (hc : ¬ p[i] = 42) (hk : ¬ k < s.length) : inS (p.drop i) (s.drop k) = false := by
  rw [List.drop_eq_getElem_cons hi, show s.drop k = [] from List.drop_eq_nil_of_le (by omega)]
  show (if p[i] = 42 then _ else _) = _
  rw [if_neg hc]
theorem matF_end (p s : List Txt) (k : Nat) (hk : k ≤ s.length) : matF (p.drop p.length) (s.drop k) = decide (k = s.length) := by
  rw [List.drop_eq_nil_of_le (Nat.le_refl _)]
  show (s.drop k).isEmpty = _
  by_cases h : k = s.length
  · rw [decide_eq_true h, h, List.drop_eq_nil_of_le (Nat.le_refl _)]; rfl
  · rw [decide_eq_false h, List.drop_eq_getElem_cons (show k < s.length by omega)]; rfl
theorem matF_star (p s : List Txt) (i k : Nat) (hi : i < p.length) (hc : p[i] = [42, 42]) : matF (p.drop i) (s.drop k) = (matF (p.drop (i + 1)) (s.drop k) || (decide (k < s.length) && matF (p.drop i) (s.drop (k + 1)))) := by
  rw [List.drop_eq_getElem_cons hi]
  have e : ∀ x, matF (p[i] :: p.drop (i + 1)) x = starS (matF (p.drop (i + 1))) x := fun x => by
    show (if p[i] = [42, 42] then _ else _) = _
    rw [if_pos hc]
  rw [e, e, starS_at]
theorem matF_one (p s : List Txt) (i k : Nat) (hi : i < p.length) (hc : ¬ p[i] = [42, 42]) (hk : k < s.length) : matF (p.drop i) (s.drop k) = (inS p[i] s[k] && matF (p.drop (i + 1)) (s.drop (k + 1))) := by
  rw [List.drop_eq_getElem_cons hi, List.drop_eq_getElem_cons hk]
  show (if p[i] = [42, 42] then _ else _) = _
  rw [if_neg hc]
theorem matF_none (p s : List Txt) (i k : Nat) (hi : i < p.length) (hc : ¬ p[i] = [42, 42]) (hk : ¬ k < s.length) : matF (p.drop i) (s.drop k) = false := by
  rw [List.drop_eq_getElem_cons hi, show s.drop k = [] from List.drop_eq_nil_of_le (by omega)]
  show (if p[i] = [42, 42] then _ else _) = _
  rw [if_neg hc]
/-! ### A table filled from its end -/
def TabB (val : Nat → Nat → Bool) (W cur : Nat) (T : List Bool) : Prop := ∀ i k, k < W → cur ≤ i * W + k → i * W + k < T.length → T[i * W + k]? = some (val i k)
theorem TabB.set {val : Nat → Nat → Bool} {W i k : Nat} {T : List Bool} (h : TabB val W (i * W + k + 1) T) (hk : k < W) (hl : i * W + k < T.length) : TabB val W (i * W + k) (T.set (i * W + k) (val i k)) := by
  intro i' k' h1 h2 h3
  rw [List.length_set] at h3
  by_cases e : i * W + k = i' * W + k'
  · rw [← e, List.getElem?_set_self hl]
    have hW : 0 < W := by omega
    have e1 : i = i' := by
      have a1 : (i * W + k) / W = i := by rw [Nat.mul_comm, Nat.mul_add_div hW, Nat.div_eq_of_lt hk]; rfl
      have a2 : (i' * W + k') / W = i' := by rw [Nat.mul_comm, Nat.mul_add_div hW, Nat.div_eq_of_lt h1]; rfl
      rw [← a1, ← a2, e]
    subst e1
    have e2 : k = k' := by omega
    subst e2
    rfl
  · rw [List.getElem?_set_ne e]
    exact h i' k' h1 (by omega) h3
theorem TabB.le {val : Nat → Nat → Bool} {W a b : Nat} {T : List Bool} (h : TabB val W a T) (hab : a ≤ b) : TabB val W b T := fun i k h1 h2 h3 => h i k h1 (by omega) h3
end Go.Proofs.YtkfkfpfnpfpkaaaDoor

/- Several texts in one: GreedyMath, FitsMath, FitsBW, FitsNW, FitsTW. -/
import Derived.Test.YtkfkfpfnpfpkaaaDoorFrame
import Derived.Test.YtkfkfpfnpfpkaaaDoorMarkMath
import Derived.Test.YtkfkfpfnpfpkaaaDoorMatchMath
import Derived.Test.YtkfkfpfnpfpkaaaDoorOwnL
import Derived.Test.YtkfkfpfnpfpkaaaDoorRowN
import Derived.Test.YtkfkfpfnpfpkaaaDoorRows
import Derived.Test.YtkfkfpfnpfpkaaaDoorTreeMath
import Derived.BigQuiet
import Derived.Deep.Draws
import Derived.Laws.Bits128
import Derived.Laws.IdiomStrings
import Derived.Lib.AppendStr
import Derived.Lib.Hide
import Derived.WalkKit
import Derived.WalkLawsBesides
import Derived.WalkSpells
import Derived.Test.YtkfkfpfnpfpkaaaDoorGen
import Derived.OpenShut
import Derived.ProofKit
import Derived.ShutString
import Derived.SizedLaws
import Derived.SliceStrings
import Derived.Test.YtkfkfpfnpfpkaaaDoorProg
import Derived.Test.YtkfkfpfnpfpkaaaDoorQuietBelow
import Derived.Test.YtkfkfpfnpfpkaaaDoorReadW
import Derived.Deep.QuietTactic
import Derived.Test.YtkfkfpfnpfpkaaaDoorRefPatW
/- Plain mathematics of matching by one place to come back to: it tells what the table tells. Of no program. -/
set_option linter.unusedVariables false
namespace Go.Proofs.YtkfkfpfnpfpkaaaDoor
open Go.RowKit

/-- A pattern's parts fit a list: a part that is any many, or one that fits just one. -/
def fitG {α : Type} (anyM : α → Bool) (one : α → α → Bool) : List α → List α → Bool
  | [], l => l.isEmpty
  | c :: p, l => if anyM c then starS (fitG anyM one p) l else match l with
    | [] => false
    | d :: t => one c d && fitG anyM one p t
section
variable {α : Type} {anyM : α → Bool} {one : α → α → Bool}
theorem fitG_star (p s : List α) (i k : Nat) (hi : i < p.length) (hc : anyM p[i] = true) : fitG anyM one (p.drop i) (s.drop k) = (fitG anyM one (p.drop (i + 1)) (s.drop k) || (decide (k < s.length) && fitG anyM one (p.drop i) (s.drop (k + 1)))) := by
  rw [List.drop_eq_getElem_cons hi]
  have e : ∀ x, fitG anyM one (p[i] :: p.drop (i + 1)) x = starS (fitG anyM one (p.drop (i + 1))) x := fun x => by
    show (if anyM p[i] then _ else _) = _
    rw [if_pos hc]
  rw [e, e, starS_at]
theorem fitG_one (p s : List α) (i k : Nat) (hi : i < p.length) (hc : anyM p[i] = false) (hk : k < s.length) : fitG anyM one (p.drop i) (s.drop k) = (one p[i] s[k] && fitG anyM one (p.drop (i + 1)) (s.drop (k + 1))) := by
  rw [List.drop_eq_getElem_cons hi, List.drop_eq_getElem_cons hk]
  show (if anyM p[i] then _ else _) = _
  rw [if_neg (by rw [hc]; decide)]
theorem fitG_none (p s : List α) (i k : Nat) (hi : i < p.length) (hc : anyM p[i] = false) (hk : ¬ k < s.length) : fitG anyM one (p.drop i) (s.drop k) = false := by
  rw [List.drop_eq_getElem_cons hi, show s.drop k = [] from List.drop_eq_nil_of_le (by omega)]
  show (if anyM p[i] then _ else _) = _
  rw [if_neg (by rw [hc]; decide)]
theorem fitG_end (p s : List α) (k : Nat) : fitG anyM one (p.drop p.length) (s.drop k) = decide (s.length ≤ k) := by
  rw [List.drop_eq_nil_of_le (Nat.le_refl _)]
  show (s.drop k).isEmpty = _
  by_cases h : s.length ≤ k
  · rw [decide_eq_true h, List.drop_eq_nil_of_le h]; rfl
  · rw [decide_eq_false h, List.drop_eq_getElem_cons (show k < s.length by omega)]; rfl
/-- The pattern's parts from i on fit the list from k on. -/
def F (anyM : α → Bool) (one : α → α → Bool) (p s : List α) (i k : Nat) : Prop := fitG anyM one (p.drop i) (s.drop k) = true
/-- Behind any many: the rest fits from k on, if it fits from somewhere behind k. -/
theorem F_star (p s : List α) (i : Nat) (hi : i < p.length) (hc : anyM p[i] = true) : ∀ k, k ≤ s.length → (F anyM one p s i k ↔ ∃ j, k ≤ j ∧ j ≤ s.length ∧ F anyM one p s (i + 1) j) := by
  have key : ∀ n k, k ≤ s.length → s.length - k = n → (F anyM one p s i k ↔ ∃ j, k ≤ j ∧ j ≤ s.length ∧ F anyM one p s (i + 1) j) := by
    intro n
    induction n with
    | zero =>
      intro k hk hn
      unfold F
      rw [fitG_star p s i k hi hc, decide_eq_false (by omega), Bool.false_and, Bool.or_false]
      constructor
      · intro h; exact ⟨k, Nat.le_refl _, hk, h⟩
      · rintro ⟨j, h1, h2, h3⟩
        obtain rfl : j = k := by omega
        exact h3
    | succ n ih =>
      intro k hk hn
      have IH := ih (k + 1) (by omega) (by omega)
      unfold F at IH ⊢
      rw [fitG_star p s i k hi hc, decide_eq_true (by omega), Bool.true_and, Bool.or_eq_true, IH]
      constructor
      · rintro (h | ⟨j, h1, h2, h3⟩)
        · exact ⟨k, Nat.le_refl _, hk, h⟩
        · exact ⟨j, by omega, h2, h3⟩
      · rintro ⟨j, h1, h2, h3⟩
        by_cases e : j = k
        · subst e; exact .inl h3
        · exact .inr ⟨j, by omega, h2, h3⟩
  exact fun k hk => key _ k hk rfl
/-- What stands behind the last any many: parts from b on, each for just one, up to i, fit from t on up to t + (i - b). -/
def Run (anyM : α → Bool) (one : α → α → Bool) (p s : List α) (b i t : Nat) : Prop :=
  b ≤ i ∧ i ≤ p.length ∧ t + (i - b) ≤ s.length ∧ ∀ j, b ≤ j → j < i → ∃ (h1 : j < p.length) (h2 : t + (j - b) < s.length), anyM p[j] = false ∧ one p[j] s[t + (j - b)] = true
theorem Run.fit {p s : List α} {b i t : Nat} (h : Run anyM one p s b i t) : F anyM one p s b t ↔ F anyM one p s i (t + (i - b)) := by
  obtain ⟨hbi, hip, his, hr⟩ := h
  have key : ∀ n, b + n ≤ i → (F anyM one p s b t ↔ F anyM one p s (b + n) (t + n)) := by
    intro n
    induction n with
    | zero => intro _; exact Iff.rfl
    | succ n ih =>
      intro hn
      obtain ⟨h1, h2, h3, h4⟩ := hr (b + n) (by omega) (by omega)
      rw [ih (by omega)]
      unfold F
      have e : t + (b + n - b) = t + n := by omega
      simp only [e] at h2 h4
      rw [fitG_one p s (b + n) (t + n) h1 h3 h2, h4, Bool.true_and]
      exact Iff.rfl
  have := key (i - b) (by omega)
  rwa [show b + (i - b) = i by omega] at this
/-- The state: no any many as yet (a = -1), or the last one is just ahead of b, was tried up to t, and now stands at i. -/
structure Greedy (anyM : α → Bool) (one : α → α → Bool) (p s : List α) (i at_ : Nat) (again : Int) (taken : Nat) : Prop where
  ip : i ≤ p.length
  al : at_ ≤ s.length
  nul : again = -1 → ∀ {k}, k = 0 → (F anyM one p s 0 0 ↔ F anyM one p s i at_)
  last : again ≠ -1 → ∃ b : Nat, again = (b : Int) ∧ 0 < b ∧ taken ≤ at_ ∧ at_ = taken + (i - b) ∧ Run anyM one p s b i taken ∧ (F anyM one p s 0 0 ↔ ∃ j, taken ≤ j ∧ j ≤ s.length ∧ F anyM one p s b j)
theorem Greedy.start (p s : List α) : Greedy anyM one p s 0 0 (-1) 0 :=
  ⟨Nat.zero_le _, Nat.zero_le _, fun _ _ _ => Iff.rfl, fun h => absurd rfl h⟩
/-- Whatever an earlier any many could take, the next one can: parts behind it from t' on fit as well as from t on. -/
theorem F_later {p s : List α} {b i t j : Nat} (hr : Run anyM one p s b i t) (hi : i < p.length) (hc : anyM p[i] = true) (hj : t ≤ j) (hjs : j ≤ s.length) (hf : F anyM one p s b j) : F anyM one p s i (t + (i - b)) := by
  -- from j on the parts up to i take i - b of the list, too; then the rest fits somewhere behind
  obtain ⟨hbi, hip, his, hq⟩ := hr
  have key : ∀ n, b + n ≤ i → (j + n ≤ s.length ∧ F anyM one p s (b + n) (j + n)) := by
    intro n
    induction n with
    | zero => intro _; exact ⟨hjs, hf⟩
    | succ n ih =>
      intro hn
      obtain ⟨h0, hF⟩ := ih (by omega)
      obtain ⟨h1, h2, h3, h4⟩ := hq (b + n) (by omega) (by omega)
      unfold F at hF ⊢
      by_cases hlt : j + n < s.length
      · rw [fitG_one p s (b + n) (j + n) h1 h3 hlt, Bool.and_eq_true] at hF
        exact ⟨by omega, hF.2⟩
      · rw [fitG_none p s (b + n) (j + n) h1 h3 hlt] at hF
        cases hF
  obtain ⟨k1, k2⟩ := key (i - b) (by omega)
  rw [show b + (i - b) = i by omega] at k2
  rw [F_star p s i hi hc _ (by omega)] at k2
  obtain ⟨m, m1, m2, m3⟩ := k2
  rw [F_star p s i hi hc _ (by omega)]
  exact ⟨m, by omega, m2, m3⟩
theorem Greedy.many {p s : List α} {i at_ taken : Nat} {again : Int} (h : Greedy anyM one p s i at_ again taken) (hi : i < p.length) (hc : anyM p[i] = true) :
    Greedy anyM one p s (i + 1) at_ ((i + 1 : Nat) : Int) at_ := by
  have hal := h.al
  refine ⟨by omega, h.al, fun e => by omega, fun _ => ⟨i + 1, rfl, by omega, Nat.le_refl _, by omega, ⟨Nat.le_refl _, by omega, by omega, fun j h1 h2 => by omega⟩, ?_⟩⟩
  have hs := F_star p s i hi hc (one := one) at_ h.al
  rw [← hs]
  by_cases e : again = -1
  · exact h.nul e rfl
  · obtain ⟨b, hb, hb0, ht, hat, hr, hf⟩ := h.last e
    rw [hf]
    constructor
    · rintro ⟨j, j1, j2, j3⟩
      rw [hat]; exact F_later hr hi hc j1 j2 j3
    · intro hF
      exact ⟨taken, Nat.le_refl _, by have := h.al; omega, by rw [hr.fit, ← hat]; exact hF⟩
theorem Greedy.step {p s : List α} {i at_ taken : Nat} {again : Int} (h : Greedy anyM one p s i at_ again taken) (hi : i < p.length) (hc : anyM p[i] = false) (ha : at_ < s.length) (ho : one p[i] s[at_] = true) :
    Greedy anyM one p s (i + 1) (at_ + 1) again taken := by
  refine ⟨by omega, by omega, fun e k hk => ?_, fun e => ?_⟩
  · rw [h.nul e rfl]
    unfold F
    rw [fitG_one p s i at_ hi hc ha, ho, Bool.true_and]
  · obtain ⟨b, hb, hb0, ht, hat, hr, hf⟩ := h.last e
    obtain ⟨r1, r2, r3, r4⟩ := hr
    have q1 : taken ≤ at_ + 1 := by omega
    have q2 : at_ + 1 = taken + (i + 1 - b) := by clear r4 hf ho h; omega
    have q3 : b ≤ i + 1 := by omega
    have q4 : taken + (i + 1 - b) ≤ s.length := by clear r4 hf ho h; omega
    refine ⟨b, hb, hb0, q1, q2, ⟨q3, hi, q4, fun j h1 h2 => ?_⟩, hf⟩
    by_cases e1 : j = i
    · subst e1
      have e2 : taken + (j - b) = at_ := by clear r4 hf ho h; omega
      have e4 : taken + (j - b) < s.length := by rw [e2]; exact ha
      have e3 : s[taken + (j - b)] = s[at_] := getElem_congr_idx e2
      exact ⟨hi, e4, hc, by rw [e3]; exact ho⟩
    · exact r4 j h1 (by omega)
/-- Where the parts stand does not fit: so the last any many takes one more. -/
theorem Greedy.back {p s : List α} {i at_ taken : Nat} {again : Int} (h : Greedy anyM one p s i at_ again taken) (ha : at_ < s.length) (hno : ¬ F anyM one p s i at_) (hn : again ≠ -1) :
    Greedy anyM one p s again.toNat (taken + 1) again (taken + 1) := by
  obtain ⟨b, hb, hb0, ht, hat, hr, hf⟩ := h.last hn
  have e1 : again.toNat = b := by omega
  obtain ⟨r1, r2, r3, r4⟩ := hr
  rw [e1]
  refine ⟨by omega, by omega, fun e => absurd e hn, fun _ => ⟨b, hb, hb0, Nat.le_refl _, by omega, ⟨Nat.le_refl _, by omega, by omega, fun j h1 h2 => by omega⟩, ?_⟩⟩
  rw [hf]
  constructor
  · rintro ⟨j, j1, j2, j3⟩
    by_cases e : j = taken
    · subst e
      rw [Run.fit ⟨r1, r2, r3, r4⟩, ← hat] at j3
      exact absurd j3 hno
    · exact ⟨j, by omega, j2, j3⟩
  · rintro ⟨j, j1, j2, j3⟩
    exact ⟨j, by omega, j2, j3⟩
theorem Greedy.no {p s : List α} {i at_ taken : Nat} {again : Int} (h : Greedy anyM one p s i at_ again taken) (hno : ¬ F anyM one p s i at_) (hn : again = -1) : fitG anyM one p s = false := by
  have := h.nul hn (k := 0) rfl
  unfold F at this hno
  rw [List.drop_zero, List.drop_zero] at this
  cases e : fitG anyM one p s with
  | false => rfl
  | true => exact absurd (this.1 e) hno
/-- What can't fit where it stands. -/
theorem not_F {p s : List α} {i at_ : Nat} (ha : at_ < s.length) (h : ∀ hi : i < p.length, anyM p[i] = false ∧ one p[i] s[at_] = false) (hip : i ≤ p.length) : ¬ F anyM one p s i at_ := by
  unfold F
  by_cases hi : i < p.length
  · obtain ⟨h1, h2⟩ := h hi
    rw [fitG_one p s i at_ hi h1 ha, h2]; simp
  · obtain rfl : i = p.length := by omega
    rw [fitG_end, decide_eq_false (by omega)]; simp
/-- At the list's end: the parts left over must all be any many. -/
def restS (anyM : α → Bool) (p : List α) (i : Nat) : Bool := (p.drop i).all anyM
theorem F_rest (p s : List α) : ∀ n i, p.length - i = n → i ≤ p.length → fitG anyM one (p.drop i) (s.drop s.length) = (p.drop i).all anyM := by
  intro n
  induction n with
  | zero =>
    intro i h1 h2
    obtain rfl : i = p.length := by omega
    rw [fitG_end, decide_eq_true (Nat.le_refl _), List.drop_eq_nil_of_le (Nat.le_refl _)]; rfl
  | succ n ih =>
    intro i h1 h2
    have hi : i < p.length := by omega
    rw [show (p.drop i).all anyM = (anyM p[i] && (p.drop (i + 1)).all anyM) by rw [List.drop_eq_getElem_cons hi]; rfl]
    cases hc : anyM p[i] with
    | true => rw [fitG_star p s i s.length hi hc, decide_eq_false (by omega), Bool.false_and, Bool.or_false, Bool.true_and, ih (i + 1) (by omega) (by omega)]
    | false => rw [fitG_none p s i s.length hi hc (by omega), Bool.false_and]
theorem Greedy.ends {p s : List α} {i taken : Nat} {again : Int} (h : Greedy anyM one p s i s.length again taken) : fitG anyM one p s = (p.drop i).all anyM := by
  have hF : F anyM one p s 0 0 ↔ F anyM one p s i s.length := by
    by_cases e : again = -1
    · exact h.nul e rfl
    · obtain ⟨b, hb, hb0, ht, hat, hr, hf⟩ := h.last e
      rw [hf]
      constructor
      · rintro ⟨j, j1, j2, j3⟩
        obtain ⟨r1, r2, r3, r4⟩ := hr
        -- from j on: as long as the run, so j = taken
        by_cases e2 : j = taken
        · subst e2
          rw [Run.fit ⟨r1, r2, r3, r4⟩, ← hat] at j3; exact j3
        · exfalso
          have key : ∀ n, b + n ≤ i → (j + n ≤ s.length ∧ F anyM one p s (b + n) (j + n)) := by
            intro n
            induction n with
            | zero => intro _; exact ⟨j2, j3⟩
            | succ n ih =>
              intro hn
              obtain ⟨h0, hF⟩ := ih (by omega)
              obtain ⟨h1, h2, h3, h4⟩ := r4 (b + n) (by omega) (by omega)
              unfold F at hF ⊢
              by_cases hlt : j + n < s.length
              · rw [fitG_one p s (b + n) (j + n) h1 h3 hlt, Bool.and_eq_true] at hF
                exact ⟨by omega, hF.2⟩
              · rw [fitG_none p s (b + n) (j + n) h1 h3 hlt] at hF
                cases hF
          have := (key (i - b) (by omega)).1
          omega
      · intro hF
        exact ⟨taken, Nat.le_refl _, by omega, by rw [hr.fit, ← hat]; exact hF⟩
  have hR := F_rest (anyM := anyM) (one := one) p s (p.length - i) i rfl h.ip
  unfold F at hF
  rw [List.drop_zero, List.drop_zero, hR] at hF
  cases e1 : fitG anyM one p s <;> cases e2 : (p.drop i).all anyM
  · rfl
  · exact absurd (hF.2 e2) (by rw [e1]; decide)
  · exact absurd (hF.1 e1) (by rw [e2]; decide)
  · rfl
end
/-! ### A name; a path -/
def anyB (c : UInt8) : Bool := c == 42
def oneB (c d : UInt8) : Bool := c == 63 || c == d
def anyT (p : Txt) : Bool := p == [42, 42]
theorem fitG_inS : ∀ p s, fitG anyB oneB p s = inS p s
  | [], s => rfl
  | c :: p, s => by
    have ih : fitG anyB oneB p = inS p := funext (fitG_inS p)
    unfold fitG inS
    rw [ih]
    by_cases h : c = 42
    · rw [if_pos (by simp [anyB, h]), if_pos h]
    · rw [if_neg (by simp [anyB, h]), if_neg h]; cases s <;> rfl
theorem fitG_matF : ∀ p s, fitG anyT inS p s = matF p s
  | [], s => rfl
  | c :: p, s => by
    have ih : fitG anyT inS p = matF p := funext (fitG_matF p)
    unfold fitG matF
    rw [ih]
    by_cases h : c = [42, 42]
    · rw [if_pos (by simp [anyT, h]), if_pos h]
    · rw [if_neg (by simp [anyT, h]), if_neg h]; cases s <;> rfl
/-! ### A pattern is just a path -/
theorem patC_ok (x : UInt8) : okC (patC x) = okC x := by
  unfold patC
  split
  · rename_i h; rcases h with rfl | rfl <;> rfl
  · rfl
theorem patOk_name (x : Txt) : patOk x = nameS x := by
  unfold patOk
  by_cases h : x = [42, 42]
  · subst h; decide
  · rw [show (x == [42, 42]) = false by simp [h], Bool.false_or]
    unfold nameS
    have e1 : (x.map patC == []) = (x == []) := by cases x <;> rfl
    have hp : ∀ c : UInt8, (patC c == 46) = (c == 46) := by
      intro c; unfold patC
      split
      · rename_i h; rcases h with rfl | rfl <;> rfl
      · rfl
    have e2 : (x.map patC == [46]) = (x == [46]) := by
      match x with
      | [] => rfl
      | [c] => simp [hp c]
      | _ :: _ :: _ => simp
    have e3 : (x.map patC == [46, 46]) = (x == [46, 46]) := by
      match x with
      | [] => rfl
      | [c] => simp
      | [c, d] => simp [hp c, hp d]
      | _ :: _ :: _ :: _ => simp
    have e4 : (x.map patC).all okC = x.all okC := by
      rw [List.all_map]
      congr 1
      funext c
      exact patC_ok c
    rw [e1, e2, e3, e4, List.length_map]
theorem patternS_path (s : Txt) : patternS s = pathS s := by
  unfold patternS pathS
  rw [show patOk = nameS from funext patOk_name]
end Go.Proofs.YtkfkfpfnpfpkaaaDoor
/- Of no program: what the walk of fits counts down; a list's elements, loaded one by one. -/
set_option linter.unusedVariables false
namespace Go.Proofs.YtkfkfpfnpfpkaaaDoor
open Go.RowKit

def msr (P S a t k : Nat) : Nat := (P + 1 - a) * ((S + 2) * (S + 2)) + (S + 1 - t) * (S + 2) + (S + 1 - k)
theorem msr_star {P S a a' t k : Nat} (h : a < a') (hP : a' ≤ P + 1) (hk : k ≤ S) (ht : t ≤ k) : msr P S a' k k < msr P S a t k := by
  unfold msr
  have h1 : (P + 1 - a' + 1) * ((S + 2) * (S + 2)) ≤ (P + 1 - a) * ((S + 2) * (S + 2)) := Nat.mul_le_mul_right _ (by omega)
  rw [Nat.succ_mul] at h1
  have h2 : (S + 1 - k) * (S + 2) ≤ (S + 1) * (S + 2) := Nat.mul_le_mul_right _ (by omega)
  have h3 : (S + 2) * (S + 2) = (S + 1) * (S + 2) + (S + 2) := Nat.succ_mul (S + 1) (S + 2)
  omega
theorem msr_one {P S a t k : Nat} (hk : k < S) : msr P S a t (k + 1) < msr P S a t k := by unfold msr; omega
theorem msr_back {P S a t k k' : Nat} (ht : t < S) (hk : k' = t + 1) : msr P S a (t + 1) k' < msr P S a t k := by
  unfold msr
  have h1 : (S + 1 - t) * (S + 2) = (S + 1 - (t + 1)) * (S + 2) + (S + 2) := by
    rw [show S + 1 - t = S + 1 - (t + 1) + 1 by omega, Nat.succ_mul]
  omega
/-- Each of a list, loaded. -/
def EachG {α : Type} (enc : α → Value) (w : World) (a : Option Addr) (l : List α) : Prop := ∀ i (hi : i < l.length), ∃ g o, a = some ⟨g, o, none⟩ ∧ w.cell? ⟨g, o + i, none⟩ = some (enc l[i])
theorem EachG.new {α : Type} {enc : α → Value} {w w' : World} {a : Option Addr} {l : List α} (h : EachG enc w a l) (hb : Below w.heap.size w w') : EachG enc w' a l := fun i hi => by
  obtain ⟨g, o, e, hc⟩ := h i hi
  exact ⟨g, o, e, by rw [World.cell?_of_block (w := w) ((Kept.new hb (fun _ => False)).block g (World.block_lt_of_cell? w _ hc) id)]; exact hc⟩
def encB (b : UInt8) : Value := .int .u8 ((b.toNat : Nat) : Int)
def encS (t : Txt) : Value := .string ⟨t.toArray⟩
end Go.Proofs.YtkfkfpfnpfpkaaaDoor
/- Landed tree: fits over bytes, fitsName, walked (printed by wip/gen/fits.py). -/
set_option linter.unusedVariables false
namespace Go.Proofs.YtkfkfpfnpfpkaaaDoor
open Go.RowKit

set_option maxRecDepth 100000 in
theorem anyB_any (c : UInt8) (w : World) : Calls Tryd.prog 130 #[encB c] w fun e w' => e = .returned (.bool (anyB c)) ∧ w' = w := by
  have hb := c.toNat_lt
  have HQ := Lib.hid (show (((c.toNat : Nat) : Int) == 42) = anyB c by
    unfold anyB
    by_cases h : c = 42
    · subst h; rfl
    · have hn : ¬ c.toNat = 42 := fun e => h (UInt8.toNat_inj.1 e)
      rw [beq_eq_false_iff_ne.2 h, beq_eq_false_iff_ne.2 (by omega)])
  unfold encB
  generalize anyB c = r at *
  generalize c.toNat = n at *
  go_enter Tryd.func130, Tryd.ntmps130
  go_wp2_with fail
  go_ret
  exact ⟨by rw [← HQ.out]; rfl, rfl⟩
set_option maxRecDepth 100000 in
theorem oneB_any (c d : UInt8) (w : World) : Calls Tryd.prog 131 #[encB c, encB d] w fun e w' => e = .returned (.bool (oneB c d)) ∧ Below w.heap.size w w' := by
  have hb := c.toNat_lt
  have hb2 := d.toNat_lt
  have Q1 : (((c.toNat : Nat) : Int) == 63) = (c == 63) := by
    by_cases h : c = 63
    · subst h; rfl
    · have hn : ¬ c.toNat = 63 := fun e => h (UInt8.toNat_inj.1 e)
      rw [beq_eq_false_iff_ne.2 h, beq_eq_false_iff_ne.2 (by omega)]
  have Q2 : (((c.toNat : Nat) : Int) == ((d.toNat : Nat) : Int)) = (c == d) := by
    by_cases h : c = d
    · subst h; simp
    · have hn : ¬ c.toNat = d.toNat := fun e => h (UInt8.toNat_inj.1 e)
      rw [beq_eq_false_iff_ne.2 h, beq_eq_false_iff_ne.2 (by omega)]
  unfold encB oneB
  generalize (c == 63) = r1 at *
  generalize (c == d) = r2 at *
  generalize c.toNat = n at *
  generalize d.toNat = m at *
  cases r1 with
  | true =>
    go_enter Tryd.func131, Tryd.ntmps131
    go_wp2_with fail
    go_ret
    exact ⟨by simp, Below.refl _ _⟩
  | false =>
    go_enter Tryd.func131, Tryd.ntmps131
    go_wp2_with fail
    go_ret
    exact ⟨by simp, Below.refl _ _⟩
set_option maxRecDepth 100000 in
set_option maxHeartbeats 2000000 in
theorem fitsB_any (va vb : Option Addr) (ca cb : Nat) (p s : List UInt8) (w : World) (h1 : EachG encB w va p) (h2 : EachG encB w vb s) (hp : p.length ≤ 1000000) (hs : s.length ≤ 1000000) :
    Calls Tryd.prog 132 #[.slice va p.length ca, .slice vb s.length cb, .func (.func 130) #[] #[], .func (.func 131) #[] #[]] w fun e w' => e = .returned (.bool (fitG anyB oneB p s)) ∧ Below w.heap.size w w' := by
  have H1 := Lib.hid h1
  have H2 := Lib.hid h2
  clear h1 h2
  obtain ⟨res, hres⟩ : ∃ res, res = fitG anyB oneB p s := ⟨_, rfl⟩
  have HRES := Lib.hid hres.symm
  rw [← hres]
  clear hres
  have G0 := Lib.hid (Greedy.start (anyM := anyB) (one := oneB) p s)
  go_enter Tryd.func132, Tryd.ntmps132
  go_wp2_with fail
  go_loopw [9, 10, 11, 12] (fun v9 v10 v11 v12 wr => ∃ (i k t : Nat) (ag : Int), v9 = .int .i64 i ∧ v10 = .int .i64 ag ∧ v11 = .int .i64 t ∧ v12 = .int .i64 k ∧ i ≤ p.length ∧ k ≤ s.length ∧ t ≤ k ∧ -1 ≤ ag ∧ ag ≤ i ∧ Hid (Greedy anyB oneB p s i k ag t) ∧ Below w.heap.size w wr) (fun v9 v10 v11 v12 _ => msr p.length s.length (intOf v10 + 1).toNat (intOf v11).toNat (intOf v12).toNat)
  case atStart => exact ⟨0, 0, 0, -1, rfl, rfl, rfl, rfl, by omega, by omega, by omega, by omega, by omega, G0, Below.refl _ _⟩
  case round =>
    clear G0
    obtain ⟨i, k, t, ag, rfl, rfl, rfl, rfl, hip, hks, htk, hag0, hag1, HG, hbel⟩ := hrel
    have HB := Lib.hid hbel
    clear hbel
    have i0 : (0 : Int) ≤ (i : Int) := by omega
    have k0 : (0 : Int) ≤ (k : Int) := by omega
    by_cases hk : k < s.length
    · have kk : (k : Int) < (s.length : Int) := by omega
      obtain ⟨g2, o2, rfl, c2⟩ := (H2.out.new HB.out) k hk
      by_cases hi : i < p.length
      · have ii : (i : Int) < (p.length : Int) := by omega
        have d1 : decide ((i : Int) < (p.length : Int)) = true := decide_eq_true ii
        have d2 : decide (i < p.length) = true := decide_eq_true hi
        obtain ⟨g1, o1, rfl, c1⟩ := (H1.out.new HB.out) i hi
        have AN := fun w' => Lib.hid (anyB_any p[i] w')
        have ON := fun w' => Lib.hid (oneB_any p[i] s[k] w')
        have HNG := Lib.hid (fun (ha : anyB p[i] = false) (ho : oneB p[i] s[k] = false) => not_F (anyM := anyB) (one := oneB) (i := i) hk (fun _ => ⟨ha, ho⟩) hip)
        have HGM := Lib.hid (fun ha => HG.out.many hi ha)
        have HGS := Lib.hid (fun ha ho => HG.out.step hi ha hk ho)
        obtain ⟨ba, hba⟩ : ∃ ba, ba = anyB p[i] := ⟨_, rfl⟩
        obtain ⟨bo, hbo⟩ : ∃ bo, bo = oneB p[i] s[k] := ⟨_, rfl⟩
        rw [← hba] at AN HNG HGM HGS
        rw [← hbo] at ON HNG HGS
        clear hba hbo
        generalize encB p[i] = x at *
        generalize encB s[k] = y at *
        cases ba with
        | true =>
          have HG2 := Lib.hid (HGM.out rfl)
          clear HGM HGS HNG HG
          go_wp2_with fail
          refine (AN _).out.mono ?_
          rintro e w1 ⟨rfl, rfl⟩
          go_wp2_with fail
          go_roundw
          case rel => exact ⟨i + 1, k, k, ((i + 1 : Nat) : Int), by go_num, by go_num, rfl, rfl, hi, hks, Nat.le_refl _, by omega, by omega, HG2, HB.out⟩
          case measure =>
            have e1 : (intOf (.int .i64 ag) + 1).toNat < (intOf (.int .i64 ((i : Int) + 1)) + 1).toNat := by simp [intOf]; omega
            exact msr_star e1 (by simp [intOf]; omega) hks htk
        | false =>
          cases bo with
          | true =>
            have HG2 := Lib.hid (HGS.out rfl rfl)
            clear HGM HGS HNG HG
            go_wp2_with fail
            refine (AN _).out.mono ?_
            rintro e w1 ⟨rfl, rfl⟩
            go_wp2_with fail
            have C1 := below_cell c1
            have C2 := below_cell c2
            refine wp_region_below (by kernel_rfl) (by kernel_rfl) ?_
            repeat (go_big_quiet_step ((go_at_call 131; with_reducible exact below_calls (ON _).out)))
            refine wpQuiet_nil ?_
            rintro w8 ⟨⟨w8b, hb8⟩, e8⟩
            have e8' : w8 = w8b := e8
            clear e8
            subst e8'
            have HB8 := Lib.hid (HB.out.trans (hb8.mono HB.out.size))
            clear C1 C2 hb8
            go_wp2_with fail
            go_roundw
            case rel => exact ⟨i + 1, k + 1, t, ag, by go_num, rfl, rfl, by go_num, hi, hk, by omega, hag0, by omega, HG2, HB8.out⟩
            case measure => exact msr_one (show (intOf (.int .i64 (k : Int))).toNat < s.length by simpa [intOf] using hk)
          | false =>
            have HNF := Lib.hid (HNG.out rfl rfl)
            clear HGM HGS HNG
            go_wp2_with fail
            refine (AN _).out.mono ?_
            rintro e w1 ⟨rfl, rfl⟩
            go_wp2_with fail
            have C1 := below_cell c1
            have C2 := below_cell c2
            refine wp_region_below (by kernel_rfl) (by kernel_rfl) ?_
            repeat (go_big_quiet_step ((go_at_call 131; with_reducible exact below_calls (ON _).out)))
            refine wpQuiet_nil ?_
            rintro w8 ⟨⟨w8b, hb8⟩, e8⟩
            have e8' : w8 = w8b := e8
            clear e8
            subst e8'
            have HB8 := Lib.hid (HB.out.trans (hb8.mono HB.out.size))
            clear C1 C2 hb8
            by_cases hag : ag = -1
            · have HR := Lib.hid (show false = res by rw [← HRES.out]; exact (HG.out.no HNF.out hag).symm)
              subst hag
              go_wp2_with fail
              go_ret
              exact ⟨by rw [← HR.out]; rfl, HB8.out⟩
            · have HGB := Lib.hid (HG.out.back hk HNF.out hag)
              obtain ⟨b, rfl⟩ : ∃ b : Nat, ag = (b : Int) := ⟨ag.toNat, by omega⟩
              have hb0 : (b : Int) ≥ 0 := by omega
              have hb1 : ¬ (b : Int) < 0 := by omega
              go_wp2_with fail
              go_roundw
              case rel => exact ⟨b, t + 1, t + 1, (b : Int), rfl, rfl, by go_num, by go_num, by omega, by omega, Nat.le_refl _, by omega, by omega, Lib.hid (by have h := HGB.out; simpa using h), HB8.out⟩
              case measure => exact msr_back (show t < s.length by omega) (by simp [intOf])
      · have ii : ¬ (i : Int) < (p.length : Int) := by omega
        have d1 : decide ((i : Int) < (p.length : Int)) = false := decide_eq_false ii
        have d2 : decide (i < p.length) = false := decide_eq_false hi
        have HNF := Lib.hid (not_F (anyM := anyB) (one := oneB) (i := i) hk (fun h => absurd h hi) hip)
        go_wp2_with fail
        go_quiet (fail)
        have HB8 := Lib.hid (Below_drewN HB.out nq)
        generalize wr.drewN nq = w8 at *
        by_cases hag : ag = -1
        · have HR := Lib.hid (show false = res by rw [← HRES.out]; exact (HG.out.no HNF.out hag).symm)
          subst hag
          go_wp2_with fail
          go_ret
          exact ⟨by rw [← HR.out]; rfl, HB8.out⟩
        · have HGB := Lib.hid (HG.out.back hk HNF.out hag)
          obtain ⟨b, rfl⟩ : ∃ b : Nat, ag = (b : Int) := ⟨ag.toNat, by omega⟩
          have hb0 : (b : Int) ≥ 0 := by omega
          have hb1 : ¬ (b : Int) < 0 := by omega
          go_wp2_with fail
          go_roundw
          case rel => exact ⟨b, t + 1, t + 1, (b : Int), rfl, rfl, by go_num, by go_num, by omega, by omega, Nat.le_refl _, by omega, by omega, Lib.hid (by have h := HGB.out; simpa using h), HB8.out⟩
          case measure => exact msr_back (show t < s.length by omega) (by simp [intOf])
    · have kk : ¬ (k : Int) < (s.length : Int) := by omega
      obtain rfl : k = s.length := by omega
      have HE := Lib.hid (show (p.drop i).all anyB = res by rw [← HG.out.ends]; exact HRES.out)
      clear HG HRES
      go_wp2_with fail
      go_loopw [9] (fun v9 w5 => ∃ i : Nat, v9 = .int .i64 i ∧ i ≤ p.length ∧ Hid ((p.drop i).all anyB = res) ∧ Below w.heap.size w w5) (fun v9 _ => p.length - (intOf v9).toNat)
      case atStart => exact ⟨i, rfl, hip, HE, HB.out⟩
      case round =>
        clear HE HB
        obtain ⟨j, rfl, hjp, HE, hbel⟩ := hrel
        have HB := Lib.hid hbel
        clear hbel
        have j0 : (0 : Int) ≤ (j : Int) := by omega
        by_cases hj : j < p.length
        · have jj : (j : Int) < (p.length : Int) := by omega
          obtain ⟨g1, o1, rfl, c1⟩ := (H1.out.new HB.out) j hj
          have AN := fun w' => Lib.hid (anyB_any p[j] w')
          have HD := Lib.hid (show (p.drop j).all anyB = (anyB p[j] && (p.drop (j + 1)).all anyB) by rw [List.drop_eq_getElem_cons hj]; rfl)
          obtain ⟨ba, hba⟩ : ∃ ba, ba = anyB p[j] := ⟨_, rfl⟩
          rw [← hba] at AN HD
          clear hba
          generalize encB p[j] = x at *
          cases ba with
          | true =>
            have HE2 := Lib.hid (show (p.drop (j + 1)).all anyB = res by rw [← HE.out, HD.out, Bool.true_and])
            clear HE HD
            go_wp2_with fail
            refine (AN _).out.mono ?_
            rintro e w1 ⟨rfl, rfl⟩
            go_wp2_with fail
            go_roundw
            case rel => exact ⟨j + 1, by go_num, hj, HE2, HB.out⟩
            case measure => simp [intOf]; omega
          | false =>
            have HE2 := Lib.hid (show false = res by rw [← HE.out, HD.out, Bool.false_and])
            have qe : ((j : Int) == (p.length : Int)) = false := by rw [beq_eq_false_iff_ne]; omega
            clear HE HD
            go_wp2_with fail
            refine (AN _).out.mono ?_
            rintro e w1 ⟨rfl, rfl⟩
            go_wp2_with fail
            go_ret
            exact ⟨by rw [← HE2.out]; rfl, HB.out⟩
        · have jj : ¬ (j : Int) < (p.length : Int) := by omega
          obtain rfl : j = p.length := by omega
          have HE2 := Lib.hid (show true = res by rw [← HE.out, List.drop_eq_nil_of_le (Nat.le_refl _)]; rfl)
          have qe : ((p.length : Int) == (p.length : Int)) = true := by simp
          clear HE
          go_wp2_with fail
          go_ret
          exact ⟨by rw [← HE2.out]; rfl, HB.out⟩
end Go.Proofs.YtkfkfpfnpfpkaaaDoor
/- Landed tree: fitsName, walked. -/
set_option linter.unusedVariables false
namespace Go.Proofs.YtkfkfpfnpfpkaaaDoor
open Go.RowKit

theorem RowM.each {w : World} {base g cap : Nat} {l : Txt} (h : RowM w base g cap l) : EachG encB w (some ⟨g, 0, none⟩) l := fun i hi => ⟨g, 0, rfl, by rw [Nat.zero_add]; exact h.cell i hi⟩
set_option maxRecDepth 100000 in
theorem fitsName_any (p s : Txt) (w : World) (hp : p.length ≤ 100000) (hs : s.length ≤ 100000) :
    Calls Tryd.prog 116 #[encS p, encS s] w fun e w' => e = .returned (.bool (inS p s)) ∧ Below w.heap.size w w' := by
  rw [← fitG_inS]
  unfold encS
  obtain ⟨cap1, w1, hc1, hr1, hb1⟩ := RowM.conv (P := Tryd.prog) w p 9 82 Tryd.underlying9 Tryd.underlying82 Tryd.underlying5
  obtain ⟨cap2, w2, hc2, hr2, hb2⟩ := RowM.conv (P := Tryd.prog) w1 s 9 82 Tryd.underlying9 Tryd.underlying82 Tryd.underlying5
  have HB := Lib.hid (hb1.trans (hb2.mono hb1.size))
  have FB := Lib.hid (fitsB_any (some ⟨w.heap.size, 0, none⟩) (some ⟨w1.heap.size, 0, none⟩) cap1 cap2 p s w2 (hr1.each.new hb2) hr2.each (by omega) (by omega))
  clear hr1 hb1 hr2 hb2
  generalize fitG anyB oneB p s = res at *
  go_enter Tryd.func116, Tryd.ntmps116
  go_wp2_with fail
  refine FB.out.mono ?_
  rintro e w3 ⟨rfl, hb3⟩
  go_wp2_with fail
  go_ret
  exact ⟨rfl, HB.out.trans (hb3.mono HB.out.size)⟩
end Go.Proofs.YtkfkfpfnpfpkaaaDoor
/- Landed tree: fits over names, walked (printed by wip/gen/fits.py). -/
set_option linter.unusedVariables false
namespace Go.Proofs.YtkfkfpfnpfpkaaaDoor
open Go.RowKit

set_option maxRecDepth 100000 in
theorem anyT_any (c : Txt) (w : World) : Calls Tryd.prog 113 #[encS c] w fun e w' => e = .returned (.bool (anyT c)) ∧ w' = w := by
  unfold encS anyT
  go_enter Tryd.func113, Tryd.ntmps113
  go_wp2_with fail
  go_ret
  exact ⟨by simp, rfl⟩
set_option maxRecDepth 100000 in
set_option maxHeartbeats 2000000 in
theorem fitsT_any (va vb : Option Addr) (ca cb : Nat) (p s : List Txt) (w : World) (h1 : EachG encS w va p) (h2 : EachG encS w vb s) (hp : p.length ≤ 1000000) (hs : s.length ≤ 1000000) (hxp : ∀ x ∈ p, x.length ≤ 100000) (hxs : ∀ x ∈ s, x.length ≤ 100000) :
    Calls Tryd.prog 114 #[.slice va p.length ca, .slice vb s.length cb, .func (.func 113) #[] #[], .func (.func 116) #[] #[]] w fun e w' => e = .returned (.bool (fitG anyT inS p s)) ∧ Below w.heap.size w w' := by
  have H1 := Lib.hid h1
  have H2 := Lib.hid h2
  clear h1 h2
  have HXP := Lib.hid hxp
  have HXS := Lib.hid hxs
  clear hxp hxs
  obtain ⟨res, hres⟩ : ∃ res, res = fitG anyT inS p s := ⟨_, rfl⟩
  have HRES := Lib.hid hres.symm
  rw [← hres]
  clear hres
  have G0 := Lib.hid (Greedy.start (anyM := anyT) (one := inS) p s)
  go_enter Tryd.func114, Tryd.ntmps114
  go_wp2_with fail
  go_loopw [9, 10, 11, 12] (fun v9 v10 v11 v12 wr => ∃ (i k t : Nat) (ag : Int), v9 = .int .i64 i ∧ v10 = .int .i64 ag ∧ v11 = .int .i64 t ∧ v12 = .int .i64 k ∧ i ≤ p.length ∧ k ≤ s.length ∧ t ≤ k ∧ -1 ≤ ag ∧ ag ≤ i ∧ Hid (Greedy anyT inS p s i k ag t) ∧ Below w.heap.size w wr) (fun v9 v10 v11 v12 _ => msr p.length s.length (intOf v10 + 1).toNat (intOf v11).toNat (intOf v12).toNat)
  case atStart => exact ⟨0, 0, 0, -1, rfl, rfl, rfl, rfl, by omega, by omega, by omega, by omega, by omega, G0, Below.refl _ _⟩
  case round =>
    clear G0
    obtain ⟨i, k, t, ag, rfl, rfl, rfl, rfl, hip, hks, htk, hag0, hag1, HG, hbel⟩ := hrel
    have HB := Lib.hid hbel
    clear hbel
    have i0 : (0 : Int) ≤ (i : Int) := by omega
    have k0 : (0 : Int) ≤ (k : Int) := by omega
    by_cases hk : k < s.length
    · have kk : (k : Int) < (s.length : Int) := by omega
      obtain ⟨g2, o2, rfl, c2⟩ := (H2.out.new HB.out) k hk
      by_cases hi : i < p.length
      · have ii : (i : Int) < (p.length : Int) := by omega
        have d1 : decide ((i : Int) < (p.length : Int)) = true := decide_eq_true ii
        have d2 : decide (i < p.length) = true := decide_eq_true hi
        obtain ⟨g1, o1, rfl, c1⟩ := (H1.out.new HB.out) i hi
        have AN := fun w' => Lib.hid (anyT_any p[i] w')
        have ON := fun w' => Lib.hid (fitsName_any p[i] s[k] w' (HXP.out _ (List.getElem_mem hi)) (HXS.out _ (List.getElem_mem hk)))
        have HNG := Lib.hid (fun (ha : anyT p[i] = false) (ho : inS p[i] s[k] = false) => not_F (anyM := anyT) (one := inS) (i := i) hk (fun _ => ⟨ha, ho⟩) hip)
        have HGM := Lib.hid (fun ha => HG.out.many hi ha)
        have HGS := Lib.hid (fun ha ho => HG.out.step hi ha hk ho)
        obtain ⟨ba, hba⟩ : ∃ ba, ba = anyT p[i] := ⟨_, rfl⟩
        obtain ⟨bo, hbo⟩ : ∃ bo, bo = inS p[i] s[k] := ⟨_, rfl⟩
        rw [← hba] at AN HNG HGM HGS
        rw [← hbo] at ON HNG HGS
        clear hba hbo
        generalize encS p[i] = x at *
        generalize encS s[k] = y at *
        cases ba with
        | true =>
          have HG2 := Lib.hid (HGM.out rfl)
          clear HGM HGS HNG HG
          go_wp2_with fail
          refine (AN _).out.mono ?_
          rintro e w1 ⟨rfl, rfl⟩
          go_wp2_with fail
          go_roundw
          case rel => exact ⟨i + 1, k, k, ((i + 1 : Nat) : Int), by go_num, by go_num, rfl, rfl, hi, hks, Nat.le_refl _, by omega, by omega, HG2, HB.out⟩
          case measure =>
            have e1 : (intOf (.int .i64 ag) + 1).toNat < (intOf (.int .i64 ((i : Int) + 1)) + 1).toNat := by simp [intOf]; omega
            exact msr_star e1 (by simp [intOf]; omega) hks htk
        | false =>
          cases bo with
          | true =>
            have HG2 := Lib.hid (HGS.out rfl rfl)
            clear HGM HGS HNG HG
            go_wp2_with fail
            refine (AN _).out.mono ?_
            rintro e w1 ⟨rfl, rfl⟩
            go_wp2_with fail
            have C1 := below_cell c1
            have C2 := below_cell c2
            refine wp_region_below (by kernel_rfl) (by kernel_rfl) ?_
            repeat (go_big_quiet_step ((go_at_call 116; with_reducible exact below_calls (ON _).out)))
            refine wpQuiet_nil ?_
            rintro w8 ⟨⟨w8b, hb8⟩, e8⟩
            have e8' : w8 = w8b := e8
            clear e8
            subst e8'
            have HB8 := Lib.hid (HB.out.trans (hb8.mono HB.out.size))
            clear C1 C2 hb8
            go_wp2_with fail
            go_roundw
            case rel => exact ⟨i + 1, k + 1, t, ag, by go_num, rfl, rfl, by go_num, hi, hk, by omega, hag0, by omega, HG2, HB8.out⟩
            case measure => exact msr_one (show (intOf (.int .i64 (k : Int))).toNat < s.length by simpa [intOf] using hk)
          | false =>
            have HNF := Lib.hid (HNG.out rfl rfl)
            clear HGM HGS HNG
            go_wp2_with fail
            refine (AN _).out.mono ?_
            rintro e w1 ⟨rfl, rfl⟩
            go_wp2_with fail
            have C1 := below_cell c1
            have C2 := below_cell c2
            refine wp_region_below (by kernel_rfl) (by kernel_rfl) ?_
            repeat (go_big_quiet_step ((go_at_call 116; with_reducible exact below_calls (ON _).out)))
            refine wpQuiet_nil ?_
            rintro w8 ⟨⟨w8b, hb8⟩, e8⟩
            have e8' : w8 = w8b := e8
            clear e8
            subst e8'
            have HB8 := Lib.hid (HB.out.trans (hb8.mono HB.out.size))
            clear C1 C2 hb8
            by_cases hag : ag = -1
            · have HR := Lib.hid (show false = res by rw [← HRES.out]; exact (HG.out.no HNF.out hag).symm)
              subst hag
              go_wp2_with fail
              go_ret
              exact ⟨by rw [← HR.out]; rfl, HB8.out⟩
            · have HGB := Lib.hid (HG.out.back hk HNF.out hag)
              obtain ⟨b, rfl⟩ : ∃ b : Nat, ag = (b : Int) := ⟨ag.toNat, by omega⟩
              have hb0 : (b : Int) ≥ 0 := by omega
              have hb1 : ¬ (b : Int) < 0 := by omega
              go_wp2_with fail
              go_roundw
              case rel => exact ⟨b, t + 1, t + 1, (b : Int), rfl, rfl, by go_num, by go_num, by omega, by omega, Nat.le_refl _, by omega, by omega, Lib.hid (by have h := HGB.out; simpa using h), HB8.out⟩
              case measure => exact msr_back (show t < s.length by omega) (by simp [intOf])
      · have ii : ¬ (i : Int) < (p.length : Int) := by omega
        have d1 : decide ((i : Int) < (p.length : Int)) = false := decide_eq_false ii
        have d2 : decide (i < p.length) = false := decide_eq_false hi
        have HNF := Lib.hid (not_F (anyM := anyT) (one := inS) (i := i) hk (fun h => absurd h hi) hip)
        go_wp2_with fail
        go_quiet (fail)
        have HB8 := Lib.hid (Below_drewN HB.out nq)
        generalize wr.drewN nq = w8 at *
        by_cases hag : ag = -1
        · have HR := Lib.hid (show false = res by rw [← HRES.out]; exact (HG.out.no HNF.out hag).symm)
          subst hag
          go_wp2_with fail
          go_ret
          exact ⟨by rw [← HR.out]; rfl, HB8.out⟩
        · have HGB := Lib.hid (HG.out.back hk HNF.out hag)
          obtain ⟨b, rfl⟩ : ∃ b : Nat, ag = (b : Int) := ⟨ag.toNat, by omega⟩
          have hb0 : (b : Int) ≥ 0 := by omega
          have hb1 : ¬ (b : Int) < 0 := by omega
          go_wp2_with fail
          go_roundw
          case rel => exact ⟨b, t + 1, t + 1, (b : Int), rfl, rfl, by go_num, by go_num, by omega, by omega, Nat.le_refl _, by omega, by omega, Lib.hid (by have h := HGB.out; simpa using h), HB8.out⟩
          case measure => exact msr_back (show t < s.length by omega) (by simp [intOf])
    · have kk : ¬ (k : Int) < (s.length : Int) := by omega
      obtain rfl : k = s.length := by omega
      have HE := Lib.hid (show (p.drop i).all anyT = res by rw [← HG.out.ends]; exact HRES.out)
      clear HG HRES
      go_wp2_with fail
      go_loopw [9] (fun v9 w5 => ∃ i : Nat, v9 = .int .i64 i ∧ i ≤ p.length ∧ Hid ((p.drop i).all anyT = res) ∧ Below w.heap.size w w5) (fun v9 _ => p.length - (intOf v9).toNat)
      case atStart => exact ⟨i, rfl, hip, HE, HB.out⟩
      case round =>
        clear HE HB
        obtain ⟨j, rfl, hjp, HE, hbel⟩ := hrel
        have HB := Lib.hid hbel
        clear hbel
        have j0 : (0 : Int) ≤ (j : Int) := by omega
        by_cases hj : j < p.length
        · have jj : (j : Int) < (p.length : Int) := by omega
          obtain ⟨g1, o1, rfl, c1⟩ := (H1.out.new HB.out) j hj
          have AN := fun w' => Lib.hid (anyT_any p[j] w')
          have HD := Lib.hid (show (p.drop j).all anyT = (anyT p[j] && (p.drop (j + 1)).all anyT) by rw [List.drop_eq_getElem_cons hj]; rfl)
          obtain ⟨ba, hba⟩ : ∃ ba, ba = anyT p[j] := ⟨_, rfl⟩
          rw [← hba] at AN HD
          clear hba
          generalize encS p[j] = x at *
          cases ba with
          | true =>
            have HE2 := Lib.hid (show (p.drop (j + 1)).all anyT = res by rw [← HE.out, HD.out, Bool.true_and])
            clear HE HD
            go_wp2_with fail
            refine (AN _).out.mono ?_
            rintro e w1 ⟨rfl, rfl⟩
            go_wp2_with fail
            go_roundw
            case rel => exact ⟨j + 1, by go_num, hj, HE2, HB.out⟩
            case measure => simp [intOf]; omega
          | false =>
            have HE2 := Lib.hid (show false = res by rw [← HE.out, HD.out, Bool.false_and])
            have qe : ((j : Int) == (p.length : Int)) = false := by rw [beq_eq_false_iff_ne]; omega
            clear HE HD
            go_wp2_with fail
            refine (AN _).out.mono ?_
            rintro e w1 ⟨rfl, rfl⟩
            go_wp2_with fail
            go_ret
            exact ⟨by rw [← HE2.out]; rfl, HB.out⟩
        · have jj : ¬ (j : Int) < (p.length : Int) := by omega
          obtain rfl : j = p.length := by omega
          have HE2 := Lib.hid (show true = res by rw [← HE.out, List.drop_eq_nil_of_le (Nat.le_refl _)]; rfl)
          have qe : ((p.length : Int) == (p.length : Int)) = true := by simp
          clear HE
          go_wp2_with fail
          go_ret
          exact ⟨by rw [← HE2.out]; rfl, HB.out⟩
end Go.Proofs.YtkfkfpfnpfpkaaaDoor

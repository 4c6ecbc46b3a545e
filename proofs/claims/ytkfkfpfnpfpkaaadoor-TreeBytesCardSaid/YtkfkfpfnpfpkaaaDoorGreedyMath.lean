/- Plain mathematics of matching by one place to come back to: it tells what the table tells. Of no program. -/
import Derived.Test.YtkfkfpfnpfpkaaaDoorFrame
import Derived.Test.YtkfkfpfnpfpkaaaDoorMarkMath
import Derived.Test.YtkfkfpfnpfpkaaaDoorMatchMath
import Derived.Test.YtkfkfpfnpfpkaaaDoorOwnL
import Derived.Test.YtkfkfpfnpfpkaaaDoorRowN
import Derived.Test.YtkfkfpfnpfpkaaaDoorRows
import Derived.Test.YtkfkfpfnpfpkaaaDoorTreeMath
import Derived.BigQuiet
import Derived.Deep.Draws
import Derived.Laws.Bits128
import Derived.Laws.IdiomStrings
import Derived.Lib.AppendStr
import Derived.Lib.Hide
import Derived.WalkKit
import Derived.WalkLawsBesides
import Derived.WalkSpells
set_option linter.unusedVariables false
namespace Go.Proofs.YtkfkfpfnpfpkaaaDoor
open Go.RowKit

/-- A pattern's parts fit a list: a part that is any many, or one that fits just one. -/
def fitG {α : Type} (anyM : α → Bool) (one : α → α → Bool) : List α → List α → Bool
  | [], l => l.isEmpty
  | c :: p, l => if anyM c then starS (fitG anyM one p) l else match l with
    | [] => false
    | d :: t => one c d && fitG anyM one p t
section
variable {α : Type} {anyM : α → Bool} {one : α → α → Bool}
theorem fitG_star (p s : List α) (i k : Nat) (hi : i < p.length) (hc : anyM p[i] = true) : fitG anyM one (p.drop i) (s.drop k) = (fitG anyM one (p.drop (i + 1)) (s.drop k) || (decide (k < s.length) && fitG anyM one (p.drop i) (s.drop (k + 1)))) := by
  rw [List.drop_eq_getElem_cons hi]
  have e : ∀ x, fitG anyM one (p[i] :: p.drop (i + 1)) x = starS (fitG anyM one (p.drop (i + 1))) x := fun x => by
    show (if anyM p[i] then _ else _) = _
    rw [if_pos hc]
  rw [e, e, starS_at]
theorem fitG_one (p s : List α) (i k : Nat) (hi : i < p.length) (hc : anyM p[i] = false) (hk : k < s.length) : fitG anyM one (p.drop i) (s.drop k) = (one p[i] s[k] && fitG anyM one (p.drop (i + 1)) (s.drop (k + 1))) := by
  rw [List.drop_eq_getElem_cons hi, List.drop_eq_getElem_cons hk]
  show (if anyM p[i] then _ else _) = _
  rw [if_neg (by rw [hc]; decide)]
theorem fitG_none (p s : List α) (i k : Nat) (hi : i < p.length) (hc : anyM p[i] = false) (hk : ¬ k < s.length) : fitG anyM one (p.drop i) (s.drop k) = false := by
  rw [List.drop_eq_getElem_cons hi, show s.drop k = [] from List.drop_eq_nil_of_le (by omega)]
  show (if anyM p[i] then _ else _) = _
  rw [if_neg (by rw [hc]; decide)]
theorem fitG_end (p s : List α) (k : Nat) : fitG anyM one (p.drop p.length) (s.drop k) = decide (s.length ≤ k) := by
  rw [List.drop_eq_nil_of_le (Nat.le_refl _)]
  show (s.drop k).isEmpty = _
  by_cases h : s.length ≤ k
  · rw [decide_eq_true h, List.drop_eq_nil_of_le h]; rfl
  · rw [decide_eq_false h, List.drop_eq_getElem_cons (show k < s.length by omega)]; rfl
/-- The pattern's parts from i on fit the list from k on. -/
def F (anyM : α → Bool) (one : α → α → Bool) (p s : List α) (i k : Nat) : Prop := fitG anyM one (p.drop i) (s.drop k) = true
/-- Behind any many: the rest fits from k on, if it fits from somewhere behind k. -/
theorem F_star (p s : List α) (i : Nat) (hi : i < p.length) (hc : anyM p[i] = true) : ∀ k, k ≤ s.length → (F anyM one p s i k ↔ ∃ j, k ≤ j ∧ j ≤ s.length ∧ F anyM one p s (i + 1) j) := by
  have key : ∀ n k, k ≤ s.length → s.length - k = n → (F anyM one p s i k ↔ ∃ j, k ≤ j ∧ j ≤ s.length ∧ F anyM one p s (i + 1) j) := by
    intro n
    induction n with
    | zero =>
      intro k hk hn
      unfold F
      rw [fitG_star p s i k hi hc, decide_eq_false (by omega), Bool.false_and, Bool.or_false]
      constructor
      · intro h; exact ⟨k, Nat.le_refl _, hk, h⟩
      · rintro ⟨j, h1, h2, h3⟩
        obtain rfl : j = k := by omega
        exact h3
    | succ n ih =>
      intro k hk hn
      have IH := ih (k + 1) (by omega) (by omega)
      unfold F at IH ⊢
      rw [fitG_star p s i k hi hc, decide_eq_true (by omega), Bool.true_and, Bool.or_eq_true, IH]
      constructor
      · rintro (h | ⟨j, h1, h2, h3⟩)
        · exact ⟨k, Nat.le_refl _, hk, h⟩
        · exact ⟨j, by omega, h2, h3⟩
      · rintro ⟨j, h1, h2, h3⟩
        by_cases e : j = k
        · subst e; exact .inl h3
        · exact .inr ⟨j, by omega, h2, h3⟩
  exact fun k hk => key _ k hk rfl
/-- What stands behind the last any many: parts from b on, each for just one, up to i, fit from t on up to t + (i - b). -/
def Run (anyM : α → Bool) (one : α → α → Bool) (p s : List α) (b i t : Nat) : Prop :=
  b ≤ i ∧ i ≤ p.length ∧ t + (i - b) ≤ s.length ∧ ∀ j, b ≤ j → j < i → ∃ (h1 : j < p.length) (h2 : t + (j - b) < s.length), anyM p[j] = false ∧ one p[j] s[t + (j - b)] = true
theorem Run.fit {p s : List α} {b i t : Nat} (h : Run anyM one p s b i t) : F anyM one p s b t ↔ F anyM one p s i (t + (i - b)) := by
  obtain ⟨hbi, hip, his, hr⟩ := h
  have key : ∀ n, b + n ≤ i → (F anyM one p s b t ↔ F anyM one p s (b + n) (t + n)) := by
    intro n
    induction n with
    | zero => intro _; exact Iff.rfl
    | succ n ih =>
      intro hn
      obtain ⟨h1, h2, h3, h4⟩ := hr (b + n) (by omega) (by omega)
      rw [ih (by omega)]
      unfold F
      have e : t + (b + n - b) = t + n := by omega
      simp only [e] at h2 h4
      rw [fitG_one p s (b + n) (t + n) h1 h3 h2, h4, Bool.true_and]
      exact Iff.rfl
  have := key (i - b) (by omega)
  rwa [show b + (i - b) = i by omega] at this
/-- The state: no any many as yet (a = -1), or the last one is just ahead of b, was tried up to t, and now stands at i. -/
structure Greedy (anyM : α → Bool) (one : α → α → Bool) (p s : List α) (i at_ : Nat) (again : Int) (taken : Nat) : Prop where
  ip : i ≤ p.length
  al : at_ ≤ s.length
  nul : again = -1 → ∀ {k}, k = 0 → (F anyM one p s 0 0 ↔ F anyM one p s i at_)
  last : again ≠ -1 → ∃ b : Nat, again = (b : Int) ∧ 0 < b ∧ taken ≤ at_ ∧ at_ = taken + (i - b) ∧ Run anyM one p s b i taken ∧ (F anyM one p s 0 0 ↔ ∃ j, taken ≤ j ∧ j ≤ s.length ∧ F anyM one p s b j)
theorem Greedy.start (p s : List α) : Greedy anyM one p s 0 0 (-1) 0 :=
  ⟨Nat.zero_le _, Nat.zero_le _, fun _ _ _ => Iff.rfl, fun h => absurd rfl h⟩
/-- Whatever an earlier any many could take, the next one can: parts behind it from t' on fit as well as from t on. -/
theorem F_later {p s : List α} {b i t j : Nat} (hr : Run anyM one p s b i t) (hi : i < p.length) (hc : anyM p[i] = true) (hj : t ≤ j) (hjs : j ≤ s.length) (hf : F anyM one p s b j) : F anyM one p s i (t + (i - b)) := by
  -- from j on the parts up to i take i - b of the list, too; then the rest fits somewhere behind
  obtain ⟨hbi, hip, his, hq⟩ := hr
  have key : ∀ n, b + n ≤ i → (j + n ≤ s.length ∧ F anyM one p s (b + n) (j + n)) := by
    intro n
    induction n with
    | zero => intro _; exact ⟨hjs, hf⟩
    | succ n ih =>
      intro hn
      obtain ⟨h0, hF⟩ := ih (by omega)
      obtain ⟨h1, h2, h3, h4⟩ := hq (b + n) (by omega) (by omega)
      unfold F at hF ⊢
      by_cases hlt : j + n < s.length
      · rw [fitG_one p s (b + n) (j + n) h1 h3 hlt, Bool.and_eq_true] at hF
        exact ⟨by omega, hF.2⟩
      · rw [fitG_none p s (b + n) (j + n) h1 h3 hlt] at hF
        cases hF
  obtain ⟨k1, k2⟩ := key (i - b) (by omega)
  rw [show b + (i - b) = i by omega] at k2
  rw [F_star p s i hi hc _ (by omega)] at k2
  obtain ⟨m, m1, m2, m3⟩ := k2
  rw [F_star p s i hi hc _ (by omega)]
  exact ⟨m, by omega, m2, m3⟩
theorem Greedy.many {p s : List α} {i at_ taken : Nat} {again : Int} (h : Greedy anyM one p s i at_ again taken) (hi : i < p.length) (hc : anyM p[i] = true) :
    Greedy anyM one p s (i + 1) at_ ((i + 1 : Nat) : Int) at_ := by
  have hal := h.al
  refine ⟨by omega, h.al, fun e => by omega, fun _ => ⟨i + 1, rfl, by omega, Nat.le_refl _, by omega, ⟨Nat.le_refl _, by omega, by omega, fun j h1 h2 => by omega⟩, ?_⟩⟩
  have hs := F_star p s i hi hc (one := one) at_ h.al
  rw [← hs]
  by_cases e : again = -1
  · exact h.nul e rfl
  · obtain ⟨b, hb, hb0, ht, hat, hr, hf⟩ := h.last e
    rw [hf]
    constructor
    · rintro ⟨j, j1, j2, j3⟩
      rw [hat]; exact F_later hr hi hc j1 j2 j3
    · intro hF
      exact ⟨taken, Nat.le_refl _, by have := h.al; omega, by rw [hr.fit, ← hat]; exact hF⟩
theorem Greedy.step {p s : List α} {i at_ taken : Nat} {again : Int} (h : Greedy anyM one p s i at_ again taken) (hi : i < p.length) (hc : anyM p[i] = false) (ha : at_ < s.length) (ho : one p[i] s[at_] = true) :
    Greedy anyM one p s (i + 1) (at_ + 1) again taken := by
  refine ⟨by omega, by omega, fun e k hk => ?_, fun e => ?_⟩
  · rw [h.nul e rfl]
    unfold F
    rw [fitG_one p s i at_ hi hc ha, ho, Bool.true_and]
  · obtain ⟨b, hb, hb0, ht, hat, hr, hf⟩ := h.last e
    obtain ⟨r1, r2, r3, r4⟩ := hr
    have q1 : taken ≤ at_ + 1 := by omega
    have q2 : at_ + 1 = taken + (i + 1 - b) := by clear r4 hf ho h; omega
    have q3 : b ≤ i + 1 := by omega
    have q4 : taken + (i + 1 - b) ≤ s.length := by clear r4 hf ho h; omega
    refine ⟨b, hb, hb0, q1, q2, ⟨q3, hi, q4, fun j h1 h2 => ?_⟩, hf⟩
    by_cases e1 : j = i
    · subst e1
      have e2 : taken + (j - b) = at_ := by clear r4 hf ho h; omega
      have e4 : taken + (j - b) < s.length := by rw [e2]; exact ha
      have e3 : s[taken + (j - b)] = s[at_] := getElem_congr_idx e2
      exact ⟨hi, e4, hc, by rw [e3]; exact ho⟩
    · exact r4 j h1 (by omega)
/-- Where the parts stand does not fit: so the last any many takes one more. -/
theorem Greedy.back {p s : List α} {i at_ taken : Nat} {again : Int} (h : Greedy anyM one p s i at_ again taken) (ha : at_ < s.length) (hno : ¬ F anyM one p s i at_) (hn : again ≠ -1) :
    Greedy anyM one p s again.toNat (taken + 1) again (taken + 1) := by
  obtain ⟨b, hb, hb0, ht, hat, hr, hf⟩ := h.last hn
  have e1 : again.toNat = b := by omega
  obtain ⟨r1, r2, r3, r4⟩ := hr
  rw [e1]
  refine ⟨by omega, by omega, fun e => absurd e hn, fun _ => ⟨b, hb, hb0, Nat.le_refl _, by omega, ⟨Nat.le_refl _, by omega, by omega, fun j h1 h2 => by omega⟩, ?_⟩⟩
  rw [hf]
  constructor
  · rintro ⟨j, j1, j2, j3⟩
    by_cases e : j = taken
    · subst e
      rw [Run.fit ⟨r1, r2, r3, r4⟩, ← hat] at j3
      exact absurd j3 hno
    · exact ⟨j, by omega, j2, j3⟩
  · rintro ⟨j, j1, j2, j3⟩
    exact ⟨j, by omega, j2, j3⟩
theorem Greedy.no {p s : List α} {i at_ taken : Nat} {again : Int} (h : Greedy anyM one p s i at_ again taken) (hno : ¬ F anyM one p s i at_) (hn : again = -1) : fitG anyM one p s = false := by
  have := h.nul hn (k := 0) rfl
  unfold F at this hno
  rw [List.drop_zero, List.drop_zero] at this
  cases e : fitG anyM one p s with
  | false => rfl
  | true => exact absurd (this.1 e) hno
/-- What can't fit where it stands. -/
theorem not_F {p s : List α} {i at_ : Nat} (ha : at_ < s.length) (h : ∀ hi : i < p.length, anyM p[i] = false ∧ one p[i] s[at_] = false) (hip : i ≤ p.length) : ¬ F anyM one p s i at_ := by
  unfold F
  by_cases hi : i < p.length
  · obtain ⟨h1, h2⟩ := h hi
    rw [fitG_one p s i at_ hi h1 ha, h2]; simp
  · obtain rfl : i = p.length := by omega
    rw [fitG_end, decide_eq_false (by omega)]; simp
/-- At the list's end: the parts left over must all be any many. -/
def restS (anyM : α → Bool) (p : List α) (i : Nat) : Bool := (p.drop i).all anyM
theorem F_rest (p s : List α) : ∀ n i, p.length - i = n → i ≤ p.length → fitG anyM one (p.drop i) (s.drop s.length) = (p.drop i).all anyM := by
  intro n
  induction n with
  | zero =>
    intro i h1 h2
    obtain rfl : i = p.length := by omega
    rw [fitG_end, decide_eq_true (Nat.le_refl _), List.drop_eq_nil_of_le (Nat.le_refl _)]; rfl
  | succ n ih =>
    intro i h1 h2
    have hi : i < p.length := by omega
    rw [show (p.drop i).all anyM = (anyM p[i] && (p.drop (i + 1)).all anyM) by rw [List.drop_eq_getElem_cons hi]; rfl]
    cases hc : anyM p[i] with
    | true => rw [fitG_star p s i s.length hi hc, decide_eq_false (by omega), Bool.false_and, Bool.or_false, Bool.true_and, ih (i + 1) (by omega) (by omega)]
    | false => rw [fitG_none p s i s.length hi hc (by omega), Bool.false_and]
theorem Greedy.ends {p s : List α} {i taken : Nat} {again : Int} (h : Greedy anyM one p s i s.length again taken) : fitG anyM one p s = (p.drop i).all anyM := by
  have hF : F anyM one p s 0 0 ↔ F anyM one p s i s.length := by
    by_cases e : again = -1
    · exact h.nul e rfl
    · obtain ⟨b, hb, hb0, ht, hat, hr, hf⟩ := h.last e
      rw [hf]
      constructor
      · rintro ⟨j, j1, j2, j3⟩
        obtain ⟨r1, r2, r3, r4⟩ := hr
        -- from j on: as long as the run, so j = taken
        by_cases e2 : j = taken
        · subst e2
          rw [Run.fit ⟨r1, r2, r3, r4⟩, ← hat] at j3; exact j3
        · exfalso
          have key : ∀ n, b + n ≤ i → (j + n ≤ s.length ∧ F anyM one p s (b + n) (j + n)) := by
            intro n
            induction n with
            | zero => intro _; exact ⟨j2, j3⟩
            | succ n ih =>
              intro hn
              obtain ⟨h0, hF⟩ := ih (by omega)
              obtain ⟨h1, h2, h3, h4⟩ := r4 (b + n) (by omega) (by omega)
              unfold F at hF ⊢
              by_cases hlt : j + n < s.length
              · rw [fitG_one p s (b + n) (j + n) h1 h3 hlt, Bool.and_eq_true] at hF
                exact ⟨by omega, hF.2⟩
              · rw [fitG_none p s (b + n) (j + n) h1 h3 hlt] at hF
                cases hF
          have := (key (i - b) (by omega)).1
          omega
      · intro hF
        exact ⟨taken, Nat.le_refl _, by omega, by rw [hr.fit, ← hat]; exact hF⟩
  have hR := F_rest (anyM := anyM) (one := one) p s (p.length - i) i rfl h.ip
  unfold F at hF
  rw [List.drop_zero, List.drop_zero, hR] at hF
  cases e1 : fitG anyM one p s <;> cases e2 : (p.drop i).all anyM
  · rfl
  · exact absurd (hF.2 e2) (by rw [e1]; decide)
  · exact absurd (hF.1 e1) (by rw [e2]; decide)
  · rfl
end
/-! ### A name; a path -/
def anyB (c : UInt8) : Bool := c == 42
def oneB (c d : UInt8) : Bool := c == 63 || c == d
def anyT (p : Txt) : Bool := p == [42, 42]
theorem fitG_inS : ∀ p s, fitG anyB oneB p s = inS p s
  | [], s => rfl
  | c :: p, s => by
    have ih : fitG anyB oneB p = inS p := funext (fitG_inS p)
    unfold fitG inS
    rw [ih]
    by_cases h : c = 42
    · rw [if_pos (by simp [anyB, h]), if_pos h]
    · rw [if_neg (by simp [anyB, h]), if_neg h]; cases s <;> rfl
theorem fitG_matF : ∀ p s, fitG anyT inS p s = matF p s
  | [], s => rfl
  | c :: p, s => by
    have ih : fitG anyT inS p = matF p := funext (fitG_matF p)
    unfold fitG matF
    rw [ih]
    by_cases h : c = [42, 42]
    · rw [if_pos (by simp [anyT, h]), if_pos h]
    · rw [if_neg (by simp [anyT, h]), if_neg h]; cases s <;> rfl
/-! ### A pattern is just a path -/
theorem patC_ok (x : UInt8) : okC (patC x) = okC x := by
  unfold patC
  split
  · rename_i h; rcases h with rfl | rfl <;> rfl
  · rfl
theorem patOk_name (x : Txt) : patOk x = nameS x := by
  unfold patOk
  by_cases h : x = [42, 42]
  · subst h; decide
  · rw [show (x == [42, 42]) = false by simp [h], Bool.false_or]
    unfold nameS
    have e1 : (x.map patC == []) = (x == []) := by cases x <;> rfl
    have hp : ∀ c : UInt8, (patC c == 46) = (c == 46) := by
      intro c; unfold patC
      split
      · rename_i h; rcases h with rfl | rfl <;> rfl
      · rfl
    have e2 : (x.map patC == [46]) = (x == [46]) := by
      match x with
      | [] => rfl
      | [c] => simp [hp c]
      | _ :: _ :: _ => simp
    have e3 : (x.map patC == [46, 46]) = (x == [46, 46]) := by
      match x with
      | [] => rfl
      | [c] => simp
      | [c, d] => simp [hp c, hp d]
      | _ :: _ :: _ :: _ => simp
    have e4 : (x.map patC).all okC = x.all okC := by
      rw [List.all_map]
      congr 1
      funext c
      exact patC_ok c
    rw [e1, e2, e3, e4, List.length_map]
theorem patternS_path (s : Txt) : patternS s = pathS s := by
  unfold patternS pathS
  rw [show patOk = nameS from funext patOk_name]
end Go.Proofs.YtkfkfpfnpfpkaaaDoor

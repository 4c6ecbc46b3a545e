/- Several texts in one: MatchMath, GreedyMath, RefPatW, FitsMath, FitsNW. -/
import Derived.Test.YtamiacmnobklaaaGreatDoorMarkMath
import Derived.Test.YtamiacmnobklaaaGreatDoorCdX
import Derived.Test.YtamiacmnobklaaaGreatDoorRowN
import Derived.Test.YtamiacmnobklaaaGreatDoorRows
import Derived.Test.YtamiacmnobklaaaGreatDoorTreeMath
import Derived.BigQuiet
import Derived.Deep.Draws
import Derived.Laws.Bits128
import Derived.Laws.IdiomStrings
import Derived.Lib.AppendStr
import Derived.Lib.Hide
import Derived.OpenShut
import Derived.ProofKit
import Derived.ShutString
import Derived.SizedLaws
import Derived.SliceStrings
import Derived.WalkKit
import Derived.WalkLawsBesides
import Derived.WalkSpells
import Derived.Test.YtamiacmnobklaaaGreatDoorFrame
import Derived.Test.YtamiacmnobklaaaGreatDoorOwnL
import Derived.Test.YtamiacmnobklaaaGreatDoorGen
import Derived.Deep.QuietTactic
import Derived.Test.YtamiacmnobklaaaGreatDoorProg
import Derived.Laws.OwnMore
import Derived.Maps.AppendAt
/- Plain mathematics of patterns: which may be, what they fit. Of no program. -/
set_option linter.unusedVariables false
namespace Go.Proofs.YtamiacmnobklaaaGreatDoor
open Go.RowKit

def patC (c : UInt8) : UInt8 := if c = 42 ∨ c = 63 then 97 else c
def patOk (x : Txt) : Bool := (x == [42, 42]) || nameS (x.map patC)
def patternS (s : Txt) : Int := if 200 < s.length then 4 else if (namesS s).all patOk then 0 else 10
def starS {α : Type} (f : List α → Bool) : List α → Bool
  | [] => f []
  | d :: t => f (d :: t) || starS f t
def inS : Txt → Txt → Bool
  | [], s => s.isEmpty
  | c :: p, s => if c = 42 then starS (inS p) s else match s with
    | [] => false
    | d :: t => (c == 63 || c == d) && inS p t
def matF : List Txt → List Txt → Bool
  | [], l => l.isEmpty
  | p :: r, l => if p = [42, 42] then starS (matF r) l else match l with
    | [] => false
    | x :: t => inS p x && matF r t
def matchS (p s : Txt) : Bool := decide (patternS p = 0) && decide (pathS s = 0) && matF (namesS p) (namesS s)
theorem inS_end (p s : Txt) (k : Nat) (hk : k ≤ s.length) : inS (p.drop p.length) (s.drop k) = decide (k = s.length) := by
  rw [List.drop_eq_nil_of_le (Nat.le_refl _)]
  show (s.drop k).isEmpty = _
  by_cases h : k = s.length
  · rw [decide_eq_true h, h, List.drop_eq_nil_of_le (Nat.le_refl _)]; rfl
  · rw [decide_eq_false h, List.drop_eq_getElem_cons (show k < s.length by omega)]; rfl
theorem starS_at {α : Type} (f : List α → Bool) (s : List α) (k : Nat) : starS f (s.drop k) = (f (s.drop k) || (decide (k < s.length) && starS f (s.drop (k + 1)))) := by
  by_cases h : k < s.length
  · rw [List.drop_eq_getElem_cons h, decide_eq_true h, Bool.true_and]; rfl
  · rw [List.drop_eq_nil_of_le (by omega), decide_eq_false h, Bool.false_and, Bool.or_false]; rfl
theorem inS_star (p s : Txt) (i k : Nat) (hi : i < p.length) (hc : p[i] = 42) : inS (p.drop i) (s.drop k) = (inS (p.drop (i + 1)) (s.drop k) || (decide (k < s.length) && inS (p.drop i) (s.drop (k + 1)))) := by
  rw [List.drop_eq_getElem_cons hi]
  have e : ∀ x, inS (p[i] :: p.drop (i + 1)) x = starS (inS (p.drop (i + 1))) x := fun x => by
    show (if p[i] = 42 then _ else _) = _
    rw [if_pos hc]
  rw [e, e, starS_at]
theorem inS_one (p s : Txt) (i k : Nat) (hi : i < p.length) (hc : ¬ p[i] = 42) (hk : k < s.length) : inS (p.drop i) (s.drop k) = ((p[i] == 63 || p[i] == s[k]) && inS (p.drop (i + 1)) (s.drop (k + 1))) := by
  rw [List.drop_eq_getElem_cons hi, List.drop_eq_getElem_cons hk]
  show (if p[i] = 42 then _ else _) = _
  rw [if_neg hc]
theorem inS_none (p s : Txt) (i k : Nat) (hi : i < p.length) (hc : ¬ p[i] = 42) (hk : ¬ k < s.length) : inS (p.drop i) (s.drop k) = false := by
  rw [List.drop_eq_getElem_cons hi, show s.drop k = [] from List.drop_eq_nil_of_le (by omega)]
  show (if p[i] = 42 then _ else _) = _
  rw [if_neg hc]
theorem matF_end (p s : List Txt) (k : Nat) (hk : k ≤ s.length) : matF (p.drop p.length) (s.drop k) = decide (k = s.length) := by
  rw [List.drop_eq_nil_of_le (Nat.le_refl _)]
  show (s.drop k).isEmpty = _
  by_cases h : k = s.length
  · rw [decide_eq_true h, h, List.drop_eq_nil_of_le (Nat.le_refl _)]; rfl
  · rw [decide_eq_false h, List.drop_eq_getElem_cons (show k < s.length by omega)]; rfl
theorem matF_star (p s : List Txt) (i k : Nat) (hi : i < p.length) (hc : p[i] = [42, 42]) : matF (p.drop i) (s.drop k) = (matF (p.drop (i + 1)) (s.drop k) || (decide (k < s.length) && matF (p.drop i) (s.drop (k + 1)))) := by
  rw [List.drop_eq_getElem_cons hi]
  have e : ∀ x, matF (p[i] :: p.drop (i + 1)) x = starS (matF (p.drop (i + 1))) x := fun x => by
    show (if p[i] = [42, 42] then _ else _) = _
    rw [if_pos hc]
  rw [e, e, starS_at]
theorem matF_one (p s : List Txt) (i k : Nat) (hi : i < p.length) (hc : ¬ p[i] = [42, 42]) (hk : k < s.length) : matF (p.drop i) (s.drop k) = (inS p[i] s[k] && matF (p.drop (i + 1)) (s.drop (k + 1))) := by
  rw [List.drop_eq_getElem_cons hi, List.drop_eq_getElem_cons hk]
  show (if p[i] = [42, 42] then _ else _) = _
  rw [if_neg hc]
theorem matF_none (p s : List Txt) (i k : Nat) (hi : i < p.length) (hc : ¬ p[i] = [42, 42]) (hk : ¬ k < s.length) : matF (p.drop i) (s.drop k) = false := by
  rw [List.drop_eq_getElem_cons hi, show s.drop k = [] from List.drop_eq_nil_of_le (by omega)]
  show (if p[i] = [42, 42] then _ else _) = _
  rw [if_neg hc]
/-! ### A table filled from its end -/
def TabB (val : Nat → Nat → Bool) (W cur : Nat) (T : List Bool) : Prop := ∀ i k, k < W → cur ≤ i * W + k → i * W + k < T.length → T[i * W + k]? = some (val i k)
theorem TabB.set {val : Nat → Nat → Bool} {W i k : Nat} {T : List Bool} (h : TabB val W (i * W + k + 1) T) (hk : k < W) (hl : i * W + k < T.length) : TabB val W (i * W + k) (T.set (i * W + k) (val i k)) := by
  intro i' k' h1 h2 h3
  rw [List.length_set] at h3
  by_cases e : i * W + k = i' * W + k'
  · rw [← e, List.getElem?_set_self hl]
    have hW : 0 < W := by omega
    have e1 : i = i' := by
      have a1 : (i * W + k) / W = i := by rw [Nat.mul_comm, Nat.mul_add_div hW, Nat.div_eq_of_lt hk]; rfl
      have a2 : (i' * W + k') / W = i' := by rw [Nat.mul_comm, Nat.mul_add_div hW, Nat.div_eq_of_lt h1]; rfl
      rw [← a1, ← a2, e]
    subst e1
    have e2 : k = k' := by omega
    subst e2
    rfl
  · rw [List.getElem?_set_ne e]
    exact h i' k' h1 (by omega) h3
theorem TabB.le {val : Nat → Nat → Bool} {W a b : Nat} {T : List Bool} (h : TabB val W a T) (hab : a ≤ b) : TabB val W b T := fun i k h1 h2 h3 => h i k h1 (by omega) h3
end Go.Proofs.YtamiacmnobklaaaGreatDoor
/- Plain mathematics of matching by one place to come back to: it tells what the table tells. Of no program. -/
set_option linter.unusedVariables false
namespace Go.Proofs.YtamiacmnobklaaaGreatDoor
open Go.RowKit

/-- A pattern's parts fit a list: a part that is any many, or one that fits just one. -/
def fitG {α : Type} (anyM : α → Bool) (one : α → α → Bool) : List α → List α → Bool
  | [], l => l.isEmpty
  | c :: p, l => if anyM c then starS (fitG anyM one p) l else match l with
    | [] => false
    | d :: t => one c d && fitG anyM one p t
section
variable {α : Type} {anyM : α → Bool} {one : α → α → Bool}
theorem fitG_star (p s : List α) (i k : Nat) (hi : i < p.length) (hc : anyM p[i] = true) : fitG anyM one (p.drop i) (s.drop k) = (fitG anyM one (p.drop (i + 1)) (s.drop k) || (decide (k < s.length) && fitG anyM one (p.drop i) (s.drop (k + 1)))) := by
  rw [List.drop_eq_getElem_cons hi]
  have e : ∀ x, fitG anyM one (p[i] :: p.drop (i + 1)) x = starS (fitG anyM one (p.drop (i + 1))) x := fun x => by
    show (if anyM p[i] then _ else _) = _
    rw [if_pos hc]
  rw [e, e, starS_at]
theorem fitG_one (p s : List α) (i k : Nat) (hi : i < p.length) (hc : anyM p[i] = false) (hk : k < s.length) : fitG anyM one (p.drop i) (s.drop k) = (one p[i] s[k] && fitG anyM one (p.drop (i + 1)) (s.drop (k + 1))) := by
  rw [List.drop_eq_getElem_cons hi, List.drop_eq_getElem_cons hk]
  show (if anyM p[i] then _ else _) = _
  rw [if_neg (by rw [hc]; decide)]
theorem fitG_none (p s : List α) (i k : Nat) (hi : i < p.length) (hc : anyM p[i] = false) (hk : ¬ k < s.length) : fitG anyM one (p.drop i) (s.drop k) = false := by
  rw [List.drop_eq_getElem_cons hi, show s.drop k = [] from List.drop_eq_nil_of_le (by omega)]
  show (if anyM p[i] then _ else _) = _
  rw [if_neg (by rw [hc]; decide)]
theorem fitG_end (p s : List α) (k : Nat) : fitG anyM one (p.drop p.length) (s.drop k) = decide (s.length ≤ k) := by
  rw [List.drop_eq_nil_of_le (Nat.le_refl _)]
  show (s.drop k).isEmpty = _
  by_cases h : s.length ≤ k
  · rw [decide_eq_true h, List.drop_eq_nil_of_le h]; rfl
  · rw [decide_eq_false h, List.drop_eq_getElem_cons (show k < s.length by omega)]; rfl
/-- The pattern's parts from i on fit the list from k on. -/
def F (anyM : α → Bool) (one : α → α → Bool) (p s : List α) (i k : Nat) : Prop := fitG anyM one (p.drop i) (s.drop k) = true
/-- Behind any many: the rest fits from k on, if it fits from somewhere behind k. -/
theorem F_star (p s : List α) (i : Nat) (hi : i < p.length) (hc : anyM p[i] = true) : ∀ k, k ≤ s.length → (F anyM one p s i k ↔ ∃ j, k ≤ j ∧ j ≤ s.length ∧ F anyM one p s (i + 1) j) := by
  have key : ∀ n k, k ≤ s.length → s.length - k = n → (F anyM one p s i k ↔ ∃ j, k ≤ j ∧ j ≤ s.length ∧ F anyM one p s (i + 1) j) := by
    intro n
    induction n with
    | zero =>
      intro k hk hn
      unfold F
      rw [fitG_star p s i k hi hc, decide_eq_false (by omega), Bool.false_and, Bool.or_false]
      constructor
      · intro h; exact ⟨k, Nat.le_refl _, hk, h⟩
      · rintro ⟨j, h1, h2, h3⟩
        obtain rfl : j = k := by omega
        exact h3
    | succ n ih =>
      intro k hk hn
      have IH := ih (k + 1) (by omega) (by omega)
      unfold F at IH ⊢
      rw [fitG_star p s i k hi hc, decide_eq_true (by omega), Bool.true_and, Bool.or_eq_true, IH]
      constructor
      · rintro (h | ⟨j, h1, h2, h3⟩)
        · exact ⟨k, Nat.le_refl _, hk, h⟩
        · exact ⟨j, by omega, h2, h3⟩
      · rintro ⟨j, h1, h2, h3⟩
        by_cases e : j = k
        · subst e; exact .inl h3
        · exact .inr ⟨j, by omega, h2, h3⟩
  exact fun k hk => key _ k hk rfl
/-- What stands behind the last any many: parts from b on, each for just one, up to i, fit from t on up to t + (i - b). -/
def Run (anyM : α → Bool) (one : α → α → Bool) (p s : List α) (b i t : Nat) : Prop :=
  b ≤ i ∧ i ≤ p.length ∧ t + (i - b) ≤ s.length ∧ ∀ j, b ≤ j → j < i → ∃ (h1 : j < p.length) (h2 : t + (j - b) < s.length), anyM p[j] = false ∧ one p[j] s[t + (j - b)] = true
theorem Run.fit {p s : List α} {b i t : Nat} (h : Run anyM one p s b i t) : F anyM one p s b t ↔ F anyM one p s i (t + (i - b)) := by
  obtain ⟨hbi, hip, his, hr⟩ := h
  have key : ∀ n, b + n ≤ i → (F anyM one p s b t ↔ F anyM one p s (b + n) (t + n)) := by
    intro n
    induction n with
    | zero => intro _; exact Iff.rfl
    | succ n ih =>
      intro hn
      obtain ⟨h1, h2, h3, h4⟩ := hr (b + n) (by omega) (by omega)
      rw [ih (by omega)]
      unfold F
      have e : t + (b + n - b) = t + n := by omega
      simp only [e] at h2 h4
      rw [fitG_one p s (b + n) (t + n) h1 h3 h2, h4, Bool.true_and]
      exact Iff.rfl
  have := key (i - b) (by omega)
  rwa [show b + (i - b) = i by omega] at this
/-- The state: no any many as yet (a = -1), or the last one is just ahead of b, was tried up to t, and now stands at i. -/
structure Greedy (anyM : α → Bool) (one : α → α → Bool) (p s : List α) (i at_ : Nat) (again : Int) (taken : Nat) : Prop where
  ip : i ≤ p.length
  al : at_ ≤ s.length
  nul : again = -1 → ∀ {k}, k = 0 → (F anyM one p s 0 0 ↔ F anyM one p s i at_)
  last : again ≠ -1 → ∃ b : Nat, again = (b : Int) ∧ 0 < b ∧ taken ≤ at_ ∧ at_ = taken + (i - b) ∧ Run anyM one p s b i taken ∧ (F anyM one p s 0 0 ↔ ∃ j, taken ≤ j ∧ j ≤ s.length ∧ F anyM one p s b j)
theorem Greedy.start (p s : List α) : Greedy anyM one p s 0 0 (-1) 0 :=
  ⟨Nat.zero_le _, Nat.zero_le _, fun _ _ _ => Iff.rfl, fun h => absurd rfl h⟩
/-- Whatever an earlier any many could take, the next one can: parts behind it from t' on fit as well as from t on. -/
theorem F_later {p s : List α} {b i t j : Nat} (hr : Run anyM one p s b i t) (hi : i < p.length) (hc : anyM p[i] = true) (hj : t ≤ j) (hjs : j ≤ s.length) (hf : F anyM one p s b j) : F anyM one p s i (t + (i - b)) := by
  -- from j on the parts up to i take i - b of the list, too; then the rest fits somewhere behind
  obtain ⟨hbi, hip, his, hq⟩ := hr
  have key : ∀ n, b + n ≤ i → (j + n ≤ s.length ∧ F anyM one p s (b + n) (j + n)) := by
    intro n
    induction n with
    | zero => intro _; exact ⟨hjs, hf⟩
    | succ n ih =>
      intro hn
      obtain ⟨h0, hF⟩ := ih (by omega)
      obtain ⟨h1, h2, h3, h4⟩ := hq (b + n) (by omega) (by omega)
      unfold F at hF ⊢
      by_cases hlt : j + n < s.length
      · rw [fitG_one p s (b + n) (j + n) h1 h3 hlt, Bool.and_eq_true] at hF
        exact ⟨by omega, hF.2⟩
      · rw [fitG_none p s (b + n) (j + n) h1 h3 hlt] at hF
        cases hF
  obtain ⟨k1, k2⟩ := key (i - b) (by omega)
  rw [show b + (i - b) = i by omega] at k2
  rw [F_star p s i hi hc _ (by omega)] at k2
  obtain ⟨m, m1, m2, m3⟩ := k2
  rw [F_star p s i hi hc _ (by omega)]
  exact ⟨m, by omega, m2, m3⟩
theorem Greedy.many {p s : List α} {i at_ taken : Nat} {again : Int} (h : Greedy anyM one p s i at_ again taken) (hi : i < p.length) (hc : anyM p[i] = true) :
    Greedy anyM one p s (i + 1) at_ ((i + 1 : Nat) : Int) at_ := by
  have hal := h.al
  refine ⟨by omega, h.al, fun e => by omega, fun _ => ⟨i + 1, rfl, by omega, Nat.le_refl _, by omega, ⟨Nat.le_refl _, by omega, by omega, fun j h1 h2 => by omega⟩, ?_⟩⟩
  have hs := F_star p s i hi hc (one := one) at_ h.al
  rw [← hs]
  by_cases e : again = -1
  · exact h.nul e rfl
  · obtain ⟨b, hb, hb0, ht, hat, hr, hf⟩ := h.last e
    rw [hf]
    constructor
    · rintro ⟨j, j1, j2, j3⟩
      rw [hat]; exact F_later hr hi hc j1 j2 j3
    · intro hF
      exact ⟨taken, Nat.le_refl _, by have := h.al; omega, by rw [hr.fit, ← hat]; exact hF⟩
theorem Greedy.step {p s : List α} {i at_ taken : Nat} {again : Int} (h : Greedy anyM one p s i at_ again taken) (hi : i < p.length) (hc : anyM p[i] = false) (ha : at_ < s.length) (ho : one p[i] s[at_] = true) :
    Greedy anyM one p s (i + 1) (at_ + 1) again taken := by
  refine ⟨by omega, by omega, fun e k hk => ?_, fun e => ?_⟩
  · rw [h.nul e rfl]
    unfold F
    rw [fitG_one p s i at_ hi hc ha, ho, Bool.true_and]
  · obtain ⟨b, hb, hb0, ht, hat, hr, hf⟩ := h.last e
    obtain ⟨r1, r2, r3, r4⟩ := hr
    have q1 : taken ≤ at_ + 1 := by omega
    have q2 : at_ + 1 = taken + (i + 1 - b) := by clear r4 hf ho h; omega
    have q3 : b ≤ i + 1 := by omega
    have q4 : taken + (i + 1 - b) ≤ s.length := by clear r4 hf ho h; omega
    refine ⟨b, hb, hb0, q1, q2, ⟨q3, hi, q4, fun j h1 h2 => ?_⟩, hf⟩
    by_cases e1 : j = i
    · subst e1
      have e2 : taken + (j - b) = at_ := by clear r4 hf ho h; omega
      have e4 : taken + (j - b) < s.length := by rw [e2]; exact ha
      have e3 : s[taken + (j - b)] = s[at_] := getElem_congr_idx e2
      exact ⟨hi, e4, hc, by rw [e3]; exact ho⟩
    · exact r4 j h1 (by omega)
/-- Where the parts stand does not fit: so the last any many takes one more. -/
theorem Greedy.back {p s : List α} {i at_ taken : Nat} {again : Int} (h : Greedy anyM one p s i at_ again taken) (ha : at_ < s.length) (hno : ¬ F anyM one p s i at_) (hn : again ≠ -1) :
    Greedy anyM one p s again.toNat (taken + 1) again (taken + 1) := by
  obtain ⟨b, hb, hb0, ht, hat, hr, hf⟩ := h.last hn
  have e1 : again.toNat = b := by omega
  obtain ⟨r1, r2, r3, r4⟩ := hr
  rw [e1]
  refine ⟨by omega, by omega, fun e => absurd e hn, fun _ => ⟨b, hb, hb0, Nat.le_refl _, by omega, ⟨Nat.le_refl _, by omega, by omega, fun j h1 h2 => by omega⟩, ?_⟩⟩
  rw [hf]
  constructor
  · rintro ⟨j, j1, j2, j3⟩
    by_cases e : j = taken
    · subst e
      rw [Run.fit ⟨r1, r2, r3, r4⟩, ← hat] at j3
      exact absurd j3 hno
    · exact ⟨j, by omega, j2, j3⟩
  · rintro ⟨j, j1, j2, j3⟩
    exact ⟨j, by omega, j2, j3⟩
theorem Greedy.no {p s : List α} {i at_ taken : Nat} {again : Int} (h : Greedy anyM one p s i at_ again taken) (hno : ¬ F anyM one p s i at_) (hn : again = -1) : fitG anyM one p s = false := by
  have := h.nul hn (k := 0) rfl
  unfold F at this hno
  rw [List.drop_zero, List.drop_zero] at this
  cases e : fitG anyM one p s with
  | false => rfl
  | true => exact absurd (this.1 e) hno
/-- What can't fit where it stands. -/
theorem not_F {p s : List α} {i at_ : Nat} (ha : at_ < s.length) (h : ∀ hi : i < p.length, anyM p[i] = false ∧ one p[i] s[at_] = false) (hip : i ≤ p.length) : ¬ F anyM one p s i at_ := by
  unfold F
  by_cases hi : i < p.length
  · obtain ⟨h1, h2⟩ := h hi
    rw [fitG_one p s i at_ hi h1 ha, h2]; simp
  · obtain rfl : i = p.length := by omega
    rw [fitG_end, decide_eq_false (by omega)]; simp
/-- At the list's end: the parts left over must all be any many. -/
def restS (anyM : α → Bool) (p : List α) (i : Nat) : Bool := (p.drop i).all anyM
theorem F_rest (p s : List α) : ∀ n i, p.length - i = n → i ≤ p.length → fitG anyM one (p.drop i) (s.drop s.length) = (p.drop i).all anyM := by
  intro n
  induction n with
  | zero =>
    intro i h1 h2
    obtain rfl : i = p.length := by omega
    rw [fitG_end, decide_eq_true (Nat.le_refl _), List.drop_eq_nil_of_le (Nat.le_refl _)]; rfl
  | succ n ih =>
    intro i h1 h2
    have hi : i < p.length := by omega
    rw [show (p.drop i).all anyM = (anyM p[i] && (p.drop (i + 1)).all anyM) by rw [List.drop_eq_getElem_cons hi]; rfl]
    cases hc : anyM p[i] with
    | true => rw [fitG_star p s i s.length hi hc, decide_eq_false (by omega), Bool.false_and, Bool.or_false, Bool.true_and, ih (i + 1) (by omega) (by omega)]
    | false => rw [fitG_none p s i s.length hi hc (by omega), Bool.false_and]
theorem Greedy.ends {p s : List α} {i taken : Nat} {again : Int} (h : Greedy anyM one p s i s.length again taken) : fitG anyM one p s = (p.drop i).all anyM := by
  have hF : F anyM one p s 0 0 ↔ F anyM one p s i s.length := by
    by_cases e : again = -1
    · exact h.nul e rfl
    · obtain ⟨b, hb, hb0, ht, hat, hr, hf⟩ := h.last e
      rw [hf]
      constructor
      · rintro ⟨j, j1, j2, j3⟩
        obtain ⟨r1, r2, r3, r4⟩ := hr
        -- from j on: as long as the run, so j = taken
        by_cases e2 : j = taken
        · subst e2
          rw [Run.fit ⟨r1, r2, r3, r4⟩, ← hat] at j3; exact j3
        · exfalso
          have key : ∀ n, b + n ≤ i → (j + n ≤ s.length ∧ F anyM one p s (b + n) (j + n)) := by
            intro n
            induction n with
            | zero => intro _; exact ⟨j2, j3⟩
            | succ n ih =>
              intro hn
              obtain ⟨h0, hF⟩ := ih (by omega)
              obtain ⟨h1, h2, h3, h4⟩ := r4 (b + n) (by omega) (by omega)
              unfold F at hF ⊢
              by_cases hlt : j + n < s.length
              · rw [fitG_one p s (b + n) (j + n) h1 h3 hlt, Bool.and_eq_true] at hF
                exact ⟨by omega, hF.2⟩
              · rw [fitG_none p s (b + n) (j + n) h1 h3 hlt] at hF
                cases hF
          have := (key (i - b) (by omega)).1
          omega
      · intro hF
        exact ⟨taken, Nat.le_refl _, by omega, by rw [hr.fit, ← hat]; exact hF⟩
  have hR := F_rest (anyM := anyM) (one := one) p s (p.length - i) i rfl h.ip
  unfold F at hF
  rw [List.drop_zero, List.drop_zero, hR] at hF
  cases e1 : fitG anyM one p s <;> cases e2 : (p.drop i).all anyM
  · rfl
  · exact absurd (hF.2 e2) (by rw [e1]; decide)
  · exact absurd (hF.1 e1) (by rw [e2]; decide)
  · rfl
end
/-! ### A name; a path -/
def anyB (c : UInt8) : Bool := c == 42
def oneB (c d : UInt8) : Bool := c == 63 || c == d
def anyT (p : Txt) : Bool := p == [42, 42]
theorem fitG_inS : ∀ p s, fitG anyB oneB p s = inS p s
  | [], s => rfl
  | c :: p, s => by
    have ih : fitG anyB oneB p = inS p := funext (fitG_inS p)
    unfold fitG inS
    rw [ih]
    by_cases h : c = 42
    · rw [if_pos (by simp [anyB, h]), if_pos h]
    · rw [if_neg (by simp [anyB, h]), if_neg h]; cases s <;> rfl
theorem fitG_matF : ∀ p s, fitG anyT inS p s = matF p s
  | [], s => rfl
  | c :: p, s => by
    have ih : fitG anyT inS p = matF p := funext (fitG_matF p)
    unfold fitG matF
    rw [ih]
    by_cases h : c = [42, 42]
    · rw [if_pos (by simp [anyT, h]), if_pos h]
    · rw [if_neg (by simp [anyT, h]), if_neg h]; cases s <;> rfl
/-! ### A pattern is just a path -/
theorem patC_ok (x : UInt8) : okC (patC x) = okC x := by
  unfold patC
  split
  · rename_i h; rcases h with rfl | rfl <;> rfl
  · rfl
theorem patOk_name (x : Txt) : patOk x = nameS x := by
  unfold patOk
  by_cases h : x = [42, 42]
  · subst h; decide
  · rw [show (x == [42, 42]) = false by simp [h], Bool.false_or]
    unfold nameS
    have e1 : (x.map patC == []) = (x == []) := by cases x <;> rfl
    have hp : ∀ c : UInt8, (patC c == 46) = (c == 46) := by
      intro c; unfold patC
      split
      · rename_i h; rcases h with rfl | rfl <;> rfl
      · rfl
    have e2 : (x.map patC == [46]) = (x == [46]) := by
      match x with
      | [] => rfl
      | [c] => simp [hp c]
      | _ :: _ :: _ => simp
    have e3 : (x.map patC == [46, 46]) = (x == [46, 46]) := by
      match x with
      | [] => rfl
      | [c] => simp
      | [c, d] => simp [hp c, hp d]
      | _ :: _ :: _ :: _ => simp
    have e4 : (x.map patC).all okC = x.all okC := by
      rw [List.all_map]
      congr 1
      funext c
      exact patC_ok c
    rw [e1, e2, e3, e4, List.length_map]
theorem patternS_path (s : Txt) : patternS s = pathS s := by
  unfold patternS pathS
  rw [show patOk = nameS from funext patOk_name]
end Go.Proofs.YtamiacmnobklaaaGreatDoor
/- The document's Pattern. -/
set_option linter.unusedVariables false
namespace Go.Proofs.YtamiacmnobklaaaGreatDoor
open Go.RowKit

/-- A row of bytes whose cells may be written. -/
def RowM (w : World) (base g cap : Nat) (l : Txt) : Prop := base ≤ g ∧ l.length ≤ cap ∧ ∃ C fr, w.heap[g]? = some (.cells C 5 fr) ∧ l.length ≤ fr.1 ∧ ∀ j (hj : j < l.length), C[j]? = some (.int .u8 ((l[j].toNat : Nat) : Int))
theorem RowM.cell {w : World} {base g cap : Nat} {l : Txt} (h : RowM w base g cap l) (j : Nat) (hj : j < l.length) : w.cell? ⟨g, j, none⟩ = some (.int .u8 ((l[j].toNat : Nat) : Int)) := by
  obtain ⟨_, _, C, fr, hg, _, hc⟩ := h
  rw [cell_of_row _ _ _ _ _ _ hg]
  exact hc j hj
theorem RowM.frozen {w : World} {base g cap : Nat} {l : Txt} (h : RowM w base g cap l) (j : Nat) (hj : j < l.length) : w.frozen? ⟨g, j, none⟩ = false := by
  obtain ⟨_, _, C, fr, hg, hf, hc⟩ := h
  simp only [World.frozen?, hg]
  simp
  omega
theorem RowM.set {w : World} {base g cap : Nat} {l : Txt} (h : RowM w base g cap l) (j : Nat) (c : UInt8) : RowM (w.setCell ⟨g, j, none⟩ (.int .u8 ((c.toNat : Nat) : Int))) base g cap (l.set j c) := by
  obtain ⟨h1, h2, C, fr, hg, hf, hc⟩ := h
  refine ⟨h1, by rw [List.length_set]; exact h2, C.setIfInBounds j (.int .u8 ((c.toNat : Nat) : Int)), fr, by simp [World.setCell, Array.getElem?_modify, hg], by rw [List.length_set]; exact hf, fun k hk => ?_⟩
  rw [List.length_set] at hk
  have hk2 := hc k hk
  have hCk : k < C.size := (Array.getElem?_eq_some_iff.1 hk2).1
  rw [Array.getElem?_setIfInBounds]
  by_cases e : j = k
  · subst e
    rw [if_pos rfl, if_pos hCk]
    simp
  · rw [if_neg e, hk2, List.getElem_set_ne e]
theorem RowM.conv (w : World) (l : Txt) (src dst : TypeId) {P : Program} (hs : P.underlying src = some .string) (hd : P.underlying dst = some (.slice 5)) (he : P.underlying 5 = some (.int .u8)) :
    ∃ cap w1, (convert src dst (.string ⟨l.toArray⟩)).run P w = .ok (.slice (some ⟨w.heap.size, 0, none⟩) l.length cap) w1 ∧ RowM w1 w.heap.size w.heap.size cap l ∧ Below w.heap.size w w1 := by
  have h := run_bytes_of_string (P := P) w src dst 5 ⟨l.toArray⟩ hs hd he
  have hge : l.length ≤ grownCap w l.length 0 5 := grownCap_ge w _ _ _
  obtain ⟨C, hC⟩ : ∃ C, C = bytesRow ⟨l.toArray⟩ (grownCap w l.length 0 5) := ⟨_, rfl⟩
  have hsz : C.size = grownCap w l.length 0 5 := by
    rw [hC]
    unfold bytesRow
    show (Array.map _ l.toArray ++ Array.replicate (grownCap w l.length 0 5 - l.length) _).size = _
    simp
    omega
  have hget : ∀ i (hi : i < l.length), C[i]? = some (.int .u8 ((l[i].toNat : Nat) : Int)) := by
    intro i hi
    rw [hC]
    unfold bytesRow
    show (Array.map _ l.toArray ++ Array.replicate (grownCap w l.length 0 5 - l.length) _)[i]? = _
    rw [Array.getElem?_append_left (by simpa using hi)]
    simp [hi]
  have h' : (convert src dst (.string ⟨l.toArray⟩)).run P w = .ok (.slice (some ⟨w.heap.size, 0, none⟩) l.length (grownCap w l.length 0 5)) (w.drew.alloc (.cells C 5 (C.size, C.size + 1))) := by
    rw [hC]
    exact h
  have hh : (w.drew.alloc (.cells C 5 (C.size, C.size + 1))).heap[w.heap.size]? = some (.cells C 5 (C.size, C.size + 1)) := by
    show (w.heap.push _)[w.heap.size]? = _
    simp
  exact ⟨_, _, h', ⟨Nat.le_refl _, hge, C, _, hh, by dsimp only; omega, hget⟩, (Below_drew (Below.refl _ _)).alloc (Nat.le_refl _) _⟩
theorem RowM.str {w : World} {base g cap : Nat} {l : Txt} (h : RowM w base g cap l) (src dst : TypeId) {P : Program} (hs : P.underlying src = some (.slice 5)) (he : P.underlying 5 = some (.int .u8)) (hd : P.underlying dst = some .string) :
    (convert src dst (.slice (some ⟨g, 0, none⟩) l.length cap)).run P w = .ok (.string ⟨l.toArray⟩) w := by
  refine run_convert_bytes_back w src dst 5 ⟨g, 0, none⟩ cap l hs he hd ?_
  intro j hj
  rw [addr_add0]
  exact h.cell j hj
theorem allp_at (l : List Txt) (i : Nat) (h : i < l.length) : (l.drop i).all patOk = (patOk l[i] && (l.drop (i + 1)).all patOk) := by
  rw [List.drop_eq_getElem_cons h]; rfl
theorem pat_step (x : Txt) (k : Nat) (h : k < x.length) : ((x.take k).map patC ++ x.drop k).set k (patC x[k]) = (x.take (k + 1)).map patC ++ x.drop (k + 1) := by
  have hl : ((x.take k).map patC).length = k := by rw [List.length_map, List.length_take]; omega
  rw [List.set_append_right _ _ (by rw [hl]; exact Nat.le_refl _), hl, Nat.sub_self, show x.drop k = x[k] :: x.drop (k + 1) from List.drop_eq_getElem_cons h, List.take_succ_eq_append_getElem h, List.map_append, List.append_assoc]
  rfl
theorem pat_same (x : Txt) (k : Nat) (h : k < x.length) (hc : patC x[k] = x[k]) : (x.take k).map patC ++ x.drop k = (x.take (k + 1)).map patC ++ x.drop (k + 1) := by
  rw [← pat_step x k h, hc]
  have hl : ((x.take k).map patC).length = k := by rw [List.length_map, List.length_take]; omega
  rw [List.set_append_right _ _ (by rw [hl]; exact Nat.le_refl _), hl, Nat.sub_self, List.drop_eq_getElem_cons h]
  rfl
end Go.Proofs.YtamiacmnobklaaaGreatDoor
/- Of no program: what the walk of fits counts down; a list's elements, loaded one by one. -/
set_option linter.unusedVariables false
namespace Go.Proofs.YtamiacmnobklaaaGreatDoor
open Go.RowKit

def msr (P S a t k : Nat) : Nat := (P + 1 - a) * ((S + 2) * (S + 2)) + (S + 1 - t) * (S + 2) + (S + 1 - k)
theorem msr_star {P S a a' t k : Nat} (h : a < a') (hP : a' ≤ P + 1) (hk : k ≤ S) (ht : t ≤ k) : msr P S a' k k < msr P S a t k := by
  unfold msr
  have h1 : (P + 1 - a' + 1) * ((S + 2) * (S + 2)) ≤ (P + 1 - a) * ((S + 2) * (S + 2)) := Nat.mul_le_mul_right _ (by omega)
  rw [Nat.succ_mul] at h1
  have h2 : (S + 1 - k) * (S + 2) ≤ (S + 1) * (S + 2) := Nat.mul_le_mul_right _ (by omega)
  have h3 : (S + 2) * (S + 2) = (S + 1) * (S + 2) + (S + 2) := Nat.succ_mul (S + 1) (S + 2)
  omega
theorem msr_one {P S a t k : Nat} (hk : k < S) : msr P S a t (k + 1) < msr P S a t k := by unfold msr; omega
theorem msr_back {P S a t k k' : Nat} (ht : t < S) (hk : k' = t + 1) : msr P S a (t + 1) k' < msr P S a t k := by
  unfold msr
  have h1 : (S + 1 - t) * (S + 2) = (S + 1 - (t + 1)) * (S + 2) + (S + 2) := by
    rw [show S + 1 - t = S + 1 - (t + 1) + 1 by omega, Nat.succ_mul]
  omega
/-- Each of a list, loaded. -/
def EachG {α : Type} (enc : α → Value) (w : World) (a : Option Addr) (l : List α) : Prop := ∀ i (hi : i < l.length), ∃ g o, a = some ⟨g, o, none⟩ ∧ w.cell? ⟨g, o + i, none⟩ = some (enc l[i])
theorem EachG.new {α : Type} {enc : α → Value} {w w' : World} {a : Option Addr} {l : List α} (h : EachG enc w a l) (hb : Below w.heap.size w w') : EachG enc w' a l := fun i hi => by
  obtain ⟨g, o, e, hc⟩ := h i hi
  exact ⟨g, o, e, by rw [World.cell?_of_block (w := w) ((Kept.new hb (fun _ => False)).block g (World.block_lt_of_cell? w _ hc) id)]; exact hc⟩
def encB (b : UInt8) : Value := .int .u8 ((b.toNat : Nat) : Int)
def encS (t : Txt) : Value := .string ⟨t.toArray⟩
end Go.Proofs.YtamiacmnobklaaaGreatDoor
/- Landed tree: fitsName, walked. -/
set_option linter.unusedVariables false
namespace Go.Proofs.YtamiacmnobklaaaGreatDoor
open Go.RowKit

theorem RowM.each {w : World} {base g cap : Nat} {l : Txt} (h : RowM w base g cap l) : EachG encB w (some ⟨g, 0, none⟩) l := fun i hi => ⟨g, 0, rfl, by rw [Nat.zero_add]; exact h.cell i hi⟩
end Go.Proofs.YtamiacmnobklaaaGreatDoor

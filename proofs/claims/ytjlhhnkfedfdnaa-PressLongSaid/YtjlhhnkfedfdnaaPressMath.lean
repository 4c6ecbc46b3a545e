/- Plain mathematics of pressing: the longest copy of the nearest, the steps, the pressed text; bounds. Of no program. -/
import Derived.Test.YtjlhhnkfedfdnaaCodeMath
import Derived.Test.YtjlhhnkfedfdnaaMarkMath
import Derived.Deep.Draws
import Derived.Laws.Bits128
import Derived.Laws.IdiomStrings
import Derived.Lib.AppendStr
import Derived.Lib.Hide
import Derived.WalkKit
set_option linter.unusedVariables false
namespace Go.Proofs.Ytjlhhnkfedfdnaa
open Go.RowKit

/-! ### How many bytes stand alike -/
def alkF (s : Txt) (a b : Nat) : Nat → Nat
  | 0 => 0
  | f + 1 => if b < s.length ∧ s[a]? = s[b]? then 1 + alkF s (a + 1) (b + 1) f else 0
/-- At most 259. -/
def alk (s : Txt) (a b : Nat) : Nat := alkF s a b 259
structure Alk (s : Txt) (a b m n : Nat) : Prop where
  le : n ≤ m
  len : n ≠ 0 → b + n ≤ s.length
  eq : ∀ k, k < n → s[a + k]? = s[b + k]?
  stop : n = m ∨ s.length ≤ b + n ∨ s[a + n]? ≠ s[b + n]?
theorem alkF_spec (s : Txt) : ∀ (f a b : Nat), Alk s a b f (alkF s a b f)
  | 0, a, b => ⟨Nat.le_refl _, fun h => absurd rfl h, fun k hk => by simp [alkF] at hk, .inl rfl⟩
  | f + 1, a, b => by
    unfold alkF
    by_cases h : b < s.length ∧ s[a]? = s[b]?
    · rw [if_pos h]
      have ih := alkF_spec s f (a + 1) (b + 1)
      have h1 := ih.le
      refine ⟨by omega, fun _ => ?_, fun k hk => ?_, ?_⟩
      · by_cases h0 : alkF s (a + 1) (b + 1) f = 0
        · omega
        · have := ih.len h0; omega
      · cases k with
        | zero => exact h.2
        | succ k =>
          have := ih.eq k (by omega)
          rw [show a + (k + 1) = a + 1 + k by omega, show b + (k + 1) = b + 1 + k by omega]
          exact this
      · rcases ih.stop with e | e | e
        · left; omega
        · right; left; omega
        · right; right
          rw [show a + (1 + alkF s (a + 1) (b + 1) f) = a + 1 + alkF s (a + 1) (b + 1) f by omega, show b + (1 + alkF s (a + 1) (b + 1) f) = b + 1 + alkF s (a + 1) (b + 1) f by omega]
          exact e
    · rw [if_neg h]
      refine ⟨Nat.zero_le _, fun h => absurd rfl h, fun k hk => by omega, ?_⟩
      by_cases h1 : b < s.length
      · right; right
        intro e
        exact h ⟨h1, by simpa using e⟩
      · right; left; omega
theorem Alk.uniq {s : Txt} {a b m n k : Nat} (h : Alk s a b m n) (g : Alk s a b m k) : n = k := by
  have key : ∀ {n k : Nat}, Alk s a b m n → Alk s a b m k → ¬ n < k := by
    intro n k h g hlt
    have h1 := g.le
    have h2 := g.len (by omega)
    rcases h.stop with e | e | e
    · omega
    · omega
    · exact e (g.eq n hlt)
  have := key h g
  have := key g h
  omega
theorem alk_spec (s : Txt) (a b : Nat) : Alk s a b 259 (alk s a b) := alkF_spec s 259 a b
theorem alk_eq {s : Txt} {a b n : Nat} (h : Alk s a b 259 n) : alk s a b = n := (alk_spec s a b).uniq h

/-! ### The longest copy, of as long ones the nearest -/
def bestF (s : Txt) (at' : Nat) : Nat → Nat → Nat × Nat → Nat × Nat
  | 0, _, c => c
  | f + 1, d, c => if d ≤ 4096 ∧ d ≤ at' ∧ c.2 < 259 then bestF s at' f (d + 1) (if c.2 < alk s (at' - d) at' then (d, alk s (at' - d) at') else c) else c
def best (s : Txt) (at' : Nat) : Nat × Nat := bestF s at' 4097 1 (0, 3)
/-- Up to how far back it was sought. -/
structure BestTo (s : Txt) (at' m : Nat) (c : Nat × Nat) : Prop where
  none : c.1 = 0 → c.2 = 3
  some : c.1 ≠ 0 → 1 ≤ c.1 ∧ c.1 ≤ at' ∧ c.1 ≤ 4096 ∧ 4 ≤ c.2 ∧ c.2 = alk s (at' - c.1) at' ∧ ∀ d, 1 ≤ d → d < c.1 → alk s (at' - d) at' < c.2
  all : ∀ d, 1 ≤ d → d < m → d ≤ at' → d ≤ 4096 → alk s (at' - d) at' ≤ c.2
theorem bestF_spec (s : Txt) (at' : Nat) : ∀ (f d : Nat) (c : Nat × Nat), 1 ≤ d → 4098 ≤ f + d → d ≤ 4097 → BestTo s at' d c → ∃ m, BestTo s at' m (bestF s at' f d c) ∧ (min (at' + 1) 4097 ≤ m ∨ (bestF s at' f d c).2 = 259)
  | 0, d, c, h1, h2, h3, h => by omega
  | f + 1, d, c, h1, h2, h3, h => by
    unfold bestF
    by_cases hc : d ≤ 4096 ∧ d ≤ at' ∧ c.2 < 259
    · rw [if_pos hc]
      refine bestF_spec s at' f (d + 1) _ (by omega) (by omega) (by omega) ?_
      by_cases hb : c.2 < alk s (at' - d) at'
      · rw [if_pos hb]
        have hlt : ∀ e, 1 ≤ e → e < d → alk s (at' - e) at' < alk s (at' - d) at' := fun e he1 he2 => Nat.lt_of_le_of_lt (h.all e he1 he2 (by omega) (by omega)) hb
        have h3' : 3 ≤ c.2 := by
          by_cases h0 : c.1 = 0
          · rw [h.none h0]; omega
          · have := (h.some h0).2.2.2.1; omega
        refine ⟨fun e => by dsimp only at e; omega, fun _ => ⟨h1, hc.2.1, hc.1, by dsimp only; omega, rfl, hlt⟩, fun e he1 he2 he3 he4 => ?_⟩
        dsimp only
        by_cases hed : e = d
        · subst hed; exact Nat.le_refl _
        · exact Nat.le_of_lt (hlt e he1 (by omega))
      · rw [if_neg hb]
        refine ⟨h.none, h.some, fun e he1 he2 he3 he4 => ?_⟩
        by_cases hed : e = d
        · subst hed; omega
        · exact h.all e he1 (by omega) he3 he4
    · rw [if_neg hc]
      refine ⟨d, h, ?_⟩
      by_cases h259 : c.2 < 259
      · left; omega
      · right
        by_cases h0 : c.1 = 0
        · have := h.none h0; omega
        · have h5 := (h.some h0).2.2.2.2.1
          have := (alk_spec s (at' - c.1) at').le
          omega
/-- What the longest copy is. -/
structure Best (s : Txt) (at' : Nat) (c : Nat × Nat) : Prop where
  none : c.1 = 0 → c.2 = 3
  some : c.1 ≠ 0 → 1 ≤ c.1 ∧ c.1 ≤ at' ∧ c.1 ≤ 4096 ∧ 4 ≤ c.2 ∧ c.2 = alk s (at' - c.1) at' ∧ ∀ d, 1 ≤ d → d < c.1 → alk s (at' - d) at' < c.2
  all : ∀ d, 1 ≤ d → d ≤ at' → d ≤ 4096 → alk s (at' - d) at' ≤ c.2
theorem best_spec (s : Txt) (at' : Nat) : Best s at' (best s at') := by
  obtain ⟨m, h, hm⟩ := bestF_spec s at' 4097 1 (0, 3) (by omega) (by omega) (by omega) ⟨fun _ => rfl, fun h => absurd rfl h, fun d h1 h2 => by omega⟩
  have e : bestF s at' 4097 1 (0, 3) = best s at' := rfl
  rw [e] at h hm
  refine ⟨h.none, h.some, fun d h1 h2 h3 => ?_⟩
  rcases hm with hm | hm
  · exact h.all d h1 (by omega) h2 h3
  · rw [hm]; exact (alk_spec s (at' - d) at').le
theorem Best.uniq {s : Txt} {at' : Nat} {c b : Nat × Nat} (h : Best s at' c) (g : Best s at' b) : c = b := by
  obtain ⟨cb, cn⟩ := c
  obtain ⟨bb, bn⟩ := b
  by_cases hc : cb = 0
  · have e1 := h.none hc
    by_cases hb : bb = 0
    · have e2 := g.none hb
      dsimp only at e1 e2
      rw [hc, hb, e1, e2]
    · obtain ⟨h1, h2, h3, h4, h5, h6⟩ := g.some hb
      have := h.all bb h1 h2 h3
      dsimp only at *
      omega
  · obtain ⟨h1, h2, h3, h4, h5, h6⟩ := h.some hc
    by_cases hb : bb = 0
    · have e2 := g.none hb
      have := g.all cb h1 h2 h3
      dsimp only at *
      omega
    · obtain ⟨g1, g2, g3, g4, g5, g6⟩ := g.some hb
      dsimp only at *
      have a1 := h.all bb g1 g2 g3
      have a2 := g.all cb h1 h2 h3
      dsimp only at a1 a2
      have en : cn = bn := by omega
      have : ¬ cb < bb := fun hlt => by have := g6 cb h1 hlt; omega
      have : ¬ bb < cb := fun hlt => by have := h6 bb g1 hlt; omega
      rw [en, show cb = bb by omega]
/-! ### Found among some places alone, the nearest first -/
def updB (s : Txt) (at' : Nat) (c : Nat × Nat) (d : Nat) : Nat × Nat := if c.2 < alk s (at' - d) at' then (d, alk s (at' - d) at') else c
/-- What was found among those of P. -/
structure BestIn (s : Txt) (at' : Nat) (P : Nat → Prop) (c : Nat × Nat) : Prop where
  none : c.1 = 0 → c.2 = 3
  some : c.1 ≠ 0 → P c.1 ∧ 4 ≤ c.2 ∧ c.2 = alk s (at' - c.1) at' ∧ ∀ d, P d → d < c.1 → alk s (at' - d) at' < c.2
  all : ∀ d, P d → alk s (at' - d) at' ≤ c.2
theorem BestIn.start (s : Txt) (at' : Nat) : BestIn s at' (fun _ => False) (0, 3) := ⟨fun _ => rfl, fun h => absurd rfl h, fun d h => h.elim⟩
theorem BestIn.three {s : Txt} {at' : Nat} {P : Nat → Prop} {c : Nat × Nat} (h : BestIn s at' P c) : 3 ≤ c.2 := by
  by_cases h0 : c.1 = 0
  · rw [h.none h0]; omega
  · have := (h.some h0).2.1; omega
theorem BestIn.next {s : Txt} {at' : Nat} {P Q : Nat → Prop} {c : Nat × Nat} {d : Nat} (h : BestIn s at' P c) (h1 : 1 ≤ d) (hP : ∀ e, P e → e < d) (hQ : ∀ e, Q e ↔ P e ∨ e = d) : BestIn s at' Q (updB s at' c d) := by
  have h3c := h.three
  unfold updB
  by_cases hb : c.2 < alk s (at' - d) at'
  · rw [if_pos hb]
    refine ⟨fun e => by dsimp only at e; omega, fun _ => ⟨(hQ d).2 (.inr rfl), by dsimp only; omega, rfl, fun e he hlt => ?_⟩, fun e he => ?_⟩
    · rcases (hQ e).1 he with he | he
      · have := h.all e he; dsimp only; omega
      · dsimp only at hlt; omega
    · rcases (hQ e).1 he with he | he
      · have := h.all e he; dsimp only; omega
      · rw [he]; exact Nat.le_refl _
  · rw [if_neg hb]
    refine ⟨h.none, fun h0 => ?_, fun e he => ?_⟩
    · obtain ⟨g1, g2, g3, g4⟩ := h.some h0
      refine ⟨(hQ _).2 (.inl g1), g2, g3, fun e he hlt => ?_⟩
      rcases (hQ e).1 he with he | he
      · exact g4 e he hlt
      · have := hP _ g1; omega
    · rcases (hQ e).1 he with he | he
      · exact h.all e he
      · rw [he]; omega
theorem BestIn.best {s : Txt} {at' : Nat} {P : Nat → Prop} {c : Nat × Nat} (h : BestIn s at' P c) (hP : ∀ e, P e → 1 ≤ e ∧ e ≤ at' ∧ e ≤ 4096) (hall : ∀ d, 1 ≤ d → d ≤ at' → d ≤ 4096 → 4 ≤ alk s (at' - d) at' → P d ∨ (c.2 = 259 ∧ c.1 < d)) : c = best s at' := by
  have h3c := h.three
  refine Best.uniq ⟨h.none, fun h0 => ?_, fun d h1 h2 h3 => ?_⟩ (best_spec s at')
  · obtain ⟨g1, g2, g3, g4⟩ := h.some h0
    obtain ⟨p1, p2, p3⟩ := hP _ g1
    refine ⟨p1, p2, p3, g2, g3, fun d h1 hlt => ?_⟩
    by_cases h4 : 4 ≤ alk s (at' - d) at'
    · rcases hall d h1 (by omega) (by omega) h4 with h5 | h5
      · exact g4 d h5 hlt
      · omega
    · omega
  · by_cases h4 : 4 ≤ alk s (at' - d) at'
    · rcases hall d h1 h2 h3 h4 with h5 | h5
      · exact h.all d h5
      · have := (alk_spec s (at' - d) at').le; omega
    · omega
/-- A copy that may be taken. -/
structure Copy (s : Txt) (at' back size : Nat) : Prop where
  b1 : 1 ≤ back
  b2 : back ≤ at'
  b3 : back ≤ 4096
  s1 : 4 ≤ size
  s2 : size ≤ 259
  len : at' + size ≤ s.length
  eq : ∀ k, k < size → s[at' - back + k]? = s[at' + k]?
theorem best_copy {s : Txt} {at' : Nat} (h : (best s at').1 ≠ 0) : Copy s at' (best s at').1 (best s at').2 := by
  obtain ⟨h1, h2, h3, h4, h5, _⟩ := (best_spec s at').some h
  have ha := alk_spec s (at' - (best s at').1) at'
  rw [← h5] at ha
  exact ⟨h1, h2, h3, h4, ha.le, ha.len (by omega), ha.eq⟩

/-! ### Steps -/
/-- A byte, or a copy: how many, how far back. -/
abbrev PSt := UInt8 ⊕ (Nat × Nat)
def stepsP (s : Txt) (at' : Nat) : List PSt :=
  if h : at' < s.length then
    (if (best s at').1 = 0 then .inl s[at'] :: stepsP s (at' + 1) else .inr ((best s at').2, (best s at').1) :: stepsP s (at' + max 1 (best s at').2))
  else []
termination_by s.length - at'
theorem stepsP_end {s : Txt} {at' : Nat} (h : ¬ at' < s.length) : stepsP s at' = [] := by rw [stepsP, dif_neg h]
theorem stepsP_one {s : Txt} {at' : Nat} (h : at' < s.length) (hb : (best s at').1 = 0) : stepsP s at' = .inl s[at'] :: stepsP s (at' + 1) := by rw [stepsP, dif_pos h, if_pos hb]
theorem stepsP_copy {s : Txt} {at' : Nat} (h : at' < s.length) (hb : (best s at').1 ≠ 0) : stepsP s at' = .inr ((best s at').2, (best s at').1) :: stepsP s (at' + (best s at').2) := by
  have := (best_copy hb).s1
  rw [stepsP, dif_pos h, if_neg hb, show max 1 (best s at').2 = (best s at').2 by omega]
/-- What was gathered. -/
def plainS (t : Txt) : Txt := if t = [] then [] else nb (2 * t.length) ++ t
def copyE (size back : Nat) : Txt := nb (2 * (size - 4) + 1) ++ nb (back - 1)
def encP : Txt → List PSt → Txt
  | held, [] => plainS held
  | held, .inl c :: r => encP (held ++ [c]) r
  | held, .inr (n, b) :: r => plainS held ++ copyE n b ++ encP [] r
/-- A text, pressed. -/
def pressS (s : Txt) : Txt := nb s.length ++ encP [] (stepsP s 0)

/-! ### Bounds -/
theorem numB_len1 (f n : Nat) (h : n < 128) : (numB f n).length = 1 := by rw [numB_small f n h]; rfl
theorem nb_len1 {n : Nat} (h : n < 128) : (nb n).length = 1 := numB_len1 9 n h
theorem nb_len2 {n : Nat} (h : n < 16384) : (nb n).length ≤ 2 := by
  unfold nb
  by_cases h1 : n < 128
  · rw [numB_len1 9 n h1]; omega
  · rw [numB_big 8 n h1, List.length_cons, numB_len1 8 _ (by omega)]; omega
theorem nb_len3 {n : Nat} (h : n < 2097152) : (nb n).length ≤ 3 := by
  unfold nb
  by_cases h1 : n < 128
  · rw [numB_len1 9 n h1]; omega
  · rw [numB_big 8 n h1, List.length_cons]
    by_cases h2 : n / 128 < 128
    · rw [numB_len1 8 _ h2]; omega
    · rw [numB_big 7 _ h2, List.length_cons, numB_len1 7 _ (by omega)]; omega
/-- A gathered piece takes at most one byte, and one of 64, more than it. -/
theorem plain_len {t : Txt} (h : t.length ≤ 1048575) : (plainS t).length ≤ t.length + t.length / 64 + 1 ∧ (t = [] → plainS t = []) := by
  refine ⟨?_, fun e => by unfold plainS; rw [if_pos e]⟩
  unfold plainS
  by_cases h0 : t = []
  · rw [if_pos h0]; simp
  · rw [if_neg h0, List.length_append]
    by_cases h1 : t.length < 64
    · rw [nb_len1 (by omega)]; omega
    · by_cases h2 : t.length < 8192
      · have := nb_len2 (n := 2 * t.length) (by omega); omega
      · have := nb_len3 (n := 2 * t.length) (by omega); omega
theorem copy_len {n b : Nat} (h1 : 4 ≤ n) (h2 : n ≤ 259) (h3 : 1 ≤ b) (h4 : b ≤ 4096) : (copyE n b).length + 1 ≤ n ∧ (copyE n b).length ≤ 4 := by
  unfold copyE
  rw [List.length_append]
  have hb := nb_len2 (n := b - 1) (by omega)
  by_cases h : n < 68
  · rw [nb_len1 (n := 2 * (n - 4) + 1) (by omega)]; omega
  · have := nb_len2 (n := 2 * (n - 4) + 1) (by omega); omega
theorem enc_len (s : Txt) (hs : s.length ≤ 1048576) : ∀ (f at' : Nat) (held : Txt), s.length - at' ≤ f → held.length + (s.length - at') ≤ 1048575 → at' ≤ s.length →
    (encP held (stepsP s at')).length ≤ held.length + (s.length - at') + (held.length + (s.length - at')) / 64 + 1 := by
  intro f
  induction f with
  | zero =>
    intro at' held h1 h2 h3
    rw [stepsP_end (by omega)]
    have := (plain_len (t := held) (by omega)).1
    show (plainS held).length ≤ _
    have e : s.length - at' = 0 := by omega
    rw [e]; simpa using this
  | succ f ih =>
    intro at' held h1 h2 h3
    by_cases hlt : at' < s.length
    · by_cases hb : (best s at').1 = 0
      · rw [stepsP_one hlt hb]
        have := ih (at' + 1) (held ++ [s[at']]) (by omega) (by rw [List.length_append]; simp; omega) (by omega)
        show (encP (held ++ [s[at']]) _).length ≤ _
        rw [List.length_append, List.length_singleton] at this
        have e : held.length + 1 + (s.length - (at' + 1)) = held.length + (s.length - at') := by omega
        rw [e] at this
        exact this
      · rw [stepsP_copy hlt hb]
        have hc := best_copy hb
        obtain ⟨l1, l2⟩ := copy_len hc.s1 hc.s2 hc.b1 hc.b3
        have hcl := hc.len
        have := ih (at' + (best s at').2) [] (by have := hc.s1; omega) (by simp; omega) hc.len
        obtain ⟨p1, p2⟩ := plain_len (t := held) (by omega)
        show (plainS held ++ copyE _ _ ++ encP [] _).length ≤ _
        rw [List.length_append, List.length_append]
        simp only [List.length_nil, Nat.zero_add] at this
        have hsz := hc.s1
        generalize (best s at').2 = sz at *
        generalize (copyE sz (best s at').1).length = ce at *
        generalize (encP [] (stepsP s (at' + sz))).length = rest at *
        generalize (plainS held).length = pl at *
        omega
    · rw [stepsP_end hlt]
      have := (plain_len (t := held) (by omega)).1
      show (plainS held).length ≤ _
      have e : s.length - at' = 0 := by omega
      rw [e]; simpa using this
theorem press_len (s : Txt) (hs : s.length ≤ 1048575) : (pressS s).length ≤ s.length + s.length / 64 + 4 := by
  unfold pressS
  rw [List.length_append]
  have h1 := nb_len3 (n := s.length) (by omega)
  have h2 := enc_len s (by omega) (s.length - 0) 0 [] (by omega) (by simp; omega) (by omega)
  simp only [List.length_nil, Nat.zero_add, Nat.sub_zero] at h2
  omega
/-! ### The chapter's first example -/
def nine : Txt := [97, 97, 97, 97, 97, 97, 97, 97, 97]
theorem best_nine0 : best nine 0 = (0, 3) := by decide +kernel
theorem best_nine1 : best nine 1 = (1, 8) := by decide +kernel
theorem steps_nine : stepsP nine 0 = [.inl 97, .inr (8, 1)] := by
  rw [stepsP_one (s := nine) (at' := 0) (by decide) (by rw [best_nine0]), stepsP_copy (s := nine) (at' := 0 + 1) (by decide) (by rw [Nat.zero_add, best_nine1]; decide), Nat.zero_add, best_nine1, stepsP_end (by decide)]
  rfl
theorem press_nine : pressS nine = [9, 2, 97, 9, 0] := by
  unfold pressS
  rw [steps_nine]
  decide +kernel
end Go.Proofs.Ytjlhhnkfedfdnaa

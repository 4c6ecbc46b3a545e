/- Plain mathematics: a text that stands twice is pressed to little more than once. Of no program. -/
import Derived.Test.YtjlhhnkfedfdnaaMarkMath
import Derived.Test.YtjlhhnkfedfdnaaPressMath
import Derived.Deep.Draws
import Derived.Laws.Bits128
import Derived.Laws.IdiomStrings
import Derived.Lib.AppendStr
import Derived.Lib.Hide
import Derived.WalkKit
set_option linter.unusedVariables false
namespace Go.Proofs.Ytjlhhnkfedfdnaa
open Go.RowKit

theorem twice_get (s : Txt) {i : Nat} (h : i < s.length) : (s ++ s)[i]? = (s ++ s)[s.length + i]? := by
  rw [List.getElem?_append_left h, List.getElem?_append_right (by omega), Nat.add_sub_cancel_left]
theorem twice_alk (s : Txt) {at' : Nat} (h1 : s.length ≤ at') (h2 : at' < s.length + s.length) : alk (s ++ s) (at' - s.length) at' = 259 ∨ s.length + s.length - at' ≤ alk (s ++ s) (at' - s.length) at' := by
  have h := alk_spec (s ++ s) (at' - s.length) at'
  generalize alk (s ++ s) (at' - s.length) at' = n at *
  rcases h.stop with e | e | e
  · exact .inl e
  · right; rw [List.length_append] at e; omega
  · by_cases hc : at' + n < s.length + s.length
    · refine absurd ?_ e
      have := twice_get s (i := at' - s.length + n) (by omega)
      rw [show s.length + (at' - s.length + n) = at' + n by omega] at this
      exact this
    · right; omega
theorem twice_best (s : Txt) {at' : Nat} (hs : s.length ≤ 4096) (h1 : s.length ≤ at') (h2 : at' + 4 ≤ s.length + s.length) (h0 : 0 < s.length) : (best (s ++ s) at').1 ≠ 0 ∧ ((best (s ++ s) at').2 = 259 ∨ (best (s ++ s) at').2 = s.length + s.length - at') := by
  have hb := best_spec (s ++ s) at'
  have ha := hb.all s.length (by omega) h1 hs
  have hk := twice_alk s h1 (by omega)
  have hne : (best (s ++ s) at').1 ≠ 0 := fun e => by have := hb.none e; omega
  have hc := best_copy hne
  have hl := hc.len
  rw [List.length_append] at hl
  have := hc.s2
  exact ⟨hne, by omega⟩
/-- From a place in the second half on. -/
theorem twice_tail (s : Txt) (hs : s.length ≤ 4096) (h0 : 0 < s.length) : ∀ (g at' : Nat), s.length + s.length - at' ≤ g → s.length ≤ at' → at' ≤ s.length + s.length →
    (encP [] (stepsP (s ++ s) at')).length ≤ 4 * ((s.length + s.length - at') / 259) + 4 := by
  intro g
  induction g using Nat.strongRecOn with
  | _ g ih =>
    intro at' h1 h2 h3
    by_cases h4 : at' + 4 ≤ s.length + s.length
    · obtain ⟨hne, hsz⟩ := twice_best s hs h2 h4 h0
      have hc := best_copy hne
      have hl := hc.len
      rw [List.length_append] at hl
      obtain ⟨l1, l2⟩ := copy_len hc.s1 hc.s2 hc.b1 hc.b3
      rw [stepsP_copy (by rw [List.length_append]; omega) hne]
      show (plainS [] ++ copyE _ _ ++ encP [] _).length ≤ _
      have e1 : plainS [] = [] := rfl
      rw [e1, List.nil_append, List.length_append]
      have hs1 := hc.s1
      rcases hsz with e | e
      · rw [e] at l2 hl ⊢
        have := ih (s.length + s.length - (at' + 259)) (by omega) (at' + 259) (Nat.le_refl _) (by omega) hl
        omega
      · rw [stepsP_end (s := s ++ s) (at' := at' + (best (s ++ s) at').2) (by rw [List.length_append]; omega)]
        have e2 : (encP [] []).length = 0 := rfl
        omega
    · have := enc_len (s ++ s) (by rw [List.length_append]; omega) ((s ++ s).length - at') at' [] (Nat.le_refl _) (by rw [List.length_append]; simp; omega) (by rw [List.length_append]; omega)
      rw [List.length_append] at this
      simp only [List.length_nil, Nat.zero_add] at this
      omega
theorem twice_enc (s : Txt) (hs : s.length ≤ 4096) (h4 : 4 ≤ s.length) : ∀ (f at' : Nat) (held : Txt), s.length - at' ≤ f → at' ≤ s.length → held.length ≤ at' →
    (encP held (stepsP (s ++ s) at')).length ≤ held.length + (s.length - at') + (held.length + (s.length - at')) / 64 + 4 * (s.length / 259) + 9 := by
  have base : ∀ held : Txt, held.length ≤ s.length → (encP held (stepsP (s ++ s) s.length)).length ≤ held.length + held.length / 64 + 4 * (s.length / 259) + 9 := by
    intro held hh
    obtain ⟨hne, hsz⟩ := twice_best s hs (Nat.le_refl _) (by omega) (by omega)
    have hc := best_copy hne
    have hl := hc.len
    rw [List.length_append] at hl
    obtain ⟨l1, l2⟩ := copy_len hc.s1 hc.s2 hc.b1 hc.b3
    rw [stepsP_copy (by rw [List.length_append]; omega) hne]
    show (plainS held ++ copyE _ _ ++ encP [] _).length ≤ _
    rw [List.length_append, List.length_append]
    have hp := (plain_len (t := held) (by omega)).1
    have ht := twice_tail s hs (by omega) (s.length + s.length - (s.length + (best (s ++ s) s.length).2)) (s.length + (best (s ++ s) s.length).2) (Nat.le_refl _) (by omega) hl
    have : (s.length + s.length - (s.length + (best (s ++ s) s.length).2)) / 259 ≤ s.length / 259 := Nat.div_le_div_right (by omega)
    omega
  intro f
  induction f with
  | zero =>
    intro at' held h1 h2 h3
    obtain rfl : at' = s.length := by omega
    have := base held h3
    rw [Nat.sub_self, Nat.add_zero]
    exact this
  | succ f ih =>
    intro at' held h1 h2 h3
    by_cases hlt : at' < s.length
    · have hlt2 : at' < (s ++ s).length := by rw [List.length_append]; omega
      by_cases hb : (best (s ++ s) at').1 = 0
      · rw [stepsP_one hlt2 hb]
        have := ih (at' + 1) (held ++ [(s ++ s)[at']]) (by omega) (by omega) (by simp; omega)
        show (encP (held ++ [(s ++ s)[at']]) _).length ≤ _
        rw [List.length_append, List.length_singleton] at this
        have e : held.length + 1 + (s.length - (at' + 1)) = held.length + (s.length - at') := by omega
        rw [e] at this
        exact this
      · have hc := best_copy hb
        have hl := hc.len
        rw [List.length_append] at hl
        obtain ⟨l1, l2⟩ := copy_len hc.s1 hc.s2 hc.b1 hc.b3
        rw [stepsP_copy hlt2 hb]
        show (plainS held ++ copyE _ _ ++ encP [] _).length ≤ _
        rw [List.length_append, List.length_append]
        have hp := (plain_len (t := held) (by omega)).1
        have hp0 := (plain_len (t := held) (by omega)).2
        have hs1 := hc.s1
        by_cases hin : at' + (best (s ++ s) at').2 ≤ s.length
        · have := ih (at' + (best (s ++ s) at').2) [] (by omega) hin (by simp)
          simp only [List.length_nil, Nat.zero_add] at this
          generalize (best (s ++ s) at').2 = sz at *
          generalize (copyE sz (best (s ++ s) at').1).length = ce at *
          generalize (encP [] (stepsP (s ++ s) (at' + sz))).length = rest at *
          generalize (plainS held).length = pl at *
          omega
        · have ht := twice_tail s hs (by omega) (s.length + s.length - (at' + (best (s ++ s) at').2)) (at' + (best (s ++ s) at').2) (Nat.le_refl _) (by omega) hl
          have : (s.length + s.length - (at' + (best (s ++ s) at').2)) / 259 ≤ s.length / 259 := Nat.div_le_div_right (by omega)
          have : held.length / 64 ≤ (held.length + (s.length - at')) / 64 := Nat.div_le_div_right (by omega)
          omega
    · exact ih at' held (by omega) h2 h3
theorem twice_len (s : Txt) (hs : s.length ≤ 4000) (h4 : 4 ≤ s.length) : (pressS (s ++ s)).length ≤ s.length + s.length / 64 + 4 * (s.length / 259) + 11 := by
  unfold pressS
  rw [List.length_append]
  have h1 := nb_len2 (n := (s ++ s).length) (by rw [List.length_append]; omega)
  have h2 := twice_enc s (by omega) h4 (s.length - 0) 0 [] (by omega) (by omega) (by simp)
  simp only [List.length_nil, Nat.zero_add, Nat.sub_zero] at h2
  omega
end Go.Proofs.Ytjlhhnkfedfdnaa

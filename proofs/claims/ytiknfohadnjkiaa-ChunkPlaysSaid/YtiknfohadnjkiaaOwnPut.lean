/- A struct of an own list, one field turned (as TreeIW has it; of no program). -/
import Derived.Test.YtiknfohadnjkiaaGen
import Derived.Test.YtiknfohadnjkiaaOwnL
import Derived.Test.YtiknfohadnjkiaaRowN
import Derived.OpenShut
import Derived.ProofKit
import Derived.ShutString
import Derived.SizedLaws
import Derived.SliceStrings
set_option linter.unusedVariables false
namespace Go.Proofs.Ytiknfohadnjkiaa
open Go.RowKit

/-! ### A struct of an own list, one field turned -/
section
variable {α : Type} {enc : α → List Value} {k : Nat}
theorem flatN_setB (h : EncN enc k) : ∀ (l : List α) (i r : Nat) (u : Value) (y : α) (hi : i < l.length), r < k → enc y = (enc l[i]).set r u → (flatN enc l).set (i * k + r) u = flatN enc (l.set i y)
  | [], i, r, u, y, hi, _, _ => by simp at hi
  | x :: t, 0, r, u, y, hi, hr, he => by
    rw [Nat.zero_mul, Nat.zero_add, flatN_cons, List.set_cons_zero, flatN_cons, List.set_append_left _ _ (by rw [h.len]; exact hr)]
    rw [he]; rfl
  | x :: t, i + 1, r, u, y, hi, hr, he => by
    rw [flatN_cons, List.set_cons_succ, flatN_cons, List.set_append_right _ _ (by rw [h.len, Nat.add_mul]; omega), h.len, show (i + 1) * k + r - k = i * k + r by rw [Nat.add_mul]; omega]
    rw [flatN_setB h t i r u y (by simpa using hi) hr (by simpa using he)]
theorem OwnN.putB {w : World} {base : Nat} {e : TypeId} {g n c : Nat} {xs : List α} (hE : EncN enc k) (h : OwnN enc k w base e (.slice (some ⟨g, 0, none⟩) n c) xs) (i r : Nat) (u : Value) (y : α) (hi : i < xs.length) (hr : r < k) (hy : enc y = (enc xs[i]).set r u) :
    OwnN enc k (w.setCell ⟨g, i * k + r, none⟩ u) base e (.slice (some ⟨g, 0, none⟩) n c) (xs.set i y) ∧ Kept (· = g) w (w.setCell ⟨g, i * k + r, none⟩ u) := by
  have hn : n = xs.length := by
    rcases h.2 with ⟨h', _⟩ | ⟨g', cap', cur, h', _⟩
    · simp at h'
    · simp at h'; exact h'.2.1
  subst hn
  obtain ⟨h1, h2⟩ := World.ownsRow.stored h (i * k + r) u
  refine ⟨?_, ⟨h2.os, h2.tape, h2.output, h2.size, fun j hj hm => h2.block j hj (fun e => hm (Option.some.inj e))⟩⟩
  rw [flatN_setB hE xs i r u y hi hr hy] at h1
  unfold OwnN
  rw [List.length_set]
  exact h1
theorem OwnN.atB {w : World} {base : Nat} {e : TypeId} {v : Value} {xs : List α} (hE : EncN enc k) (h : OwnN enc k w base e v xs) (hx : xs ≠ []) : ∃ g c, v = .slice (some ⟨g, 0, none⟩) xs.length c ∧ xs.length ≤ c ∧ base ≤ g ∧ g < w.heap.size ∧ (∀ i (hi : i < xs.length), ElAt enc w g (i * k) xs[i]) ∧ ∀ j, w.frozen? ⟨g, j, none⟩ = false := by
  rcases h.2 with ⟨rfl, hn⟩ | ⟨g, cap, cur, rfl, hb, hg, hle, _⟩
  · exact absurd (List.eq_nil_of_length_eq_zero hn) hx
  · refine ⟨g, cap, rfl, hle, hb, (Array.getElem?_eq_some_iff.1 hg).1, fun i hi => ?_, fun j => World.ownsRow.frozenAt h j⟩
    obtain ⟨a', c', hv, _, hc⟩ := OwnN.row hE h
    injection hv with e1 e2 e3
    obtain ⟨g', o', he, _, hx⟩ := hc i hi
    rw [← e1] at he
    simp at he
    obtain ⟨rfl, rfl⟩ := he
    rw [Nat.zero_add] at hx
    exact hx
end
end Go.Proofs.Ytiknfohadnjkiaa

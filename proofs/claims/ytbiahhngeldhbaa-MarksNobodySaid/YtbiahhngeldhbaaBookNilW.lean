/- Walks of a book that nobody gave, and of the law MarksNobody. -/
import Derived.Test.YtbiahhngeldhbaaBookW
set_option linter.unusedVariables false
namespace Go.Proofs.Ytbiahhngeldhbaa
open Go.RowKit

/-- A book that nobody gave: nil, or one that holds nothing. -/
def Nobody (w : World) (a : Option Addr) : Prop := a = none ∨ ∃ p, a = some ⟨p, 0, none⟩ ∧ BookAt w p none none
theorem isReal_no (w : World) (a : Option Addr) (h : Nobody w a) : Calls Try.prog 26 #[.pointer a] w fun e w' => e = .returned (.bool false) ∧ w = w' := by
  rcases h with rfl | ⟨p, rfl, h⟩
  · exact isReal_nil w
  · exact isReal_any w p none none h
theorem isIdeal_no (w : World) (a : Option Addr) (h : Nobody w a) : Calls Try.prog 27 #[.pointer a] w fun e w' => e = .returned (.bool false) ∧ w = w' := by
  rcases h with rfl | ⟨p, rfl, h⟩
  · exact isIdeal_nil w
  · exact isIdeal_any w p none none h
theorem ready_no (w : World) (a : Option Addr) (h : Nobody w a) : Calls Try.prog 19 #[.pointer a] w fun e w' => e = .returned (.bool false) ∧ w = w' := by
  have C1 := Lib.hid (isReal_no w a h)
  have C2 := Lib.hid (isIdeal_no w a h)
  clear h
  go_enter Try.func19, Try.ntmps19
  go_wp2_with fail
  refine C1.out.mono ?_
  rintro e w' ⟨rfl, rfl⟩
  go_wp2_with fail
  refine C2.out.mono ?_
  rintro e w' ⟨rfl, rfl⟩
  go_wp2
  go_ret
  exact ⟨rfl, rfl⟩
theorem mark_no (w : World) (a : Option Addr) (s : ByteArray) (h : Nobody w a) : Calls Try.prog 15 #[.pointer a, .string s] w fun e w' => e = .returned (.string ⟨#[]⟩) ∧ w = w' := by
  have C1 := Lib.hid (isReal_no w a h)
  have C2 := Lib.hid (isIdeal_no w a h)
  clear h
  go_enter Try.func15, Try.ntmps15
  go_wp2_with fail
  refine C1.out.mono ?_
  rintro e w' ⟨rfl, rfl⟩
  go_wp2_with fail
  refine C2.out.mono ?_
  rintro e w' ⟨rfl, rfl⟩
  go_wp2
  go_ret
  exact ⟨rfl, rfl⟩
theorem is_no (w : World) (a : Option Addr) (s m : ByteArray) (h : Nobody w a) : Calls Try.prog 20 #[.pointer a, .string s, .string m] w fun e w' => e = .returned (.bool false) ∧ w = w' := by
  have C1 := Lib.hid (isReal_no w a h)
  have C2 := Lib.hid (isIdeal_no w a h)
  clear h
  go_enter Try.func20, Try.ntmps20
  go_wp2_with fail
  refine C1.out.mono ?_
  rintro e w' ⟨rfl, rfl⟩
  go_wp2_with fail
  refine C2.out.mono ?_
  rintro e w' ⟨rfl, rfl⟩
  go_wp2
  go_ret
  exact ⟨rfl, rfl⟩

set_option maxRecDepth 100000 in
set_option maxHeartbeats 800000 in
theorem marksNobody_walk (s : Txt) (hs : s.length ≤ 140737488351232) (m : Txt) (hm : m.length ≤ 140737488351232) (w : World) :
    Calls Try.prog 10 #[.string ⟨s.toArray⟩, .string ⟨m.toArray⟩] w fun e w' => e = .returned (.bool true) ∧ Below w.heap.size w w' := by
  have hb0 : Below w.heap.size w (w.alloc (.cells #[.pointer none, .map none] 46)) := (Below.refl _ _).alloc (Nat.le_refl _) _
  have n1 : ∀ W : World, Nobody W none := fun W => .inl rfl
  have n2 : Nobody (w.alloc (.cells #[.pointer none, .map none] 46)) (some ⟨w.heap.size, 0, none⟩) := .inr ⟨_, rfl, heap_alloc_new _ _⟩
  have H0 := Lib.hid hb0; clear hb0
  have N1 := Lib.hid n1; clear n1
  have N2 := Lib.hid n2; clear n2
  go_enter Try.func10, Try.ntmps10
  go_wp2_with fail
  generalize w.alloc (.cells #[.pointer none, .map none] 46) = W0 at *
  refine (ready_no _ _ (N1.out _)).mono ?_
  rintro e w' ⟨rfl, rfl⟩
  go_wp2_with fail
  refine (ready_no _ _ N2.out).mono ?_
  rintro e w' ⟨rfl, rfl⟩
  go_wp2_with fail
  refine (mark_no _ _ _ (N1.out _)).mono ?_
  rintro e w' ⟨rfl, rfl⟩
  go_wp2_with fail
  refine (mark_no _ _ _ N2.out).mono ?_
  rintro e w' ⟨rfl, rfl⟩
  go_wp2_with fail
  refine (is_no _ _ _ _ (N1.out _)).mono ?_
  rintro e w' ⟨rfl, rfl⟩
  go_wp2_with fail
  refine (is_no _ _ _ _ N2.out).mono ?_
  rintro e w' ⟨rfl, rfl⟩
  go_wp2_with fail
  refine (awake_any _).mono ?_
  rintro e w5 ⟨rfl, hb5⟩
  go_wp2
  go_ret
  exact ⟨rfl, H0.out.trans (hb5.mono H0.out.size)⟩
end Go.Proofs.Ytbiahhngeldhbaa

/- Walks of payloadSize, one, One, and of the document's One. -/
import Derived.Test.YtjgoceebjmnjcaaDoorFourW
import Derived.BigQuiet
import Derived.Deep.QuietTactic
import Derived.WalkKit
import Derived.WalkSpells
import Derived.Lib.Hide
import Derived.WalkLawsBesides
import Derived.Outline
set_option linter.unusedVariables false
namespace Go.Proofs.YtjgoceebjmnjcaaDoor
open Go.RowKit

def headBad : List UInt8 → Bool
  | [] => false
  | [a] => a != 181
  | a :: b :: _ => a != 181 || b != 126
/-- How long the payload is of the frame with which bytes begin. -/
def payS (l : List UInt8) : Nat × Nat :=
  if headBad l then (0, 5) else if l.length < 6 then (0, 3) else
    if 65536 < numL ((l.take 6).drop 2) then (0, 4) else if l.length < 10 + numL ((l.take 6).drop 2) then (0, 3) else (numL ((l.take 6).drop 2), 0)
theorem headBad_long (l : List UInt8) (a b : UInt8) (h : l.take 2 = [a, b]) : headBad l = (a != 181 || b != 126) := by
  match l, h with
  | x :: y :: t, h =>
    simp at h
    obtain ⟨rfl, rfl⟩ := h
    rfl
theorem take2 (l : List UInt8) (h : 2 ≤ l.length) : ∃ a b, l.take 2 = [a, b] := by
  match l, h with
  | x :: y :: t, _ => exact ⟨x, y, rfl⟩
theorem four_of (l : List UInt8) (h : l.length = 4) : ∃ a b c d, l = [a, b, c, d] := by
  match l, h with
  | [a, b, c, d], _ => exact ⟨a, b, c, d, rfl⟩
theorem take26 (l : List UInt8) (h : 6 ≤ l.length) : ∃ a b c d, (l.take 6).drop 2 = [a, b, c, d] := four_of _ (by simp; omega)
theorem take610 (l : List UInt8) (h : 10 ≤ l.length) : ∃ a b c d, (l.take 10).drop 6 = [a, b, c, d] := four_of _ (by simp; omega)
theorem payS_ok (l : List UInt8) (h : (payS l).2 = 0) : 10 + (payS l).1 ≤ l.length ∧ (payS l).1 ≤ 65536 ∧ (payS l).1 = numL ((l.take 6).drop 2) := by
  unfold payS at h ⊢
  by_cases h1 : headBad l
  · rw [if_pos h1] at h; exact absurd h (by decide)
  · rw [if_neg h1] at h ⊢
    by_cases h2 : l.length < 6
    · rw [if_pos h2] at h; exact absurd h (by decide)
    · rw [if_neg h2] at h ⊢
      by_cases h3 : 65536 < numL ((l.take 6).drop 2)
      · rw [if_pos h3] at h; exact absurd h (by decide)
      · rw [if_neg h3] at h ⊢
        by_cases h4 : l.length < 10 + numL ((l.take 6).drop 2)
        · rw [if_pos h4] at h; exact absurd h (by decide)
        · rw [if_neg h4]
          exact ⟨by simp only; omega, by simp only; omega, rfl⟩
theorem payS_bad (l : List UInt8) (h : (payS l).2 ≠ 0) : (payS l).1 = 0 := by
  unfold payS at h ⊢
  by_cases h1 : headBad l
  · rw [if_pos h1]
  · rw [if_neg h1] at h ⊢
    by_cases h2 : l.length < 6
    · rw [if_pos h2]
    · rw [if_neg h2] at h ⊢
      by_cases h3 : 65536 < numL ((l.take 6).drop 2)
      · rw [if_pos h3]
      · rw [if_neg h3] at h ⊢
        by_cases h4 : l.length < 10 + numL ((l.take 6).drop 2)
        · rw [if_pos h4]
        · rw [if_neg h4] at h; exact absurd rfl h
theorem pay_0 (w : World) :
    Calls Tryd.prog 44 #[.string ⟨#[]⟩] w fun e w' => e = .returned (.tuple #[.int .i64 0, .int .i64 3]) ∧ Below w.heap.size w w' := by
  have E0 : (⟨#[181, 126]⟩ : ByteArray).extract 0 0 = ⟨#[]⟩ := by decide +kernel
  go_enter Tryd.func44, Tryd.ntmps44
  go_wp2
  go_quiet (fail)
  go_wp2
  go_ret2
  exact ⟨rfl, Below_drewN (Below.refl _ _) _⟩
theorem pay_1no (a : UInt8) (w : World) (ha : (a == 181) = false) :
    Calls Tryd.prog 44 #[.string ⟨#[a]⟩] w fun e w' => e = .returned (.tuple #[.int .i64 0, .int .i64 5]) ∧ Below w.heap.size w w' := by
  have E0 : (⟨#[181, 126]⟩ : ByteArray).extract 0 1 = ⟨#[181]⟩ := by decide +kernel
  have E : (⟨#[a]⟩ : ByteArray).extract 0 1 = ⟨#[a]⟩ := take_toArray [a] 1
  go_enter Tryd.func44, Tryd.ntmps44
  go_wp2
  go_quiet (fail)
  go_wp2
  go_ret2
  exact ⟨rfl, Below_drewN (Below.refl _ _) _⟩
theorem pay_1ok (a : UInt8) (w : World) (ha : (a == 181) = true) :
    Calls Tryd.prog 44 #[.string ⟨#[a]⟩] w fun e w' => e = .returned (.tuple #[.int .i64 0, .int .i64 3]) ∧ Below w.heap.size w w' := by
  have E0 : (⟨#[181, 126]⟩ : ByteArray).extract 0 1 = ⟨#[181]⟩ := by decide +kernel
  have E : (⟨#[a]⟩ : ByteArray).extract 0 1 = ⟨#[a]⟩ := take_toArray [a] 1
  go_enter Tryd.func44, Tryd.ntmps44
  go_wp2
  go_quiet (fail)
  go_wp2
  go_ret2
  exact ⟨rfl, Below_drewN (Below.refl _ _) _⟩
theorem pay_2no1 (a b : UInt8) (w : World) (ha : (a == 181) = false) :
    Calls Tryd.prog 44 #[.string ⟨#[a, b]⟩] w fun e w' => e = .returned (.tuple #[.int .i64 0, .int .i64 5]) ∧ Below w.heap.size w w' := by
  have E0 : (⟨#[181, 126]⟩ : ByteArray).extract 0 2 = ⟨#[181, 126]⟩ := by decide +kernel
  have E : (⟨#[a, b]⟩ : ByteArray).extract 0 2 = ⟨#[a, b]⟩ := take_toArray [a, b] 2
  go_enter Tryd.func44, Tryd.ntmps44
  go_wp2
  go_quiet (fail)
  go_wp2
  go_ret2
  exact ⟨rfl, Below_drewN (Below.refl _ _) _⟩
theorem pay_2no2 (a b : UInt8) (w : World) (ha : (a == 181) = true) (hb : (b == 126) = false) :
    Calls Tryd.prog 44 #[.string ⟨#[a, b]⟩] w fun e w' => e = .returned (.tuple #[.int .i64 0, .int .i64 5]) ∧ Below w.heap.size w w' := by
  have E0 : (⟨#[181, 126]⟩ : ByteArray).extract 0 2 = ⟨#[181, 126]⟩ := by decide +kernel
  have E : (⟨#[a, b]⟩ : ByteArray).extract 0 2 = ⟨#[a, b]⟩ := take_toArray [a, b] 2
  go_enter Tryd.func44, Tryd.ntmps44
  go_wp2
  go_quiet (fail)
  go_wp2
  go_ret2
  exact ⟨rfl, Below_drewN (Below.refl _ _) _⟩
theorem pay_2ok (a b : UInt8) (w : World) (ha : (a == 181) = true) (hb : (b == 126) = true) :
    Calls Tryd.prog 44 #[.string ⟨#[a, b]⟩] w fun e w' => e = .returned (.tuple #[.int .i64 0, .int .i64 3]) ∧ Below w.heap.size w w' := by
  have E0 : (⟨#[181, 126]⟩ : ByteArray).extract 0 2 = ⟨#[181, 126]⟩ := by decide +kernel
  have E : (⟨#[a, b]⟩ : ByteArray).extract 0 2 = ⟨#[a, b]⟩ := take_toArray [a, b] 2
  go_enter Tryd.func44, Tryd.ntmps44
  go_wp2
  go_quiet (fail)
  go_wp2
  go_ret2
  exact ⟨rfl, Below_drewN (Below.refl _ _) _⟩
theorem pay_3no1 (l : List UInt8) (a b : UInt8) (w : World) (hl : l.length ≤ 140737488351232) (h3 : 3 ≤ l.length) (h2 : l.take 2 = [a, b]) (ha : (a == 181) = false) :
    Calls Tryd.prog 44 #[.string ⟨l.toArray⟩] w fun e w' => e = .returned (.tuple #[.int .i64 0, .int .i64 5]) ∧ Below w.heap.size w w' := by
  have L := Lib.hid (show (⟨l.toArray⟩ : ByteArray).size = l.length from rfl)
  have E := take_toArray l 2
  rw [h2] at E
  have h2' : 2 < l.length := by omega
  clear h2
  have E0 : (⟨#[181, 126]⟩ : ByteArray).extract 0 2 = ⟨#[181, 126]⟩ := by decide +kernel
  go_enter Tryd.func44, Tryd.ntmps44
  go_wp2
  go_quiet (fail)
  go_wp2
  go_ret2
  exact ⟨rfl, Below_drewN (Below.refl _ _) _⟩
theorem pay_3no2 (l : List UInt8) (a b : UInt8) (w : World) (hl : l.length ≤ 140737488351232) (h3 : 3 ≤ l.length) (h2 : l.take 2 = [a, b]) (ha : (a == 181) = true) (hb : (b == 126) = false) :
    Calls Tryd.prog 44 #[.string ⟨l.toArray⟩] w fun e w' => e = .returned (.tuple #[.int .i64 0, .int .i64 5]) ∧ Below w.heap.size w w' := by
  have L := Lib.hid (show (⟨l.toArray⟩ : ByteArray).size = l.length from rfl)
  have E := take_toArray l 2
  rw [h2] at E
  have h2' : 2 < l.length := by omega
  clear h2
  have E0 : (⟨#[181, 126]⟩ : ByteArray).extract 0 2 = ⟨#[181, 126]⟩ := by decide +kernel
  go_enter Tryd.func44, Tryd.ntmps44
  go_wp2
  go_quiet (fail)
  go_wp2
  go_ret2
  exact ⟨rfl, Below_drewN (Below.refl _ _) _⟩
theorem pay_3short (l : List UInt8) (a b : UInt8) (w : World) (hl : l.length ≤ 140737488351232) (h3 : 3 ≤ l.length) (h2 : l.take 2 = [a, b]) (ha : (a == 181) = true) (hb : (b == 126) = true) (h6 : l.length < 6) :
    Calls Tryd.prog 44 #[.string ⟨l.toArray⟩] w fun e w' => e = .returned (.tuple #[.int .i64 0, .int .i64 3]) ∧ Below w.heap.size w w' := by
  have L := Lib.hid (show (⟨l.toArray⟩ : ByteArray).size = l.length from rfl)
  have E := take_toArray l 2
  rw [h2] at E
  have h2' : 2 < l.length := by omega
  clear h2
  have E0 : (⟨#[181, 126]⟩ : ByteArray).extract 0 2 = ⟨#[181, 126]⟩ := by decide +kernel
  go_enter Tryd.func44, Tryd.ntmps44
  go_wp2
  go_quiet (fail)
  go_wp2
  go_ret2
  exact ⟨rfl, Below_drewN (Below.refl _ _) _⟩
theorem numL4 (a b c d : UInt8) : numL [a, b, c, d] < 4294967296 := by
  have := a.toNat_lt
  have := b.toNat_lt
  have := c.toNat_lt
  have := d.toNat_lt
  simp only [numL]
  omega
theorem pay_6long (l : List UInt8) (a b : UInt8) (w : World) (hl : l.length ≤ 140737488351232) (h3 : 3 ≤ l.length) (h2 : l.take 2 = [a, b]) (ha : (a == 181) = true) (hb : (b == 126) = true) (h6 : 6 ≤ l.length) (c d x y : UInt8) (h4 : (l.take 6).drop 2 = [c, d, x, y]) (hq : 65536 < numL [c, d, x, y]) :
    Calls Tryd.prog 44 #[.string ⟨l.toArray⟩] w fun e w' => e = .returned (.tuple #[.int .i64 0, .int .i64 4]) ∧ Below w.heap.size w w' := by
  have L := Lib.hid (show (⟨l.toArray⟩ : ByteArray).size = l.length from rfl)
  have E := take_toArray l 2
  rw [h2] at E
  have h2' : 2 < l.length := by omega
  clear h2
  have E0 : (⟨#[181, 126]⟩ : ByteArray).extract 0 2 = ⟨#[181, 126]⟩ := by decide +kernel
  have E2 := slice_toArray l 2 6
  rw [h4] at E2
  clear h4
  have N := fun w => Lib.hid (number_any c d x y w)
  have hn := numL4 c d x y
  generalize numL [c, d, x, y] = n at *
  go_enter Tryd.func44, Tryd.ntmps44
  go_wp2
  go_quiet (fail)
  go_wp2_with fail
  refine (N _).out.mono ?_
  rintro e w1 ⟨n1, rfl, rfl⟩
  go_wp2
  go_ret2
  exact ⟨rfl, Below_drewN (Below.refl _ _) _⟩
theorem pay_6short (l : List UInt8) (a b : UInt8) (w : World) (hl : l.length ≤ 140737488351232) (h3 : 3 ≤ l.length) (h2 : l.take 2 = [a, b]) (ha : (a == 181) = true) (hb : (b == 126) = true) (h6 : 6 ≤ l.length) (c d x y : UInt8) (h4 : (l.take 6).drop 2 = [c, d, x, y]) (hq : numL [c, d, x, y] ≤ 65536) (hr : l.length < 10 + numL [c, d, x, y]) :
    Calls Tryd.prog 44 #[.string ⟨l.toArray⟩] w fun e w' => e = .returned (.tuple #[.int .i64 0, .int .i64 3]) ∧ Below w.heap.size w w' := by
  have L := Lib.hid (show (⟨l.toArray⟩ : ByteArray).size = l.length from rfl)
  have E := take_toArray l 2
  rw [h2] at E
  have h2' : 2 < l.length := by omega
  clear h2
  have E0 : (⟨#[181, 126]⟩ : ByteArray).extract 0 2 = ⟨#[181, 126]⟩ := by decide +kernel
  have E2 := slice_toArray l 2 6
  rw [h4] at E2
  clear h4
  have N := fun w => Lib.hid (number_any c d x y w)
  have hn := numL4 c d x y
  generalize numL [c, d, x, y] = n at *
  go_enter Tryd.func44, Tryd.ntmps44
  go_wp2
  go_quiet (fail)
  go_wp2_with fail
  refine (N _).out.mono ?_
  rintro e w1 ⟨n1, rfl, rfl⟩
  go_wp2
  go_ret2
  exact ⟨rfl, Below_drewN (Below.refl _ _) _⟩
theorem pay_6ok (l : List UInt8) (a b : UInt8) (w : World) (hl : l.length ≤ 140737488351232) (h3 : 3 ≤ l.length) (h2 : l.take 2 = [a, b]) (ha : (a == 181) = true) (hb : (b == 126) = true) (h6 : 6 ≤ l.length) (c d x y : UInt8) (h4 : (l.take 6).drop 2 = [c, d, x, y]) (hq : numL [c, d, x, y] ≤ 65536) (hr : 10 + numL [c, d, x, y] ≤ l.length) :
    Calls Tryd.prog 44 #[.string ⟨l.toArray⟩] w fun e w' => e = .returned (.tuple #[.int .i64 (numL [c, d, x, y] : Nat), .int .i64 0]) ∧ Below w.heap.size w w' := by
  have L := Lib.hid (show (⟨l.toArray⟩ : ByteArray).size = l.length from rfl)
  have E := take_toArray l 2
  rw [h2] at E
  have h2' : 2 < l.length := by omega
  clear h2
  have E0 : (⟨#[181, 126]⟩ : ByteArray).extract 0 2 = ⟨#[181, 126]⟩ := by decide +kernel
  have E2 := slice_toArray l 2 6
  rw [h4] at E2
  clear h4
  have N := fun w => Lib.hid (number_any c d x y w)
  have hn := numL4 c d x y
  generalize numL [c, d, x, y] = n at *
  go_enter Tryd.func44, Tryd.ntmps44
  go_wp2
  go_quiet (fail)
  go_wp2_with fail
  refine (N _).out.mono ?_
  rintro e w1 ⟨n1, rfl, rfl⟩
  go_wp2
  go_ret2
  exact ⟨rfl, Below_drewN (Below.refl _ _) _⟩

theorem pay_any (l : List UInt8) (w : World) (hl : l.length ≤ 140737488351232) :
    Calls Tryd.prog 44 #[.string ⟨l.toArray⟩] w fun e w' => e = .returned (.tuple #[.int .i64 (payS l).1, .int .i64 (payS l).2]) ∧ Below w.heap.size w w' := by
  by_cases h3 : 3 ≤ l.length
  · obtain ⟨a, b, h2⟩ := take2 l (by omega)
    have hh := headBad_long l a b h2
    cases ha : (a == 181) with
    | false =>
      have e : payS l = (0, 5) := by unfold payS; rw [hh, if_pos (by simp [bne, ha])]
      rw [e]
      exact pay_3no1 l a b w hl h3 h2 ha
    | true =>
      cases hb : (b == 126) with
      | false =>
        have e : payS l = (0, 5) := by unfold payS; rw [hh, if_pos (by simp [bne, hb])]
        rw [e]
        exact pay_3no2 l a b w hl h3 h2 ha hb
      | true =>
        have hn : ¬ headBad l = true := by rw [hh]; simp [bne, ha, hb]
        by_cases h6 : l.length < 6
        · have e : payS l = (0, 3) := by unfold payS; rw [if_neg hn, if_pos h6]
          rw [e]
          exact pay_3short l a b w hl h3 h2 ha hb h6
        · obtain ⟨c, d, x, y, h4⟩ := take26 l (by omega)
          by_cases hq : 65536 < numL [c, d, x, y]
          · have e : payS l = (0, 4) := by unfold payS; rw [if_neg hn, if_neg h6, h4, if_pos hq]
            rw [e]
            exact pay_6long l a b w hl h3 h2 ha hb (by omega) c d x y h4 hq
          · by_cases hr : l.length < 10 + numL [c, d, x, y]
            · have e : payS l = (0, 3) := by unfold payS; rw [if_neg hn, if_neg h6, h4, if_neg hq, if_pos hr]
              rw [e]
              exact pay_6short l a b w hl h3 h2 ha hb (by omega) c d x y h4 (by omega) hr
            · have e : payS l = (numL [c, d, x, y], 0) := by unfold payS; rw [if_neg hn, if_neg h6, h4, if_neg hq, if_neg hr]
              rw [e]
              exact pay_6ok l a b w hl h3 h2 ha hb (by omega) c d x y h4 (by omega) (by omega)
  · match l, h3 with
    | [], _ => exact pay_0 w
    | [a], _ =>
      cases ha : (a == 181) with
      | false =>
        have e : payS [a] = (0, 5) := by unfold payS headBad; rw [if_pos (by simp [bne, ha])]
        rw [e]
        exact pay_1no a w ha
      | true =>
        have e : payS [a] = (0, 3) := by unfold payS headBad; rw [if_neg (by simp [bne, ha])]; rfl
        rw [e]
        exact pay_1ok a w ha
    | [a, b], _ =>
      cases ha : (a == 181) with
      | false =>
        have e : payS [a, b] = (0, 5) := by unfold payS headBad; rw [if_pos (by simp [bne, ha])]
        rw [e]
        exact pay_2no1 a b w ha
      | true =>
        cases hb : (b == 126) with
        | false =>
          have e : payS [a, b] = (0, 5) := by unfold payS headBad; rw [if_pos (by simp [bne, hb])]
          rw [e]
          exact pay_2no2 a b w ha hb
        | true =>
          have e : payS [a, b] = (0, 3) := by unfold payS headBad; rw [if_neg (by simp [bne, ha, hb])]; rfl
          rw [e]
          exact pay_2ok a b w ha hb
    | x :: y :: z :: t, h => exact absurd (by simp) h

/-- The payload, how long the frame is, the error. -/
def oneS (l : List UInt8) : List UInt8 × Nat × Nat :=
  if (payS l).2 ≠ 0 then ([], 0, (payS l).2) else
    if sumS ((l.take 6).drop 2 ++ (l.take (10 + (payS l).1)).drop 10) ≠ numL ((l.take 10).drop 6) then ([], 0, 6) else ((l.take (10 + (payS l).1)).drop 10, 10 + (payS l).1, 0)
end Go.Proofs.YtjgoceebjmnjcaaDoor

/- The walk of the law's few. -/
import Derived.Test.YtifbdbblfhphjaaFrame
import Derived.Test.YtifbdbblfhphjaaGen
import Derived.Test.YtifbdbblfhphjaaRollMath
import Derived.Test.YtifbdbblfhphjaaRows
import Derived.Test.YtifbdbblfhphjaaSigAt
import Derived.Test.YtifbdbblfhphjaaSignAW
import Derived.BigQuiet
import Derived.BigRegion
import Derived.Deep.CutBlock
import Derived.Deep.DeepCutAuto
import Derived.Deep.QuietTactic
import Derived.Deep.RegionLaw
import Derived.IntWalk
import Derived.Laws.BitsAllLaws
import Derived.Laws.Rows
import Derived.Lib.Hide
import Derived.Outline
import Derived.StillTailTactics
import Derived.WalkKit
import Derived.WalkLawsBesides
import Derived.WalkSpells
set_option linter.unusedVariables false
namespace Go.Proofs.Ytifbdbblfhphjaa
open Go.RowKit

/-- At most so many of a list. -/
def takeV (n : Nat) : Value → Value
  | .slice a m c => .slice a (min m n) c
  | v => v
theorem Row.takeV {α : Type} {enc : α → Value} {N : Nat → Prop} {w : World} {v : Value} {xs : List α} (h : Row enc N w v xs) (n : Nat) : Row enc N w (takeV n v) (xs.take n) := by
  obtain ⟨a, c, rfl, hc⟩ := h
  refine ⟨a, c, by rw [List.length_take, Nat.min_comm]; rfl, fun i hi => ?_⟩
  rw [List.length_take] at hi
  obtain ⟨b, o, ha, hN, hcell⟩ := hc i (by omega)
  exact ⟨b, o, ha, hN, by rw [List.getElem_take]; exact hcell⟩

theorem takeV_gt {n m c : Nat} {a : Option Addr} (h : n < m) : takeV n (.slice a m c) = .slice a n c := by show Value.slice a (min m n) c = _; rw [Nat.min_eq_right (by omega)]
theorem takeV_le {n m c : Nat} {a : Option Addr} (h : m ≤ n) : takeV n (.slice a m c) = .slice a m c := by show Value.slice a (min m n) c = _; rw [Nat.min_eq_left h]

set_option maxRecDepth 100000 in
set_option maxHeartbeats 1000000 in
theorem few_any (b n : Int) (a1 a2 : Option Addr) (m1 m2 c1 c2 : Nat) (w : World) (h1 : m1 ≤ c1) (h2 : m2 ≤ c2) (ha1 : 0 < m1 → ∃ g o, a1 = some ⟨g, o, none⟩) (ha2 : 0 < m2 → ∃ g o, a2 = some ⟨g, o, none⟩) :
    Calls Try.prog 27 #[sigV b n (.slice a1 m1 c1) (.slice a2 m2 c2)] w fun e w' => e = .returned (sigV b n (takeV 300 (.slice a1 m1 c1)) (takeV 300 (.slice a2 m2 c2))) ∧ Below w.heap.size w w' := by
  by_cases q1 : 300 < m1
  · obtain ⟨g1, o1, rfl⟩ := ha1 (by omega)
    rw [takeV_gt q1]
    have i1 : (300 : Int) < (m1 : Int) := by omega
    have i1c : (300 : Int) ≤ (c1 : Int) := by omega
    by_cases q2 : 300 < m2
    · obtain ⟨g2, o2, rfl⟩ := ha2 (by omega)
      rw [takeV_gt q2]
      have i2 : (300 : Int) < (m2 : Int) := by omega
      have i2c : (300 : Int) ≤ (c2 : Int) := by omega
      go_enter Try.func27, Try.ntmps27
      go_wp2
      exact bodyPost_ret (v := sigV b n (.slice (some ⟨g1, o1, none⟩) 300 c1) (.slice (some ⟨g2, o2, none⟩) 300 c2)) (results_cell_row Try.results27 _ _ (w.heap.size + 1) _ _ _ _ rfl (heap_alloc2_new _ _ _) Try.underlying31 rfl sig_info) rfl ⟨rfl, ((Below.refl _ _).alloc (Nat.le_refl _) _).alloc (by simp) _⟩
    · rw [takeV_le (by omega : m2 ≤ 300)]
      have i2 : ¬ (300 : Int) < (m2 : Int) := by omega
      go_enter Try.func27, Try.ntmps27
      go_wp2
      exact bodyPost_ret (v := sigV b n (.slice (some ⟨g1, o1, none⟩) 300 c1) (.slice a2 m2 c2)) (results_cell_row Try.results27 _ _ (w.heap.size + 1) _ _ _ _ rfl (heap_alloc2_new _ _ _) Try.underlying31 rfl sig_info) rfl ⟨rfl, ((Below.refl _ _).alloc (Nat.le_refl _) _).alloc (by simp) _⟩
  · rw [takeV_le (by omega : m1 ≤ 300)]
    have i1 : ¬ (300 : Int) < (m1 : Int) := by omega
    by_cases q2 : 300 < m2
    · obtain ⟨g2, o2, rfl⟩ := ha2 (by omega)
      rw [takeV_gt q2]
      have i2 : (300 : Int) < (m2 : Int) := by omega
      have i2c : (300 : Int) ≤ (c2 : Int) := by omega
      go_enter Try.func27, Try.ntmps27
      go_wp2
      exact bodyPost_ret (v := sigV b n (.slice a1 m1 c1) (.slice (some ⟨g2, o2, none⟩) 300 c2)) (results_cell_row Try.results27 _ _ (w.heap.size + 1) _ _ _ _ rfl (heap_alloc2_new _ _ _) Try.underlying31 rfl sig_info) rfl ⟨rfl, ((Below.refl _ _).alloc (Nat.le_refl _) _).alloc (by simp) _⟩
    · rw [takeV_le (by omega : m2 ≤ 300)]
      have i2 : ¬ (300 : Int) < (m2 : Int) := by omega
      go_enter Try.func27, Try.ntmps27
      go_wp2
      exact bodyPost_ret (v := sigV b n (.slice a1 m1 c1) (.slice a2 m2 c2)) (results_cell_row Try.results27 _ _ (w.heap.size + 1) _ _ _ _ rfl (heap_alloc2_new _ _ _) Try.underlying31 rfl sig_info) rfl ⟨rfl, ((Below.refl _ _).alloc (Nat.le_refl _) _).alloc (by simp) _⟩
end Go.Proofs.Ytifbdbblfhphjaa

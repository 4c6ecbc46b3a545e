/- Walks of a window's own questions and moves. -/
import Derived.Test.YtmpoflnigenilaaWeak3W
import Derived.Test.YtmpoflnigenilaaShelf
import Derived.Test.YtmpoflnigenilaaQuietLaw
set_option linter.unusedVariables false
namespace Go.Proofs.Ytmpoflnigenilaa
open Go.RowKit

abbrev rollP (p : Nat) : Value := .pointer (some ⟨p, 0, none⟩)
theorem RollAt.kept {w w' : World} {p n k a b : Nat} {l : List UInt8} {M : Nat → Prop} (h : RollAt w p l n k a b) (hk : Kept M w w') (hp : ¬ M p) : RollAt w' p l n k a b := hk.old h hp
theorem RollAt.c0 {w : World} {p n k a b : Nat} {l : List UInt8} (h : RollAt w p l n k a b) : w.cell? ⟨p, 0, none⟩ = some (.string ⟨l.toArray⟩) := by rw [cell_of_row _ _ _ _ _ _ h]; rfl
theorem RollAt.c1 {w : World} {p n k a b : Nat} {l : List UInt8} (h : RollAt w p l n k a b) : w.cell? ⟨p, 1, none⟩ = some (.int .i64 (n : Int)) := by rw [cell_of_row _ _ _ _ _ _ h]; rfl
theorem RollAt.c2 {w : World} {p n k a b : Nat} {l : List UInt8} (h : RollAt w p l n k a b) : w.cell? ⟨p, 2, none⟩ = some (.int .i64 (k : Int)) := by rw [cell_of_row _ _ _ _ _ _ h]; rfl
theorem RollAt.c3 {w : World} {p n k a b : Nat} {l : List UInt8} (h : RollAt w p l n k a b) : w.cell? ⟨p, 3, none⟩ = some (.int .u16 (a : Int)) := by rw [cell_of_row _ _ _ _ _ _ h]; rfl
theorem RollAt.c4 {w : World} {p n k a b : Nat} {l : List UInt8} (h : RollAt w p l n k a b) : w.cell? ⟨p, 4, none⟩ = some (.int .u16 (b : Int)) := by rw [cell_of_row _ _ _ _ _ _ h]; rfl
theorem RollAt.fr {w : World} {p n k a b : Nat} {l : List UInt8} (h : RollAt w p l n k a b) (j : Nat) : w.frozen? ⟨p, j, none⟩ = false := frozen_of_row w p j _ _ h
theorem RollAt.lt {w : World} {p n k a b : Nat} {l : List UInt8} (h : RollAt w p l n k a b) : p < w.heap.size := (Array.getElem?_eq_some_iff.1 h).1

set_option maxRecDepth 100000 in
theorem ready_any (p n k a b : Nat) (l : List UInt8) (w : World) (h : RollAt w p l n k a b) (hn : 0 < n) :
    Calls Try.prog 34 #[rollP p] w fun e w' => e = .returned (.bool true) ∧ w = w' := by
  have c1 := h.c1
  go_enter Try.func34, Try.ntmps34
  go_wp2
  go_ret
  exact ⟨rfl, rfl⟩
set_option maxRecDepth 100000 in
theorem ready_nil (w : World) :
    Calls Try.prog 34 #[.pointer none] w fun e w' => e = .returned (.bool false) ∧ w = w' := by
  go_enter Try.func34, Try.ntmps34
  go_wp2
  go_ret
  exact ⟨rfl, rfl⟩
set_option maxRecDepth 100000 in
theorem ready_zero (p k a b : Nat) (l : List UInt8) (w : World) (h : RollAt w p l 0 k a b) :
    Calls Try.prog 34 #[rollP p] w fun e w' => e = .returned (.bool false) ∧ w = w' := by
  have c1 : w.cell? ⟨p, 1, none⟩ = some (.int .i64 0) := h.c1
  go_enter Try.func34, Try.ntmps34
  go_wp2
  go_ret
  exact ⟨rfl, rfl⟩

set_option maxRecDepth 100000 in
theorem left_any (p n k a b d : Nat) (l : List UInt8) (w : World) (h : RollAt w p l n k a b) (hd : l.length = k + n + d) (hl : l.length ≤ 140737488351232) :
    Calls Try.prog 35 #[rollP p] w fun e w' => ∃ m, e = .returned (.int .i64 (d : Int)) ∧ w' = w.drewN m := by
  have L := Lib.hid (show (⟨l.toArray⟩ : ByteArray).size = l.length from rfl)
  have c0 := h.c0
  have c1 := h.c1
  have c2 := h.c2
  have E := Lib.hid (show wrap64 (wrap64 ((l.length : Int) - (k : Int)) - (n : Int)) = (d : Int) by
    rw [show (l.length : Int) - (k : Int) = ((n + d : Nat) : Int) by omega, wrap64_small _ (by omega), show ((n + d : Nat) : Int) - (n : Int) = (d : Int) by omega, wrap64_small _ (by omega)])
  clear hd
  go_enter Try.func35, Try.ntmps35
  go_wp2
  go_quiet (fail)
  go_wp2
  go_ret
  exact ⟨_, by rw [← E.out]; rfl, rfl⟩
set_option maxRecDepth 100000 in
theorem in_any (p n k a b : Nat) (l : List UInt8) (w : World) (h : RollAt w p l n k a b) (hd : k + n ≤ l.length) (hl : l.length ≤ 140737488351232) :
    Calls Try.prog 38 #[rollP p] w fun e w' => ∃ m, e = .returned (.string ⟨(win l n k).toArray⟩) ∧ w' = w.drewN m := by
  have L := Lib.hid (show (⟨l.toArray⟩ : ByteArray).size = l.length from rfl)
  have c0 := h.c0
  have c1 := h.c1
  have c2 := h.c2
  have E := Lib.hid (slice_toArray l k (k + n))
  go_enter Try.func38, Try.ntmps38
  go_wp2
  go_quiet (fail)
  go_wp2
  go_ret
  exact ⟨_, by rw [show win l n k = (l.take (k + n)).drop k from rfl, ← E.out]; rfl, rfl⟩
set_option maxRecDepth 100000 in
theorem at_any (p n k a b : Nat) (l : List UInt8) (w : World) (h : RollAt w p l n k a b) (hn : 0 < n) :
    Calls Try.prog 19 #[rollP p] w fun e w' => e = .returned (.int .i64 (k : Int)) ∧ w = w' := by
  have c2 := h.c2
  have R := Lib.hid (ready_any p n k a b l w h hn)
  go_enter Try.func19, Try.ntmps19
  go_wp2_with fail
  refine R.out.mono ?_
  rintro e w' ⟨rfl, rfl⟩
  go_wp2
  go_ret
  exact ⟨rfl, rfl⟩
set_option maxRecDepth 100000 in
theorem sumR_any (p n k a b : Nat) (l : List UInt8) (w : World) (h : RollAt w p l n k a b) (hn : 0 < n) (ha : a < 65536) (hb : b < 65536) :
    Calls Try.prog 20 #[rollP p] w fun e w' => e = .returned (.int .i64 ((a + 65536 * b : Nat) : Int)) ∧ Below w.heap.size w w' := by
  have c3 := h.c3
  have c4 := h.c4
  have R := Lib.hid (ready_any p n k a b l w h hn)
  have N := fun w' => Lib.hid (number_any a b w' ha hb)
  go_enter Try.func20, Try.ntmps20
  go_wp2_with fail
  refine R.out.mono ?_
  rintro e w' ⟨rfl, rfl⟩
  go_wp2_with fail
  refine (N _).out.mono ?_
  rintro e w2 ⟨rfl, hb2⟩
  go_wp2
  go_ret
  exact ⟨rfl, hb2⟩
end Go.Proofs.Ytmpoflnigenilaa

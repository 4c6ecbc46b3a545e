/- The walk of the document's Same, of two signatures that are one. -/
import Derived.Test.YtifbdbblfhphjaaFrame
import Derived.Test.YtifbdbblfhphjaaGen
import Derived.Test.YtifbdbblfhphjaaInfos
import Derived.Test.YtifbdbblfhphjaaMarkMath
import Derived.Test.YtifbdbblfhphjaaOwnL
import Derived.Test.YtifbdbblfhphjaaRows
import Derived.Test.YtifbdbblfhphjaaSigAt
import Derived.Test.YtifbdbblfhphjaaSignAW
import Derived.Test.YtifbdbblfhphjaaSignMath
set_option linter.unusedVariables false
namespace Go.Proofs.Ytifbdbblfhphjaa
open Go.RowKit

theorem old_of {W w1 : World} {k : Nat} {o : Obj} (hb : Below W.heap.size W w1) (h : W.heap[k]? = some o) : w1.heap[k]? = some o := (hb.block k (Array.getElem?_eq_some_iff.1 h).1).trans h
theorem heap_later {W : World} {k : Nat} {o : Obj} (h : W.heap[k]? = some o) (o' : Obj) : (W.alloc o').heap[k]? = some o := (heap_alloc_old W o' (Array.getElem?_eq_some_iff.1 h).1).trans h
theorem sig_c0 {w : World} {p : Nat} {b n : Int} {vw vs : Value} (h : w.heap[p]? = some (sigC b n vw vs)) : w.cell? ⟨p, 0, none⟩ = some (.int .i64 b) := by rw [cell_of_row _ _ _ _ _ _ h]; rfl
theorem sig_c1 {w : World} {p : Nat} {b n : Int} {vw vs : Value} (h : w.heap[p]? = some (sigC b n vw vs)) : w.cell? ⟨p, 1, none⟩ = some (.int .i64 n) := by rw [cell_of_row _ _ _ _ _ _ h]; rfl
theorem sig_c2 {w : World} {p : Nat} {b n : Int} {vw vs : Value} (h : w.heap[p]? = some (sigC b n vw vs)) : w.cell? ⟨p, 2, none⟩ = some vw := by rw [cell_of_row _ _ _ _ _ _ h]; rfl
theorem sig_c3 {w : World} {p : Nat} {b n : Int} {vw vs : Value} (h : w.heap[p]? = some (sigC b n vw vs)) : w.cell? ⟨p, 3, none⟩ = some vs := by rw [cell_of_row _ _ _ _ _ _ h]; rfl

set_option maxRecDepth 100000 in
set_option maxHeartbeats 4000000 in
theorem same_any {α : Type} (enc : α → Value) (hwrap : ∀ x, ∃ n, enc x = .int .i64 n) (b n : Int) (ws : List α) (ms : List Txt) (vw vs vw' vs' : Value) (N1 N2 N3 N4 : Nat → Prop) (w : World) (h1 : Row enc N1 w vw ws) (h2 : Row encT N2 w vs ms) (h3 : Row enc N3 w vw' ws) (h4 : Row encT N4 w vs' ms) (hl1 : ws.length ≤ 1000000) (hl2 : ms.length ≤ 1000000) :
    Calls Try.prog 26 #[sigV b n vw vs, sigV b n vw' vs'] w fun e w' => e = .returned (.bool true) ∧ Below w.heap.size w w' := by
  obtain ⟨a1, k1, rfl, c1⟩ := h1
  obtain ⟨a2, k2, rfl, c2⟩ := h2
  obtain ⟨a3, k3, rfl, c3⟩ := h3
  obtain ⟨a4, k4, rfl, c4⟩ := h4
  have H1 := Lib.hid c1; clear c1
  have H2 := Lib.hid c2; clear c2
  have H3 := Lib.hid c3; clear c3
  have H4 := Lib.hid c4; clear c4
  have q0 : (b != b) = false := by simp
  have q1 : (n != n) = false := by simp
  have q2 : ((ws.length : Int) != (ws.length : Int)) = false := by simp
  have q3 : ((ms.length : Int) != (ms.length : Int)) = false := by simp
  have HB := Lib.hid (show Below w.heap.size w ((w.alloc (sigC b n (.slice a1 ws.length k1) (.slice a2 ms.length k2))).alloc (sigC b n (.slice a3 ws.length k3) (.slice a4 ms.length k4))) from ((Below.refl _ _).alloc (Nat.le_refl _) _).alloc (by simp) _)
  have G1 := Lib.hid (show ((w.alloc (sigC b n (.slice a1 ws.length k1) (.slice a2 ms.length k2))).alloc (sigC b n (.slice a3 ws.length k3) (.slice a4 ms.length k4))).heap[w.heap.size]? = some _ from heap_alloc2_old _ _ _)
  have G2 := Lib.hid (show ((w.alloc (sigC b n (.slice a1 ws.length k1) (.slice a2 ms.length k2))).alloc (sigC b n (.slice a3 ws.length k3) (.slice a4 ms.length k4))).heap[w.heap.size + 1]? = some _ from heap_alloc2_new _ _ _)
  go_enter Try.func26, Try.ntmps26
  go_wp2
  generalize (w.alloc (.cells #[.int .i64 b, .int .i64 n, .slice a1 ws.length k1, .slice a2 ms.length k2] 31)).alloc (.cells #[.int .i64 b, .int .i64 n, .slice a3 ws.length k3, .slice a4 ms.length k4] 31) = w0 at *
  go_loopw [5] (fun i wr => ∃ k : Nat, k ≤ ws.length ∧ i = .int .i64 k ∧ Below w0.heap.size w0 wr) (fun i _ => ws.length - (intOf i).toNat)
  case atStart => exact ⟨0, by omega, rfl, Below.refl _ _⟩
  case round =>
    obtain ⟨k, hk, rfl, hbel⟩ := hrel
    have d1 := sig_c2 (old_of hbel G1.out)
    have d2 := sig_c2 (old_of hbel G2.out)
    have Hbel := Lib.hid hbel; clear hbel
    by_cases hlt : k < ws.length
    · obtain ⟨b1, o1, rfl, _, e1⟩ := H1.out k hlt
      obtain ⟨b2, o2, rfl, _, e2⟩ := H3.out k hlt
      have e1' := (Hbel.out.cell (p := ⟨b1, o1 + k, none⟩) (Nat.lt_of_lt_of_le (World.block_lt_of_cell? w _ e1) HB.out.size)).trans ((HB.out.cell (p := ⟨b1, o1 + k, none⟩) (World.block_lt_of_cell? w _ e1)).trans e1)
      have e2' := (Hbel.out.cell (p := ⟨b2, o2 + k, none⟩) (Nat.lt_of_lt_of_le (World.block_lt_of_cell? w _ e2) HB.out.size)).trans ((HB.out.cell (p := ⟨b2, o2 + k, none⟩) (World.block_lt_of_cell? w _ e2)).trans e2)
      obtain ⟨x, hx⟩ := hwrap ws[k]
      rw [hx] at e1' e2'
      have qx : (x != x) = false := by simp
      have i0 : (0 : Int) ≤ (k : Int) := by omega
      have i1 : (k : Int) < (ws.length : Int) := by omega
      clear e1 e2 hx
      go_wp2
      go_quiet (fail)
      go_wp2
      go_roundw
      case rel => exact ⟨k + 1, by omega, by go_num, Below_drewN Hbel.out _⟩
      case measure => simp [intOf]; omega
    · have i1 : ¬ (k : Int) < (ws.length : Int) := by omega
      go_wp2
      generalize wr = w1 at *
      go_loopw [6] (fun i wr => ∃ j : Nat, j ≤ ms.length ∧ i = .int .i64 j ∧ Below w0.heap.size w0 wr) (fun i _ => ms.length - (intOf i).toNat)
      case atStart => exact ⟨0, by omega, rfl, Hbel.out⟩
      case round =>
        obtain ⟨j, hj, rfl, hbel⟩ := hrel
        clear d1 d2
        have d1 := sig_c3 (old_of hbel G1.out)
        have d2 := sig_c3 (old_of hbel G2.out)
        have Hbel2 := Lib.hid hbel; clear hbel
        by_cases hlt2 : j < ms.length
        · obtain ⟨b1, o1, rfl, _, e1⟩ := H2.out j hlt2
          obtain ⟨b2, o2, rfl, _, e2⟩ := H4.out j hlt2
          have e1' := (Hbel2.out.cell (p := ⟨b1, o1 + j, none⟩) (Nat.lt_of_lt_of_le (World.block_lt_of_cell? w _ e1) HB.out.size)).trans ((HB.out.cell (p := ⟨b1, o1 + j, none⟩) (World.block_lt_of_cell? w _ e1)).trans e1)
          have e2' := (Hbel2.out.cell (p := ⟨b2, o2 + j, none⟩) (Nat.lt_of_lt_of_le (World.block_lt_of_cell? w _ e2) HB.out.size)).trans ((HB.out.cell (p := ⟨b2, o2 + j, none⟩) (World.block_lt_of_cell? w _ e2)).trans e2)
          generalize ms[j] = x at *
          unfold encT at e1' e2'
          have qx : (x != x) = false := by simp
          have i2 : (0 : Int) ≤ (j : Int) := by omega
          have i3 : (j : Int) < (ms.length : Int) := by omega
          clear e1 e2
          go_wp2
          go_quiet (fail)
          go_wp2
          go_roundw
          case rel => exact ⟨j + 1, by omega, by go_num, Below_drewN Hbel2.out _⟩
          case measure => simp [intOf]; omega
        · have i3 : ¬ (j : Int) < (ms.length : Int) := by omega
          go_wp2
          go_ret
          exact ⟨rfl, HB.out.trans (Hbel2.out.mono HB.out.size)⟩
end Go.Proofs.Ytifbdbblfhphjaa

/- The walks of the document's root and prime. -/
import Derived.Test.YtbiahhngeldhbaaMostW
set_option linter.unusedVariables false
namespace Go.Proofs.Ytbiahhngeldhbaa
open Go.RowKit

theorem most_any (x p n : Nat) (w : World) (hp : p = 2 ∨ p = 3) (hx : x < 68719476736) (hn : n < 512) :
    Calls Try.prog 42 #[.int .i64 x, .int .i64 p, .int .i64 n] w fun e w' => e = .returned (.bool (decide (x ^ p ≤ n * 2 ^ (32 * p)))) ∧ Below w.heap.size w w' := by
  rcases hp with rfl | rfl
  · exact most2_any x n w hx hn
  · exact most3_any x n w hx hn
/-- What is to come of a root from X on, k bits to go. -/
structure RootIs (n p k X R : Nat) : Prop where
  e : rootR n p k X = R
  b : X + 2 ^ k ≤ 68719476736
theorem RootIs.yes {n p k X R : Nat} (h : RootIs n p (k + 1) X R) (hy : (X + 2 ^ k) ^ p ≤ n * 2 ^ (32 * p)) : RootIs n p k (X + 2 ^ k) R := by
  have e := h.e
  have b := h.b
  rw [Nat.pow_succ] at b
  unfold rootR at e
  rw [if_pos hy] at e
  exact ⟨e, by omega⟩
theorem RootIs.no {n p k X R : Nat} (h : RootIs n p (k + 1) X R) (hy : ¬ (X + 2 ^ k) ^ p ≤ n * 2 ^ (32 * p)) : RootIs n p k X R := by
  have e := h.e
  have b := h.b
  rw [Nat.pow_succ] at b
  unfold rootR at e
  rw [if_neg hy] at e
  exact ⟨e, by omega⟩

set_option maxRecDepth 100000 in
set_option maxHeartbeats 1000000 in
theorem refRoot_any (n p : Nat) (w : World) (hp : p = 2 ∨ p = 3) (hn : n < 512) :
    Calls Try.prog 33 #[.int .i64 n, .int .i64 p] w fun e w' => e = .returned (.int .i64 (rroot n p : Nat)) ∧ Below w.heap.size w w' := by
  obtain ⟨R, hR⟩ : ∃ R, R = rootR n p 36 0 := ⟨_, rfl⟩
  have hst : Hid (RootIs n p 36 0 R) := Lib.hid ⟨hR.symm, by decide⟩
  unfold rroot
  rw [← hR]
  clear hR
  have HP := Lib.hid hp; clear hp
  go_enter Try.func33, Try.ntmps33
  go_wp2
  go_loopw [5, 6] (fun x i wr => ∃ (k X : Nat) (ii : Int), k ≤ 36 ∧ ii = (k : Int) - 1 ∧ x = .int .i64 X ∧ i = .int .i64 ii ∧ RootIs n p k X R ∧ Below w.heap.size w wr) (fun _ i _ => (intOf i + 1).toNat)
  case atStart => exact ⟨36, 0, 35, Nat.le_refl _, rfl, rfl, rfl, hst.out, Below.refl _ _⟩
  case round =>
    obtain ⟨k, X, ii, hk, hii, rfl, rfl, hri, hbe⟩ := hrel
    have HBE := Lib.hid hbe; clear hbe
    cases k with
    | zero =>
      have hneg : ¬ ((0 : Int) ≤ ii) := by omega
      have e : R = X := hri.e.symm
      subst e
      have hb := hri.b
      clear hii hri
      go_wp2
      go_ret
      exact ⟨rfl, HBE.out⟩
    | succ i =>
      obtain rfl : ii = (i : Int) := by omega
      clear hii
      have i0 : (0 : Int) ≤ (i : Int) := by omega
      have hb := hri.b
      rw [Nat.pow_succ] at hb
      have HY := Lib.hid (fun h => hri.yes h)
      have HNO := Lib.hid (fun h => hri.no h)
      clear hri
      have H2 : (2 : Int) ^ i = ((2 ^ i : Nat) : Int) := by rw [Int.natCast_pow]; rfl
      have hpos : 0 < 2 ^ i := Nat.pow_pos (by decide)
      generalize 2 ^ i = M at *
      have SH : IntKind.i64.wrap ((1 : Int) * (2 : Int) ^ i) = (M : Int) := by rw [H2, IntWalk.i64_in _ (by omega)]; omega
      have hMb : (M : Int) ≤ 68719476736 := by omega
      have hyl : X + M < 68719476736 := by omega
      have MC := fun w' => Lib.hid (show Calls Try.prog 42 #[.int .i64 ((X : Int) + (M : Int)), .int .i64 p, .int .i64 n] w' _ from most_any (X + M) p n w' HP.out hyl hn)
      by_cases hc : (X + M) ^ p ≤ n * 2 ^ (32 * p)
      · have HR := Lib.hid (HY.out hc)
        have hd := decide_eq_true hc
        rw [hd] at MC
        clear hc hd HY HNO
        go_wp2_with fail
        refine (MC _).out.mono ?_
        rintro e w1 ⟨rfl, hb1⟩
        have HB1 := Lib.hid (HBE.out.trans (hb1.mono HBE.out.size))
        clear hb1 MC
        go_wp2_with fail
        go_roundw
        case rel => exact ⟨i, X + M, (i : Int) - 1, by omega, rfl, rfl, rfl, HR.out, HB1.out⟩
        case measure => simp [intOf]
      · have HR := Lib.hid (HNO.out hc)
        have hd := decide_eq_false hc
        rw [hd] at MC
        clear hc hd HY HNO
        go_wp2_with fail
        refine (MC _).out.mono ?_
        rintro e w1 ⟨rfl, hb1⟩
        have HB1 := Lib.hid (HBE.out.trans (hb1.mono HBE.out.size))
        clear hb1 MC
        go_wp2_with fail
        go_roundw
        case rel => exact ⟨i, X, (i : Int) - 1, by omega, rfl, rfl, rfl, HR.out, HB1.out⟩
        case measure => simp [intOf]
end Go.Proofs.Ytbiahhngeldhbaa

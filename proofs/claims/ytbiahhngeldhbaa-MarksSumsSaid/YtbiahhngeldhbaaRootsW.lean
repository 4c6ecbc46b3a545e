/- The walk of the document's Roots. -/
import Derived.Test.YtbiahhngeldhbaaRefRootW
import Derived.Test.YtbiahhngeldhbaaRefPrimeW
import Derived.Test.YtbiahhngeldhbaaOwnL
set_option linter.unusedVariables false
namespace Go.Proofs.Ytbiahhngeldhbaa
open Go.RowKit

def encN (x : Nat) : Value := .int .i64 (x : Int)
/-- The roots found ahead of n. -/
def rootsTo (p n : Nat) : List Nat := (PL.take (cntP n)).map fun q => rroot q p
theorem rootsTo_length (p n : Nat) : (rootsTo p n).length = cntP n := by
  unfold rootsTo
  rw [List.length_map, List.length_take, PL_length]
  exact Nat.min_eq_left (cntP_le n)
theorem rootsTo_two (p : Nat) : rootsTo p 2 = [] := by
  unfold rootsTo
  rw [cntP_two]
  rfl
theorem rootsTo_new (p n : Nat) (hn : n < 312) (h : n ∈ PL) : rootsTo p (n + 1) = rootsTo p n ++ [rroot n p] ∧ cntP (n + 1) = cntP n + 1 := by
  have e := pr_new n hn h
  have h64 := cntP_le (n + 1)
  rw [e.1] at h64
  refine ⟨?_, e.1⟩
  unfold rootsTo
  rw [e.1, take_pr _ (by omega), List.map_append, e.2]
  rfl
theorem rootsTo_old (p n : Nat) (hn : n < 312) (h : n ∉ PL) : rootsTo p (n + 1) = rootsTo p n ∧ cntP (n + 1) = cntP n := by
  have e := pr_old n hn h
  unfold rootsTo
  rw [e]
  exact ⟨rfl, rfl⟩

set_option maxRecDepth 100000 in
set_option maxHeartbeats 1000000 in
theorem rootsR_any (c p : Nat) (w : World) (hp : p = 2 ∨ p = 3) (hc : c ≤ 64) :
    Calls Try.prog 22 #[.int .i64 c, .int .i64 p] w fun e w' => ∃ v, e = .returned v ∧ OwnL encN w' w.heap.size 3 v ((PL.take c).map fun q => rroot q p) ∧ Below w.heap.size w w' := by
  have HP := Lib.hid hp; clear hp
  go_enter Try.func22, Try.ntmps22
  go_wp2
  go_loopw [5, 6] (fun v i wr => ∃ (n : Nat), 2 ≤ n ∧ n ≤ 312 ∧ i = .int .i64 n ∧ cntP n ≤ c ∧ OwnL encN wr w.heap.size 3 v (rootsTo p n) ∧ Below w.heap.size w wr) (fun _ i _ => 400 - (intOf i).toNat)
  case atStart => exact ⟨2, Nat.le_refl _, by decide, rfl, by rw [cntP_two]; exact Nat.zero_le _, by rw [rootsTo_two]; exact OwnL.nil _ _ _ _, Below.refl _ _⟩
  case round =>
    obtain ⟨n, h2, hn, rfl, hcn, hown, hbe⟩ := hrel
    have hlen := rootsTo_length p n
    obtain ⟨a, cap, rfl, _⟩ := hown.row
    rw [hlen]
    rw [hlen] at hown
    have HBE := Lib.hid hbe; clear hbe
    have hsz := HBE.out.size
    by_cases hlt : cntP n < c
    · have hn312 : n < 312 := by
        rcases Nat.lt_or_ge n 312 with h | h
        · exact h
        · have e : n = 312 := by omega
          rw [e, cntP_all] at hlt
          omega
      have C1 := Lib.hid (refPrime_any n)
      have C2 := Lib.hid (fun w' => refRoot_any n p w' HP.out (by omega))
      have HN := Lib.hid (fun h => rootsTo_new p n hn312 h)
      have HO := Lib.hid (fun h => rootsTo_old p n hn312 h)
      have Hown := Lib.hid hown
      have Hlen := Lib.hid hlen
      clear hown hlen
      generalize cntP n = m at *
      have mi : (m : Int) < (c : Int) := by omega
      by_cases hpr : n ∈ PL
      · have hd := decide_eq_true hpr
        have C1' := Lib.hid (fun w' => C1.out w' hn312 h2)
        rw [hd] at C1'
        have HN' := Lib.hid (HN.out hpr)
        clear C1 HN HO hd hpr
        generalize rroot n p = y at *
        go_wp2_with fail
        refine (C1'.out _).mono ?_
        rintro e w1 ⟨rfl, hb1⟩
        have hsz1 := hb1.size
        have HB1 := Lib.hid (HBE.out.trans (hb1.mono HBE.out.size))
        have Hown1 := Lib.hid (Hown.out.kept (Kept.new hb1 (fun _ => False)) (fun _ _ h => h))
        clear hb1 HBE
        go_wp2_with fail
        refine (C2.out _).mono ?_
        rintro e w2 ⟨rfl, hb2⟩
        have hsz2 := hb2.size
        have HB2 := Lib.hid (HB1.out.trans (hb2.mono HB1.out.size))
        have Hown2 := Lib.hid (Hown1.out.kept (Kept.new hb2 (fun _ => False)) (fun _ _ h => h))
        clear hb2 HB1 Hown1
        have hb0 : w.heap.size ≤ w2.heap.size := HB2.out.size
        go_wp2_with (at_builtin; refine append_elem (enc := encN) (y := y) rfl _ _ 47 3 (.int .i64 0) 8 (by rfl) Try.underlying47 info_int rfl w.heap.size _ _ rfl (by rfl) Hown2.out (by rfl) (by rw [Hlen.out]; omega) (by rw [Hlen.out]; unfold maxLen; omega) hb0 ?_; intro v' w3 hown3 hb3 hk3; have H3 := Lib.hid hown3; clear hown3 hk3)
        have HB3 := Lib.hid (HB2.out.trans hb3)
        clear hb3
        go_wp2
        go_roundw
        case rel => exact ⟨n + 1, by omega, by omega, rfl, by rw [HN'.out.2]; exact hlt, by rw [HN'.out.1]; exact H3.out, HB3.out⟩
        case measure => simp [intOf]; omega
      · have hd := decide_eq_false hpr
        have C1' := Lib.hid (fun w' => C1.out w' hn312 h2)
        rw [hd] at C1'
        have HO' := Lib.hid (HO.out hpr)
        clear C1 HN HO hd hpr
        go_wp2_with fail
        refine (C1'.out _).mono ?_
        rintro e w1 ⟨rfl, hb1⟩
        have HB1 := Lib.hid (HBE.out.trans (hb1.mono HBE.out.size))
        have Hown1 := Lib.hid (Hown.out.kept (Kept.new hb1 (fun _ => False)) (fun _ _ h => h))
        clear hb1 HBE
        go_wp2
        go_roundw
        case rel => exact ⟨n + 1, by omega, by omega, rfl, by rw [HO'.out.2]; exact hcn, by rw [HO'.out.1]; exact Hown1.out, HB1.out⟩
        case measure => simp [intOf]; omega
    · have e : cntP n = c := by omega
      have hr : rootsTo p n = (PL.take c).map fun q => rroot q p := by unfold rootsTo; rw [e]
      rw [hr] at hown
      have Hown := Lib.hid hown
      have mi : ¬ ((cntP n : Int) < (c : Int)) := by omega
      clear hr hown e hlen
      generalize cntP n = m at *
      go_wp2
      go_ret
      exact ⟨_, rfl, by have h := Hown.out; rw [List.map_take] at h; exact h, HBE.out⟩
end Go.Proofs.Ytbiahhngeldhbaa

/- Walks of Find and of the document's Find. -/
import Derived.Test.YtmpoflnigenilaaAllsW
set_option linter.unusedVariables false
namespace Go.Proofs.Ytmpoflnigenilaa
open Go.RowKit

/-- The places among the first k. -/
def findK (l m : List UInt8) (k : Nat) : List Nat := (List.range k).filter fun j => decide (win l m.length j = m)
theorem findK_yes (l m : List UInt8) (k : Nat) (h : win l m.length k = m) : findK l m (k + 1) = findK l m k ++ [k] := by
  unfold findK; rw [List.range_succ, List.filter_append, List.filter_cons, if_pos (by simpa using h), List.filter_nil]
theorem findK_no (l m : List UInt8) (k : Nat) (h : win l m.length k ≠ m) : findK l m (k + 1) = findK l m k := by
  unfold findK; rw [List.range_succ, List.filter_append, List.filter_cons, if_neg (by simpa using h), List.filter_nil, List.append_nil]
theorem findK_length (l m : List UInt8) (k : Nat) : (findK l m k).length ≤ k := by
  unfold findK; exact Nat.le_trans (List.length_filter_le _ _) (by simp)
theorem findK_all (l m : List UInt8) : findK l m (l.length + 1 - m.length) = findS l m := rfl

set_option maxRecDepth 100000 in
set_option maxHeartbeats 1000000 in
theorem refFind_any (l m : List UInt8) (w : World) (hn : 1 ≤ m.length) (hn2 : m.length ≤ 1024) (hl : l.length ≤ 10000) :
    Calls Try.prog 25 #[.string ⟨l.toArray⟩, .string ⟨m.toArray⟩] w fun e w' => ∃ v, e = .returned v ∧ OwnL encN w' w.heap.size 3 v (findS l m) ∧ Below w.heap.size w w' := by
  have L := Lib.hid (show (⟨l.toArray⟩ : ByteArray).size = l.length from rfl)
  have L2 := Lib.hid (show (⟨m.toArray⟩ : ByteArray).size = m.length from rfl)
  go_enter Try.func25, Try.ntmps25
  go_wp2
  go_loopw [5, 6] (fun v i wr => ∃ k : Nat, k ≤ l.length + 1 - m.length ∧ i = .int .i64 k ∧ OwnL encN wr w.heap.size 3 v (findK l m k) ∧ Below w.heap.size w wr) (fun _ i _ => l.length + 1 - (intOf i).toNat)
  case atStart => exact ⟨0, by omega, rfl, OwnL.nil _ _ _ _, Below.refl _ _⟩
  case round =>
    obtain ⟨k, hk, rfl, hown, hbel⟩ := hrel
    have Hown := Lib.hid hown; clear hown
    have Hbel := Lib.hid hbel; clear hbel
    obtain ⟨e9, he9⟩ : ∃ e9, k + m.length = e9 := ⟨_, rfl⟩
    have W9 : IntKind.i64.wrap ((k : Int) + (m.length : Int)) = (e9 : Int) := by rw [IntKind.wrap_i64]; omega
    by_cases hlt : e9 ≤ l.length
    · have g1 : (e9 : Int) ≤ (l.length : Int) := by omega
      have i0 : (0 : Int) ≤ (k : Int) := by omega
      have i1 : (k : Int) ≤ (e9 : Int) := by omega
      have E : (⟨l.toArray⟩ : ByteArray).extract k e9 = ⟨(win l m.length k).toArray⟩ := by rw [slice_toArray, ← he9]; rfl
      have LEN := findK_length l m k
      have YES := Lib.hid (findK_yes l m k)
      have NO := Lib.hid (findK_no l m k)
      have hwb := Hbel.out.size
      obtain ⟨wo, rfl⟩ : ∃ wo : World, wo = wr := ⟨_, rfl⟩
      by_cases heq : win l m.length k = m
      · rw [heq] at E
        have hself : (m == m) = true := by simp
        have Y2 := Lib.hid (YES.out heq)
        clear heq YES NO
        go_wp2_with (at_builtin; refine append_elem (enc := encN) (y := k) rfl _ _ 31 3 (.int .i64 0) 8 (by rfl) Try.underlying31 info_i64 rfl w.heap.size _ _ rfl (by rfl) Hown.out (by rfl) (by omega) (by unfold maxLen; omega) (by omega) ?_; intro v' w3 hown3 hb3 hk3)
        have Hown3 := Lib.hid hown3; clear hown3
        go_wp2
        go_roundw
        case rel => exact ⟨k + 1, by omega, by go_num, by rw [Y2.out]; exact Hown3.out, Hbel.out.trans hb3⟩
        case measure => simp [intOf]; omega
      · have NE : (win l m.length k == m) = false := by simpa using heq
        have N2 := Lib.hid (NO.out heq)
        clear heq YES NO
        go_wp2
        go_roundw
        case rel => exact ⟨k + 1, by omega, by go_num, by rw [N2.out]; exact Hown.out, Hbel.out⟩
        case measure => simp [intOf]; omega
    · have g1 : ¬ (e9 : Int) ≤ (l.length : Int) := by omega
      have hk2 : k = l.length + 1 - m.length := by omega
      have HA := Lib.hid (show findK l m k = findS l m by rw [hk2]; rfl)
      clear hk2
      go_wp2
      go_ret
      exact ⟨_, rfl, by rw [← HA.out]; exact Hown.out, Hbel.out⟩
end Go.Proofs.Ytmpoflnigenilaa

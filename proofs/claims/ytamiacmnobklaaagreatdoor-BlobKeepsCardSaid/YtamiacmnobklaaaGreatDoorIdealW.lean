/- Walks of the ideal book: numbered. -/
import Derived.Test.YtamiacmnobklaaaGreatDoorGen
import Derived.Test.YtamiacmnobklaaaGreatDoorMarkMath
import Derived.Test.YtamiacmnobklaaaGreatDoorOwnL
import Derived.Test.YtamiacmnobklaaaGreatDoorRows
import Derived.IntWalk
import Derived.Laws.BitsAllLaws
import Derived.Laws.Rows
import Derived.Laws.Tables
import Derived.Lib.Hide
import Derived.OpenShut
import Derived.Outline
import Derived.ProofKit
import Derived.ShutString
import Derived.SizedLaws
import Derived.SliceStrings
import Derived.WalkKit
import Derived.WalkLawsBesides
import Derived.WalkSpells
set_option linter.unusedVariables false
namespace Go.Proofs.YtamiacmnobklaaaGreatDoor
open Go.RowKit

/-- Bytes as a block's cells. -/
def arrB (l : List UInt8) : Array Value := (cellsOf l).toArray
theorem arrB_set (l : List UInt8) (k : Nat) (b : UInt8) : (arrB l).setIfInBounds k (.int .u8 (b.toNat : Nat)) = arrB (l.set k b) := by
  unfold arrB cellsOf
  rw [List.setIfInBounds_toArray, List.map_set]
theorem arrB_get (l : List UInt8) (k : Nat) (b : UInt8) (h : l[k]? = some b) : (arrB l)[k]? = some (.int .u8 (b.toNat : Nat)) := by
  unfold arrB cellsOf
  simp [h]
def numP (k n : Nat) : List UInt8 := leN k n ++ List.replicate (32 - k) 0
theorem numP_step (k n : Nat) (h : k < 8) : (numP k n).set k (UInt8.ofNat (n / 256 ^ k % 256)) = numP (k + 1) n := by
  unfold numP
  rw [List.set_append_right _ _ (by rw [leN_length]; omega), leN_length, Nat.sub_self, leN_snoc, show 32 - k = (32 - (k + 1)) + 1 from by omega, List.replicate_succ, List.set_cons_zero]
  simp
theorem numP_eight (n : Nat) (h : n < 9223372036854775808) : numP 8 n = numM n := (numM_eight n (by omega)).symm
theorem numP_length (k n : Nat) (h : k ≤ 32) : (numP k n).length = 32 := by unfold numP; simp [leN_length]; omega

set_option maxRecDepth 100000 in
set_option maxHeartbeats 400000 in
theorem numbered_any (n : Nat) (w : World) (hn : n < 9223372036854775808) :
    Calls Tryz.prog 48 #[.int .i64 n] w fun e w' => e = .returned (.string ⟨(numM n).toArray⟩) ∧ Below w.heap.size w w' := by
  obtain ⟨Z, hZ, hZ2⟩ : ∃ Z : Array Value, Z = #[.int .u8 0, .int .u8 0, .int .u8 0, .int .u8 0, .int .u8 0, .int .u8 0, .int .u8 0, .int .u8 0, .int .u8 0, .int .u8 0, .int .u8 0, .int .u8 0, .int .u8 0, .int .u8 0, .int .u8 0, .int .u8 0, .int .u8 0, .int .u8 0, .int .u8 0, .int .u8 0, .int .u8 0, .int .u8 0, .int .u8 0, .int .u8 0, .int .u8 0, .int .u8 0, .int .u8 0, .int .u8 0, .int .u8 0, .int .u8 0, .int .u8 0, .int .u8 0] ∧ Z = arrB (numP 0 n) := ⟨_, rfl, rfl⟩
  have hb0 : Below w.heap.size w (w.alloc (.cells Z 125)) := (Below.refl _ _).alloc (Nat.le_refl _) _
  have g1 : (w.alloc (.cells Z 125)).heap[w.heap.size]? = some (.cells Z 125) := heap_alloc_new _ _
  have HZ := Lib.hid hZ; clear hZ
  have HZ2 := Lib.hid hZ2; clear hZ2
  have G1 := Lib.hid g1; clear g1
  have L0 := Lib.hid hb0; clear hb0
  go_enter Tryz.func48, Tryz.ntmps48
  go_wp2
  rw [← HZ.out]
  generalize w.alloc (.cells Z 125) = W0 at *
  clear HZ
  go_loopw [5] (fun i wr => ∃ k : Nat, k ≤ 8 ∧ i = .int .i64 k ∧ wr.heap[w.heap.size]? = some (.cells (arrB (numP k n)) 125 (0, 0)) ∧ Below w.heap.size w wr) (fun i _ => 8 - (intOf i).toNat)
  case atStart => exact ⟨0, by omega, rfl, by rw [← HZ2.out]; exact G1.out, L0.out⟩
  case round =>
    obtain ⟨k, hk, rfl, hheap, hbel⟩ := hrel
    have hlt0 := hbel.size
    by_cases hlt : k < 8
    · have hcell : wr.cell? ⟨w.heap.size, k, none⟩ = some (.int .u8 (((numP k n)[k]'(by rw [numP_length _ _ (by omega)]; omega)).toNat : Nat)) := by
        rw [cell_of_row _ _ _ _ _ _ hheap]
        exact arrB_get _ _ _ (List.getElem?_eq_getElem _)
      have hfr := frozen_of_row wr w.heap.size k _ _ hheap
      have Hh := Lib.hid hheap; clear hheap
      have St := Lib.hid (numP_step k n hlt)
      generalize ((numP k n)[k]'(by rw [numP_length _ _ (by omega)]; omega)).toNat = old at *
      go_wp2
      go_roundw
      case rel =>
        refine ⟨k + 1, by omega, by go_num, ?_, hbel.setCell (by exact Nat.le_refl _) _⟩
        rw [heap_setCell_same wr w.heap.size k _ _ _ Hh.out, ← St.out, ← arrB_set]
        have e : ((n : Int) / 2 ^ (8 * k) % 256) = (((UInt8.ofNat (n / 256 ^ k % 256)).toNat : Nat) : Int) := by
          simp only [UInt8.toNat_ofNat']
          rw [show (256 : Nat) = 2 ^ 8 from rfl, ← Nat.pow_mul, Nat.mod_mod_of_dvd _ (by decide)]
          norm_cast
        rw [e]
      case measure => simp [intOf]; omega
    · have hk8 : k = 8 := by omega
      subst hk8
      rw [numP_eight n hn] at hheap
      have Hc := Lib.hid (fun (j : Nat) (hj : j < 32) => show wr.cell? ⟨w.heap.size, j, none⟩ = some (.int .u8 (((numM n)[j]'(by rw [numM_length]; exact hj)).toNat : Nat)) by
        rw [cell_of_row _ _ _ _ _ _ hheap]
        exact arrB_get _ _ _ (List.getElem?_eq_getElem _))
      have hcv : ∀ c, (convert 105 9 (.slice (some ⟨w.heap.size, 0, none⟩) 32 c)).run Tryz.prog wr = .ok (.string ⟨(numM n).toArray⟩) wr := fun c => by
        have := run_convert_bytes_back wr 105 9 5 ⟨w.heap.size, 0, none⟩ c (numM n) Tryz.underlying105 Tryz.underlying5 Tryz.underlying9 (fun j hj => by
          have e1 : (⟨w.heap.size, 0, none⟩ : Addr).add j = ⟨w.heap.size, 0 + j, none⟩ := by unfold Addr.add; split <;> simp_all
          rw [e1, Nat.zero_add]
          exact Hc.out j (by simpa [numM_length] using hj))
        rw [numM_length] at this
        exact this
      clear hheap
      go_wp2
      go_ret
      exact ⟨rfl, hbel⟩
end Go.Proofs.YtamiacmnobklaaaGreatDoor

/- The walk of text: a state as bytes. -/
import Derived.Test.YtbiahhngeldhbaaTakeW
set_option linter.unusedVariables false
namespace Go.Proofs.Ytbiahhngeldhbaa
open Go.RowKit

def fillB (l : List UInt8) : List UInt8 := l ++ List.replicate (32 - l.length) 0
theorem fillB_length (l : List UInt8) (h : l.length ≤ 32) : (fillB l).length = 32 := by unfold fillB; simp; omega
theorem fillB_set (l : List UInt8) (x : UInt8) (h : l.length < 32) : (fillB l).set l.length x = fillB (l ++ [x]) := by
  unfold fillB
  rw [List.set_append_right _ _ (Nat.le_refl _), Nat.sub_self, show 32 - l.length = (32 - (l.length + 1)) + 1 from by omega, List.replicate_succ, List.set_cons_zero]
  simp
theorem fillB_full (l : List UInt8) (h : l.length = 32) : fillB l = l := by unfold fillB; simp [h]
/-- The bytes of the first i words, and j of the next one. -/
def partB (s : List Nat) (i j : Nat) : List UInt8 := bytesOfL (s.take i) ++ (wordBytes (s.getD i 0)).take j
theorem bytesOfL_length (s : List Nat) : (bytesOfL s).length = 4 * s.length := by
  induction s with
  | nil => rfl
  | cons x s ih => unfold bytesOfL at ih ⊢; rw [List.flatMap_cons, List.length_append, ih]; simp [wordBytes]; omega
theorem partB_length (s : List Nat) (i j : Nat) (hi : i ≤ s.length) (hj : j ≤ 4) : (partB s i j).length = 4 * i + j := by
  unfold partB
  rw [List.length_append, bytesOfL_length, List.length_take, List.length_take]
  simp [wordBytes]; omega
theorem wordBytes_get (x j : Nat) (hj : j < 4) : (wordBytes x)[j]? = some (UInt8.ofNat (x / 2 ^ (24 - 8 * j) % 256)) := by
  match j, hj with
  | 0, _ => rfl
  | 1, _ => rfl
  | 2, _ => rfl
  | 3, _ => simp [wordBytes]
theorem partB_step (s : List Nat) (i j x : Nat) (hj : j < 4) (hx : s.getD i 0 = x) : partB s i (j + 1) = partB s i j ++ [UInt8.ofNat (x / 2 ^ (24 - 8 * j) % 256)] := by
  unfold partB
  rw [List.append_assoc, hx]
  congr 1
  have h := wordBytes_get x j hj
  rw [List.take_add_one, h]
  rfl
theorem partB_next (s : List Nat) (i : Nat) (hi : i < s.length) : partB s i 4 = partB s (i + 1) 0 := by
  unfold partB
  rw [List.take_zero, List.append_nil, List.take_succ_eq_append_getElem hi]
  unfold bytesOfL
  rw [List.flatMap_append, List.flatMap_cons, List.flatMap_nil, List.append_nil]
  congr 1
  rw [List.take_of_length_le (by simp [wordBytes])]
  congr 1
  simp [List.getD_eq_getElem?_getD, hi]
theorem partB_all (s : List Nat) (n : Nat) (hn : s.length = n) : partB s n 0 = bytesOfL s := by
  unfold partB
  rw [List.take_zero, List.append_nil, List.take_of_length_le (by omega)]
theorem byte_val (x e : Nat) : ((x : Int) / 2 ^ e % 256) = (((UInt8.ofNat (x / 2 ^ e % 256)).toNat : Nat) : Int) := by
  simp only [UInt8.toNat_ofNat']
  rw [show (256 : Nat) = 2 ^ 8 from rfl, Nat.mod_mod_of_dvd _ (by decide), Int.natCast_emod, Int.natCast_ediv, Int.natCast_pow]
  rfl

set_option maxRecDepth 100000 in
set_option maxHeartbeats 4000000 in
theorem text_any (nb : Nat) (s : List Nat) (w : World) (hs : s.length = 8) (hst : StAt w nb s) :
    Calls Try.prog 39 #[.pointer (some ⟨nb, 0, none⟩)] w fun e w' => e = .returned (.string ⟨(bytesOfL s).toArray⟩) ∧ Below w.heap.size w w' := by
  obtain ⟨Z, hZ, hZ2⟩ : ∃ Z : Array Value, Z = #[.int .u8 0, .int .u8 0, .int .u8 0, .int .u8 0, .int .u8 0, .int .u8 0, .int .u8 0, .int .u8 0, .int .u8 0, .int .u8 0, .int .u8 0, .int .u8 0, .int .u8 0, .int .u8 0, .int .u8 0, .int .u8 0, .int .u8 0, .int .u8 0, .int .u8 0, .int .u8 0, .int .u8 0, .int .u8 0, .int .u8 0, .int .u8 0, .int .u8 0, .int .u8 0, .int .u8 0, .int .u8 0, .int .u8 0, .int .u8 0, .int .u8 0, .int .u8 0] ∧ Z = arrB (fillB []) := ⟨_, rfl, rfl⟩
  have hb0 : Below w.heap.size w (w.alloc (.cells Z 73)) := (Below.refl _ _).alloc (Nat.le_refl _) _
  have g1 : (w.alloc (.cells Z 73)).heap[w.heap.size]? = some (.cells Z 73) := heap_alloc_new _ _
  have hnb : nb < w.heap.size := (Array.getElem?_eq_some_iff.1 hst).1
  have HZ := Lib.hid hZ; clear hZ
  have G1 : Hid ((w.alloc (.cells Z 73)).heap[w.heap.size]? = some (.cells (arrB (fillB (partB s 0 0))) 73)) := Lib.hid (by rw [show partB s 0 0 = [] from rfl, ← hZ2]; exact g1)
  have L0 := Lib.hid hb0
  have HST := Lib.hid hst
  have HL := Lib.hid hs
  clear g1 hb0 hst hs hZ2
  go_enter Try.func39, Try.ntmps39
  go_wp2
  rw [← HZ.out]
  generalize w.alloc (.cells Z 73) = W0 at *
  clear HZ
  go_loopw [8, 14] (fun i _ wr => ∃ k : Nat, k ≤ 8 ∧ i = .int .i64 k ∧ wr.heap[w.heap.size]? = some (.cells (arrB (fillB (partB s k 0))) 73 (0, 0)) ∧ Below w.heap.size w wr) (fun i _ _ => 8 - (intOf i).toNat)
  case atStart => exact ⟨0, by omega, rfl, G1.out, L0.out⟩
  case round =>
    obtain ⟨k, hk, rfl, hheap, hbel⟩ := hrel
    by_cases hlt : k < 8
    · have hks : k < s.length := by rw [HL.out]; exact hlt
      have hst : StAt wr nb s := (hbel.block nb hnb).trans HST.out
      have hc := hst.cell k _ (List.getElem?_eq_getElem hks)
      have hx : s.getD k 0 = s[k] := by simp [List.getD_eq_getElem?_getD, hks]
      have NX := Lib.hid (partB_next s k hks)
      have PL := Lib.hid (fun j hj => partB_length s k j (Nat.le_of_lt hks) hj)
      have PS := Lib.hid (fun j hj => partB_step s k j _ hj hx)
      generalize s[k] = x at *
      have kq : (k : Int) < 8 := by omega
      have k0 : (0 : Int) ≤ (k : Int) := by omega
      have CK := Lib.hid (fun m : Nat => show (wr.drewN m).heap[w.heap.size]? = some (.cells (arrB (fillB (partB s k 0))) 73 (0, 0)) ∧ Below w.heap.size w (wr.drewN m) from ⟨hheap, Below_drewN hbel m⟩)
      clear hst hx hks hheap hbel G1 L0
      go_wp2
      go_quiet (fail)
      go_wp2
      have CK2 := Lib.hid (CK.out nq)
      clear CK hc
      generalize wr.drewN nq = w5 at *
      go_loopw [14] (fun j wr => ∃ q : Nat, q ≤ 4 ∧ j = .int .i64 q ∧ wr.heap[w.heap.size]? = some (.cells (arrB (fillB (partB s k q))) 73 (0, 0)) ∧ Below w.heap.size w wr) (fun j _ => 4 - (intOf j).toNat)
      case atStart => exact ⟨0, by omega, rfl, CK2.out.1, CK2.out.2⟩
      case round =>
        obtain ⟨q, hq, rfl, hheap, hbel⟩ := hrel
        by_cases hq4 : q < 4
        · have hpl := PL.out q (by omega)
          obtain ⟨at', hat⟩ : ∃ a, a = 4 * k + q := ⟨_, rfl⟩
          rw [← hat] at hpl
          have hlen32 : (fillB (partB s k q)).length = 32 := fillB_length _ (by omega)
          have hcell : w5 = w5 := rfl
          have hold : wr.cell? ⟨w.heap.size, at', none⟩ = some (.int .u8 ((((fillB (partB s k q))[at']'(by rw [hlen32]; omega)).toNat : Nat) : Int)) := by
            rw [cell_of_row _ _ _ _ _ _ hheap]
            exact arrB_get _ _ _ (List.getElem?_eq_getElem _)
          have hfr := frozen_of_row wr w.heap.size at' _ _ hheap
          generalize (((fillB (partB s k q))[at']'(by rw [hlen32]; omega)).toNat : Nat) = old at *
          have FS := Lib.hid (fillB_set (partB s k q) (UInt8.ofNat (x / 2 ^ (24 - 8 * q) % 256)) (by omega))
          have BV := Lib.hid (byte_val x (24 - 8 * q))
          have Hpl := Lib.hid hpl
          have Hh := Lib.hid hheap
          have e1 : (4 : Int) * (k : Int) + (q : Int) = (at' : Int) := by omega
          have hat32 : at' < 32 := by omega
          have aq : (at' : Int) < 32 := by omega
          have a0 : (0 : Int) ≤ (at' : Int) := by omega
          have HAT := Lib.hid hat
          clear hpl hlen32 hcell hheap hat
          go_wp2
          go_roundw
          case rel =>
            refine ⟨q + 1, by omega, by go_num, ?_, hbel.setCell (by exact Nat.le_refl _) _⟩
            rw [BV.out, heap_setCell_same wr w.heap.size at' _ _ _ Hh.out, (PS.out q hq4), ← FS.out, ← arrB_set, Hpl.out]
          case measure => simp [intOf]; omega
        · have hq4' : q = 4 := by omega
          have hh := hheap
          rw [hq4', NX.out] at hh
          have Hh := Lib.hid hh
          have h4 : 4 ≤ q := by omega
          clear hh hheap hq4'
          go_wp2
          go_roundw
          case rel => exact ⟨k + 1, by omega, by go_num, Hh.out, hbel⟩
          case measure => simp [intOf]; omega
    · have hk8 : k = 8 := by omega
      have h8 : 8 ≤ k := by omega
      have hbl := bytesOfL_length s
      rw [HL.out] at hbl
      have hh := hheap
      rw [hk8, partB_all s 8 HL.out, fillB_full _ hbl] at hh
      have Hc := Lib.hid (fun (j : Nat) (hj : j < 32) => show wr.cell? ⟨w.heap.size, j, none⟩ = some (.int .u8 ((((bytesOfL s)[j]'(by rw [hbl]; exact hj)).toNat : Nat) : Int)) by
        rw [cell_of_row _ _ _ _ _ _ hh]
        exact arrB_get _ _ _ (List.getElem?_eq_getElem _))
      have hcv : ∀ c, (convert 49 9 (.slice (some ⟨w.heap.size, 0, none⟩) 32 c)).run Try.prog wr = .ok (.string ⟨(bytesOfL s).toArray⟩) wr := fun c => by
        have := run_convert_bytes_back wr 49 9 5 ⟨w.heap.size, 0, none⟩ c (bytesOfL s) Try.underlying49 Try.underlying5 Try.underlying9 (fun j hj => by
          have e1 : (⟨w.heap.size, 0, none⟩ : Addr).add j = ⟨w.heap.size, 0 + j, none⟩ := by unfold Addr.add; split <;> simp_all
          rw [e1, Nat.zero_add]
          exact Hc.out j (by simpa [hbl] using hj))
        rw [hbl] at this
        exact this
      clear hh hheap hbl hk8 G1 Hc
      go_wp2
      go_ret
      exact ⟨rfl, hbel⟩
end Go.Proofs.Ytbiahhngeldhbaa

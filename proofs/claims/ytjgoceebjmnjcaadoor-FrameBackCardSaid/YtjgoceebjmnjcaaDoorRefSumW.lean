/- Walks of the document's own sums. -/
import Derived.Test.YtjgoceebjmnjcaaDoorRows
import Derived.Test.YtjgoceebjmnjcaaDoorCrc
import Derived.Test.YtjgoceebjmnjcaaDoorBitLaw
import Derived.Test.YtjgoceebjmnjcaaDoorOwnL
import Derived.WalkKit
import Derived.WalkSpells
import Derived.Lib.Hide
import Derived.WalkLawsBesides
import Derived.Outline
set_option linter.unusedVariables false
namespace Go.Proofs.YtjgoceebjmnjcaaDoor
open Go.RowKit

abbrev encN : Nat → Value := fun n => Value.int .i64 n
theorem info_u8 : (Tryd.prog.info? 5).map (fun i => (i.zero, i.size, i.bytes)) = some (some (.int .u8 0), 1, 1) := by kernel_rfl
theorem info_i64 : (Tryd.prog.info? 3).map (fun i => (i.zero, i.size, i.bytes)) = some (some (.int .i64 0), 1, 8) := by kernel_rfl

theorem bitsL_take (l : List UInt8) (k : Nat) (h : k < l.length) : bitsL (l.take (k + 1)) = bitsL (l.take k) ++ bitsB l[k].toNat 8 := by
  rw [List.take_succ_eq_append_getElem h]
  unfold bitsL
  rw [List.flatMap_append, List.flatMap_cons, List.flatMap_nil, List.append_nil]
theorem bitsB_snoc (c n : Nat) : bitsB c (n + 1) = bitsB c n ++ [c / 2 ^ n % 2] := by
  induction n generalizing c with
  | zero => simp [bitsB]
  | succ n ih => rw [bitsB, ih, bitsB, Nat.div_div_eq_div_mul, Nat.pow_succ, Nat.mul_comm 2]; rfl

set_option maxRecDepth 100000 in
set_option maxHeartbeats 800000 in
theorem bits_any (l : List UInt8) (w : World) (hl : l.length ≤ 1000000) :
    Calls Tryd.prog 27 #[.string ⟨l.toArray⟩] w fun e w' => ∃ v, e = .returned v ∧ OwnL encN w' w.heap.size 3 v (bitsL l) ∧ Below w.heap.size w w' := by
  have L := Lib.hid (show (⟨l.toArray⟩ : ByteArray).size = l.length from rfl)
  go_enter Tryd.func27, Tryd.ntmps27
  go_wp2
  go_loopw [3, 4, 5, 6] (fun v i _ _ wr => ∃ k : Nat, k ≤ l.length ∧ i = .int .i64 k ∧ OwnL encN wr w.heap.size 3 v (bitsL (l.take k)) ∧ Below w.heap.size w wr) (fun _ i _ _ _ => l.length - (intOf i).toNat)
  case atStart => exact ⟨0, Nat.zero_le _, rfl, OwnL.nil _ _ _ _, Below.refl _ _⟩
  case round =>
    obtain ⟨k, hk, rfl, hown, hbel⟩ := hrel
    have Hown := Lib.hid hown; clear hown
    by_cases hlt : k < l.length
    · obtain ⟨wo, rfl⟩ : ∃ wo : World, wo = wr := ⟨_, rfl⟩
      have B : ((⟨l.toArray⟩ : ByteArray)[k]'hlt).toNat < 256 := UInt8.toNat_lt _
      have E := Lib.hid (bitsL_take l k hlt)
      have hE : l[k].toNat = ((⟨l.toArray⟩ : ByteArray)[k]'hlt).toNat := rfl
      rw [hE] at E
      clear hE
      have LB : (bitsL (l.take k)).length ≤ 8000000 := by rw [bitsL_length, List.length_take]; omega
      go_wp2
      generalize ((⟨l.toArray⟩ : ByteArray)[k]'hlt).toNat = c at *
      go_loopw [3, 5, 6] (fun v x i wr => ∃ j : Nat, j ≤ 8 ∧ i = .int .i64 j ∧ x = .int .i64 (c / 2 ^ j : Nat) ∧ OwnL encN wr w.heap.size 3 v (bitsL (l.take k) ++ bitsB c j) ∧ Below w.heap.size w wr) (fun _ _ i _ => 8 - (intOf i).toNat)
      case atStart => exact ⟨0, by omega, rfl, by simp, by simpa [bitsB] using Hown.out, hbel⟩
      case round =>
        obtain ⟨j, hj, rfl, rfl, hown, hbel1⟩ := hrel
        have Hown1 := Lib.hid hown; clear hown Hown
        have hbw := hbel1.size
        have hlen : (bitsL (l.take k) ++ bitsB c j).length ≤ 8000008 := by rw [List.length_append, bitsB_length]; omega
        by_cases hj8 : j < 8
        · have hq : c / 2 ^ j < 256 := Nat.lt_of_le_of_lt (Nat.div_le_self _ _) B
          have Hs := Lib.hid (bitsB_snoc c j)
          have Hd := Lib.hid (show c / 2 ^ (j + 1) = c / 2 ^ j / 2 by rw [Nat.div_div_eq_div_mul, Nat.pow_succ])
          generalize c / 2 ^ j = q at *
          go_wp2_with (at_builtin; refine append_elem (enc := encN) (y := q % 2) rfl _ _ 46 3 (.int .i64 0) 8 (by rfl) Tryd.underlying46 info_i64 rfl w.heap.size _ _ rfl (by rfl) Hown1.out (by rfl) (by omega) (by unfold maxLen; omega) (by omega) ?_; intro v' w3 hown3 hb3 hk3)
          have Hown3 := Lib.hid hown3; clear hown3
          go_wp2
          go_roundw
          case rel => exact ⟨j + 1, by omega, by go_num, by rw [Hd.out]; go_num, by rw [Hs.out, ← List.append_assoc]; exact Hown3.out, hbel1.trans hb3⟩
          case measure => simp [intOf]; omega
        · have h8 : 8 - j = 0 := by omega
          go_wp2
          go_roundw
          case rel =>
            refine ⟨k + 1, by omega, by go_num, ?_, hbel1⟩
            rw [E.out]
            have : j = 8 := by omega
            subst this
            exact Hown1.out
          case measure => simp [intOf]; omega
    · have S := Lib.hid (show l.take k = l from List.take_of_length_le (by omega))
      go_wp2
      go_ret
      refine ⟨_, rfl, ?_, hbel⟩
      have := Hown.out
      rw [S.out] at this
      exact this

theorem bitsB_lt (c n : Nat) : ∀ b ∈ bitsB c n, b < 2 := by
  induction n generalizing c with
  | zero => simp [bitsB]
  | succ n ih =>
    intro b hb
    simp only [bitsB, List.mem_cons] at hb
    rcases hb with rfl | hb
    · omega
    · exact ih _ b hb
theorem bitsL_lt (l : List UInt8) : ∀ b ∈ bitsL l, b < 2 := by
  intro b hb
  simp only [bitsL, List.mem_flatMap] at hb
  obtain ⟨c, _, hb⟩ := hb
  exact bitsB_lt _ _ b hb
def foldB (r : Nat) (l : List Nat) : Nat := l.foldl bitStep r
theorem foldB_take (r : Nat) (l : List Nat) (k : Nat) (h : k < l.length) : foldB r (l.take (k + 1)) = bitStep (foldB r (l.take k)) l[k] := by
  unfold foldB
  rw [List.take_succ_eq_append_getElem h, List.foldl_append]
  rfl
theorem foldB_lt (r : Nat) (l : List Nat) (h : r < 4294967296) : foldB r l < 4294967296 := by
  induction l generalizing r with
  | nil => exact h
  | cons b l ih => exact ih _ (bitStep_lt r b h)

set_option maxRecDepth 100000 in
set_option maxHeartbeats 800000 in
theorem refAdd_any (sum : Int) (s : Nat) (l : List UInt8) (w : World) (hs : sum % 4294967296 = (s : Int)) (hs2 : s < 4294967296) (hl : l.length ≤ 1000000) :
    Calls Tryd.prog 16 #[.int .i64 sum, .string ⟨l.toArray⟩] w fun e w' => e = .returned (.int .i64 (addS s l : Nat)) ∧ Below w.heap.size w w' := by
  have t0 := turn_lt s hs2
  have e1 := i64_and32 sum
  rw [hs] at e1
  have e2 : (4294967295 : Int) - (s : Int) = (turn s : Nat) := by have := turn_sub s hs2; omega
  have Ha := Lib.hid (show turn (foldB (turn s) (bitsL l)) = addS s l by unfold foldB; rw [bits_crc]; rfl)
  have hbl := bitsL_length l
  have Hlt := Lib.hid (bitsL_lt l)
  generalize turn s = r0 at t0 e2 Ha
  have C := fun w' => Lib.hid (bits_any l w' hl)
  clear hs
  go_enter Tryd.func16, Tryd.ntmps16
  go_wp2_with fail
  refine (C _).out.mono ?_
  rintro e w1 ⟨v, rfl, hown, hb1⟩
  have Hrow := Lib.hid hown.row.cases; clear hown
  generalize bitsL l = bs at *
  rcases Hrow.out with ⟨hnil, a, cap, rfl⟩ | ⟨b, off, cap, rfl, hbb, hc⟩
  · have Hnil := Lib.hid hnil; clear hnil Hrow
    rw [Hnil.out] at Ha
    have e4 : (4294967295 : Int) - (r0 : Nat) = (turn (foldB r0 []) : Nat) := by have := turn_sub r0 t0; show _ = ((turn r0 : Nat) : Int); omega
    rw [Ha.out] at e4
    go_wp2
    refine wp_loop_rounds 1 ?_
    rw [rounds_succ]
    go_wp2
    go_ret
    exact ⟨rfl, hb1⟩
  · clear Hrow
    have HC := Lib.hid hc; clear hc
    go_wp2
    go_loop [5, 7] (fun r i => ∃ k : Nat, k ≤ bs.length ∧ i = .int .i64 k ∧ r = .int .i64 (foldB r0 (bs.take k) : Nat)) (fun _ i => bs.length - (intOf i).toNat)
    case atStart => exact ⟨0, Nat.zero_le _, rfl, rfl⟩
    case round =>
      obtain ⟨k, hk, rfl, rfl⟩ := hrel
      have hb := foldB_lt r0 (bs.take k) t0
      by_cases hlt : k < bs.length
      · have hcell := HC.out k hlt
        have hbit : bs[k] < 2 := Hlt.out _ (List.getElem_mem hlt)
        have S := Lib.hid (foldB_take r0 bs k hlt)
        generalize foldB r0 (bs.take k) = r at *
        generalize bs[k] = c at *
        have e3 := i64_xor_nat (r / 2) 3988292384 (by omega) (by decide)
        rw [show ((r / 2 : Nat) : Int) = (r : Int) / 2 from by omega, show ((3988292384 : Nat) : Int) = 3988292384 from rfl] at e3
        by_cases hone : r % 2 + c = 1
        · have hone1 : ((r : Int) % 2 + (c : Int) == 1) = true := by simp; omega
          have Hs : Hid (bitStep r c = (r / 2) ^^^ 3988292384) := Lib.hid (by unfold bitStep; rw [if_pos hone]; rfl)
          clear hone
          go_wp2
          go_round
          case rel => exact ⟨k + 1, by omega, by go_num, by rw [S.out, Hs.out]⟩
          case measure => simp [intOf]; omega
        · have hone1 : ((r : Int) % 2 + (c : Int) == 1) = false := by simp; omega
          have Hs : Hid (bitStep r c = r / 2) := Lib.hid (by unfold bitStep; rw [if_neg hone])
          clear hone
          go_wp2
          go_round
          case rel => exact ⟨k + 1, by omega, by go_num, by rw [S.out, Hs.out]; go_num⟩
          case measure => simp [intOf]; omega
      · have S := Lib.hid (show bs.take k = bs from List.take_of_length_le (by omega))
        rw [S.out] at hb ⊢
        have e4 : (4294967295 : Int) - (foldB r0 bs : Nat) = (turn (foldB r0 bs) : Nat) := by have := turn_sub _ hb; omega
        rw [Ha.out] at e4
        generalize foldB r0 bs = r at *
        go_wp2
        go_ret
        exact ⟨rfl, hb1⟩

theorem refSum_any (l : List UInt8) (w : World) (hl : l.length ≤ 1000000) :
    Calls Tryd.prog 13 #[.string ⟨l.toArray⟩] w fun e w' => e = .returned (.int .i64 (sumS l : Nat)) ∧ Below w.heap.size w w' := by
  have C := fun w' => Lib.hid (refAdd_any 0 0 l w' rfl (by decide) hl)
  go_enter Tryd.func13, Tryd.ntmps13
  go_wp2_with fail
  refine (C _).out.mono ?_
  rintro e w' ⟨rfl, hb⟩
  go_wp2
  go_ret
  exact ⟨rfl, hb⟩
end Go.Proofs.YtjgoceebjmnjcaaDoor

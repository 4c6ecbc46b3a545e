/- Several texts in one: RefSumW, FourW, OneFW, One2W. -/
import Derived.Test.YtamiacmnobklaaaGreatDoorBitLaw
import Derived.Test.YtamiacmnobklaaaGreatDoorCrX
import Derived.Test.YtamiacmnobklaaaGreatDoorFrame
import Derived.Test.YtamiacmnobklaaaGreatDoorGen
import Derived.Test.YtamiacmnobklaaaGreatDoorInfos
import Derived.Test.YtamiacmnobklaaaGreatDoorOwnL
import Derived.Test.YtamiacmnobklaaaGreatDoorRows
import Derived.Lib.Hide
import Derived.Outline
import Derived.WalkKit
import Derived.WalkLawsBesides
import Derived.WalkSpells
import Derived.BigQuiet
import Derived.Deep.QuietTactic
import Derived.Laws.BitsAllLaws
import Derived.Deep.Draws
import Derived.Laws.Bits128
import Derived.Laws.IdiomStrings
import Derived.Lib.AppendStr
import Derived.OpenShut
import Derived.ProofKit
import Derived.ShutString
import Derived.SizedLaws
import Derived.SliceStrings
/- Walks of the document's own sums. -/
set_option linter.unusedVariables false
namespace Go.Proofs.YtamiacmnobklaaaGreatDoor
open Go.RowKit


theorem bitsL_take (l : List UInt8) (k : Nat) (h : k < l.length) : bitsL (l.take (k + 1)) = bitsL (l.take k) ++ bitsB l[k].toNat 8 := by
  rw [List.take_succ_eq_append_getElem h]
  unfold bitsL
  rw [List.flatMap_append, List.flatMap_cons, List.flatMap_nil, List.append_nil]
theorem bitsB_snoc (c n : Nat) : bitsB c (n + 1) = bitsB c n ++ [c / 2 ^ n % 2] := by
  induction n generalizing c with
  | zero => simp [bitsB]
  | succ n ih => rw [bitsB, ih, bitsB, Nat.div_div_eq_div_mul, Nat.pow_succ, Nat.mul_comm 2]; rfl

set_option maxRecDepth 100000 in
set_option maxHeartbeats 800000 in
theorem bits_any (l : List UInt8) (w : World) (hl : l.length ≤ 1000000) :
    Calls Tryz.prog 148 #[.string ⟨l.toArray⟩] w fun e w' => ∃ v, e = .returned v ∧ OwnL encN w' w.heap.size 3 v (bitsL l) ∧ Below w.heap.size w w' := by
  have L := Lib.hid (show (⟨l.toArray⟩ : ByteArray).size = l.length from rfl)
  go_enter Tryz.func148, Tryz.ntmps148
  go_wp2
  go_loopw [3, 4, 5, 6] (fun v i _ _ wr => ∃ k : Nat, k ≤ l.length ∧ i = .int .i64 k ∧ OwnL encN wr w.heap.size 3 v (bitsL (l.take k)) ∧ Below w.heap.size w wr) (fun _ i _ _ _ => l.length - (intOf i).toNat)
  case atStart => exact ⟨0, Nat.zero_le _, rfl, OwnL.nil _ _ _ _, Below.refl _ _⟩
  case round =>
    obtain ⟨k, hk, rfl, hown, hbel⟩ := hrel
    have Hown := Lib.hid hown; clear hown
    by_cases hlt : k < l.length
    · obtain ⟨wo, rfl⟩ : ∃ wo : World, wo = wr := ⟨_, rfl⟩
      have B : ((⟨l.toArray⟩ : ByteArray)[k]'hlt).toNat < 256 := UInt8.toNat_lt _
      have E := Lib.hid (bitsL_take l k hlt)
      have hE : l[k].toNat = ((⟨l.toArray⟩ : ByteArray)[k]'hlt).toNat := rfl
      rw [hE] at E
      clear hE
      have LB : (bitsL (l.take k)).length ≤ 8000000 := by rw [bitsL_length, List.length_take]; omega
      go_wp2
      generalize ((⟨l.toArray⟩ : ByteArray)[k]'hlt).toNat = c at *
      go_loopw [3, 5, 6] (fun v x i wr => ∃ j : Nat, j ≤ 8 ∧ i = .int .i64 j ∧ x = .int .i64 (c / 2 ^ j : Nat) ∧ OwnL encN wr w.heap.size 3 v (bitsL (l.take k) ++ bitsB c j) ∧ Below w.heap.size w wr) (fun _ _ i _ => 8 - (intOf i).toNat)
      case atStart => exact ⟨0, by omega, rfl, by simp, by simpa [bitsB] using Hown.out, hbel⟩
      case round =>
        obtain ⟨j, hj, rfl, rfl, hown, hbel1⟩ := hrel
        have Hown1 := Lib.hid hown; clear hown Hown
        have hbw := hbel1.size
        have hlen : (bitsL (l.take k) ++ bitsB c j).length ≤ 8000008 := by rw [List.length_append, bitsB_length]; omega
        by_cases hj8 : j < 8
        · have hq : c / 2 ^ j < 256 := Nat.lt_of_le_of_lt (Nat.div_le_self _ _) B
          have Hs := Lib.hid (bitsB_snoc c j)
          have Hd := Lib.hid (show c / 2 ^ (j + 1) = c / 2 ^ j / 2 by rw [Nat.div_div_eq_div_mul, Nat.pow_succ])
          generalize c / 2 ^ j = q at *
          go_wp2_with (at_builtin; refine append_elem (enc := encN) (y := q % 2) rfl _ _ 156 3 (.int .i64 0) 8 (by rfl) Tryz.underlying156 info_i64 rfl w.heap.size _ _ rfl (by rfl) Hown1.out (by rfl) (by omega) (by unfold maxLen; omega) (by omega) ?_; intro v' w3 hown3 hb3 hk3)
          have Hown3 := Lib.hid hown3; clear hown3
          go_wp2
          go_roundw
          case rel => exact ⟨j + 1, by omega, by go_num, by rw [Hd.out]; go_num, by rw [Hs.out, ← List.append_assoc]; exact Hown3.out, hbel1.trans hb3⟩
          case measure => simp [intOf]; omega
        · have h8 : 8 - j = 0 := by omega
          go_wp2
          go_roundw
          case rel =>
            refine ⟨k + 1, by omega, by go_num, ?_, hbel1⟩
            rw [E.out]
            have : j = 8 := by omega
            subst this
            exact Hown1.out
          case measure => simp [intOf]; omega
    · have S := Lib.hid (show l.take k = l from List.take_of_length_le (by omega))
      go_wp2
      go_ret
      refine ⟨_, rfl, ?_, hbel⟩
      have := Hown.out
      rw [S.out] at this
      exact this

theorem bitsB_lt (c n : Nat) : ∀ b ∈ bitsB c n, b < 2 := by
  induction n generalizing c with
  | zero => simp [bitsB]
  | succ n ih =>
    intro b hb
    simp only [bitsB, List.mem_cons] at hb
    rcases hb with rfl | hb
    · omega
    · exact ih _ b hb
theorem bitsL_lt (l : List UInt8) : ∀ b ∈ bitsL l, b < 2 := by
  intro b hb
  simp only [bitsL, List.mem_flatMap] at hb
  obtain ⟨c, _, hb⟩ := hb
  exact bitsB_lt _ _ b hb
def foldB (r : Nat) (l : List Nat) : Nat := l.foldl bitStep r
theorem foldB_take (r : Nat) (l : List Nat) (k : Nat) (h : k < l.length) : foldB r (l.take (k + 1)) = bitStep (foldB r (l.take k)) l[k] := by
  unfold foldB
  rw [List.take_succ_eq_append_getElem h, List.foldl_append]
  rfl
theorem foldB_lt (r : Nat) (l : List Nat) (h : r < 4294967296) : foldB r l < 4294967296 := by
  induction l generalizing r with
  | nil => exact h
  | cons b l ih => exact ih _ (bitStep_lt r b h)

set_option maxRecDepth 100000 in
set_option maxHeartbeats 800000 in
theorem refAdd_any (sum : Int) (s : Nat) (l : List UInt8) (w : World) (hs : sum % 4294967296 = (s : Int)) (hs2 : s < 4294967296) (hl : l.length ≤ 1000000) :
    Calls Tryz.prog 120 #[.int .i64 sum, .string ⟨l.toArray⟩] w fun e w' => e = .returned (.int .i64 (addS s l : Nat)) ∧ Below w.heap.size w w' := by
  have t0 := turn_lt s hs2
  have e1 := i64_and32 sum
  rw [hs] at e1
  have e2 : (4294967295 : Int) - (s : Int) = (turn s : Nat) := by have := turn_sub s hs2; omega
  have Ha := Lib.hid (show turn (foldB (turn s) (bitsL l)) = addS s l by unfold foldB; rw [bits_crc]; rfl)
  have hbl := bitsL_length l
  have Hlt := Lib.hid (bitsL_lt l)
  generalize turn s = r0 at t0 e2 Ha
  have C := fun w' => Lib.hid (bits_any l w' hl)
  clear hs
  go_enter Tryz.func120, Tryz.ntmps120
  go_wp2_with fail
  refine (C _).out.mono ?_
  rintro e w1 ⟨v, rfl, hown, hb1⟩
  have Hrow := Lib.hid hown.row.cases; clear hown
  generalize bitsL l = bs at *
  rcases Hrow.out with ⟨hnil, a, cap, rfl⟩ | ⟨b, off, cap, rfl, hbb, hc⟩
  · have Hnil := Lib.hid hnil; clear hnil Hrow
    rw [Hnil.out] at Ha
    have e4 : (4294967295 : Int) - (r0 : Nat) = (turn (foldB r0 []) : Nat) := by have := turn_sub r0 t0; show _ = ((turn r0 : Nat) : Int); omega
    rw [Ha.out] at e4
    go_wp2
    refine wp_loop_rounds 1 ?_
    rw [rounds_succ]
    go_wp2
    go_ret
    exact ⟨rfl, hb1⟩
  · clear Hrow
    have HC := Lib.hid hc; clear hc
    go_wp2
    go_loop [5, 7] (fun r i => ∃ k : Nat, k ≤ bs.length ∧ i = .int .i64 k ∧ r = .int .i64 (foldB r0 (bs.take k) : Nat)) (fun _ i => bs.length - (intOf i).toNat)
    case atStart => exact ⟨0, Nat.zero_le _, rfl, rfl⟩
    case round =>
      obtain ⟨k, hk, rfl, rfl⟩ := hrel
      have hb := foldB_lt r0 (bs.take k) t0
      by_cases hlt : k < bs.length
      · have hcell := HC.out k hlt
        have hbit : bs[k] < 2 := Hlt.out _ (List.getElem_mem hlt)
        have S := Lib.hid (foldB_take r0 bs k hlt)
        generalize foldB r0 (bs.take k) = r at *
        generalize bs[k] = c at *
        have e3 := i64_xor_nat (r / 2) 3988292384 (by omega) (by decide)
        rw [show ((r / 2 : Nat) : Int) = (r : Int) / 2 from by omega, show ((3988292384 : Nat) : Int) = 3988292384 from rfl] at e3
        by_cases hone : r % 2 + c = 1
        · have hone1 : ((r : Int) % 2 + (c : Int) == 1) = true := by simp; omega
          have Hs : Hid (bitStep r c = (r / 2) ^^^ 3988292384) := Lib.hid (by unfold bitStep; rw [if_pos hone]; rfl)
          clear hone
          go_wp2
          go_round
          case rel => exact ⟨k + 1, by omega, by go_num, by rw [S.out, Hs.out]⟩
          case measure => simp [intOf]; omega
        · have hone1 : ((r : Int) % 2 + (c : Int) == 1) = false := by simp; omega
          have Hs : Hid (bitStep r c = r / 2) := Lib.hid (by unfold bitStep; rw [if_neg hone])
          clear hone
          go_wp2
          go_round
          case rel => exact ⟨k + 1, by omega, by go_num, by rw [S.out, Hs.out]; go_num⟩
          case measure => simp [intOf]; omega
      · have S := Lib.hid (show bs.take k = bs from List.take_of_length_le (by omega))
        rw [S.out] at hb ⊢
        have e4 : (4294967295 : Int) - (foldB r0 bs : Nat) = (turn (foldB r0 bs) : Nat) := by have := turn_sub _ hb; omega
        rw [Ha.out] at e4
        generalize foldB r0 bs = r at *
        go_wp2
        go_ret
        exact ⟨rfl, hb1⟩

theorem refSum_any (l : List UInt8) (w : World) (hl : l.length ≤ 1000000) :
    Calls Tryz.prog 85 #[.string ⟨l.toArray⟩] w fun e w' => e = .returned (.int .i64 (sumS l : Nat)) ∧ Below w.heap.size w w' := by
  have C := fun w' => Lib.hid (refAdd_any 0 0 l w' rfl (by decide) hl)
  go_enter Tryz.func85, Tryz.ntmps85
  go_wp2_with fail
  refine (C _).out.mono ?_
  rintro e w' ⟨rfl, hb⟩
  go_wp2
  go_ret
  exact ⟨rfl, hb⟩
end Go.Proofs.YtamiacmnobklaaaGreatDoor
/- Walks of four, number and Frame, and of the document's own. -/
set_option linter.unusedVariables false
namespace Go.Proofs.YtamiacmnobklaaaGreatDoor
open Go.RowKit

theorem toArray_append (a b : List UInt8) : (ByteArray.mk a.toArray) ++ (ByteArray.mk b.toArray) = ⟨(a ++ b).toArray⟩ := by
  rw [ByteArray.ext_iff]; simp
/-- A number in four bytes, the lowest first. -/
def fourB (n : Nat) : List UInt8 := [UInt8.ofNat n, UInt8.ofNat (n / 256), UInt8.ofNat (n / 65536), UInt8.ofNat (n / 16777216)]

theorem four_cells (n : Nat) (w : World) (hn : n < 4294967296) :
    (convert 105 9 (Value.slice (some ⟨w.heap.size, 0, none⟩) 4 4)).run Tryz.prog
      (w.alloc (.cells #[.int .u8 ((n : Int) % 256), .int .u8 ((n : Int) / 256 % 256), .int .u8 ((n : Int) / 65536 % 256), .int .u8 ((n : Int) / 16777216)] 5)) =
    .ok (.string ⟨(fourB n).toArray⟩) (w.alloc (.cells #[.int .u8 ((n : Int) % 256), .int .u8 ((n : Int) / 256 % 256), .int .u8 ((n : Int) / 65536 % 256), .int .u8 ((n : Int) / 16777216)] 5)) := by
  refine run_convert_bytes_back (P := Tryz.prog) _ 105 9 5 ⟨w.heap.size, 0, none⟩ 4 (fourB n) Tryz.underlying105 Tryz.underlying5 Tryz.underlying9 ?_
  intro j hj
  match j, hj with
  | 0, _ => simp [Addr.add, fourB, UInt8.toNat_ofNat']
  | 1, _ => simp [Addr.add, fourB, UInt8.toNat_ofNat']
  | 2, _ => simp [Addr.add, fourB, UInt8.toNat_ofNat']
  | 3, _ => simp [Addr.add, fourB, UInt8.toNat_ofNat']; omega
set_option maxRecDepth 100000 in
theorem four_any (n : Nat) (w : World) (hn : n < 4294967296) :
    Calls Tryz.prog 112 #[.int .i64 n] w fun e w' => e = .returned (.string ⟨(fourB n).toArray⟩) ∧ Below w.heap.size w w' := by
  have H := Lib.hid (four_cells n w hn)
  go_enter Tryz.func112, Tryz.ntmps112
  go_wp2
  rw [H.out]
  go_wp2
  go_ret
  exact ⟨rfl, (Below.refl _ _).alloc (Nat.le_refl _) _⟩

theorem fourB_take (n k : Nat) (h : k < 4) : (fourB n).take (k + 1) = (fourB n).take k ++ [UInt8.ofNat (n / 256 ^ k)] := by
  match k, h with
  | 0, _ => simp [fourB]
  | 1, _ => simp [fourB]
  | 2, _ => simp [fourB]
  | 3, _ => simp [fourB]

theorem or_up (x y : Int) (i : Nat) (hx0 : 0 ≤ x) (hx : x < 2 ^ i) (hy0 : 0 ≤ y) (hy : y % 2 ^ i = 0) (hy1 : y < 2 ^ 63) (hx1 : x < 2 ^ 63) : bits .or .i64 x y = x + y := by
  rw [i64_or_comm, i64_or_join i y x hy0 hy hy1 hx0 hx hx1]
  omega

set_option maxHeartbeats 400000 in
theorem number_any (a b c d : UInt8) (w : World) :
    Calls Tryz.prog 119 #[.string ⟨#[a, b, c, d]⟩] w fun e w' => ∃ n, e = .returned (.int .i64 (numL [a, b, c, d] : Nat)) ∧ w' = w.drewN n := by
  have ha := a.toNat_lt
  have hb := b.toNat_lt
  have hc := c.toNat_lt
  have hd := d.toNat_lt
  have i0 : (⟨#[a, b, c, d]⟩ : ByteArray)[0]'(by simp [ByteArray.size]) = a := rfl
  have i1 : (⟨#[a, b, c, d]⟩ : ByteArray)[1]'(by simp [ByteArray.size]) = b := rfl
  have i2 : (⟨#[a, b, c, d]⟩ : ByteArray)[2]'(by simp [ByteArray.size]) = c := rfl
  have i3 : (⟨#[a, b, c, d]⟩ : ByteArray)[3]'(by simp [ByteArray.size]) = d := rfl
  have e1 := or_up (a.toNat : Int) ((b.toNat : Int) * 256) 8 (by omega) (by omega) (by omega) (by omega) (by omega) (by omega)
  have e2 := or_up ((a.toNat : Int) + (b.toNat : Int) * 256) ((c.toNat : Int) * 65536) 16 (by omega) (by omega) (by omega) (by omega) (by omega) (by omega)
  have e3 := or_up ((a.toNat : Int) + (b.toNat : Int) * 256 + (c.toNat : Int) * 65536) ((d.toNat : Int) * 16777216) 24 (by omega) (by omega) (by omega) (by omega) (by omega) (by omega)
  have Hn := Lib.hid (show ((a.toNat : Int) + (b.toNat : Int) * 256 + (c.toNat : Int) * 65536 + (d.toNat : Int) * 16777216) = (numL [a, b, c, d] : Nat) by simp only [numL]; omega)
  go_enter Tryz.func119, Tryz.ntmps119
  go_wp2
  go_quiet (fail)
  go_wp2
  go_ret
  rw [Hn.out]
  exact ⟨_, rfl, rfl⟩

def numR : List UInt8 → Nat := numL
theorem refNumber_any (a b c d : UInt8) (w : World) :
    Calls Tryz.prog 84 #[.string ⟨#[a, b, c, d]⟩] w fun e w' => e = .returned (.int .i64 (numL [a, b, c, d] : Nat)) ∧ w = w' := by
  have ha := a.toNat_lt
  have hb := b.toNat_lt
  have hc := c.toNat_lt
  have hd := d.toNat_lt
  have i0 : (⟨#[a, b, c, d]⟩ : ByteArray)[0]'(by simp [ByteArray.size]) = a := rfl
  have i1 : (⟨#[a, b, c, d]⟩ : ByteArray)[1]'(by simp [ByteArray.size]) = b := rfl
  have i2 : (⟨#[a, b, c, d]⟩ : ByteArray)[2]'(by simp [ByteArray.size]) = c := rfl
  have i3 : (⟨#[a, b, c, d]⟩ : ByteArray)[3]'(by simp [ByteArray.size]) = d := rfl
  have Hn := Lib.hid (show (256 * (256 * (256 * (d.toNat : Int) + (c.toNat : Int)) + (b.toNat : Int)) + (a.toNat : Int)) = (numL [a, b, c, d] : Nat) by simp only [numL]; omega)
  go_enter Tryz.func84, Tryz.ntmps84
  go_wp2
  refine wp_loop_rounds 5 ?_
  rw [rounds_succ]
  go_wp2
  rw [rounds_succ]
  go_wp2
  rw [rounds_succ]
  go_wp2
  rw [rounds_succ]
  go_wp2
  rw [rounds_succ]
  go_wp2
  go_ret
  rw [← Hn.out]
  exact ⟨rfl, rfl⟩

def frameB (l : List UInt8) : List UInt8 := [181, 126] ++ fourB l.length ++ fourB (sumS (fourB l.length ++ l)) ++ l
theorem fourB_length (n : Nat) : (fourB n).length = 4 := rfl
theorem frameB_length (l : List UInt8) : (frameB l).length = l.length + 10 := by simp [frameB, fourB_length]; omega

set_option maxHeartbeats 400000 in
theorem frame_ok (l : List UInt8) (w : World) (hl : l.length ≤ 65536) (ht : Tab w) :
    Calls Tryz.prog 79 #[.string ⟨l.toArray⟩] w fun e w' => e = .returned (.tuple #[.string ⟨(frameB l).toArray⟩, .int .i64 0]) ∧ Below w.heap.size w w' := by
  have L := Lib.hid (show (⟨l.toArray⟩ : ByteArray).size = l.length from rfl)
  have F1 := fun w => Lib.hid (four_any l.length w (by omega))
  have hq := sumS_lt (fourB l.length)
  have hq2 := sumS_lt (fourB l.length ++ l)
  have S1 := fun w ht => Lib.hid (sum_any (fourB l.length) w (by simp [fourB_length]) ht)
  have A1 := fun w ht => Lib.hid (add_any (sumS (fourB l.length) : Nat) (sumS (fourB l.length)) l w (by omega) hq (by omega) ht)
  rw [← sumS_append] at A1
  have F2 := fun w => Lib.hid (four_any (sumS (fourB l.length ++ l)) w hq2)
  have E1 := toArray_append [181, 126] (fourB l.length)
  have E2 := toArray_append ([181, 126] ++ fourB l.length) (fourB (sumS (fourB l.length ++ l)))
  have E3 := toArray_append ([181, 126] ++ fourB l.length ++ fourB (sumS (fourB l.length ++ l))) l
  have E := Lib.hid (show [181, 126] ++ fourB l.length ++ fourB (sumS (fourB l.length ++ l)) ++ l = frameB l from rfl)
  rw [E.out] at E3
  have l1 : ([181, 126] ++ fourB l.length).length ≤ 6 := Nat.le_refl _
  have l2 : ([181, 126] ++ fourB l.length ++ fourB (sumS (fourB l.length ++ l))).length ≤ 10 := Nat.le_refl _
  have l3 : (fourB l.length).length ≤ 4 := Nat.le_refl _
  have l4 : (fourB (sumS (fourB l.length ++ l))).length ≤ 4 := Nat.le_refl _
  have T := Lib.hid ht
  clear ht
  generalize fourB (sumS (fourB l.length ++ l)) = f2 at *
  generalize sumS (fourB l.length ++ l) = s2 at *
  generalize sumS (fourB l.length) = s1 at *
  generalize fourB l.length = f1 at *
  generalize [181, 126] ++ f1 ++ f2 = g2 at *
  generalize [181, 126] ++ f1 = g1 at *
  go_enter Tryz.func79, Tryz.ntmps79
  go_wp2_with fail
  refine (F1 _).out.mono ?_
  rintro e w1 ⟨rfl, hb1⟩
  have T1 := Lib.hid (T.out.below hb1)
  go_wp2_with fail
  refine (S1 _ T1.out).out.mono ?_
  rintro e w1 ⟨rfl, rfl⟩
  go_wp2_with fail
  refine (A1 _ T1.out).out.mono ?_
  rintro e w1 ⟨rfl, rfl⟩
  go_wp2_with fail
  refine (F2 _).out.mono ?_
  rintro e w2 ⟨rfl, hb2⟩
  go_wp2
  go_ret2
  exact ⟨rfl, hb1.trans (hb2.mono hb1.size)⟩

theorem frame_no (l : List UInt8) (w : World) (hl : 65536 < l.length) (hl2 : l.length ≤ 140737488351232) :
    Calls Tryz.prog 79 #[.string ⟨l.toArray⟩] w fun e w' => e = .returned (.tuple #[.string ⟨#[]⟩, .int .i64 4]) ∧ w = w' := by
  have L := Lib.hid (show (⟨l.toArray⟩ : ByteArray).size = l.length from rfl)
  go_enter Tryz.func79, Tryz.ntmps79
  go_wp2
  go_ret2
  exact ⟨rfl, rfl⟩

end Go.Proofs.YtamiacmnobklaaaGreatDoor
/- Walks of payloadSize, one, One, and of the document's One. -/
set_option linter.unusedVariables false
namespace Go.Proofs.YtamiacmnobklaaaGreatDoor
open Go.RowKit

def headBad : List UInt8 → Bool
  | [] => false
  | [a] => a != 181
  | a :: b :: _ => a != 181 || b != 126
/-- How long the payload is of the frame with which bytes begin. -/
def payS (l : List UInt8) : Nat × Nat :=
  if headBad l then (0, 5) else if l.length < 6 then (0, 3) else
    if 65536 < numL ((l.take 6).drop 2) then (0, 4) else if l.length < 10 + numL ((l.take 6).drop 2) then (0, 3) else (numL ((l.take 6).drop 2), 0)
theorem headBad_long (l : List UInt8) (a b : UInt8) (h : l.take 2 = [a, b]) : headBad l = (a != 181 || b != 126) := by
  match l, h with
  | x :: y :: t, h =>
    simp at h
    obtain ⟨rfl, rfl⟩ := h
    rfl
theorem take2 (l : List UInt8) (h : 2 ≤ l.length) : ∃ a b, l.take 2 = [a, b] := by
  match l, h with
  | x :: y :: t, _ => exact ⟨x, y, rfl⟩
theorem four_of (l : List UInt8) (h : l.length = 4) : ∃ a b c d, l = [a, b, c, d] := by
  match l, h with
  | [a, b, c, d], _ => exact ⟨a, b, c, d, rfl⟩
theorem take26 (l : List UInt8) (h : 6 ≤ l.length) : ∃ a b c d, (l.take 6).drop 2 = [a, b, c, d] := four_of _ (by simp; omega)
theorem take610 (l : List UInt8) (h : 10 ≤ l.length) : ∃ a b c d, (l.take 10).drop 6 = [a, b, c, d] := four_of _ (by simp; omega)
theorem payS_ok (l : List UInt8) (h : (payS l).2 = 0) : 10 + (payS l).1 ≤ l.length ∧ (payS l).1 ≤ 65536 ∧ (payS l).1 = numL ((l.take 6).drop 2) := by
  unfold payS at h ⊢
  by_cases h1 : headBad l
  · rw [if_pos h1] at h; exact absurd h (by decide)
  · rw [if_neg h1] at h ⊢
    by_cases h2 : l.length < 6
    · rw [if_pos h2] at h; exact absurd h (by decide)
    · rw [if_neg h2] at h ⊢
      by_cases h3 : 65536 < numL ((l.take 6).drop 2)
      · rw [if_pos h3] at h; exact absurd h (by decide)
      · rw [if_neg h3] at h ⊢
        by_cases h4 : l.length < 10 + numL ((l.take 6).drop 2)
        · rw [if_pos h4] at h; exact absurd h (by decide)
        · rw [if_neg h4]
          exact ⟨by simp only; omega, by simp only; omega, rfl⟩
theorem payS_bad (l : List UInt8) (h : (payS l).2 ≠ 0) : (payS l).1 = 0 := by
  unfold payS at h ⊢
  by_cases h1 : headBad l
  · rw [if_pos h1]
  · rw [if_neg h1] at h ⊢
    by_cases h2 : l.length < 6
    · rw [if_pos h2]
    · rw [if_neg h2] at h ⊢
      by_cases h3 : 65536 < numL ((l.take 6).drop 2)
      · rw [if_pos h3]
      · rw [if_neg h3] at h ⊢
        by_cases h4 : l.length < 10 + numL ((l.take 6).drop 2)
        · rw [if_pos h4]
        · rw [if_neg h4] at h; exact absurd rfl h
theorem pay_0 (w : World) :
    Calls Tryz.prog 118 #[.string ⟨#[]⟩] w fun e w' => e = .returned (.tuple #[.int .i64 0, .int .i64 3]) ∧ Below w.heap.size w w' := by
  have E0 : (⟨#[181, 126]⟩ : ByteArray).extract 0 0 = ⟨#[]⟩ := by decide +kernel
  go_enter Tryz.func118, Tryz.ntmps118
  go_wp2
  go_quiet (fail)
  go_wp2
  go_ret2
  exact ⟨rfl, Below_drewN (Below.refl _ _) _⟩
theorem pay_1no (a : UInt8) (w : World) (ha : (a == 181) = false) :
    Calls Tryz.prog 118 #[.string ⟨#[a]⟩] w fun e w' => e = .returned (.tuple #[.int .i64 0, .int .i64 5]) ∧ Below w.heap.size w w' := by
  have E0 : (⟨#[181, 126]⟩ : ByteArray).extract 0 1 = ⟨#[181]⟩ := by decide +kernel
  have E : (⟨#[a]⟩ : ByteArray).extract 0 1 = ⟨#[a]⟩ := take_toArray [a] 1
  go_enter Tryz.func118, Tryz.ntmps118
  go_wp2
  go_quiet (fail)
  go_wp2
  go_ret2
  exact ⟨rfl, Below_drewN (Below.refl _ _) _⟩
theorem pay_1ok (a : UInt8) (w : World) (ha : (a == 181) = true) :
    Calls Tryz.prog 118 #[.string ⟨#[a]⟩] w fun e w' => e = .returned (.tuple #[.int .i64 0, .int .i64 3]) ∧ Below w.heap.size w w' := by
  have E0 : (⟨#[181, 126]⟩ : ByteArray).extract 0 1 = ⟨#[181]⟩ := by decide +kernel
  have E : (⟨#[a]⟩ : ByteArray).extract 0 1 = ⟨#[a]⟩ := take_toArray [a] 1
  go_enter Tryz.func118, Tryz.ntmps118
  go_wp2
  go_quiet (fail)
  go_wp2
  go_ret2
  exact ⟨rfl, Below_drewN (Below.refl _ _) _⟩
theorem pay_2no1 (a b : UInt8) (w : World) (ha : (a == 181) = false) :
    Calls Tryz.prog 118 #[.string ⟨#[a, b]⟩] w fun e w' => e = .returned (.tuple #[.int .i64 0, .int .i64 5]) ∧ Below w.heap.size w w' := by
  have E0 : (⟨#[181, 126]⟩ : ByteArray).extract 0 2 = ⟨#[181, 126]⟩ := by decide +kernel
  have E : (⟨#[a, b]⟩ : ByteArray).extract 0 2 = ⟨#[a, b]⟩ := take_toArray [a, b] 2
  go_enter Tryz.func118, Tryz.ntmps118
  go_wp2
  go_quiet (fail)
  go_wp2
  go_ret2
  exact ⟨rfl, Below_drewN (Below.refl _ _) _⟩
theorem pay_2no2 (a b : UInt8) (w : World) (ha : (a == 181) = true) (hb : (b == 126) = false) :
    Calls Tryz.prog 118 #[.string ⟨#[a, b]⟩] w fun e w' => e = .returned (.tuple #[.int .i64 0, .int .i64 5]) ∧ Below w.heap.size w w' := by
  have E0 : (⟨#[181, 126]⟩ : ByteArray).extract 0 2 = ⟨#[181, 126]⟩ := by decide +kernel
  have E : (⟨#[a, b]⟩ : ByteArray).extract 0 2 = ⟨#[a, b]⟩ := take_toArray [a, b] 2
  go_enter Tryz.func118, Tryz.ntmps118
  go_wp2
  go_quiet (fail)
  go_wp2
  go_ret2
  exact ⟨rfl, Below_drewN (Below.refl _ _) _⟩
theorem pay_2ok (a b : UInt8) (w : World) (ha : (a == 181) = true) (hb : (b == 126) = true) :
    Calls Tryz.prog 118 #[.string ⟨#[a, b]⟩] w fun e w' => e = .returned (.tuple #[.int .i64 0, .int .i64 3]) ∧ Below w.heap.size w w' := by
  have E0 : (⟨#[181, 126]⟩ : ByteArray).extract 0 2 = ⟨#[181, 126]⟩ := by decide +kernel
  have E : (⟨#[a, b]⟩ : ByteArray).extract 0 2 = ⟨#[a, b]⟩ := take_toArray [a, b] 2
  go_enter Tryz.func118, Tryz.ntmps118
  go_wp2
  go_quiet (fail)
  go_wp2
  go_ret2
  exact ⟨rfl, Below_drewN (Below.refl _ _) _⟩
theorem pay_3no1 (l : List UInt8) (a b : UInt8) (w : World) (hl : l.length ≤ 140737488351232) (h3 : 3 ≤ l.length) (h2 : l.take 2 = [a, b]) (ha : (a == 181) = false) :
    Calls Tryz.prog 118 #[.string ⟨l.toArray⟩] w fun e w' => e = .returned (.tuple #[.int .i64 0, .int .i64 5]) ∧ Below w.heap.size w w' := by
  have L := Lib.hid (show (⟨l.toArray⟩ : ByteArray).size = l.length from rfl)
  have E := take_toArray l 2
  rw [h2] at E
  have h2' : 2 < l.length := by omega
  clear h2
  have E0 : (⟨#[181, 126]⟩ : ByteArray).extract 0 2 = ⟨#[181, 126]⟩ := by decide +kernel
  go_enter Tryz.func118, Tryz.ntmps118
  go_wp2
  go_quiet (fail)
  go_wp2
  go_ret2
  exact ⟨rfl, Below_drewN (Below.refl _ _) _⟩
theorem pay_3no2 (l : List UInt8) (a b : UInt8) (w : World) (hl : l.length ≤ 140737488351232) (h3 : 3 ≤ l.length) (h2 : l.take 2 = [a, b]) (ha : (a == 181) = true) (hb : (b == 126) = false) :
    Calls Tryz.prog 118 #[.string ⟨l.toArray⟩] w fun e w' => e = .returned (.tuple #[.int .i64 0, .int .i64 5]) ∧ Below w.heap.size w w' := by
  have L := Lib.hid (show (⟨l.toArray⟩ : ByteArray).size = l.length from rfl)
  have E := take_toArray l 2
  rw [h2] at E
  have h2' : 2 < l.length := by omega
  clear h2
  have E0 : (⟨#[181, 126]⟩ : ByteArray).extract 0 2 = ⟨#[181, 126]⟩ := by decide +kernel
  go_enter Tryz.func118, Tryz.ntmps118
  go_wp2
  go_quiet (fail)
  go_wp2
  go_ret2
  exact ⟨rfl, Below_drewN (Below.refl _ _) _⟩
theorem pay_3short (l : List UInt8) (a b : UInt8) (w : World) (hl : l.length ≤ 140737488351232) (h3 : 3 ≤ l.length) (h2 : l.take 2 = [a, b]) (ha : (a == 181) = true) (hb : (b == 126) = true) (h6 : l.length < 6) :
    Calls Tryz.prog 118 #[.string ⟨l.toArray⟩] w fun e w' => e = .returned (.tuple #[.int .i64 0, .int .i64 3]) ∧ Below w.heap.size w w' := by
  have L := Lib.hid (show (⟨l.toArray⟩ : ByteArray).size = l.length from rfl)
  have E := take_toArray l 2
  rw [h2] at E
  have h2' : 2 < l.length := by omega
  clear h2
  have E0 : (⟨#[181, 126]⟩ : ByteArray).extract 0 2 = ⟨#[181, 126]⟩ := by decide +kernel
  go_enter Tryz.func118, Tryz.ntmps118
  go_wp2
  go_quiet (fail)
  go_wp2
  go_ret2
  exact ⟨rfl, Below_drewN (Below.refl _ _) _⟩
theorem numL4 (a b c d : UInt8) : numL [a, b, c, d] < 4294967296 := by
  have := a.toNat_lt
  have := b.toNat_lt
  have := c.toNat_lt
  have := d.toNat_lt
  simp only [numL]
  omega
theorem pay_6long (l : List UInt8) (a b : UInt8) (w : World) (hl : l.length ≤ 140737488351232) (h3 : 3 ≤ l.length) (h2 : l.take 2 = [a, b]) (ha : (a == 181) = true) (hb : (b == 126) = true) (h6 : 6 ≤ l.length) (c d x y : UInt8) (h4 : (l.take 6).drop 2 = [c, d, x, y]) (hq : 65536 < numL [c, d, x, y]) :
    Calls Tryz.prog 118 #[.string ⟨l.toArray⟩] w fun e w' => e = .returned (.tuple #[.int .i64 0, .int .i64 4]) ∧ Below w.heap.size w w' := by
  have L := Lib.hid (show (⟨l.toArray⟩ : ByteArray).size = l.length from rfl)
  have E := take_toArray l 2
  rw [h2] at E
  have h2' : 2 < l.length := by omega
  clear h2
  have E0 : (⟨#[181, 126]⟩ : ByteArray).extract 0 2 = ⟨#[181, 126]⟩ := by decide +kernel
  have E2 := slice_toArray l 2 6
  rw [h4] at E2
  clear h4
  have N := fun w => Lib.hid (number_any c d x y w)
  have hn := numL4 c d x y
  generalize numL [c, d, x, y] = n at *
  go_enter Tryz.func118, Tryz.ntmps118
  go_wp2
  go_quiet (fail)
  go_wp2_with fail
  refine (N _).out.mono ?_
  rintro e w1 ⟨n1, rfl, rfl⟩
  go_wp2
  go_ret2
  exact ⟨rfl, Below_drewN (Below.refl _ _) _⟩
theorem pay_6short (l : List UInt8) (a b : UInt8) (w : World) (hl : l.length ≤ 140737488351232) (h3 : 3 ≤ l.length) (h2 : l.take 2 = [a, b]) (ha : (a == 181) = true) (hb : (b == 126) = true) (h6 : 6 ≤ l.length) (c d x y : UInt8) (h4 : (l.take 6).drop 2 = [c, d, x, y]) (hq : numL [c, d, x, y] ≤ 65536) (hr : l.length < 10 + numL [c, d, x, y]) :
    Calls Tryz.prog 118 #[.string ⟨l.toArray⟩] w fun e w' => e = .returned (.tuple #[.int .i64 0, .int .i64 3]) ∧ Below w.heap.size w w' := by
  have L := Lib.hid (show (⟨l.toArray⟩ : ByteArray).size = l.length from rfl)
  have E := take_toArray l 2
  rw [h2] at E
  have h2' : 2 < l.length := by omega
  clear h2
  have E0 : (⟨#[181, 126]⟩ : ByteArray).extract 0 2 = ⟨#[181, 126]⟩ := by decide +kernel
  have E2 := slice_toArray l 2 6
  rw [h4] at E2
  clear h4
  have N := fun w => Lib.hid (number_any c d x y w)
  have hn := numL4 c d x y
  generalize numL [c, d, x, y] = n at *
  go_enter Tryz.func118, Tryz.ntmps118
  go_wp2
  go_quiet (fail)
  go_wp2_with fail
  refine (N _).out.mono ?_
  rintro e w1 ⟨n1, rfl, rfl⟩
  go_wp2
  go_ret2
  exact ⟨rfl, Below_drewN (Below.refl _ _) _⟩
theorem pay_6ok (l : List UInt8) (a b : UInt8) (w : World) (hl : l.length ≤ 140737488351232) (h3 : 3 ≤ l.length) (h2 : l.take 2 = [a, b]) (ha : (a == 181) = true) (hb : (b == 126) = true) (h6 : 6 ≤ l.length) (c d x y : UInt8) (h4 : (l.take 6).drop 2 = [c, d, x, y]) (hq : numL [c, d, x, y] ≤ 65536) (hr : 10 + numL [c, d, x, y] ≤ l.length) :
    Calls Tryz.prog 118 #[.string ⟨l.toArray⟩] w fun e w' => e = .returned (.tuple #[.int .i64 (numL [c, d, x, y] : Nat), .int .i64 0]) ∧ Below w.heap.size w w' := by
  have L := Lib.hid (show (⟨l.toArray⟩ : ByteArray).size = l.length from rfl)
  have E := take_toArray l 2
  rw [h2] at E
  have h2' : 2 < l.length := by omega
  clear h2
  have E0 : (⟨#[181, 126]⟩ : ByteArray).extract 0 2 = ⟨#[181, 126]⟩ := by decide +kernel
  have E2 := slice_toArray l 2 6
  rw [h4] at E2
  clear h4
  have N := fun w => Lib.hid (number_any c d x y w)
  have hn := numL4 c d x y
  generalize numL [c, d, x, y] = n at *
  go_enter Tryz.func118, Tryz.ntmps118
  go_wp2
  go_quiet (fail)
  go_wp2_with fail
  refine (N _).out.mono ?_
  rintro e w1 ⟨n1, rfl, rfl⟩
  go_wp2
  go_ret2
  exact ⟨rfl, Below_drewN (Below.refl _ _) _⟩

theorem pay_any (l : List UInt8) (w : World) (hl : l.length ≤ 140737488351232) :
    Calls Tryz.prog 118 #[.string ⟨l.toArray⟩] w fun e w' => e = .returned (.tuple #[.int .i64 (payS l).1, .int .i64 (payS l).2]) ∧ Below w.heap.size w w' := by
  by_cases h3 : 3 ≤ l.length
  · obtain ⟨a, b, h2⟩ := take2 l (by omega)
    have hh := headBad_long l a b h2
    cases ha : (a == 181) with
    | false =>
      have e : payS l = (0, 5) := by unfold payS; rw [hh, if_pos (by simp [bne, ha])]
      rw [e]
      exact pay_3no1 l a b w hl h3 h2 ha
    | true =>
      cases hb : (b == 126) with
      | false =>
        have e : payS l = (0, 5) := by unfold payS; rw [hh, if_pos (by simp [bne, hb])]
        rw [e]
        exact pay_3no2 l a b w hl h3 h2 ha hb
      | true =>
        have hn : ¬ headBad l = true := by rw [hh]; simp [bne, ha, hb]
        by_cases h6 : l.length < 6
        · have e : payS l = (0, 3) := by unfold payS; rw [if_neg hn, if_pos h6]
          rw [e]
          exact pay_3short l a b w hl h3 h2 ha hb h6
        · obtain ⟨c, d, x, y, h4⟩ := take26 l (by omega)
          by_cases hq : 65536 < numL [c, d, x, y]
          · have e : payS l = (0, 4) := by unfold payS; rw [if_neg hn, if_neg h6, h4, if_pos hq]
            rw [e]
            exact pay_6long l a b w hl h3 h2 ha hb (by omega) c d x y h4 hq
          · by_cases hr : l.length < 10 + numL [c, d, x, y]
            · have e : payS l = (0, 3) := by unfold payS; rw [if_neg hn, if_neg h6, h4, if_neg hq, if_pos hr]
              rw [e]
              exact pay_6short l a b w hl h3 h2 ha hb (by omega) c d x y h4 (by omega) hr
            · have e : payS l = (numL [c, d, x, y], 0) := by unfold payS; rw [if_neg hn, if_neg h6, h4, if_neg hq, if_neg hr]
              rw [e]
              exact pay_6ok l a b w hl h3 h2 ha hb (by omega) c d x y h4 (by omega) (by omega)
  · match l, h3 with
    | [], _ => exact pay_0 w
    | [a], _ =>
      cases ha : (a == 181) with
      | false =>
        have e : payS [a] = (0, 5) := by unfold payS headBad; rw [if_pos (by simp [bne, ha])]
        rw [e]
        exact pay_1no a w ha
      | true =>
        have e : payS [a] = (0, 3) := by unfold payS headBad; rw [if_neg (by simp [bne, ha])]; rfl
        rw [e]
        exact pay_1ok a w ha
    | [a, b], _ =>
      cases ha : (a == 181) with
      | false =>
        have e : payS [a, b] = (0, 5) := by unfold payS headBad; rw [if_pos (by simp [bne, ha])]
        rw [e]
        exact pay_2no1 a b w ha
      | true =>
        cases hb : (b == 126) with
        | false =>
          have e : payS [a, b] = (0, 5) := by unfold payS headBad; rw [if_pos (by simp [bne, hb])]
          rw [e]
          exact pay_2no2 a b w ha hb
        | true =>
          have e : payS [a, b] = (0, 3) := by unfold payS headBad; rw [if_neg (by simp [bne, ha, hb])]; rfl
          rw [e]
          exact pay_2ok a b w ha hb
    | x :: y :: z :: t, h => exact absurd (by simp) h

/-- The payload, how long the frame is, the error. -/
def oneS (l : List UInt8) : List UInt8 × Nat × Nat :=
  if (payS l).2 ≠ 0 then ([], 0, (payS l).2) else
    if sumS ((l.take 6).drop 2 ++ (l.take (10 + (payS l).1)).drop 10) ≠ numL ((l.take 10).drop 6) then ([], 0, 6) else ((l.take (10 + (payS l).1)).drop 10, 10 + (payS l).1, 0)
end Go.Proofs.YtamiacmnobklaaaGreatDoor
/- Walks of one, One. -/
set_option linter.unusedVariables false
namespace Go.Proofs.YtamiacmnobklaaaGreatDoor
open Go.RowKit

theorem ret3 {a a' : ByteArray} {b b' c c' : Int} (h1 : a = a') (h2 : b = b') (h3 : c = c') : Ending.returned (.tuple #[.string a, .int .i64 b, .int .i64 c]) = .returned (.tuple #[.string a', .int .i64 b', .int .i64 c']) := by
  rw [h1, h2, h3]



end Go.Proofs.YtamiacmnobklaaaGreatDoor

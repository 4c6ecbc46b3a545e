/- Several texts in one: Crc, SumW. -/
import Derived.Test.YtamiacmnobklaaaGreatDoorBitLaw
import Derived.Test.YtamiacmnobklaaaGreatDoorRows
import Derived.Lib.Hide
import Derived.Outline
import Derived.WalkKit
import Derived.WalkLawsBesides
import Derived.WalkSpells
/- The sum of a text, as plain mathematics: a register of bits, one step a bit; xor goes through each step. Of no program. -/
set_option linter.unusedVariables false
namespace Go.Proofs.YtamiacmnobklaaaGreatDoor

def poly : Nat := 3988292384
/-- One step of the register: it loses its lowest bit, and is turned by the polynomial if that was 1. -/
def stp (r : Nat) : Nat := if r % 2 = 1 then (r / 2) ^^^ poly else r / 2
def stpN : Nat → Nat → Nat
  | 0, r => r
  | n + 1, r => stpN n (stp r)

theorem xor_half (a b : Nat) : (a ^^^ b) / 2 = a / 2 ^^^ b / 2 := by
  have := Nat.xor_div_two_pow (a := a) (b := b) (n := 1)
  simpa using this
theorem xor_mod2 (a b : Nat) : (a ^^^ b) % 2 = (a % 2 + b % 2) % 2 := by
  have h := Nat.testBit_xor a b 0
  simp only [Nat.testBit_zero] at h
  rcases Nat.mod_two_eq_zero_or_one a with ha | ha <;> rcases Nat.mod_two_eq_zero_or_one b with hb | hb <;>
    rcases Nat.mod_two_eq_zero_or_one (a ^^^ b) with hc | hc <;> simp [ha, hb, hc] at h ⊢
theorem xor_zero_eq {a b : Nat} (h : a ^^^ b = 0) : a = b := by
  have e : (a ^^^ b) ^^^ b = a := by rw [Nat.xor_assoc, Nat.xor_self, Nat.xor_zero]
  rw [← e, h, Nat.zero_xor]
theorem stp_xor (a b : Nat) : stp (a ^^^ b) = stp a ^^^ stp b := by
  unfold stp
  rw [xor_half, xor_mod2]
  rcases Nat.mod_two_eq_zero_or_one a with ha | ha <;> rcases Nat.mod_two_eq_zero_or_one b with hb | hb <;> simp only [ha, hb] <;> simp
  · rw [Nat.xor_assoc]
  · rw [Nat.xor_assoc, Nat.xor_assoc, Nat.xor_comm poly]
  · rw [Nat.xor_assoc, Nat.xor_comm poly, Nat.xor_assoc, Nat.xor_self, Nat.xor_zero]
theorem stpN_xor (n a b : Nat) : stpN n (a ^^^ b) = stpN n a ^^^ stpN n b := by
  induction n generalizing a b with
  | zero => rfl
  | succ n ih => simp only [stpN]; rw [stp_xor, ih]
theorem stpN_add (m n r : Nat) : stpN (m + n) r = stpN n (stpN m r) := by
  induction m generalizing r with
  | zero => simp [stpN]
  | succ m ih => rw [show m + 1 + n = (m + n) + 1 from by omega]; simp only [stpN]; exact ih _
theorem stp_zero : stp 0 = 0 := rfl
theorem stpN_zero (n : Nat) : stpN n 0 = 0 := by
  induction n with
  | zero => rfl
  | succ n ih => simp only [stpN]; rw [stp_zero, ih]
theorem stp_lt (r : Nat) (h : r < 4294967296) : stp r < 4294967296 := by
  unfold stp
  split
  · exact Nat.xor_lt_two_pow (n := 32) (by omega) (by decide)
  · omega
theorem stpN_lt (n r : Nat) (h : r < 4294967296) : stpN n r < 4294967296 := by
  induction n generalizing r with
  | zero => exact h
  | succ n ih => exact ih _ (stp_lt r h)
theorem stpN_shift (k x : Nat) : stpN k (x * 2 ^ k) = x := by
  induction k with
  | zero => simp [stpN]
  | succ k ih =>
    simp only [stpN]
    have e : stp (x * 2 ^ (k + 1)) = x * 2 ^ k := by
      have e2 : x * 2 ^ (k + 1) = 2 * (x * 2 ^ k) := by rw [Nat.pow_succ]; rw [Nat.mul_comm (2 ^ k) 2, Nat.mul_left_comm]
      rw [e2]
      unfold stp
      rw [if_neg (by omega)]
      omega
    rw [e, ih]
/-- A step loses nothing of a register of 32 bits. -/
theorem stp_pos (r : Nat) (h0 : r ≠ 0) (h : r < 4294967296) : stp r ≠ 0 := by
  unfold stp
  split
  · intro he
    have : r / 2 = poly := xor_zero_eq he
    simp only [poly] at this
    omega
  · omega
theorem stpN_pos (n r : Nat) (h0 : r ≠ 0) (h : r < 4294967296) : stpN n r ≠ 0 := by
  induction n generalizing r with
  | zero => exact h0
  | succ n ih => exact ih _ (stp_pos r h0 h) (stp_lt r h)

/-- What four steps make of 0 to 15. -/
def halfL : List Nat := [0, 498536548, 997073096, 651767980, 1994146192, 1802195444, 1303535960, 1342533948, 3988292384, 4027552580, 3604390888, 3412177804, 2607071920, 2262029012, 2685067896, 3183342108]
theorem half_lt : ∀ i, i < 16 → halfL.getD i 0 < 4294967296 := by decide +kernel
theorem half_is : ∀ i, i < 16 → stpN 4 i = halfL.getD i 0 := by decide +kernel
theorem split16 (r : Nat) : r = (r / 16 * 2 ^ 4) ^^^ (r % 16) := by
  have h := Nat.two_pow_add_eq_or_of_lt (i := 4) (b := r % 16) (by omega) (r / 16)
  have e : r = 2 ^ 4 * (r / 16) + r % 16 := by omega
  apply Nat.eq_of_testBit_eq
  intro i
  rw [Nat.testBit_xor]
  by_cases hi : i < 4
  · have e1 : (r / 16 * 2 ^ 4).testBit i = false := by
      rw [Nat.testBit_mul_two_pow]; simp; omega
    have e2 : (r % 16).testBit i = r.testBit i := by
      have := Nat.testBit_mod_two_pow r 4 i
      simp [hi] at this
      exact this
    rw [e1, e2]; simp
  · have e1 : (r / 16 * 2 ^ 4).testBit i = r.testBit i := by
      rw [Nat.testBit_mul_two_pow]
      have := Nat.testBit_div_two_pow r (i := i - 4) (n := 4)
      simp at this
      rw [this]
      have : 4 ≤ i := by omega
      simp [this]
    have e2 : (r % 16).testBit i = false := by
      have := Nat.testBit_mod_two_pow r 4 i
      simp [hi] at this
      exact this
    rw [e1, e2]; simp
theorem four_steps (r : Nat) : stpN 4 r = r / 16 ^^^ halfL.getD (r % 16) 0 := by
  rw [← half_is (r % 16) (by omega)]
  conv => lhs; rw [split16 r]
  rw [stpN_xor, stpN_shift]

/-- A byte is taken in. -/
def takeB (r c : Nat) : Nat := stpN 8 (r ^^^ c)
theorem takeB_lt (r c : Nat) (h : r < 4294967296) (hc : c < 256) : takeB r c < 4294967296 := stpN_lt _ _ (Nat.xor_lt_two_pow (n := 32) h (by omega))
theorem takeB_halves (r c : Nat) : takeB r c = (stpN 4 (r ^^^ c)) / 16 ^^^ halfL.getD ((stpN 4 (r ^^^ c)) % 16) 0 := by
  unfold takeB
  rw [show (8 : Nat) = 4 + 4 from rfl, stpN_add, four_steps (stpN 4 _)]
def crcN (r : Nat) (l : List UInt8) : Nat := l.foldl (fun r c => takeB r c.toNat) r
theorem crcN_nil (r : Nat) : crcN r [] = r := rfl
theorem crcN_cons (r : Nat) (c : UInt8) (l : List UInt8) : crcN r (c :: l) = crcN (takeB r c.toNat) l := rfl
theorem crcN_append (r : Nat) (a b : List UInt8) : crcN r (a ++ b) = crcN (crcN r a) b := List.foldl_append
theorem crcN_lt (r : Nat) (l : List UInt8) (h : r < 4294967296) : crcN r l < 4294967296 := by
  induction l generalizing r with
  | nil => exact h
  | cons c l ih => exact ih _ (takeB_lt r _ h c.toNat_lt)
theorem crcN_snoc (r : Nat) (l : List UInt8) (c : UInt8) : crcN r (l ++ [c]) = takeB (crcN r l) c.toNat := by rw [crcN_append]; rfl

/-- All bits turned. -/
def turn (r : Nat) : Nat := 4294967295 ^^^ r
theorem turn_lt (r : Nat) (h : r < 4294967296) : turn r < 4294967296 := by
  unfold turn
  exact Nat.xor_lt_two_pow (n := 32) (by decide) (by omega)
theorem xor_twice (k r : Nat) : k ^^^ (k ^^^ r) = r := by rw [← Nat.xor_assoc, Nat.xor_self, Nat.zero_xor]
theorem turn_def (r : Nat) : turn r = 4294967295 ^^^ r := rfl
theorem turn_turn (r : Nat) : turn (turn r) = r := by rw [turn_def, turn_def, xor_twice]
theorem turn_gen (n r : Nat) (h : r < 2 ^ n) : (2 ^ n - 1) ^^^ r = 2 ^ n - (r + 1) := by
  apply Nat.eq_of_testBit_eq
  intro i
  rw [Nat.testBit_two_pow_sub_succ h i, Nat.testBit_xor, Nat.testBit_two_pow_sub_one]
  by_cases hi : i < n
  · simp [hi]
  · have : r.testBit i = false := Nat.testBit_lt_two_pow (Nat.lt_of_lt_of_le h (Nat.pow_le_pow_right (n := 2) (by decide) (by omega : n ≤ i)))
    simp [hi, this]
theorem turn_sub (r : Nat) (h : r < 4294967296) : turn r = 4294967295 - r := by
  have h1 := turn_gen 32 r (by omega)
  have e1 : (2 : Nat) ^ 32 - 1 = 4294967295 := by decide
  rw [e1] at h1
  unfold turn
  rw [h1]
  omega
theorem turn_xor (a b : Nat) : turn (a ^^^ b) = turn a ^^^ b := by rw [turn_def, turn_def, Nat.xor_assoc]

/-- The sum that goes on from s. -/
def addS (s : Nat) (l : List UInt8) : Nat := turn (crcN (turn s) l)
def sumS (l : List UInt8) : Nat := addS 0 l
theorem addS_lt (s : Nat) (l : List UInt8) (h : s < 4294967296) : addS s l < 4294967296 := turn_lt _ (crcN_lt _ _ (turn_lt _ h))
theorem sumS_lt (l : List UInt8) : sumS l < 4294967296 := addS_lt _ _ (by decide)
theorem addS_append (s : Nat) (a b : List UInt8) : addS s (a ++ b) = addS (addS s a) b := by
  unfold addS; rw [turn_turn, crcN_append]
theorem sumS_append (a b : List UInt8) : sumS (a ++ b) = addS (sumS a) b := addS_append _ _ _

/-- The document's own way: bit by bit. -/
def bitStep (r b : Nat) : Nat := if r % 2 + b = 1 then (r / 2) ^^^ poly else r / 2
def bitsB (c : Nat) : Nat → List Nat
  | 0 => []
  | n + 1 => c % 2 :: bitsB (c / 2) n
def bitsL (l : List UInt8) : List Nat := l.flatMap fun c => bitsB c.toNat 8
theorem bitStep_stp (r b : Nat) (hb : b < 2) : bitStep r b = stp (r ^^^ b) := by
  unfold bitStep stp
  rw [xor_half, xor_mod2, show b / 2 = 0 from by omega, Nat.xor_zero]
  rcases Nat.mod_two_eq_zero_or_one r with h | h <;> (obtain rfl | rfl : b = 0 ∨ b = 1 := by omega) <;> simp [h]
theorem split2 (c : Nat) : c = (c % 2) ^^^ (c / 2 * 2) := by
  apply Nat.eq_of_testBit_eq
  intro i
  rw [Nat.testBit_xor]
  cases i with
  | zero => simp [Nat.testBit_zero]
  | succ i =>
    rw [Nat.testBit_succ, Nat.testBit_succ (c % 2), Nat.testBit_succ (c / 2 * 2), show c % 2 / 2 = 0 from by omega, show c / 2 * 2 / 2 = c / 2 from by omega]
    simp
theorem stp_double (x : Nat) : stp (x * 2) = x := by
  unfold stp
  rw [if_neg (by omega)]
  omega
theorem bits_fold (r c n : Nat) (hc : c < 2 ^ n) : (bitsB c n).foldl bitStep r = stpN n (r ^^^ c) := by
  induction n generalizing r c with
  | zero =>
    have : c = 0 := by simpa using hc
    subst this
    simp [bitsB, stpN]
  | succ n ih =>
    simp only [bitsB, List.foldl_cons, stpN]
    rw [ih _ _ (by rw [Nat.pow_succ] at hc; omega), bitStep_stp _ _ (by omega)]
    congr 1
    conv => rhs; rw [split2 c, ← Nat.xor_assoc, stp_xor, stp_double]
theorem bits_crc (r : Nat) (l : List UInt8) : (bitsL l).foldl bitStep r = crcN r l := by
  induction l generalizing r with
  | nil => rfl
  | cons c l ih =>
    simp only [bitsL, List.flatMap_cons, List.foldl_append]
    rw [bits_fold _ _ 8 c.toNat_lt]
    exact ih _
theorem bitsB_length (c n : Nat) : (bitsB c n).length = n := by
  induction n generalizing c with
  | zero => rfl
  | succ n ih => simp [bitsB, ih]
theorem bitsL_length (l : List UInt8) : (bitsL l).length = 8 * l.length := by
  induction l with
  | nil => rfl
  | cons c l ih => simp only [bitsL, List.flatMap_cons, List.length_append, bitsB_length, List.length_cons] at ih ⊢; omega
theorem bitStep_lt (r b : Nat) (h : r < 4294967296) : bitStep r b < 4294967296 := by
  unfold bitStep
  split
  · exact Nat.xor_lt_two_pow (n := 32) (by omega) (by decide)
  · omega

/-- A text as a number, the lowest byte first. -/
def numL : List UInt8 → Nat
  | [] => 0
  | c :: l => c.toNat + 256 * numL l
theorem join8 (c x : Nat) (hc : c < 256) : c + 256 * x = c ^^^ (x * 2 ^ 8) := by
  apply Nat.eq_of_testBit_eq
  intro i
  rw [Nat.testBit_xor, Nat.testBit_mul_two_pow]
  rw [show c + 256 * x = 2 ^ 8 * x + c from by omega, Nat.testBit_two_pow_mul_add x (by exact hc) i]
  by_cases hi : i < 8
  · have h8 : decide (8 ≤ i) = false := by simp; omega
    rw [h8]
    simp [hi]
  · have : c.testBit i = false := Nat.testBit_lt_two_pow (Nat.lt_of_lt_of_le hc (Nat.pow_le_pow_right (n := 2) (by decide) (by omega : 8 ≤ i)))
    have h8 : 8 ≤ i := by omega
    simp [hi, this, h8]
theorem crc_num (r : Nat) (l : List UInt8) : crcN r l = stpN (8 * l.length) (r ^^^ numL l) := by
  induction l generalizing r with
  | nil => simp [crcN_nil, stpN, numL]
  | cons c l ih =>
    rw [crcN_cons, ih, takeB, numL, join8 _ _ c.toNat_lt, List.length_cons, show 8 * (l.length + 1) = 8 + 8 * l.length from by omega, stpN_add, ← Nat.xor_assoc, stpN_xor 8 _ (numL l * 2 ^ 8), stpN_shift 8]
/-- Two sums that go on by one text part as their beginnings do, bytes 0 behind. -/
theorem crc_lin (x y : Nat) (l : List UInt8) : crcN (x ^^^ y) l = crcN x l ^^^ stpN (8 * l.length) y := by
  rw [crc_num, crc_num, ← stpN_xor]
  congr 1
  rw [Nat.xor_assoc, Nat.xor_assoc, Nat.xor_comm y]
theorem addS_lin (x y : Nat) (l : List UInt8) : addS (x ^^^ y) l = addS x l ^^^ stpN (8 * l.length) y := by
  unfold addS
  rw [turn_xor, crc_lin, turn_xor]
end Go.Proofs.YtamiacmnobklaaaGreatDoor
/- Walks of package frame's sums. -/
set_option linter.unusedVariables false
namespace Go.Proofs.YtamiacmnobklaaaGreatDoor
open Go.RowKit

/-- The table of package frame, as it was laid. -/
def Tab (w : World) : Prop := 0 < w.heap.size ∧ ∀ i, i < 16 → w.cell? ⟨0, i, none⟩ = some (.int .u32 (halfL.getD i 0 : Nat))

set_option maxHeartbeats 400000 in
theorem takeIn_any (r c : Nat) (w : World) (hr : r < 4294967296) (hc : c < 256) (ht : Tab w) :
    Calls Tryz.prog 145 #[.int .u32 r, .int .u8 c] w fun e w' => e = .returned (.int .u32 (takeB r c : Nat)) ∧ w = w' := by
  have hx := Nat.xor_lt_two_pow (n := 32) (x := r) (y := c) (by omega) (by omega)
  have e1 := u32_xor_nat r c hr (by omega)
  have t1 := takeB_halves r c
  have f1 := four_steps (r ^^^ c)
  generalize hxd : r ^^^ c = x at hx e1 t1 f1
  have c1 := ht.2 (x % 16) (by omega)
  have b1 := half_lt (x % 16) (by omega)
  have a1 := u32_low4 x (by omega)
  have e2 := u32_xor_nat (x / 16) (halfL.getD (x % 16) 0) (by omega) b1
  have hy := Nat.xor_lt_two_pow (n := 32) (x := x / 16) (y := halfL.getD (x % 16) 0) (by omega) (by omega)
  rw [f1] at t1
  generalize hyd : x / 16 ^^^ halfL.getD (x % 16) 0 = y at hy e2 t1
  generalize halfL.getD (x % 16) 0 = z1 at *
  have c2 := ht.2 (y % 16) (by omega)
  have b2 := half_lt (y % 16) (by omega)
  have a2 := u32_low4 y (by omega)
  have e3 := u32_xor_nat (y / 16) (halfL.getD (y % 16) 0) (by omega) b2
  rw [← t1] at e3
  generalize halfL.getD (y % 16) 0 = z2 at *
  generalize hu : x % 16 = u at *
  generalize hv : y % 16 = v at *
  have hu' : u < 16 := by omega
  have hv' : v < 16 := by omega
  rw [show ((x / 16 : Nat) : Int) = (x : Int) / 16 from by omega] at e2
  rw [show ((y / 16 : Nat) : Int) = (y : Int) / 16 from by omega] at e3
  have T := Lib.hid ht
  clear ht hxd hyd f1 t1 hu hv
  go_enter Tryz.func145, Tryz.ntmps145
  go_wp2
  go_ret
  exact ⟨rfl, rfl⟩

theorem Tab.below {w w' : World} (h : Tab w) (hb : Below w.heap.size w w') : Tab w' :=
  ⟨Nat.lt_of_lt_of_le h.1 hb.size, fun i hi => by rw [hb.cell (p := ⟨0, i, none⟩) h.1]; exact h.2 i hi⟩

theorem Tab.drewN {w : World} (h : Tab w) (n : Nat) : Tab (w.drewN n) := h

theorem take_snoc8 (l : List UInt8) (k : Nat) (h : k < l.length) : l.take (k + 1) = l.take k ++ [l[k]] := List.take_succ_eq_append_getElem h

set_option maxRecDepth 100000 in
set_option maxHeartbeats 400000 in
theorem add_any (sum : Int) (s : Nat) (l : List UInt8) (w : World) (hs : sum % 4294967296 = (s : Int)) (hs2 : s < 4294967296) (hl : l.length ≤ 140737488351232) (ht : Tab w) :
    Calls Tryz.prog 113 #[.int .i64 sum, .string ⟨l.toArray⟩] w fun e w' => e = .returned (.int .i64 (addS s l : Nat)) ∧ w = w' := by
  have t0 := turn_lt s hs2
  have e1 := u32_turn s hs2
  rw [← turn_def] at e1
  have Ha := Lib.hid (show turn (crcN (turn s) l) = addS s l from rfl)
  generalize turn s = r0 at t0 e1 Ha
  have L := Lib.hid (show (⟨l.toArray⟩ : ByteArray).size = l.length from rfl)
  have T := Lib.hid ht
  clear ht
  go_enter Tryz.func113, Tryz.ntmps113
  go_wp2
  go_loop [5, 12] (fun r i => ∃ k : Nat, k ≤ l.length ∧ i = .int .i64 k ∧ r = .int .u32 (crcN r0 (l.take k) : Nat)) (fun _ i => l.length - (intOf i).toNat)
  case atStart => exact ⟨0, Nat.zero_le _, rfl, rfl⟩
  case round =>
    obtain ⟨k, hk, rfl, rfl⟩ := hrel
    have hb := crcN_lt r0 (l.take k) t0
    by_cases hlt : k < l.length
    · have S := Lib.hid (crcN_snoc r0 (l.take k) l[k])
      rw [← take_snoc8 l k hlt] at S
      have C := fun w' => Lib.hid (takeIn_any (crcN r0 (l.take k)) l[k].toNat w' hb l[k].toNat_lt)
      generalize crcN r0 (l.take k) = r at *
      go_wp2_with fail
      refine ((C _).out T.out).mono ?_
      rintro e w' ⟨rfl, rfl⟩
      go_wp2
      go_round
      case rel => exact ⟨k + 1, by omega, by go_num, by rw [S.out]⟩
      case measure => simp [intOf]; omega
    · have hk2 : k = l.length := by omega
      have S := Lib.hid (show l.take k = l from List.take_of_length_le (by omega))
      rw [S.out] at hb ⊢
      have h2 := turn_lt _ hb
      have e2 := u32_turn _ hb
      rw [← turn_def] at e2
      rw [Ha.out] at h2 e2
      generalize crcN r0 l = r at *
      clear hk2
      go_wp2
      go_ret
      exact ⟨rfl, rfl⟩

theorem sum_any (l : List UInt8) (w : World) (hl : l.length ≤ 140737488351232) (ht : Tab w) :
    Calls Tryz.prog 114 #[.string ⟨l.toArray⟩] w fun e w' => e = .returned (.int .i64 (sumS l : Nat)) ∧ w = w' := by
  have C := fun w' => Lib.hid (add_any 0 0 l w' rfl (by decide) hl)
  have T := Lib.hid ht
  clear ht
  go_enter Tryz.func114, Tryz.ntmps114
  go_wp2_with fail
  refine ((C _).out T.out).mono ?_
  rintro e w' ⟨rfl, rfl⟩
  go_wp2
  go_ret
  exact ⟨rfl, rfl⟩

theorem sum_digits : sumS [49, 50, 51, 52, 53, 54, 55, 56, 57] = 3421780262 := by decide +kernel

end Go.Proofs.YtamiacmnobklaaaGreatDoor

/- Several texts in one: ShaMath, RotW, SpreadW, TakeW, StTextW, BlockLaw, OfW, RootW, PrimeMath, PrimesW, NewSumsW, SumMW, RealW. -/
import Derived.Test.YtcbodpcekjngbaaGreatBitLaw
import Derived.Test.YtcbodpcekjngbaaGreatGen
import Derived.Test.YtcbodpcekjngbaaGreatQuietLaw
import Derived.Test.YtcbodpcekjngbaaGreatRows
import Derived.BigQuiet
import Derived.Deep.QuietTactic
import Derived.IntWalk
import Derived.Lib.Hide
import Derived.Outline
import Derived.WalkKit
import Derived.WalkLawsBesides
import Derived.WalkSpells
import Derived.Test.YtcbodpcekjngbaaGreatFrame
import Derived.Test.YtcbodpcekjngbaaGreatIdealW
import Derived.Test.YtcbodpcekjngbaaGreatOwnL
import Derived.Laws.BitsAllLaws
import Derived.Laws.Rows
import Derived.Laws.Tables
import Derived.StillTailTactics
import Derived.Test.YtcbodpcekjngbaaGreatBookW
import Derived.Test.YtcbodpcekjngbaaGreatShelf
import Derived.BigRegion
import Derived.Deep.RegionLaw
import Derived.Maps.OwnSet
import Derived.Maps.Views
import Derived.Laws.CopyRow
import Derived.Laws.IdiomCopy
import Derived.Lib.SliceRun
import Derived.Deep.CutBlock
import Derived.Deep.DeepCutAuto
import Derived.Deep.LoopGhost
import Derived.OpenShut
import Derived.ProofKit
import Derived.ShutString
import Derived.SizedLaws
import Derived.SliceStrings
import Derived.Deep.Draws
import Derived.Laws.Bits128
import Derived.Laws.IdiomStrings
import Derived.Lib.AppendStr
import Derived.Test.YtcbodpcekjngbaaGreatMarkMath
/- SHA-256 over natural numbers: words, rounds, blocks, padding; and that both ways to take blocks are one. Of no program. -/
set_option linter.unusedVariables false
namespace Go.Proofs.YtcbodpcekjngbaaGreat

def low32 (n : Nat) : Nat := n % 4294967296
def rotr (x n : Nat) : Nat := x / 2 ^ n ||| x * 2 ^ (32 - n) % 4294967296
def sg0 (x : Nat) : Nat := (rotr x 7 ^^^ rotr x 18) ^^^ x / 8
def sg1 (x : Nat) : Nat := (rotr x 17 ^^^ rotr x 19) ^^^ x / 1024
def Sg1 (x : Nat) : Nat := (rotr x 6 ^^^ rotr x 11) ^^^ rotr x 25
def Sg0 (x : Nat) : Nat := (rotr x 2 ^^^ rotr x 13) ^^^ rotr x 22
def chS (e f g : Nat) : Nat := (e &&& f) ^^^ ((4294967295 - e) &&& g)
def majS (a b c : Nat) : Nat := ((a &&& b) ^^^ (a &&& c)) ^^^ (b &&& c)

/-- The eight words. -/
structure St where
  a : Nat
  b : Nat
  c : Nat
  d : Nat
  e : Nat
  f : Nat
  g : Nat
  h : Nat
def St.ok (s : St) : Prop := s.a < 4294967296 ∧ s.b < 4294967296 ∧ s.c < 4294967296 ∧ s.d < 4294967296 ∧ s.e < 4294967296 ∧ s.f < 4294967296 ∧ s.g < 4294967296 ∧ s.h < 4294967296
def St.toL (s : St) : List Nat := [s.a, s.b, s.c, s.d, s.e, s.f, s.g, s.h]
def tS (s : St) (k w : Nat) : Nat := s.h + Sg1 s.e + chS s.e s.f s.g + k + w
def uS (s : St) : Nat := Sg0 s.a + majS s.a s.b s.c
def rnd (s : St) (k w : Nat) : St := ⟨low32 (tS s k w + uS s), s.a, s.b, s.c, low32 (s.d + tS s k w), s.e, s.f, s.g⟩
def addSt (s v : St) : St := ⟨low32 (s.a + v.a), low32 (s.b + v.b), low32 (s.c + v.c), low32 (s.d + v.d), low32 (s.e + v.e), low32 (s.f + v.f), low32 (s.g + v.g), low32 (s.h + v.h)⟩
theorem low32_lt (n : Nat) : low32 n < 4294967296 := Nat.mod_lt _ (by decide)
theorem rnd_ok {s : St} (h : s.ok) (k w : Nat) : (rnd s k w).ok := by
  obtain ⟨h1, h2, h3, h4, h5, h6, h7, h8⟩ := h
  exact ⟨low32_lt _, h1, h2, h3, low32_lt _, h5, h6, h7⟩
theorem addSt_ok (s v : St) : (addSt s v).ok := ⟨low32_lt _, low32_lt _, low32_lt _, low32_lt _, low32_lt _, low32_lt _, low32_lt _, low32_lt _⟩
def rnds (K W : List Nat) (s : St) : Nat → St
  | 0 => s
  | i + 1 => rnd (rnds K W s i) (K.getD i 0) (W.getD i 0)
theorem rnds_ok {K W : List Nat} {s : St} (h : s.ok) : ∀ i, (rnds K W s i).ok
  | 0 => h
  | i + 1 => rnd_ok (rnds_ok h i) _ _

/-- One word more. -/
def nextW (w : List Nat) : Nat := low32 (w.getD (w.length - 16) 0 + sg0 (w.getD (w.length - 15) 0) + w.getD (w.length - 7) 0 + sg1 (w.getD (w.length - 2) 0))
def wordsN (w : List Nat) : Nat → List Nat
  | 0 => w
  | k + 1 => wordsN w k ++ [nextW (wordsN w k)]
theorem wordsN_length (w : List Nat) (k : Nat) : (wordsN w k).length = w.length + k := by
  induction k with
  | zero => rfl
  | succ k ih => rw [wordsN, List.length_append, ih]; simp; omega
theorem wordsN_lt (w : List Nat) (h : ∀ x ∈ w, x < 4294967296) (k : Nat) : ∀ x ∈ wordsN w k, x < 4294967296 := by
  induction k with
  | zero => exact h
  | succ k ih =>
    intro x hx
    rw [wordsN] at hx
    rcases List.mem_append.1 hx with hx | hx
    · exact ih x hx
    · simp at hx; subst hx; exact low32_lt _
/-- A block's word of the place i, of its bytes. -/
def wordB (b : List UInt8) (i : Nat) : Nat := (b.getD (4 * i) 0).toNat * 16777216 + (b.getD (4 * i + 1) 0).toNat * 65536 + (b.getD (4 * i + 2) 0).toNat * 256 + (b.getD (4 * i + 3) 0).toNat
def words16 (b : List UInt8) : Nat → List Nat
  | 0 => []
  | k + 1 => words16 b k ++ [wordB b k]
theorem wordB_lt (b : List UInt8) (i : Nat) : wordB b i < 4294967296 := by
  unfold wordB
  have h1 := (b.getD (4 * i) 0).toNat_lt
  have h2 := (b.getD (4 * i + 1) 0).toNat_lt
  have h3 := (b.getD (4 * i + 2) 0).toNat_lt
  have h4 := (b.getD (4 * i + 3) 0).toNat_lt
  omega
theorem words16_length (b : List UInt8) (k : Nat) : (words16 b k).length = k := by
  induction k with
  | zero => rfl
  | succ k ih => rw [words16, List.length_append, ih]; rfl
theorem words16_lt (b : List UInt8) (k : Nat) : ∀ x ∈ words16 b k, x < 4294967296 := by
  induction k with
  | zero => simp [words16]
  | succ k ih =>
    intro x hx
    rw [words16] at hx
    rcases List.mem_append.1 hx with hx | hx
    · exact ih x hx
    · simp at hx; subst hx; exact wordB_lt _ _
def wordsOf (b : List UInt8) : List Nat := wordsN (words16 b 16) 48
theorem wordsOf_length (b : List UInt8) : (wordsOf b).length = 64 := by unfold wordsOf; rw [wordsN_length, words16_length]
theorem wordsOf_lt (b : List UInt8) : ∀ x ∈ wordsOf b, x < 4294967296 := wordsN_lt _ (words16_lt b 16) 48
/-- A state behind a block. -/
def blkS (K : List Nat) (s : St) (b : List UInt8) : St := addSt s (rnds K (wordsOf b) s 64)
/-- A state behind the first j blocks of l. -/
def absorb (K : List Nat) (s : St) (l : List UInt8) : Nat → St
  | 0 => s
  | j + 1 => blkS K (absorb K s l j) ((l.drop (64 * j)).take 64)
theorem absorb_ok {K : List Nat} {s : St} (h : s.ok) (l : List UInt8) : ∀ j, (absorb K s l j).ok
  | 0 => h
  | j + 1 => addSt_ok _ _

/-- A number's byte of the place i, the highest of eight first. -/
def beB (n i : Nat) : UInt8 := UInt8.ofNat (n / 2 ^ (8 * (7 - i)) % 256)
def be8 (n : Nat) : List UInt8 := (List.range 8).map (beB n)
theorem be8_length (n : Nat) : (be8 n).length = 8 := by simp [be8]
def padZ (n : Nat) : Nat := (119 - n % 64) % 64
def padS (l : List UInt8) : List UInt8 := l ++ (128 :: (List.replicate (padZ l.length) 0 ++ be8 (8 * l.length)))
theorem padS_length (l : List UInt8) : (padS l).length = 64 * (l.length / 64 + if l.length % 64 < 56 then 1 else 2) := by
  unfold padS padZ
  simp only [List.length_append, List.length_cons, List.length_replicate, be8_length]
  split <;> omega
def wordBytes (n : Nat) : List UInt8 := [UInt8.ofNat (n / 16777216 % 256), UInt8.ofNat (n / 65536 % 256), UInt8.ofNat (n / 256 % 256), UInt8.ofNat (n % 256)]
def bytesOfL (l : List Nat) : List UInt8 := l.flatMap wordBytes
/-- SHA-256, over what a state begins with and what the rounds add. -/
def shaS (K : List Nat) (H : St) (l : List UInt8) : List UInt8 := bytesOfL (absorb K H (padS l) ((padS l).length / 64)).toL

theorem drop_take_append (l t : List UInt8) (j : Nat) (h : 64 * (j + 1) ≤ l.length) : ((l ++ t).drop (64 * j)).take 64 = (l.drop (64 * j)).take 64 := by
  rw [List.drop_append_of_le_length (by omega), List.take_append_of_le_length (by rw [List.length_drop]; omega)]
theorem absorb_append (K : List Nat) (s : St) (l t : List UInt8) (j : Nat) (h : 64 * j ≤ l.length) : absorb K s (l ++ t) j = absorb K s l j := by
  induction j with
  | zero => rfl
  | succ j ih => rw [absorb, absorb, ih (by omega), drop_take_append _ _ _ h]

/-- The last block(s), as the rest r of a text of n bytes makes them. -/
def last1 (r : List UInt8) (n : Nat) : List UInt8 := r ++ (128 :: (List.replicate (55 - r.length) 0 ++ be8 (8 * n)))
def last2a (r : List UInt8) : List UInt8 := r ++ (128 :: List.replicate (63 - r.length) 0)
def last2b (n : Nat) : List UInt8 := List.replicate 56 0 ++ be8 (8 * n)

theorem sha_one (K : List Nat) (H : St) (l : List UInt8) (q : Nat) (hq : q = l.length / 64) (h : l.length % 64 < 56) :
    shaS K H l = bytesOfL (blkS K (absorb K H l q) (last1 (l.drop (64 * q)) l.length)).toL := by
  have hl := padS_length l
  rw [if_pos h] at hl
  unfold shaS
  rw [hl, Nat.mul_div_cancel_left _ (by decide), ← hq, absorb]
  unfold padS
  rw [absorb_append _ _ _ _ _ (by omega)]
  congr 3
  rw [List.drop_append_of_le_length (by omega), List.take_of_length_le]
  · unfold last1
    rw [List.length_drop]
    have : padZ l.length = 55 - (l.length - 64 * q) := by unfold padZ; omega
    rw [this]
  · unfold padZ
    simp only [List.length_append, List.length_drop, List.length_cons, List.length_replicate, be8_length]
    omega

theorem sha_two (K : List Nat) (H : St) (l : List UInt8) (q : Nat) (hq : q = l.length / 64) (h : ¬ l.length % 64 < 56) :
    shaS K H l = bytesOfL (blkS K (blkS K (absorb K H l q) (last2a (l.drop (64 * q)))) (last2b l.length)).toL := by
  have hl := padS_length l
  rw [if_neg h] at hl
  unfold shaS
  rw [hl, Nat.mul_div_cancel_left _ (by decide), ← hq, absorb, absorb]
  unfold padS
  rw [absorb_append _ _ _ _ _ (by omega)]
  have hz : padZ l.length = (63 - (l.length - 64 * q)) + 56 := by unfold padZ; omega
  have e1 : (List.drop (64 * q) (l ++ 128 :: (List.replicate (padZ l.length) 0 ++ be8 (8 * l.length)))) = last2a (l.drop (64 * q)) ++ last2b l.length := by
    rw [List.drop_append_of_le_length (by omega), hz]
    unfold last2a last2b
    rw [List.length_drop, ← List.replicate_append_replicate]
    simp
  have l1 : (last2a (l.drop (64 * q))).length = 64 := by
    unfold last2a
    simp only [List.length_append, List.length_drop, List.length_cons, List.length_replicate]
    omega
  have l2 : (last2b l.length).length = 64 := by
    unfold last2b
    simp [be8_length]
  have e2 : List.drop (64 * (q + 1)) (l ++ 128 :: (List.replicate (padZ l.length) 0 ++ be8 (8 * l.length))) = last2b l.length := by
    rw [Nat.mul_add, Nat.mul_one, ← List.drop_drop, e1, List.drop_append_of_le_length (by omega), List.drop_eq_nil_of_le (by omega), List.nil_append]
  rw [e1, e2, List.take_append_of_le_length (by omega), List.take_of_length_le (by omega), List.take_of_length_le (by omega)]
end Go.Proofs.YtcbodpcekjngbaaGreat
/- Walks of the turns to the right: the program's and the document's. -/
set_option linter.unusedVariables false
namespace Go.Proofs.YtcbodpcekjngbaaGreat
open Go.RowKit

theorem rotr_lt (x n : Nat) (hx : x < 4294967296) : rotr x n < 4294967296 := by
  unfold rotr
  exact Nat.or_lt_two_pow (n := 32) (Nat.lt_of_le_of_lt (Nat.div_le_self _ _) (by omega)) (by omega)
theorem u32_or_comm (a b : Nat) : a ||| b = b ||| a := Nat.or_comm a b

theorem rot_s (n : Nat) (hn1 : 1 ≤ n) (hn2 : n ≤ 31) : bits .and .u64 (IntKind.u64.wrap (-(n : Int))) 31 = ((32 - n : Nat) : Int) := by
  rw [IntKind.wrap_u64]
  have e : (-(n : Int)) % 18446744073709551616 = ((18446744073709551616 - n : Nat) : Int) := by omega
  have := u64_and_nat (18446744073709551616 - n) 31 (by omega) (by decide)
  rw [show ((31 : Nat) : Int) = 31 from rfl] at this
  rw [e, this, show (31 : Nat) = 2 ^ 5 - 1 from rfl, and_low]
  omega

theorem ret_u32 {a b : Int} (h : a = b) : Ending.returned (.int .u32 a) = .returned (.int .u32 b) := by rw [h]
theorem rot_or (x n s : Nat) (hx : x < 4294967296) (hn1 : 1 ≤ n) (hn2 : n ≤ 31) (hs : s = 32 - n) : bits .or .u32 ((x : Int) * 2 ^ s % 4294967296) ((x : Int) / 2 ^ (32 - s)) = ((rotr x n : Nat) : Int) := by
  have h1 : (x : Int) * 2 ^ s % 4294967296 = ((x * 2 ^ s % 4294967296 : Nat) : Int) := by rw [Int.natCast_emod, Int.natCast_mul, Int.natCast_pow]; rfl
  have h2 : (x : Int) / 2 ^ (32 - s) = ((x / 2 ^ n : Nat) : Int) := by rw [show 32 - s = n by omega, Int.natCast_ediv, Int.natCast_pow]; rfl
  rw [h1, h2, u32_or_nat _ _ (by omega) (Nat.lt_of_le_of_lt (Nat.div_le_self _ _) hx)]
  unfold rotr
  rw [hs, Nat.or_comm]
set_option maxRecDepth 100000 in
theorem rot_any (x n : Nat) (w : World) (hx : x < 4294967296) (hn1 : 1 ≤ n) (hn2 : n ≤ 31) :
    Calls Tryz.prog 121 #[.int .u32 x, .int .i64 (-(n : Int))] w fun e w' => e = .returned (.int .u32 (rotr x n : Nat)) ∧ w = w' := by
  have e1 := rot_s n hn1 hn2
  obtain ⟨s, hs⟩ : ∃ s, s = 32 - n := ⟨_, rfl⟩
  rw [← hs] at e1
  have s1 : 1 ≤ s := by omega
  have s2 : s ≤ 31 := by omega
  have HS := Lib.hid hs; clear hs
  go_enter Tryz.func121, Tryz.ntmps121
  go_wp2
  go_ret
  exact ⟨ret_u32 (rot_or x n s hx hn1 hn2 HS.out), rfl⟩

theorem right_any (x n : Nat) (w : World) (hx : x < 4294967296) (hn1 : 1 ≤ n) (hn2 : n ≤ 31) :
    Calls Tryz.prog 118 #[.int .u32 x, .int .i64 n] w fun e w' => e = .returned (.int .u32 (rotr x n : Nat)) ∧ w = w' := by
  have C := fun w' => Lib.hid (rot_any x n w' hx hn1 hn2)
  go_enter Tryz.func118, Tryz.ntmps118
  go_wp2_with fail
  refine (C _).out.mono ?_
  rintro e w' ⟨rfl, rfl⟩
  go_wp2
  go_ret
  exact ⟨rfl, rfl⟩

theorem low_any (x : Int) (y : Nat) (w : World) (h : x % 4294967296 = (y : Int)) :
    Calls Tryz.prog 75 #[.int .i64 x] w fun e w' => e = .returned (.int .i64 (y : Nat)) ∧ w = w' := by
  have e1 := i64_and32 x
  rw [h] at e1
  clear h
  go_enter Tryz.func75, Tryz.ntmps75
  go_wp2
  go_ret
  exact ⟨rfl, rfl⟩

theorem i64_or_nat (a b : Nat) (ha : a < 9223372036854775808) (hb : b < 9223372036854775808) : bits .or .i64 (a : Int) (b : Int) = ((a ||| b : Nat) : Int) := by
  have hx : a ||| b < 2 ^ 63 := Nat.or_lt_two_pow (by omega) (by omega)
  show IntKind.i64.wrap ((BitVec.ofInt 64 (a : Int) ||| BitVec.ofInt 64 (b : Int)).toNat : Int) = _
  rw [BitVec.toNat_or, ofInt_i64 a (by omega), ofInt_i64 b (by omega), IntKind.wrap_i64]
  omega
theorem i64_and_nat (a b : Nat) (ha : a < 9223372036854775808) (hb : b < 9223372036854775808) : bits .and .i64 (a : Int) (b : Int) = ((a &&& b : Nat) : Int) := by
  have hx : a &&& b < 2 ^ 63 := Nat.and_lt_two_pow _ (by omega)
  show IntKind.i64.wrap ((BitVec.ofInt 64 (a : Int) &&& BitVec.ofInt 64 (b : Int)).toNat : Int) = _
  rw [BitVec.toNat_and, ofInt_i64 a (by omega), ofInt_i64 b (by omega), IntKind.wrap_i64]
  omega
theorem or_mod32 (a b : Nat) : (a ||| b) % 4294967296 = (a % 4294967296) ||| (b % 4294967296) := Nat.or_mod_two_pow (n := 32)
set_option maxRecDepth 100000 in
theorem refRot_any (x n : Nat) (w : World) (hx : x < 4294967296) (hn1 : 2 ≤ n) (hn2 : n ≤ 31) :
    Calls Tryz.prog 76 #[.int .i64 x, .int .i64 n] w fun e w' => e = .returned (.int .i64 (rotr x n : Nat)) ∧ ∃ m, w' = w.drewN m := by
  obtain ⟨s, hs⟩ : ∃ s, s = 32 - n := ⟨_, rfl⟩
  have hle : 2 ^ s ≤ 2 ^ 30 := Nat.pow_le_pow_right (by decide) (by omega)
  have hlt : x * 2 ^ s < 4611686018427387904 := by
    have : x * 2 ^ s ≤ x * 2 ^ 30 := Nat.mul_le_mul_left _ hle
    omega
  have hd : x / 2 ^ n < 4294967296 := Nat.lt_of_le_of_lt (Nat.div_le_self _ _) hx
  have hlt2 : x / 2 ^ n ||| x * 2 ^ s < 2 ^ 62 := Nat.or_lt_two_pow (by omega) (by omega)
  have e2 : bits .or .i64 ((x : Int) / 2 ^ n) (IntKind.i64.wrap ((x : Int) * 2 ^ s)) = ((x / 2 ^ n ||| x * 2 ^ s : Nat) : Int) := by
    have h1 : (x : Int) / 2 ^ n = ((x / 2 ^ n : Nat) : Int) := by rw [Int.natCast_ediv, Int.natCast_pow]; rfl
    have h2 : (x : Int) * 2 ^ s = ((x * 2 ^ s : Nat) : Int) := by rw [Int.natCast_mul, Int.natCast_pow]; rfl
    rw [h1, h2, IntWalk.i64_in _ (by omega), i64_or_nat _ _ (by omega) (by omega)]
  have e3 : ((x / 2 ^ n ||| x * 2 ^ s : Nat) : Int) % 4294967296 = ((rotr x n : Nat) : Int) := by
    have : (x / 2 ^ n ||| x * 2 ^ s) % 4294967296 = rotr x n := by
      rw [or_mod32, Nat.mod_eq_of_lt hd]
      unfold rotr
      rw [hs]
    rw [← this, Int.natCast_emod]
    rfl
  have C := fun w' => Lib.hid (low_any _ _ w' e3)
  generalize x / 2 ^ n ||| x * 2 ^ s = o at *
  clear hlt hle hd e3 hlt2
  have W1 : IntKind.i64.wrap (32 - (n : Int)) = (s : Int) := by rw [IntWalk.i64_in _ (by omega)]; omega
  have s1 : 1 ≤ s := by omega
  have s2 : s ≤ 30 := by omega
  have HS := Lib.hid hs; clear hs
  go_enter Tryz.func76, Tryz.ntmps76
  go_wp2
  go_quiet ((go_at_call 75; exact quiet_left (C _).out))
  go_wp2
  go_ret
  exact ⟨rfl, _, rfl⟩
end Go.Proofs.YtcbodpcekjngbaaGreat
/- The walk of spread: a block's words, one for each round. -/
set_option linter.unusedVariables false
namespace Go.Proofs.YtcbodpcekjngbaaGreat
open Go.RowKit

/-- Words as a block's cells. -/
def arrW (l : List Nat) : Array Value := (l.map fun x : Nat => Value.int .u32 (x : Int)).toArray
theorem arrW_size (l : List Nat) : (arrW l).size = l.length := by simp [arrW]
theorem arrW_get (l : List Nat) (k x : Nat) (h : l[k]? = some x) : (arrW l)[k]? = some (.int .u32 (x : Int)) := by
  unfold arrW
  simp [h]
theorem arrW_set (l : List Nat) (k x : Nat) : (arrW l).setIfInBounds k (.int .u32 (x : Int)) = arrW (l.set k x) := by
  unfold arrW
  rw [List.setIfInBounds_toArray, List.map_set]
theorem arrW_one (l : List Nat) : (arrW l).all (·.oneCell') = true := by
  rw [Array.all_eq_true_iff_forall_mem]
  intro v hv
  simp only [arrW, List.mem_toArray, List.mem_map] at hv
  obtain ⟨j, _, rfl⟩ := hv
  rfl
/-- The first words, and nothing behind. -/
def fillW (l : List Nat) : List Nat := l ++ List.replicate (64 - l.length) 0
theorem fillW_length (l : List Nat) (h : l.length ≤ 64) : (fillW l).length = 64 := by unfold fillW; simp; omega
theorem fillW_set (l : List Nat) (x : Nat) (h : l.length < 64) : (fillW l).set l.length x = fillW (l ++ [x]) := by
  unfold fillW
  rw [List.set_append_right _ _ (Nat.le_refl _), Nat.sub_self, show 64 - l.length = (64 - (l.length + 1)) + 1 from by omega, List.replicate_succ, List.set_cons_zero]
  simp
theorem fillW_full (l : List Nat) (h : l.length = 64) : fillW l = l := by unfold fillW; simp [h]
theorem fillW_get (l : List Nat) (k : Nat) (h : k < l.length) : (fillW l)[k]? = some l[k] := by
  unfold fillW
  rw [List.getElem?_append_left h, List.getElem?_eq_getElem h]
theorem info_w64 : (Tryz.prog.info? 105).map (·.size) = some 64 := by kernel_rfl

theorem Below_setRow {B g : Nat} {a w : World} (h : Below B a w) (hg : B ≤ g) (cs : Array Value) : Below B a (w.setRow g cs) :=
  h.trans ⟨rfl, rfl, rfl, by simp, fun k hk => setRow_other w g k cs (by omega)⟩
/-- What a block of 64 bytes holds. -/
def BlockAt (w : World) (b : Nat) (l : List UInt8) : Prop := w.heap[b]? = some (.cells (arrB l) 139 (0, 0))
theorem BlockAt.at' {w : World} {b : Nat} {l : List UInt8} (h : BlockAt w b l) (i : Nat) (hi : i < l.length) : w.cell? ⟨b, i, none⟩ = some (.int .u8 ((l[i].toNat : Nat) : Int)) := by
  rw [cell_of_row _ _ _ _ _ _ h]
  exact arrB_get _ _ _ (List.getElem?_eq_getElem hi)

theorem wordB_at (l : List UInt8) (k : Nat) (hl : l.length = 64) (hk : k < 16) : wordB l k = (l[4 * k]'(by omega)).toNat * 16777216 + (l[4 * k + 1]'(by omega)).toNat * 65536 + (l[4 * k + 2]'(by omega)).toNat * 256 + (l[4 * k + 3]'(by omega)).toNat := by
  unfold wordB
  simp only [List.getD_eq_getElem?_getD, List.getElem?_eq_getElem (show 4 * k < l.length by omega), List.getElem?_eq_getElem (show 4 * k + 1 < l.length by omega), List.getElem?_eq_getElem (show 4 * k + 2 < l.length by omega), List.getElem?_eq_getElem (show 4 * k + 3 < l.length by omega), Option.getD_some]

theorem le48 (n k : Nat) (h : n = 16 + k) (h2 : n < 64) : k + 1 ≤ 48 := by omega
theorem less64 (n : Nat) (h : n < 64) : 63 - n < 64 - n := by omega
theorem still_left {P : Program} {f : FuncId} {args : Array Value} {w : World} {v : Value} (h : Calls P f args w fun e w' => e = .returned v ∧ w = w') : Calls P f args w fun e w' => e = .returned v ∧ w' = w :=
  h.mono fun _ _ ⟨he, hm⟩ => ⟨he, hm.symm⟩
theorem u32_xor_of {a b c : Nat} (ha : a < 4294967296) (hb : b < 4294967296) (h : a ^^^ b = c) : bits .xor .u32 (a : Int) (b : Int) = (c : Int) := by rw [u32_xor_nat a b ha hb, h]
theorem xor_lt32 {a b : Nat} (ha : a < 4294967296) (hb : b < 4294967296) : a ^^^ b < 4294967296 := Nat.xor_lt_two_pow (n := 32) ha hb
theorem u32_add_of {a b c : Nat} (h : (a + b) % 4294967296 = c) : IntKind.u32.wrap ((a : Int) + (b : Int)) = (c : Int) := by rw [IntKind.wrap_u32, ← h]; omega
theorem nextW_at (ws : List Nat) (n : Nat) (hn : ws.length = n) (h16 : 16 ≤ n) : nextW ws = low32 (ws[n - 16]'(by omega) + sg0 (ws[n - 15]'(by omega)) + ws[n - 7]'(by omega) + sg1 (ws[n - 2]'(by omega))) := by
  unfold nextW
  simp only [hn, List.getD_eq_getElem?_getD, List.getElem?_eq_getElem (show n - 16 < ws.length by omega), List.getElem?_eq_getElem (show n - 15 < ws.length by omega), List.getElem?_eq_getElem (show n - 7 < ws.length by omega), List.getElem?_eq_getElem (show n - 2 < ws.length by omega), Option.getD_some]
theorem fillW_cell {w : World} {T : Nat} {l : List Nat} (h : w.heap[T]? = some (.cells (arrW (fillW l)) 105 (0, 0))) (k : Nat) (hk : k < l.length) : w.cell? ⟨T, k, none⟩ = some (.int .u32 ((l[k] : Nat) : Int)) := by
  rw [cell_of_row _ _ _ _ _ _ h]
  exact arrW_get _ _ _ (fillW_get l k hk)
theorem fillW_old {w : World} {T : Nat} {l : List Nat} (h : w.heap[T]? = some (.cells (arrW (fillW l)) 105 (0, 0))) (k : Nat) (hl : l.length ≤ 64) (hk : k < 64) : ∃ old : Nat, w.cell? ⟨T, k, none⟩ = some (.int .u32 (old : Int)) := by
  have hk' : k < (fillW l).length := by rw [fillW_length _ hl]; exact hk
  refine ⟨(fillW l)[k], ?_⟩
  rw [cell_of_row _ _ _ _ _ _ h]
  exact arrW_get _ _ _ (List.getElem?_eq_getElem hk')
theorem u32_small (x : Nat) (h : x < 4294967296) : IntKind.u32.wrap (x : Int) = (x : Int) := by rw [IntKind.wrap_u32]; omega
theorem word_or (x0 x1 x2 x3 : Nat) (h0 : x0 < 256) (h1 : x1 < 256) (h2 : x2 < 256) (h3 : x3 < 256) :
    bits .or .u32 (bits .or .u32 (bits .or .u32 (IntKind.u32.wrap (IntKind.u32.wrap (x0 : Int) * 16777216)) (IntKind.u32.wrap (IntKind.u32.wrap (x1 : Int) * 65536))) (IntKind.u32.wrap (IntKind.u32.wrap (x2 : Int) * 256))) (IntKind.u32.wrap (x3 : Int)) =
      ((x0 * 16777216 + x1 * 65536 + x2 * 256 + x3 : Nat) : Int) := by
  rw [u32_small x0 (by omega), u32_small x1 (by omega), u32_small x2 (by omega), u32_small x3 (by omega)]
  rw [show (x0 : Int) * 16777216 = ((x0 * 16777216 : Nat) : Int) by omega, show (x1 : Int) * 65536 = ((x1 * 65536 : Nat) : Int) by omega, show (x2 : Int) * 256 = ((x2 * 256 : Nat) : Int) by omega]
  rw [u32_small _ (by omega), u32_small _ (by omega), u32_small _ (by omega)]
  rw [u32_or_nat _ _ (by omega) (by omega), nat_join 24 _ _ (by omega) (by omega)]
  rw [u32_or_nat _ _ (by omega) (by omega), nat_join 16 _ _ (by omega) (by omega)]
  rw [u32_or_nat _ _ (by omega) (by omega), nat_join 8 _ _ (by omega) (by omega)]
set_option maxRecDepth 100000 in
set_option maxHeartbeats 8000000 in
theorem spread_any (b : Nat) (l : List UInt8) (w : World) (hl : l.length = 64) (hb : BlockAt w b l) :
    Calls Tryz.prog 117 #[.pointer (some ⟨b, 0, none⟩)] w fun e w' => e = .returned (.agg (arrW (wordsOf l))) ∧ Below w.heap.size w w' := by
  obtain ⟨Z, hZ, hZ2⟩ : ∃ Z : Array Value, Z = #[.int .u32 0, .int .u32 0, .int .u32 0, .int .u32 0, .int .u32 0, .int .u32 0, .int .u32 0, .int .u32 0, .int .u32 0, .int .u32 0, .int .u32 0, .int .u32 0, .int .u32 0, .int .u32 0, .int .u32 0, .int .u32 0, .int .u32 0, .int .u32 0, .int .u32 0, .int .u32 0, .int .u32 0, .int .u32 0, .int .u32 0, .int .u32 0, .int .u32 0, .int .u32 0, .int .u32 0, .int .u32 0, .int .u32 0, .int .u32 0, .int .u32 0, .int .u32 0, .int .u32 0, .int .u32 0, .int .u32 0, .int .u32 0, .int .u32 0, .int .u32 0, .int .u32 0, .int .u32 0, .int .u32 0, .int .u32 0, .int .u32 0, .int .u32 0, .int .u32 0, .int .u32 0, .int .u32 0, .int .u32 0, .int .u32 0, .int .u32 0, .int .u32 0, .int .u32 0, .int .u32 0, .int .u32 0, .int .u32 0, .int .u32 0, .int .u32 0, .int .u32 0, .int .u32 0, .int .u32 0, .int .u32 0, .int .u32 0, .int .u32 0, .int .u32 0] ∧ Z = arrW (fillW []) := ⟨_, rfl, rfl⟩
  have g1 : ((w.alloc (.cells Z 105)).alloc (.cells Z 105)).heap[w.heap.size]? = some (.cells Z 105) := heap_alloc2_old _ _ _
  have g2 : ((w.alloc (.cells Z 105)).alloc (.cells Z 105)).heap[w.heap.size + 1]? = some (.cells Z 105) := heap_alloc2_new _ _ _
  have hb0 : Below w.heap.size w ((w.alloc (.cells Z 105)).alloc (.cells Z 105)) := ((Below.refl _ _).alloc (Nat.le_refl _) _).alloc (by simp) _
  have hblt : b < w.heap.size := (Array.getElem?_eq_some_iff.1 hb).1
  have G1 := Lib.hid g1; clear g1
  have G2 := Lib.hid g2; clear g2
  have HZ := Lib.hid hZ; clear hZ
  have HZ2 := Lib.hid hZ2; clear hZ2
  have HB := Lib.hid hb; clear hb
  have L0 := Lib.hid hb0; clear hb0
  have HL := Lib.hid hl; clear hl
  go_enter Tryz.func117, Tryz.ntmps117
  go_wp2
  rw [← HZ.out]
  generalize (w.alloc (.cells Z 105)).alloc (.cells Z 105) = W2 at *
  obtain ⟨T, hT⟩ : ∃ T, T = w.heap.size + 1 := ⟨_, rfl⟩
  rw [← hT] at G2 ⊢
  have hTw : w.heap.size < T := by omega
  have HTT := Lib.hid hT; clear hT
  clear HZ
  go_loopw [8] (fun i wr => ∃ k : Nat, k ≤ 16 ∧ i = .int .i64 k ∧ wr.heap[T]? = some (.cells (arrW (fillW (words16 l k))) 105 (0, 0)) ∧ wr.heap[w.heap.size]? = some (.cells Z 105 (0, 0)) ∧ Below w.heap.size w wr) (fun i _ => 16 - (intOf i).toNat)
  case atStart => exact ⟨0, by omega, rfl, by rw [show words16 l 0 = [] from rfl, ← HZ2.out]; exact G2.out, G1.out, L0.out⟩
  case round =>
    obtain ⟨k, hk, rfl, hheap, hres, hbel⟩ := hrel
    have hwl := words16_length l k
    have Hres := Lib.hid hres; clear hres
    by_cases hlt : k < 16
    · have hbk : BlockAt wr b l := (hbel.block b hblt).trans HB.out
      have c0 := hbk.at' (4 * k) (by rw [HL.out]; omega)
      have c1 := hbk.at' (4 * k + 1) (by rw [HL.out]; omega)
      have c2 := hbk.at' (4 * k + 2) (by rw [HL.out]; omega)
      have c3 := hbk.at' (4 * k + 3) (by rw [HL.out]; omega)
      have WB := Lib.hid (wordB_at l k HL.out hlt)
      have b0 := (l[4 * k]'(by rw [HL.out]; omega)).toNat_lt
      have b1 := (l[4 * k + 1]'(by rw [HL.out]; omega)).toNat_lt
      have b2 := (l[4 * k + 2]'(by rw [HL.out]; omega)).toNat_lt
      have b3 := (l[4 * k + 3]'(by rw [HL.out]; omega)).toNat_lt
      generalize (l[4 * k]'(by rw [HL.out]; omega)).toNat = x0 at *
      generalize (l[4 * k + 1]'(by rw [HL.out]; omega)).toNat = x1 at *
      generalize (l[4 * k + 2]'(by rw [HL.out]; omega)).toNat = x2 at *
      generalize (l[4 * k + 3]'(by rw [HL.out]; omega)).toNat = x3 at *
      have i0 : IntKind.i64.wrap (4 * (k : Int)) = ((4 * k : Nat) : Int) := by rw [IntWalk.i64_in _ (by omega)]; omega
      obtain ⟨q, hq⟩ : ∃ q, q = 4 * k := ⟨_, rfl⟩
      rw [← hq] at i0 c0 c1 c2 c3
      obtain ⟨q1, hq1⟩ : ∃ q1, q1 = q + 1 := ⟨_, rfl⟩
      obtain ⟨q2, hq2⟩ : ∃ q1, q1 = q + 2 := ⟨_, rfl⟩
      obtain ⟨q3, hq3⟩ : ∃ q1, q1 = q + 3 := ⟨_, rfl⟩
      have i1 : IntKind.i64.wrap ((q : Int) + 1) = (q1 : Int) := by rw [IntWalk.i64_in _ (by omega)]; omega
      have i2 : IntKind.i64.wrap ((q : Int) + 2) = (q2 : Int) := by rw [IntWalk.i64_in _ (by omega)]; omega
      have i3 : IntKind.i64.wrap ((q : Int) + 3) = (q3 : Int) := by rw [IntWalk.i64_in _ (by omega)]; omega
      rw [← hq1] at c1
      rw [← hq2] at c2
      rw [← hq3] at c3
      have j0 : (q : Int) < 64 := by omega
      have j1 : (q1 : Int) < 64 := by omega
      have j2 : (q2 : Int) < 64 := by omega
      have j3 : (q3 : Int) < 64 := by omega
      have p0 : (0 : Int) ≤ (q : Int) := by omega
      have p1 : (0 : Int) ≤ (q1 : Int) := by omega
      have p2 : (0 : Int) ≤ (q2 : Int) := by omega
      have p3 : (0 : Int) ≤ (q3 : Int) := by omega
      have WO := word_or x0 x1 x2 x3 b0 b1 b2 b3
      rw [← WB.out] at WO
      obtain ⟨x, hx⟩ : ∃ x, wordB l k = x := ⟨_, rfl⟩
      rw [hx] at WO
      have WX := Lib.hid hx; clear hx WB
      have kk : (k : Int) < 64 := by omega
      have k0 : (0 : Int) ≤ (k : Int) := by omega
      clear hq1 hq2 hq3
      clear hq
      have hcell : wr.cell? ⟨T, k, none⟩ = some (.int .u32 (((fillW (words16 l k))[k]'(by rw [fillW_length _ (by omega)]; omega) : Nat) : Int)) := by
        rw [cell_of_row _ _ _ _ _ _ hheap]
        exact arrW_get _ _ _ (List.getElem?_eq_getElem _)
      have hfr := frozen_of_row wr T k _ _ hheap
      generalize ((fillW (words16 l k))[k]'(by rw [fillW_length _ (by omega)]; omega) : Nat) = old at *
      have Hh := Lib.hid hheap; clear hheap hbk
      have Hwl := Lib.hid hwl; clear hwl
      go_wp2
      go_still_tail 39, (by kernel_rfl)
      change wpList _ _ _ _ _ wr.drew
      go_wp2
      go_roundw
      case rel =>
        refine ⟨k + 1, by omega, by go_num, ?_, ?_, Below_drew (hbel.setCell (p := ⟨T, k, none⟩) (Nat.le_of_lt hTw) _)⟩
        · show ((wr.setCell ⟨T, k, none⟩ _).drew).heap[T]? = _
          rw [show words16 l (k + 1) = words16 l k ++ [wordB l k] from rfl, ← fillW_set _ _ (by rw [Hwl.out]; omega), Hwl.out, ← arrW_set, WX.out]
          exact heap_setCell_same wr T k _ _ _ Hh.out
        · show (wr.setCell ⟨T, k, none⟩ _).heap[w.heap.size]? = _
          rw [heap_setCell_other _ _ _ _ (by exact Nat.ne_of_lt hTw)]
          exact Hres.out
      case measure => simp [intOf]; omega
    · have hk16 : k = 16 := by omega
      have h16 : 16 ≤ k := by omega
      have hh := hheap
      rw [hk16] at hh
      have Hh := Lib.hid hh; clear hh hheap hwl
      have Hk := Lib.hid hk16; clear hk16
      go_wp2
      go_loopw [5] (fun i wr => ∃ k : Nat, k ≤ 48 ∧ i = .int .i64 ((16 + k : Nat) : Int) ∧ wr.heap[T]? = some (.cells (arrW (fillW (wordsN (words16 l 16) k))) 105 (0, 0)) ∧ wr.heap[w.heap.size]? = some (.cells Z 105 (0, 0)) ∧ Below w.heap.size w wr) (fun i _ => 64 - (intOf i).toNat)
      case atStart => exact ⟨0, by omega, rfl, Hh.out, Hres.out, hbel⟩
      case round =>
        clear hbel Hh hlt h16 Hk hk Hres
        obtain ⟨k, hk, rfl, hheap, hres, hbel⟩ := hrel
        have hwl := wordsN_length (words16 l 16) k
        rw [words16_length] at hwl
        have Hres := Lib.hid hres; clear hres
        obtain ⟨n, hn⟩ : ∃ n, n = 16 + k := ⟨_, rfl⟩
        rw [← hn] at hwl ⊢
        have hWlt := wordsN_lt _ (words16_lt l 16) k
        by_cases hlt : n < 64
        · obtain ⟨old, hcell⟩ := fillW_old hheap n (by omega) hlt
          have hfr := frozen_of_row wr T n _ _ hheap
          have c16 := fillW_cell hheap (n - 16) (by omega)
          have c15 := fillW_cell hheap (n - 15) (by omega)
          have c7 := fillW_cell hheap (n - 7) (by omega)
          have c2 := fillW_cell hheap (n - 2) (by omega)
          have NX := nextW_at (wordsN (words16 l 16) k) n hwl (by omega)
          have d16 := hWlt _ (List.getElem_mem (show n - 16 < (wordsN (words16 l 16) k).length by omega))
          have d15 := hWlt _ (List.getElem_mem (show n - 15 < (wordsN (words16 l 16) k).length by omega))
          have d7 := hWlt _ (List.getElem_mem (show n - 7 < (wordsN (words16 l 16) k).length by omega))
          have d2 := hWlt _ (List.getElem_mem (show n - 2 < (wordsN (words16 l 16) k).length by omega))
          have FS := Lib.hid (fillW_set (wordsN (words16 l 16) k) (nextW (wordsN (words16 l 16) k)) (by omega))
          generalize (wordsN (words16 l 16) k)[n - 16]'(by omega) = z16 at *
          generalize (wordsN (words16 l 16) k)[n - 15]'(by omega) = x at *
          generalize (wordsN (words16 l 16) k)[n - 7]'(by omega) = z7 at *
          generalize (wordsN (words16 l 16) k)[n - 2]'(by omega) = y at *
          have R7 := fun w' => Lib.hid (right_any x 7 w' d15 (by decide) (by decide))
          have R18 := fun w' => Lib.hid (right_any x 18 w' d15 (by decide) (by decide))
          have R17 := fun w' => Lib.hid (right_any y 17 w' d2 (by decide) (by decide))
          have R19 := fun w' => Lib.hid (right_any y 19 w' d2 (by decide) (by decide))
          have l7 := rotr_lt x 7 d15
          have l18 := rotr_lt x 18 d15
          have l17 := rotr_lt y 17 d2
          have l19 := rotr_lt y 19 d2
          unfold sg0 sg1 low32 at NX
          generalize rotr x 7 = r7 at *
          generalize rotr x 18 = r18 at *
          generalize rotr y 17 = r17 at *
          generalize rotr y 19 = r19 at *
          obtain ⟨a1, ha1⟩ : ∃ a, r7 ^^^ r18 = a := ⟨_, rfl⟩
          obtain ⟨x8, hx8⟩ : ∃ a, x / 8 = a := ⟨_, rfl⟩
          obtain ⟨s0, hs0⟩ : ∃ a, a1 ^^^ x8 = a := ⟨_, rfl⟩
          obtain ⟨a2, ha2⟩ : ∃ a, r17 ^^^ r19 = a := ⟨_, rfl⟩
          obtain ⟨y10, hy10⟩ : ∃ a, y / 1024 = a := ⟨_, rfl⟩
          obtain ⟨s1, hs1⟩ : ∃ a, a2 ^^^ y10 = a := ⟨_, rfl⟩
          rw [ha1, hx8, hs0, ha2, hy10, hs1] at NX
          obtain ⟨nx, hnx⟩ : ∃ a, nextW (wordsN (words16 l 16) k) = a := ⟨_, rfl⟩
          rw [hnx] at NX FS
          obtain ⟨m1, hm1⟩ : ∃ m, (z16 + s0) % 4294967296 = m := ⟨_, rfl⟩
          obtain ⟨m2, hm2⟩ : ∃ m, (m1 + z7) % 4294967296 = m := ⟨_, rfl⟩
          have X1 := u32_xor_of l7 l18 ha1
          have X2 := u32_xor_of (by rw [← ha1]; exact xor_lt32 l7 l18) (by omega) hs0
          have X3 := u32_xor_of l17 l19 ha2
          have X4 := u32_xor_of (by rw [← ha2]; exact xor_lt32 l17 l19) (by omega) hs1
          have A1 := u32_add_of hm1
          have A2 := u32_add_of hm2
          have A3 : IntKind.u32.wrap ((m2 : Int) + (s1 : Int)) = (nx : Int) := u32_add_of (by rw [NX]; omega)
          have x8' : (x : Int) / 8 = (x8 : Int) := by omega
          have y10' : (y : Int) / 1024 = (y10 : Int) := by omega
          have NXH := Lib.hid hnx
          clear NX ha1 hx8 hs0 ha2 hy10 hs1 hm1 hm2 hnx
          obtain ⟨n16, hn16⟩ : ∃ m, m = n - 16 := ⟨_, rfl⟩
          obtain ⟨n15, hn15⟩ : ∃ m, m = n - 15 := ⟨_, rfl⟩
          obtain ⟨n7, hn7⟩ : ∃ m, m = n - 7 := ⟨_, rfl⟩
          obtain ⟨n2, hn2⟩ : ∃ m, m = n - 2 := ⟨_, rfl⟩
          rw [← hn16] at c16
          rw [← hn15] at c15
          rw [← hn7] at c7
          rw [← hn2] at c2
          have w16 : IntKind.i64.wrap ((n : Int) - 16) = (n16 : Int) := by rw [IntWalk.i64_in _ (by omega)]; omega
          have w15 : IntKind.i64.wrap ((n : Int) - 15) = (n15 : Int) := by rw [IntWalk.i64_in _ (by omega)]; omega
          have w7 : IntKind.i64.wrap ((n : Int) - 7) = (n7 : Int) := by rw [IntWalk.i64_in _ (by omega)]; omega
          have w2 : IntKind.i64.wrap ((n : Int) - 2) = (n2 : Int) := by rw [IntWalk.i64_in _ (by omega)]; omega
          have q16 : (n16 : Int) < 64 := by omega
          have q15 : (n15 : Int) < 64 := by omega
          have q7 : (n7 : Int) < 64 := by omega
          have q2 : (n2 : Int) < 64 := by omega
          have o16 : (0 : Int) ≤ (n16 : Int) := by omega
          have o15 : (0 : Int) ≤ (n15 : Int) := by omega
          have o7 : (0 : Int) ≤ (n7 : Int) := by omega
          have o2 : (0 : Int) ≤ (n2 : Int) := by omega
          have on : (0 : Int) ≤ (n : Int) := by omega
          have qn : (n : Int) < 64 := by omega
          have HN := Lib.hid hn
          have Hwl := Lib.hid hwl
          clear hn16 hn15 hn7 hn2 hWlt hn hwl
          have Hh := Lib.hid hheap; clear hheap
          have CK := Lib.hid (fun (m : Nat) => show (wr.drewN m).cell? ⟨T, n16, none⟩ = some (.int .u32 (z16 : Int)) ∧ (wr.drewN m).cell? ⟨T, n7, none⟩ = some (.int .u32 (z7 : Int)) ∧ (wr.drewN m).cell? ⟨T, n, none⟩ = some (.int .u32 (old : Int)) ∧ (wr.drewN m).frozen? ⟨T, n, none⟩ = false ∧
              Below w.heap.size w (wr.drewN m) ∧ (wr.drewN m).heap[T]? = some (.cells (arrW (fillW (wordsN (words16 l 16) k))) 105 (0, 0)) ∧ (wr.drewN m).heap[w.heap.size]? = some (.cells Z 105 (0, 0)) from ⟨c16, c7, hcell, hfr, Below_drewN hbel m, Hh.out, Hres.out⟩)
          go_wp2
          go_quiet (fail)
          go_wp2
          obtain ⟨k16, k7, kn, kf, kb, kh, kr⟩ := CK.out nq
          have Kb := Lib.hid kb
          have Kh := Lib.hid kh
          have Kr := Lib.hid kr
          clear kb kh kr CK hbel Hh Hres c16 c7 hcell hfr c15 c2
          generalize wr.drewN nq = w5 at *
          refine wp_region_still_tail 29 (by kernel_rfl) (by kernel_rfl) ?_
          simp only [List.take_succ_cons, List.take_zero, List.drop_succ_cons, List.drop_zero]
          iterate 6 still_step
          still_call (still_left (R7 _).out)
          still_step
          still_call (still_left (R18 _).out)
          iterate 11 still_step
          still_call (still_left (R17 _).out)
          still_step
          still_call (still_left (R19 _).out)
          iterate 6 still_step
          refine wpStill_nil ?_
          change wpList _ _ _ _ _ w5.drew
          go_wp2
          go_roundw
          case rel =>
            refine ⟨k + 1, le48 n k HN.out hlt, by rw [HN.out]; go_num, ?_, ?_, Below_drew (Kb.out.setCell (p := ⟨T, n, none⟩) (Nat.le_of_lt hTw) _)⟩
            · show (w5.setCell ⟨T, n, none⟩ _).heap[T]? = _
              rw [show wordsN (words16 l 16) (k + 1) = wordsN (words16 l 16) k ++ [nextW (wordsN (words16 l 16) k)] from rfl, NXH.out, ← FS.out, Hwl.out, ← arrW_set]
              exact heap_setCell_same w5 T n _ _ _ Kh.out
            · show (w5.setCell ⟨T, n, none⟩ _).heap[w.heap.size]? = _
              rw [heap_setCell_other _ _ _ _ (by exact Nat.ne_of_lt hTw)]
              exact Kr.out
          case measure => simp [intOf]; exact less64 n hlt
        · have hk48 : k = 48 := by omega
          have hh := hheap
          rw [hk48, fillW_full _ (by rw [wordsN_length, words16_length])] at hh
          have hh2 : wr.heap[T]? = some (.cells (arrW (wordsOf l)) 105 (0, 0)) := hh
          have hzs : Z.size = 64 := by rw [HZ2.out, arrW_size]; rfl
          have AW := arrW_size (wordsOf l)
          rw [wordsOf_length] at AW
          have ONE := arrW_one (wordsOf l)
          obtain ⟨C, hC⟩ : ∃ C, arrW (wordsOf l) = C := ⟨_, rfl⟩
          rw [hC] at AW ONE hh2
          have HC := Lib.hid hC; clear hC
          have Hh := Lib.hid hh2
          have HZs := Lib.hid hzs
          have HAW := Lib.hid AW
          have HONE := Lib.hid ONE
          have hn64 : 64 ≤ n := by omega
          clear hh hh2 hheap AW hWlt hk48 hwl hzs ONE HZ2 L0 G1 G2 hn
          go_wp2_with (first
            | ((with_reducible refine wpList_load_row rfl 105 (.tmp 3) rfl T rfl _ C _ _ Hh.out Tryz.underlying105 rfl (by rw [HAW.out]; exact info_w64) ?_))
            | ((with_reducible refine wpList_store_row rfl 105 (.tmp 2) (.tmp 92) rfl w.heap.size C rfl rfl _ Z Hres.out (by rw [HAW.out]; exact info_w64) (by rw [HAW.out]; exact HZs.out) HONE.out ?_)))
          go_wp2
          exact bodyPost_ret (v := .agg C) (results_cell_row Tryz.results117 _ _ w.heap.size _ C _ _ rfl (setRow_heap _ _ _ _ _ _ Hres.out) Tryz.underlying105 rfl (by rw [HAW.out]; exact info_w64)) rfl ⟨by rw [HC.out], Below_setRow hbel (Nat.le_refl _) _⟩
end Go.Proofs.YtcbodpcekjngbaaGreat
/- The walk of takeIn: a state goes on by a block. -/
set_option linter.unusedVariables false
namespace Go.Proofs.YtcbodpcekjngbaaGreat
open Go.RowKit

/-- The block of what is the same for all texts: what a state begins with, and what the rounds add. -/
def SumsAt (w : World) (kb : Nat) (H K : List Nat) : Prop := w.heap[kb]? = some (.cells (arrW (H ++ K)) 107 (0, 0))
theorem SumsAt.add {w : World} {kb : Nat} {H K : List Nat} (h : SumsAt w kb H K) (hH : H.length = 8) (k : Nat) (hk : k < K.length) : w.cell? ⟨kb, 8 + k, none⟩ = some (.int .u32 ((K[k] : Nat) : Int)) := by
  rw [cell_of_row _ _ _ _ _ _ h]
  refine arrW_get _ _ _ ?_
  rw [List.getElem?_append_right (by omega), hH, Nat.add_sub_cancel_left, List.getElem?_eq_getElem hk]
/-- A state in a block. -/
def StAt (w : World) (nb : Nat) (l : List Nat) : Prop := w.heap[nb]? = some (.cells (arrW l) 104 (0, 0))
theorem StAt.cell {w : World} {nb : Nat} {l : List Nat} (h : StAt w nb l) (k x : Nat) (hx : l[k]? = some x) : w.cell? ⟨nb, k, none⟩ = some (.int .u32 (x : Int)) := by
  rw [cell_of_row _ _ _ _ _ _ h]
  exact arrW_get _ _ _ hx

/-! ### The last step: each word grows by its own -/
def mixL (s v : List Nat) (k : Nat) : List Nat := List.zipWith (fun x y => low32 (x + y)) (s.take k) (v.take k) ++ s.drop k
theorem mixL_zero (s v : List Nat) : mixL s v 0 = s := by simp [mixL]
theorem mixL_get (s v : List Nat) (k : Nat) (hs : s.length = 8) (hv : v.length = 8) (hk : k < 8) : (mixL s v k)[k]? = some (s[k]'(by omega)) := by
  unfold mixL
  rw [List.getElem?_append_right (by simp; omega)]
  simp only [List.length_zipWith, List.length_take, List.getElem?_drop]
  rw [show k + (k - min (min k s.length) (min k v.length)) = k by omega, List.getElem?_eq_getElem]
theorem mixL_set (s v : List Nat) (k : Nat) (hs : s.length = 8) (hv : v.length = 8) (hk : k < 8) : (mixL s v k).set k (low32 (s[k]'(by omega) + v[k]'(by omega))) = mixL s v (k + 1) := by
  unfold mixL
  rw [List.set_append_right _ _ (by simp; omega), List.length_zipWith, List.length_take, List.length_take, show k - min (min k s.length) (min k v.length) = 0 by omega]
  rw [List.take_succ_eq_append_getElem (show k < s.length by omega), List.take_succ_eq_append_getElem (show k < v.length by omega), List.zipWith_append (by simp; omega)]
  have e := List.drop_eq_getElem_cons (show k < s.length by omega)
  rw [e, List.set_cons_zero]
  simp
theorem mixL_all (s v : St) : mixL s.toL v.toL 8 = (addSt s v).toL := rfl

theorem xor_ones (e : Nat) (he : e < 4294967296) : 4294967295 ^^^ e = 4294967295 - e := by
  have h := congrArg BitVec.toNat (BitVec.allOnes_xor (x := BitVec.ofNat 32 e))
  rw [BitVec.toNat_xor, BitVec.toNat_not, BitVec.toNat_allOnes, BitVec.toNat_ofNat, Nat.mod_eq_of_lt (by omega)] at h
  exact h
theorem u32_not_of {e ne : Nat} (he : e < 4294967296) (h : 4294967295 - e = ne) : bits .xor .u32 IntKind.u32.max (e : Int) = (ne : Int) := by rw [u32_turn e he, xor_ones e he, h]
theorem u32_and_of {a b c : Nat} (ha : a < 4294967296) (hb : b < 4294967296) (h : a &&& b = c) : bits .and .u32 (a : Int) (b : Int) = (c : Int) := by rw [u32_and_nat a b ha hb, h]
theorem and_lt32 {a b : Nat} (hb : b < 4294967296) : a &&& b < 4294967296 := Nat.and_lt_two_pow (n := 32) _ hb
theorem u32_sum_of {a b c : Nat} (h : (a + b) % 4294967296 = c) : ((a : Int) + (b : Int)) % 4294967296 = (c : Int) := by omega

theorem u32_cast {x y : Nat} (h : x = y) : Value.int .u32 (x : Int) = Value.int .u32 (y : Int) := by rw [h]
/-- One round, by the numbers that the program reckons. -/
theorem rnd_of (s : St) (kk ww x1 S1 m1 an ne a2 c1 m2 m3 t y1 S0 ab ac y2 bc mj u na nn : Nat) (hx1 : rotr s.e 6 ^^^ rotr s.e 11 = x1) (hS1 : x1 ^^^ rotr s.e 25 = S1) (hm1 : (s.h + S1) % 4294967296 = m1) (han : s.e &&& s.f = an) (hne : 4294967295 - s.e = ne)
    (ha2 : ne &&& s.g = a2) (hc1 : an ^^^ a2 = c1) (hm2 : (m1 + c1) % 4294967296 = m2) (hm3 : (m2 + kk) % 4294967296 = m3) (ht : (m3 + ww) % 4294967296 = t) (hy1 : rotr s.a 2 ^^^ rotr s.a 13 = y1) (hS0 : y1 ^^^ rotr s.a 22 = S0) (hab : s.a &&& s.b = ab)
    (hac : s.a &&& s.c = ac) (hy2 : ab ^^^ ac = y2) (hbc : s.b &&& s.c = bc) (hmj : y2 ^^^ bc = mj) (hu : (S0 + mj) % 4294967296 = u) (hna : (t + u) % 4294967296 = na) (hnn : (s.d + t) % 4294967296 = nn) :
    rnd s kk ww = ⟨na, s.a, s.b, s.c, nn, s.e, s.f, s.g⟩ := by
  unfold rnd low32 tS uS Sg1 Sg0 chS majS
  rw [hx1, hS1, han, hne, ha2, hc1, hy1, hS0, hab, hac, hy2, hbc, hmj]
  congr 1 <;> omega
set_option maxRecDepth 100000 in
theorem index_at (x0 x1 x2 x3 x4 x5 x6 x7 : Nat) (k : Nat) (hk : k < 8) (y : Nat) (hy : [x0, x1, x2, x3, x4, x5, x6, x7][k]? = some y) (w : World) :
    (Instr.index 103 (.agg #[.int .u32 x0, .int .u32 x1, .int .u32 x2, .int .u32 x3, .int .u32 x4, .int .u32 x5, .int .u32 x6, .int .u32 x7]) (.int .i64 (k : Int))).run Tryz.prog w = .ok (.int .u32 (y : Int)) w := by
  have key : ∀ (k : Nat) (y : Nat), k < 8 → [x0, x1, x2, x3, x4, x5, x6, x7][k]? = some y → (Instr.index 103 (.agg #[.int .u32 x0, .int .u32 x1, .int .u32 x2, .int .u32 x3, .int .u32 x4, .int .u32 x5, .int .u32 x6, .int .u32 x7]) (.int .i64 (k : Int))).run Tryz.prog w = .ok (.int .u32 (y : Int)) w
    | 0, y, _, h => by
      have e : x0 = y := by simpa using h
      subst e
      rfl
    | 1, y, _, h => by
      have e : x1 = y := by simpa using h
      subst e
      rfl
    | 2, y, _, h => by
      have e : x2 = y := by simpa using h
      subst e
      rfl
    | 3, y, _, h => by
      have e : x3 = y := by simpa using h
      subst e
      rfl
    | 4, y, _, h => by
      have e : x4 = y := by simpa using h
      subst e
      rfl
    | 5, y, _, h => by
      have e : x5 = y := by simpa using h
      subst e
      rfl
    | 6, y, _, h => by
      have e : x6 = y := by simpa using h
      subst e
      rfl
    | 7, y, _, h => by
      have e : x7 = y := by simpa using h
      subst e
      rfl
    | k + 8, y, hk, h => by omega
  exact key k y hk hy

set_option maxRecDepth 100000 in
set_option maxHeartbeats 8000000 in
theorem takeIn_any (kb nb b : Nat) (H K : List Nat) (s : St) (l : List UInt8) (w : World) (hH : H.length = 8) (hK : K.length = 64) (hKlt : ∀ x ∈ K, x < 4294967296) (hs : s.ok) (hl : l.length = 64) (hk : SumsAt w kb H K) (hst : StAt w nb s.toL) (hb : BlockAt w b l) :
    Calls Tryz.prog 105 #[.pointer (some ⟨kb, 0, none⟩), .pointer (some ⟨nb, 0, none⟩), .pointer (some ⟨b, 0, none⟩)] w fun e w' => e = .returned (.tuple #[]) ∧ StAt w' nb (blkS K s l).toL ∧ Kept (· = nb) w w' := by
  have SP := Lib.hid (spread_any b l w hl hb)
  have HK := Lib.hid hk
  have HST := Lib.hid hst
  have hlw := wordsOf_length l
  have hWlt := wordsOf_lt l
  obtain ⟨Z, hZ, hZs⟩ : ∃ Z : Array Value, Z = #[.int .u32 0, .int .u32 0, .int .u32 0, .int .u32 0, .int .u32 0, .int .u32 0, .int .u32 0, .int .u32 0, .int .u32 0, .int .u32 0, .int .u32 0, .int .u32 0, .int .u32 0, .int .u32 0, .int .u32 0, .int .u32 0, .int .u32 0, .int .u32 0, .int .u32 0, .int .u32 0, .int .u32 0, .int .u32 0, .int .u32 0, .int .u32 0, .int .u32 0, .int .u32 0, .int .u32 0, .int .u32 0, .int .u32 0, .int .u32 0, .int .u32 0, .int .u32 0, .int .u32 0, .int .u32 0, .int .u32 0, .int .u32 0, .int .u32 0, .int .u32 0, .int .u32 0, .int .u32 0, .int .u32 0, .int .u32 0, .int .u32 0, .int .u32 0, .int .u32 0, .int .u32 0, .int .u32 0, .int .u32 0, .int .u32 0, .int .u32 0, .int .u32 0, .int .u32 0, .int .u32 0, .int .u32 0, .int .u32 0, .int .u32 0, .int .u32 0, .int .u32 0, .int .u32 0, .int .u32 0, .int .u32 0, .int .u32 0, .int .u32 0, .int .u32 0] ∧ Z.size = 64 := ⟨_, rfl, rfl⟩
  have HZ := Lib.hid hZ; clear hZ
  have HZs := Lib.hid hZs; clear hZs
  obtain ⟨W, hW⟩ : ∃ W, wordsOf l = W := ⟨_, rfl⟩
  have hBS : Hid ((blkS K s l).toL = (addSt s (rnds K W s 64)).toL) := Lib.hid (by rw [← hW]; rfl)
  rw [hW] at hlw hWlt SP
  obtain ⟨C, hC⟩ : ∃ C, arrW W = C := ⟨_, rfl⟩
  have hCs : C.size = 64 := by rw [← hC, arrW_size, hlw]
  have hC1 := arrW_one W
  rw [hC] at SP hC1
  have HCs := Lib.hid hCs
  have HC1 := Lib.hid hC1
  have HC := Lib.hid hC
  have HWlt := Lib.hid hWlt
  have Hlw := Lib.hid hlw
  have HKlt := Lib.hid hKlt
  have HHl := Lib.hid hH
  have HKl := Lib.hid hK
  have HS := Lib.hid hs
  clear hk hst hb hl hW hC hCs hC1 hWlt hlw hKlt hH hK hs
  go_enter Tryz.func105, Tryz.ntmps105
  go_wp2_with fail
  refine SP.out.mono ?_
  rintro e w1 ⟨rfl, hb1⟩
  have hnew : (w1.alloc (.cells Z 105)).heap[w1.heap.size]? = some (.cells Z 105) := heap_alloc_new _ _
  have HNEW := Lib.hid hnew; clear hnew
  go_wp2_with (first
    | (rw [← HZ.out]; (with_reducible refine wpList_store_row rfl 105 (.tmp 6) (.tmp 21) rfl w1.heap.size C rfl rfl _ Z HNEW.out (by rw [HCs.out]; exact info_w64) (by rw [HCs.out]; exact HZs.out) HC1.out ?_)))
  have WF := Lib.hid (show ∀ m : Nat, SumsAt ((((w1.alloc (.cells Z 105)).setRow w1.heap.size C)).drewN m) kb H K ∧ StAt ((((w1.alloc (.cells Z 105)).setRow w1.heap.size C)).drewN m) nb s.toL ∧
      ((((w1.alloc (.cells Z 105)).setRow w1.heap.size C)).drewN m).heap[w1.heap.size]? = some (.cells (arrW W) 105 (0, 0)) ∧ Below w.heap.size w ((((w1.alloc (.cells Z 105)).setRow w1.heap.size C)).drewN m) from fun m => by
    have b2 : Below w.heap.size w ((((w1.alloc (.cells Z 105)).setRow w1.heap.size C)).drewN m) := Below_drewN (Below_setRow (hb1.alloc hb1.size _) hb1.size C) m
    refine ⟨(b2.block kb (Array.getElem?_eq_some_iff.1 HK.out).1).trans HK.out, (b2.block nb (Array.getElem?_eq_some_iff.1 HST.out).1).trans HST.out, ?_, b2⟩
    rw [HC.out]
    exact setRow_heap _ _ _ _ _ _ HNEW.out)
  obtain ⟨q, hq⟩ : ∃ q, q = w1.heap.size := ⟨_, rfl⟩
  rw [← hq] at WF
  go_frame
  rw [← hq]
  generalize (w1.alloc (.cells Z 105)).setRow q C = W2 at *
  clear hb1 HNEW hq
  have n0 := (WF.out 0).2.1.cell 0 s.a rfl
  have n1 := (WF.out 0).2.1.cell 1 s.b rfl
  have n2 := (WF.out 0).2.1.cell 2 s.c rfl
  have n3 := (WF.out 0).2.1.cell 3 s.d rfl
  have n4 := (WF.out 0).2.1.cell 4 s.e rfl
  have n5 := (WF.out 0).2.1.cell 5 s.f rfl
  have n6 := (WF.out 0).2.1.cell 6 s.g rfl
  have n7 := (WF.out 0).2.1.cell 7 s.h rfl
  rw [World.drewN_zero] at n0 n1 n2 n3 n4 n5 n6 n7
  go_quiet (fail)
  go_wp2
  go_quiet (fail)
  go_wp2
  clear n0 n1 n2 n3 n4 n5 n6 n7
  go_loopw [7, 8, 9, 10, 11, 12, 13, 14, 54] (fun a b c d e f g h i wr => ∃ k m : Nat, k ≤ 64 ∧ i = .int .i64 k ∧ a = .int .u32 ((rnds K W s k).a : Nat) ∧ b = .int .u32 ((rnds K W s k).b : Nat) ∧ c = .int .u32 ((rnds K W s k).c : Nat) ∧ d = .int .u32 ((rnds K W s k).d : Nat) ∧
      e = .int .u32 ((rnds K W s k).e : Nat) ∧ f = .int .u32 ((rnds K W s k).f : Nat) ∧ g = .int .u32 ((rnds K W s k).g : Nat) ∧ h = .int .u32 ((rnds K W s k).h : Nat) ∧ wr = W2.drewN m) (fun _ _ _ _ _ _ _ _ i _ => 64 - (intOf i).toNat)
  case atStart => exact ⟨0, _, by omega, rfl, rfl, rfl, rfl, rfl, rfl, rfl, rfl, rfl, World.drewN_drewN _ _ _⟩
  case round =>
    obtain ⟨k, m, hk, rfl, rfl, rfl, rfl, rfl, rfl, rfl, rfl, rfl, rfl⟩ := hrel
    have hok := rnds_ok (K := K) (W := W) HS.out k
    have HR := Lib.hid (show rnds K W s (k + 1) = rnd (rnds K W s k) (K.getD k 0) (W.getD k 0) from rfl)
    by_cases hlt : k < 64
    · have ck := (WF.out m).1.add HHl.out k (by rw [HKl.out]; exact hlt)
      have cw : (W2.drewN m).cell? ⟨q, k, none⟩ = some (.int .u32 ((W[k]'(by rw [Hlw.out]; exact hlt) : Nat) : Int)) := by
        rw [cell_of_row _ _ _ _ _ _ (WF.out m).2.2.1]
        exact arrW_get _ _ _ (List.getElem?_eq_getElem _)
      have kl := HKlt.out _ (List.getElem_mem (show k < K.length by rw [HKl.out]; exact hlt))
      have wl := HWlt.out _ (List.getElem_mem (show k < W.length by rw [Hlw.out]; exact hlt))
      rw [show K.getD k 0 = K[k]'(by rw [HKl.out]; exact hlt) by simp [List.getD_eq_getElem?_getD, HKl.out, hlt], show W.getD k 0 = W[k]'(by rw [Hlw.out]; exact hlt) by simp [List.getD_eq_getElem?_getD, Hlw.out, hlt]] at HR
      generalize K[k]'(by rw [HKl.out]; exact hlt) = kk at *
      generalize W[k]'(by rw [Hlw.out]; exact hlt) = ww at *
      obtain ⟨s', hs'⟩ : ∃ s', rnds K W s k = s' := ⟨_, rfl⟩
      rw [hs'] at hok HR ⊢
      clear hs'
      obtain ⟨la, lb, lc, ld, le, lf, lg, lh⟩ := hok
      have R6 : ∀ w' : World, Hid (Calls Tryz.prog 118 #[.int .u32 (s'.e : Int), .int .i64 6] w' fun e w'' => e = .returned (.int .u32 (rotr s'.e 6 : Nat)) ∧ w' = w'') := fun w' => Lib.hid (right_any s'.e 6 w' le (by decide) (by decide))
      have R11 : ∀ w' : World, Hid (Calls Tryz.prog 118 #[.int .u32 (s'.e : Int), .int .i64 11] w' fun e w'' => e = .returned (.int .u32 (rotr s'.e 11 : Nat)) ∧ w' = w'') := fun w' => Lib.hid (right_any s'.e 11 w' le (by decide) (by decide))
      have R25 : ∀ w' : World, Hid (Calls Tryz.prog 118 #[.int .u32 (s'.e : Int), .int .i64 25] w' fun e w'' => e = .returned (.int .u32 (rotr s'.e 25 : Nat)) ∧ w' = w'') := fun w' => Lib.hid (right_any s'.e 25 w' le (by decide) (by decide))
      have R2 : ∀ w' : World, Hid (Calls Tryz.prog 118 #[.int .u32 (s'.a : Int), .int .i64 2] w' fun e w'' => e = .returned (.int .u32 (rotr s'.a 2 : Nat)) ∧ w' = w'') := fun w' => Lib.hid (right_any s'.a 2 w' la (by decide) (by decide))
      have R13 : ∀ w' : World, Hid (Calls Tryz.prog 118 #[.int .u32 (s'.a : Int), .int .i64 13] w' fun e w'' => e = .returned (.int .u32 (rotr s'.a 13 : Nat)) ∧ w' = w'') := fun w' => Lib.hid (right_any s'.a 13 w' la (by decide) (by decide))
      have R22 : ∀ w' : World, Hid (Calls Tryz.prog 118 #[.int .u32 (s'.a : Int), .int .i64 22] w' fun e w'' => e = .returned (.int .u32 (rotr s'.a 22 : Nat)) ∧ w' = w'') := fun w' => Lib.hid (right_any s'.a 22 w' la (by decide) (by decide))
      obtain ⟨x1, hx1⟩ : ∃ x, rotr s'.e 6 ^^^ rotr s'.e 11 = x := ⟨_, rfl⟩
      obtain ⟨S1, hS1⟩ : ∃ x, x1 ^^^ rotr s'.e 25 = x := ⟨_, rfl⟩
      obtain ⟨m1, hm1⟩ : ∃ x, (s'.h + S1) % 4294967296 = x := ⟨_, rfl⟩
      obtain ⟨an, han⟩ : ∃ x, s'.e &&& s'.f = x := ⟨_, rfl⟩
      obtain ⟨ne, hne⟩ : ∃ x, 4294967295 - s'.e = x := ⟨_, rfl⟩
      obtain ⟨a2, ha2⟩ : ∃ x, ne &&& s'.g = x := ⟨_, rfl⟩
      obtain ⟨c1, hc1⟩ : ∃ x, an ^^^ a2 = x := ⟨_, rfl⟩
      obtain ⟨m2, hm2⟩ : ∃ x, (m1 + c1) % 4294967296 = x := ⟨_, rfl⟩
      obtain ⟨m3, hm3⟩ : ∃ x, (m2 + kk) % 4294967296 = x := ⟨_, rfl⟩
      obtain ⟨t, ht⟩ : ∃ x, (m3 + ww) % 4294967296 = x := ⟨_, rfl⟩
      obtain ⟨y1, hy1⟩ : ∃ x, rotr s'.a 2 ^^^ rotr s'.a 13 = x := ⟨_, rfl⟩
      obtain ⟨S0, hS0⟩ : ∃ x, y1 ^^^ rotr s'.a 22 = x := ⟨_, rfl⟩
      obtain ⟨ab, hab⟩ : ∃ x, s'.a &&& s'.b = x := ⟨_, rfl⟩
      obtain ⟨ac, hac⟩ : ∃ x, s'.a &&& s'.c = x := ⟨_, rfl⟩
      obtain ⟨y2, hy2⟩ : ∃ x, ab ^^^ ac = x := ⟨_, rfl⟩
      obtain ⟨bc, hbc⟩ : ∃ x, s'.b &&& s'.c = x := ⟨_, rfl⟩
      obtain ⟨mj, hmj⟩ : ∃ x, y2 ^^^ bc = x := ⟨_, rfl⟩
      obtain ⟨u, hu⟩ : ∃ x, (S0 + mj) % 4294967296 = x := ⟨_, rfl⟩
      obtain ⟨na, hna⟩ : ∃ x, (t + u) % 4294967296 = x := ⟨_, rfl⟩
      obtain ⟨nn, hnn⟩ : ∃ x, (s'.d + t) % 4294967296 = x := ⟨_, rfl⟩
      have RO := rnd_of s' kk ww x1 S1 m1 an ne a2 c1 m2 m3 t y1 S0 ab ac y2 bc mj u na nn hx1 hS1 hm1 han hne ha2 hc1 hm2 hm3 ht hy1 hS0 hab hac hy2 hbc hmj hu hna hnn
      have HR2 := Lib.hid (HR.out.trans RO)
      have l6 := rotr_lt s'.e 6 le
      have l11 := rotr_lt s'.e 11 le
      have l25 := rotr_lt s'.e 25 le
      have l2 := rotr_lt s'.a 2 la
      have l13 := rotr_lt s'.a 13 la
      have l22 := rotr_lt s'.a 22 la
      have X1 := u32_xor_of l6 l11 hx1
      have X2 := u32_xor_of (by rw [← hx1]; exact xor_lt32 l6 l11) l25 hS1
      have A1 := u32_add_of hm1
      have N1 := u32_and_of le lf han
      have N2 : bits .xor .u32 (if IntKind.u32.signed = true then -1 else IntKind.u32.max) (s'.e : Int) = (ne : Int) := u32_not_of le hne
      have N3 := u32_and_of (show ne < 4294967296 by omega) lg ha2
      have X3 := u32_xor_of (by rw [← han]; exact and_lt32 lf) (by rw [← ha2]; exact and_lt32 lg) hc1
      have A2 := u32_add_of hm2
      have A3 := u32_add_of hm3
      have A4 := u32_add_of ht
      have Y1 := u32_xor_of l2 l13 hy1
      have Y2 := u32_xor_of (by rw [← hy1]; exact xor_lt32 l2 l13) l22 hS0
      have M1 := u32_and_of la lb hab
      have M2 := u32_and_of la lc hac
      have lab : ab < 4294967296 := by rw [← hab]; exact and_lt32 lb
      have lac : ac < 4294967296 := by rw [← hac]; exact and_lt32 lc
      have Y3 := u32_xor_of lab lac hy2
      have M3 := u32_and_of lb lc hbc
      have Y4 := u32_xor_of (by rw [← hy2]; exact xor_lt32 lab lac) (by rw [← hbc]; exact and_lt32 lc) hmj
      have U := u32_sum_of hu
      have NA := u32_sum_of hna
      have NE := u32_sum_of hnn
      clear RO HR hx1 hS1 hm1 han hne ha2 hc1 hm2 hm3 ht hy1 hS0 hab hac hy2 hbc hmj hu hna hnn lab lac
      generalize rotr s'.e 6 = r6 at *
      generalize rotr s'.e 11 = r11 at *
      generalize rotr s'.e 25 = r25 at *
      generalize rotr s'.a 2 = r2 at *
      generalize rotr s'.a 13 = r13 at *
      generalize rotr s'.a 22 = r22 at *
      generalize s'.a = sa at *
      generalize s'.b = sb at *
      generalize s'.c = sc at *
      generalize s'.d = sd at *
      generalize s'.e = se at *
      generalize s'.f = sf at *
      generalize s'.g = sg at *
      generalize s'.h = sh at *
      have kq : (k : Int) < 64 := by omega
      have k0 : (0 : Int) ≤ (k : Int) := by omega
      generalize hw5 : W2.drewN m = w5 at *
      have HW5 := Lib.hid hw5; clear hw5
      go_wp2
      go_quiet ((first | (go_at_call 118; (with_reducible exact quiet_left (R6 _).out)) | (go_at_call 118; (with_reducible exact quiet_left (R11 _).out)) | (go_at_call 118; (with_reducible exact quiet_left (R25 _).out))))
      clear X1 X2 A1 N1 N2 N3 X3 A2 A3 A4 ck cw
      go_wp2_with fail
      refine (R2 _).out.mono ?_
      rintro e w' ⟨rfl, rfl⟩
      go_wp2_with fail
      refine (R13 _).out.mono ?_
      rintro e w' ⟨rfl, rfl⟩
      go_wp2_with fail
      refine (R22 _).out.mono ?_
      rintro e w' ⟨rfl, rfl⟩
      go_wp2
      go_roundw
      case rel =>
        refine ⟨k + 1, m + nq, Nat.succ_le_of_lt hlt, by go_num, ?_⟩
        rw [HR2.out]
        exact ⟨by rw [NA], rfl, rfl, rfl, by rw [NE], rfl, rfl, rfl, by rw [← HW5.out, World.drewN_drewN]⟩
      case measure => simp [intOf]; exact less64 k hlt
    · have hk64 : k = 64 := by omega
      have h64 : 64 ≤ k := by omega
      have hST := (WF.out m).2.1
      have hBel := (WF.out m).2.2.2
      have KP := Lib.hid (show Kept (· = nb) w (W2.drewN m) from Kept.new hBel _)
      rw [← hk64] at hBS
      clear HR hk hk64
      obtain ⟨v, hv⟩ : ∃ v, rnds K W s k = v := ⟨_, rfl⟩
      rw [hv] at hBS hok ⊢
      clear hv WF
      generalize W2.drewN m = w5 at *
      rw [← mixL_zero s.toL v.toL] at hST
      have HST5 := Lib.hid hST; clear hST hBel
      go_wp2
      go_loopw [129] (fun i wr => ∃ k : Nat, k ≤ 8 ∧ i = .int .i64 k ∧ StAt wr nb (mixL s.toL v.toL k) ∧ Kept (· = nb) w wr) (fun i _ => 8 - (intOf i).toNat)
      case atStart => exact ⟨0, by omega, rfl, HST5.out, KP.out⟩
      case round =>
        obtain ⟨k, hk, rfl, hst, hkp⟩ := hrel
        have Hst := Lib.hid hst
        by_cases hlt : k < 8
        · have hx := mixL_get s.toL v.toL k rfl rfl hlt
          have hc := hst.cell k _ hx
          have hfr := frozen_of_row wr nb k _ _ hst
          have hse := mixL_set s.toL v.toL k rfl rfl hlt
          have hy : v.toL[k]? = some (v.toL[k]'hlt) := List.getElem?_eq_getElem hlt
          generalize s.toL[k]'hlt = x at *
          generalize v.toL[k]'hlt = y at *
          have IDX := index_at v.a v.b v.c v.d v.e v.f v.g v.h k hlt y hy
          obtain ⟨z, hz⟩ : ∃ z, low32 (x + y) = z := ⟨_, rfl⟩
          have A := u32_add_of hz
          rw [hz] at hse
          have HSE := Lib.hid hse
          have kq : (k : Int) < 8 := by omega
          have k0 : (0 : Int) ≤ (k : Int) := by omega
          clear hx hse hy hz hst
          go_wp2
          go_still_tail 9, (by kernel_rfl)
          change wpList _ _ _ _ _ wr.drew
          go_wp2
          go_roundw
          case rel =>
            refine ⟨k + 1, Nat.succ_le_of_lt hlt, by go_num, ?_, (hkp.setCell (p := ⟨nb, k, none⟩) (by rfl) _).drew⟩
            show ((wr.setCell ⟨nb, k, none⟩ _).drew).heap[nb]? = _
            rw [← HSE.out, ← arrW_set]
            exact heap_setCell_same wr nb k _ _ _ Hst.out
          case measure => simp [intOf]; exact (by omega : 7 - k < 8 - k)
        · obtain rfl : k = 8 := by omega
          have hB := hBS.out
          rw [mixL_all, ← hB] at hst
          clear hB
          go_wp2
          go_end0
          exact ⟨rfl, hst, hkp⟩
end Go.Proofs.YtcbodpcekjngbaaGreat
/- The walk of text: a state as bytes. -/
set_option linter.unusedVariables false
namespace Go.Proofs.YtcbodpcekjngbaaGreat
open Go.RowKit

def fillB (l : List UInt8) : List UInt8 := l ++ List.replicate (32 - l.length) 0
theorem fillB_length (l : List UInt8) (h : l.length ≤ 32) : (fillB l).length = 32 := by unfold fillB; simp; omega
theorem fillB_set (l : List UInt8) (x : UInt8) (h : l.length < 32) : (fillB l).set l.length x = fillB (l ++ [x]) := by
  unfold fillB
  rw [List.set_append_right _ _ (Nat.le_refl _), Nat.sub_self, show 32 - l.length = (32 - (l.length + 1)) + 1 from by omega, List.replicate_succ, List.set_cons_zero]
  simp
theorem fillB_full (l : List UInt8) (h : l.length = 32) : fillB l = l := by unfold fillB; simp [h]
/-- The bytes of the first i words, and j of the next one. -/
def partB (s : List Nat) (i j : Nat) : List UInt8 := bytesOfL (s.take i) ++ (wordBytes (s.getD i 0)).take j
theorem bytesOfL_length (s : List Nat) : (bytesOfL s).length = 4 * s.length := by
  induction s with
  | nil => rfl
  | cons x s ih => unfold bytesOfL at ih ⊢; rw [List.flatMap_cons, List.length_append, ih]; simp [wordBytes]; omega
theorem partB_length (s : List Nat) (i j : Nat) (hi : i ≤ s.length) (hj : j ≤ 4) : (partB s i j).length = 4 * i + j := by
  unfold partB
  rw [List.length_append, bytesOfL_length, List.length_take, List.length_take]
  simp [wordBytes]; omega
theorem wordBytes_get (x j : Nat) (hj : j < 4) : (wordBytes x)[j]? = some (UInt8.ofNat (x / 2 ^ (24 - 8 * j) % 256)) := by
  match j, hj with
  | 0, _ => rfl
  | 1, _ => rfl
  | 2, _ => rfl
  | 3, _ => simp [wordBytes]
theorem partB_step (s : List Nat) (i j x : Nat) (hj : j < 4) (hx : s.getD i 0 = x) : partB s i (j + 1) = partB s i j ++ [UInt8.ofNat (x / 2 ^ (24 - 8 * j) % 256)] := by
  unfold partB
  rw [List.append_assoc, hx]
  congr 1
  have h := wordBytes_get x j hj
  rw [List.take_add_one, h]
  rfl
theorem partB_next (s : List Nat) (i : Nat) (hi : i < s.length) : partB s i 4 = partB s (i + 1) 0 := by
  unfold partB
  rw [List.take_zero, List.append_nil, List.take_succ_eq_append_getElem hi]
  unfold bytesOfL
  rw [List.flatMap_append, List.flatMap_cons, List.flatMap_nil, List.append_nil]
  congr 1
  rw [List.take_of_length_le (by simp [wordBytes])]
  congr 1
  simp [List.getD_eq_getElem?_getD, hi]
theorem partB_all (s : List Nat) (n : Nat) (hn : s.length = n) : partB s n 0 = bytesOfL s := by
  unfold partB
  rw [List.take_zero, List.append_nil, List.take_of_length_le (by omega)]
theorem byte_val (x e : Nat) : ((x : Int) / 2 ^ e % 256) = (((UInt8.ofNat (x / 2 ^ e % 256)).toNat : Nat) : Int) := by
  simp only [UInt8.toNat_ofNat']
  rw [show (256 : Nat) = 2 ^ 8 from rfl, Nat.mod_mod_of_dvd _ (by decide), Int.natCast_emod, Int.natCast_ediv, Int.natCast_pow]
  rfl

set_option maxRecDepth 100000 in
set_option maxHeartbeats 4000000 in
theorem text_any (nb : Nat) (s : List Nat) (w : World) (hs : s.length = 8) (hst : StAt w nb s) :
    Calls Tryz.prog 106 #[.pointer (some ⟨nb, 0, none⟩)] w fun e w' => e = .returned (.string ⟨(bytesOfL s).toArray⟩) ∧ Below w.heap.size w w' := by
  obtain ⟨Z, hZ, hZ2⟩ : ∃ Z : Array Value, Z = #[.int .u8 0, .int .u8 0, .int .u8 0, .int .u8 0, .int .u8 0, .int .u8 0, .int .u8 0, .int .u8 0, .int .u8 0, .int .u8 0, .int .u8 0, .int .u8 0, .int .u8 0, .int .u8 0, .int .u8 0, .int .u8 0, .int .u8 0, .int .u8 0, .int .u8 0, .int .u8 0, .int .u8 0, .int .u8 0, .int .u8 0, .int .u8 0, .int .u8 0, .int .u8 0, .int .u8 0, .int .u8 0, .int .u8 0, .int .u8 0, .int .u8 0, .int .u8 0] ∧ Z = arrB (fillB []) := ⟨_, rfl, rfl⟩
  have hb0 : Below w.heap.size w (w.alloc (.cells Z 143)) := (Below.refl _ _).alloc (Nat.le_refl _) _
  have g1 : (w.alloc (.cells Z 143)).heap[w.heap.size]? = some (.cells Z 143) := heap_alloc_new _ _
  have hnb : nb < w.heap.size := (Array.getElem?_eq_some_iff.1 hst).1
  have HZ := Lib.hid hZ; clear hZ
  have G1 : Hid ((w.alloc (.cells Z 143)).heap[w.heap.size]? = some (.cells (arrB (fillB (partB s 0 0))) 143)) := Lib.hid (by rw [show partB s 0 0 = [] from rfl, ← hZ2]; exact g1)
  have L0 := Lib.hid hb0
  have HST := Lib.hid hst
  have HL := Lib.hid hs
  clear g1 hb0 hst hs hZ2
  go_enter Tryz.func106, Tryz.ntmps106
  go_wp2
  rw [← HZ.out]
  generalize w.alloc (.cells Z 143) = W0 at *
  clear HZ
  go_loopw [8, 14] (fun i _ wr => ∃ k : Nat, k ≤ 8 ∧ i = .int .i64 k ∧ wr.heap[w.heap.size]? = some (.cells (arrB (fillB (partB s k 0))) 143 (0, 0)) ∧ Below w.heap.size w wr) (fun i _ _ => 8 - (intOf i).toNat)
  case atStart => exact ⟨0, by omega, rfl, G1.out, L0.out⟩
  case round =>
    obtain ⟨k, hk, rfl, hheap, hbel⟩ := hrel
    by_cases hlt : k < 8
    · have hks : k < s.length := by rw [HL.out]; exact hlt
      have hst : StAt wr nb s := (hbel.block nb hnb).trans HST.out
      have hc := hst.cell k _ (List.getElem?_eq_getElem hks)
      have hx : s.getD k 0 = s[k] := by simp [List.getD_eq_getElem?_getD, hks]
      have NX := Lib.hid (partB_next s k hks)
      have PL := Lib.hid (fun j hj => partB_length s k j (Nat.le_of_lt hks) hj)
      have PS := Lib.hid (fun j hj => partB_step s k j _ hj hx)
      generalize s[k] = x at *
      have kq : (k : Int) < 8 := by omega
      have k0 : (0 : Int) ≤ (k : Int) := by omega
      have CK := Lib.hid (fun m : Nat => show (wr.drewN m).heap[w.heap.size]? = some (.cells (arrB (fillB (partB s k 0))) 143 (0, 0)) ∧ Below w.heap.size w (wr.drewN m) from ⟨hheap, Below_drewN hbel m⟩)
      clear hst hx hks hheap hbel G1 L0
      go_wp2
      go_quiet (fail)
      go_wp2
      have CK2 := Lib.hid (CK.out nq)
      clear CK hc
      generalize wr.drewN nq = w5 at *
      go_loopw [14] (fun j wr => ∃ q : Nat, q ≤ 4 ∧ j = .int .i64 q ∧ wr.heap[w.heap.size]? = some (.cells (arrB (fillB (partB s k q))) 143 (0, 0)) ∧ Below w.heap.size w wr) (fun j _ => 4 - (intOf j).toNat)
      case atStart => exact ⟨0, by omega, rfl, CK2.out.1, CK2.out.2⟩
      case round =>
        obtain ⟨q, hq, rfl, hheap, hbel⟩ := hrel
        by_cases hq4 : q < 4
        · have hpl := PL.out q (by omega)
          obtain ⟨at', hat⟩ : ∃ a, a = 4 * k + q := ⟨_, rfl⟩
          rw [← hat] at hpl
          have hlen32 : (fillB (partB s k q)).length = 32 := fillB_length _ (by omega)
          have hcell : w5 = w5 := rfl
          have hold : wr.cell? ⟨w.heap.size, at', none⟩ = some (.int .u8 ((((fillB (partB s k q))[at']'(by rw [hlen32]; omega)).toNat : Nat) : Int)) := by
            rw [cell_of_row _ _ _ _ _ _ hheap]
            exact arrB_get _ _ _ (List.getElem?_eq_getElem _)
          have hfr := frozen_of_row wr w.heap.size at' _ _ hheap
          generalize (((fillB (partB s k q))[at']'(by rw [hlen32]; omega)).toNat : Nat) = old at *
          have FS := Lib.hid (fillB_set (partB s k q) (UInt8.ofNat (x / 2 ^ (24 - 8 * q) % 256)) (by omega))
          have BV := Lib.hid (byte_val x (24 - 8 * q))
          have Hpl := Lib.hid hpl
          have Hh := Lib.hid hheap
          have e1 : (4 : Int) * (k : Int) + (q : Int) = (at' : Int) := by omega
          have hat32 : at' < 32 := by omega
          have aq : (at' : Int) < 32 := by omega
          have a0 : (0 : Int) ≤ (at' : Int) := by omega
          have HAT := Lib.hid hat
          clear hpl hlen32 hcell hheap hat
          go_wp2
          go_roundw
          case rel =>
            refine ⟨q + 1, by omega, by go_num, ?_, hbel.setCell (by exact Nat.le_refl _) _⟩
            rw [BV.out, heap_setCell_same wr w.heap.size at' _ _ _ Hh.out, (PS.out q hq4), ← FS.out, ← arrB_set, Hpl.out]
          case measure => simp [intOf]; omega
        · have hq4' : q = 4 := by omega
          have hh := hheap
          rw [hq4', NX.out] at hh
          have Hh := Lib.hid hh
          have h4 : 4 ≤ q := by omega
          clear hh hheap hq4'
          go_wp2
          go_roundw
          case rel => exact ⟨k + 1, by omega, by go_num, Hh.out, hbel⟩
          case measure => simp [intOf]; omega
    · have hk8 : k = 8 := by omega
      have h8 : 8 ≤ k := by omega
      have hbl := bytesOfL_length s
      rw [HL.out] at hbl
      have hh := hheap
      rw [hk8, partB_all s 8 HL.out, fillB_full _ hbl] at hh
      have Hc := Lib.hid (fun (j : Nat) (hj : j < 32) => show wr.cell? ⟨w.heap.size, j, none⟩ = some (.int .u8 ((((bytesOfL s)[j]'(by rw [hbl]; exact hj)).toNat : Nat) : Int)) by
        rw [cell_of_row _ _ _ _ _ _ hh]
        exact arrB_get _ _ _ (List.getElem?_eq_getElem _))
      have hcv : ∀ c, (convert 73 9 (.slice (some ⟨w.heap.size, 0, none⟩) 32 c)).run Tryz.prog wr = .ok (.string ⟨(bytesOfL s).toArray⟩) wr := fun c => by
        have := run_convert_bytes_back wr 73 9 5 ⟨w.heap.size, 0, none⟩ c (bytesOfL s) Tryz.underlying73 Tryz.underlying5 Tryz.underlying9 (fun j hj => by
          have e1 : (⟨w.heap.size, 0, none⟩ : Addr).add j = ⟨w.heap.size, 0 + j, none⟩ := by unfold Addr.add; split <;> simp_all
          rw [e1, Nat.zero_add]
          exact Hc.out j (by simpa [hbl] using hj))
        rw [hbl] at this
        exact this
      clear hh hheap hbl hk8 G1 Hc
      go_wp2
      go_ret
      exact ⟨rfl, hbel⟩
end Go.Proofs.YtcbodpcekjngbaaGreat
/- copy and clear on a block of 64 bytes, as laws for the walk. -/
set_option linter.unusedVariables false
namespace Go.Proofs.YtcbodpcekjngbaaGreat
open Go.RowKit

theorem arrB_toList (l : List UInt8) : (arrB l).toList = cellsOf l := rfl
theorem cellsOf_take (l : List UInt8) (n : Nat) : (cellsOf l).take n = cellsOf (l.take n) := by simp [cellsOf, List.map_take]
theorem cellsOf_drop (l : List UInt8) (n : Nat) : (cellsOf l).drop n = cellsOf (l.drop n) := by simp [cellsOf, List.map_drop]
theorem cellsOf_one (l : List UInt8) : ∀ v ∈ cellsOf l, v.oneCell' = true := by
  intro v hv
  simp only [cellsOf, List.mem_map] at hv
  obtain ⟨b, _, rfl⟩ := hv
  rfl
theorem Kept.setRow {M : Nat → Prop} {a w : World} (h : Kept M a w) {g : Nat} (hg : M g) (cs : Array Value) : Kept M a (w.setRow g cs) :=
  h.trans ⟨rfl, rfl, rfl, by simp, fun k hk hm => setRow_other w g k cs (fun e => hm (e ▸ hg))⟩
theorem Kept.setCells {M : Nat → Prop} {a : World} {g : Nat} (hg : M g) : ∀ (vs : List Value) (o : Nat) (w : World), Kept M a w → Kept M a (w.setCells g o vs)
  | [], _, _, h => h
  | v :: r, o, w, h => Kept.setCells hg r (o + 1) _ (h.setCell (p := ⟨g, o, none⟩) hg v)
/-- Bytes set from a place on. -/
def setsB : List UInt8 → Nat → List UInt8 → List UInt8
  | l, _, [] => l
  | l, o, x :: r => setsB (l.set o x) (o + 1) r
theorem setsB_append (vs : List UInt8) : ∀ (a b : List UInt8), vs.length = b.length → setsB (a ++ b) a.length vs = a ++ vs := by
  induction vs with
  | nil => intro a b h; simp at h; have : b = [] := List.eq_nil_of_length_eq_zero h.symm; subst this; simp [setsB]
  | cons x r ih =>
    intro a b h
    match b, h with
    | y :: b', h =>
      rw [setsB, List.set_append_right _ _ (Nat.le_refl _), Nat.sub_self, List.set_cons_zero]
      have := ih (a ++ [x]) b' (by simpa using h)
      simp only [List.length_append, List.length_cons, List.length_nil, Nat.zero_add, List.append_assoc, List.cons_append, List.nil_append] at this
      exact this
theorem BlockAt.setCells {g : Nat} : ∀ (vs : List UInt8) (o : Nat) (l : List UInt8) (w : World), BlockAt w g l → BlockAt (w.setCells g o (cellsOf vs)) g (setsB l o vs)
  | [], _, _, _, h => h
  | x :: r, o, l, w, h => by
    refine BlockAt.setCells r (o + 1) (l.set o x) _ ?_
    unfold BlockAt
    rw [← arrB_set]
    exact heap_setCell_same w g o _ _ _ h
theorem cellsOf_zeros (n : Nat) : cellsOf (List.replicate n 0) = List.replicate n (Value.int .u8 0) := by
  unfold cellsOf; rw [List.map_replicate]; rfl

theorem u8_size : (Tryz.prog.info? 5).map (·.size) = some 1 := by kernel_rfl
theorem u8_zero (w : World) : (zeroValue 5).run Tryz.prog w = .ok (.int .u8 0) w := by kernel_rfl

/-- 'copy(block[:], l)': as many bytes as there are, at most 64. -/
theorem run_copy_block (w : World) (ty : TypeId) (g cap : Nat) (old l : List UInt8) (hold : old.length = 64) (hb : BlockAt w g old) :
    (Builtin.copy_ #[73, 9] ty #[.slice (some ⟨g, 0, none⟩) 64 cap, .string ⟨l.toArray⟩]).run Tryz.prog w =
      .ok (goInt ((Nat.min l.length 64 : Nat) : Int)) (w.setRow g (arrB (l.take 64 ++ old.drop (min l.length 64)))) := by
  have hsz : (⟨l.toArray⟩ : ByteArray).size = l.length := rfl
  have hlen : (cellsOf (l.take 64)).length = min l.length 64 := by rw [cellsOf_length, List.length_take, Nat.min_comm]
  have hst := run_storeCells_at Tryz.prog g 0 139 (cellsOf (l.take 64)) 0 (arrB old) w hb (by rw [hlen]; simp [arrB, cellsOf_length, hold]; omega) (cellsOf_one _)
  rw [hlen] at hst
  simp only [Nat.zero_add, List.take_zero, List.nil_append, arrB_toList, cellsOf_drop] at hst
  have htk : List.take (Nat.min l.length 64) (List.map (fun b : UInt8 => Value.int IntKind.u8 (b.toNat : Int)) l) = cellsOf (l.take 64) := by
    rw [show (List.map (fun b : UInt8 => Value.int IntKind.u8 (b.toNat : Int)) l) = cellsOf l from rfl, cellsOf_take]
    congr 1
    by_cases h : l.length ≤ 64
    · rw [List.take_of_length_le (Nat.le_of_eq (Nat.min_eq_left h).symm), List.take_of_length_le h]
    · rw [show Nat.min l.length 64 = 64 from Nat.min_eq_right (by omega)]
  cases hq : Tryz.prog.info? 5 with
  | none => have := u8_size; simp [hq] at this
  | some i =>
    have hi : i.size = 1 := by have := u8_size; simpa [hq] using this
    simp [Builtin.copy_, run_underlying Tryz.underlying73, Builtin.lenOf, Builtin.firstCells, sizeOf, typeInfo, hq, hi, hsz]
    rw [htk, hst]
    simp only [Result.andThen]
    rw [show arrB (List.take 64 l ++ List.drop (min l.length 64) old) = (cellsOf (List.take 64 l) ++ cellsOf (List.drop (min l.length 64) old)).toArray by rw [← cellsOf_append]; rfl]

theorem wpList_copy_block {w : World} {ops : Array Oper} {rest : List Oper} {o : Oper} {a : Act} {Q : Exit → Act → World → Prop} (hgd : o.guard = none) (d s : Operand)
    (ho : o.op = .call { callee := .builtin .copy, args := #[d, s], argTypes := #[73, 9] }) (g cap : Nat) (old l : List UInt8) (hold : old.length = 64) (hd : a.eval d = .slice (some ⟨g, 0, none⟩) 64 cap) (hs : a.eval s = .string ⟨l.toArray⟩) (hb : BlockAt w g old)
    (n : Nat) (hn : Nat.min l.length 64 = n) (h : ∀ w', BlockAt w' g (l.take 64 ++ old.drop n) → Kept (· = g) w w' → wpList Tryz.prog ops Q rest (a.put o.dst (.int .i64 (n : Int))) w') : wpList Tryz.prog ops Q (o :: rest) a w := by
  refine wpList_plain hgd fun K hK => ?_
  subst hn
  have hr := run_copy_block w o.type g cap old l hold hb
  unfold Oper.wp execOp
  simp only [ho, resolve, invoke, builtin, Sem.run_bind, Sem.run_pure, Result.andThen_ok, List.map_toArray, List.map_cons, List.map_nil, hd, hs, hr]
  exact hK _ _ (h _ (setRow_heap _ _ _ _ _ _ hb) (Kept.setRow (M := (· = g)) (Kept.refl _ _) rfl _))

/-- 'clear(block[n:])'. -/
theorem wpList_clear_block {w : World} {ops : Array Oper} {rest : List Oper} {o : Oper} {a : Act} {Q : Exit → Act → World → Prop} (hgd : o.guard = none) (s : Operand)
    (ho : o.op = .call { callee := .builtin .clear, args := #[s], argTypes := #[73] }) (g n c : Nat) (x y : List UInt8) (hx : x.length = n) (hy : y.length = 64 - n) (hn : n < 64) (hs : a.eval s = .slice (some ⟨g, n, none⟩) (64 - n) c) (hb : BlockAt w g (x ++ y))
    (h : ∀ w', BlockAt w' g (x ++ List.replicate (64 - n) 0) → Kept (· = g) w w' → wpList Tryz.prog ops Q rest (a.put o.dst (.tuple #[])) w') : wpList Tryz.prog ops Q (o :: rest) a w := by
  refine wpList_plain hgd fun K hK => ?_
  have hr := Lib.run_clear_slice (P := Tryz.prog) w 73 5 o.type (.int .u8 0) Tryz.underlying73 u8_zero rfl rfl g n (64 - n) c (by omega)
    (fun j hj => by rw [hb.at' (n + j) (by rw [List.length_append]; omega)]; rfl) (fun j hj => frozen_of_row w g (n + j) _ _ hb)
  rw [← cellsOf_zeros] at hr
  have hb2 := BlockAt.setCells (List.replicate (64 - n) 0) n (x ++ y) w hb
  subst hx
  rw [setsB_append _ x y (by simp [hy])] at hb2
  unfold Oper.wp execOp
  simp only [ho, resolve, invoke, builtin, Sem.run_bind, Sem.run_pure, Result.andThen_ok, List.map_toArray, List.map_cons, List.map_nil, hs, hr]
  exact hK _ _ (h _ hb2 (Kept.setCells (M := (· = g)) rfl _ _ _ (Kept.refl _ _)))

theorem clear_block_ex (w : World) (g n c : Nat) (x y : List UInt8) (hx : x.length = n) (hy : y.length = 64 - n) (hn : n < 64) (hb : BlockAt w g (x ++ y)) :
    ∃ w', (∀ ty, (Builtin.clear_ #[73] ty #[.slice (some ⟨g, n, none⟩) (64 - n) c]).run Tryz.prog w = .ok (.tuple #[]) w') ∧ BlockAt w' g (x ++ List.replicate (64 - n) 0) ∧ Kept (· = g) w w' := by
  have hr := fun ty => Lib.run_clear_slice (P := Tryz.prog) w 73 5 ty (.int .u8 0) Tryz.underlying73 u8_zero rfl rfl g n (64 - n) c (by omega)
    (fun j hj => by rw [hb.at' (n + j) (by rw [List.length_append]; omega)]; rfl) (fun j hj => frozen_of_row w g (n + j) _ _ hb)
  rw [← cellsOf_zeros] at hr
  have hb2 := BlockAt.setCells (List.replicate (64 - n) 0) n (x ++ y) w hb
  subst hx
  rw [setsB_append _ x y (by simp [hy])] at hb2
  exact ⟨_, hr, hb2, Kept.setCells (M := (· = g)) rfl _ _ _ (Kept.refl _ _)⟩

theorem clear_all_ex (w : World) (g c : Nat) (y : List UInt8) (hy : y.length = 64) (hb : BlockAt w g y) :
    ∃ w', (∀ ty, (Builtin.clear_ #[73] ty #[.slice (some ⟨g, 0, none⟩) 64 c]).run Tryz.prog w = .ok (.tuple #[]) w') ∧ BlockAt w' g (List.replicate 56 0 ++ List.replicate 8 0) ∧ Kept (· = g) w w' := by
  obtain ⟨w', h1, h2, h3⟩ := clear_block_ex w g 0 c [] y rfl (by rw [hy]) (by decide) hb
  refine ⟨w', h1, ?_, h3⟩
  rw [List.replicate_append_replicate]
  exact h2
end Go.Proofs.YtcbodpcekjngbaaGreat
/- The walk of of: SHA-256 of a text. -/
set_option linter.unusedVariables false
namespace Go.Proofs.YtcbodpcekjngbaaGreat
open Go.RowKit

theorem SumsAt.begin' {w : World} {kb : Nat} {H K : List Nat} (h : SumsAt w kb H K) (k x : Nat) (hk : k < H.length) (hx : H[k]? = some x) : w.cell? ⟨kb, k, none⟩ = some (.int .u32 (x : Int)) := by
  rw [cell_of_row _ _ _ _ _ _ h]
  refine arrW_get _ _ _ ?_
  rw [List.getElem?_append_left hk, hx]
def strLen : Value → Nat
  | .string s => s.size
  | _ => 0
def tailB (n i : Nat) : List UInt8 := List.replicate (8 - i) 0 ++ (be8 n).drop (8 - i)
theorem tailB_length (n i : Nat) (h : i ≤ 8) : (tailB n i).length = 8 := by unfold tailB; simp [be8_length]
theorem be8_get (n i : Nat) (h : i < 8) : (be8 n)[i]? = some (beB n i) := by unfold be8; simp [h]
theorem tailB_step (pre : List UInt8) (n i : Nat) (hp : pre.length = 56) (hi : i < 8) : (pre ++ tailB n i).set (63 - i) (beB n (7 - i)) = pre ++ tailB n (i + 1) := by
  rw [List.set_append_right _ _ (by omega), hp, show 63 - i - 56 = 7 - i by omega]
  congr 1
  unfold tailB
  rw [List.set_append_left _ _ (by simp; omega), show 8 - i = (7 - i) + 1 by omega, show 8 - (i + 1) = 7 - i by omega, ← List.replicate_append_replicate (n := 7 - i) (m := 1)]
  have hl : 7 - i < (be8 n).length := by rw [be8_length]; omega
  have e := List.drop_eq_getElem_cons hl
  have e2 : (be8 n)[7 - i] = beB n (7 - i) := by
    have := be8_get n (7 - i) (by omega)
    rw [List.getElem?_eq_getElem hl] at this
    exact Option.some.inj this
  rw [List.set_append_right _ _ (by simp), List.length_replicate, Nat.sub_self, e, e2]
  simp
theorem tailB_zero (n : Nat) : tailB n 0 = List.replicate 8 0 := by unfold tailB; rw [List.drop_eq_nil_of_le (by rw [be8_length]; omega)]; simp
theorem tailB_all (n : Nat) : tailB n 8 = be8 n := by unfold tailB; simp
theorem be_val (n i : Nat) (hi : i < 8) : ((n : Int) / 2 ^ (8 * i) % 256) = (((beB n (7 - i)).toNat : Nat) : Int) := by
  unfold beB
  rw [show 8 * (7 - (7 - i)) = 8 * i by omega]
  exact byte_val n (8 * i)

/-- A rest with the byte 128 behind it. -/
def endB (r : List UInt8) : List UInt8 := r ++ 128 :: List.replicate (63 - r.length) 0
theorem endB_set (r : List UInt8) (h : r.length < 64) : (r ++ List.replicate (64 - r.length) 0).set r.length 128 = endB r := by
  unfold endB
  rw [List.set_append_right _ _ (Nat.le_refl _), Nat.sub_self, show 64 - r.length = (63 - r.length) + 1 by omega, List.replicate_succ, List.set_cons_zero]
theorem endB_length (r : List UInt8) (h : r.length < 64) : (endB r).length = 64 := by unfold endB; simp; omega
def preB (r : List UInt8) : List UInt8 := r ++ 128 :: List.replicate (55 - r.length) 0
theorem preB_length (r : List UInt8) (h : r.length < 56) : (preB r).length = 56 := by unfold preB; simp; omega
theorem endB_pre (r : List UInt8) (h : r.length < 56) : endB r = preB r ++ List.replicate 8 0 := by
  unfold endB preB
  rw [show 63 - r.length = (55 - r.length) + 8 by omega, ← List.replicate_append_replicate]
  simp
/-- What is left when the last block but its size is laid. -/
def Lastly (K : List Nat) (h0 : St) (l pre : List UInt8) (s : St) : Prop := pre.length = 56 ∧ s.ok ∧ shaS K h0 l = bytesOfL (blkS K s (pre ++ be8 (8 * l.length))).toL
theorem lastly_one (K : List Nat) (h0 : St) (l r : List UInt8) (j : Nat) (hok : h0.ok) (hr : l.drop (64 * j) = r) (hj : 64 * j ≤ l.length) (hrl : r.length < 56) : Lastly K h0 l (preB r) (absorb K h0 l j) := by
  have hlen : r.length = l.length - 64 * j := by rw [← hr, List.length_drop]
  refine ⟨preB_length r hrl, absorb_ok hok l j, ?_⟩
  rw [sha_one K h0 l j (by omega) (by omega), hr]
  unfold last1 preB
  simp
theorem lastly_two (K : List Nat) (h0 : St) (l r : List UInt8) (j : Nat) (hok : h0.ok) (hr : l.drop (64 * j) = r) (hj : 64 * j ≤ l.length) (hrl : r.length < 64) (hrl2 : ¬ r.length < 56) : Lastly K h0 l (List.replicate 56 0) (blkS K (absorb K h0 l j) (endB r)) := by
  have hlen : r.length = l.length - 64 * j := by rw [← hr, List.length_drop]
  refine ⟨List.length_replicate, addSt_ok _ _, ?_⟩
  rw [sha_two K h0 l j (by omega) (by omega), hr]
  rfl
theorem blocks_ne {w : World} {kb b : Nat} {H K : List Nat} {l : List UInt8} (h : SumsAt w kb H K) (h' : BlockAt w b l) : kb ≠ b := by
  intro e
  subst e
  unfold BlockAt at h'
  unfold SumsAt at h
  rw [h] at h'
  injection h' with h'
  injection h' with _ ht
  exact absurd ht (by decide)
theorem states_ne {w : World} {kb b : Nat} {H K l : List Nat} (h : SumsAt w kb H K) (h' : StAt w b l) : kb ≠ b := by
  intro e
  subst e
  unfold StAt at h'
  unfold SumsAt at h
  rw [h] at h'
  injection h' with h'
  injection h' with _ ht
  exact absurd ht (by decide)
set_option maxRecDepth 100000 in
set_option maxHeartbeats 4000000 in
theorem of_any (kb : Nat) (h0 : St) (K : List Nat) (l : List UInt8) (w : World) (hok : h0.ok) (hK : K.length = 64) (hKlt : ∀ x ∈ K, x < 4294967296) (hl : l.length ≤ 1000000) (hk : SumsAt w kb h0.toL K) :
    Calls Tryz.prog 69 #[.pointer (some ⟨kb, 0, none⟩), .string ⟨l.toArray⟩] w fun e w' => e = .returned (.string ⟨(shaS K h0 l).toArray⟩) ∧ Below w.heap.size w w' := by
  obtain ⟨Z, hZ, hZ2⟩ : ∃ Z : Array Value, Z = #[.int .u8 0, .int .u8 0, .int .u8 0, .int .u8 0, .int .u8 0, .int .u8 0, .int .u8 0, .int .u8 0, .int .u8 0, .int .u8 0, .int .u8 0, .int .u8 0, .int .u8 0, .int .u8 0, .int .u8 0, .int .u8 0, .int .u8 0, .int .u8 0, .int .u8 0, .int .u8 0, .int .u8 0, .int .u8 0, .int .u8 0, .int .u8 0, .int .u8 0, .int .u8 0, .int .u8 0, .int .u8 0, .int .u8 0, .int .u8 0, .int .u8 0, .int .u8 0, .int .u8 0, .int .u8 0, .int .u8 0, .int .u8 0, .int .u8 0, .int .u8 0, .int .u8 0, .int .u8 0, .int .u8 0, .int .u8 0, .int .u8 0, .int .u8 0, .int .u8 0, .int .u8 0, .int .u8 0, .int .u8 0, .int .u8 0, .int .u8 0, .int .u8 0, .int .u8 0, .int .u8 0, .int .u8 0, .int .u8 0, .int .u8 0, .int .u8 0, .int .u8 0, .int .u8 0, .int .u8 0, .int .u8 0, .int .u8 0, .int .u8 0, .int .u8 0] ∧ Z = arrB (List.replicate 64 0) := ⟨_, rfl, rfl⟩
  have n0 := hk.begin' 0 h0.a (by simp [St.toL]) rfl
  have n1 := hk.begin' 1 h0.b (by simp [St.toL]) rfl
  have n2 := hk.begin' 2 h0.c (by simp [St.toL]) rfl
  have n3 := hk.begin' 3 h0.d (by simp [St.toL]) rfl
  have n4 := hk.begin' 4 h0.e (by simp [St.toL]) rfl
  have n5 := hk.begin' 5 h0.f (by simp [St.toL]) rfl
  have n6 := hk.begin' 6 h0.g (by simp [St.toL]) rfl
  have n7 := hk.begin' 7 h0.h (by simp [St.toL]) rfl
  have HK := Lib.hid hk
  have HKl := Lib.hid hK
  have HKlt := Lib.hid hKlt
  have HOK := Lib.hid hok
  have HZ := Lib.hid hZ
  have HZ2 := Lib.hid hZ2
  have L := Lib.hid (show (⟨l.toArray⟩ : ByteArray).size = l.length from rfl)
  clear hk hK hKlt hok hZ hZ2
  go_enter Tryz.func69, Tryz.ntmps69
  have g1 := heap_alloc2_old w (.cells (arrW h0.toL) 104) (.cells Z 139)
  have g2 := heap_alloc2_new w (.cells (arrW h0.toL) 104) (.cells Z 139)
  have hb0 : Below w.heap.size w ((w.alloc (.cells (arrW h0.toL) 104)).alloc (.cells Z 139)) := ((Below.refl _ _).alloc (Nat.le_refl _) _).alloc (by simp) _
  obtain ⟨N, hN⟩ : ∃ N, N = w.heap.size := ⟨_, rfl⟩
  obtain ⟨B, hB⟩ : ∃ B, B = w.heap.size + 1 := ⟨_, rfl⟩
  have hNB : N ≠ B := by omega
  have hNw : w.heap.size ≤ N := by omega
  have hBw : w.heap.size ≤ B := by omega
  rw [← hN] at g1
  rw [← hB] at g2
  have G1 : Hid (StAt ((w.alloc (.cells (arrW h0.toL) 104)).alloc (.cells Z 139)) N (absorb K h0 l 0).toL) := Lib.hid g1
  have G2 : Hid (BlockAt ((w.alloc (.cells (arrW h0.toL) 104)).alloc (.cells Z 139)) B (List.replicate 64 0)) := Lib.hid (by unfold BlockAt; rw [← HZ2.out]; exact g2)
  have L0 := Lib.hid hb0
  clear g1 g2 hb0
  go_wp2
  rw [← HZ.out, ← hB, ← hN]
  change Code.wp _ _ _ _ ((w.alloc (.cells (arrW h0.toL) 104)).alloc (.cells Z 139))
  generalize (w.alloc (.cells (arrW h0.toL) 104)).alloc (.cells Z 139) = W0 at *
  clear n0 n1 n2 n3 n4 n5 n6 n7 HZ HZ2 hN hB
  go_loopw [6] (fun v wr => ∃ (j : Nat) (old : List UInt8), 64 * j ≤ l.length ∧ v = .string ⟨(l.drop (64 * j)).toArray⟩ ∧ old.length = 64 ∧ StAt wr N (absorb K h0 l j).toL ∧ BlockAt wr B old ∧ Below w.heap.size w wr) (fun v _ => strLen v)
  case atStart => exact ⟨0, _, by omega, rfl, List.length_replicate, G1.out, G2.out, L0.out⟩
  case round =>
    obtain ⟨j, old, hj, rfl, hold, hst, hblk, hbel⟩ := hrel
    obtain ⟨r, hr⟩ : ∃ r, l.drop (64 * j) = r := ⟨_, rfl⟩
    have hrl : r.length = l.length - 64 * j := by rw [← hr, List.length_drop]
    rw [hr]
    have R := Lib.hid (show (⟨r.toArray⟩ : ByteArray).size = r.length from rfl)
    have hsum : SumsAt wr kb h0.toL K := (hbel.block kb (Array.getElem?_eq_some_iff.1 HK.out).1).trans HK.out
    have HSM := Lib.hid hsum
    have HR := Lib.hid hr
    have HRL := Lib.hid hrl
    have Hold := Lib.hid hold
    have HST := Lib.hid hst
    have HBL := Lib.hid hblk
    have hokj := absorb_ok (K := K) HOK.out l j
    have HJ := Lib.hid hokj
    clear hr hold hst hblk hsum hokj hrl
    have hrl2 : r.length ≤ 1000000 := by rw [HRL.out]; omega
    by_cases hlt : 64 ≤ r.length
    · have E := drop_toArray r 64 r.length (Nat.le_refl _)
      have hn : Nat.min r.length 64 = 64 := Nat.min_eq_right hlt
      have Hn := Lib.hid hn
      have SJ := Lib.hid (show absorb K h0 l (j + 1) = blkS K (absorb K h0 l j) (r.take 64) by rw [absorb, HR.out])
      clear hn
      go_wp2_with (first
        | (with_reducible refine wpList_copy_block (o := ⟨some 20, _, _, _, _, _⟩) rfl (.tmp 18) (.tmp 19) rfl B 64 old r Hold.out rfl rfl HBL.out 64 Hn.out ?_); intro w3 hb3 hk3; have HB3 := Lib.hid hb3; clear hb3)
      have hst3 : StAt w3 N (absorb K h0 l j).toL := hk3.old HST.out hNB
      have hsm3 : SumsAt w3 kb h0.toL K := hk3.old HSM.out (blocks_ne HSM.out HBL.out)
      have hb3' : BlockAt w3 B (r.take 64) := by
        have := HB3.out
        rw [List.drop_eq_nil_of_le (Nat.le_of_eq Hold.out), List.append_nil] at this
        exact this
      have T := Lib.hid (takeIn_any kb N B h0.toL K (absorb K h0 l j) (r.take 64) w3 rfl HKl.out HKlt.out HJ.out (by rw [List.length_take]; omega) hsm3 hst3 hb3')
      rw [← SJ.out] at T
      have HB3' := Lib.hid hb3'
      clear hst3 hsm3 hb3'
      refine T.out.mono ?_
      rintro e w4 ⟨rfl, hst4, hk4⟩
      have hb4 : BlockAt w4 B (r.take 64) := hk4.old HB3'.out (Ne.symm hNB)
      have B3 : Below w.heap.size w w3 := hbel.trans (hk3.below hbel.size (fun k e => by omega))
      have B4 := Lib.hid (B3.trans (hk4.below B3.size (fun k e => by omega)))
      have HB4 := Lib.hid hb4
      have HS4 := Lib.hid hst4
      have DR := Lib.hid (show r.drop 64 = l.drop (64 * (j + 1)) by rw [← HR.out, List.drop_drop, Nat.mul_add, Nat.mul_one])
      have TL := Lib.hid (show (r.take 64).length = 64 by rw [List.length_take]; omega)
      clear hb4 hst4 hk4 hk3 B3
      go_wp2
      go_roundw
      case rel => exact ⟨j + 1, _, by have := HRL.out; omega, by rw [← DR.out], TL.out, HS4.out, HB4.out, B4.out⟩
      case measure =>
        simp [strLen]
        show (r.drop 64).length < r.length
        rw [List.length_drop]
        omega
    · have hr64 : r.length < 64 := by omega
      have hmin : Nat.min r.length 64 = r.length := Nat.min_eq_left (Nat.le_of_lt hr64)
      have Hmin := Lib.hid hmin
      have htk : r.take 64 = r := List.take_of_length_le (Nat.le_of_lt hr64)
      have Htk := Lib.hid htk
      have hdl : (old.drop r.length).length = 64 - r.length := by rw [List.length_drop, Hold.out]
      have Hdl := Lib.hid hdl
      have htl : (r.take 64).length = r.length := by rw [htk]
      have Htl := Lib.hid htl
      have ENDL := Lib.hid (endB_length r hr64)
      have ENDS := Lib.hid (endB_set r hr64)
      have rq : (r.length : Int) < 64 := by omega
      have r0 : (0 : Int) ≤ (r.length : Int) := by omega
      have rle : (r.length : Int) ≤ 64 := by omega
      have rne : ¬ r.length = 64 := by omega
      clear hmin htk hdl htl
      go_upto_if 34 with ((with_reducible refine wpList_copy_block (o := ⟨some 27, _, _, _, _, _⟩) rfl (.tmp 25) (.tmp 26) rfl B 64 old r Hold.out rfl rfl HBL.out r.length Hmin.out ?_); intro w3 hb3 hk3; obtain ⟨w4, hcl, hb4, hk4⟩ := clear_block_ex w3 B r.length (64 - r.length) (r.take 64) (old.drop r.length) Htl.out Hdl.out hr64 hb3; have hc4 := hb4.at' r.length (by rw [List.length_append, Htl.out, List.length_replicate]; omega); have hf4 := frozen_of_row w4 B r.length _ _ hb4; have HB4 := Lib.hid hb4; clear hb3 hb4)
      have hb5 : BlockAt (w4.setCell ⟨B, r.length, none⟩ (.int .u8 128)) B (endB r) := by
        have h1 : (w4.setCell ⟨B, r.length, none⟩ (.int .u8 128)).heap[B]? = _ := heap_setCell_same w4 B r.length _ _ _ HB4.out
        rw [Htk.out] at h1
        rw [← ENDS.out]
        unfold BlockAt
        rw [← arrB_set]
        exact h1
      have k5 : Kept (· = B) wr (w4.setCell ⟨B, r.length, none⟩ (.int .u8 128)) := (hk3.trans hk4).setCell (by rfl) _
      have hst5 : StAt (w4.setCell ⟨B, r.length, none⟩ (.int .u8 128)) N (absorb K h0 l j).toL := k5.old HST.out hNB
      have hsm5 : SumsAt (w4.setCell ⟨B, r.length, none⟩ (.int .u8 128)) kb h0.toL K := k5.old HSM.out (blocks_ne HSM.out HBL.out)
      have hbl5 : Below w.heap.size w (w4.setCell ⟨B, r.length, none⟩ (.int .u8 128)) := hbel.trans (k5.below hbel.size (fun k e => by omega))
      have HB5 := Lib.hid hb5
      have HST5 := Lib.hid hst5
      have HSM5 := Lib.hid hsm5
      have HBL5 := Lib.hid hbl5
      clear hb5 k5 hst5 hsm5 hbl5 hk3 hk4 hcl hc4 hf4
      generalize w4.setCell ⟨B, r.length, none⟩ (.int .u8 128) = w5 at *
      go_cut [] (fun wx => ∃ (pre : List UInt8) (s' : St), Lastly K h0 l pre s' ∧ BlockAt wx B (pre ++ List.replicate 8 0) ∧ StAt wx N s'.toL ∧ SumsAt wx kb h0.toL K ∧ Below w.heap.size w wx)
      case first =>
        by_cases h56 : r.length < 56
        · have t56 : ¬ 56 ≤ r.length := by omega
          have LO := Lib.hid (lastly_one K h0 l r j HOK.out HR.out hj h56)
          go_wp2_with fail
          go_meet
          exact ⟨preB r, _, LO.out, by rw [← endB_pre r h56]; exact HB5.out, HST5.out, HSM5.out, HBL5.out⟩
        · have t56 : 56 ≤ r.length := by omega
          have LT := Lib.hid (lastly_two K h0 l r j HOK.out HR.out hj hr64 h56)
          have T := Lib.hid (takeIn_any kb N B h0.toL K (absorb K h0 l j) (endB r) w5 rfl HKl.out HKlt.out HJ.out ENDL.out HSM5.out HST5.out HB5.out)
          go_wp2_with fail
          refine T.out.mono ?_
          rintro e w6 ⟨rfl, hst6, hk6⟩
          have hb6 : BlockAt w6 B (endB r) := hk6.old HB5.out (Ne.symm hNB)
          have hsm6 : SumsAt w6 kb h0.toL K := hk6.old HSM5.out (states_ne HSM5.out HST5.out)
          have hbl6 : Below w.heap.size w w6 := HBL5.out.trans (hk6.below HBL5.out.size (fun k e => by omega))
          obtain ⟨w7, hcl, hb7, hk7⟩ := clear_all_ex w6 B 64 (endB r) ENDL.out hb6
          have hst7 := hk7.old hst6 hNB
          have hsm7 := hk7.old hsm6 (blocks_ne hsm6 hb6)
          have hbl7 := hbl6.trans (hk7.below hbl6.size (fun k e => by omega))
          have P7 := Lib.hid (show BlockAt w7 B (List.replicate 56 0 ++ List.replicate 8 0) ∧ StAt w7 N (blkS K (absorb K h0 l j) (endB r)).toL ∧ SumsAt w7 kb h0.toL K ∧ Below w.heap.size w w7 from ⟨hb7, hst7, hsm7, hbl7⟩)
          clear hst6 hk6 hb6 hsm6 hbl6 hb7 hk7 hst7 hsm7 hbl7
          go_wp2_with fail
          go_meet
          exact ⟨_, _, LT.out, P7.out⟩
      case rest =>
        obtain ⟨pre, s', hlast, hblk, hst, hsm, hbelc⟩ := hcut
        have HLA := Lib.hid hlast
        have hpl := hlast.1
        have Hpl := Lib.hid hpl
        obtain ⟨S8, hS8⟩ : ∃ S, 8 * l.length = S := ⟨_, rfl⟩
        have e8 : (l.length : Int) * 8 = (S8 : Int) := by omega
        have s8 : S8 < 18446744073709551616 := by omega
        have HS8 := Lib.hid hS8
        have G8 := Lib.hid (show BlockAt wc B (pre ++ tailB S8 0) by rw [tailB_zero]; exact hblk)
        have H8 := Lib.hid hst
        have J8 := Lib.hid hsm
        have B8 := Lib.hid hbelc
        clear hlast hpl hS8 hblk hst hsm hbelc G1 G2 L0
        go_wp2
        go_loopw [42] (fun i wr => ∃ k : Nat, k ≤ 8 ∧ i = .int .i64 k ∧ BlockAt wr B (pre ++ tailB S8 k) ∧ StAt wr N s'.toL ∧ SumsAt wr kb h0.toL K ∧ Below w.heap.size w wr) (fun i _ => 8 - (intOf i).toNat)
        case atStart => exact ⟨0, by omega, rfl, G8.out, H8.out, J8.out, B8.out⟩
        case round =>
          obtain ⟨k, hk, rfl, hblk, hst, hsm, hbelc⟩ := hrel
          have HBk := Lib.hid hblk
          have HSk := Lib.hid hst
          have HMk := Lib.hid hsm
          have hpt : (pre ++ tailB S8 k).length = 64 := by rw [List.length_append, Hpl.out, tailB_length _ _ hk]
          by_cases hlt : k < 8
          · obtain ⟨p, hp⟩ : ∃ p, p = 63 - k := ⟨_, rfl⟩
            have hp64 : p < 64 := by omega
            have hc := hblk.at' p (by rw [hpt]; exact hp64)
            have hf := frozen_of_row wr B p _ _ hblk
            have BV := Lib.hid (be_val S8 k hlt)
            have TS := tailB_step pre S8 k Hpl.out hlt
            rw [← hp] at TS
            have HTS := Lib.hid TS
            generalize ((pre ++ tailB S8 k)[p]'(by rw [hpt]; exact hp64)).toNat = oldb at *
            have w1 : (63 : Int) - (k : Int) = (p : Int) := by omega
            have pq : (p : Int) < 64 := by omega
            have p0 : (0 : Int) ≤ (p : Int) := by omega
            clear hblk hst hsm hpt TS hp
            go_wp2
            go_roundw
            case rel =>
              refine ⟨k + 1, by omega, by go_num, ?_, ?_, ?_, hbelc.setCell (by exact hBw) _⟩
              · rw [BV.out]
                unfold BlockAt
                rw [← HTS.out, ← arrB_set]
                exact heap_setCell_same wr B p _ _ _ HBk.out
              · exact ((Kept.refl (· = B) wr).setCell (p := ⟨B, p, none⟩) (by rfl) _).old HSk.out hNB
              · exact ((Kept.refl (· = B) wr).setCell (p := ⟨B, p, none⟩) (by rfl) _).old HMk.out (blocks_ne HMk.out HBk.out)
            case measure => simp [intOf]; omega
          · have hk8 : k = 8 := by omega
            have h8 : 8 ≤ k := by omega
            rw [hk8, tailB_all] at hblk
            rw [hk8, tailB_all] at hpt
            have T := Lib.hid (takeIn_any kb N B h0.toL K s' (pre ++ be8 S8) wr rfl HKl.out HKlt.out HLA.out.2.1 hpt hsm hst hblk)
            have FIN := Lib.hid (show shaS K h0 l = bytesOfL (blkS K s' (pre ++ be8 S8)).toL by rw [← HS8.out]; exact HLA.out.2.2)
            have TXT := fun w' h => Lib.hid (text_any N (blkS K s' (pre ++ be8 S8)).toL w' rfl h)
            clear hblk hst hsm hpt hk8
            go_wp2_with fail
            refine T.out.mono ?_
            rintro e w6 ⟨rfl, hst6, hk6⟩
            have hbl6 := hbelc.trans (hk6.below hbelc.size (fun k e => by omega))
            have H6 := Lib.hid hst6
            clear hst6 hk6
            go_wp2_with fail
            refine (TXT _ H6.out).out.mono ?_
            rintro e w7 ⟨rfl, hb7⟩
            go_wp2
            go_ret
            exact ⟨by rw [FIN.out]; rfl, hbl6.trans (hb7.mono hbl6.size)⟩
end Go.Proofs.YtcbodpcekjngbaaGreat
/- Walks of highWord and behindPoint. -/
set_option linter.unusedVariables false
namespace Go.Proofs.YtcbodpcekjngbaaGreat
open Go.RowKit

theorem pow_lt37 (n k : Nat) (hn : n < 137438953472) (hk : k ≤ 2) : n ^ k / 18446744073709551616 < 1024 := by
  have h : n ^ k ≤ 137438953471 ^ 2 := Nat.le_trans (Nat.pow_le_pow_left (by omega) k) (Nat.pow_le_pow_right (by decide) hk)
  have : (137438953471 : Nat) ^ 2 = 18889465931203702456941841 - 0 ∨ True := .inr trivial
  exact Nat.lt_of_le_of_lt (Nat.div_le_div_right h) (by decide)
theorem pow_step (n k : Nat) : n ^ k / 18446744073709551616 * n + n ^ k % 18446744073709551616 * n / 18446744073709551616 = n ^ (k + 1) / 18446744073709551616 ∧ n ^ k % 18446744073709551616 * n % 18446744073709551616 = n ^ (k + 1) % 18446744073709551616 := by
  rw [Nat.pow_succ]
  generalize n ^ k = x
  have e : x * n = 18446744073709551616 * (x / 18446744073709551616 * n) + x % 18446744073709551616 * n := by
    conv => lhs; rw [← Nat.div_add_mod x 18446744073709551616]
    rw [Nat.add_mul, Nat.mul_assoc]
  rw [e]
  generalize x % 18446744073709551616 * n = y
  generalize x / 18446744073709551616 * n = z
  omega

set_option maxRecDepth 100000 in
set_option maxHeartbeats 1000000 in
theorem highWord_any (n p : Nat) (w : World) (hn : n < 137438953472) (hp : p ≤ 3) :
    Calls Tryz.prog 104 #[.int .u64 n, .int .i64 p] w fun e w' => e = .returned (.int .u64 ((n ^ p / 18446744073709551616 : Nat) : Int)) ∧ w = w' := by
  go_enter Tryz.func104, Tryz.ntmps104
  go_wp2
  go_loop [5, 6, 10] (fun h l i => ∃ k : Nat, k ≤ p ∧ i = .int .i64 k ∧ h = .int .u64 ((n ^ k / 18446744073709551616 : Nat) : Int) ∧ l = .int .u64 ((n ^ k % 18446744073709551616 : Nat) : Int)) (fun _ _ i => p - (intOf i).toNat)
  case atStart => exact ⟨0, by omega, rfl, by simp, by simp⟩
  case round =>
    obtain ⟨k, hk, rfl, rfl, rfl⟩ := hrel
    by_cases hlt : k < p
    · have b1 := pow_lt37 n k hn (by omega)
      have hx : n ^ k % 18446744073709551616 < 18446744073709551616 := Nat.mod_lt _ (by decide)
      obtain ⟨s1, s2⟩ := pow_step n k
      have C := Lib.hid (fun w' => Tryz.bits_Mul64 (n ^ k % 18446744073709551616) n hx (by omega) w')
      have b2 : n ^ k % 18446744073709551616 * n / 18446744073709551616 < 137438953472 := by
        refine Nat.div_lt_of_lt_mul ?_
        exact Nat.mul_lt_mul_of_lt_of_le hx (Nat.le_of_lt hn) (by decide)
      have b3 : n ^ k / 18446744073709551616 * n < 140737488355328 := by
        exact Nat.mul_lt_mul_of_lt_of_le b1 (Nat.le_of_lt hn) (by decide)
      generalize n ^ k / 18446744073709551616 = hi at *
      generalize n ^ k % 18446744073709551616 = lo at *
      generalize lo * n / 18446744073709551616 = ov at *
      obtain ⟨pr, hpr⟩ : ∃ pr, hi * n = pr := ⟨_, rfl⟩
      rw [hpr] at s1 b3
      obtain ⟨lw, hlw⟩ : ∃ lw, lo * n % 18446744073709551616 = lw := ⟨_, rfl⟩
      rw [hlw] at s2
      have C : Hid (∀ w', Calls Tryz.prog 116 #[.int .u64 lo, .int .u64 n] w' fun e w'' => e = .returned (.tuple #[.int .u64 (ov : Int), .int .u64 (lw : Int)]) ∧ w'' = w') := Lib.hid (by rw [← hlw]; exact C.out)
      clear hlw
      have hpr2 : (hi : Int) * (n : Int) = (pr : Int) := by rw [← hpr]; exact (Int.natCast_mul hi n).symm
      have S1 := Lib.hid s1
      have S2 := Lib.hid s2
      clear s1 s2 hpr
      go_wp2_with fail
      refine (C.out _).mono ?_
      rintro e w' ⟨rfl, rfl⟩
      go_wp2
      go_round
      case rel => exact ⟨k + 1, by omega, by go_num, by rw [← S1.out]; go_num, by rw [← S2.out]⟩
      case measure => simp [intOf]; omega
    · obtain rfl : k = p := by omega
      go_wp2
      go_ret
      exact ⟨rfl, rfl⟩

theorem highWord_of (n p h : Nat) (w : World) (hn : n < 137438953472) (hp : p ≤ 3) (hh : n ^ p / 18446744073709551616 = h) :
    Calls Tryz.prog 104 #[.int .u64 n, .int .i64 p] w fun e w' => e = .returned (.int .u64 (h : Int)) ∧ w = w' := by
  subst hh; exact highWord_any n p w hn hp
/-- Equal numbers, so that no tactic looks into them. -/
structure SameN (a b : Nat) : Prop where
  eq : a = b
/-- The root, bit by bit: e bits are still to be tried. -/
def bpR (n p : Nat) : Nat → Nat → Nat
  | 0, r => r
  | e + 1, r => bpR n p e (if (r ||| 2 ^ e) ^ p / 18446744073709551616 < n * 2 ^ (32 * p - 64) then r ||| 2 ^ e else r)
def bp (n p : Nat) : Nat := bpR n p 37 0 % 4294967296
theorem bp_lt (n p : Nat) : bp n p < 4294967296 := Nat.mod_lt _ (by decide)

set_option maxRecDepth 100000 in
set_option maxHeartbeats 1000000 in
theorem behindPoint_any (n p : Nat) (w : World) (hn : n < 512) (hp : p = 2 ∨ p = 3) :
    Calls Tryz.prog 63 #[.int .u64 n, .int .i64 p] w fun e w' => e = .returned (.int .u32 (bp n p : Nat)) ∧ ∃ m, w' = w.drewN m := by
  obtain ⟨q, hq⟩ : ∃ q, q = 32 * p - 64 := ⟨_, rfl⟩
  have hqp : 32 * p = q + 64 := by omega
  have hq32 : q ≤ 32 := by omega
  have hM : n * 2 ^ q < 2199023255552 := by
    have : n * 2 ^ q ≤ n * 2 ^ 32 := Nat.mul_le_mul_left _ (Nat.pow_le_pow_right (by decide) hq32)
    omega
  obtain ⟨M, hMM⟩ : ∃ M, n * 2 ^ q = M := ⟨_, rfl⟩
  have hp3 : p ≤ 3 := by omega
  have HMM := Lib.hid hMM
  have HQ := Lib.hid hq
  clear hq hMM
  go_enter Tryz.func63, Tryz.ntmps63
  go_wp2
  go_loopw [5, 6] (fun r b wr => ∃ (e x y m : Nat), e ≤ 37 ∧ r = .int .u64 x ∧ b = .int .u64 y ∧ y = 2 ^ e / 2 ∧ x < 137438953472 ∧ SameN (bpR n p e x) (bpR n p 37 0) ∧ wr = w.drewN m) (fun _ b _ => (intOf b).toNat)
  case atStart => exact ⟨37, 0, 68719476736, 0, by omega, rfl, rfl, by decide, by decide, ⟨rfl⟩, rfl⟩
  case round =>
    obtain ⟨e, x, y, m, he, rfl, rfl, hy, hx, hb, rfl⟩ := hrel
    have HB := Lib.hid hb; clear hb
    rcases e with _ | e
    · obtain rfl : y = 0 := by simpa using hy
      have FIN := Lib.hid (show (x : Int) % 4294967296 = ((bp n p : Nat) : Int) by unfold bp; rw [← HB.out.eq]; show _ = ((x % 4294967296 : Nat) : Int); omega)
      clear hy
      rw [show ((0 : Nat) : Int) = 0 from rfl]
      go_wp2
      go_ret
      exact ⟨ret_u32 FIN.out, _, rfl⟩
    · have hy2 : y = 2 ^ e := by rw [hy, Nat.pow_succ]; omega
      have hylt : y < 137438953472 := by rw [hy2]; exact Nat.lt_of_lt_of_le (Nat.pow_lt_pow_right (by decide) (show e < 37 by omega)) (by decide)
      have hypos : 0 < y := by rw [hy2]; exact Nat.two_pow_pos e
      have hor : x ||| y < 137438953472 := Nat.or_lt_two_pow (n := 37) hx hylt
      have e1 := u64_or_nat x y (by omega) (by omega)
      have HS : Hid (bpR n p (e + 1) x = bpR n p e (if (x ||| y) ^ p / 18446744073709551616 < M then x ||| y else x)) := Lib.hid (by rw [bpR, ← HQ.out, HMM.out, ← hy2])
      have HY := Lib.hid hy2
      have hb2 := HS.out.symm.trans HB.out.eq
      have NY : Hid (y / 2 = 2 ^ e / 2) := Lib.hid (by rw [hy2])
      obtain ⟨o, ho⟩ : ∃ o, x ||| y = o := ⟨_, rfl⟩
      rw [ho] at hor e1 hb2
      obtain ⟨hw, hhw⟩ : ∃ h, o ^ p / 18446744073709551616 = h := ⟨_, rfl⟩
      rw [hhw] at hb2
      have HB2 := Lib.hid (SameN.mk hb2)
      clear hb2
      have C := fun w' => Lib.hid (highWord_of o p hw w' hor hp3 hhw)
      have w1 : IntKind.i64.wrap (32 * (p : Int)) = ((q + 64 : Nat) : Int) := by rw [IntWalk.i64_in _ (by omega)]; omega
      clear hy hy2 ho hhw HS HB
      generalize hw5 : w.drewN m = w5 at *
      have HW5 := Lib.hid hw5; clear hw5
      have SH : IntKind.u64.wrap ((n : Int) * 2 ^ q) = (M : Int) := by
        rw [show (n : Int) * 2 ^ q = ((n * 2 ^ q : Nat) : Int) by rw [Int.natCast_mul, Int.natCast_pow]; rfl, HMM.out, IntKind.wrap_u64]
        have := HMM.out
        omega
      by_cases hc : hw < M
      · have HB3 := HB2.out
        rw [if_pos hc] at HB3
        have hcI : (hw : Int) < (M : Int) := by omega
        have HB4 := Lib.hid HB3
        clear HB3 HB2 hM
        go_wp2
        go_quiet ((go_at_call 104; (with_reducible exact quiet_left (C _).out)))
        go_wp2
        go_roundw
        case rel => exact ⟨e, o, y / 2, m + nq, by omega, rfl, by go_num, NY.out, hor, HB4.out, by rw [← HW5.out, World.drewN_drewN]⟩
        case measure => simp [intOf]; omega
      · have HB3 := HB2.out
        rw [if_neg hc] at HB3
        have hcI : ¬ (hw : Int) < (M : Int) := by omega
        have HB4 := Lib.hid HB3
        clear HB3 HB2 hM
        go_wp2
        go_quiet ((go_at_call 104; (with_reducible exact quiet_left (C _).out)))
        go_wp2
        go_roundw
        case rel => exact ⟨e, x, y / 2, m + nq, by omega, rfl, by go_num, NY.out, hx, HB4.out, by rw [← HW5.out, World.drewN_drewN]⟩
        case measure => simp [intOf]; omega
end Go.Proofs.YtcbodpcekjngbaaGreat
/- The first 64 primes, and how a search finds them. Of no program. -/
set_option linter.unusedVariables false
namespace Go.Proofs.YtcbodpcekjngbaaGreat

def PL : List Nat := [2, 3, 5, 7, 11, 13, 17, 19, 23, 29, 31, 37, 41, 43, 47, 53, 59, 61, 67, 71, 73, 79, 83, 89, 97, 101, 103, 107, 109, 113, 127, 131, 137, 139, 149, 151, 157, 163, 167, 173, 179, 181, 191, 193, 197, 199, 211, 223, 227, 229, 233, 239, 241, 251, 257, 263, 269, 271, 277, 281, 283, 293, 307, 311]
def pr (i : Nat) : Nat := PL.getD i 0
/-- How many of them lie below n. -/
def cntP (n : Nat) : Nat := (PL.filter (· < n)).length
theorem PL_length : PL.length = 64 := by decide
theorem cntP_all : cntP 312 = 64 := by decide +kernel
theorem cntP_two : cntP 2 = 0 := by decide +kernel
theorem all_lt (N : Nat) (p : Nat → Bool) (h : (List.range N).all p = true) (n : Nat) (hn : n < N) : p n = true := List.all_eq_true.1 h n (List.mem_range.2 hn)
theorem cntP_le (n : Nat) : cntP n ≤ 64 := by unfold cntP; have := List.length_filter_le (· < n) PL; rw [PL_length] at this; exact this
theorem cntP_lt (n : Nat) (hn : n < 312) (h2 : 2 ≤ n) : cntP n < 64 := by
  have := all_lt 312 (fun n => decide (2 ≤ n → cntP n < 64)) (by decide +kernel) n hn
  simpa using (of_decide_eq_true this) h2
theorem pr_new (n : Nat) (hn : n < 312) (h : n ∈ PL) : cntP (n + 1) = cntP n + 1 ∧ pr (cntP n) = n := by
  have := all_lt 312 (fun n => decide (n ∈ PL → cntP (n + 1) = cntP n + 1 ∧ pr (cntP n) = n)) (by decide +kernel) n hn
  exact (of_decide_eq_true this) h
theorem pr_old (n : Nat) (hn : n < 312) (h : n ∉ PL) : cntP (n + 1) = cntP n := by
  have := all_lt 312 (fun n => decide (n ∉ PL → cntP (n + 1) = cntP n)) (by decide +kernel) n hn
  exact (of_decide_eq_true this) h
theorem pr_div (n : Nat) (hn : n < 312) (h2 : 2 ≤ n) (h : n ∉ PL) : ∃ j, j < cntP n ∧ pr j * pr j ≤ n ∧ n % pr j = 0 := by
  have := all_lt 312 (fun n => decide (2 ≤ n → n ∉ PL → (List.range 7).any (fun j => decide (j < cntP n ∧ pr j * pr j ≤ n ∧ n % pr j = 0)) = true)) (by decide +kernel) n hn
  have h3 := (of_decide_eq_true this) h2 h
  obtain ⟨j, _, hj⟩ := List.any_eq_true.1 h3
  exact ⟨j, of_decide_eq_true hj⟩
theorem pr_mono (i j : Nat) (h : i ≤ j) (hj : j < 64) : pr i ≤ pr j := by
  have := all_lt 64 (fun j => (List.range 64).all fun i => decide (i ≤ j → pr i ≤ pr j)) (by decide +kernel) j hj
  have h2 := all_lt 64 _ this i (by omega)
  exact (of_decide_eq_true h2) h
theorem pr_ndiv (n : Nat) (hn : n < 312) (h : n ∈ PL) (i : Nat) (hi : i < cntP n) : n % pr i ≠ 0 := by
  have hi64 : i < 64 := Nat.lt_of_lt_of_le hi (cntP_le n)
  have := all_lt 312 (fun n => decide (n ∈ PL → (List.range 64).all (fun i => decide (i < cntP n → n % pr i ≠ 0)) = true)) (by decide +kernel) n hn
  have h2 := all_lt 64 _ ((of_decide_eq_true this) h) i hi64
  exact (of_decide_eq_true h2) hi
theorem pr_bound (i : Nat) (h : i < 64) : 2 ≤ pr i ∧ pr i < 312 := by
  have := all_lt 64 (fun i => decide (2 ≤ pr i ∧ pr i < 312)) (by decide +kernel) i h
  exact of_decide_eq_true this
/-- Nothing tried so far divides n. -/
def Tried (n i : Nat) : Prop := ∀ j, j < i → pr j * pr j ≤ n ∧ n % pr j ≠ 0
theorem Tried.zero (n : Nat) : Tried n 0 := fun j h => absurd h (Nat.not_lt_zero _)
theorem Tried.next {n i : Nat} (h : Tried n i) (h1 : pr i * pr i ≤ n) (h2 : n % pr i ≠ 0) : Tried n (i + 1) := by
  intro j hj
  by_cases e : j = i
  · subst e; exact ⟨h1, h2⟩
  · exact h j (by omega)
theorem tried_prime (n i : Nat) (hn : n < 312) (h2 : 2 ≤ n) (h : Tried n i) (hi : i = cntP n ∨ n < pr i * pr i) (hic : i ≤ cntP n) : n ∈ PL := by
  apply Classical.byContradiction
  intro hno
  obtain ⟨j, hj, hjj, hjd⟩ := pr_div n hn h2 hno
  by_cases hji : j < i
  · exact (h j hji).2 hjd
  · rcases hi with hi | hi
    · omega
    · have hm := pr_mono i j (by omega) (Nat.lt_of_lt_of_le hj (cntP_le n))
      have := Nat.mul_le_mul hm hm
      omega
theorem take_pr (f : Nat) (h : f < 64) : PL.take (f + 1) = PL.take f ++ [pr f] := by
  rw [List.take_succ_eq_append_getElem (by rw [PL_length]; exact h)]
  congr 2
  unfold pr
  simp [List.getD_eq_getElem?_getD, PL_length, h]
end Go.Proofs.YtcbodpcekjngbaaGreat
/- The walk of primes. -/
set_option linter.unusedVariables false
namespace Go.Proofs.YtcbodpcekjngbaaGreat
open Go.RowKit

/-- Numbers of 64 bits as a block's cells. -/
def arrU (l : List Nat) : Array Value := (l.map fun x : Nat => Value.int .u64 (x : Int)).toArray
theorem arrU_size (l : List Nat) : (arrU l).size = l.length := by simp [arrU]
theorem arrU_get (l : List Nat) (k x : Nat) (h : l[k]? = some x) : (arrU l)[k]? = some (.int .u64 (x : Int)) := by
  unfold arrU
  simp [h]
theorem arrU_set (l : List Nat) (k x : Nat) : (arrU l).setIfInBounds k (.int .u64 (x : Int)) = arrU (l.set k x) := by
  unfold arrU
  rw [List.setIfInBounds_toArray, List.map_set]
theorem arrU_one (l : List Nat) : (arrU l).all (·.oneCell') = true := by
  rw [Array.all_eq_true_iff_forall_mem]
  intro v hv
  simp only [arrU, List.mem_toArray, List.mem_map] at hv
  obtain ⟨j, _, rfl⟩ := hv
  rfl
theorem info_u64 : (Tryz.prog.info? 109).map (·.size) = some 64 := by kernel_rfl
/-- The first f primes, and nothing behind, in block T. -/
def PrAt (w : World) (T f : Nat) : Prop := w.heap[T]? = some (.cells (arrU (fillW (PL.take f))) 109 (0, 0))
theorem take_len (f : Nat) (h : f ≤ 64) : (PL.take f).length = f := by rw [List.length_take, PL_length]; omega
theorem PrAt.cell {w : World} {T f : Nat} (h : PrAt w T f) (hf : f ≤ 64) (i : Nat) (hi : i < f) : w.cell? ⟨T, i, none⟩ = some (.int .u64 ((pr i : Nat) : Int)) := by
  rw [cell_of_row _ _ _ _ _ _ h]
  refine arrU_get _ _ _ ?_
  rw [fillW_get _ i (by rw [take_len f hf]; exact hi), List.getElem_take]
  congr 1
  unfold pr
  simp [List.getD_eq_getElem?_getD, PL_length, show i < 64 by omega]
theorem PrAt.old {w : World} {T f : Nat} (h : PrAt w T f) (hf : f < 64) : ∃ old : Nat, w.cell? ⟨T, f, none⟩ = some (.int .u64 (old : Int)) := by
  have hk' : f < (fillW (PL.take f)).length := by rw [fillW_length _ (by rw [take_len f (by omega)]; omega)]; exact hf
  refine ⟨(fillW (PL.take f))[f], ?_⟩
  rw [cell_of_row _ _ _ _ _ _ h]
  exact arrU_get _ _ _ (List.getElem?_eq_getElem hk')
theorem PrAt.set {w : World} {T f n : Nat} (h : PrAt w T f) (hf : f < 64) (hn : pr f = n) : PrAt (w.setCell ⟨T, f, none⟩ (.int .u64 (n : Int))) T (f + 1) := by
  have h1 : (w.setCell ⟨T, f, none⟩ (.int .u64 (n : Int))).heap[T]? = _ := heap_setCell_same w T f _ _ _ h
  unfold PrAt
  have e := fillW_set (PL.take f) n (by rw [take_len f (by omega)]; exact hf)
  rw [take_len f (by omega)] at e
  rw [take_pr f hf, hn, ← e, ← arrU_set]
  exact h1

/-- What a prime found leaves. -/
structure NextP (w wr : World) (Z : Array Value) (T f n : Nat) : Prop where
  cnt : f + 1 = cntP (n + 1)
  row : PrAt (wr.setCell ⟨T, f, none⟩ (.int .u64 (n : Int))) T (f + 1)
  res : (wr.setCell ⟨T, f, none⟩ (.int .u64 (n : Int))).heap[w.heap.size]? = some (.cells Z 109 (0, 0))
  bel : Below w.heap.size w (wr.setCell ⟨T, f, none⟩ (.int .u64 (n : Int)))
theorem NextP.of {w wr : World} {Z : Array Value} {T f n : Nat} (hf : f = cntP n) (hn : n < 312) (hlt : f < 64) (hT : w.heap.size < T) (hpr : PrAt wr T f) (hres : wr.heap[w.heap.size]? = some (.cells Z 109 (0, 0))) (hbel : Below w.heap.size w wr) (h : n ∈ PL) : NextP w wr Z T f n := by
  have e := pr_new n hn h
  refine ⟨by rw [e.1, hf], hpr.set hlt (by rw [hf]; exact e.2), ?_, hbel.setCell (p := ⟨T, f, none⟩) (Nat.le_of_lt hT) _⟩
  rw [heap_setCell_other _ _ _ _ (by exact Nat.ne_of_lt hT)]
  exact hres
/-- All 64 found. -/
theorem PrAt.all {w : World} {T : Nat} (h : PrAt w T 64) : w.heap[T]? = some (.cells (arrU PL) 109 (0, 0)) := h

set_option maxRecDepth 100000 in
set_option maxHeartbeats 2000000 in
theorem primes_any (w : World) :
    Calls Tryz.prog 62 #[] w fun e w' => e = .returned (.agg (arrU PL)) ∧ Below w.heap.size w w' := by
  obtain ⟨Z, hZ, hZ2⟩ : ∃ Z : Array Value, Z = #[.int .u64 0, .int .u64 0, .int .u64 0, .int .u64 0, .int .u64 0, .int .u64 0, .int .u64 0, .int .u64 0, .int .u64 0, .int .u64 0, .int .u64 0, .int .u64 0, .int .u64 0, .int .u64 0, .int .u64 0, .int .u64 0, .int .u64 0, .int .u64 0, .int .u64 0, .int .u64 0, .int .u64 0, .int .u64 0, .int .u64 0, .int .u64 0, .int .u64 0, .int .u64 0, .int .u64 0, .int .u64 0, .int .u64 0, .int .u64 0, .int .u64 0, .int .u64 0, .int .u64 0, .int .u64 0, .int .u64 0, .int .u64 0, .int .u64 0, .int .u64 0, .int .u64 0, .int .u64 0, .int .u64 0, .int .u64 0, .int .u64 0, .int .u64 0, .int .u64 0, .int .u64 0, .int .u64 0, .int .u64 0, .int .u64 0, .int .u64 0, .int .u64 0, .int .u64 0, .int .u64 0, .int .u64 0, .int .u64 0, .int .u64 0, .int .u64 0, .int .u64 0, .int .u64 0, .int .u64 0, .int .u64 0, .int .u64 0, .int .u64 0, .int .u64 0] ∧ Z = arrU (fillW (PL.take 0)) := ⟨_, rfl, rfl⟩
  have g1 : ((w.alloc (.cells Z 109)).alloc (.cells Z 109)).heap[w.heap.size]? = some (.cells Z 109) := heap_alloc2_old _ _ _
  have g2 : ((w.alloc (.cells Z 109)).alloc (.cells Z 109)).heap[w.heap.size + 1]? = some (.cells Z 109) := heap_alloc2_new _ _ _
  have hb0 : Below w.heap.size w ((w.alloc (.cells Z 109)).alloc (.cells Z 109)) := ((Below.refl _ _).alloc (Nat.le_refl _) _).alloc (by simp) _
  have G1 := Lib.hid g1
  have G2 : Hid (PrAt ((w.alloc (.cells Z 109)).alloc (.cells Z 109)) (w.heap.size + 1) 0) := Lib.hid (by unfold PrAt; rw [← hZ2]; exact g2)
  have hzs : Z.size = 64 := by rw [hZ]; rfl
  have HZ := Lib.hid hZ
  have HZs := Lib.hid hzs
  have L0 := Lib.hid hb0
  clear g1 g2 hb0 hZ hZ2 hzs
  go_enter Tryz.func62, Tryz.ntmps62
  go_wp2
  go_step3
  go_wp2
  rw [← HZ.out]
  generalize (w.alloc (.cells Z 109)).alloc (.cells Z 109) = W2 at *
  obtain ⟨T, hT⟩ : ∃ T, T = w.heap.size + 1 := ⟨_, rfl⟩
  rw [← hT] at G2 ⊢
  have hTw : w.heap.size < T := by omega
  clear HZ hT
  go_step3
  go_wp2
  go_loopg [2, 3] 400 (fun g a b wr => ∃ (f n : Nat), n + g = 402 ∧ f = cntP n ∧ 2 ≤ n ∧ n ≤ 312 ∧ a = .int .i64 f ∧ b = .int .u64 n ∧ PrAt wr T f ∧ wr.heap[w.heap.size]? = some (.cells Z 109 (0, 0)) ∧ Below w.heap.size w wr)
  case atStart => exact ⟨0, 2, by decide, cntP_two.symm, by decide, by decide, rfl, rfl, G2.out, G1.out, L0.out⟩
  case round =>
    obtain ⟨f, n, hg, hf, h2, hn, rfl, rfl, hpr, hres, hbel⟩ := hrel
    have HF := Lib.hid hf
    have HPR := Lib.hid hpr
    have HRES := Lib.hid hres
    have HB := Lib.hid hbel
    have hf64 : f ≤ 64 := by rw [hf]; exact cntP_le n
    clear hf hres hbel
    by_cases hlt : f < 64
    · have hn312 : n < 312 := by
        rcases Nat.lt_or_ge n 312 with h | h
        · exact h
        · have e : n = 312 := by omega
          have := HF.out
          rw [e, cntP_all] at this
          omega
      obtain ⟨old, hold⟩ := hpr.old hlt
      have hfr := frozen_of_row wr T f _ _ hpr
      have HC := Lib.hid (fun i (hi : i < f) => hpr.cell hf64 i hi)
      have HNX := Lib.hid (fun h => NextP.of HF.out hn312 hlt hTw hpr HRES.out HB.out h)
      have HOLD := Lib.hid (fun h : n ∉ PL => (HF.out.trans (pr_old n hn312 h).symm))
      have fq : (f : Int) < 64 := by omega
      have f0 : (0 : Int) ≤ (f : Int) := by omega
      have fle : (f : Int) ≤ 64 := by omega
      clear hpr
      obtain ⟨wo, rfl⟩ : ∃ wo : World, wo = wr := ⟨_, rfl⟩
      go_wp2
      go_loopg [13] f (fun g i wi => wi = wo ∧ ∃ k : Nat, k + g = f ∧ i = .int .i64 k ∧ Tried n k)
      case atStart => exact ⟨rfl, 0, by omega, rfl, Tried.zero n⟩
      case round =>
        obtain ⟨rfl, k, hk, rfl, htr⟩ := hrel
        have HTR := Lib.hid htr
        clear htr
        by_cases hkf : k < f
        · have hc := HC.out k hkf
          have hpb := pr_bound k (by omega)
          have HP1 := Lib.hid (fun h => tried_prime n k hn312 h2 HTR.out (.inr h) (by rw [← HF.out]; omega))
          have HP2 := Lib.hid (fun h => pr_ndiv n hn312 h k (by rw [← HF.out]; exact hkf))
          have HP3 := Lib.hid (fun h1 h2 => HTR.out.next h1 h2)
          generalize pr k = p at *
          have hki : (k : Int) < (f : Int) := by omega
          obtain ⟨q, hq⟩ : ∃ q, q = p * p := ⟨_, rfl⟩
          obtain ⟨r, hr⟩ : ∃ r, r = n % p := ⟨_, rfl⟩
          have hqb : q < 100000 := by
            have := Nat.mul_lt_mul'' hpb.2 hpb.2
            omega
          have WQ : IntKind.u64.wrap ((p : Int) * (p : Int)) = (q : Int) := by
            rw [hq, Int.natCast_mul, IntKind.wrap_u64]
            have e : ((p : Int) * (p : Int)) = (q : Int) := by rw [hq, Int.natCast_mul]
            rw [e]
            omega
          have TM : Int.tmod (n : Int) (p : Int) = (r : Int) := by rw [hr]; rfl
          have p0 : ¬ ((p : Int) = 0) := by omega
          have hrb : r < 312 := by rw [hr]; exact Nat.lt_of_le_of_lt (Nat.mod_le _ _) hn312
          have WR : IntKind.u64.wrap (r : Int) = (r : Int) := by rw [IntKind.wrap_u64]; omega
          rw [← hq] at HP1 HP3
          rw [← hr] at HP2 HP3
          have HQ := Lib.hid hq
          have HR := Lib.hid hr
          clear hq hr
          by_cases hgt : n < q
          · have qgt : (n : Int) < (q : Int) := by omega
            have NX := HNX.out (HP1.out hgt)
            have hcn := Lib.hid NX.cnt
            have hrw := Lib.hid NX.row
            have hrs := Lib.hid NX.res
            have hbl := Lib.hid NX.bel
            clear NX
            go_wp2
            go_roundg (401 - n)
            case measure => omega
            case rel => exact ⟨f + 1, n + 1, by omega, hcn.out, by omega, by omega, rfl, rfl, hrw.out, hrs.out, hbl.out⟩
          · have qgt : ¬ ((n : Int) < (q : Int)) := by omega
            by_cases hz : r = 0
            · have hol := Lib.hid (HOLD.out fun h => HP2.out h hz)
              subst hz
              go_wp2
              go_roundg (401 - n)
              case measure => omega
              case rel => exact ⟨f, n + 1, by omega, hol.out, by omega, by omega, rfl, rfl, HPR.out, HRES.out, HB.out⟩
            · have rz : ((r : Int) == 0) = false := by simp; omega
              have rz' : ¬ ((r : Int) = 0) := by omega
              have htr := Lib.hid (HP3.out (by omega) hz)
              go_wp2
              go_roundg (gk - 1)
              case measure => omega
              case rel => exact ⟨rfl, k + 1, by omega, rfl, htr.out⟩
        · have hkf' : k = f := by omega
          have NX := HNX.out (tried_prime n k hn312 h2 HTR.out (.inl (by rw [← HF.out]; exact hkf')) (by rw [← HF.out]; omega))
          have hcn := Lib.hid NX.cnt
          have hrw := Lib.hid NX.row
          have hrs := Lib.hid NX.res
          have hbl := Lib.hid NX.bel
          clear NX
          have hki : ¬ ((k : Int) < (f : Int)) := by omega
          go_wp2
          go_roundg (401 - n)
          case measure => omega
          case rel => exact ⟨f + 1, n + 1, by omega, hcn.out, by omega, by omega, rfl, rfl, hrw.out, hrs.out, hbl.out⟩
    · obtain rfl : f = 64 := by omega
      have hh2 := hpr.all
      have AW := arrU_size PL
      rw [PL_length] at AW
      have ONE := arrU_one PL
      obtain ⟨C, hC⟩ : ∃ C, arrU PL = C := ⟨_, rfl⟩
      rw [hC] at AW ONE hh2
      have HC := Lib.hid hC; clear hC
      have Hh := Lib.hid hh2
      have HAW := Lib.hid AW
      have HONE := Lib.hid ONE
      clear hh2 AW ONE hpr
      go_wp2_with (first
        | ((with_reducible refine wpList_load_row rfl 109 (.tmp 1) rfl T rfl _ C _ _ Hh.out Tryz.underlying109 rfl (by rw [HAW.out]; exact info_u64) ?_))
        | ((with_reducible refine wpList_store_row rfl 109 (.tmp 0) (.tmp 32) rfl w.heap.size C rfl rfl _ Z HRES.out (by rw [HAW.out]; exact info_u64) (by rw [HAW.out]; exact HZs.out) HONE.out ?_)))
      go_wp2
      rw [Exit.noGoto_ret]
      exact bodyPost_ret (v := .agg C) (results_cell_row Tryz.results62 _ _ w.heap.size _ C _ _ rfl (setRow_heap _ _ _ _ _ _ HRES.out) Tryz.underlying109 rfl (by rw [HAW.out]; exact info_u64)) rfl ⟨by rw [HC.out], Below_setRow HB.out (Nat.le_refl _) _⟩
end Go.Proofs.YtcbodpcekjngbaaGreat
/- The walk of newSums. -/
set_option linter.unusedVariables false
namespace Go.Proofs.YtcbodpcekjngbaaGreat
open Go.RowKit

/-- What SHA-256 begins with, and its constants: the roots of the first primes. -/
def HL : List Nat := (PL.take 8).map fun n => bp n 2
def KL : List Nat := PL.map fun n => bp n 3
def L72 : List Nat := HL ++ KL
theorem HL_length : HL.length = 8 := by unfold HL; rw [List.length_map, List.length_take, PL_length]; rfl
theorem KL_length : KL.length = 64 := by unfold KL; rw [List.length_map, PL_length]
theorem L72_length : L72.length = 72 := by unfold L72; rw [List.length_append, HL_length, KL_length]
theorem PL_get (i : Nat) (h : i < 64) : PL[i]? = some (pr i) := by
  unfold pr
  simp [List.getD_eq_getElem?_getD, PL_length, h]
theorem L72_h (i : Nat) (h : i < 8) : L72[i]? = some (bp (pr i) 2) := by
  unfold L72
  rw [List.getElem?_append_left (by rw [HL_length]; exact h)]
  unfold HL
  rw [List.getElem?_map, List.getElem?_take_of_lt h, PL_get i (by omega)]
  rfl
theorem L72_k (i : Nat) (h : i < 64) : L72[8 + i]? = some (bp (pr i) 3) := by
  unfold L72
  rw [List.getElem?_append_right (by rw [HL_length]; omega), HL_length, Nat.add_sub_cancel_left]
  unfold KL
  rw [List.getElem?_map, PL_get i h]
  rfl
theorem KL_lt : ∀ x ∈ KL, x < 4294967296 := by
  intro x hx
  obtain ⟨n, _, rfl⟩ := List.mem_map.1 hx
  exact bp_lt n 3
def fillS (f : Nat) : List Nat := L72.take f ++ List.replicate (72 - f) 0
theorem fillS_length (f : Nat) (h : f ≤ 72) : (fillS f).length = 72 := by unfold fillS; rw [List.length_append, List.length_take, L72_length, List.length_replicate]; omega
theorem fillS_set (f x : Nat) (h : f < 72) (hx : L72[f]? = some x) : (fillS f).set f x = fillS (f + 1) := by
  unfold fillS
  have hl : (L72.take f).length = f := by rw [List.length_take, L72_length]; omega
  rw [List.set_append_right _ _ (by rw [hl]; exact Nat.le_refl _), hl, Nat.sub_self, List.take_add_one, hx, show 72 - f = (72 - (f + 1)) + 1 by omega, List.replicate_succ]
  simp
/-- The first f of the 72, and nothing behind. -/
def KAt (w : World) (kb f : Nat) : Prop := w.heap[kb]? = some (.cells (arrW (fillS f)) 107 (0, 0))
theorem KAt.old {w : World} {kb f : Nat} (h : KAt w kb f) (hf : f < 72) : ∃ old : Nat, w.cell? ⟨kb, f, none⟩ = some (.int .u32 (old : Int)) := by
  have hk' : f < (fillS f).length := by rw [fillS_length _ (by omega)]; exact hf
  refine ⟨(fillS f)[f], ?_⟩
  rw [cell_of_row _ _ _ _ _ _ h]
  exact arrW_get _ _ _ (List.getElem?_eq_getElem hk')
theorem KAt.set {w : World} {kb f x : Nat} (h : KAt w kb f) (hf : f < 72) (hx : L72[f]? = some x) : KAt (w.setCell ⟨kb, f, none⟩ (.int .u32 (x : Int))) kb (f + 1) := by
  unfold KAt
  rw [← fillS_set f x hf hx, ← arrW_set]
  exact heap_setCell_same w kb f _ _ _ h
theorem KAt.full {w : World} {kb : Nat} (h : KAt w kb 72) : SumsAt w kb HL KL := by
  have e : fillS 72 = HL ++ KL := by
    unfold fillS
    rw [List.take_of_length_le (by rw [L72_length]; exact Nat.le_refl _)]
    simp [L72]
  unfold KAt at h
  rw [e] at h
  exact h
/-- The primes in block T. -/
def PAt (w : World) (T : Nat) : Prop := w.heap[T]? = some (.cells (arrU PL) 109 (0, 0))
theorem PAt.cell {w : World} {T : Nat} (h : PAt w T) (i : Nat) (hi : i < 64) : w.cell? ⟨T, i, none⟩ = some (.int .u64 ((pr i : Nat) : Int)) := by
  rw [cell_of_row _ _ _ _ _ _ h]
  exact arrU_get _ _ _ (PL_get i hi)

theorem KAt.frozen {w : World} {kb f : Nat} (h : KAt w kb f) (k : Nat) : w.frozen? ⟨kb, k, none⟩ = false := frozen_of_row w kb k _ _ h
theorem PAt.other {w : World} {T kb k : Nat} {v : Value} (h : PAt w T) (hT : kb < T) : PAt (w.setCell ⟨kb, k, none⟩ v) T := by
  unfold PAt
  rw [heap_setCell_other _ _ _ _ (by exact Nat.ne_of_gt hT)]
  exact h
theorem zeroSums (w : World) : (zeroValue 107).run Tryz.prog w = .ok (.agg (arrW (List.replicate 72 0))) w := by kernel_rfl
theorem fillS_zero : fillS 0 = List.replicate 72 0 := by simp [fillS]

set_option maxRecDepth 100000 in
set_option maxHeartbeats 1000000 in
theorem newSums_any (w : World) :
    Calls Tryz.prog 22 #[] w fun e w' => ∃ kb, e = .returned (.pointer (some ⟨kb, 0, none⟩)) ∧ w.heap.size ≤ kb ∧ SumsAt w' kb HL KL ∧ Below w.heap.size w w' := by
  obtain ⟨Z, hZ⟩ : ∃ Z : Array Value, Z = arrW (fillS 0) := ⟨_, rfl⟩
  have ZV : ∀ w, (zeroValue 107).run Tryz.prog w = .ok (.agg Z) w := fun w => by rw [hZ, fillS_zero]; exact zeroSums w
  obtain ⟨Y, hY⟩ : ∃ Y : Array Value, Y = #[.int .u64 0, .int .u64 0, .int .u64 0, .int .u64 0, .int .u64 0, .int .u64 0, .int .u64 0, .int .u64 0, .int .u64 0, .int .u64 0, .int .u64 0, .int .u64 0, .int .u64 0, .int .u64 0, .int .u64 0, .int .u64 0, .int .u64 0, .int .u64 0, .int .u64 0, .int .u64 0, .int .u64 0, .int .u64 0, .int .u64 0, .int .u64 0, .int .u64 0, .int .u64 0, .int .u64 0, .int .u64 0, .int .u64 0, .int .u64 0, .int .u64 0, .int .u64 0, .int .u64 0, .int .u64 0, .int .u64 0, .int .u64 0, .int .u64 0, .int .u64 0, .int .u64 0, .int .u64 0, .int .u64 0, .int .u64 0, .int .u64 0, .int .u64 0, .int .u64 0, .int .u64 0, .int .u64 0, .int .u64 0, .int .u64 0, .int .u64 0, .int .u64 0, .int .u64 0, .int .u64 0, .int .u64 0, .int .u64 0, .int .u64 0, .int .u64 0, .int .u64 0, .int .u64 0, .int .u64 0, .int .u64 0, .int .u64 0, .int .u64 0, .int .u64 0] := ⟨_, rfl⟩
  try dsimp only at hY
  have hYs : Y.size = 64 := by rw [hY]; rfl
  have SP := Lib.hid (primes_any (w.alloc (.cells Z 107)))
  have HY := Lib.hid hY
  have HYs := Lib.hid hYs
  have K0 : KAt (w.alloc (.cells Z 107)) w.heap.size 0 := by unfold KAt; rw [← hZ]; exact heap_alloc_new _ _
  have HK0 := Lib.hid K0
  have HB0 := Lib.hid ((Below.refl w.heap.size w).alloc (Nat.le_refl _) (.cells Z 107))
  clear hZ hY hYs K0
  go_enter Tryz.func22, Tryz.ntmps22
  go_wp2_with fail
  generalize w.alloc (.cells Z 107) = W1 at *
  refine SP.out.mono ?_
  rintro e w1 ⟨rfl, hb1⟩
  obtain ⟨C, hC⟩ : ∃ C, arrU PL = C := ⟨_, rfl⟩
  have hCs : C.size = 64 := by rw [← hC, arrU_size, PL_length]
  have hC1 := arrU_one PL
  rw [hC] at hC1
  have hnew : (w1.alloc (.cells Y 109)).heap[w1.heap.size]? = some (.cells Y 109) := heap_alloc_new _ _
  have HNEW := Lib.hid hnew
  have HCs := Lib.hid hCs
  have HC1 := Lib.hid hC1
  have hks : w.heap.size < W1.heap.size := (Array.getElem?_eq_some_iff.1 HK0.out).1
  have hq1 : w.heap.size < w1.heap.size := Nat.lt_of_lt_of_le hks hb1.size
  have hb2 : Below W1.heap.size W1 ((w1.alloc (.cells Y 109)).setRow w1.heap.size C) := Below_setRow (hb1.alloc hb1.size _) hb1.size C
  have hk2 : KAt ((w1.alloc (.cells Y 109)).setRow w1.heap.size C) w.heap.size 0 := (hb2.block _ hks).trans HK0.out
  have hp2 : PAt ((w1.alloc (.cells Y 109)).setRow w1.heap.size C) w1.heap.size := by
    unfold PAt
    rw [hC]
    exact setRow_heap _ _ _ _ _ _ hnew
  have hbw : Below w.heap.size w ((w1.alloc (.cells Y 109)).setRow w1.heap.size C) := HB0.out.trans (hb2.mono (Nat.le_of_lt hks))
  have HK2 := Lib.hid hk2
  have HP2 := Lib.hid hp2
  have HBW := Lib.hid hbw
  rw [hC]
  clear hC hCs hC1 hnew hb2 hk2 hp2 hbw hb1 SP HK0 HB0
  go_wp2_with (first
    | (rw [← HY.out]; (with_reducible refine wpList_store_row rfl 109 (.tmp 2) (.tmp 5) rfl w1.heap.size C rfl rfl _ Y HNEW.out (by rw [HCs.out]; exact info_u64) (by rw [HCs.out]; exact HYs.out) HC1.out ?_)))
  obtain ⟨T, hT⟩ : ∃ T, T = w1.heap.size := ⟨_, rfl⟩
  rw [← hT] at HK2 HP2 HBW hq1
  try go_frame
  rw [← hT]
  generalize (w1.alloc (.cells Y 109)).setRow T C = W2 at *
  clear HNEW hT hks
  go_loopw [6] (fun i wr => ∃ k : Nat, k ≤ 8 ∧ i = .int .i64 k ∧ KAt wr w.heap.size k ∧ PAt wr T ∧ Below w.heap.size w wr) (fun i _ => 8 - (intOf i).toNat)
  case atStart => exact ⟨0, by decide, rfl, HK2.out, HP2.out, HBW.out⟩
  case round =>
    obtain ⟨k, hk, rfl, hka, hpa, hbe⟩ := hrel
    by_cases hlt : k < 8
    · obtain ⟨old, hold⟩ := hka.old (by omega)
      have hfr := hka.frozen k
      have hc := hpa.cell k (by omega)
      have hpb := (pr_bound k (by omega)).2
      have hx := L72_h k hlt
      generalize pr k = p at *
      have RB := fun w' => Lib.hid (show Calls Tryz.prog 63 #[.int .u64 p, .int .i64 2] w' _ from behindPoint_any p 2 w' (by omega) (.inl rfl))
      generalize bp p 2 = y at *
      have ki : (k : Int) < 8 := by omega
      have k0 : (0 : Int) ≤ (k : Int) := by omega
      have k64 : (k : Int) < 64 := by omega
      have HX := Lib.hid hx
      have HK := Lib.hid hka
      have HP := Lib.hid hpa
      have HB := Lib.hid hbe
      clear hx hka hpa hbe
      go_wp2_with fail
      refine (RB _).out.mono ?_
      rintro e w' ⟨rfl, m, rfl⟩
      go_wp2_with fail
      go_roundw
      case rel => exact ⟨k + 1, by omega, rfl, KAt.set (w := wr.drewN m) HK.out (by omega) HX.out, PAt.other (w := wr.drewN m) HP.out hq1, (Below_drewN HB.out m).setCell (p := ⟨w.heap.size, k, none⟩) (Nat.le_refl _) _⟩
      case measure => simp [intOf]; omega
    · have e8 : k = 8 := by omega
      rw [e8] at hka
      have HK := Lib.hid hka
      have ki : ¬ ((k : Int) < 8) := by omega
      generalize k = k8 at *
      have HP := Lib.hid hpa
      have HB := Lib.hid hbe
      clear hka hpa hbe e8
      generalize wr = W4 at *
      go_wp2_with fail
      go_loopw [17] (fun i wr => ∃ k : Nat, k ≤ 64 ∧ i = .int .i64 k ∧ KAt wr w.heap.size (8 + k) ∧ PAt wr T ∧ Below w.heap.size w wr) (fun i _ => 64 - (intOf i).toNat)
      case atStart => exact ⟨0, by decide, rfl, HK.out, HP.out, HB.out⟩
      case round =>
        obtain ⟨k, hk, rfl, hka, hpa, hbe⟩ := hrel
        by_cases hlt : k < 64
        · obtain ⟨old, hold⟩ := hka.old (by omega)
          have hfr := hka.frozen (8 + k)
          have hc := hpa.cell k (by omega)
          have hpb := (pr_bound k (by omega)).2
          have hx := L72_k k hlt
          generalize pr k = p at *
          have RB := fun w' => Lib.hid (show Calls Tryz.prog 63 #[.int .u64 p, .int .i64 3] w' _ from behindPoint_any p 3 w' (by omega) (.inr rfl))
          generalize bp p 3 = y at *
          have ki : (k : Int) < 64 := by omega
          have k0 : (0 : Int) ≤ (k : Int) := by omega
          have HX := Lib.hid hx
          have HK5 := Lib.hid hka
          have HP5 := Lib.hid hpa
          have HB5 := Lib.hid hbe
          clear hx hka hpa hbe
          go_wp2_with fail
          refine (RB _).out.mono ?_
          rintro e w' ⟨rfl, m, rfl⟩
          go_wp2_with fail
          go_roundw
          case rel => exact ⟨k + 1, by omega, rfl, KAt.set (w := wr.drewN m) HK5.out (by omega) HX.out, PAt.other (w := wr.drewN m) HP5.out hq1, (Below_drewN HB5.out m).setCell (p := ⟨w.heap.size, 8 + k, none⟩) (Nat.le_refl _) _⟩
          case measure => simp [intOf]; omega
        · obtain rfl : k = 64 := by omega
          have HK5 := Lib.hid hka
          have HB5 := Lib.hid hbe
          clear hka hpa hbe
          go_wp2_with fail
          go_ret
          exact ⟨w.heap.size, rfl, Nat.le_refl _, KAt.full HK5.out, HB5.out⟩
end Go.Proofs.YtcbodpcekjngbaaGreat
/- The walks of marks.Sum and marks.Real; a real book. -/
set_option linter.unusedVariables false
namespace Go.Proofs.YtcbodpcekjngbaaGreat
open Go.RowKit

/-- What SHA-256 begins with, as a state. -/
def H0 : St := ⟨bp 2 2, bp 3 2, bp 5 2, bp 7 2, bp 11 2, bp 13 2, bp 17 2, bp 19 2⟩
theorem H0_toL : H0.toL = HL := rfl
theorem H0_ok : H0.ok := by
  refine ⟨?_, ?_, ?_, ?_, ?_, ?_, ?_, ?_⟩ <;> exact bp_lt _ _

end Go.Proofs.YtcbodpcekjngbaaGreat
/- A real book: made, asked. -/
set_option linter.unusedVariables false
namespace Go.Proofs.YtcbodpcekjngbaaGreat
open Go.RowKit

/-- A real book in block p, its numbers in block kb. -/
structure RealAt (w : World) (p kb : Nat) : Prop where
  book : BookAt w p (some ⟨kb, 0, none⟩) none
  sums : SumsAt w kb HL KL
theorem RealAt.lt {w : World} {p kb : Nat} (h : RealAt w p kb) : p < w.heap.size ∧ kb < w.heap.size := ⟨(Array.getElem?_eq_some_iff.1 h.book).1, (Array.getElem?_eq_some_iff.1 h.sums).1⟩
theorem RealAt.kept {w w' : World} {M : Nat → Prop} {p kb : Nat} (h : RealAt w p kb) (hk : Kept M w w') (hp : ¬ M p) (hm : ¬ M kb) : RealAt w' p kb :=
  ⟨(hk.block p h.lt.1 hp).trans h.book, (hk.block kb h.lt.2 hm).trans h.sums⟩
theorem RealAt.new {w w' : World} {p kb : Nat} (h : RealAt w p kb) (hb : Below w.heap.size w w') : RealAt w' p kb := h.kept (Kept.new hb (fun _ => False)) id id
/-- A real book's mark of a text. -/
def realM (l : Txt) : Txt := shaS KL H0 l

set_option maxRecDepth 100000 in
theorem real_any (w : World) : Calls Tryz.prog 9 #[] w fun e w' => ∃ p kb, e = .returned (.pointer (some ⟨p, 0, none⟩)) ∧ RealAt w' p kb ∧ w.heap.size ≤ p ∧ w.heap.size ≤ kb ∧ Below w.heap.size w w' := by
  have N := Lib.hid (newSums_any w)
  go_enter Tryz.func9, Tryz.ntmps9
  go_wp2_with fail
  refine N.out.mono ?_
  rintro e w1 ⟨kb, rfl, hkb, hs, hb1⟩
  have hb2 : Below w.heap.size w (w1.alloc (.cells #[.pointer (some ⟨kb, 0, none⟩), .map none] 63)) := hb1.alloc hb1.size _
  have hnew : BookAt (w1.alloc (.cells #[.pointer (some ⟨kb, 0, none⟩), .map none] 63)) w1.heap.size (some ⟨kb, 0, none⟩) none := heap_alloc_new _ _
  have hlt : kb < w1.heap.size := (Array.getElem?_eq_some_iff.1 hs).1
  have hold : SumsAt (w1.alloc (.cells #[.pointer (some ⟨kb, 0, none⟩), .map none] 63)) kb HL KL := (((Below.refl w1.heap.size w1).alloc (Nat.le_refl _) _).block kb hlt).trans hs
  have HB2 := Lib.hid hb2
  have HN := Lib.hid hnew
  have HO := Lib.hid hold
  have HS := Lib.hid hb1.size
  clear hb2 hnew hold hs hb1 hlt N
  go_wp2_with fail
  go_ret
  exact ⟨w1.heap.size, kb, rfl, ⟨HN.out, HO.out⟩, HS.out, hkb, HB2.out⟩

theorem mark_real (w : World) (p kb : Nat) (s : Txt) (h : RealAt w p kb) (hl : s.length ≤ 1000000) :
    Calls Tryz.prog 31 #[.pointer (some ⟨p, 0, none⟩), .string ⟨s.toArray⟩] w fun e w' => e = .returned (.string ⟨(realM s).toArray⟩) ∧ Below w.heap.size w w' := by
  have C1 := Lib.hid (isReal_any w p _ _ h.book)
  have C3 := Lib.hid (of_any kb H0 KL s w H0_ok KL_length KL_lt hl h.sums)
  have c0 := h.book.c0
  unfold realM
  generalize shaS KL H0 s = r at *
  clear h
  go_enter Tryz.func31, Tryz.ntmps31
  go_wp2_with fail
  refine C1.out.mono ?_
  rintro e w' ⟨rfl, rfl⟩
  go_wp2_with fail
  refine C3.out.mono ?_
  rintro e w1 ⟨rfl, hb1⟩
  have HB := Lib.hid hb1; clear hb1
  go_wp2_with fail
  go_ret
  exact ⟨rfl, HB.out⟩

theorem is_real (w : World) (p kb : Nat) (s m : Txt) (h : RealAt w p kb) (hl : s.length ≤ 1000000) :
    Calls Tryz.prog 38 #[.pointer (some ⟨p, 0, none⟩), .string ⟨s.toArray⟩, .string ⟨m.toArray⟩] w fun e w' => e = .returned (.bool (decide (realM s = m))) ∧ Below w.heap.size w w' := by
  have C1 := Lib.hid (isReal_any w p _ _ h.book)
  have C3 := Lib.hid (of_any kb H0 KL s w H0_ok KL_length KL_lt hl h.sums)
  have c0 := h.book.c0
  unfold realM
  generalize shaS KL H0 s = r at *
  clear h
  go_enter Tryz.func38, Tryz.ntmps38
  go_wp2_with fail
  refine C1.out.mono ?_
  rintro e w' ⟨rfl, rfl⟩
  go_wp2_with fail
  refine C3.out.mono ?_
  rintro e w1 ⟨rfl, hb1⟩
  have HB := Lib.hid hb1; clear hb1
  go_wp2_with fail
  go_ret
  exact ⟨ret_bool (by rw [Bool.eq_iff_iff]; simp), HB.out⟩

end Go.Proofs.YtcbodpcekjngbaaGreat

/- The weak sum over lists: of no program. -/
import Derived.Test.YtpkgjokehgihjaaGreatGen
set_option linter.unusedVariables false
namespace Go.Proofs.YtpkgjokehgihjaaGreat

/-- The sum of all bytes, and that of all weighed by how many stand from each on. -/
def aS : List UInt8 → Nat
  | [] => 0
  | c :: l => c.toNat + aS l
def bS : List UInt8 → Nat
  | [] => 0
  | c :: l => (l.length + 1) * c.toNat + bS l
theorem aS_append (l m : List UInt8) : aS (l ++ m) = aS l + aS m := by
  induction l with
  | nil => simp [aS]
  | cons c l ih => rw [List.cons_append, aS, aS, ih]; omega
theorem bS_append (l m : List UInt8) : bS (l ++ m) = bS l + m.length * aS l + bS m := by
  induction l with
  | nil => simp [bS, aS]
  | cons c l ih => rw [List.cons_append, bS, bS, aS, ih, List.length_append]; grind
/-- Both of 16 bits, and as one number. -/
def lo (l : List UInt8) : Nat := aS l % 65536
def hi (l : List UInt8) : Nat := bS l % 65536
def wk (l : List UInt8) : Nat := lo l + 65536 * hi l
theorem lo_lt (l : List UInt8) : lo l < 65536 := Nat.mod_lt _ (by decide)
theorem hi_lt (l : List UInt8) : hi l < 65536 := Nat.mod_lt _ (by decide)
theorem wk_lt (l : List UInt8) : wk l < 4294967296 := by have := lo_lt l; have := hi_lt l; unfold wk; omega
theorem lo_nil : lo [] = 0 := rfl
theorem hi_nil : hi [] = 0 := rfl
theorem lo_snoc (l : List UInt8) (c : UInt8) : lo (l ++ [c]) = (lo l + c.toNat) % 65536 := by unfold lo; rw [aS_append]; simp only [aS]; omega
theorem hi_snoc (l : List UInt8) (c : UInt8) : hi (l ++ [c]) = (hi l + lo (l ++ [c])) % 65536 := by
  unfold hi lo; rw [aS_append, bS_append]; simp only [aS, bS, List.length_cons, List.length_nil]; omega
theorem lo_tail (l : List UInt8) (c : UInt8) : (((lo (c :: l) : Nat) : Int) - (c.toNat : Int)) % 65536 = ((lo l : Nat) : Int) := by unfold lo; rw [aS]; omega
theorem hi_tail (l : List UInt8) (c : UInt8) (n : Nat) (hn : n = l.length + 1) : (((hi (c :: l) : Nat) : Int) - ((n * c.toNat : Nat) : Int)) % 65536 = ((hi l : Nat) : Int) := by
  unfold hi; rw [bS, ← hn]; generalize n * c.toNat = z; omega
theorem lo_append (l m : List UInt8) : lo (l ++ m) = (lo l + lo m) % 65536 := by unfold lo; rw [aS_append]; omega
theorem mod_add_mul (b n a : Nat) : (b % 65536 + n * (a % 65536)) % 65536 = (b + n * a) % 65536 := by
  rw [Nat.add_mod, Nat.mod_mod, Nat.mul_mod, Nat.mod_mod, ← Nat.mul_mod, ← Nat.add_mod]
theorem hi_append (l m : List UInt8) : hi (l ++ m) = (hi l + m.length * lo l + hi m) % 65536 := by
  unfold hi lo
  have h := mod_add_mul (bS l) m.length (aS l)
  rw [bS_append]
  generalize bS l % 65536 + m.length * (aS l % 65536) = x at *
  generalize bS l + m.length * aS l = y at *
  omega

/-! ### As the document reckons it -/
/-- All weighed by n, n - 1, .. -/
def bW : Nat → List UInt8 → Nat
  | _, [] => 0
  | n, c :: l => n * c.toNat + bW (n - 1) l
theorem bW_self (l : List UInt8) : bW l.length l = bS l := by
  induction l with
  | nil => rfl
  | cons c l ih => rw [bW, bS, List.length_cons, Nat.add_sub_cancel, ih]
theorem bW_snoc (n : Nat) (l : List UInt8) (c : UInt8) : bW n (l ++ [c]) = bW n l + (n - l.length) * c.toNat := by
  induction l generalizing n with
  | nil => simp [bW]
  | cons d l ih => rw [List.cons_append, bW, bW, ih, List.length_cons, show n - 1 - l.length = n - (l.length + 1) by omega]; omega
theorem bW_take (l : List UInt8) (n k : Nat) (hk : k < l.length) : bW n (l.take (k + 1)) % 65536 = (bW n (l.take k) % 65536 + (n - k) % 65536 * l[k].toNat) % 65536 := by
  rw [List.take_succ_eq_append_getElem hk, bW_snoc, List.length_take, Nat.min_eq_left (Nat.le_of_lt hk)]
  rw [Nat.add_mod (bW n (l.take k) % 65536), Nat.mod_mod, Nat.mul_mod ((n - k) % 65536), Nat.mod_mod, ← Nat.mul_mod, ← Nat.add_mod]
theorem lo_take (l : List UInt8) (k : Nat) (hk : k < l.length) : lo (l.take (k + 1)) = (lo (l.take k) + l[k].toNat) % 65536 := by
  rw [List.take_succ_eq_append_getElem hk, lo_snoc]
theorem hi_take (l : List UInt8) (k : Nat) (hk : k < l.length) : hi (l.take (k + 1)) = (hi (l.take k) + (lo (l.take k) + l[k].toNat) % 65536) % 65536 := by
  rw [← lo_take l k hk, List.take_succ_eq_append_getElem hk, hi_snoc]

/-! ### Two joined, and three -/
def jn (x y n : Nat) : Nat := (x % 65536 + y % 65536) % 65536 + 65536 * ((x / 65536 + n % 65536 * (x % 65536) % 65536 + y / 65536) % 65536)
theorem jn_lt (x y n : Nat) : jn x y n < 4294967296 := by
  have := Nat.mod_lt (x % 65536 + y % 65536) (y := 65536) (by decide)
  have := Nat.mod_lt (x / 65536 + n % 65536 * (x % 65536) % 65536 + y / 65536) (y := 65536) (by decide)
  unfold jn; omega
theorem wk_parts (l : List UInt8) : wk l % 65536 = lo l ∧ wk l / 65536 = hi l := by have := lo_lt l; unfold wk; omega
theorem jn_wk (l m : List UInt8) : jn (wk l) (wk m) m.length = wk (l ++ m) := by
  obtain ⟨a, b⟩ := wk_parts l
  obtain ⟨c, d⟩ := wk_parts m
  unfold jn
  rw [a, b, c, d, wk, lo_append, hi_append]
  have e : (hi l + m.length % 65536 * lo l % 65536 + hi m) % 65536 = (hi l + m.length * lo l + hi m) % 65536 := by
    have h : (m.length % 65536 * lo l) % 65536 = (m.length * lo l) % 65536 := by rw [Nat.mul_mod, Nat.mod_mod, ← Nat.mul_mod]
    generalize m.length % 65536 * lo l = x at *
    generalize m.length * lo l = y at *
    omega
  rw [e]
theorem jn_parts (x y n : Nat) : jn x y n % 65536 = (x % 65536 + y % 65536) % 65536 ∧ jn x y n / 65536 = (x / 65536 + n % 65536 * (x % 65536) % 65536 + y / 65536) % 65536 := by
  unfold jn
  generalize (x / 65536 + n % 65536 * (x % 65536) % 65536 + y / 65536) % 65536 = h
  omega
theorem mul_mod1 (n a : Nat) : n % 65536 * a % 65536 = n * a % 65536 := by rw [Nat.mul_mod, Nat.mod_mod, ← Nat.mul_mod]
theorem mul_mod2 (n a : Nat) : n * (a % 65536) % 65536 = n * a % 65536 := by rw [Nat.mul_mod, Nat.mod_mod, ← Nat.mul_mod]
theorem jn_three (x y z n m : Nat) : jn (jn x y n) z m = jn x (jn y z m) (n + m) := by
  obtain ⟨a, b⟩ := jn_parts x y n
  obtain ⟨c, d⟩ := jn_parts y z m
  rw [show jn (jn x y n) z m = (jn x y n % 65536 + z % 65536) % 65536 + 65536 * ((jn x y n / 65536 + m % 65536 * (jn x y n % 65536) % 65536 + z / 65536) % 65536) from rfl]
  rw [show jn x (jn y z m) (n + m) = (x % 65536 + jn y z m % 65536) % 65536 + 65536 * ((x / 65536 + (n + m) % 65536 * (x % 65536) % 65536 + jn y z m / 65536) % 65536) from rfl]
  rw [a, b, c, d]
  clear a b c d
  generalize x % 65536 = x0
  generalize y % 65536 = y0
  generalize z % 65536 = z0
  generalize x / 65536 = x1
  generalize y / 65536 = y1
  generalize z / 65536 = z1
  simp only [mul_mod1, mul_mod2]
  rw [Nat.mul_add, Nat.add_mul]
  generalize n * x0 = p
  generalize m * x0 = q
  generalize m * y0 = r
  omega

/-! ### Windows -/
/-- What lies in a window. -/
def win (l : List UInt8) (n k : Nat) : List UInt8 := (l.take (k + n)).drop k
theorem win_length (l : List UInt8) (n k : Nat) (h : k + n ≤ l.length) : (win l n k).length = n := by unfold win; simp; omega
theorem win_cons (l : List UInt8) (n k : Nat) (hk : k < l.length) : win l (n + 1) k = l[k] :: win l n (k + 1) := by
  unfold win
  have h1 : k < (l.take (k + 1 + n)).length := by rw [List.length_take]; omega
  rw [show k + (n + 1) = k + 1 + n by omega, List.drop_eq_getElem_cons h1, List.getElem_take]
theorem win_snoc (l : List UInt8) (n k : Nat) (h : k + n < l.length) : win l (n + 1) k = win l n k ++ [l[k + n]] := by
  unfold win
  rw [show k + (n + 1) = k + n + 1 by omega, List.take_succ_eq_append_getElem h, List.drop_append_of_le_length (by rw [List.length_take]; omega)]
/-- One byte is let go, and one is taken in. -/
theorem win_lo (l : List UInt8) (n k : Nat) (h : k + n < l.length) (hn : 0 < n) : ((((lo (win l n k) : Nat) : Int) - ((l[k]'(by omega)).toNat : Int)) % 65536 + ((l[k + n]'h).toNat : Int)) % 65536 = ((lo (win l n (k + 1)) : Nat) : Int) := by
  obtain ⟨m, rfl⟩ : ∃ m, n = m + 1 := ⟨n - 1, by omega⟩
  rw [win_cons l m k (by omega), lo_tail, win_snoc l m (k + 1) (by omega), lo_snoc]
  simp only [show k + 1 + m = k + (m + 1) by omega]
  omega
theorem win_hi (l : List UInt8) (n k : Nat) (h : k + n < l.length) (hn : 0 < n) : ((((hi (win l n k) : Nat) : Int) - ((n * (l[k]'(by omega)).toNat : Nat) : Int)) % 65536 + ((lo (win l n (k + 1)) : Nat) : Int)) % 65536 = ((hi (win l n (k + 1)) : Nat) : Int) := by
  obtain ⟨m, rfl⟩ : ∃ m, n = m + 1 := ⟨n - 1, by omega⟩
  have hl : (win l m (k + 1)).length = m := win_length _ _ _ (by omega)
  rw [win_cons l m k (by omega), hi_tail _ _ _ (by rw [hl]), win_snoc l m (k + 1) (by omega), hi_snoc]
  omega
theorem win_self (l : List UInt8) (n k : Nat) (h : k + n = l.length) : win l n k = l.drop k := by unfold win; rw [List.take_of_length_le (by omega)]

/-- The sums of all windows. -/
def allS (l : List UInt8) (n : Nat) : List Nat := (List.range (l.length + 1 - n)).map fun k => wk (win l n k)
/-- All places at which m stands. -/
def findS (l m : List UInt8) : List Nat := (List.range (l.length + 1 - m.length)).filter fun k => decide (win l m.length k = m)
end Go.Proofs.YtpkgjokehgihjaaGreat

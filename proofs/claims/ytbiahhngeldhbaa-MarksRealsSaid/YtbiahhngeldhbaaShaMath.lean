/- SHA-256 over natural numbers: words, rounds, blocks, padding; and that both ways to take blocks are one. Of no program. -/
set_option linter.unusedVariables false
namespace Go.Proofs.Ytbiahhngeldhbaa

def low32 (n : Nat) : Nat := n % 4294967296
def rotr (x n : Nat) : Nat := x / 2 ^ n ||| x * 2 ^ (32 - n) % 4294967296
def sg0 (x : Nat) : Nat := (rotr x 7 ^^^ rotr x 18) ^^^ x / 8
def sg1 (x : Nat) : Nat := (rotr x 17 ^^^ rotr x 19) ^^^ x / 1024
def Sg1 (x : Nat) : Nat := (rotr x 6 ^^^ rotr x 11) ^^^ rotr x 25
def Sg0 (x : Nat) : Nat := (rotr x 2 ^^^ rotr x 13) ^^^ rotr x 22
def chS (e f g : Nat) : Nat := (e &&& f) ^^^ ((4294967295 - e) &&& g)
def majS (a b c : Nat) : Nat := ((a &&& b) ^^^ (a &&& c)) ^^^ (b &&& c)

/-- The eight words. -/
structure St where
  a : Nat
  b : Nat
  c : Nat
  d : Nat
  e : Nat
  f : Nat
  g : Nat
  h : Nat
def St.ok (s : St) : Prop := s.a < 4294967296 ∧ s.b < 4294967296 ∧ s.c < 4294967296 ∧ s.d < 4294967296 ∧ s.e < 4294967296 ∧ s.f < 4294967296 ∧ s.g < 4294967296 ∧ s.h < 4294967296
def St.toL (s : St) : List Nat := [s.a, s.b, s.c, s.d, s.e, s.f, s.g, s.h]
def tS (s : St) (k w : Nat) : Nat := s.h + Sg1 s.e + chS s.e s.f s.g + k + w
def uS (s : St) : Nat := Sg0 s.a + majS s.a s.b s.c
def rnd (s : St) (k w : Nat) : St := ⟨low32 (tS s k w + uS s), s.a, s.b, s.c, low32 (s.d + tS s k w), s.e, s.f, s.g⟩
def addSt (s v : St) : St := ⟨low32 (s.a + v.a), low32 (s.b + v.b), low32 (s.c + v.c), low32 (s.d + v.d), low32 (s.e + v.e), low32 (s.f + v.f), low32 (s.g + v.g), low32 (s.h + v.h)⟩
theorem low32_lt (n : Nat) : low32 n < 4294967296 := Nat.mod_lt _ (by decide)
theorem rnd_ok {s : St} (h : s.ok) (k w : Nat) : (rnd s k w).ok := by
  obtain ⟨h1, h2, h3, h4, h5, h6, h7, h8⟩ := h
  exact ⟨low32_lt _, h1, h2, h3, low32_lt _, h5, h6, h7⟩
theorem addSt_ok (s v : St) : (addSt s v).ok := ⟨low32_lt _, low32_lt _, low32_lt _, low32_lt _, low32_lt _, low32_lt _, low32_lt _, low32_lt _⟩
def rnds (K W : List Nat) (s : St) : Nat → St
  | 0 => s
  | i + 1 => rnd (rnds K W s i) (K.getD i 0) (W.getD i 0)
theorem rnds_ok {K W : List Nat} {s : St} (h : s.ok) : ∀ i, (rnds K W s i).ok
  | 0 => h
  | i + 1 => rnd_ok (rnds_ok h i) _ _

/-- One word more. -/
def nextW (w : List Nat) : Nat := low32 (w.getD (w.length - 16) 0 + sg0 (w.getD (w.length - 15) 0) + w.getD (w.length - 7) 0 + sg1 (w.getD (w.length - 2) 0))
def wordsN (w : List Nat) : Nat → List Nat
  | 0 => w
  | k + 1 => wordsN w k ++ [nextW (wordsN w k)]
theorem wordsN_length (w : List Nat) (k : Nat) : (wordsN w k).length = w.length + k := by
  induction k with
  | zero => rfl
  | succ k ih => rw [wordsN, List.length_append, ih]; simp; omega
theorem wordsN_lt (w : List Nat) (h : ∀ x ∈ w, x < 4294967296) (k : Nat) : ∀ x ∈ wordsN w k, x < 4294967296 := by
  induction k with
  | zero => exact h
  | succ k ih =>
    intro x hx
    rw [wordsN] at hx
    rcases List.mem_append.1 hx with hx | hx
    · exact ih x hx
    · simp at hx; subst hx; exact low32_lt _
/-- A block's word of the place i, of its bytes. -/
def wordB (b : List UInt8) (i : Nat) : Nat := (b.getD (4 * i) 0).toNat * 16777216 + (b.getD (4 * i + 1) 0).toNat * 65536 + (b.getD (4 * i + 2) 0).toNat * 256 + (b.getD (4 * i + 3) 0).toNat
def words16 (b : List UInt8) : Nat → List Nat
  | 0 => []
  | k + 1 => words16 b k ++ [wordB b k]
theorem wordB_lt (b : List UInt8) (i : Nat) : wordB b i < 4294967296 := by
  unfold wordB
  have h1 := (b.getD (4 * i) 0).toNat_lt
  have h2 := (b.getD (4 * i + 1) 0).toNat_lt
  have h3 := (b.getD (4 * i + 2) 0).toNat_lt
  have h4 := (b.getD (4 * i + 3) 0).toNat_lt
  omega
theorem words16_length (b : List UInt8) (k : Nat) : (words16 b k).length = k := by
  induction k with
  | zero => rfl
  | succ k ih => rw [words16, List.length_append, ih]; rfl
theorem words16_lt (b : List UInt8) (k : Nat) : ∀ x ∈ words16 b k, x < 4294967296 := by
  induction k with
  | zero => simp [words16]
  | succ k ih =>
    intro x hx
    rw [words16] at hx
    rcases List.mem_append.1 hx with hx | hx
    · exact ih x hx
    · simp at hx; subst hx; exact wordB_lt _ _
def wordsOf (b : List UInt8) : List Nat := wordsN (words16 b 16) 48
theorem wordsOf_length (b : List UInt8) : (wordsOf b).length = 64 := by unfold wordsOf; rw [wordsN_length, words16_length]
theorem wordsOf_lt (b : List UInt8) : ∀ x ∈ wordsOf b, x < 4294967296 := wordsN_lt _ (words16_lt b 16) 48
/-- A state behind a block. -/
def blkS (K : List Nat) (s : St) (b : List UInt8) : St := addSt s (rnds K (wordsOf b) s 64)
/-- A state behind the first j blocks of l. -/
def absorb (K : List Nat) (s : St) (l : List UInt8) : Nat → St
  | 0 => s
  | j + 1 => blkS K (absorb K s l j) ((l.drop (64 * j)).take 64)
theorem absorb_ok {K : List Nat} {s : St} (h : s.ok) (l : List UInt8) : ∀ j, (absorb K s l j).ok
  | 0 => h
  | j + 1 => addSt_ok _ _

/-- A number's byte of the place i, the highest of eight first. -/
def beB (n i : Nat) : UInt8 := UInt8.ofNat (n / 2 ^ (8 * (7 - i)) % 256)
def be8 (n : Nat) : List UInt8 := (List.range 8).map (beB n)
theorem be8_length (n : Nat) : (be8 n).length = 8 := by simp [be8]
def padZ (n : Nat) : Nat := (119 - n % 64) % 64
def padS (l : List UInt8) : List UInt8 := l ++ (128 :: (List.replicate (padZ l.length) 0 ++ be8 (8 * l.length)))
theorem padS_length (l : List UInt8) : (padS l).length = 64 * (l.length / 64 + if l.length % 64 < 56 then 1 else 2) := by
  unfold padS padZ
  simp only [List.length_append, List.length_cons, List.length_replicate, be8_length]
  split <;> omega
def wordBytes (n : Nat) : List UInt8 := [UInt8.ofNat (n / 16777216 % 256), UInt8.ofNat (n / 65536 % 256), UInt8.ofNat (n / 256 % 256), UInt8.ofNat (n % 256)]
def bytesOfL (l : List Nat) : List UInt8 := l.flatMap wordBytes
/-- SHA-256, over what a state begins with and what the rounds add. -/
def shaS (K : List Nat) (H : St) (l : List UInt8) : List UInt8 := bytesOfL (absorb K H (padS l) ((padS l).length / 64)).toL

theorem drop_take_append (l t : List UInt8) (j : Nat) (h : 64 * (j + 1) ≤ l.length) : ((l ++ t).drop (64 * j)).take 64 = (l.drop (64 * j)).take 64 := by
  rw [List.drop_append_of_le_length (by omega), List.take_append_of_le_length (by rw [List.length_drop]; omega)]
theorem absorb_append (K : List Nat) (s : St) (l t : List UInt8) (j : Nat) (h : 64 * j ≤ l.length) : absorb K s (l ++ t) j = absorb K s l j := by
  induction j with
  | zero => rfl
  | succ j ih => rw [absorb, absorb, ih (by omega), drop_take_append _ _ _ h]

/-- The last block(s), as the rest r of a text of n bytes makes them. -/
def last1 (r : List UInt8) (n : Nat) : List UInt8 := r ++ (128 :: (List.replicate (55 - r.length) 0 ++ be8 (8 * n)))
def last2a (r : List UInt8) : List UInt8 := r ++ (128 :: List.replicate (63 - r.length) 0)
def last2b (n : Nat) : List UInt8 := List.replicate 56 0 ++ be8 (8 * n)

theorem sha_one (K : List Nat) (H : St) (l : List UInt8) (q : Nat) (hq : q = l.length / 64) (h : l.length % 64 < 56) :
    shaS K H l = bytesOfL (blkS K (absorb K H l q) (last1 (l.drop (64 * q)) l.length)).toL := by
  have hl := padS_length l
  rw [if_pos h] at hl
  unfold shaS
  rw [hl, Nat.mul_div_cancel_left _ (by decide), ← hq, absorb]
  unfold padS
  rw [absorb_append _ _ _ _ _ (by omega)]
  congr 3
  rw [List.drop_append_of_le_length (by omega), List.take_of_length_le]
  · unfold last1
    rw [List.length_drop]
    have : padZ l.length = 55 - (l.length - 64 * q) := by unfold padZ; omega
    rw [this]
  · unfold padZ
    simp only [List.length_append, List.length_drop, List.length_cons, List.length_replicate, be8_length]
    omega

theorem sha_two (K : List Nat) (H : St) (l : List UInt8) (q : Nat) (hq : q = l.length / 64) (h : ¬ l.length % 64 < 56) :
    shaS K H l = bytesOfL (blkS K (blkS K (absorb K H l q) (last2a (l.drop (64 * q)))) (last2b l.length)).toL := by
  have hl := padS_length l
  rw [if_neg h] at hl
  unfold shaS
  rw [hl, Nat.mul_div_cancel_left _ (by decide), ← hq, absorb, absorb]
  unfold padS
  rw [absorb_append _ _ _ _ _ (by omega)]
  have hz : padZ l.length = (63 - (l.length - 64 * q)) + 56 := by unfold padZ; omega
  have e1 : (List.drop (64 * q) (l ++ 128 :: (List.replicate (padZ l.length) 0 ++ be8 (8 * l.length)))) = last2a (l.drop (64 * q)) ++ last2b l.length := by
    rw [List.drop_append_of_le_length (by omega), hz]
    unfold last2a last2b
    rw [List.length_drop, ← List.replicate_append_replicate]
    simp
  have l1 : (last2a (l.drop (64 * q))).length = 64 := by
    unfold last2a
    simp only [List.length_append, List.length_drop, List.length_cons, List.length_replicate]
    omega
  have l2 : (last2b l.length).length = 64 := by
    unfold last2b
    simp [be8_length]
  have e2 : List.drop (64 * (q + 1)) (l ++ 128 :: (List.replicate (padZ l.length) 0 ++ be8 (8 * l.length))) = last2b l.length := by
    rw [Nat.mul_add, Nat.mul_one, ← List.drop_drop, e1, List.drop_append_of_le_length (by omega), List.drop_eq_nil_of_le (by omega), List.nil_append]
  rw [e1, e2, List.take_append_of_le_length (by omega), List.take_of_length_le (by omega), List.take_of_length_le (by omega)]
end Go.Proofs.Ytbiahhngeldhbaa

/- Numbers of digits to the base 65536, the lowest first; the document's roots. -/
import Derived.Test.YtbiahhngeldhbaaNewSumsW
set_option linter.unusedVariables false
namespace Go.Proofs.Ytbiahhngeldhbaa

def rootR (n p : Nat) : Nat → Nat → Nat
  | 0, x => x
  | e + 1, x => rootR n p e (if (x + 2 ^ e) ^ p ≤ n * 2 ^ (32 * p) then x + 2 ^ e else x)
def rroot (n p : Nat) : Nat := rootR n p 36 0 % 4294967296
theorem roots3 : PL.all (fun n => rroot n 3 == bp n 3) = true := by decide +kernel
theorem roots2 : (PL.take 8).all (fun n => rroot n 2 == bp n 2) = true := by decide +kernel
theorem KL_roots : PL.map (fun n => rroot n 3) = KL := by
  unfold KL
  exact List.map_congr_left fun n hn => beq_iff_eq.1 (List.all_eq_true.1 roots3 n hn)
theorem HL_roots : (PL.take 8).map (fun n => rroot n 2) = HL := by
  unfold HL
  exact List.map_congr_left fun n hn => beq_iff_eq.1 (List.all_eq_true.1 roots2 n hn)

def val : List Nat → Nat
  | [] => 0
  | x :: l => x + 65536 * val l
theorem val_set (l : List Nat) (k x z : Nat) (h : l[k]? = some z) : val (l.set k x) + 65536 ^ k * z = val l + 65536 ^ k * x := by
  induction l generalizing k with
  | nil => simp at h
  | cons a l ih =>
    cases k with
    | zero =>
      simp at h
      subst h
      simp [val]
      omega
    | succ k =>
      have := ih k (by simpa using h)
      simp only [List.set_cons_succ, val, Nat.pow_succ, Nat.mul_assoc, Nat.mul_left_comm _ 65536]
      omega
theorem val_take (l : List Nat) (k z : Nat) (h : l[k]? = some z) : val (l.take (k + 1)) = val (l.take k) + z * 65536 ^ k := by
  induction l generalizing k with
  | nil => simp at h
  | cons a l ih =>
    cases k with
    | zero =>
      simp at h
      subst h
      simp [val]
    | succ k =>
      have := ih k (by simpa using h)
      simp only [List.take_succ_cons, val, this, Nat.pow_succ, Nat.mul_add, Nat.add_assoc]
      rw [Nat.mul_comm (65536 ^ k) 65536, Nat.mul_left_comm]

structure Out (a b o : List Nat) (i : Nat) : Prop where
  len : o.length = a.length + b.length
  lt : ∀ x ∈ o, x < 65536
  zer : ∀ k, i + b.length ≤ k → k < a.length + b.length → o[k]? = some 0
  v : val o = val (a.take i) * val b
structure Inn (a b o : List Nat) (i j c x : Nat) : Prop where
  len : o.length = a.length + b.length
  lt : ∀ x ∈ o, x < 65536
  zer : ∀ k, i + b.length ≤ k → k < a.length + b.length → o[k]? = some 0
  cl : c < 65536
  v : val o + c * 65536 ^ (i + j) = val (a.take i) * val b + x * val (b.take j) * 65536 ^ i
theorem Out.inn {a b o : List Nat} {i : Nat} (h : Out a b o i) (x : Nat) : Inn a b o i 0 0 x := ⟨h.len, h.lt, h.zer, by decide, by rw [h.v]; simp [val]⟩
theorem step_lt (c z x y : Nat) (hc : c < 65536) (hz : z < 65536) (hx : x < 65536) (hy : y < 65536) : c + z + x * y < 4294967296 ∧ (c + z + x * y) / 65536 < 65536 := by
  have : x * y ≤ 65535 * 65535 := Nat.mul_le_mul (by omega) (by omega)
  omega
theorem step_v (V Z c z x y B P Q R W : Nat) (hv : Z + B * z = V + B * ((c + z + x * y) % 65536)) (h : V + c * B = P + x * R * Q) (hB : B = Q * W) : 
    Z + (c + z + x * y) / 65536 * (B * 65536) = P + x * (R + y * W) * Q := by
  have e := Nat.div_add_mod (c + z + x * y) 65536
  generalize (c + z + x * y) % 65536 = m at *
  generalize (c + z + x * y) / 65536 = d at *
  subst hB
  grind
theorem mem_set {l : List Nat} {k x N : Nat} (h : ∀ y ∈ l, y < N) (hx : x < N) : ∀ y ∈ l.set k x, y < N := by
  intro y hy
  rcases List.mem_or_eq_of_mem_set hy with h' | rfl
  · exact h y h'
  · exact hx
theorem Inn.next {a b o : List Nat} {i j c x y z : Nat} (h : Inn a b o i j c x) (hi : i < a.length) (hj : j < b.length) (hy : b[j]? = some y) (hz : o[i + j]? = some z) (hx : x < 65536) (hyl : y < 65536) :
    Inn a b (o.set (i + j) ((c + z + x * y) % 65536)) i (j + 1) ((c + z + x * y) / 65536) x := by
  have hzl : z < 65536 := h.lt z (List.mem_of_getElem? hz)
  refine ⟨by rw [List.length_set, h.len], mem_set h.lt (Nat.mod_lt _ (by decide)), ?_, (step_lt c z x y h.cl hzl hx hyl).2, ?_⟩
  · intro k h1 h2
    rw [List.getElem?_set_ne (by omega)]
    exact h.zer k h1 h2
  · rw [show i + (j + 1) = (i + j) + 1 by omega, Nat.pow_succ, val_take b j y hy]
    exact step_v (val o) _ c z x y (65536 ^ (i + j)) _ (65536 ^ i) (val (b.take j)) (65536 ^ j) (val_set o (i + j) _ z hz) h.v (Nat.pow_add ..)
theorem Inn.done {a b o : List Nat} {i c x : Nat} (h : Inn a b o i b.length c x) (hi : i < a.length) (hx : a[i]? = some x) : Out a b (o.set (i + b.length) c) (i + 1) := by
  refine ⟨by rw [List.length_set, h.len], mem_set h.lt h.cl, ?_, ?_⟩
  · intro k h1 h2
    rw [List.getElem?_set_ne (by omega)]
    exact h.zer k (by omega) h2
  · have e := val_set o (i + b.length) c 0 (h.zer _ (Nat.le_refl _) (by omega))
    have v := h.v
    rw [List.take_of_length_le (Nat.le_refl _)] at v
    rw [val_take a i x hx]
    generalize 65536 ^ (i + b.length) = B at *
    generalize 65536 ^ i = Q at *
    grind
theorem val_zero (n : Nat) : val (List.replicate n 0) = 0 := by
  induction n with
  | zero => rfl
  | succ n ih => simp [List.replicate_succ, val, ih]
theorem Out.start (a b : List Nat) : Out a b (List.replicate (a.length + b.length) 0) 0 := by
  refine ⟨by simp, by simp, ?_, by rw [val_zero]; simp [val]⟩
  intro k _ h
  simp [h]
theorem Out.all {a b o : List Nat} (h : Out a b o a.length) : val o = val a * val b := by
  have := h.v
  rw [List.take_of_length_le (Nat.le_refl _)] at this
  exact this

theorem val_split (l : List Nat) (k : Nat) (h : k ≤ l.length) : val l = val (l.take k) + 65536 ^ k * val (l.drop k) := by
  induction l generalizing k with
  | nil => simp at h; subst h; simp [val]
  | cons a l ih =>
    cases k with
    | zero => simp [val]
    | succ k =>
      have := ih k (by simpa using h)
      simp only [List.take_succ_cons, List.drop_succ_cons, val, Nat.pow_succ]
      grind
theorem val_lt (l : List Nat) (h : ∀ x ∈ l, x < 65536) : val l < 65536 ^ l.length := by
  induction l with
  | nil => simp [val]
  | cons a l ih =>
    have := ih fun x hx => h x (by simp [hx])
    have ha := h a (by simp)
    simp only [val, List.length_cons, Nat.pow_succ]
    omega
theorem val_drop (l : List Nat) (k x : Nat) (h : l[k]? = some x) : val (l.drop k) = val (l.drop (k + 1)) * 65536 + x := by
  have hk : k < l.length := (List.getElem?_eq_some_iff.1 h).1
  rw [List.drop_eq_getElem_cons hk, (List.getElem?_eq_some_iff.1 h).2]
  simp only [val]
  omega
/-- What 'most' tells. -/
theorem most_of (l : List Nat) (k n : Nat) (h : ∀ x ∈ l, x < 65536) (hk : k ≤ l.length) : (val (l.drop k) < n ∨ (val (l.drop k) = n ∧ val (l.take k) = 0)) ↔ val l ≤ n * 65536 ^ k := by
  have e := val_split l k hk
  have hl := val_lt (l.take k) fun x hx => h x (List.mem_of_mem_take hx)
  rw [List.length_take, Nat.min_eq_left hk] at hl
  generalize val (l.take k) = L at *
  generalize val (l.drop k) = H at *
  generalize val l = V at *
  generalize 65536 ^ k = B at *
  constructor
  · rintro (h1 | ⟨rfl, rfl⟩)
    · have : (H + 1) * B ≤ n * B := Nat.mul_le_mul_right _ h1
      grind
    · grind
  · intro h1
    rcases Nat.lt_trichotomy H n with h2 | h2 | h2
    · exact .inl h2
    · subst h2
      refine .inr ⟨rfl, ?_⟩
      grind
    · have : (n + 1) * B ≤ H * B := Nat.mul_le_mul_right _ h2
      grind
/-- The three digits of a number of 36 bits. -/
def dig (x : Nat) : List Nat := [x % 65536, x / 65536 % 65536, x / 4294967296]
theorem val_dig (x : Nat) : val (dig x) = x := by
  unfold dig
  simp only [val]
  omega
theorem dig_lt (x : Nat) (h : x < 68719476736) : ∀ y ∈ dig x, y < 65536 := by
  unfold dig
  intro y hy
  simp only [List.mem_cons, List.not_mem_nil, or_false] at hy
  rcases hy with rfl | rfl | rfl <;> omega
end Go.Proofs.Ytbiahhngeldhbaa

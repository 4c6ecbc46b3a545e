/- Numbers as marks, and what an ideal book has numbered, as a list. Of no program. -/
set_option linter.unusedVariables false
namespace Go.Proofs.YtamiacmnobklaaaGreatDoor

/-- A number's lowest bytes, the lowest first. -/
def leN : Nat → Nat → List UInt8
  | 0, _ => []
  | k + 1, n => UInt8.ofNat (n % 256) :: leN k (n / 256)
theorem leN_length (k n : Nat) : (leN k n).length = k := by
  induction k generalizing n with
  | zero => rfl
  | succ k ih => simp [leN, ih]
theorem leN_snoc (k n : Nat) : leN (k + 1) n = leN k n ++ [UInt8.ofNat (n / 256 ^ k % 256)] := by
  induction k generalizing n with
  | zero => simp [leN]
  | succ k ih => rw [leN, ih, leN, Nat.div_div_eq_div_mul, Nat.pow_succ, Nat.mul_comm 256]; rfl
theorem leN_get (k n i : Nat) (h : i < k) : (leN k n)[i]? = some (UInt8.ofNat (n / 256 ^ i % 256)) := by
  induction k generalizing n i with
  | zero => omega
  | succ k ih =>
    cases i with
    | zero => simp [leN]
    | succ i => rw [leN, List.getElem?_cons_succ, ih _ _ (by omega), Nat.div_div_eq_div_mul, Nat.pow_succ, Nat.mul_comm 256]
theorem leN_inj (k : Nat) : ∀ a b : Nat, a < 256 ^ k → b < 256 ^ k → leN k a = leN k b → a = b := by
  induction k with
  | zero => intro a b ha hb _; simp at ha hb; omega
  | succ k ih =>
    intro a b ha hb h
    rw [leN, leN] at h
    injection h with h1 h2
    have h3 := ih (a / 256) (b / 256) (Nat.div_lt_of_lt_mul (by rw [Nat.mul_comm, ← Nat.pow_succ]; exact ha)) (Nat.div_lt_of_lt_mul (by rw [Nat.mul_comm, ← Nat.pow_succ]; exact hb)) h2
    have h4 : a % 256 = b % 256 := by
      have := congrArg UInt8.toNat h1
      simp only [UInt8.toNat_ofNat'] at this
      omega
    omega
theorem leN_zero (k : Nat) : leN k 0 = List.replicate k 0 := by
  induction k with
  | zero => rfl
  | succ k ih => rw [leN, Nat.zero_div, ih, List.replicate_succ]; rfl
theorem leN_add (j k n : Nat) : leN (j + k) n = leN j n ++ leN k (n / 256 ^ j) := by
  induction j generalizing n with
  | zero => simp [leN]
  | succ j ih => rw [show j + 1 + k = (j + k) + 1 by omega, leN, ih, leN, Nat.div_div_eq_div_mul, Nat.pow_succ, Nat.mul_comm 256]; rfl
/-- A number as a mark. -/
def numM (n : Nat) : List UInt8 := leN 32 n
theorem numM_length (n : Nat) : (numM n).length = 32 := leN_length _ _
theorem numM_inj (a b : Nat) (ha : a < 18446744073709551616) (hb : b < 18446744073709551616) (h : numM a = numM b) : a = b :=
  leN_inj 32 a b (by omega) (by omega) h
theorem numM_eight (n : Nat) (h : n < 18446744073709551616) : numM n = leN 8 n ++ List.replicate 24 0 := by
  unfold numM
  rw [show 32 = 8 + 24 from rfl, leN_add, Nat.div_eq_of_lt (by omega), leN_zero]

/-! ### What a book has numbered -/
abbrev Txt := List UInt8
def markS (S : List Txt) (s : Txt) : List Txt := if s ∈ S then S else S ++ [s]
theorem markS_in {S : List Txt} {s : Txt} (h : s ∈ S) : markS S s = S := by unfold markS; rw [if_pos h]
theorem markS_new {S : List Txt} {s : Txt} (h : s ∉ S) : markS S s = S ++ [s] := by unfold markS; rw [if_neg h]
theorem mem_markS (S : List Txt) (s t : Txt) : t ∈ markS S s ↔ t ∈ S ∨ t = s := by
  unfold markS
  split
  · constructor
    · exact .inl
    · rintro (h | rfl) <;> assumption
  · simp
theorem markS_length (S : List Txt) (s : Txt) : (markS S s).length ≤ S.length + 1 := by unfold markS; split <;> simp
theorem markS_nodup {S : List Txt} (h : S.Nodup) (s : Txt) : (markS S s).Nodup := by
  unfold markS
  split
  · exact h
  · rename_i hs
    rw [List.nodup_append]
    refine ⟨h, by simp, ?_⟩
    intro a ha b hb
    simp at hb
    subst hb
    rintro rfl
    exact hs ha
/-- A text's number. -/
def noS (S : List Txt) (s : Txt) : Nat := S.idxOf s + 1
theorem noS_le (S : List Txt) (s : Txt) : noS S s ≤ S.length + 1 := by unfold noS; have := List.idxOf_le_length (a := s) (l := S); omega
theorem noS_new {S : List Txt} {s : Txt} (h : s ∉ S) : noS S s = S.length + 1 := by unfold noS; rw [List.idxOf_eq_length h]
theorem noS_mark (S : List Txt) (s t : Txt) (h : t ∈ S ∨ t = s) : noS (markS S s) t = noS S t := by
  unfold noS markS
  split
  · rfl
  · rename_i hs
    rcases h with h | rfl
    · rw [List.idxOf_append, if_pos h]
    · rw [List.idxOf_append, if_neg hs, List.idxOf_eq_length hs]
      simp
theorem noS_inj {S : List Txt} {s t : Txt} (hs : s ∈ S) (ht : t ∈ S) (h : noS S s = noS S t) : s = t := by
  have h1 : S.idxOf s = S.idxOf t := by unfold noS at h; omega
  have h2 := List.idxOf_lt_length_of_mem hs
  have h3 := List.idxOf_lt_length_of_mem ht
  have e1 := List.getElem_idxOf h2
  have e2 := List.getElem_idxOf h3
  rw [← e1, ← e2]
  simp only [h1]
/-- What the book has numbered behind the first so many. -/
def seenS (l : List Txt) : List Txt := l.foldl markS []
theorem seenS_snoc (l : List Txt) (s : Txt) : seenS (l ++ [s]) = markS (seenS l) s := by unfold seenS; rw [List.foldl_append]; rfl
theorem seenS_take (l : List Txt) (k : Nat) (h : k < l.length) : seenS (l.take (k + 1)) = markS (seenS (l.take k)) l[k] := by
  rw [List.take_succ_eq_append_getElem h, seenS_snoc]
theorem foldl_markS_mem (l S : List Txt) (t : Txt) : t ∈ l.foldl markS S ↔ t ∈ S ∨ t ∈ l := by
  induction l generalizing S with
  | nil => simp
  | cons x l ih => rw [List.foldl_cons, ih, mem_markS]; simp [or_assoc]
theorem mem_seenS (l : List Txt) (t : Txt) : t ∈ seenS l ↔ t ∈ l := by unfold seenS; rw [foldl_markS_mem]; simp
theorem seenS_nodup (l : List Txt) : (seenS l).Nodup := by
  suffices h : ∀ (l S : List Txt), S.Nodup → (l.foldl markS S).Nodup from h l [] (by simp)
  intro l
  induction l with
  | nil => exact fun _ h => h
  | cons x l ih => exact fun S h => ih _ (markS_nodup h x)
theorem seenS_length (l : List Txt) : (seenS l).length ≤ l.length := by
  suffices h : ∀ (l S : List Txt), (l.foldl markS S).length ≤ S.length + l.length by have := h l []; simpa [seenS] using this
  intro l
  induction l with
  | nil => intro S; simp
  | cons x l ih => intro S; have h1 := ih (markS S x); have h2 := markS_length S x; simp only [List.foldl_cons, List.length_cons]; omega
/-- A text keeps its number. -/
theorem noS_fold (l S : List Txt) (t : Txt) (h : t ∈ S) : noS (l.foldl markS S) t = noS S t := by
  induction l generalizing S with
  | nil => rfl
  | cons x l ih => rw [List.foldl_cons, ih _ ((mem_markS _ _ _).2 (.inl h)), noS_mark _ _ _ (.inl h)]
theorem noS_later (l : List Txt) (k : Nat) (h : k < l.length) : noS (seenS (l.take k)) l[k] = noS (seenS l) l[k] := by
  have e : l = l.take (k + 1) ++ l.drop (k + 1) := (List.take_append_drop _ _).symm
  have h1 : seenS l = (l.drop (k + 1)).foldl markS (seenS (l.take (k + 1))) := by
    conv => lhs; rw [e]
    unfold seenS
    rw [List.foldl_append]
  rw [h1, seenS_take l k h, noS_fold _ _ _ ((mem_markS _ _ _).2 (.inr rfl)), noS_mark _ _ _ (.inr rfl)]
/-- A mark's text, told by the number. -/
def isS (S : List Txt) (s m : Txt) : Bool := decide (s ∈ S) && decide (numM (noS S s) = m)
theorem isS_mark (l : List Txt) (i k : Nat) (hi : i < l.length) (hk : k < l.length) (hl : l.length ≤ 1000) : isS (seenS l) l[i] (numM (noS (seenS l) l[k])) = decide (l[i] = l[k]) := by
  unfold isS
  have h1 : l[i] ∈ seenS l := (mem_seenS _ _).2 (List.getElem_mem hi)
  have h2 : l[k] ∈ seenS l := (mem_seenS _ _).2 (List.getElem_mem hk)
  have b1 := noS_le (seenS l) l[i]
  have b2 := noS_le (seenS l) l[k]
  have b3 := seenS_length l
  rw [decide_eq_true h1, Bool.true_and]
  by_cases h : l[i] = l[k]
  · rw [h]; simp
  · rw [decide_eq_false h, decide_eq_false]
    intro e
    exact h (noS_inj h1 h2 (numM_inj _ _ (by omega) (by omega) e))
theorem marks_same (l : List Txt) (i k : Nat) (hi : i < l.length) (hk : k < l.length) (hl : l.length ≤ 1000) : decide (numM (noS (seenS l) l[i]) = numM (noS (seenS l) l[k])) = decide (l[i] = l[k]) := by
  have h1 : l[i] ∈ seenS l := (mem_seenS _ _).2 (List.getElem_mem hi)
  have := isS_mark l i k hi hk hl
  unfold isS at this
  rw [decide_eq_true h1, Bool.true_and] at this
  exact this
/-- Was it marked so? -/
def wasS (l : List Txt) (s m : Txt) : Nat → Bool
  | 0 => false
  | k + 1 => wasS l s m k || (decide (l.getD k [] = s) && decide (numM (noS (seenS (l.take k)) (l.getD k [])) = m))
theorem wasS_iff (l : List Txt) (s m : Txt) (k : Nat) (hk : k ≤ l.length) : wasS l s m k = true ↔ s ∈ l.take k ∧ numM (noS (seenS l) s) = m := by
  induction k with
  | zero => simp [wasS]
  | succ k ih =>
    have hk' : k < l.length := by omega
    have e : l.getD k [] = l[k] := by simp [List.getD_eq_getElem?_getD, hk']
    rw [wasS, Bool.or_eq_true, ih (by omega), List.take_succ_eq_append_getElem hk', e, noS_later l k hk']
    simp only [Bool.and_eq_true, decide_eq_true_eq, List.mem_append, List.mem_singleton]
    constructor
    · rintro (⟨h1, h2⟩ | ⟨h1, h2⟩)
      · exact ⟨.inl h1, h2⟩
      · subst h1; exact ⟨.inr rfl, h2⟩
    · rintro ⟨h1 | rfl, h2⟩
      · exact .inl ⟨h1, h2⟩
      · exact .inr ⟨rfl, h2⟩
theorem wasS_is (l : List Txt) (s m : Txt) : isS (seenS l) s m = wasS l s m l.length := by
  rw [Bool.eq_iff_iff, wasS_iff l s m _ (Nat.le_refl _), List.take_length]
  unfold isS
  simp only [Bool.and_eq_true, decide_eq_true_eq, mem_seenS]
end Go.Proofs.YtamiacmnobklaaaGreatDoor

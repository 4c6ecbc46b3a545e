/- A text's blocks, and what a book marks them by: over lists. Of no program. -/
import Derived.Test.YtpkgjokehgihjaaGreatGen
import Derived.Test.YtpkgjokehgihjaaGreatMarkMath
set_option linter.unusedVariables false
namespace Go.Proofs.YtpkgjokehgihjaaGreat

/-- A text's blocks of a size. -/
def cutS (b : Nat) (l : Txt) : List Txt :=
  if h : b = 0 ∨ l = [] then [] else l.take b :: cutS b (l.drop b)
termination_by l.length
decreasing_by
  have : 0 < l.length := List.length_pos_iff.2 (fun e => h (.inr e))
  rw [List.length_drop]
  omega
theorem cutS_nil (b : Nat) : cutS b [] = [] := by unfold cutS; simp
theorem cutS_cons (b : Nat) (l : Txt) (hb : 0 < b) (hl : 0 < l.length) : cutS b l = l.take b :: cutS b (l.drop b) := by
  rw [cutS, dif_neg]
  rintro (h | h)
  · omega
  · rw [h] at hl; simp at hl
/-- Each of them has bytes, and at most so many. -/
theorem cutS_mem (b : Nat) (hb : 0 < b) (l : Txt) : ∀ t ∈ cutS b l, t.length ≤ b ∧ 0 < t.length := by
  induction h : l.length using Nat.strongRecOn generalizing l with
  | _ n ih =>
    intro t ht
    rcases Nat.eq_zero_or_pos l.length with h0 | h0
    · rw [List.eq_nil_of_length_eq_zero h0, cutS_nil] at ht
      simp at ht
    · rw [cutS_cons b l hb h0] at ht
      rcases List.mem_cons.1 ht with rfl | ht
      · rw [List.length_take]; omega
      · exact ih (l.drop b).length (by rw [List.length_drop]; omega) (l.drop b) rfl t ht
theorem cutS_length (b : Nat) (hb : 0 < b) (l : Txt) : (cutS b l).length = (l.length + b - 1) / b := by
  induction h : l.length using Nat.strongRecOn generalizing l with
  | _ n ih =>
    rcases Nat.eq_zero_or_pos l.length with h0 | h0
    · rw [List.eq_nil_of_length_eq_zero h0, cutS_nil]
      have hn : n = 0 := by omega
      subst hn
      simp
      exact (Nat.div_eq_of_lt (by omega)).symm
    · rw [cutS_cons b l hb h0, List.length_cons, ih (l.drop b).length (by rw [List.length_drop]; omega) (l.drop b) rfl, List.length_drop]
      rcases Nat.lt_or_ge l.length b with hlt | hge
      · rw [show l.length - b + b - 1 = b - 1 by omega, Nat.div_eq_of_lt (by omega)]
        have : n + b - 1 = (n - 1) + b := by omega
        rw [this, Nat.add_div_right _ hb, Nat.div_eq_of_lt (by omega)]
      · have : n + b - 1 = (l.length - b + b - 1) + b := by omega
        rw [this, Nat.add_div_right _ hb]
theorem cutS_le (b : Nat) (hb : 0 < b) (l : Txt) : (cutS b l).length ≤ l.length := by
  induction h : l.length using Nat.strongRecOn generalizing l with
  | _ n ih =>
    rcases Nat.eq_zero_or_pos l.length with h0 | h0
    · rw [List.eq_nil_of_length_eq_zero h0, cutS_nil]; simp
    · rw [cutS_cons b l hb h0, List.length_cons]
      have := ih (l.drop b).length (by rw [List.length_drop]; omega) (l.drop b) rfl
      rw [List.length_drop] at this
      omega
/-- Number i of them. -/
theorem cutS_get (b : Nat) (hb : 0 < b) (l : Txt) (i : Nat) (h : i < (cutS b l).length) : (cutS b l)[i] = (l.drop (i * b)).take b ∧ i * b < l.length := by
  induction i generalizing l with
  | zero =>
    rcases Nat.eq_zero_or_pos l.length with h0 | h0
    · rw [List.eq_nil_of_length_eq_zero h0, cutS_nil] at h; simp at h
    · simp only [cutS_cons b l hb h0, List.getElem_cons_zero, Nat.zero_mul, List.drop_zero]
      exact ⟨trivial, h0⟩
  | succ i ih =>
    rcases Nat.eq_zero_or_pos l.length with h0 | h0
    · rw [List.eq_nil_of_length_eq_zero h0, cutS_nil] at h; simp at h
    · have h' : i < (cutS b (l.drop b)).length := by rw [cutS_cons b l hb h0] at h; simpa using h
      have := ih (l.drop b) h'
      simp only [cutS_cons b l hb h0, List.getElem_cons_succ]
      rw [this.1, List.drop_drop, Nat.succ_mul, Nat.add_comm]
      rw [List.length_drop] at this
      exact ⟨rfl, by omega⟩

/-! ### Marks, one behind the other -/
/-- Of texts marked one behind the other: the marks, and the book's state behind. -/
inductive Marked {σ : Type} (nx : σ → Txt → σ → Prop) (mk : σ → Txt → Txt) (s0 : σ) : List Txt → List Txt → σ → Prop
  | nil : Marked nx mk s0 [] [] s0
  | snoc {ts ms : List Txt} {s s' : σ} {t : Txt} : Marked nx mk s0 ts ms s → nx s t s' → Marked nx mk s0 (ts ++ [t]) (ms ++ [mk s t]) s'
theorem Marked.length {σ : Type} {nx : σ → Txt → σ → Prop} {mk : σ → Txt → Txt} {s0 s : σ} {ts ms : List Txt} (h : Marked nx mk s0 ts ms s) : ms.length = ts.length := by
  induction h with
  | nil => rfl
  | snoc _ _ ih => simp [ih]
/-- An ideal book's. -/
def nxI (S : List Txt) (t : Txt) (S' : List Txt) : Prop := S' = markS S t
def mkI (S : List Txt) (t : Txt) : Txt := numM (noS S t)
theorem foldl_snoc (S : List Txt) (ts : List Txt) (t : Txt) : (ts ++ [t]).foldl markS S = markS (ts.foldl markS S) t := by rw [List.foldl_append]; rfl
theorem marked_ideal {S0 S : List Txt} {ts ms : List Txt} (h : Marked nxI mkI S0 ts ms S) : S = ts.foldl markS S0 ∧ ms = ts.map fun t => numM (noS S t) := by
  induction h with
  | nil => exact ⟨rfl, rfl⟩
  | @snoc ts ms s s' t hm hn ih =>
    obtain ⟨e1, e2⟩ := ih
    subst hn
    refine ⟨by rw [foldl_snoc, ← e1], ?_⟩
    rw [List.map_append, e2]
    congr 1
    · refine List.map_congr_left fun x hx => ?_
      rw [noS_mark s t x (.inl (by rw [e1]; exact (foldl_markS_mem ts S0 x).2 (.inr hx)))]
    · simp only [List.map_cons, List.map_nil]
      rw [noS_mark s t t (.inr rfl)]
      rfl
theorem foldl_markS_length (l S : List Txt) : (l.foldl markS S).length ≤ S.length + l.length := by
  induction l generalizing S with
  | nil => simp
  | cons x l ih => have h1 := ih (markS S x); have h2 := markS_length S x; simp only [List.foldl_cons, List.length_cons]; omega
/-- A real book's. -/
theorem marked_real {σ : Type} {nx : σ → Txt → σ → Prop} {f : Txt → Txt} {s0 s : σ} {ts ms : List Txt} (h : Marked nx (fun _ => f) s0 ts ms s) : ms = ts.map f := by
  induction h with
  | nil => rfl
  | snoc _ _ ih => rw [ih, List.map_append]; rfl
end Go.Proofs.YtpkgjokehgihjaaGreat

/- Several texts in one: BackMath, DelByMath. -/
import Derived.Test.YtpkgjokehgihjaaGreatDelX
import Derived.Test.YtpkgjokehgihjaaGreatGen
import Derived.Test.YtpkgjokehgihjaaGreatMarkMath
import Derived.Test.YtpkgjokehgihjaaGreatRollMath
import Derived.Test.YtpkgjokehgihjaaGreatSignMath
import Derived.Test.YtpkgjokehgihjaaGreatCdX
/- Plain mathematics: steps that make a text are no more than its bytes. -/
set_option linter.unusedVariables false
namespace Go.Proofs.YtpkgjokehgihjaaGreat
open Go.RowKit

theorem mk_bound' {x : DSt} (h : stS x = true) : 1 ≤ mkS x ∧ mkS x ≤ 524288 := by
  unfold stS at h; unfold mkS
  split at h
  · rename_i c; have := of_decide_eq_true h; have : 0 < x.txt.length := List.length_pos_iff.2 c; omega
  · rename_i c; have := of_decide_eq_true h; simp at c; rw [c]; simp; omega
theorem good_len {n : Nat} : ∀ (l : List DSt), goodS n l → (l.length : Int) ≤ (l.map mkS).sum := by
  intro l
  induction l with
  | nil => intro _; simp
  | cons x l ih =>
    intro h
    have h1 := ih (fun y hy => h y (by simp [hy]))
    have h2 := (mk_bound' (h x (by simp)).1).1
    rw [List.map_cons, List.sum_cons, List.length_cons]; omega
theorem BackS.len {basis s : Txt} {l : List DSt} (h : BackS basis s l) : l.length ≤ s.length := by
  have h1 := good_len l h.good
  rw [sum_good l h.good, h.out] at h1
  omega
theorem dtake_len (l : List DSt) (a n : Int) : (takeS l a n).length ≤ l.length + 1 := by
  rcases List.eq_nil_or_concat l with rfl | ⟨m, x, rfl⟩
  · rw [take_nil]; simp
  · rw [List.concat_eq_append, take_snoc]
    split <;> simp
theorem gather_len (l : List DSt) (s : Txt) : (gatherS l s).length ≤ l.length + s.length := by
  unfold gatherS
  have := cutS_le 4096 (by decide) s
  rw [List.length_append, List.length_map]; omega
theorem srch_len (mt : Txt → Int → Int) (B : Nat) (hB : 0 < B) (s : Txt) : ∀ (f at' fr : Nat) (wanted : Int) (l : List DSt), fr ≤ at' → fr ≤ s.length → l.length ≤ fr →
    (srchS mt B s f at' fr wanted l).1.length ≤ (srchS mt B s f at' fr wanted l).2.1 ∧ (srchS mt B s f at' fr wanted l).2.1 ≤ s.length := by
  intro f
  induction f with
  | zero => intro at' fr wanted l h1 h2 h3; exact ⟨h3, h2⟩
  | succ f ih =>
    intro at' fr wanted l h1 h2 h3
    by_cases hin : at' + B ≤ s.length
    · by_cases hneg : mt (win s B at') wanted < 0
      · rw [srch_no _ _ _ _ _ _ _ _ hin hneg]; exact ih _ _ _ _ (by omega) h2 h3
      · rw [srch_yes _ _ _ _ _ _ _ _ _ hin rfl hneg]
        have a1 := dtake_len (gatherS l (segS s fr at')) (mt (win s B at') wanted * B) B
        have a2 := gather_len l (segS s fr at')
        have a3 := seg_len s fr at' (by omega)
        exact ih _ _ _ _ (Nat.le_refl _) hin (by omega)
    · rw [srch_end _ _ _ _ _ _ _ _ hin]; exact ⟨h3, h2⟩
theorem steps_len (mt : Txt → Int → Int) (T : Txt → Bool) (M B : Nat) (hB : 0 < B) (s : Txt) : (stepsS mt T M B s).length ≤ s.length + 1 := by
  obtain ⟨h1, h2⟩ := srch_len mt B hB s (s.length + 1) 0 0 0 [] (Nat.le_refl _) (Nat.zero_le _) (Nat.le_refl _)
  unfold stepsS restS
  generalize (srchS mt B s (s.length + 1) 0 0 0 []).1 = l at *
  generalize (srchS mt B s (s.length + 1) 0 0 0 []).2.1 = fr at *
  split
  · have a1 := dtake_len (gatherS l (segS s fr (s.length - M % B))) ((M - M % B : Nat) : Int) ((M % B : Nat) : Int)
    have a2 := gather_len l (segS s fr (s.length - M % B))
    have a3 := seg_len s fr (s.length - M % B) (by omega)
    omega
  · have a2 := gather_len l (s.drop fr)
    rw [List.length_drop] at a2
    omega
end Go.Proofs.YtpkgjokehgihjaaGreat
/- The bytes of a delta, as plain mathematics; what is read of bytes. Of no program. -/
set_option linter.unusedVariables false
namespace Go.Proofs.YtpkgjokehgihjaaGreat
open Go.RowKit

/-- A step's bytes. -/
def stB (x : DSt) : Txt := if x.txt = [] then nb (2 * x.len + 1).toNat ++ nb x.pos.toNat else nb (2 * x.txt.length) ++ x.txt
def bodyB (l : List DSt) : Txt := (l.map stB).flatten
def headB (bm mm : Txt) (n k : Nat) : Txt := bm ++ mm ++ nb n ++ nb k
/-- A delta's bytes. -/
def bytesD (bm mm : Txt) (n : Nat) (l : List DSt) : Txt := headB bm mm n l.length ++ bodyB l
theorem body_next (l : List DSt) (k : Nat) (hk : k < l.length) : bodyB (l.take (k + 1)) = bodyB (l.take k) ++ stB l[k] := by
  unfold bodyB
  rw [List.take_succ_eq_append_getElem hk, List.map_append, List.flatten_append]
  simp
theorem stB_len (x : DSt) (h : stS x = true) : (stB x).length ≤ 4116 := by
  unfold stB
  unfold stS at h
  split
  · have h1 := (nb_length (2 * x.len + 1).toNat).2
    have h2 := (nb_length x.pos.toNat).2
    rw [List.length_append]; omega
  · rename_i c
    rw [if_pos c] at h
    have h0 := of_decide_eq_true h
    have h1 := (nb_length (2 * x.txt.length)).2
    rw [List.length_append]; omega
theorem body_len (l : List DSt) (h : ∀ x ∈ l, stS x = true) : (bodyB l).length ≤ 4116 * l.length := by
  unfold bodyB
  induction l with
  | nil => simp
  | cons x l ih =>
    have h1 := stB_len x (h x (by simp))
    have h2 := ih (fun y hy => h y (by simp [hy]))
    rw [List.map_cons, List.flatten_cons, List.length_append, List.length_cons, Nat.mul_succ]
    omega
/-- What is known of a delta that may be. -/
structure RightDIs (bm mm : Txt) (n : Int) (l : List DSt) (M : Nat) : Prop where
  n : n = (M : Int)
  n2 : M ≤ 524288
  b : bm.length = 32
  m : mm.length = 32
  st : ∀ x ∈ l, stS x = true
  sum : (l.map mkS).sum = (M : Int)
  len : l.length ≤ M
theorem rightD_is {bm mm : Txt} {n : Int} {l : List DSt} (h : rightD bm mm n l = true) : ∃ M, RightDIs bm mm n l M := by
  unfold rightD at h
  simp only [Bool.and_eq_true, decide_eq_true_eq, List.all_eq_true] at h
  obtain ⟨⟨⟨⟨h1, h2⟩, h3⟩, h4⟩, h5⟩ := h
  have h6 : ∀ m : List DSt, (∀ x ∈ m, stS x = true) → (m.length : Int) ≤ (m.map mkS).sum := by
    intro m
    induction m with
    | nil => intro _; simp
    | cons x m ih =>
      intro hm
      have := ih (fun y hy => hm y (by simp [hy]))
      have := mk_bound' (hm x (by simp))
      rw [List.map_cons, List.sum_cons, List.length_cons]; omega
  have h7 := h6 l h4
  refine ⟨n.toNat, by omega, by omega, h1, h2, h4, by omega, by omega⟩
theorem RightDIs.right {bm mm : Txt} {n : Int} {l : List DSt} {M : Nat} (h : RightDIs bm mm n l M) : rightD bm mm n l = true := by
  unfold rightD
  have h1 := h.n
  have h2 := h.n2
  rw [decide_eq_true h.b, decide_eq_true h.m, decide_eq_true (by omega), List.all_eq_true.2 h.st, decide_eq_true (by rw [h.sum, h.n])]
  rfl
theorem headB_len (bm mm : Txt) (n k : Nat) (h1 : bm.length = 32) (h2 : mm.length = 32) : (headB bm mm n k).length ≤ 84 := by
  unfold headB
  have := (nb_length n).2
  have := (nb_length k).2
  rw [List.length_append, List.length_append, List.length_append]; omega
end Go.Proofs.YtpkgjokehgihjaaGreat

/- Several texts in one: DelMath, RowS. -/
import Derived.Test.YtpkgjokehgihjaaGreatGen
import Derived.Test.YtpkgjokehgihjaaGreatMarkMath
import Derived.Test.YtpkgjokehgihjaaGreatRollMath
import Derived.Test.YtpkgjokehgihjaaGreatSignMath
import Derived.Test.YtpkgjokehgihjaaGreatFrame
import Derived.Test.YtpkgjokehgihjaaGreatOwnL
import Derived.Test.YtpkgjokehgihjaaGreatProg
import Derived.Laws.OwnMore
import Derived.Maps.AppendAt
/- Plain mathematics of deltas: steps, what they make, the search. Of no program. -/
set_option linter.unusedVariables false
namespace Go.Proofs.YtpkgjokehgihjaaGreat
open Go.RowKit

/-- A step. -/
structure DSt where
  pos : Int
  len : Int
  txt : Txt
def stS (x : DSt) : Bool :=
  if x.txt ≠ [] then decide (x.txt.length ≤ 4096 ∧ x.pos = 0 ∧ x.len = 0) else decide (0 < x.len ∧ x.len ≤ 524288 ∧ 0 ≤ x.pos ∧ x.pos ≤ 524288 - x.len)
def mkS (x : DSt) : Int := x.txt.length + x.len
def segS (s : Txt) (a b : Nat) : Txt := (s.take b).drop a
theorem win_seg (s : Txt) (n k : Nat) : win s n k = segS s k (k + n) := rfl
theorem seg_len (s : Txt) (a b : Nat) (h : b ≤ s.length) : (segS s a b).length = b - a := by unfold segS; simp; omega
theorem seg_join (s : Txt) (a b c : Nat) (h1 : a ≤ b) (h2 : b ≤ c) : segS s a b ++ segS s b c = segS s a c := by
  unfold segS
  have h3 : s.take b = (s.take c).take b := by rw [List.take_take]; congr 1; omega
  rw [h3]
  generalize s.take c = t
  by_cases h : a ≤ (t.take b).length
  · rw [← List.drop_append_of_le_length h, List.take_append_drop]
  · rw [List.length_take] at h
    rw [List.drop_eq_nil_of_le (by rw [List.length_take]; omega), List.nil_append, List.drop_eq_nil_of_le (by omega), List.drop_eq_nil_of_le (by omega)]
theorem seg_self (s : Txt) (a : Nat) : segS s a a = [] := by unfold segS; simp
theorem seg_drop (s : Txt) (a : Nat) : segS s a s.length = s.drop a := by unfold segS; rw [List.take_length]
theorem seg_take (s : Txt) (a : Nat) : segS s 0 a = s.take a := by unfold segS; rw [List.drop_zero]
theorem take_seg (s : Txt) (a b : Nat) (h : a ≤ b) : s.take a ++ segS s a b = s.take b := by
  rw [← seg_take, ← seg_take, seg_join _ _ _ _ (Nat.zero_le _) h]

/-- Texts as steps, behind others. -/
def txtSt (t : Txt) : DSt := ⟨0, 0, t⟩
def gatherS (l : List DSt) (s : Txt) : List DSt := l ++ (cutS 4096 s).map txtSt
theorem gather_nil (l : List DSt) : gatherS l [] = l := by unfold gatherS; rw [cutS_nil]; simp
theorem gather_cons (l : List DSt) (s : Txt) (hs : 0 < s.length) : gatherS l s = gatherS (l ++ [txtSt (s.take 4096)]) (s.drop 4096) := by
  unfold gatherS; rw [cutS_cons 4096 s (by decide) hs]; simp
/-- A copy behind steps. -/
def joinS (l : List DSt) (a : Int) : Bool := match l.getLast? with
  | some x => decide (x.txt = [] ∧ x.pos + x.len = a)
  | none => false
def takeS (l : List DSt) (a n : Int) : List DSt := match l.getLast? with
  | some x => if x.txt = [] ∧ x.pos + x.len = a then l.dropLast ++ [⟨x.pos, x.len + n, []⟩] else l ++ [⟨a, n, []⟩]
  | none => [⟨a, n, []⟩]
theorem take_nil (a n : Int) : takeS [] a n = [⟨a, n, []⟩] := rfl
theorem take_snoc (l : List DSt) (x : DSt) (a n : Int) : takeS (l ++ [x]) a n = if x.txt = [] ∧ x.pos + x.len = a then l ++ [⟨x.pos, x.len + n, []⟩] else l ++ [x] ++ [⟨a, n, []⟩] := by
  unfold takeS; rw [List.getLast?_concat]; simp

/-- The search: steps, from where on bytes are gathered, where it stands. -/
def srchS (M : Txt → Int → Int) (B : Nat) (s : Txt) : Nat → Nat → Nat → Int → List DSt → List DSt × Nat × Nat
  | 0, at', fr, wanted, l => (l, fr, at')
  | f + 1, at', fr, wanted, l =>
    if at' + B ≤ s.length then
      if M (win s B at') wanted < 0 then srchS M B s f (at' + 1) fr wanted l
      else srchS M B s f (at' + B) (at' + B) (M (win s B at') wanted + 1) (takeS (gatherS l (segS s fr at')) (M (win s B at') wanted * B) B)
    else (l, fr, at')
theorem srch_end (M : Txt → Int → Int) (B : Nat) (s : Txt) (f at' fr : Nat) (wanted : Int) (l : List DSt) (h : ¬ at' + B ≤ s.length) : srchS M B s f at' fr wanted l = (l, fr, at') := by
  cases f with
  | zero => rfl
  | succ f => unfold srchS; rw [if_neg h]
theorem srch_no (M : Txt → Int → Int) (B : Nat) (s : Txt) (f at' fr : Nat) (wanted : Int) (l : List DSt) (h : at' + B ≤ s.length) (hm : M (win s B at') wanted < 0) :
    srchS M B s (f + 1) at' fr wanted l = srchS M B s f (at' + 1) fr wanted l := by rw [srchS, if_pos h, if_pos hm]
theorem srch_yes (M : Txt → Int → Int) (B : Nat) (s : Txt) (f at' fr : Nat) (wanted i : Int) (l : List DSt) (h : at' + B ≤ s.length) (hi : M (win s B at') wanted = i) (hm : ¬ i < 0) :
    srchS M B s (f + 1) at' fr wanted l = srchS M B s f (at' + B) (at' + B) (i + 1) (takeS (gatherS l (segS s fr at')) (i * B) B) := by subst hi; rw [srchS, if_pos h, if_neg hm]
/-- What is left behind the search. -/
def restS (T : Txt → Bool) (M B : Nat) (s : Txt) (l : List DSt) (fr : Nat) : List DSt :=
  if fr + M % B ≤ s.length ∧ T (s.drop (s.length - M % B)) = true then takeS (gatherS l (segS s fr (s.length - M % B))) ((M - M % B : Nat) : Int) ((M % B : Nat) : Int) else gatherS l (s.drop fr)
/-- The steps for a text. -/
def stepsS (mt : Txt → Int → Int) (T : Txt → Bool) (M B : Nat) (s : Txt) : List DSt :=
  restS T M B s (srchS mt B s (s.length + 1) 0 0 0 []).1 (srchS mt B s (s.length + 1) 0 0 0 []).2.1

/-! ### What steps make -/
def pieceS (basis : Txt) (x : DSt) : Txt := x.txt ++ (basis.drop x.pos.toNat).take x.len.toNat
def outS (basis : Txt) (l : List DSt) : Txt := (l.map (pieceS basis)).flatten
def sentS (l : List DSt) : Nat := (l.map fun x => x.txt.length).sum
def goodS (n : Nat) (l : List DSt) : Prop := ∀ x ∈ l, stS x = true ∧ x.pos + x.len ≤ n
theorem out_append (basis : Txt) (l m : List DSt) : outS basis (l ++ m) = outS basis l ++ outS basis m := by unfold outS; simp
theorem out_one (basis : Txt) (x : DSt) : outS basis [x] = pieceS basis x := by unfold outS; simp
theorem sent_append (l m : List DSt) : sentS (l ++ m) = sentS l + sentS m := by unfold sentS; simp
theorem sent_one (x : DSt) : sentS [x] = x.txt.length := by unfold sentS; simp
theorem good_append {n : Nat} {l m : List DSt} : goodS n (l ++ m) ↔ goodS n l ∧ goodS n m := by
  unfold goodS; simp only [List.mem_append]
  exact ⟨fun h => ⟨fun x hx => h x (.inl hx), fun x hx => h x (.inr hx)⟩, fun h x hx => hx.elim (h.1 x) (h.2 x)⟩
theorem good_nil (n : Nat) : goodS n [] := fun x hx => by simp at hx
theorem good_one {n : Nat} {x : DSt} : goodS n [x] ↔ stS x = true ∧ x.pos + x.len ≤ n := by unfold goodS; simp
theorem cut_join (n : Nat) (hn : 0 < n) (basis : Txt) : ∀ (k : Nat) (s : Txt), s.length ≤ k → outS basis ((cutS n s).map txtSt) = s ∧ sentS ((cutS n s).map txtSt) = s.length := by
  intro k
  induction k with
  | zero => intro s h; have : s = [] := List.eq_nil_of_length_eq_zero (by omega); subst this; rw [cutS_nil]; exact ⟨rfl, rfl⟩
  | succ k ih =>
    intro s h
    by_cases h0 : 0 < s.length
    · have h1 := ih (s.drop n) (by rw [List.length_drop]; omega)
      rw [cutS_cons n s hn h0, List.map_cons]
      have e1 : ∀ m : List DSt, outS basis (txtSt (s.take n) :: m) = s.take n ++ outS basis m := fun m => by unfold outS pieceS txtSt; simp
      have e2 : ∀ m : List DSt, sentS (txtSt (s.take n) :: m) = (s.take n).length + sentS m := fun m => by unfold sentS txtSt; simp
      rw [e1, e2, h1.1, h1.2]
      refine ⟨List.take_append_drop n s, ?_⟩
      rw [List.length_take, List.length_drop]; omega
    · have : s = [] := List.eq_nil_of_length_eq_zero (by omega); subst this; rw [cutS_nil]; exact ⟨rfl, rfl⟩
theorem gather_out (basis : Txt) (l : List DSt) (s : Txt) : outS basis (gatherS l s) = outS basis l ++ s := by
  unfold gatherS; rw [out_append, (cut_join 4096 (by decide) basis _ s (Nat.le_refl _)).1]
theorem gather_sent (l : List DSt) (s : Txt) : sentS (gatherS l s) = sentS l + s.length := by
  unfold gatherS; rw [sent_append, (cut_join 4096 (by decide) [] _ s (Nat.le_refl _)).2]
theorem gather_good {n : Nat} {l : List DSt} (h : goodS n l) (s : Txt) : goodS n (gatherS l s) := by
  unfold gatherS
  refine good_append.2 ⟨h, fun x hx => ?_⟩
  obtain ⟨t, ht, rfl⟩ := List.mem_map.1 hx
  obtain ⟨h1, h2⟩ := cutS_mem 4096 (by decide) s t ht
  have h3 : t ≠ [] := fun e => by subst e; simp at h2
  unfold stS txtSt
  refine ⟨by rw [if_pos h3]; exact decide_eq_true ⟨h1, rfl, rfl⟩, by simp⟩
theorem take_sent (l : List DSt) (a n : Int) : sentS (takeS l a n) = sentS l := by
  rcases List.eq_nil_or_concat l with rfl | ⟨m, x, rfl⟩
  · rfl
  · rw [List.concat_eq_append, take_snoc]
    split
    · rename_i h; rw [sent_append, sent_append, sent_one, sent_one, h.1]
    · rw [sent_append, sent_one]; rfl
theorem take_out (basis : Txt) (l : List DSt) (a n : Nat) (hg : goodS basis.length l) : outS basis (takeS l a n) = outS basis l ++ (basis.drop a).take n := by
  rcases List.eq_nil_or_concat l with rfl | ⟨m, x, rfl⟩
  · rw [take_nil, out_one]; unfold pieceS outS; simp
  · rw [List.concat_eq_append, take_snoc]
    rw [List.concat_eq_append] at hg
    have hx := good_one.1 (good_append.1 hg).2
    split
    · rename_i h
      obtain ⟨h1, h2⟩ := h
      rw [out_append, out_append, out_one, out_one, List.append_assoc]
      congr 1
      have h3 := hx.1
      unfold stS at h3
      rw [if_neg (by simp [h1])] at h3
      have h4 := of_decide_eq_true h3
      unfold pieceS
      dsimp only
      rw [h1, List.nil_append, List.nil_append]
      have e1 : a = x.pos.toNat + x.len.toNat := by omega
      have e2 : (x.len + (n : Int)).toNat = x.len.toNat + n := by omega
      rw [e1, e2, ← List.drop_drop]
      generalize basis.drop x.pos.toNat = u
      rw [List.take_add]
    · rw [out_append, out_one]; unfold pieceS; simp
theorem take_good {n : Nat} {l : List DSt} (h : goodS n l) (a k : Nat) (hk : 0 < k) (ha : a + k ≤ n) (hn : n ≤ 524288) : goodS n (takeS l a k) := by
  have h1 : goodS n [⟨a, k, []⟩] := by
    rw [good_one]; unfold stS; dsimp only
    refine ⟨by rw [if_neg (by simp)]; exact decide_eq_true (by omega), by omega⟩
  rcases List.eq_nil_or_concat l with rfl | ⟨m, x, rfl⟩
  · rw [take_nil]; exact h1
  · rw [List.concat_eq_append] at h ⊢
    rw [take_snoc]
    have hx := good_one.1 (good_append.1 h).2
    split
    · rename_i hc
      obtain ⟨c1, c2⟩ := hc
      refine good_append.2 ⟨(good_append.1 h).1, ?_⟩
      have h3 := hx.1
      unfold stS at h3
      rw [if_neg (by simp [c1])] at h3
      have h4 := of_decide_eq_true h3
      rw [good_one]; unfold stS; dsimp only
      refine ⟨by rw [if_neg (by simp)]; exact decide_eq_true (by omega), by omega⟩
    · exact good_append.2 ⟨h, h1⟩

/-- What a match tells, at the windows of a text. -/
def MatOk (mt : Txt → Int → Int) (B : Nat) (basis s : Txt) : Prop := ∀ a wanted, a + B ≤ s.length → ¬ mt (win s B a) wanted < 0 → ∃ i : Nat, mt (win s B a) wanted = i ∧ i * B + B ≤ basis.length ∧ win s B a = (basis.drop (i * B)).take B
theorem srch_ok {mt : Txt → Int → Int} {B : Nat} {basis s : Txt} (hB : 0 < B) (hb : basis.length ≤ 524288) (hm : MatOk mt B basis s) : ∀ (f at' fr : Nat) (wanted : Int) (l : List DSt), fr ≤ at' → (f = 0 ∨ at' ≤ s.length) → goodS basis.length l → outS basis l = s.take fr → sentS l ≤ fr → fr ≤ s.length →
    goodS basis.length (srchS mt B s f at' fr wanted l).1 ∧ outS basis (srchS mt B s f at' fr wanted l).1 = s.take (srchS mt B s f at' fr wanted l).2.1 ∧ sentS (srchS mt B s f at' fr wanted l).1 ≤ (srchS mt B s f at' fr wanted l).2.1 ∧ (srchS mt B s f at' fr wanted l).2.1 ≤ s.length := by
  intro f
  induction f with
  | zero => intro at' fr wanted l h1 _ h3 h4 h5 h6; exact ⟨h3, h4, h5, h6⟩
  | succ f ih =>
    intro at' fr wanted l h1 h2 h3 h4 h5 h6
    by_cases hin : at' + B ≤ s.length
    · by_cases hneg : mt (win s B at') wanted < 0
      · rw [srch_no _ _ _ _ _ _ _ _ hin hneg]
        exact ih _ _ _ _ (by omega) (.inr (by omega)) h3 h4 h5 h6
      · obtain ⟨i, hi, hle, hw⟩ := hm at' wanted hin hneg
        rw [srch_yes _ _ _ _ _ _ _ (i : Int) _ hin hi (by omega)]
        have e : (i : Int) * (B : Int) = ((i * B : Nat) : Int) := by simp
        rw [e]
        refine ih _ _ _ _ (Nat.le_refl _) (.inr hin) (take_good (gather_good h3 _) _ _ hB hle hb) ?_ ?_ hin
        · rw [take_out _ _ _ _ (gather_good h3 _), gather_out, h4, ← hw, win_seg, take_seg _ _ _ h1, take_seg _ _ _ (by omega)]
        · rw [take_sent, gather_sent, seg_len _ _ _ (by omega)]; omega
    · rw [srch_end _ _ _ _ _ _ _ _ hin]; exact ⟨h3, h4, h5, h6⟩
/-- What a tail tells. -/
def TailOk (T : Txt → Bool) (M B : Nat) (basis s : Txt) : Prop := M % B ≤ s.length → T (s.drop (s.length - M % B)) = true → 0 < M % B ∧ M = basis.length ∧ s.drop (s.length - M % B) = basis.drop (M - M % B)
structure BackS (basis s : Txt) (l : List DSt) : Prop where
  good : goodS basis.length l
  out : outS basis l = s
  sent : sentS l ≤ s.length
theorem steps_back {mt : Txt → Int → Int} {T : Txt → Bool} {M B : Nat} {basis s : Txt} (hB : 0 < B) (hb : basis.length ≤ 524288) (hm : MatOk mt B basis s) (hT : TailOk T M B basis s) : BackS basis s (stepsS mt T M B s) := by
  obtain ⟨h1, h2, h3, h4⟩ := srch_ok hB hb hm (s.length + 1) 0 0 0 [] (Nat.le_refl _) (.inr (Nat.zero_le _)) (good_nil _) (by simp [outS]) (by simp [sentS]) (Nat.zero_le _)
  unfold stepsS restS
  generalize (srchS mt B s (s.length + 1) 0 0 0 []).1 = l at *
  generalize (srchS mt B s (s.length + 1) 0 0 0 []).2.1 = fr at *
  split
  · rename_i hc
    obtain ⟨c1, c2⟩ := hc
    obtain ⟨t1, t2, t3⟩ := hT (by omega) c2
    have hlt := Nat.mod_le M B
    refine ⟨take_good (gather_good h1 _) _ _ t1 (by omega) hb, ?_, ?_⟩
    · rw [take_out _ _ _ _ (gather_good h1 _), gather_out, h2, take_seg _ _ _ (by omega)]
      have e : (basis.drop (M - M % B)).take (M % B) = s.drop (s.length - M % B) := by rw [List.take_of_length_le (by rw [List.length_drop]; omega), ← t3]
      rw [e, List.take_append_drop]
    · rw [take_sent, gather_sent, seg_len _ _ _ (by omega)]; omega
  · refine ⟨gather_good h1 _, ?_, ?_⟩
    · rw [gather_out, h2, List.take_append_drop]
    · rw [gather_sent, List.length_drop]; omega

/-! ### Right, run -/
def rightD (bm mm : Txt) (n : Int) (l : List DSt) : Bool := decide (bm.length = 32) && decide (mm.length = 32) && decide (0 ≤ n ∧ n ≤ 524288) && l.all stS && decide ((l.map mkS).sum = n)
def runG (basis : Txt) : List DSt → Txt → Int × Txt
  | [], out => (0, out)
  | x :: l, out => if stS x = true ∧ x.pos + x.len ≤ basis.length then (if (out.length : Int) + mkS x ≤ 524288 then runG basis l (out ++ pieceS basis x) else (4, [])) else (2, [])
theorem piece_len {basis : Txt} {x : DSt} (h : stS x = true) (h2 : x.pos + x.len ≤ basis.length) : ((pieceS basis x).length : Int) = mkS x := by
  unfold pieceS mkS
  unfold stS at h
  rw [List.length_append, List.length_take, List.length_drop]
  split at h
  · have := of_decide_eq_true h; omega
  · have := of_decide_eq_true h; omega
theorem run_good {basis : Txt} : ∀ (l : List DSt) (out : Txt), goodS basis.length l → (out ++ outS basis l).length ≤ 524288 → runG basis l out = (0, out ++ outS basis l) := by
  intro l
  induction l with
  | nil => intro out _ _; unfold runG outS; simp
  | cons x l ih =>
    intro out hg hl
    have hx := hg x (by simp)
    have e : outS basis (x :: l) = pieceS basis x ++ outS basis l := by unfold outS; simp
    rw [e] at hl ⊢
    rw [← List.append_assoc] at hl ⊢
    have h1 := piece_len hx.1 hx.2
    unfold runG
    rw [if_pos hx, if_pos (by rw [← h1]; rw [List.length_append, List.length_append] at hl; omega)]
    exact ih _ (fun y hy => hg y (by simp [hy])) hl
theorem sum_good {basis : Txt} : ∀ (l : List DSt), goodS basis.length l → (l.map mkS).sum = ((outS basis l).length : Int) := by
  intro l
  induction l with
  | nil => intro _; rfl
  | cons x l ih =>
    intro hg
    have hx := hg x (by simp)
    have e : outS basis (x :: l) = pieceS basis x ++ outS basis l := by unfold outS; simp
    rw [e, List.map_cons, List.sum_cons, ih (fun y hy => hg y (by simp [hy])), List.length_append, ← piece_len hx.1 hx.2]
    omega
theorem BackS.run {basis s : Txt} {l : List DSt} (h : BackS basis s l) (hs : s.length ≤ 524288) : runG basis l [] = (0, s) := by
  have := run_good l [] h.good (by rw [h.out]; simpa using hs)
  rw [this, h.out]; rfl
theorem BackS.right {basis s : Txt} {l : List DSt} (h : BackS basis s l) (hs : s.length ≤ 524288) {bm mm : Txt} (h1 : bm.length = 32) (h2 : mm.length = 32) : rightD bm mm s.length l = true := by
  unfold rightD
  rw [sum_good l h.good, h.out]
  have h3 : l.all stS = true := List.all_eq_true.2 (fun x hx => (h.good x hx).1)
  rw [h3]
  simp [h1, h2]; omega

/-! ### A text of itself -/
def copyS (n : Nat) : List DSt := if n = 0 then [] else [⟨0, n, []⟩]
theorem copy_more (n k : Nat) : takeS (copyS n) n k = if n + k = 0 then [⟨0, 0, []⟩] else copyS (n + k) := by
  unfold copyS
  by_cases h : n = 0
  · subst h; rw [if_pos rfl, take_nil]
    by_cases hk : k = 0
    · subst hk; simp
    · rw [if_neg (by omega), if_neg (by omega)]; simp
  · rw [if_neg h, if_neg (by omega), if_neg (by omega)]
    have := take_snoc [] ⟨0, n, []⟩ n k
    rw [List.nil_append] at this
    rw [this, if_pos ⟨rfl, by simp⟩]; simp
theorem srch_same {mt : Txt → Int → Int} {B : Nat} {s : Txt} (hB : 0 < B) (hm : ∀ k : Nat, k * B + B ≤ s.length → mt (win s B (k * B)) k = k) : ∀ (f k : Nat), k * B ≤ s.length → s.length < k * B + f → 
    ∃ N, s.length < N * B + B ∧ N * B ≤ s.length ∧ srchS mt B s f (k * B) (k * B) k (copyS (k * B)) = (copyS (N * B), N * B, N * B) := by
  intro f
  induction f with
  | zero => intro k h1 h2; omega
  | succ f ih =>
    intro k h1 h2
    by_cases hin : k * B + B ≤ s.length
    · rw [srch_yes _ _ _ _ _ _ _ (k : Int) _ hin (hm k hin) (by omega), seg_self, gather_nil]
      have e : (k : Int) * (B : Int) = ((k * B : Nat) : Int) := by simp
      have e2 : k * B + B = (k + 1) * B := by rw [Nat.succ_mul]
      rw [e, copy_more, if_neg (by omega), e2]
      exact ih (k + 1) (by omega) (by omega)
    · rw [srch_end _ _ _ _ _ _ _ _ hin]
      exact ⟨k, by omega, h1, rfl⟩
theorem steps_same {mt : Txt → Int → Int} {T : Txt → Bool} {B : Nat} {s : Txt} (hB : 0 < B) (hm : ∀ k : Nat, k * B + B ≤ s.length → mt (win s B (k * B)) k = k) (hT : T (s.drop (s.length - s.length % B)) = decide (0 < s.length % B)) : stepsS mt T s.length B s = copyS s.length := by
  obtain ⟨N, h1, h2, h3⟩ := srch_same hB hm (s.length + 1) 0 (by simp) (by omega)
  have h3' : srchS mt B s (s.length + 1) 0 0 0 [] = (copyS (N * B), N * B, N * B) := by
    rw [Nat.zero_mul] at h3; exact h3
  unfold stepsS
  rw [h3']
  unfold restS
  dsimp only
  have hmod : s.length % B = s.length - N * B := by
    have : s.length = (s.length - N * B) + N * B := by omega
    rw [this, Nat.add_mul_mod_self_right, Nat.mod_eq_of_lt (by omega)]; omega
  rw [hT]
  by_cases h0 : 0 < s.length % B
  · rw [if_pos ⟨by omega, decide_eq_true h0⟩, hmod, show s.length - (s.length - N * B) = N * B by omega, seg_self, gather_nil, copy_more, if_neg (by omega)]
    congr 1; omega
  · rw [if_neg (fun c => h0 (of_decide_eq_true c.2))]
    have : N * B = s.length := by omega
    rw [this, List.drop_length, gather_nil]

/-! ### How many steps, and how great -/
structure OkL (n : Nat) (l : List DSt) : Prop where
  len : l.length ≤ n
  el : ∀ x ∈ l, 0 ≤ x.pos ∧ x.pos ≤ 1073741824 ∧ 0 ≤ x.len ∧ x.len ≤ n
theorem OkL.nil (n : Nat) : OkL n [] := ⟨by simp, fun x hx => by simp at hx⟩
theorem OkL.mono {n m : Nat} {l : List DSt} (h : OkL n l) (hm : n ≤ m) : OkL m l := ⟨Nat.le_trans h.len hm, fun x hx => by have := h.el x hx; omega⟩
theorem OkL.gather {n : Nat} {l : List DSt} (h : OkL n l) (s : Txt) : OkL (n + s.length) (gatherS l s) := by
  have h1 := cutS_le 4096 (by decide) s
  unfold gatherS
  refine ⟨by rw [List.length_append, List.length_map]; have := h.len; omega, fun x hx => ?_⟩
  rcases List.mem_append.1 hx with hx | hx
  · have := h.el x hx; omega
  · obtain ⟨t, _, rfl⟩ := List.mem_map.1 hx
    unfold txtSt; dsimp only; omega
theorem OkL.take {n : Nat} {l : List DSt} (h : OkL n l) {a k : Int} {m : Nat} (ha : 0 ≤ a) (ha2 : a ≤ 1073741824) (hk : 0 ≤ k) (hm : n + k ≤ m) (hn : n < m) : OkL m (takeS l a k) := by
  rcases List.eq_nil_or_concat l with rfl | ⟨p, x, rfl⟩
  · rw [take_nil]; refine ⟨by simp; omega, fun x hx => ?_⟩
    simp at hx; subst hx; dsimp only; omega
  · rw [List.concat_eq_append] at h ⊢
    rw [take_snoc]
    have hx := h.el x (by simp)
    have hl := h.len
    rw [List.length_append, List.length_singleton] at hl
    split
    · refine ⟨by rw [List.length_append, List.length_singleton]; omega, fun y hy => ?_⟩
      rcases List.mem_append.1 hy with hy | hy
      · have := h.el y (by simp [hy]); omega
      · simp at hy; subst hy; dsimp only; omega
    · refine ⟨by simp; omega, fun y hy => ?_⟩
      rcases List.mem_append.1 hy with hy | hy
      · have := h.el y hy; omega
      · simp at hy; subst hy; dsimp only; omega
end Go.Proofs.YtpkgjokehgihjaaGreat
/- Lists of steps in memory: of the call's own, and such that came in. -/
set_option linter.unusedVariables false
namespace Go.Proofs.YtpkgjokehgihjaaGreat
open Go.RowKit

def stC (x : DSt) : List Value := [.int .i64 x.pos, .int .i64 x.len, .string ⟨x.txt.toArray⟩]
def flatC (l : List DSt) : List Value := (l.map stC).flatten
theorem flat_nil : flatC [] = [] := rfl
theorem flat_cons (x : DSt) (l : List DSt) : flatC (x :: l) = stC x ++ flatC l := rfl
theorem flat_append (l m : List DSt) : flatC (l ++ m) = flatC l ++ flatC m := by unfold flatC; simp
theorem flat_one (x : DSt) : flatC [x] = stC x := by unfold flatC; simp
theorem flat_len (l : List DSt) : (flatC l).length = l.length * 3 := by
  induction l with
  | nil => rfl
  | cons x l ih => rw [flat_cons, List.length_append, ih, List.length_cons]; show 3 + _ = _; omega
theorem flat_get : ∀ (l : List DSt) (i : Nat) (h : i < l.length), (flatC l)[i * 3]? = some (.int .i64 l[i].pos) ∧ (flatC l)[i * 3 + 1]? = some (.int .i64 l[i].len) ∧ (flatC l)[i * 3 + 2]? = some (.string ⟨l[i].txt.toArray⟩) := by
  intro l
  induction l with
  | nil => intro i h; simp at h
  | cons x l ih =>
    intro i h
    rw [flat_cons]
    cases i with
    | zero => exact ⟨rfl, rfl, rfl⟩
    | succ i =>
      have := ih i (by simpa using h)
      have e : ∀ r, (stC x ++ flatC l)[(i + 1) * 3 + r]? = (flatC l)[i * 3 + r]? := fun r => by
        rw [List.getElem?_append_right (by show 3 ≤ _; omega)]
        congr 1
        show (i + 1) * 3 + r - 3 = _
        omega
      refine ⟨(e 0).trans this.1, (e 1).trans this.2.1, (e 2).trans this.2.2⟩

/-- A step from cell o of block g on. -/
structure DStAt (w : World) (g o : Nat) (x : DSt) : Prop where
  c0 : w.cell? ⟨g, o, none⟩ = some (.int .i64 x.pos)
  c1 : w.cell? ⟨g, o + 1, none⟩ = some (.int .i64 x.len)
  c2 : w.cell? ⟨g, o + 2, none⟩ = some (.string ⟨x.txt.toArray⟩)
theorem DStAt.below {w w' : World} {g o : Nat} {x : DSt} {B : Nat} (h : DStAt w g o x) (hb : Below B w w') (hg : g < B) : DStAt w' g o x :=
  ⟨(hb.cell (p := ⟨g, o, none⟩) hg).trans h.c0, (hb.cell (p := ⟨g, o + 1, none⟩) hg).trans h.c1, (hb.cell (p := ⟨g, o + 2, none⟩) hg).trans h.c2⟩
theorem DStAt.lt {w : World} {g o : Nat} {x : DSt} (h : DStAt w g o x) : g < w.heap.size := World.block_lt_of_cell? w _ h.c0
theorem DStAt.new {w w' : World} {g o : Nat} {x : DSt} (h : DStAt w g o x) (hb : Below w.heap.size w w') : DStAt w' g o x := h.below hb h.lt
/-- A list of steps, readable; N tells where it may lie. -/
def RowS (N : Nat → Prop) (w : World) (v : Value) (xs : List DSt) : Prop :=
  ∃ a c, v = .slice a xs.length c ∧ ∀ i (h : i < xs.length), ∃ g o, a = some ⟨g, o, none⟩ ∧ N g ∧ DStAt w g (o + i * 3) xs[i]
theorem RowS.nil (N : Nat → Prop) (w : World) (a : Option Addr) (c : Nat) : RowS N w (.slice a 0 c) [] := ⟨a, c, rfl, fun i h => by simp at h⟩
theorem RowS.at {N : Nat → Prop} {w : World} {v : Value} {xs : List DSt} (h : RowS N w v xs) {i : Nat} (hi : i < xs.length) : ∃ g o c, v = .slice (some ⟨g, o, none⟩) xs.length c ∧ N g ∧ DStAt w g (o + i * 3) xs[i] := by
  obtain ⟨a, c, rfl, hc⟩ := h
  obtain ⟨g, o, rfl, hn, hx⟩ := hc i hi
  exact ⟨g, o, c, rfl, hn, hx⟩
theorem RowS.slice {N : Nat → Prop} {w : World} {v : Value} {xs : List DSt} (h : RowS N w v xs) : ∃ a c, v = .slice a xs.length c := by
  obtain ⟨a, c, rfl, _⟩ := h; exact ⟨a, c, rfl⟩
theorem RowS.below {N : Nat → Prop} {w w' : World} {v : Value} {xs : List DSt} {B : Nat} (h : RowS N w v xs) (hb : Below B w w') (hB : ∀ g, N g → g < B) : RowS N w' v xs := by
  obtain ⟨a, c, rfl, hc⟩ := h
  refine ⟨a, c, rfl, fun i hi => ?_⟩
  obtain ⟨g, o, rfl, hn, hx⟩ := hc i hi
  exact ⟨g, o, rfl, hn, hx.below hb (hB g hn)⟩
theorem RowS.keep {N : Nat → Prop} {w w' : World} {v : Value} {xs : List DSt} (h : RowS N w v xs) (hb : Below w.heap.size w w') : RowS N w' v xs := by
  obtain ⟨a, c, rfl, hc⟩ := h
  refine ⟨a, c, rfl, fun i hi => ?_⟩
  obtain ⟨g, o, rfl, hn, hx⟩ := hc i hi
  exact ⟨g, o, rfl, hn, hx.new hb⟩
theorem RowS.mono {N M : Nat → Prop} {w : World} {v : Value} {xs : List DSt} (h : RowS N w v xs) (hm : ∀ g, N g → M g) : RowS M w v xs := by
  obtain ⟨a, c, rfl, hc⟩ := h
  refine ⟨a, c, rfl, fun i hi => ?_⟩
  obtain ⟨g, o, rfl, hn, hx⟩ := hc i hi
  exact ⟨g, o, rfl, hm g hn, hx⟩

/-- A list of steps of the call's own. -/
def OwnS (w : World) (base : Nat) (v : Value) (xs : List DSt) : Prop := w.ownsRow base 42 3 v xs.length (flatC xs)
theorem OwnS.nil (w : World) (base : Nat) : OwnS w base (.slice none 0 0) [] := World.ownsRow_nil w base _ 3
theorem OwnS.row {w : World} {base : Nat} {v : Value} {xs : List DSt} (h : OwnS w base v xs) : RowS (base ≤ ·) w v xs := by
  rcases h.2 with ⟨rfl, hn⟩ | ⟨g, cap, cur, rfl, hb, hg, _⟩
  · have : xs = [] := List.eq_nil_of_length_eq_zero hn
    subst this
    exact RowS.nil _ _ _ _
  · refine ⟨some ⟨g, 0, none⟩, cap, rfl, fun i hi => ⟨g, 0, rfl, hb, ?_⟩⟩
    have C := World.ownsRow.cells h (g := g) rfl
    obtain ⟨f0, f1, f2⟩ := flat_get xs i hi
    have D0 := C _ _ f0
    have D1 := C _ _ f1
    have D2 := C _ _ f2
    rw [addr_add0] at D0 D1 D2
    rw [Nat.zero_add]
    exact ⟨D0, D1, D2⟩
theorem OwnS.mono {w : World} {base base' : Nat} {v : Value} {xs : List DSt} (h : OwnS w base v xs) (hb : base' ≤ base) : OwnS w base' v xs := by
  refine ⟨h.1, ?_⟩
  rcases h.2 with hn | ⟨g, cap, cur, rfl, hg, rest⟩
  · exact .inl hn
  · exact .inr ⟨g, cap, cur, rfl, Nat.le_trans hb hg, rest⟩
theorem OwnS.new {w w' : World} {base : Nat} {v : Value} {xs : List DSt} (h : OwnS w base v xs) (hb : Below w.heap.size w w') : OwnS w' base v xs :=
  own_off h (Kept.new hb (fun _ => False)) (fun _ _ _ _ => id)
theorem OwnS.kept {w w' : World} {M : Nat → Prop} {base : Nat} {v : Value} {xs : List DSt} (h : OwnS w base v xs) (hk : Kept M w w') (hm : ∀ g, v.ownBlock = some g → ¬ M g) : OwnS w' base v xs :=
  own_off h hk (fun g _ _ hg => hm g hg)
theorem OwnS.lt {w : World} {base : Nat} {v : Value} {xs : List DSt} (h : OwnS w base v xs) {g : Nat} (hg : v.ownBlock = some g) : base ≤ g ∧ g < w.heap.size ∧ ∃ cur, w.heap[g]? = some (.cells cur 42 (0, 0)) := by
  rcases h.2 with ⟨rfl, _⟩ | ⟨g', cap, cur, rfl, hb, hgg, _⟩
  · simp [Value.ownBlock] at hg
  · simp [Value.ownBlock] at hg
    subst hg
    exact ⟨hb, (Array.getElem?_eq_some_iff.1 hgg).1, cur, hgg⟩
/-- A list of the call's own, turned: what else stands, and where it lies now. -/
structure TurnS (base : Nat) (w : World) (v : Value) (w' : World) (v' : Value) : Prop where
  bel : Below base w w'
  kept : Kept (fun k => v.ownBlock = some k) w w'
  mov : ∀ g, v'.ownBlock = some g → v.ownBlock = some g ∨ w.heap.size ≤ g
theorem TurnS.refl (base : Nat) (w : World) (v : Value) : TurnS base w v w v := ⟨Below.refl _ _, Kept.refl _ _, fun g h => .inl h⟩
theorem TurnS.trans {base : Nat} {w w1 w2 : World} {v v1 v2 : Value} (h : TurnS base w v w1 v1) (k : TurnS base w1 v1 w2 v2) : TurnS base w v w2 v2 := by
  have hs := h.kept.size
  refine ⟨h.bel.trans k.bel, ⟨k.kept.os.trans h.kept.os, k.kept.tape.trans h.kept.tape, k.kept.output.trans h.kept.output, Nat.le_trans h.kept.size k.kept.size, fun i hi hm => ?_⟩, fun g hg => ?_⟩
  · refine (k.kept.block i (Nat.lt_of_lt_of_le hi h.kept.size) (fun e => ?_)).trans (h.kept.block i hi hm)
    rcases h.mov i e with c | c
    · exact hm c
    · omega
  · rcases k.mov g hg with c | c
    · exact h.mov g c
    · exact .inr (by omega)
theorem TurnS.new {base : Nat} {w w1 w2 : World} {v v1 : Value} (h : TurnS base w v w1 v1) (hb : Below w1.heap.size w1 w2) (hw : base ≤ w.heap.size) : TurnS base w v w2 v1 :=
  h.trans ⟨hb.mono (Nat.le_trans hw h.kept.size), Kept.new hb _, fun g e => .inl e⟩
section
variable {P : Program}
/-- Steps behind others of the call's own. -/
theorem append_step {w w0 : World} {ops : Array Oper} {rest : List Oper} {o : Oper} {a : Act} {Q : Exit → Act → World → Prop} (hgd : o.guard = none) (s x : Operand) (t : TypeId) (z : Value)
    (ho : o.op = .call { callee := .builtin .append, args := #[s, x], argTypes := #[t, t] }) (ht : P.underlying t = some (.slice 42))
    (hinfo : (P.info? 42).map (fun i => (i.zero, i.size, i.bytes)) = some (some z, 3, 32)) (hz : z.cells.size = 3)
    (base : Nat) (v : Value) (l : List DSt) (y : DSt) (g : Nat) (hs : a.eval s = v) (hown : OwnS w0 base v l) (hx : a.eval x = .slice (some ⟨g, 0, none⟩) 1 1) (hy : DStAt w g 0 y)
    (hw : Below w0.heap.size w0 w) (hlen : l.length ≤ 2000000) (hbase : base ≤ w0.heap.size)
    (h : ∀ v' w', OwnS w' base v' (l ++ [y]) → TurnS base w0 v w' v' → wpList P ops Q rest (a.put o.dst v') w') :
    wpList P ops Q (o :: rest) a w := by
  obtain ⟨i0, hi, hz0, hz1, hz2⟩ := info_parts hinfo
  have hown1 := hown.new hw
  have hsz := hw.size
  refine wpList_append_own_at _ hgd s x t ho base _ i0 z 3 32 ht hi hz0 hz1 hz2 hz (by decide) v l.length (flatC l) hs hown1 ⟨g, 0, none⟩ 1 1 (stC y) hx rfl ?_ ?_ (by unfold maxLen; omega) (by omega) (by omega) ?_
  · intro j u hj
    rw [addr_add0]
    match j, hj with
    | 0, hj => simp [stC] at hj; subst hj; exact hy.c0
    | 1, hj => simp [stC] at hj; subst hj; exact hy.c1
    | 2, hj => simp [stC] at hj; subst hj; exact hy.c2
  · intro u hu
    simp [stC] at hu
    rcases hu with rfl | rfl | rfl <;> rfl
  · intro v' w' hown' hg _ hat
    have hb1 : Below base w0 w := hw.mono hbase
    refine h v' w' ?_ ⟨hb1.grown hg (by omega) (fun k hk => (World.ownsRow.lt hown1 k hk).1), ?_, fun g' hg' => ?_⟩
    · unfold OwnS
      rw [flat_append, List.length_append, flat_one]
      exact hown'
    · have k1 : Kept (fun k => v.ownBlock = some k) w0 w := Kept.new hw _
      exact k1.trans ⟨hg.os, hg.tape, hg.output, hg.size, fun k hk hm => hg.block k hk (fun he => hm he.symm)⟩
    · rcases hat with h | h
      · exact .inl (by rw [← h]; exact hg')
      · right
        rw [hg'] at h
        simp at h
        omega
/-- One step that was built behind others of the call's own. -/
theorem append_st {w : World} {ops : Array Oper} {rest : List Oper} {o : Oper} {a : Act} {Q : Exit → Act → World → Prop} (hgd : o.guard = none) (s x : Operand) (t : TypeId) (z : Value)
    (ho : o.op = .call { callee := .builtin .append, args := #[s, x], argTypes := #[t, t] }) (ht : P.underlying t = some (.slice 42))
    (hinfo : (P.info? 42).map (fun i => (i.zero, i.size, i.bytes)) = some (some z, 3, 32)) (hz : z.cells.size = 3)
    (base : Nat) (v : Value) (l : List DSt) (y : DSt) (hs : a.eval s = v) (hown : OwnS w base v l) (hx : a.eval x = .slice (some ⟨w.heap.size, 0, none⟩) 1 1)
    (hlen : l.length ≤ 2000000) (hbase : base ≤ w.heap.size)
    (h : ∀ v' w', OwnS w' base v' (l ++ [y]) → TurnS base w v w' v' → wpList P ops Q rest (a.put o.dst v') w') :
    wpList P ops Q (o :: rest) a (w.alloc (.cells #[.int .i64 y.pos, .int .i64 y.len, .string ⟨y.txt.toArray⟩] 42)) := by
  refine append_step hgd s x t z ho ht hinfo hz base v l y w.heap.size hs hown hx ⟨?_, ?_, ?_⟩ ((Below.refl _ _).alloc (Nat.le_refl _) _) hlen hbase h
  all_goals rw [cell_of_row _ _ _ _ _ _ (heap_alloc_new _ _)]; rfl
end
/-- The last one made longer. -/
theorem flat_set (l : List DSt) (x : DSt) (n : Int) : (flatC (l ++ [x])).set (l.length * 3 + 1) (.int .i64 n) = flatC (l ++ [⟨x.pos, n, x.txt⟩]) := by
  rw [flat_append, flat_append, flat_one, flat_one, List.set_append_right _ _ (by rw [flat_len]; omega), flat_len, show l.length * 3 + 1 - l.length * 3 = 1 by omega]
  rfl
theorem OwnS.set {w : World} {base g cap : Nat} {l : List DSt} {x : DSt} (h : OwnS w base (.slice (some ⟨g, 0, none⟩) (l.length + 1) cap) (l ++ [x])) (n : Int) :
    OwnS (w.setCell ⟨g, l.length * 3 + 1, none⟩ (.int .i64 n)) base (.slice (some ⟨g, 0, none⟩) (l.length + 1) cap) (l ++ [⟨x.pos, n, x.txt⟩]) ∧ w.frozen? ⟨g, l.length * 3 + 1, none⟩ = false ∧ base ≤ g := by
  have hl : (l ++ [x]).length = l.length + 1 := by simp
  have h' : w.ownsRow base 42 3 (.slice (some ⟨g, 0, none⟩) (l.length + 1) cap) (l.length + 1) (flatC (l ++ [x])) := by
    have := h; unfold OwnS at this; rw [hl] at this; exact this
  refine ⟨?_, World.ownsRow.frozenAt h' _, (World.ownsRow.lt h' g rfl).1⟩
  have s1 := (World.ownsRow.stored h' (l.length * 3 + 1) (.int .i64 n)).1
  rw [flat_set] at s1
  unfold OwnS
  rw [show (l ++ [(⟨x.pos, n, x.txt⟩ : DSt)]).length = l.length + 1 by simp]
  exact s1
theorem info_step : (Tryz.prog.info? 42).map (fun i => (i.zero, i.size, i.bytes)) = some (some (.agg #[.int .i64 0, .int .i64 0, .string ByteArray.empty]), 3, 32) := by kernel_rfl
end Go.Proofs.YtpkgjokehgihjaaGreat

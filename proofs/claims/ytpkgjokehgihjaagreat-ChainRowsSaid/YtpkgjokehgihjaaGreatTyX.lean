/- Several texts in one: ChainMath, FollowsW, CTakeW, LetGoW, LetGo2W, HeldW, TidyW, TidiedW. -/
import Derived.Test.YtpkgjokehgihjaaGreatMkX
import Derived.Test.YtpkgjokehgihjaaGreatDelX
import Derived.Test.YtpkgjokehgihjaaGreatGen
import Derived.Test.YtpkgjokehgihjaaGreatMarkMath
import Derived.Test.YtpkgjokehgihjaaGreatRollMath
import Derived.Test.YtpkgjokehgihjaaGreatSignMath
import Derived.Test.YtpkgjokehgihjaaGreatFrame
import Derived.Test.YtpkgjokehgihjaaGreatOwnL
import Derived.Test.YtpkgjokehgihjaaGreatProg
import Derived.Test.YtpkgjokehgihjaaGreatRowKeep
import Derived.Test.YtpkgjokehgihjaaGreatRows
import Derived.Test.YtpkgjokehgihjaaGreatStepW
import Derived.BigQuiet
import Derived.Deep.QuietTactic
import Derived.IntWalk
import Derived.Laws.Rows
import Derived.Laws.Tables
import Derived.Lib.Hide
import Derived.Outline
import Derived.WalkKit
import Derived.WalkLawsBesides
import Derived.WalkSpells
import Derived.Test.YtpkgjokehgihjaaGreatGaX
import Derived.Test.YtpkgjokehgihjaaGreatRollX
import Derived.Test.YtpkgjokehgihjaaGreatTabX
import Derived.Test.YtpkgjokehgihjaaGreatShelf
import Derived.Test.YtpkgjokehgihjaaGreatSigAt
import Derived.BigRegion
import Derived.Deep.CutBlock
import Derived.Deep.DeepCutAuto
import Derived.Deep.RegionLaw
import Derived.Laws.BitsAllLaws
import Derived.StillTailTactics
import Derived.Test.YtpkgjokehgihjaaGreatSignW
import Derived.Test.YtpkgjokehgihjaaGreatWkX
import Derived.Deep.AppendLies
import Derived.Deep.RegionHeld3
import Derived.Test.YtpkgjokehgihjaaGreatInfos
import Derived.Test.YtpkgjokehgihjaaGreatBookW
import Derived.Test.YtpkgjokehgihjaaGreatCmpW
import Derived.Test.YtpkgjokehgihjaaGreatOdX
import Derived.Test.YtpkgjokehgihjaaGreatRightDW
import Derived.Test.YtpkgjokehgihjaaGreatSameW
import Derived.Test.YtpkgjokehgihjaaGreatSortX
import Derived.Test.YtpkgjokehgihjaaGreatSortEW
import Derived.Deep.LoopGhost
import Derived.Laws.MakeOwn
/- Plain mathematics of chains: steps as bytes, each told or of a place; tidy steps; two as one. Of no program. -/
set_option linter.unusedVariables false
namespace Go.Proofs.YtpkgjokehgihjaaGreat
open Go.RowKit

/-- A byte: told, or of a place of the basis. -/
abbrev BT := Sum UInt8 Int
def placesC (a : Int) (n : Nat) : List BT := (List.range n).map fun (k : Nat) => (Sum.inr (a + (k : Int)) : BT)
def toldC (t : Txt) : List BT := t.map .inl
def bytesO (x : DSt) : List BT := if x.txt ≠ [] then toldC x.txt else placesC x.pos x.len.toNat
def bytesA (l : List DSt) : List BT := (l.map bytesO).flatten
theorem places_zero (a : Int) : placesC a 0 = [] := rfl
theorem places_succ (a : Int) (n : Nat) : placesC a (n + 1) = placesC a n ++ [.inr (a + (n : Int))] := by
  unfold placesC; rw [List.range_succ, List.map_append]; rfl
theorem places_len (a : Int) (n : Nat) : (placesC a n).length = n := by unfold placesC; simp
theorem places_add (a : Int) (n m : Nat) : placesC a (n + m) = placesC a n ++ placesC (a + (n : Int)) m := by
  induction m with
  | zero => simp [places_zero]
  | succ m ih => rw [← Nat.add_assoc, places_succ, ih, places_succ, List.append_assoc]; congr 3; rw [Int.natCast_add, Int.add_assoc]
theorem places_get (a : Int) (n i : Nat) (h : i < n) : (placesC a n)[i]? = some (.inr (a + (i : Int))) := by
  unfold placesC; simp [h]
theorem told_len (t : Txt) : (toldC t).length = t.length := by unfold toldC; simp
theorem bytes_nil : bytesA [] = [] := rfl
theorem bytes_append (l m : List DSt) : bytesA (l ++ m) = bytesA l ++ bytesA m := by unfold bytesA; simp
theorem bytes_cons (x : DSt) (l : List DSt) : bytesA (x :: l) = bytesO x ++ bytesA l := by unfold bytesA; simp
theorem bytes_one (x : DSt) : bytesA [x] = bytesO x := by unfold bytesA; simp

/-- Tidy: what holds behind a byte, behind a step; the end. -/
def tidN (st : List DSt × Txt) : BT → List DSt × Txt
  | .inl c => (st.1, st.2 ++ [c])
  | .inr a => (takeS (gatherS st.1 st.2) a 1, [])
def tidE (st : List DSt × Txt) : List DSt := gatherS st.1 st.2
def stepsB (l : List BT) : List DSt := tidE (l.foldl tidN ([], []))
def tidX (st : List DSt × Txt) (x : DSt) : List DSt × Txt :=
  if x.txt ≠ [] then (st.1, st.2 ++ x.txt) else if 0 < x.len then (takeS (gatherS st.1 st.2) x.pos x.len, []) else st
def tidyS (l : List DSt) : List DSt := tidE (l.foldl tidX ([], []))
theorem take_last (l : List DSt) (a n : Int) : ∃ m x, takeS l a n = m ++ [x] ∧ x.txt = [] ∧ x.pos + x.len = a + n := by
  rcases List.eq_nil_or_concat l with rfl | ⟨m, x, rfl⟩
  · exact ⟨[], _, rfl, rfl, rfl⟩
  · rw [List.concat_eq_append, take_snoc]
    split
    · rename_i h; exact ⟨m, _, rfl, rfl, by dsimp only; omega⟩
    · exact ⟨m ++ [x], _, rfl, rfl, rfl⟩
theorem take_take (l : List DSt) (a n k : Int) : takeS (takeS l a n) (a + n) k = takeS l a (n + k) := by
  rcases List.eq_nil_or_concat l with rfl | ⟨m, x, rfl⟩
  · rw [take_nil, take_nil]
    have := take_snoc [] ⟨a, n, []⟩ (a + n) k
    rw [List.nil_append] at this
    rw [this, if_pos ⟨rfl, rfl⟩]; rfl
  · rw [List.concat_eq_append, take_snoc, take_snoc]
    split
    · rename_i h
      rw [take_snoc, if_pos ⟨rfl, by dsimp only; omega⟩]
      dsimp only
      rw [Int.add_assoc]
    · rw [take_snoc, if_pos ⟨rfl, rfl⟩]
theorem tid_told (t : Txt) : ∀ st : List DSt × Txt, (toldC t).foldl tidN st = (st.1, st.2 ++ t) := by
  induction t with
  | nil => intro st; simp [toldC]
  | cons c t ih =>
    intro st
    have : toldC (c :: t) = .inl c :: toldC t := rfl
    rw [this, List.foldl_cons, ih]
    simp [tidN]
theorem tid_places (st : List DSt × Txt) (a : Int) (n : Nat) : (placesC a (n + 1)).foldl tidN st = (takeS (gatherS st.1 st.2) a ((n + 1 : Nat) : Int), []) := by
  induction n with
  | zero => rw [places_succ, places_zero]; simp [tidN]
  | succ n ih =>
    rw [places_succ, List.foldl_append, ih]
    simp only [List.foldl_cons, List.foldl_nil, tidN, gather_nil]
    rw [take_take]
    simp
theorem tid_bytes (st : List DSt × Txt) (x : DSt) : (bytesO x).foldl tidN st = tidX st x := by
  unfold bytesO tidX
  by_cases h : x.txt = []
  · rw [if_neg (by simp [h]), if_neg (by simp [h])]
    by_cases h0 : 0 < x.len
    · obtain ⟨n, hn⟩ : ∃ n : Nat, x.len = ((n + 1 : Nat) : Int) := ⟨x.len.toNat - 1, by omega⟩
      rw [if_pos h0, hn, Int.toNat_natCast, tid_places]
    · rw [if_neg h0, show x.len.toNat = 0 by omega]; rfl
  · rw [if_pos h, if_pos h, tid_told]
theorem tid_all (l : List DSt) : ∀ st : List DSt × Txt, (bytesA l).foldl tidN st = l.foldl tidX st := by
  induction l with
  | nil => intro st; rfl
  | cons x l ih => intro st; rw [bytes_cons, List.foldl_append, tid_bytes, List.foldl_cons, ih]
/-- Tidy is the document's. -/
theorem tidy_bytes (l : List DSt) : tidyS l = stepsB (bytesA l) := by unfold tidyS stepsB; rw [tid_all]

/-! ### The bytes of tidy steps -/
def PosL (l : List DSt) : Prop := ∀ x ∈ l, 0 ≤ x.len
theorem PosL.append {l m : List DSt} (h : PosL l) (k : PosL m) : PosL (l ++ m) := fun x hx => (List.mem_append.1 hx).elim (h x) (k x)
theorem PosL.gather {l : List DSt} (h : PosL l) (s : Txt) : PosL (gatherS l s) := by
  refine h.append fun x hx => ?_
  obtain ⟨t, _, rfl⟩ := List.mem_map.1 hx
  exact Int.le_refl 0
theorem PosL.take {l : List DSt} (h : PosL l) (a n : Int) (hn : 0 ≤ n) : PosL (takeS l a n) := by
  have h1 : PosL [⟨a, n, []⟩] := fun x hx => by simp at hx; subst hx; exact hn
  rcases List.eq_nil_or_concat l with rfl | ⟨m, x, rfl⟩
  · exact h1
  · rw [List.concat_eq_append] at h ⊢
    rw [take_snoc]
    split
    · have := h x (by simp)
      exact PosL.append (fun y hy => h y (by simp [hy])) (fun y hy => by simp at hy; subst hy; dsimp only; omega)
    · exact h.append h1
theorem bytes_take {l : List DSt} (h : PosL l) (a : Int) (n : Nat) : bytesA (takeS l a (n : Int)) = bytesA l ++ placesC a n := by
  have h1 : bytesO ⟨a, (n : Int), []⟩ = placesC a n := by unfold bytesO; rw [if_neg (by simp)]; simp
  rcases List.eq_nil_or_concat l with rfl | ⟨m, x, rfl⟩
  · rw [take_nil, bytes_one, h1]; rfl
  · rw [List.concat_eq_append] at h ⊢
    rw [take_snoc]
    split
    · rename_i hc
      have hx := h x (by simp)
      rw [bytes_append, bytes_append, bytes_one, bytes_one, List.append_assoc]
      congr 1
      obtain ⟨k, hk⟩ : ∃ k : Nat, x.len = (k : Int) := ⟨x.len.toNat, by omega⟩
      unfold bytesO
      rw [if_neg (by simp), if_neg (by simp [hc.1])]
      dsimp only
      rw [hk, ← Int.natCast_add, Int.toNat_natCast, Int.toNat_natCast, places_add, ← hk, hc.2]
    · rw [bytes_append, bytes_one, h1]
theorem bytes_cut (k : Nat) : ∀ s : Txt, s.length ≤ k → bytesA ((cutS 4096 s).map txtSt) = toldC s := by
  induction k with
  | zero => intro s h; have : s = [] := List.eq_nil_of_length_eq_zero (by omega); subst this; rw [cutS_nil]; rfl
  | succ k ih =>
    intro s h
    by_cases h0 : 0 < s.length
    · rw [cutS_cons 4096 s (by decide) h0, List.map_cons, bytes_cons, ih _ (by rw [List.length_drop]; omega)]
      unfold bytesO txtSt
      rw [if_pos (by intro e; have := congrArg List.length e; dsimp only at this; rw [List.length_take, List.length_nil] at this; omega)]
      unfold toldC
      rw [← List.map_append, List.take_append_drop]
    · have : s = [] := List.eq_nil_of_length_eq_zero (by omega); subst this; rw [cutS_nil]; rfl
theorem bytes_gather (l : List DSt) (s : Txt) : bytesA (gatherS l s) = bytesA l ++ toldC s := by
  unfold gatherS; rw [bytes_append, bytes_cut _ s (Nat.le_refl _)]
theorem tid_inv (B : List BT) : ∀ st : List DSt × Txt, PosL st.1 → PosL (B.foldl tidN st).1 ∧ bytesA (B.foldl tidN st).1 ++ toldC (B.foldl tidN st).2 = bytesA st.1 ++ toldC st.2 ++ B := by
  induction B with
  | nil => intro st h; exact ⟨h, by simp⟩
  | cons b B ih =>
    intro st h
    rw [List.foldl_cons]
    cases b with
    | inl c =>
      obtain ⟨h1, h2⟩ := ih (tidN st (.inl c)) h
      refine ⟨h1, h2.trans ?_⟩
      unfold tidN toldC
      simp
    | inr a =>
      have hp := (h.gather st.2).take a 1 (by omega)
      obtain ⟨h1, h2⟩ := ih (tidN st (.inr a)) hp
      refine ⟨h1, h2.trans ?_⟩
      unfold tidN
      dsimp only
      have := bytes_take (h.gather st.2) a 1
      rw [show ((1 : Nat) : Int) = 1 from rfl] at this
      rw [this, bytes_gather]
      unfold toldC placesC
      simp
/-- Tidy steps make what they are made of. -/
theorem bytes_steps (B : List BT) : bytesA (stepsB B) = B := by
  unfold stepsB tidE
  rw [bytes_gather]
  have := (tid_inv B ([], []) (fun x hx => by simp at hx)).2
  simpa [bytes_nil, toldC] using this

/-! ### In range; right -/
def InR (B : List BT) (n : Nat) : Prop := ∀ b ∈ B, ∀ a, b = .inr a → 0 ≤ a ∧ a < n
theorem InR.nil (n : Nat) : InR [] n := fun b hb => by simp at hb
theorem InR.append {A B : List BT} {n : Nat} : InR (A ++ B) n ↔ InR A n ∧ InR B n := by
  unfold InR
  simp only [List.mem_append]
  exact ⟨fun h => ⟨fun b hb => h b (.inl hb), fun b hb => h b (.inr hb)⟩, fun h b hb => hb.elim (h.1 b) (h.2 b)⟩
theorem InR.mono {B : List BT} {n m : Nat} (h : InR B n) (hm : n ≤ m) : InR B m := fun b hb a e => by have := h b hb a e; omega
theorem InR.told (t : Txt) (n : Nat) : InR (toldC t) n := by
  intro b hb a e; unfold toldC at hb; obtain ⟨c, _, rfl⟩ := List.mem_map.1 hb; cases e
theorem InR.places (a k n : Nat) (h : a + k ≤ n) : InR (placesC a k) n := by
  intro b hb c e
  unfold placesC at hb
  obtain ⟨j, hj, rfl⟩ := List.mem_map.1 hb
  rw [List.mem_range] at hj
  injection e with e
  omega
theorem inR_good {l : List DSt} {n : Nat} (h : goodS n l) : InR (bytesA l) n := by
  induction l with
  | nil => exact InR.nil n
  | cons x l ih =>
    rw [bytes_cons, InR.append]
    refine ⟨?_, ih (fun y hy => h y (by simp [hy]))⟩
    obtain ⟨h1, h2⟩ := h x (by simp)
    unfold stS at h1
    unfold bytesO
    split
    · exact InR.told _ _
    · rename_i hc
      rw [if_neg hc] at h1
      have := of_decide_eq_true h1
      have e1 : x.pos = ((x.pos.toNat : Nat) : Int) := by omega
      rw [e1]
      exact InR.places _ _ _ (by omega)
theorem tid_good {n : Nat} (hn : n ≤ 524288) (B : List BT) : ∀ st : List DSt × Txt, goodS n st.1 → InR B n → goodS n (B.foldl tidN st).1 := by
  induction B with
  | nil => intro st h _; exact h
  | cons b B ih =>
    intro st h hr
    rw [List.foldl_cons]
    refine ih _ ?_ (fun y hy => hr y (by simp [hy]))
    cases b with
    | inl c => exact h
    | inr a =>
      obtain ⟨h1, h2⟩ := hr _ (by simp) a rfl
      obtain ⟨k, rfl⟩ : ∃ k : Nat, a = (k : Int) := ⟨a.toNat, by omega⟩
      unfold tidN
      dsimp only
      have := take_good (gather_good h st.2) k 1 (by decide) (by omega) hn
      simpa using this
theorem steps_good {n : Nat} (hn : n ≤ 524288) {B : List BT} (h : InR B n) : goodS n (stepsB B) := by
  unfold stepsB tidE
  exact gather_good (tid_good hn B ([], []) (good_nil n) h) _
theorem mk_bytes {x : DSt} (h : stS x = true) : ((bytesO x).length : Int) = mkS x := by
  unfold bytesO mkS
  unfold stS at h
  split
  · rename_i c; rw [if_pos c] at h; have := of_decide_eq_true h; rw [told_len]; omega
  · rename_i c; rw [if_neg c] at h; have := of_decide_eq_true h; simp at c; rw [c, places_len]; simp; omega
theorem sum_bytes (l : List DSt) (h : ∀ x ∈ l, stS x = true) : (l.map mkS).sum = ((bytesA l).length : Int) := by
  induction l with
  | nil => rfl
  | cons x l ih =>
    rw [List.map_cons, List.sum_cons, ih (fun y hy => h y (by simp [hy])), bytes_cons, List.length_append, ← mk_bytes (h x (by simp))]
    omega
theorem right_good {bm mm : Txt} {n : Int} {l : List DSt} (h : rightD bm mm n l = true) : goodS 524288 l ∧ n = ((bytesA l).length : Int) ∧ (bytesA l).length ≤ 524288 ∧ bm.length = 32 ∧ mm.length = 32 := by
  unfold rightD at h
  simp only [Bool.and_eq_true, decide_eq_true_eq, List.all_eq_true] at h
  obtain ⟨⟨⟨⟨h1, h2⟩, h3⟩, h4⟩, h5⟩ := h
  rw [sum_bytes l h4] at h5
  refine ⟨fun x hx => ⟨h4 x hx, ?_⟩, h5.symm, by omega, h1, h2⟩
  have := h4 x hx
  unfold stS at this
  split at this
  · have := of_decide_eq_true this; omega
  · have := of_decide_eq_true this; omega
theorem steps_right {bm mm : Txt} {B : List BT} (h1 : bm.length = 32) (h2 : mm.length = 32) (hr : InR B 524288) (hl : B.length ≤ 524288) : rightD bm mm (B.length : Int) (stepsB B) = true := by
  have hg := steps_good (Nat.le_refl _) hr
  have h3 : ∀ x ∈ stepsB B, stS x = true := fun x hx => (hg x hx).1
  unfold rightD
  rw [decide_eq_true h1, decide_eq_true h2, decide_eq_true (by omega), List.all_eq_true.2 h3, sum_bytes _ h3, bytes_steps]
  simp

/-! ### Two as one -/
def cmpO (x : List BT) : BT → BT
  | .inl c => .inl c
  | .inr a => x[a.toNat]?.getD (.inl 0)
def compB (x y : List BT) : List BT := y.map (cmpO x)
theorem comp_len (x y : List BT) : (compB x y).length = y.length := by unfold compB; simp
theorem comp_append (x y z : List BT) : compB x (y ++ z) = compB x y ++ compB x z := by unfold compB; simp
theorem comp_told (x : List BT) (t : Txt) : compB x (toldC t) = toldC t := by unfold compB toldC; simp [cmpO]
theorem comp_places (x : List BT) (a n : Nat) (h : a + n ≤ x.length) : compB x (placesC a n) = (x.drop a).take n := by
  apply List.ext_getElem?
  intro i
  unfold compB
  rw [List.getElem?_map]
  by_cases hi : i < n
  · rw [places_get _ _ _ hi, List.getElem?_take_of_lt hi, List.getElem?_drop]
    simp only [Option.map_some, cmpO]
    rw [show ((a : Int) + (i : Int)).toNat = a + i by omega, List.getElem?_eq_getElem (by omega)]
    rfl
  · rw [List.getElem?_eq_none (by rw [places_len]; omega), List.getElem?_eq_none (by rw [List.length_take]; omega)]
    rfl
theorem comp_inR {x y : List BT} {n : Nat} (hx : InR x n) (hy : InR y x.length) : InR (compB x y) n := by
  intro b hb a e
  unfold compB at hb
  obtain ⟨c, hc, rfl⟩ := List.mem_map.1 hb
  cases c with
  | inl c => cases e
  | inr k =>
    obtain ⟨h1, h2⟩ := hy _ hc k rfl
    unfold cmpO at e
    have hk : k.toNat < x.length := by omega
    simp only [List.getElem?_eq_getElem hk, Option.getD_some] at e
    exact hx _ (List.getElem_mem hk) a e
theorem comp_assoc {x y z : List BT} (hz : InR z y.length) : compB (compB x y) z = compB x (compB y z) := by
  unfold compB
  rw [List.map_map]
  refine List.map_congr_left fun b hb => ?_
  cases b with
  | inl c => rfl
  | inr k =>
    obtain ⟨h1, h2⟩ := hz _ hb k rfl
    have hk : k.toNat < y.length := by omega
    simp only [Function.comp, cmpO]
    rw [List.getElem?_map, List.getElem?_eq_getElem hk]
    simp only [Option.map_some, Option.getD_some]
    cases y[k.toNat] <;> rfl
theorem comp_id_left (n : Nat) {y : List BT} (h : InR y n) : compB (placesC 0 n) y = y := by
  unfold compB
  conv => rhs; rw [← List.map_id y]
  refine List.map_congr_left fun b hb => ?_
  cases b with
  | inl c => rfl
  | inr k =>
    obtain ⟨h1, h2⟩ := h _ hb k rfl
    simp only [cmpO, id]
    rw [places_get _ _ _ (by omega : k.toNat < n)]
    simp only [Option.getD_some]
    congr 1
    omega
theorem comp_id_right (x : List BT) : compB x (placesC 0 x.length) = x := by
  have := comp_places x 0 x.length (by omega)
  rw [show ((0 : Nat) : Int) = 0 from rfl] at this
  rw [this, List.drop_zero, List.take_length]

/-! ### What bytes make of a basis -/
def outO (basis : Txt) : BT → UInt8
  | .inl c => c
  | .inr a => basis[a.toNat]?.getD 0
def outT (basis : Txt) (B : List BT) : Txt := B.map (outO basis)
theorem outT_append (basis : Txt) (A B : List BT) : outT basis (A ++ B) = outT basis A ++ outT basis B := by unfold outT; simp
theorem outT_told (basis t : Txt) : outT basis (toldC t) = t := by
  unfold outT toldC
  rw [List.map_map]
  conv => rhs; rw [← List.map_id t]
  rfl
theorem outT_places (basis : Txt) (a n : Nat) (h : a + n ≤ basis.length) : outT basis (placesC a n) = (basis.drop a).take n := by
  apply List.ext_getElem?
  intro i
  unfold outT
  rw [List.getElem?_map]
  by_cases hi : i < n
  · rw [places_get _ _ _ hi, List.getElem?_take_of_lt hi, List.getElem?_drop]
    simp only [Option.map_some, outO]
    rw [show ((a : Int) + (i : Int)).toNat = a + i by omega, List.getElem?_eq_getElem (by omega)]
    rfl
  · rw [List.getElem?_eq_none (by rw [places_len]; omega), List.getElem?_eq_none (by rw [List.length_take]; omega)]
    rfl
theorem out_bytes {basis : Txt} (l : List DSt) (h : goodS basis.length l) : outS basis l = outT basis (bytesA l) := by
  induction l with
  | nil => rfl
  | cons x l ih =>
    rw [bytes_cons, outT_append, ← ih (fun y hy => h y (by simp [hy]))]
    have e : outS basis (x :: l) = pieceS basis x ++ outS basis l := by unfold outS; simp
    rw [e]
    congr 1
    obtain ⟨h1, h2⟩ := h x (by simp)
    unfold stS at h1
    unfold pieceS bytesO
    split
    · rename_i c
      rw [if_pos c] at h1
      have := of_decide_eq_true h1
      rw [outT_told, show x.len.toNat = 0 by omega]
      simp
    · rename_i c
      rw [if_neg c] at h1
      have := of_decide_eq_true h1
      simp at c
      have e1 : x.pos = ((x.pos.toNat : Nat) : Int) := by omega
      rw [c, List.nil_append, e1, outT_places _ _ _ (by omega), Int.toNat_natCast]
theorem outT_comp {basis : Txt} {x y : List BT} (hy : InR y x.length) : outT (outT basis x) y = outT basis (compB x y) := by
  unfold compB outT
  rw [List.map_map]
  refine List.map_congr_left fun b hb => ?_
  cases b with
  | inl c => rfl
  | inr k =>
    obtain ⟨h1, h2⟩ := hy _ hb k rfl
    have hk : k.toNat < x.length := by omega
    simp only [Function.comp, cmpO, outO]
    rw [List.getElem?_map, List.getElem?_eq_getElem hk]
    simp only [Option.map_some, Option.getD_some]
    cases x[k.toNat] <;> rfl

/-! ### Pieces of steps -/
def cutO (x : DSt) (f m : Nat) : DSt := if x.txt ≠ [] then ⟨0, 0, (x.txt.take (f + m)).drop f⟩ else ⟨x.pos + f, m, []⟩
theorem cut_bytes {x : DSt} (h : stS x = true) (f m : Nat) (hm : 0 < m) (hf : f + m ≤ (bytesO x).length) : bytesO (cutO x f m) = ((bytesO x).drop f).take m ∧ stS (cutO x f m) = true := by
  unfold stS at h
  by_cases c : x.txt = []
  · rw [if_neg (by simp [c])] at h
    have h0 := of_decide_eq_true h
    unfold bytesO at hf ⊢
    rw [if_neg (by simp [c])] at hf
    rw [if_neg (by simp [c] : ¬ x.txt ≠ [])]
    rw [places_len] at hf
    unfold cutO
    rw [if_neg (by simp [c] : ¬ x.txt ≠ [])]
    rw [if_neg (by simp)]
    dsimp only
    rw [Int.toNat_natCast]
    refine ⟨?_, ?_⟩
    · apply List.ext_getElem?
      intro i
      by_cases hi : i < m
      · rw [places_get _ _ _ hi, List.getElem?_take_of_lt hi, List.getElem?_drop, places_get _ _ _ (by omega)]
        congr 2; omega
      · rw [List.getElem?_eq_none (by rw [places_len]; omega), List.getElem?_eq_none (by rw [List.length_take]; omega)]
    · unfold stS
      dsimp only
      rw [if_neg (by simp)]
      exact decide_eq_true (by omega)
  · rw [if_pos c] at h
    have h0 := of_decide_eq_true h
    unfold bytesO at hf ⊢
    rw [if_pos c] at hf
    rw [if_pos c]
    rw [told_len] at hf
    have hl : ((x.txt.take (f + m)).drop f).length = m := by rw [List.length_drop, List.length_take]; omega
    have hne : (x.txt.take (f + m)).drop f ≠ [] := fun e => by rw [e] at hl; simp at hl; omega
    unfold cutO
    rw [if_pos c]
    dsimp only
    rw [if_pos hne]
    refine ⟨?_, ?_⟩
    · unfold toldC
      rw [← List.map_drop, ← List.map_take, List.drop_take]
      congr 2; omega
    · unfold stS
      dsimp only
      rw [if_pos hne]
      exact decide_eq_true (by omega)
end Go.Proofs.YtpkgjokehgihjaaGreat
/- Walks of chain's follows and makes. -/
set_option linter.unusedVariables false
namespace Go.Proofs.YtpkgjokehgihjaaGreat
open Go.RowKit

theorem stok_of {x : DSt} (h : stS x = true) : StOk x := by
  unfold stS at h
  split at h
  · have := of_decide_eq_true h; exact ⟨by omega, by omega, by omega, by omega, by omega⟩
  · rename_i c; have := of_decide_eq_true h; simp at c; exact ⟨by omega, by omega, by omega, by omega, by rw [c]; simp⟩
set_option maxRecDepth 100000 in
set_option maxHeartbeats 1000000 in
theorem cmakes_any (x : DSt) (w : World) (h1 : x.txt.length ≤ 140737488351232) (h2 : -4611686018427387904 ≤ x.len) (h3 : x.len ≤ 4611686018427387904) :
    Calls Tryz.prog 67 #[stV x] w fun e w' => e = .returned (.int .i64 (mkS x)) ∧ Below w.heap.size w w' := by
  obtain ⟨p, n, t⟩ := x
  dsimp only at h1 h2 h3
  have B0 := Lib.hid (below_self_alloc w (stO ⟨p, n, t⟩))
  obtain ⟨c0, c1, c2⟩ := stO_at w ⟨p, n, t⟩
  dsimp only at c0 c1 c2
  rw [Nat.zero_add] at c1 c2
  have TL := Lib.hid (show (⟨t.toArray⟩ : ByteArray).size = t.length from rfl)
  have HR := Lib.hid (show mkS ⟨p, n, t⟩ = (t.length : Int) + n from rfl)
  generalize mkS ⟨p, n, t⟩ = res at *
  go_enter Tryz.func67, Tryz.ntmps67
  go_wp2
  go_ret
  exact ⟨by rw [HR.out]; rfl, B0.out⟩

set_option maxRecDepth 100000 in
set_option maxHeartbeats 1000000 in
theorem follows_any (x y : DSt) (w : World) (hx : StOk x) (hy : StOk y) (hp : 0 < x.len) (hq : 0 < y.len) (hs : x.len + y.len ≤ 9223372036854775807) :
    Calls Tryz.prog 37 #[stV x, stV y] w fun e w' => e = .returned (.bool (decide (x.pos + x.len = y.pos))) ∧ Below w.heap.size w w' := by
  obtain ⟨p, n, t⟩ := x
  obtain ⟨q, m, u⟩ := y
  obtain ⟨p1, p2, n1, n2, _⟩ := hx
  obtain ⟨q1, q2, m1, m2, _⟩ := hy
  dsimp only at p1 p2 n1 n2 q1 q2 m1 m2 hp hq hs ⊢
  have ba := below_self_alloc w (stO ⟨p, n, t⟩)
  have bb := below_self_alloc (w.alloc (stO ⟨p, n, t⟩)) (stO ⟨q, m, u⟩)
  have B0 := Lib.hid (ba.trans (bb.mono ba.size))
  have hsw : (w.alloc (stO ⟨p, n, t⟩)).heap.size = w.heap.size + 1 := by simp
  obtain ⟨c0, c1, c2⟩ := (stO_at w ⟨p, n, t⟩).new bb
  have hd := stO_at (w.alloc (stO ⟨p, n, t⟩)) ⟨q, m, u⟩
  rw [hsw] at hd
  obtain ⟨d0, d1, d2⟩ := hd
  dsimp only at c0 c1 c2 d0 d1 d2
  rw [Nat.zero_add] at c1 c2 d1 d2
  clear ba bb hsw
  by_cases h1 : p < q
  · by_cases h2 : q - p ≤ 9223372036854775807
    · have W1 : IntKind.i64.wrap (q - p) = q - p := by rw [IntKind.wrap_i64]; omega
      by_cases h3 : q - p = n
      · have e1 : (q - p == n) = true := by simp [h3]
        have h4 : m ≤ 9223372036854775807 - n := by omega
        have HR := Lib.hid (show decide (p + n = q) = true from decide_eq_true (by omega))
        generalize decide (p + n = q) = res at *
        clear h3
        go_enter Tryz.func37, Tryz.ntmps37
        go_wp2
        go_ret
        exact ⟨by rw [HR.out]; rfl, B0.out⟩
      · have e1 : (q - p == n) = false := by simp [h3]
        have HR := Lib.hid (show decide (p + n = q) = false from decide_eq_false (by omega))
        generalize decide (p + n = q) = res at *
        clear h3
        go_enter Tryz.func37, Tryz.ntmps37
        go_wp2
        go_ret
        exact ⟨by rw [HR.out]; rfl, B0.out⟩
    · have W1 : IntKind.i64.wrap (q - p) = q - p - 18446744073709551616 := by rw [IntKind.wrap_i64]; omega
      have e1 : (q - p - 18446744073709551616 == n) = false := by simp; omega
      have HR := Lib.hid (show decide (p + n = q) = false from decide_eq_false (by omega))
      generalize decide (p + n = q) = res at *
      go_enter Tryz.func37, Tryz.ntmps37
      go_wp2
      go_ret
      exact ⟨by rw [HR.out]; rfl, B0.out⟩
  · have HR := Lib.hid (show decide (p + n = q) = false from decide_eq_false (by omega))
    generalize decide (p + n = q) = res at *
    go_enter Tryz.func37, Tryz.ntmps37
    go_wp2
    go_ret
    exact ⟨by rw [HR.out]; rfl, B0.out⟩
end Go.Proofs.YtpkgjokehgihjaaGreat
/- The walk of chain's take: a copy behind tidy steps. -/
set_option linter.unusedVariables false
namespace Go.Proofs.YtpkgjokehgihjaaGreat
open Go.RowKit

/-- What is known of steps onto which a copy of k bytes is taken. -/
def TkOk (k : Int) (l : List DSt) : Prop := ∀ y ∈ l, StOk y ∧ (y.txt = [] → 0 < y.len ∧ y.len + k ≤ 9223372036854775807)
theorem TurnS.own_new {base : Nat} {w w' : World} {v : Value} (hb : Below w.heap.size w w') (hw : base ≤ w.heap.size) : TurnS base w v w' v :=
  ⟨hb.mono hw, Kept.new hb _, fun g' e => .inl e⟩
theorem TurnS.cellOld {base : Nat} {w w' : World} {v v' : Value} (h : TurnS base w v w' v') {p : Nat} {j : Nat} {u : Value} (hc : w.cell? ⟨p, j, none⟩ = some u) (hp : ¬ v.ownBlock = some p) : w'.cell? ⟨p, j, none⟩ = some u := by
  rw [World.cell?_of_block (w := w) (h.kept.block p (World.block_lt_of_cell? w _ hc) hp)]
  exact hc
theorem TurnS.neOf {base : Nat} {w w' : World} {v v' : Value} (h : TurnS base w v w' v') {p : Nat} (hlt : p < w.heap.size) (hp : ¬ v.ownBlock = some p) : ¬ v'.ownBlock = some p := fun e => by
  rcases h.mov p e with c | c
  · exact hp c
  · omega
set_option maxRecDepth 100000 in
set_option maxHeartbeats 1000000 in
theorem ctake_any (base : Nat) (v : Value) (l : List DSt) (a k : Int) (w : World) (h : OwnS w base v l) (hok : TkOk k l) (hl : l.length ≤ 1500000) (ha1 : -9223372036854775808 ≤ a) (ha2 : a ≤ 9223372036854775807) (hk : 0 < k) (hk2 : k ≤ 9223372036854775807) (hb : base ≤ w.heap.size) :
    Calls Tryz.prog 20 #[v, stV ⟨a, k, []⟩] w fun e w' => ∃ v', e = .returned v' ∧ OwnS w' base v' (takeS l a k) ∧ TurnS base w v w' v' := by
  have hba := below_self_alloc w (stO ⟨a, k, []⟩)
  have H0 := Lib.hid (h.new hba)
  have HT0 := Lib.hid (TurnS.own_new (v := v) hba hb)
  have HB := Lib.hid (Nat.le_trans hb hba.size)
  obtain ⟨c0, c1, c2⟩ := stO_at w ⟨a, k, []⟩
  dsimp only at c0 c1 c2
  rw [Nat.zero_add] at c1 c2
  have c2' : (w.alloc (stO ⟨a, k, []⟩)).cell? ⟨w.heap.size, 2, none⟩ = some (.string ⟨#[]⟩) := c2
  have HLT := Lib.hid (fun g (hg : v.ownBlock = some g) => (h.lt hg).2.1)
  clear c2 h hba hb
  rcases List.eq_nil_or_concat l with rfl | ⟨l1, x, rfl⟩
  · obtain ⟨s0, m0, k0, rfl⟩ := own_slice H0.out
    obtain rfl : m0 = 0 := own_lenV H0.out
    go_enter Tryz.func20, Tryz.ntmps20
    go_upto_region 6 with fail
    generalize w.alloc (.cells #[.int .i64 a, .int .i64 k, .string ⟨#[]⟩] 42) = w1 at *
    go_wp2_with (at_builtin; refine append_st (w := w1) (by rfl) (.tmp 36) (.tmp 38) 32 _ (by rfl) Tryz.underlying32 info_step (by rfl) base _ [] ⟨a, k, []⟩ (by rfl) H0.out (by rfl) (by simp) HB.out ?_; intro v' w3 hown3 htn3)
    go_ret
    exact ⟨_, rfl, hown3, HT0.out.trans htn3⟩
  · rw [List.concat_eq_append] at H0 hok hl ⊢
    obtain ⟨hxo, hxl⟩ := hok x (by simp)
    rw [List.length_append, List.length_singleton] at hl
    obtain ⟨p, m, t⟩ := x
    dsimp only at hxl
    obtain ⟨g, cap, rfl, hg, hst⟩ := own_last H0.out
    obtain ⟨d0, d1, d2⟩ := hst
    dsimp only at d0 d1 d2
    have HT := Lib.hid (take_snoc l1 ⟨p, m, t⟩ a k)
    dsimp only at HT
    have hne0 : w.heap.size ≠ g := fun e => by have := HLT.out g rfl; omega
    have i1 : (0 : Int) < ((l1.length + 1 : Nat) : Int) := by omega
    have i2 : ((l1.length + 1 : Nat) : Int) - 1 = (l1.length : Int) := by omega
    have i3 : (l1.length : Int) < ((l1.length + 1 : Nat) : Int) := by omega
    generalize takeS (l1 ++ [⟨p, m, t⟩]) a k = res at *
    clear hok
    by_cases h1 : t = []
    · subst h1
      obtain ⟨hm1, hm2⟩ := hxl rfl
      have FW := fun w' => Lib.hid (follows_any ⟨p, m, []⟩ ⟨a, k, []⟩ w' hxo ⟨ha1, ha2, by dsimp only; omega, hk2, by simp⟩ hm1 hk hm2)
      dsimp only at FW
      have FW2 : ∀ w', Hid (Calls Tryz.prog 37 #[.agg #[.int .i64 p, .int .i64 m, .string ⟨#[]⟩], .agg #[.int .i64 a, .int .i64 k, .string ⟨#[]⟩]] w' fun e w'' => e = .returned (.bool (decide (p + m = a))) ∧ Below w'.heap.size w' w'') := FW
      have d2' : (w.alloc (stO ⟨a, k, []⟩)).cell? ⟨g, l1.length * 3 + 2, none⟩ = some (.string ⟨#[]⟩) := d2
      clear FW d2
      by_cases h2 : p + m = a
      · have HR := Lib.hid (show res = l1 ++ [⟨p, m + k, []⟩] by rw [HT.out, if_pos ⟨rfl, h2⟩])
        rw [decide_eq_true h2] at FW2
        clear HT h2
        go_enter Tryz.func20, Tryz.ntmps20
        go_upto_region 3 with fail
        generalize w.alloc (.cells #[.int .i64 a, .int .i64 k, .string ⟨#[]⟩] 42) = w1 at *
        have F0 := below_cell d0
        have F1 := below_cell d1
        have F2 := below_cell d2'
        have F3 := below_cell c0
        have F4 := below_cell c1
        have F5 := below_cell c2'
        refine wp_region_below (by kernel_rfl) (by kernel_rfl) ?_
        repeat (go_big_quiet_step ((go_at_call 37; with_reducible exact below_calls (FW2 _).out)))
        refine wpQuiet_nil ?_
        rintro w6 ⟨⟨w6b, hb6⟩, hw6⟩
        have hw6b : w6 = w6b := hw6
        clear hw6
        subst hw6b
        have e0 := (hb6.cell (World.block_lt_of_cell? _ _ d0)).trans d0
        have e1 := (hb6.cell (World.block_lt_of_cell? _ _ d1)).trans d1
        have b1 := (hb6.cell (World.block_lt_of_cell? _ _ c1)).trans c1
        have H6 := Lib.hid (H0.out.new hb6)
        have HT6 := Lib.hid (HT0.out.new hb6 (by have := HLT.out g rfl; omega))
        have HB6 := Lib.hid (Nat.le_trans HB.out hb6.size)
        clear F0 F1 F2 F3 F4 F5 FW2 d0 d1 d2' c0 c1 c2' hb6 H0 HT0 HB
        go_upto_region 4 with fail
        go_still_tail 9, (by kernel_rfl)
        change wpList _ _ _ _ _ w6.drew
        have hdr := Below_drew (Below.refl w6.heap.size w6)
        have H7 := Lib.hid (show OwnS w6.drew base (.slice (some ⟨g, 0, none⟩) (l1.length + 1) cap) (l1 ++ [⟨p, m, []⟩]) from H6.out.new hdr)
        have HT7 := Lib.hid (HT6.out.new hdr (by have := HLT.out g rfl; omega))
        have e1' : w6.drew.cell? ⟨g, l1.length * 3 + 1, none⟩ = some (.int .i64 m) := e1
        have b1' : w6.drew.cell? ⟨w.heap.size, 1, none⟩ = some (.int .i64 k) := b1
        have HB7 := Lib.hid (show base ≤ w6.drew.heap.size from HB6.out)
        clear hdr e0 e1 b1 H6 HT6 HB6
        generalize w6.drew = w7 at *
        obtain ⟨hs1, fz1, hg1⟩ := H7.out.set (m + k)
        have HS := Lib.hid hs1
        have HTN := Lib.hid (HT7.out.trans (show TurnS base w7 (.slice (some ⟨g, 0, none⟩) (l1.length + 1) cap) (w7.setCell ⟨g, l1.length * 3 + 1, none⟩ (.int .i64 (m + k))) (.slice (some ⟨g, 0, none⟩) (l1.length + 1) cap) from
          ⟨(Below.refl base w7).setCell (p := ⟨g, l1.length * 3 + 1, none⟩) hg1 _, (Kept.refl (fun k => (Value.slice (some ⟨g, 0, none⟩) (l1.length + 1) cap).ownBlock = some k) w7).setCell (p := ⟨g, l1.length * 3 + 1, none⟩) rfl _, fun g' e => .inl e⟩))
        clear hs1 H7 HT7
        go_wp2_with fail
        go_ret
        exact ⟨_, rfl, by rw [HR.out]; exact HS.out, HTN.out⟩
      · have HR := Lib.hid (show res = l1 ++ [⟨p, m, []⟩] ++ [⟨a, k, []⟩] by rw [HT.out, if_neg (fun c => h2 c.2)])
        rw [decide_eq_false h2] at FW2
        clear HT h2
        go_enter Tryz.func20, Tryz.ntmps20
        go_upto_region 3 with fail
        generalize w.alloc (.cells #[.int .i64 a, .int .i64 k, .string ⟨#[]⟩] 42) = w1 at *
        have F0 := below_cell d0
        have F1 := below_cell d1
        have F2 := below_cell d2'
        have F3 := below_cell c0
        have F4 := below_cell c1
        have F5 := below_cell c2'
        refine wp_region_below (by kernel_rfl) (by kernel_rfl) ?_
        repeat (go_big_quiet_step ((go_at_call 37; with_reducible exact below_calls (FW2 _).out)))
        refine wpQuiet_nil ?_
        rintro w6 ⟨⟨w6b, hb6⟩, hw6⟩
        have hw6b : w6 = w6b := hw6
        clear hw6
        subst hw6b
        have b0 := (hb6.cell (World.block_lt_of_cell? _ _ c0)).trans c0
        have b1 := (hb6.cell (World.block_lt_of_cell? _ _ c1)).trans c1
        have b2 := (hb6.cell (World.block_lt_of_cell? _ _ c2')).trans c2'
        have H6 := Lib.hid (H0.out.new hb6)
        have HT6 := Lib.hid (HT0.out.new hb6 (by have := HLT.out g rfl; omega))
        have HB6 := Lib.hid (Nat.le_trans HB.out hb6.size)
        clear F0 F1 F2 F3 F4 F5 FW2 d0 d1 d2' c0 c1 c2' hb6 H0 HT0 HB
        go_wp2_with (at_builtin; refine append_st (w := w6) (by rfl) (.tmp 36) (.tmp 38) 32 _ (by rfl) Tryz.underlying32 info_step (by rfl) base _ (l1 ++ [⟨p, m, []⟩]) ⟨a, k, []⟩ (by rfl) H6.out (by rfl) (by rw [List.length_append, List.length_singleton]; omega) HB6.out ?_; intro v' w3 hown3 htn3)
        go_ret
        exact ⟨_, rfl, by rw [HR.out]; exact hown3, HT6.out.trans htn3⟩
    · have HR := Lib.hid (show res = l1 ++ [⟨p, m, t⟩] ++ [⟨a, k, []⟩] by rw [HT.out, if_neg (fun c => h1 c.1)])
      have hne : t.isEmpty = false := by cases t <;> simp_all
      clear HT h1
      go_enter Tryz.func20, Tryz.ntmps20
      go_upto_region 3 with fail
      generalize w.alloc (.cells #[.int .i64 a, .int .i64 k, .string ⟨#[]⟩] 42) = w1 at *
      have F0 := below_cell d0
      have F1 := below_cell d1
      have F2 := below_cell d2
      refine wp_region_below (by kernel_rfl) (by kernel_rfl) ?_
      repeat (go_big_quiet_step (fail))
      refine wpQuiet_nil ?_
      rintro w6 ⟨⟨w6b, hb6⟩, hw6⟩
      have hw6b : w6 = w6b := hw6
      clear hw6
      subst hw6b
      have b0 := (hb6.cell (World.block_lt_of_cell? _ _ c0)).trans c0
      have b1 := (hb6.cell (World.block_lt_of_cell? _ _ c1)).trans c1
      have b2 := (hb6.cell (World.block_lt_of_cell? _ _ c2')).trans c2'
      have H6 := Lib.hid (H0.out.new hb6)
      have HT6 := Lib.hid (HT0.out.new hb6 (by have := HLT.out g rfl; omega))
      have HB6 := Lib.hid (Nat.le_trans HB.out hb6.size)
      clear F0 F1 F2 d0 d1 d2 c0 c1 c2' hb6 H0 HT0 HB
      go_wp2_with (at_builtin; refine append_st (w := w6) (by rfl) (.tmp 36) (.tmp 38) 32 _ (by rfl) Tryz.underlying32 info_step (by rfl) base _ (l1 ++ [⟨p, m, t⟩]) ⟨a, k, []⟩ (by rfl) H6.out (by rfl) (by rw [List.length_append, List.length_singleton]; omega) HB6.out ?_; intro v' w3 hown3 htn3)
      go_ret
      exact ⟨_, rfl, by rw [HR.out]; exact hown3, HT6.out.trans htn3⟩
end Go.Proofs.YtpkgjokehgihjaaGreat
/- The walk of Tidy's closure: texts that are held are let go. -/
set_option linter.unusedVariables false
namespace Go.Proofs.YtpkgjokehgihjaaGreat
open Go.RowKit

/-- What the closure holds: the texts' bytes and the tidy steps, each behind a pointer. -/
structure TdAt (w : World) (base ph pt : Nat) (vh vt : Value) (L : List DSt) (H : Txt) : Prop where
  hh : w.heap[ph]? = some (.cells #[vh] 54 (0, 0))
  ht : w.heap[pt]? = some (.cells #[vt] 32 (0, 0))
  oh : Own w base 5 vh H
  ot : OwnS w base vt L
  bh : base ≤ ph
  bt : base ≤ pt
def FT (ph pt : Nat) (vh vt : Value) (k : Nat) : Prop := k = ph ∨ k = pt ∨ vh.ownBlock = some k ∨ vt.ownBlock = some k
/-- What turned: the two pointers' cells and the lists' own blocks. -/
structure TdTurn (w : World) (ph pt : Nat) (vh vt : Value) (w' : World) (vh' vt' : Value) : Prop where
  kept : Kept (FT ph pt vh vt) w w'
  movh : ∀ g, vh'.ownBlock = some g → vh.ownBlock = some g ∨ w.heap.size ≤ g
  movt : ∀ g, vt'.ownBlock = some g → vt.ownBlock = some g ∨ w.heap.size ≤ g
theorem TdTurn.refl (w : World) (ph pt : Nat) (vh vt : Value) : TdTurn w ph pt vh vt w vh vt := ⟨Kept.refl _ _, fun g h => .inl h, fun g h => .inl h⟩
theorem Kept.trans_td {M N : Nat → Prop} {a b c : World} (h : Kept M a b) (k : Kept N b c) (hn : ∀ i, i < a.heap.size → N i → M i) : Kept M a c :=
  ⟨k.os.trans h.os, k.tape.trans h.tape, k.output.trans h.output, Nat.le_trans h.size k.size, fun i hi hm => (k.block i (Nat.lt_of_lt_of_le hi h.size) (fun n => hm (hn i hi n))).trans (h.block i hi hm)⟩
theorem TdTurn.trans {w w1 w2 : World} {ph pt : Nat} {vh vt vh1 vt1 vh2 vt2 : Value} (h : TdTurn w ph pt vh vt w1 vh1 vt1) (k : TdTurn w1 ph pt vh1 vt1 w2 vh2 vt2) : TdTurn w ph pt vh vt w2 vh2 vt2 := by
  refine ⟨h.kept.trans_td k.kept (fun i hi hf => ?_), fun g hg => ?_, fun g hg => ?_⟩
  · rcases hf with e | e | e | e
    · exact .inl e
    · exact .inr (.inl e)
    · rcases h.movh i e with c | c
      · exact .inr (.inr (.inl c))
      · omega
    · rcases h.movt i e with c | c
      · exact .inr (.inr (.inr c))
      · omega
  · rcases k.movh g hg with c | c
    · exact h.movh g c
    · have := h.kept.size; exact .inr (by omega)
  · rcases k.movt g hg with c | c
    · exact h.movt g c
    · have := h.kept.size; exact .inr (by omega)
theorem TdTurn.new {w w1 : World} {ph pt : Nat} {vh vt : Value} (hb : Below w.heap.size w w1) : TdTurn w ph pt vh vt w1 vh vt := ⟨Kept.new hb _, fun g h => .inl h, fun g h => .inl h⟩
section
variable {w w1 w' : World} {base ph pt : Nat} {vh vt : Value} {L : List DSt} {H : Txt}
theorem own_ty {e : TypeId} {size : Nat} {n : Nat} {xs : List Value} {v : Value} {p : Nat} {cs : Array Value} {ty : TypeId} {fr : Nat × Nat} (ho : w.ownsRow base e size v n xs) (h : w.heap[p]? = some (.cells cs ty fr)) (hty : ty ≠ e) : ¬ v.ownBlock = some p := by
  intro hp
  rcases ho.2 with ⟨rfl, _⟩ | ⟨g', cap, cur, rfl, hb, hgg, _⟩
  · simp [Value.ownBlock] at hp
  · simp [Value.ownBlock] at hp
    subst hp
    rw [hgg] at h
    injection h with h
    injection h with _ h2 _
    exact hty h2.symm
theorem own_cellsT {e : TypeId} {size : Nat} {n : Nat} {xs : List Value} {v : Value} {p : Nat} (ho : w.ownsRow base e size v n xs) (hp : v.ownBlock = some p) : base ≤ p ∧ ∃ cur, w.heap[p]? = some (.cells cur e (0, 0)) := by
  rcases ho.2 with ⟨rfl, _⟩ | ⟨g', cap, cur, rfl, hb, hgg, _⟩
  · simp [Value.ownBlock] at hp
  · simp [Value.ownBlock] at hp
    subst hp
    exact ⟨hb, cur, hgg⟩
theorem TdAt.new (h : TdAt w base ph pt vh vt L H) (hb : Below w.heap.size w w1) : TdAt w1 base ph pt vh vt L H := by
  have hk : Kept (fun _ => False) w w1 := Kept.new hb _
  exact ⟨hk.old h.hh id, hk.old h.ht id, own_off h.oh hk (fun _ _ _ _ => id), h.ot.new hb, h.bh, h.bt⟩
theorem TdAt.lt (h : TdAt w base ph pt vh vt L H) : ∀ k, FT ph pt vh vt k → base ≤ k ∧ k < w.heap.size := by
  intro k hk
  rcases hk with rfl | rfl | e | e
  · exact ⟨h.bh, (Array.getElem?_eq_some_iff.1 h.hh).1⟩
  · exact ⟨h.bt, (Array.getElem?_eq_some_iff.1 h.ht).1⟩
  · obtain ⟨h1, cur, h2⟩ := own_cellsT h.oh e
    exact ⟨h1, (Array.getElem?_eq_some_iff.1 h2).1⟩
  · obtain ⟨h1, cur, h2⟩ := own_cellsT h.ot e
    exact ⟨h1, (Array.getElem?_eq_some_iff.1 h2).1⟩
theorem TdTurn.below {vh' vt' : Value} (h : TdAt w base ph pt vh vt L H) (ht : TdTurn w ph pt vh vt w' vh' vt') (hb : base ≤ w.heap.size) : Below base w w' :=
  ht.kept.below hb (fun k hk => (h.lt k hk).1)
/-- The steps turned: stored. -/
theorem TdAt.steps {vt' : Value} {L' : List DSt} (h : TdAt w base ph pt vh vt L H) (ho : OwnS w1 base vt' L') (ht : TurnS base w vt w1 vt') :
    (w1.cell? ⟨pt, 0, none⟩ = some vt ∧ w1.frozen? ⟨pt, 0, none⟩ = false) ∧ TdAt (w1.setCell ⟨pt, 0, none⟩ vt') base ph pt vh vt' L' H ∧ TdTurn w ph pt vh vt (w1.setCell ⟨pt, 0, none⟩ vt') vh vt' := by
  have n1 : ¬ vt.ownBlock = some pt := own_ty h.ot h.ht (by decide)
  have n2 : ¬ vt.ownBlock = some ph := own_ty h.ot h.hh (by decide)
  have g1 := ht.kept.old h.ht n1
  have g2 := ht.kept.old h.hh n2
  have hoh : Own w1 base 5 vh H := own_off h.oh ht.kept (fun g cur hg e1 e2 => by
    obtain ⟨_, cur2, hc⟩ := own_cellsT h.ot e2
    rw [hg] at hc
    injection hc with hc
    injection hc with _ h3 _
    exact absurd h3 (by decide))
  have hpp : ph ≠ pt := fun e => by
    have := h.hh
    rw [e, h.ht] at this
    injection this with this
    injection this with _ h3 _
    exact absurd h3 (by decide)
  have hk : Kept (· = pt) w1 (w1.setCell ⟨pt, 0, none⟩ vt') := (Kept.refl _ w1).setCell (by rfl) vt'
  have hset : (w1.setCell ⟨pt, 0, none⟩ vt').heap[pt]? = some (.cells #[vt'] 32 (0, 0)) := by rw [heap_setCell_same _ _ _ _ _ _ g1]; rfl
  refine ⟨⟨by rw [cell_of_row _ _ _ _ _ _ g1]; rfl, frozen_of_row _ _ _ _ _ g1⟩, ⟨hk.old g2 hpp, hset, own_off hoh hk (fun g cur hg e1 e2 => ?_), ho.kept hk (fun g hg e => own_ty ho g1 (by decide) (e ▸ hg)), h.bh, h.bt⟩, ⟨?_, fun g hg => .inl hg, ht.mov⟩⟩
  · subst e2
    rw [g1] at hg
    injection hg with hg
    injection hg with _ h3 _
    exact absurd h3 (by decide)
  · refine Kept.trans (ht.kept.mono (fun k _ e => .inr (.inr (.inr e)))) (hk.mono (fun k _ e => .inr (.inl e)))
/-- What is held turned: stored. -/
theorem TdAt.held {vh' : Value} {H' : Txt} (h : TdAt w base ph pt vh vt L H) (ho : Own w1 base 5 vh' H') (hk1 : Kept (fun k => vh.ownBlock = some k) w w1) (hm : ∀ g, vh'.ownBlock = some g → vh.ownBlock = some g ∨ w.heap.size ≤ g) :
    (w1.cell? ⟨ph, 0, none⟩ = some vh ∧ w1.frozen? ⟨ph, 0, none⟩ = false) ∧ TdAt (w1.setCell ⟨ph, 0, none⟩ vh') base ph pt vh' vt L H' ∧ TdTurn w ph pt vh vt (w1.setCell ⟨ph, 0, none⟩ vh') vh' vt := by
  have n1 : ¬ vh.ownBlock = some pt := own_ty h.oh h.ht (by decide)
  have n2 : ¬ vh.ownBlock = some ph := own_ty h.oh h.hh (by decide)
  have g1 := hk1.old h.ht n1
  have g2 := hk1.old h.hh n2
  have hot : OwnS w1 base vt L := h.ot.kept hk1 (fun g hg e2 => by
    obtain ⟨_, cur, hc⟩ := own_cellsT h.ot hg
    obtain ⟨_, cur2, hc2⟩ := own_cellsT h.oh e2
    rw [hc] at hc2
    injection hc2 with hc2
    injection hc2 with _ h3 _
    exact absurd h3 (by decide))
  have hpp : pt ≠ ph := fun e => by
    have := h.hh
    rw [← e, h.ht] at this
    injection this with this
    injection this with _ h3 _
    exact absurd h3 (by decide)
  have hk : Kept (· = ph) w1 (w1.setCell ⟨ph, 0, none⟩ vh') := (Kept.refl _ w1).setCell (by rfl) vh'
  have hset : (w1.setCell ⟨ph, 0, none⟩ vh').heap[ph]? = some (.cells #[vh'] 54 (0, 0)) := by rw [heap_setCell_same _ _ _ _ _ _ g2]; rfl
  refine ⟨⟨by rw [cell_of_row _ _ _ _ _ _ g2]; rfl, frozen_of_row _ _ _ _ _ g2⟩, ⟨hset, hk.old g1 hpp, own_off ho hk (fun g cur hg e1 e2 => ?_), hot.kept hk (fun g hg e => own_ty hot g2 (by decide) (e ▸ hg)), h.bh, h.bt⟩, ⟨?_, hm, fun g hg => .inl hg⟩⟩
  · subst e2
    exact own_ty ho g2 (by decide) e1
  · exact Kept.trans (hk1.mono (fun k _ e => .inr (.inr (.inl e)))) (hk.mono (fun k _ e => .inl e))
end
section
variable {P : Program}
/-- One step appended, at an operation of a region that draws its order. -/
theorem step_st {w : World} {ops : Array Oper} {o : Oper} {a : Act} {K : Act → World → Prop} {Q : Exit → Act → World → Prop} {E : Prop} (hgd : o.guard = none) (s x : Operand) (t : TypeId) (z : Value)
    (ho : o.op = .call { callee := .builtin .append, args := #[s, x], argTypes := #[t, t] }) (ht : P.underlying t = some (.slice 42))
    (hinfo : (P.info? 42).map (fun i => (i.zero, i.size, i.bytes)) = some (some z, 3, 32)) (hz : z.cells.size = 3)
    (base : Nat) (v : Value) (l : List DSt) (y : DSt) (p : Nat) (hs : a.eval s = v) (hown : OwnS w base v l) (hx : a.eval x = .slice (some ⟨p, 0, none⟩) 1 1) (hy : DStAt w p 0 y)
    (hlen : l.length ≤ 2000000) (hbase : base ≤ w.heap.size)
    (h : ∀ g c w', OwnS w' base (.slice (some ⟨g, 0, none⟩) (l.length + 1) c) (l ++ [y]) → TurnS base w v w' (.slice (some ⟨g, 0, none⟩) (l.length + 1) c) → K (a.put o.dst (.slice (some ⟨g, 0, none⟩) (l.length + 1) c)) w') :
    if Region.wanted o (yielded ops a.tmps) = true then Oper.wp P o a w K Q else E := by
  obtain ⟨i0, hi, hz0, hz1, hz2⟩ := info_parts hinfo
  refine step_append_lies w hgd s x t ho base _ i0 z 3 32 ht hi hz0 hz1 hz2 hz (by decide) v l.length (flatC l) hs hown ⟨p, 0, none⟩ 1 1 (stC y) hx rfl ?_ ?_ (by decide) (by unfold maxLen; omega) (by omega) hbase w.heap.size rfl ?_
  · intro j u hj
    rw [addr_add0]
    match j, hj with
    | 0, hj => simp [stC] at hj; subst hj; exact hy.c0
    | 1, hj => simp [stC] at hj; subst hj; exact hy.c1
    | 2, hj => simp [stC] at hj; subst hj; exact hy.c2
  · intro u hu
    simp [stC] at hu
    rcases hu with rfl | rfl | rfl <;> rfl
  · intro g cap w' hown' hg hat _
    refine h g cap w' ?_ ⟨(Below.refl base w).grown hg hbase (fun k hk => (World.ownsRow.lt hown k hk).1), ⟨hg.os, hg.tape, hg.output, hg.size, fun k hk hm => hg.block k hk (fun he => hm he.symm)⟩, fun g' hg' => ?_⟩
    · unfold OwnS
      rw [flat_append, List.length_append, flat_one]
      exact hown'
    · simp [Value.ownBlock] at hg'
      subst hg'
      rcases hat with e | e
      · exact .inl e
      · exact .inr (by omega)
end
end Go.Proofs.YtpkgjokehgihjaaGreat
/- The walk of Tidy's closure. -/
set_option linter.unusedVariables false
namespace Go.Proofs.YtpkgjokehgihjaaGreat
open Go.RowKit

theorem own_piece {P : Program} (w : World) (base : Nat) (src dst e : TypeId) (g n cap : Nat) (H : Txt) (hs : P.underlying src = some (.slice e)) (he : P.underlying e = some (.int .u8)) (hd : P.underlying dst = some .string)
    (hown : Own w base e (.slice (some ⟨g, 0, none⟩) n cap) H) (off k c : Nat) (hk : off + k ≤ H.length) : (convert src dst (.slice (some ⟨g, off, none⟩) k c)).run P w = .ok (.string ⟨((H.drop off).take k).toArray⟩) w := by
  have hlen : ((H.drop off).take k).length = k := by rw [List.length_take, List.length_drop]; omega
  have := run_convert_bytes_back (P := P) w src dst e ⟨g, off, none⟩ c ((H.drop off).take k) hs he hd (by
    intro j hj
    have h1 : (cellsOf H)[off + j]? = some (.int .u8 (((H.drop off).take k)[j].toNat : Int)) := by
      unfold cellsOf
      rw [List.getElem?_map, List.getElem_take, List.getElem_drop, List.getElem?_eq_getElem (by omega)]
      rfl
    have h2 := hown.cells (g := g) rfl (off + j) _ h1
    rw [addr_add0] at h2
    have h3 : (⟨g, off, none⟩ : Addr).add j = ⟨g, off + j, none⟩ := by unfold Addr.add; split <;> simp_all
    rw [h3]
    exact h2)
  rwa [hlen] at this
theorem step_zero : (Value.agg #[.int .i64 0, .int .i64 0, .string ByteArray.empty]).cells.size = 3 := by rfl
def lenSl : Value → Nat
  | .slice _ n _ => n
  | _ => 0
/-- A list of bytes, from a place on. -/
def PcAt (vh : Value) (H : Txt) (off : Nat) (s : Value) : Prop := ∃ a c, s = .slice a (H.length - off) c ∧ off ≤ H.length ∧ H.length - off ≤ c ∧ (off < H.length → ∃ g cap, vh = .slice (some ⟨g, 0, none⟩) H.length cap ∧ a = some ⟨g, off, none⟩)
theorem own_form {w : World} {base : Nat} {e : TypeId} {v : Value} {H : Txt} (h : Own w base e v H) : PcAt v H 0 v ∧ ∃ a c, v = .slice a H.length c := by
  rcases h.2 with ⟨rfl, hn⟩ | ⟨g, cap, cur, rfl, hb, hg, hle, hc, _⟩
  · exact ⟨⟨none, 0, by rw [hn], Nat.zero_le _, by omega, fun h => by omega⟩, none, 0, by rw [hn]⟩
  · exact ⟨⟨some ⟨g, 0, none⟩, cap, rfl, Nat.zero_le _, by omega, fun _ => ⟨g, cap, rfl, rfl⟩⟩, _, _, rfl⟩
theorem own_empty {w : World} {base : Nat} {e : TypeId} {a : Option Addr} {n c : Nat} {H : Txt} (h : Own w base e (.slice a n c) H) : Own w base e (.slice a 0 c) [] ∧ ∀ g, (Value.slice a 0 c).ownBlock = some g → (Value.slice a n c).ownBlock = some g := by
  refine ⟨⟨rfl, ?_⟩, fun g hg => by cases a <;> simp_all [Value.ownBlock]⟩
  rcases h.2 with ⟨hv, hn⟩ | ⟨g, cap, cur, hv, hb, hg, hle, hc, hs, ht⟩
  · injection hv with h1 h2 h3
    subst h1; subst h3
    exact .inl ⟨rfl, rfl⟩
  · injection hv with h1 h2 h3
    subst h1; subst h3
    exact .inr ⟨g, c, cur, rfl, hb, hg, Nat.zero_le _, hc, hs, by simp [cellsOf]⟩

set_option maxRecDepth 100000 in
set_option maxHeartbeats 1000000 in
theorem tidyGo_any (base ph pt : Nat) (vh vt : Value) (L : List DSt) (H : Txt) (w : World) (h : TdAt w base ph pt vh vt L H) (hl : L.length + H.length ≤ 1400000) (hb : base ≤ w.heap.size) :
    Calls Tryz.prog 19 #[.pointer (some ⟨ph, 0, none⟩), .pointer (some ⟨pt, 0, none⟩)] w fun e w' => e = .returned (.tuple #[]) ∧ ∃ vh' vt', TdAt w' base ph pt vh' vt' (gatherS L H) [] ∧ TdTurn w ph pt vh vt w' vh' vt' := by
  have c0 : w.cell? ⟨ph, 0, none⟩ = some vh := by rw [cell_of_row _ _ _ _ _ _ h.hh]; rfl
  obtain ⟨HP0, a0, k0, rfl⟩ := own_form h.oh
  have HP := Lib.hid HP0; clear HP0
  have H0 := Lib.hid h; clear h
  have HB := Lib.hid hb; clear hb
  go_enter Tryz.func19, Tryz.ntmps19
  go_wp2_with fail
  go_loopw [2] (fun s wr => ∃ (off : Nat) (vt1 : Value) (L1 : List DSt), PcAt (.slice a0 H.length k0) H off s ∧ TdAt wr base ph pt (.slice a0 H.length k0) vt1 L1 H ∧ TdTurn w ph pt (.slice a0 H.length k0) vt wr (.slice a0 H.length k0) vt1 ∧ Hid (gatherS L1 (H.drop off) = gatherS L H) ∧ L1.length + (H.length - off) ≤ 1400000) (fun s _ => lenSl s)
  case atStart => exact ⟨0, vt, L, HP.out, H0.out, TdTurn.refl _ _ _ _ _, Lib.hid (by rw [List.drop_zero]), by omega⟩
  case round =>
    obtain ⟨off, vt1, L1, hpc, htd, htn, HG, hll⟩ := hrel
    have HTD := Lib.hid htd; clear htd
    have HTN := Lib.hid htn; clear htn
    obtain ⟨a1, c1, rfl, hoff, hc1, hpos⟩ := hpc
    by_cases hlt : off < H.length
    · obtain ⟨g, cap, hv, rfl⟩ := hpos hlt
      injection hv with hv1 hv2 hv3
      subst hv1; subst hv3
      have i1 : (0 : Int) < ((H.length - off : Nat) : Int) := by omega
      have HM := Lib.hid (show min ((H.length - off : Nat) : Int) 4096 = ((min (H.length - off) 4096 : Nat) : Int) by omega)
      have hk1 : min (H.length - off) 4096 ≤ H.length - off := by omega
      have hk2 : 0 < min (H.length - off) 4096 := by omega
      have HGO := Lib.hid (gather_one L1 (H.drop off) (by rw [List.length_drop]; omega))
      have HTK := Lib.hid (show (H.drop off).take 4096 = (H.drop off).take (min (H.length - off) 4096) by
        rcases Nat.lt_or_ge (H.length - off) 4096 with q | q
        · rw [Nat.min_eq_left (by omega), List.take_of_length_le (by rw [List.length_drop]; omega), List.take_of_length_le (by rw [List.length_drop]; omega)]
        · rw [Nat.min_eq_right q])
      have HDR := Lib.hid (show (H.drop off).drop 4096 = H.drop (off + min (H.length - off) 4096) by
        rw [List.drop_drop]
        rcases Nat.lt_or_ge (H.length - off) 4096 with q | q
        · rw [Nat.min_eq_left (by omega), List.drop_of_length_le (by omega), List.drop_of_length_le (by omega)]
        · rw [Nat.min_eq_right q])
      have c2 : wr.cell? ⟨pt, 0, none⟩ = some vt1 := by rw [cell_of_row _ _ _ _ _ _ HTD.out.ht]; rfl
      go_upto_region 3 with fail
      rw [HM.out]
      clear HM
      generalize min (H.length - off) 4096 = k at *
      have hcv := own_piece (P := Tryz.prog) wr.drew base 54 9 5 g H.length k0 H Tryz.underlying54 Tryz.underlying5 Tryz.underlying9 (own_off HTD.out.oh (Kept.refl (fun _ => False) wr).drew (fun _ _ _ _ => id)) off k c1 (by omega)
      have hkl : ((H.drop off).take k).length ≤ H.length := by rw [List.length_take, List.length_drop]; omega
      rw [HTK.out] at HGO
      rw [HDR.out] at HGO
      generalize (H.drop off).take k = t at *
      have ik : (k : Int) ≤ (c1 : Int) := by omega
      have ik0 : (0 : Int) ≤ (k : Int) := by omega
      have hbw : base ≤ wr.heap.size := by have := HTN.out.kept.size; have := HB.out; omega
      have hbx : Below wr.heap.size wr (wr.alloc (.cells #[.int .i64 0, .int .i64 0, .string ⟨t.toArray⟩] 42)).drew := Below_drew ((Below.refl _ _).alloc (Nat.le_refl _) _)
      have HTD2 := Lib.hid (HTD.out.new hbx)
      have HTN2 := Lib.hid (HTN.out.trans (TdTurn.new hbx))
      have hy : DStAt (wr.alloc (.cells #[.int .i64 0, .int .i64 0, .string ⟨t.toArray⟩] 42)).drew wr.heap.size 0 (txtSt t) := by
        obtain ⟨y0, y1, y2⟩ := stO_at wr (txtSt t)
        exact ⟨y0, y1, y2⟩
      have HY := Lib.hid hy
      have hbz : base ≤ (wr.alloc (.cells #[.int .i64 0, .int .i64 0, .string ⟨t.toArray⟩] 42)).drew.heap.size := Nat.le_trans hbw hbx.size
      have c3 : (wr.alloc (.cells #[.int .i64 0, .int .i64 0, .string ⟨t.toArray⟩] 42)).drew.cell? ⟨pt, 0, none⟩ = some vt1 := (hbx.cell (World.block_lt_of_cell? _ _ c2)).trans c2
      clear hy hbx
      go_cut [] (fun wx => ∃ vt2, TdAt wx base ph pt (.slice (some ⟨g, 0, none⟩) H.length k0) vt2 (L1 ++ [txtSt t]) H ∧ TdTurn w ph pt (.slice (some ⟨g, 0, none⟩) H.length k0) vt wx (.slice (some ⟨g, 0, none⟩) H.length k0) vt2)
      case first =>
        go_region_law (first
          | ((with_reducible refine step_st (o := ⟨some 18, _, _, _, _, _⟩) rfl (.tmp 11) (.tmp 17) 32 _ rfl Tryz.underlying32 info_step step_zero base vt1 L1 (txtSt t) wr.heap.size ?ev HTD2.out.ot ?ex HY.out ?hl hbz ?_)
             case ev => simp [Act.eval]
             case ex => simp [Act.eval]
             case hl => omega
             intro g1 cc w2 ho2 ht2
             obtain ⟨⟨pc, pf⟩, PT, PN⟩ := HTD2.out.steps ho2 ht2
             have HPT := Lib.hid PT
             have HPN := Lib.hid PN
             clear PT PN ho2 ht2))
        all_goals
          go_wp2_with fail
          go_meet
          exact ⟨_, HPT.out, HTN2.out.trans HPN.out⟩
      case rest =>
        obtain ⟨vt2, htd2, htn2⟩ := hcut
        have HTD3 := Lib.hid htd2
        have HTN3 := Lib.hid htn2
        have HG3 := Lib.hid (HGO.out.trans HG.out)
        have HL3 : (L1 ++ [txtSt t]).length + (H.length - (off + k)) ≤ 1400000 := by rw [List.length_append, List.length_singleton]; omega
        have ikl : (k : Int) ≤ ((H.length - off : Nat) : Int) := by omega
        have hoff2 : off + k ≤ H.length := by omega
        clear htd2 htn2 HGO HG hcv HTD HTN HTD2 HTN2 HY c2 c3
        go_wp2_with fail
        go_roundw
        case rel =>
          refine ⟨off + k, vt2, _, ?_, HTD3.out, HTN3.out, HG3, HL3⟩
          refine ⟨_, _, by rw [Nat.sub_sub], hoff2, by omega, fun hlt2 => ⟨g, k0, rfl, ?_⟩⟩
          rw [if_neg (by omega)]
        case measure => simp [lenSl]; omega
    · obtain rfl : off = H.length := by omega
      have i1 : ¬ (0 : Int) < ((H.length - H.length : Nat) : Int) := by omega
      have HE := Lib.hid (show gatherS L H = L1 by rw [← HG.out, List.drop_length, gather_nil])
      have c2 : wr.cell? ⟨ph, 0, none⟩ = some (.slice a0 H.length k0) := by rw [cell_of_row _ _ _ _ _ _ HTD.out.hh]; rfl
      obtain ⟨ho2, hm2⟩ := own_empty HTD.out.oh
      obtain ⟨⟨pc, pf⟩, PT, PN⟩ := HTD.out.held ho2 (Kept.refl _ wr) (fun g hg => .inl (hm2 g hg))
      have HPT := Lib.hid PT
      have HPN := Lib.hid (HTN.out.trans PN)
      clear PT PN ho2 hm2 HTD HTN HG
      go_wp2_with fail
      go_end0
      rw [HE.out]
      exact ⟨rfl, _, _, HPT.out, HPN.out⟩
end Go.Proofs.YtpkgjokehgihjaaGreat
/- A text appended to bytes of the call's own: where they lie then; what holds of tidy steps. Of no program. -/
set_option linter.unusedVariables false
namespace Go.Proofs.YtpkgjokehgihjaaGreat
open Go.RowKit

section
variable {P : Program}
theorem run_text_at (w : World) (t u ty e : TypeId) (ht : P.underlying t = some (.slice e)) (hu : P.underlying u = some .string)
    (hinfo : (P.info? e).map (fun i => (i.zero, i.size, i.bytes)) = some (some (.int .u8 0), 1, 1))
    (base : Nat) (v : Value) (l m : List UInt8) (hown : Own w base e v l) (hlen : l.length + m.length < 70368744177664) (hbase : base ≤ w.heap.size) :
    ∃ v' w', (Builtin.append_ #[t, u] ty #[v, .string ⟨m.toArray⟩]).run P w = .ok v' w' ∧ Own w' base e v' (l ++ m) ∧ Kept (fun k => v.ownBlock = some k) w w' ∧ (∀ g, v'.ownBlock = some g → v.ownBlock = some g ∨ w.heap.size ≤ g) := by
  obtain ⟨i0, hi, hz0, hz1, hz2⟩ := info_parts hinfo
  have hss : (⟨m.toArray⟩ : ByteArray).size = m.length := rfl
  obtain ⟨v', w', hr, h1, h2, _⟩ := Lib.run_append_own_string (P := P) w base t u ty e i0 ht hu hi hz0 hz1 hz2 v l.length (cellsOf l) hown ⟨m.toArray⟩ (by rw [hss]; unfold maxLen; omega) (by rw [hss]; omega) hbase
  refine ⟨v', w', hr, ?_, ⟨h2.os, h2.tape, h2.output, h2.size, fun k hk hm => h2.block k hk (fun he => hm he.symm)⟩, ?_⟩
  · unfold Own
    rw [cellsOf_append, List.length_append]
    exact h1
  · intro g hg
    rcases hown.2 with ⟨rfl, hn⟩ | ⟨b, cap, cur, rfl, hb, hgg, hle, hc, hs, htk⟩
    · right
      by_cases hm : m.length = 0
      · have hf := Lib.run_firstCells_string (P := P) w 1 ⟨m.toArray⟩
        rw [hss, hm] at hf
        have hr2 : (Builtin.append_ #[t, u] ty #[.slice none 0 0, .string ⟨m.toArray⟩]).run P w = .ok (.slice none 0 0) w := by
          simp [Builtin.append_, run_underlying ht, run_underlying hu, sizeOf, typeInfo, hi, hz1, Builtin.lenOf, hss, hm, hf]
        rw [hr] at hr2
        injection hr2 with hv _
        subst hv
        simp [Value.ownBlock] at hg
      · have hr2 := run_append_nil_string (P := P) w t u ty e i0 (.int .u8 0) ht hu hi hz0 ⟨m.toArray⟩ (by rw [hss]; omega) (by rw [hss]; omega) (by rw [hz2, hss]; omega)
        rw [hr] at hr2
        injection hr2 with hv _
        subst hv
        simp [Value.ownBlock] at hg
        omega
    · by_cases hroom : l.length + m.length ≤ cap
      · have hr2 := Lib.run_append_room_string (P := P) w t u ty e i0 ht hu hi hz1 b l.length cap cur hgg ⟨m.toArray⟩ (by rw [hss]; exact hroom) (by rw [hss]; omega)
        rw [hr] at hr2
        injection hr2 with hv _
        subst hv
        exact .inl hg
      · have hr2 := Lib.run_append_grow_string (P := P) w t u ty e i0 (.int .u8 0) ht hu hi hz0 ⟨b, 0, none⟩ l.length cap (cellsOf l) (by rw [hz1]; simp [cellsOf]) (hown.cells (g := b) rfl) ⟨m.toArray⟩ (by rw [hss]; omega) (by rw [hss]; omega) (by rw [hz2]; exact growslice_fits (by rw [hss]; omega) (by rw [hss]; omega))
        rw [hr] at hr2
        injection hr2 with hv _
        subst hv
        simp [Value.ownBlock] at hg
        right; omega
theorem append_text_at {w : World} {ops : Array Oper} {rest : List Oper} {o : Oper} {a : Act} {Q : Exit → Act → World → Prop} (hgd : o.guard = none) (s x : Operand) (t u e : TypeId)
    (ho : o.op = .call { callee := .builtin .append, args := #[s, x], argTypes := #[t, u] }) (ht : P.underlying t = some (.slice e)) (hu : P.underlying u = some .string)
    (hinfo : (P.info? e).map (fun i => (i.zero, i.size, i.bytes)) = some (some (.int .u8 0), 1, 1))
    (base : Nat) (v : Value) (l m : List UInt8) (hs : a.eval s = v) (hown : Own w base e v l) (hx : a.eval x = .string ⟨m.toArray⟩)
    (hlen : l.length + m.length < 70368744177664) (hbase : base ≤ w.heap.size)
    (h : ∀ v' w', Own w' base e v' (l ++ m) → Kept (fun k => v.ownBlock = some k) w w' → (∀ g, v'.ownBlock = some g → v.ownBlock = some g ∨ w.heap.size ≤ g) → wpList P ops Q rest (a.put o.dst v') w') :
    wpList P ops Q (o :: rest) a w := by
  obtain ⟨v', w', hrun, h1, h2, h3⟩ := run_text_at (P := P) w t u o.type e ht hu hinfo base v l m hown hlen hbase
  refine wpList_plain hgd fun K hK' => ?_
  unfold Oper.wp
  simp [execOp, ho, resolve, invoke, builtin, hs, hx, hrun, Result.andThen]
  exact hK' _ _ (h _ _ h1 h2 h3)
end

/-! ### What holds of tidy steps on the way -/
def wtS (x : DSt) : Nat := x.txt.length + x.len.toNat
def wtA (l : List DSt) : Nat := (l.map wtS).sum
structure TdI (n : Nat) (st : List DSt × Txt) : Prop where
  len : st.1.length + st.2.length ≤ n
  el : ∀ y ∈ st.1, StOk y ∧ (y.txt = [] → 0 < y.len ∧ y.len ≤ n)
theorem TdI.mono {n m : Nat} {st : List DSt × Txt} (h : TdI n st) (hm : n ≤ m) : TdI m st := ⟨Nat.le_trans h.len hm, fun y hy => ⟨(h.el y hy).1, fun e => by have := (h.el y hy).2 e; omega⟩⟩
theorem TdI.gather {n : Nat} {st : List DSt × Txt} (h : TdI n st) : TdI n (gatherS st.1 st.2, []) := by
  refine ⟨?_, fun y hy => ?_⟩
  · have := gather_len st.1 st.2
    have := h.len
    show (gatherS st.1 st.2).length + 0 ≤ n
    omega
  · unfold gatherS at hy
    rcases List.mem_append.1 hy with hy | hy
    · exact h.el y hy
    · obtain ⟨t, ht, rfl⟩ := List.mem_map.1 hy
      obtain ⟨h1, h2⟩ := cutS_mem 4096 (by decide) st.2 t ht
      unfold txtSt
      exact ⟨⟨by dsimp only; omega, by dsimp only; omega, by dsimp only; omega, by dsimp only; omega, by dsimp only; omega⟩, fun e => by dsimp only at e; subst e; simp at h2⟩
theorem TdI.take {n k : Nat} {l : List DSt} (h : TdI n (l, [])) (a : Int) (ha1 : -9223372036854775808 ≤ a) (ha2 : a ≤ 9223372036854775807) (hk : 0 < k) (hn : n + k ≤ 4611686018427387904) : TdI (n + k) (takeS l a k, []) := by
  have hl := h.len
  refine ⟨?_, fun y hy => ?_⟩
  · have := dtake_len l a k
    show (takeS l a k).length + 0 ≤ n + k
    have : l.length + 0 ≤ n := hl
    omega
  · have h1 : ∀ y ∈ [(⟨a, k, []⟩ : DSt)], StOk y ∧ (y.txt = [] → 0 < y.len ∧ y.len ≤ ((n + k : Nat) : Int)) := by
      intro y hy
      simp at hy
      subst hy
      exact ⟨⟨ha1, ha2, by dsimp only; omega, by dsimp only; omega, by simp⟩, fun _ => by dsimp only; omega⟩
    rcases List.eq_nil_or_concat l with rfl | ⟨p, x, rfl⟩
    · exact h1 y hy
    · rw [List.concat_eq_append] at h hy
      rw [take_snoc] at hy
      have hx := h.el x (by simp)
      split at hy
      · rename_i hc
        rcases List.mem_append.1 hy with hy | hy
        · have := h.el y (by simp [hy])
          exact ⟨this.1, fun e => by have := this.2 e; omega⟩
        · simp at hy
          subst hy
          have h2 := hx.2 hc.1
          obtain ⟨p1, p2, _, _, _⟩ := hx.1
          exact ⟨⟨p1, p2, by dsimp only; omega, by dsimp only; omega, by simp⟩, fun _ => by dsimp only; omega⟩
      · rcases List.mem_append.1 hy with hy | hy
        · have := h.el y hy
          exact ⟨this.1, fun e => by have := this.2 e; omega⟩
        · exact h1 y hy
theorem TdI.step {n : Nat} {st : List DSt × Txt} (h : TdI n st) {x : DSt} (hx : StOk x) (hn : n + wtS x ≤ 4611686018427387904) : TdI (n + wtS x) (tidX st x) := by
  unfold tidX
  by_cases ht : x.txt = []
  · rw [if_neg (by simp [ht])]
    by_cases hl : 0 < x.len
    · rw [if_pos hl]
      obtain ⟨k, hk⟩ : ∃ k : Nat, x.len = (k : Int) := ⟨x.len.toNat, by omega⟩
      have hw : wtS x = k := by unfold wtS; rw [ht, hk]; simp
      rw [hw] at hn ⊢
      rw [hk]
      exact h.gather.take x.pos hx.p1 hx.p2 (by omega) hn
    · rw [if_neg hl]
      exact h.mono (by omega)
  · rw [if_pos ht]
    refine ⟨?_, fun y hy => ?_⟩
    · have := h.len
      unfold wtS
      show st.1.length + (st.2 ++ x.txt).length ≤ _
      rw [List.length_append]; omega
    · have := h.el y hy
      exact ⟨this.1, fun e => by have := this.2 e; omega⟩
theorem wt_take (l : List DSt) (k : Nat) (hk : k < l.length) : wtA (l.take (k + 1)) = wtA (l.take k) + wtS l[k] := by
  unfold wtA
  rw [List.take_succ_eq_append_getElem hk, List.map_append, List.sum_append]; simp
theorem wt_take_le (l : List DSt) (k : Nat) : wtA (l.take k) ≤ wtA l := by
  unfold wtA
  conv => rhs; rw [← List.take_append_drop k l, List.map_append, List.sum_append]
  omega
theorem fold_take {σ : Type} (f : σ → DSt → σ) (s : σ) (l : List DSt) (k : Nat) (hk : k < l.length) : (l.take (k + 1)).foldl f s = f ((l.take k).foldl f s) l[k] := by
  rw [List.take_succ_eq_append_getElem hk, List.foldl_append]; rfl
end Go.Proofs.YtpkgjokehgihjaaGreat
/- The walk of Tidy. -/
set_option linter.unusedVariables false
namespace Go.Proofs.YtpkgjokehgihjaaGreat
open Go.RowKit

theorem TkOk.of {n : Nat} {L : List DSt} (h : ∀ y ∈ L, StOk y ∧ (y.txt = [] → 0 < y.len ∧ y.len ≤ n)) {k : Int} (hk : k ≤ 4611686018427387904) (hn : n ≤ 4611686018427387903) : TkOk k L :=
  fun y hy => ⟨(h y hy).1, fun e => by have := (h y hy).2 e; omega⟩
set_option maxRecDepth 100000 in
set_option maxHeartbeats 1000000 in
theorem tidy_any (N : Nat → Prop) (v : Value) (l : List DSt) (w : World) (h : RowS N w v l) (hok : ∀ x ∈ l, StOk x) (hl : l.length ≤ 1000000) (hwt : wtA l ≤ 1000000) :
    Calls Tryz.prog 11 #[v] w fun e w' => ∃ v', e = .returned v' ∧ OwnS w' w.heap.size v' (tidyS l) ∧ Below w.heap.size w w' := by
  have ba := below_self_alloc w (.cells #[.slice none 0 0] 32 (0, 0))
  have bb := below_self_alloc (w.alloc (.cells #[.slice none 0 0] 32 (0, 0))) (.cells #[.slice none 0 0] 54 (0, 0))
  have hsw : (w.alloc (.cells #[.slice none 0 0] 32 (0, 0))).heap.size = w.heap.size + 1 := by simp
  have g1 := (Kept.new bb (fun _ => False)).old (heap_alloc_new w (.cells #[.slice none 0 0] 32 (0, 0))) id
  have g2 := heap_alloc_new (w.alloc (.cells #[.slice none 0 0] 32 (0, 0))) (.cells #[.slice none 0 0] 54 (0, 0))
  rw [hsw] at g2
  have HB0 := Lib.hid (ba.trans (bb.mono ba.size))
  have T0 := Lib.hid (show TdAt ((w.alloc (.cells #[.slice none 0 0] 32 (0, 0))).alloc (.cells #[.slice none 0 0] 54 (0, 0))) w.heap.size (w.heap.size + 1) w.heap.size (.slice none 0 0) (.slice none 0 0) [] [] from ⟨g2, g1, Own.nil _ _ _, OwnS.nil _ _, by omega, Nat.le_refl _⟩)
  have HR := Lib.hid h
  have HK := Lib.hid hok
  obtain ⟨a, c, rfl⟩ := h.slice
  clear ba bb hsw g1 g2 h hok
  go_enter Tryz.func11, Tryz.ntmps11
  go_wp2_with fail
  generalize (w.alloc (.cells #[.slice none 0 0] 32)).alloc (.cells #[.slice none 0 0] 54) = w0 at *
  go_loopw [11] (fun i wr => ∃ (k : Nat) (vh vt : Value) (st : List DSt × Txt), k ≤ l.length ∧ i = .int .i64 k ∧ Hid (st = (l.take k).foldl tidX ([], [])) ∧ TdI (wtA (l.take k)) st ∧ TdAt wr w.heap.size (w.heap.size + 1) w.heap.size vh vt st.1 st.2 ∧ Below w.heap.size w wr) (fun i _ => l.length - (intOf i).toNat)
  case atStart => exact ⟨0, _, _, ([], []), by omega, rfl, Lib.hid rfl, ⟨by simp, by simp⟩, T0.out, HB0.out⟩
  case round =>
    obtain ⟨k, vh, vt, st, hk, rfl, HST, hI, hT, hbel⟩ := hrel
    have HT := Lib.hid hT; clear hT
    have HB := Lib.hid hbel; clear hbel
    have HI := Lib.hid hI; clear hI
    have hbw : w.heap.size ≤ wr.heap.size := HB.out.size
    by_cases hlt : k < l.length
    · obtain ⟨g, o, c', hv, _, hst⟩ := HR.out.at hlt
      injection hv with hv1 hv2 hv3
      subst hv1
      clear hv2 hv3
      have hst' := hst.below HB.out hst.lt
      have HSX := Lib.hid (show tidX st l[k] = (l.take (k + 1)).foldl tidX ([], []) by rw [fold_take _ _ _ _ hlt, ← HST.out])
      have hwk := wt_take l k hlt
      have hwl := wt_take_le l (k + 1)
      have hsx := HK.out l[k] (List.getElem_mem _)
      have HI2 := Lib.hid (show TdI (wtA (l.take (k + 1))) (tidX st l[k]) by rw [hwk]; exact HI.out.step hsx (by omega))
      have hw1 : wtS l[k] ≤ 1000000 := by omega
      have hw2 : wtA (l.take k) ≤ 1000000 := by omega
      clear hst hwl
      generalize l[k] = x at *
      obtain ⟨p, m, t⟩ := x
      obtain ⟨L, H⟩ := st
      have hll := HI.out.len
      dsimp only at HT hll
      obtain ⟨e0, e1, e2⟩ := hst'
      dsimp only at e0 e1 e2
      have htw : t.length ≤ 1000000 := by unfold wtS at hw1; dsimp only at hw1; omega
      have i0 : (0 : Int) ≤ (k : Int) := by omega
      have i1 : (k : Int) < (l.length : Int) := by omega
      have bx := below_self_alloc wr (stO ⟨p, m, t⟩)
      have HTX := Lib.hid (HT.out.new bx)
      have HBX := Lib.hid (HB.out.trans (bx.mono hbw))
      obtain ⟨x0, x1, x2⟩ := stO_at wr ⟨p, m, t⟩
      dsimp only at x0 x1 x2
      rw [Nat.zero_add] at x1 x2
      have c4 : (wr.alloc (stO ⟨p, m, t⟩)).cell? ⟨w.heap.size + 1, 0, none⟩ = some vh := by rw [cell_of_row _ _ _ _ _ _ HTX.out.hh]; rfl
      have hbwx : w.heap.size ≤ (wr.alloc (stO ⟨p, m, t⟩)).heap.size := Nat.le_trans hbw bx.size
      have HLT := Lib.hid (fun k hf => (HT.out.lt k hf).2)
      clear HT HB bx
      by_cases ht : t = []
      · subst ht
        have x2' : (wr.alloc (stO ⟨p, m, []⟩)).cell? ⟨wr.heap.size, 2, none⟩ = some (.string ⟨#[]⟩) := x2
        clear x2
        by_cases hm : 0 < m
        · have HSY := Lib.hid (show (takeS (gatherS L H) p m, []) = (l.take (k + 1)).foldl tidX ([], []) by rw [← HSX.out]; unfold tidX; rw [if_neg (by simp), if_pos hm])
          rw [HSX.out, ← HSY.out] at HI2
          obtain ⟨p1, p2, m1, m2, _⟩ := hsx
          dsimp only at p1 p2 m1 m2
          have hmw : m ≤ 1000000 := by unfold wtS at hw1; dsimp only at hw1; omega
          have HIG := Lib.hid (show TdI (wtA (l.take k)) (gatherS L H, []) from HI.out.gather)
          clear HST
          go_upto_region 10 with fail
          generalize wr.alloc (.cells #[.int .i64 p, .int .i64 m, .string ⟨#[]⟩] 42) = wx at *
          have LG := Lib.hid (tidyGo_any w.heap.size (w.heap.size + 1) w.heap.size vh vt L H wx HTX.out (by omega) hbwx)
          go_wp2_with fail
          refine LG.out.mono ?_
          rintro e w3 ⟨rfl, vh3, vt3, hT3, hN3⟩
          have hT3b := hT3
          have hnf : ¬ FT (w.heap.size + 1) w.heap.size vh vt wr.heap.size := fun hf => by have := HLT.out _ hf; omega
          have hx : ∀ j u, wx.cell? ⟨wr.heap.size, j, none⟩ = some u → w3.cell? ⟨wr.heap.size, j, none⟩ = some u := fun j u hc => by
            rw [World.cell?_of_block (w := wx) (hN3.kept.block wr.heap.size (World.block_lt_of_cell? _ _ hc) hnf)]
            exact hc
          have y0 := hx _ _ x0
          have y1 := hx _ _ x1
          have y2 := hx _ _ x2'
          have c5 : w3.cell? ⟨w.heap.size, 0, none⟩ = some vt3 := by rw [cell_of_row _ _ _ _ _ _ hT3.ht]; rfl
          have hb3 := hN3.below HTX.out hbwx
          have HB3 := Lib.hid (HBX.out.trans hb3)
          have hbw3 : w.heap.size ≤ w3.heap.size := Nat.le_trans hbwx hb3.size
          have hgl := gather_len L H
          have TK := Lib.hid (ctake_any w.heap.size vt3 (gatherS L H) p m w3 hT3.ot (TkOk.of HIG.out.el (by omega) (by omega)) (by omega) p1 p2 hm m2 hbw3)
          have HT3 := Lib.hid hT3b
          obtain ⟨va, vm, vc, rfl⟩ := own_slice hT3.ot
          clear hT3 hT3b hN3 hx hnf hb3 x0 x1 x2' c4 LG
          go_wp2_with fail
          refine TK.out.mono ?_
          rintro e w4 ⟨v4, rfl, ho4, ht4⟩
          obtain ⟨vb, vn, vd, rfl⟩ := own_slice ho4
          obtain ⟨⟨pc, pf⟩, PT, PN⟩ := HT3.out.steps ho4 ht4
          have HPT := Lib.hid PT
          have HPN := Lib.hid (HB3.out.trans (PN.below HT3.out hbw3))
          clear PT PN ho4 ht4 y0 y1 y2 c5 TK
          go_wp2_with fail
          go_roundw
          case rel => exact ⟨k + 1, _, _, (takeS (gatherS L H) p m, []), by omega, by go_num, HSY, HI2.out, HPT.out, HPN.out⟩
          case measure => simp [intOf]; omega
        · have HSY := Lib.hid (show (L, H) = (l.take (k + 1)).foldl tidX ([], []) by rw [← HSX.out]; unfold tidX; rw [if_neg (by simp), if_neg hm])
          rw [HSX.out, ← HSY.out] at HI2
          clear HST
          go_wp2_with fail
          generalize wr.alloc (.cells #[.int .i64 p, .int .i64 m, .string ⟨#[]⟩] 42) = wx at *
          go_roundw
          case rel => exact ⟨k + 1, vh, vt, (L, H), by omega, by go_num, HSY, HI2.out, HTX.out, HBX.out⟩
          case measure => simp [intOf]; omega
      · have hne : t.isEmpty = false := by cases t <;> simp_all
        have HSY := Lib.hid (show (L, H ++ t) = (l.take (k + 1)).foldl tidX ([], []) by rw [← HSX.out]; unfold tidX; rw [if_pos ht])
        rw [HSX.out, ← HSY.out] at HI2
        clear ht HST
        go_upto_region 8 with fail
        generalize wr.alloc (.cells #[.int .i64 p, .int .i64 m, .string ⟨t.toArray⟩] 42) = wx at *
        go_wp2_with (at_builtin; refine append_text_at rfl _ _ 54 9 5 (by rfl) Tryz.underlying54 Tryz.underlying9 info_u8 w.heap.size vh H t (by rfl) HTX.out.oh (by rfl) (by omega) hbwx ?_; intro v' w3 hown3 hk3 hm3; obtain ⟨va, vm, vc, rfl⟩ := own_slice hown3; obtain ⟨⟨pc, pf⟩, PT, PN⟩ := HTX.out.held hown3 hk3 hm3; have HPT := Lib.hid PT; have HPN := Lib.hid (HBX.out.trans (PN.below HTX.out hbwx)); clear PT PN hown3 hk3 hm3)
        go_wp2_with fail
        go_roundw
        case rel => exact ⟨k + 1, _, vt, (L, H ++ t), by omega, by go_num, HSY, HI2.out, HPT.out, HPN.out⟩
        case measure => simp [intOf]; omega
    · obtain rfl : k = l.length := by omega
      have i1 : ¬ (l.length : Int) < (l.length : Int) := by omega
      obtain ⟨L, H⟩ := st
      have hll := HI.out.len
      dsimp only at HT hll
      rw [List.take_length] at HST hll
      have HTY := Lib.hid (show gatherS L H = tidyS l by unfold tidyS tidE; rw [← HST.out])
      have LG := Lib.hid (tidyGo_any w.heap.size (w.heap.size + 1) w.heap.size vh vt L H wr HT.out (by omega) hbw)
      go_wp2_with fail
      refine LG.out.mono ?_
      rintro e w3 ⟨rfl, vh3, vt3, hT3, hN3⟩
      have c5 : w3.cell? ⟨w.heap.size, 0, none⟩ = some vt3 := by rw [cell_of_row _ _ _ _ _ _ hT3.ht]; rfl
      have HO := Lib.hid hT3.ot
      have HB3 := Lib.hid (HB.out.trans (hN3.below HT.out hbw))
      clear hT3 hN3
      go_wp2_with fail
      go_ret
      exact ⟨_, rfl, by rw [← HTY.out]; exact HO.out, HB3.out⟩
end Go.Proofs.YtpkgjokehgihjaaGreat
/- Walks of chain's tidied and reach. -/
set_option linter.unusedVariables false
namespace Go.Proofs.YtpkgjokehgihjaaGreat
open Go.RowKit

theorem keepB {a b : World} {p : Nat} {x0 x1 x2 x3 : Value} (bb : Below a.heap.size a b) (h0 : a.cell? ⟨p, 0, none⟩ = some x0) (h1 : a.cell? ⟨p, 1, none⟩ = some x1) (h2 : a.cell? ⟨p, 2, none⟩ = some x2) (h3 : a.cell? ⟨p, 3, none⟩ = some x3) :
    b.cell? ⟨p, 0, none⟩ = some x0 ∧ b.cell? ⟨p, 1, none⟩ = some x1 ∧ b.cell? ⟨p, 2, none⟩ = some x2 ∧ b.cell? ⟨p, 3, none⟩ = some x3 :=
  ⟨(bb.cell (World.block_lt_of_cell? _ _ h0)).trans h0, (bb.cell (World.block_lt_of_cell? _ _ h1)).trans h1, (bb.cell (World.block_lt_of_cell? _ _ h2)).trans h2, (bb.cell (World.block_lt_of_cell? _ _ h3)).trans h3⟩
theorem keep4 {a b : World} {p q : Nat} {x0 x1 x2 x3 : Value} (k : Kept (fun k => k = q) a b) (hpq : p ≠ q) (h0 : a.cell? ⟨p, 0, none⟩ = some x0) (h1 : a.cell? ⟨p, 1, none⟩ = some x1) (h2 : a.cell? ⟨p, 2, none⟩ = some x2) (h3 : a.cell? ⟨p, 3, none⟩ = some x3) :
    b.cell? ⟨p, 0, none⟩ = some x0 ∧ b.cell? ⟨p, 1, none⟩ = some x1 ∧ b.cell? ⟨p, 2, none⟩ = some x2 ∧ b.cell? ⟨p, 3, none⟩ = some x3 := by
  have hb := k.block p (World.block_lt_of_cell? _ _ h0) hpq
  exact ⟨by rw [World.cell?_of_block (w := a) hb]; exact h0, by rw [World.cell?_of_block (w := a) hb]; exact h1, by rw [World.cell?_of_block (w := a) hb]; exact h2, by rw [World.cell?_of_block (w := a) hb]; exact h3⟩
set_option maxRecDepth 100000 in
set_option maxHeartbeats 1000000 in
theorem tidied_by (N : Nat → Prop) (bm mm : Txt) (n : Int) (v : Value) (l : List DSt) (w : World) (h : RowS N w v l) (hty : ∀ w', RowS N w' v l → Calls Tryz.prog 11 #[v] w' fun e w'' => ∃ v', e = .returned v' ∧ OwnS w'' w'.heap.size v' (tidyS l) ∧ Below w'.heap.size w' w'') (h1 : bm.length ≤ 140737488351232) (h2 : mm.length ≤ 140737488351232) :
    Calls Tryz.prog 15 #[delW bm mm n v] w fun e w' => ∃ v', e = .returned (delW bm mm n v') ∧ OwnS w' w.heap.size v' (tidyS l) ∧ Below w.heap.size w w' := by
  have ba := below_self_alloc w (delO bm mm n v)
  have bb := below_self_alloc (w.alloc (delO bm mm n v)) (delO [] [] 0 (.slice none 0 0))
  have hsw : (w.alloc (delO bm mm n v)).heap.size = w.heap.size + 1 := by simp
  obtain ⟨d0, d1, d2, d3⟩ := delO_cells ((Kept.new bb (fun _ => False)).old (heap_alloc_new w (delO bm mm n v)) id)
  have G0 := heap_alloc_new (w.alloc (delO bm mm n v)) (delO [] [] 0 (.slice none 0 0))
  rw [hsw] at G0
  have HG := Lib.hid G0
  have HB := Lib.hid (ba.trans (bb.mono ba.size))
  have CL1 := fun w' => Lib.hid (rclone_any bm w' h1)
  have CL2 := fun w' => Lib.hid (rclone_any mm w' h2)
  have HRW := Lib.hid h
  obtain ⟨a, c, rfl⟩ := h.slice
  clear ba bb hsw G0 h
  go_enter Tryz.func15, Tryz.ntmps15
  go_upto_region 1 with fail
  generalize (w.alloc (.cells #[.string ⟨bm.toArray⟩, .string ⟨mm.toArray⟩, .int .i64 n, .slice a l.length c] 34)).alloc (.cells #[.string ⟨#[]⟩, .string ⟨#[]⟩, .int .i64 0, .slice none 0 0] 34) = w1 at *
  have HBd := Lib.hid (HB.out.trans (Below_drew (Below.refl w.heap.size w1)))
  have HGd := Lib.hid (show w1.drew.heap[w.heap.size + 1]? = some (delO [] [] 0 (.slice none 0 0)) from HG.out)
  have TD := fun w' (hb : Below w.heap.size w w') => Lib.hid (hty w' (HRW.out.keep hb))
  have e0 : w1.drew.cell? ⟨w.heap.size, 0, none⟩ = some (.string ⟨bm.toArray⟩) := d0
  have e1 : w1.drew.cell? ⟨w.heap.size, 1, none⟩ = some (.string ⟨mm.toArray⟩) := d1
  have e2 : w1.drew.cell? ⟨w.heap.size, 2, none⟩ = some (.int .i64 n) := d2
  have e3 : w1.drew.cell? ⟨w.heap.size, 3, none⟩ = some (.slice a l.length c) := d3
  clear hty d0 d1 d2 d3
  go_region_held3 (fun w' => w'.cell? ⟨w.heap.size, 0, none⟩ = some (.string ⟨bm.toArray⟩) ∧ w'.cell? ⟨w.heap.size, 1, none⟩ = some (.string ⟨mm.toArray⟩) ∧ w'.cell? ⟨w.heap.size, 2, none⟩ = some (.int .i64 n) ∧ w'.cell? ⟨w.heap.size, 3, none⟩ = some (.slice a l.length c))
    (first | with_reducible exact ⟨by assumption, by assumption, by assumption, by assumption⟩ | go_keep)
    (first
      | (go_at_call_of 13 (Value.string ⟨bm.toArray⟩); go_split_ands; refine (CL1 _).out.mono ?_; rintro e wA ⟨rfl, bA⟩; obtain ⟨a0, a1, a2, a3⟩ := keepB bA e0 e1 e2 e3; have HBA := Lib.hid (HBd.out.trans (bA.mono HBd.out.size)); have HGA := Lib.hid (old_of bA HGd.out); clear bA)
      | (go_at_call_of 13 (Value.string ⟨mm.toArray⟩); go_split_ands; refine (CL2 _).out.mono ?_; rintro e wB ⟨rfl, bB⟩; obtain ⟨b0, b1, b2, b3⟩ := keepB bB a0 a1 a2 a3; have HBB := Lib.hid (HBA.out.trans (bB.mono HBA.out.size)); have HGB := Lib.hid (old_of bB HGA.out); clear bB)
      | (go_at_call 11; go_split_ands; refine (TD _ HBB.out).out.mono ?_; rintro e wC ⟨v', rfl, hoC, bC⟩; obtain ⟨vxa, vxm, vxc, rfl⟩ := own_slice hoC; obtain ⟨k0, k1, k2, k3⟩ := keepB bC b0 b1 b2 b3; have hbC := HBB.out.trans (bC.mono HBB.out.size); have hGC := old_of bC HGB.out; obtain ⟨⟨S0, S0f⟩, ⟨S1, S1f⟩, ⟨S2, S2f⟩, ⟨S3, S3f⟩, s4', s5'⟩ := four_store hGC (.string ⟨bm.toArray⟩) (.string ⟨mm.toArray⟩) (.int .i64 n) (.slice vxa vxm vxc); have S4 := Lib.hid s4'; have HF := Lib.hid (hbC.trans (s5'.below hbC.size (fun k e => by omega))); obtain ⟨m0, m1, m2, m3⟩ := keep4 s5' (by omega) k0 k1 k2 k3; have HO := Lib.hid ((hoC.kept s5' (fun g hg e => own_ne hoC hGC (by decide) (e ▸ hg))).mono HBB.out.size); clear s4' s5' hoC bC hbC hGC))
  all_goals
    go_wp2_with fail
    refine bodyPost_ret (v := delW bm mm n (.slice vxa vxm vxc)) (results_cell_row Tryz.results15 _ _ (w.heap.size + 1) _ _ _ _ rfl S4.out Tryz.underlying34 rfl del_info) rfl ?_
    exact ⟨_, rfl, HO.out, HF.out⟩
theorem tidied_any (N : Nat → Prop) (bm mm : Txt) (n : Int) (v : Value) (l : List DSt) (w : World) (h : RowS N w v l) (hok : ∀ x ∈ l, StOk x) (hl : l.length ≤ 1000000) (hwt : wtA l ≤ 1000000) (h1 : bm.length ≤ 140737488351232) (h2 : mm.length ≤ 140737488351232) :
    Calls Tryz.prog 15 #[delW bm mm n v] w fun e w' => ∃ v', e = .returned (delW bm mm n v') ∧ OwnS w' w.heap.size v' (tidyS l) ∧ Below w.heap.size w w' :=
  tidied_by N bm mm n v l w h (fun w' h' => tidy_any N v l w' h' hok hl hwt) h1 h2
end Go.Proofs.YtpkgjokehgihjaaGreat

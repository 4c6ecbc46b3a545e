/- Several texts in one: QuietTail, BelowTail. -/
import Derived.BigQuiet
import Derived.Deep.QuietTactic
import Derived.StillTail
import Derived.Test.YtamiacmnobklaaaGreatDoorGen
import Derived.Test.YtamiacmnobklaaaGreatDoorQuietBelow
/- A region that draws its order whose head only reads and calls quietly (callees may draw) and whose tail stands in one forced order: the head walked once, then the tail as it stands. Of no program. -/
set_option linter.unusedVariables false
namespace Go.Proofs.YtamiacmnobklaaaGreatDoor
section
variable {P : Program} {ops : Array Oper} {md : Region.Mode} {C : World → Prop} {n : Nat}

/-- Each of the head but the first is waited for by one behind it, up to number n. -/
def sinkTail (md : Region.Mode) (ops : Array Oper) (n : Nat) : Bool := (List.range n).all fun i => i == 0 || (List.range (n + 1)).any fun j => decide (i < j) && Region.waitsFor md ops j i
def quietTailB (md : Region.Mode) (ops : Array Oper) (n : Nat) : Bool :=
  Region.noSelect ops && decide (0 < n) && decide (n < ops.size) && sinkTail md ops n && Region.chainB md ops n && Region.free md ops (Array.replicate ops.size false) 0 && (Region.ready md ops (Array.replicate ops.size false)).contains 0 &&
    Region.lexHead md ops (ops.size - n) (n - 1) 1 ((Array.replicate ops.size false).setIfInBounds 0 true)
theorem tail_late (hs : sinkTail md ops n = true) (hc : Region.chainB md ops n = true) (hn : n < ops.size) {seen : Array Bool} (inv : HeadInv md ops n seen) (h0 : seen.getD 0 false = true) (d : Nat) :
    ∀ i, n - i = d → i < n → seen.getD i true = false → ∀ t, n ≤ t → t ∉ Region.ready md ops seen := by
  induction d using Nat.strongRecOn with
  | _ d ih =>
    intro i hd hi hun t ht hr
    obtain ⟨_, ot, hot, hall⟩ := mem_ready.1 hr
    have htl : t < ops.size := (Array.getElem?_eq_some_iff.1 hot).1
    rcases Nat.lt_or_ge n t with htn | htn
    · have h1 := List.all_eq_true.1 hc t (List.mem_range.2 htl)
      rw [Bool.or_eq_true, decide_eq_true_eq] at h1
      obtain ⟨o', ho', e, he, hb, hon⟩ := Region.waitsFor_spec (h1.resolve_left (by omega))
      obtain rfl : o' = ot := Option.some.inj (ho'.symm.trans hot)
      have h2 := hall e he hb
      rw [hon, getD_both (inv.tail (t - 1) (by omega) (by omega))] at h2
      cases h2
    · obtain rfl : t = n := by omega
      have h1 := List.all_eq_true.1 hs i (List.mem_range.2 hi)
      rw [Bool.or_eq_true, beq_iff_eq] at h1
      have hi0 : i ≠ 0 := by
        intro e
        rw [e] at hun
        rw [getD_both hun] at h0
        cases h0
      obtain ⟨j, hj, h2⟩ := List.any_eq_true.1 (h1.resolve_left hi0)
      rw [Bool.and_eq_true, decide_eq_true_eq] at h2
      obtain ⟨oj, hoj, e, he, hb, hon⟩ := Region.waitsFor_spec h2.2
      have hjt : j ≤ t := by have := List.mem_range.1 hj; omega
      by_cases hl : seen.getD j false = true
      · have h3 := inv.closed j oj hoj hl e he hb
        rw [hon, getD_both hun] at h3
        cases h3
      · have hjf : seen.getD j false = false := by simpa using hl
        rcases Nat.lt_or_ge j t with hlt | hge
        · exact ih (t - j) (by omega) j rfl hlt (getD_in (by rw [inv.size]; omega) hjf) t (Nat.le_refl _) hr
        · obtain rfl : j = t := by omega
          obtain rfl : oj = ot := Option.some.inj (hoj.symm.trans hot)
          have h3 := hall e he hb
          rw [hon, getD_both hun] at h3
          cases h3

/-- Whatever number of the head is picked from here on, each is quiet; L holds of what is left when all were. -/
def anyHead (P : Program) (md : Region.Mode) (ops : Array Oper) (C : World → Prop) (n : Nat) (L : Array Bool → Act → Prop) : Nat → Array Bool → Act → Prop
  | 0, seen, a => L seen a
  | f + 1, seen, a => (∃ i, i ∈ Region.ready md ops seen) ∧ ∀ i ∈ Region.ready md ops seen, i < n ∧ qOp P ops C i (anyHead P md ops C n L f (seen.setIfInBounds i true)) a

theorem anyHead_any {g : Nat} {L : Array Bool → Act → Prop} {Q' : Exit → Act → World → Prop} (hL : ∀ seen a w, C w → L seen a → wpAny P md ops Q' g seen a w) (f : Nat) :
    ∀ seen a w, C w → anyHead P md ops C n L f seen a → wpAny P md ops Q' (f + g) seen a w := by
  induction f with
  | zero => intro seen a w hw h; rw [Nat.zero_add]; exact hL _ _ _ hw h
  | succ f ih =>
    intro seen a w hw h
    rw [Nat.add_right_comm]
    refine ⟨fun h0 => ?_, fun i hi => wpOp_of_qOp hw (fun a' w' hw' h' => ih _ _ _ hw' h') (h.2 i hi).2⟩
    obtain ⟨i, hi⟩ := h.1
    rw [h0] at hi
    cases hi

/-- One of the head that may come now, and yields its value in every world of the class, may be taken first. -/
theorem anyHead_pull {i : Nat} {oi : Oper} {v : Value} {L : Array Bool → Act → Prop} (hsel : Region.noSelect ops = true) (hs : sinkTail md ops n = true) (hc : Region.chainB md ops n = true) (hn : n < ops.size)
    (hi : ops[i]? = some oi) (hin : i < n) (hL : ∀ seen a, L seen a → ∀ j ∈ Region.ready md ops seen, n ≤ j) (f : Nat) :
    ∀ seen a, HeadInv md ops n seen → seen.getD 0 false = true → i ∈ Region.ready md ops seen →
      (∀ j oj, ops[j]? = some oj → j ≠ i → seen.getD j true = false → (∀ e ∈ oj.after, Region.binds md e = true → e.on ≠ i) → oi.apart ops oj = true) →
      YieldsIn P ops C oi v a → anyHead P md ops C n L f (seen.setIfInBounds i true) (a.put oi.dst v) → anyHead P md ops C n L (f + 1) seen a := by
  induction f with
  | zero =>
    intro seen a inv z hr free hy H
    refine ⟨⟨i, hr⟩, fun j hj => ?_⟩
    have hun := (mem_ready.1 hr).1
    have hjn : j < n := Nat.lt_of_not_le fun h => tail_late hs hc hn inv z _ i rfl hin hun j h hj
    refine ⟨hjn, ?_⟩
    by_cases e : j = i
    · subst e; exact hy.qOp hi H
    · have := hL _ _ H j (ready_mono hj e)
      omega
  | succ f ih =>
    intro seen a inv z hr free hy H
    refine ⟨⟨i, hr⟩, fun j hj => ?_⟩
    have hun := (mem_ready.1 hr).1
    have hjn : j < n := Nat.lt_of_not_le fun h => tail_late hs hc hn inv z _ i rfl hin hun j h hj
    refine ⟨hjn, ?_⟩
    by_cases e : j = i
    · subst e; exact hy.qOp hi H
    · obtain ⟨hjun, oj, hoj, hall⟩ := mem_ready.1 hj
      have away : ∀ d ∈ oj.after, Region.binds md d = true → d.on ≠ i := by
        intro d hd hb he
        have h1 := hall d hd hb
        rw [he, getD_both hun] at h1
        cases h1
      have h2 := qOp_put hoj (free j oj hoj e hjun away) (fun cs b => Region.noSelect_spec hsel i oi cs b hi) (fun cs b => Region.noSelect_spec hsel j oj cs b hoj) hy (H.2 j (ready_mono hj e)).2
      refine qOp_mono (fun a' h3 => ih _ a' (inv.set hj hjn) (getD_set_true z) (ready_mono hr (Ne.symm e)) ?_ h3.1 ?_) h2
      · intro k ok hk hki hkun hno
        refine free k ok hk hki ?_ hno
        by_cases hjk : j = k
        · subst hjk; exact hjun
        · rwa [getD_set_ne true hjk] at hkun
      · rw [Array.setIfInBounds_comm _ _ e]
        exact h3.2

theorem anyHead_lex {g : Nat} {T : Act → Prop} (hsel : Region.noSelect ops = true) (hs : sinkTail md ops n = true) (hc : Region.chainB md ops n = true) (hn : n < ops.size) (l : List Oper) :
    ∀ k seen a, (∀ j, j < l.length → l[j]? = ops[k + j]?) → k + l.length = n → HeadInv md ops n seen → seen.getD 0 false = true → Region.lexHead md ops g l.length k seen = true → wpQuiet P ops C T l a →
    anyHead P md ops C n (fun seen' a' => Region.seqB md ops g n seen' = true ∧ T a') l.length seen a := by
  induction l with
  | nil =>
    intro k seen a _ hk _ _ hB h
    obtain rfl : k = n := hk
    exact ⟨hB, h⟩
  | cons o l ih =>
    intro k seen a hl hk inv z hB h
    have h0 : ops[k]? = some o := (hl 0 (Nat.succ_pos _)).symm
    simp only [List.length_cons, Region.lexHead, Bool.and_eq_true] at hB
    have hr : k ∈ Region.ready md ops seen := by simpa using hB.1.1
    have hkn : k < n := by rw [List.length_cons] at hk; omega
    have hq : qOp P ops C k (wpQuiet P ops C T l) a := by unfold qOp; simp only [h0]; exact h
    obtain ⟨v, hy, hK⟩ := yieldsIn_of_qOp h0 hq
    refine anyHead_pull hsel hs hc hn h0 hkn (fun seen' a' hL => seqB_ready hL.1) l.length seen a inv z hr (Region.free_spec h0 hB.1.2) hy ?_
    refine ih (k + 1) _ _ (fun j hj => ?_) (by rw [List.length_cons] at hk; omega) (inv.set hr hkn) (getD_set_true z) hB.2 hK
    have := hl (j + 1) (Nat.succ_lt_succ hj)
    rw [List.getElem?_cons_succ] at this
    rw [this, Nat.add_assoc, Nat.add_comm 1 j]

theorem wp_region_quiet_tail {id : Nat} {Q : Exit → Act → World → Prop} {a : Act} {w : World} {o : Oper} {l : List Oper} {v : Value} (n : Nat) (hm : P.follows .mixedOrders = true) (hB : quietTailB .any (o :: l).toArray (n + 1) = true)
    (hQ : ∀ c a w, Q (.panic c) (a.put o.dst v) w → Q (.panic c) a w) (hy : Yields P (o :: l).toArray o v a)
    (h : wpQuiet P (o :: l).toArray (fun w' => ∃ m, w' = w.drewN m) (fun a' => ∀ w', (∃ m, w' = w.drewN m) → wpList P (o :: l).toArray Q (l.drop n) a' w') (l.take n) (a.put o.dst v)) : (Code.region id (o :: l).toArray true).wp P Q a w := by
  simp only [quietTailB, Bool.and_eq_true, decide_eq_true_eq] at hB
  obtain ⟨⟨⟨⟨⟨⟨⟨hsel, _⟩, hn⟩, hs⟩, hc⟩, hf⟩, hr⟩, hlex⟩ := hB
  have hnl : n < l.length := by simpa using hn
  have ht : (l.take n).length = n := by rw [List.length_take]; omega
  have hd : (l.drop n).length = (o :: l).toArray.size - (n + 1) := by rw [List.length_drop, List.size_toArray, List.length_cons]; omega
  have inv0 : HeadInv .any (o :: l).toArray (n + 1) (Array.replicate (o :: l).toArray.size false) := by
    refine ⟨by simp, fun j oj _ hj => ?_, fun t _ hj => getD_in (by simpa using hj) (getD_replicate_false _ _)⟩
    rw [getD_replicate_false] at hj
    cases hj
  have inv := inv0.set (by simpa using hr) (Nat.succ_pos n)
  have z : ((Array.replicate (o :: l).toArray.size false).setIfInBounds 0 true).getD 0 false = true := by simp
  have H := anyHead_lex (g := (o :: l).toArray.size - (n + 1)) hsel hs hc hn (l.take n) 1 _ _ (fun j hj => by
    rw [ht] at hj
    rw [List.getElem?_take_of_lt hj, Nat.add_comm 1 j]
    simp) (by rw [ht, Nat.add_comm]) inv z (by rw [ht]; exact hlex) h
  have R := anyHead_any (C := fun w' => ∃ m, w' = w.drewN m) (Q' := Q) (g := (o :: l).toArray.size - (n + 1)) (fun seen a' w' hw' hL => by
    have := wpAny_of_seq (md := .any) (Q' := Q) (l.drop n) (n + 1) seen a' w' (fun j => by rw [List.getElem?_drop, show n + 1 + j = (n + j) + 1 by omega]; simp) (by rw [hd]; exact hL.1) (hL.2 w' hw')
    rwa [hd] at this) _ _ _ _ ⟨1, rfl⟩ H
  refine wp_region_any hm ?_
  have e : (o :: l).toArray.size = ((l.take n).length + ((o :: l).toArray.size - (n + 1))) + 1 := by
    rw [ht, List.size_toArray, List.length_cons]; omega
  have T := wpAny_take (md := .any) (oi := o) (by simp) hsel hf hr hQ hy R
  rw [← e] at T
  exact T
end
end Go.Proofs.YtamiacmnobklaaaGreatDoor
/- A region that draws its order whose head reads and calls what may make memory, and whose tail stands in one forced order: the head walked once, then the tail as it stands. Of no program. -/
set_option linter.unusedVariables false
namespace Go.Proofs.YtamiacmnobklaaaGreatDoor
open Go.RowKit
section
variable {P : Program}
theorem wp_region_below_tail {id : Nat} {Q : Exit → Act → World → Prop} {a : Act} {w : World} {o : Oper} {l : List Oper} {v : Value} (n : Nat) (hm : P.follows .mixedOrders = true) (hB : quietTailB .any (o :: l).toArray (n + 1) = true)
    (hQ : ∀ c a w, Q (.panic c) (a.put o.dst v) w → Q (.panic c) a w) (hy : Yields P (o :: l).toArray o v a)
    (h : wpQuiet P (o :: l).toArray (fun w' => ∃ p : BelowOf w, w' = p.w) (fun a' => ∀ w', (∃ p : BelowOf w, w' = p.w) → wpList P (o :: l).toArray Q (l.drop n) a' w') (l.take n) (a.put o.dst v)) : (Code.region id (o :: l).toArray true).wp P Q a w := by
  simp only [quietTailB, Bool.and_eq_true, decide_eq_true_eq] at hB
  obtain ⟨⟨⟨⟨⟨⟨⟨hsel, _⟩, hn⟩, hs⟩, hc⟩, hf⟩, hr⟩, hlex⟩ := hB
  have hnl : n < l.length := by simpa using hn
  have ht : (l.take n).length = n := by rw [List.length_take]; omega
  have hd : (l.drop n).length = (o :: l).toArray.size - (n + 1) := by rw [List.length_drop, List.size_toArray, List.length_cons]; omega
  have inv0 : HeadInv .any (o :: l).toArray (n + 1) (Array.replicate (o :: l).toArray.size false) := by
    refine ⟨by simp, fun j oj _ hj => ?_, fun t _ hj => getD_in (by simpa using hj) (getD_replicate_false _ _)⟩
    rw [getD_replicate_false] at hj
    cases hj
  have inv := inv0.set (by simpa using hr) (Nat.succ_pos n)
  have z : ((Array.replicate (o :: l).toArray.size false).setIfInBounds 0 true).getD 0 false = true := by simp
  have H := anyHead_lex (g := (o :: l).toArray.size - (n + 1)) hsel hs hc hn (l.take n) 1 _ _ (fun j hj => by
    rw [ht] at hj
    rw [List.getElem?_take_of_lt hj, Nat.add_comm 1 j]
    simp) (by rw [ht, Nat.add_comm]) inv z (by rw [ht]; exact hlex) h
  have R := anyHead_any (C := fun w' => ∃ p : BelowOf w, w' = p.w) (Q' := Q) (g := (o :: l).toArray.size - (n + 1)) (fun seen a' w' hw' hL => by
    have := wpAny_of_seq (md := .any) (Q' := Q) (l.drop n) (n + 1) seen a' w' (fun j => by rw [List.getElem?_drop, show n + 1 + j = (n + j) + 1 by omega]; simp) (by rw [hd]; exact hL.1) (hL.2 w' hw')
    rwa [hd] at this) _ _ _ _ (show ∃ p : BelowOf w, w.drew = p.w from ⟨⟨w.drew, Below_drew (Below.refl _ _)⟩, rfl⟩) H
  refine wp_region_any hm ?_
  have e : (o :: l).toArray.size = ((l.take n).length + ((o :: l).toArray.size - (n + 1))) + 1 := by
    rw [ht, List.size_toArray, List.length_cons]; omega
  have T := wpAny_take (md := .any) (oi := o) (by simp) hsel hf hr hQ hy R
  rw [← e] at T
  exact T
end
end Go.Proofs.YtamiacmnobklaaaGreatDoor

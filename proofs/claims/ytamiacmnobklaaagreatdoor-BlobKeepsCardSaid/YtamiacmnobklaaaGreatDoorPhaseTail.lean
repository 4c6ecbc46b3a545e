/- A region that draws its order, in whose head one call turns the world from one class into another while all else leaves each class as it is, and whose tail stands in one forced order: the head walked once, in the order of the text. Of no program. -/
import Derived.Test.YtamiacmnobklaaaGreatDoorQtX
set_option linter.unusedVariables false
namespace Go.Proofs.YtamiacmnobklaaaGreatDoor
section
variable {P : Program} {ops : Array Oper} {md : Region.Mode} {n : Nat} {Y : Nat → Act → Oper → Value → Prop}

/-- What is known of an operation does not hang on more of the frame than it reads. -/
def Keeps (Y : Nat → Act → Oper → Value → Prop) : Prop := ∀ i a a' o v, execOp (Act.eval a') o = execOp (Act.eval a) o → Y i a o v → Y i a' o v
def qOpY (Y : Nat → Act → Oper → Value → Prop) (ops : Array Oper) (i : Nat) (K : Act → Prop) (a : Act) : Prop :=
  match ops[i]? with
  | none => K a
  | some o => if Region.wanted o (yielded ops a.tmps) then ∃ v, Y i a o v ∧ K (a.put o.dst v) else K (a.put o.dst undef)
theorem qOpY_mono {i : Nat} {a : Act} {K K' : Act → Prop} (h : ∀ a, K a → K' a) (hh : qOpY Y ops i K a) : qOpY Y ops i K' a := by
  unfold qOpY at *
  split
  · exact h _ (by simpa [*] using hh)
  · rename_i o ho
    simp only [ho] at hh
    split
    · rename_i hw; simp only [hw, if_true] at hh; obtain ⟨v, h1, h2⟩ := hh; exact ⟨v, h1, h _ h2⟩
    · rename_i hw; simp only [hw] at hh; exact h _ hh
def YieldsY (Y : Nat → Act → Oper → Value → Prop) (ops : Array Oper) (i : Nat) (o : Oper) (v : Value) (a : Act) : Prop :=
  (Region.wanted o (yielded ops a.tmps) = true ∧ Y i a o v) ∨ (Region.wanted o (yielded ops a.tmps) = false ∧ v = undef)
theorem YieldsY.qOp {i : Nat} {o : Oper} {v : Value} {a : Act} (hi : ops[i]? = some o) (hy : YieldsY Y ops i o v a) {K : Act → Prop} (h : K (a.put o.dst v)) : qOpY Y ops i K a := by
  unfold qOpY
  simp only [hi]
  rcases hy with ⟨hw, hv⟩ | ⟨hw, rfl⟩
  · simp only [hw, if_true]; exact ⟨v, hv, h⟩
  · simp only [hw, Bool.false_eq_true, if_false]; exact h
theorem YieldsY.of_same (hk : Keeps Y) {i : Nat} {o : Oper} {v : Value} {a a' : Act} (hy : YieldsY Y ops i o v a) (he : execOp a'.eval o = execOp a.eval o)
    (hw : Region.wanted o (yielded ops a'.tmps) = Region.wanted o (yielded ops a.tmps)) : YieldsY Y ops i o v a' := by
  unfold YieldsY at *
  rw [hw]
  rcases hy with ⟨h1, h2⟩ | h
  · exact .inl ⟨h1, hk i a a' o v he h2⟩
  · exact .inr h
theorem yieldsY_of_qOp {i : Nat} {o : Oper} {a : Act} {K : Act → Prop} (hi : ops[i]? = some o) (h : qOpY Y ops i K a) : ∃ v, YieldsY Y ops i o v a ∧ K (a.put o.dst v) := by
  unfold qOpY at h
  simp only [hi] at h
  by_cases hw : Region.wanted o (yielded ops a.tmps) = true
  · simp only [hw, if_true] at h
    obtain ⟨v, h1, h2⟩ := h
    exact ⟨v, .inl ⟨hw, h1⟩, h2⟩
  · simp only [hw] at h
    exact ⟨undef, .inr ⟨by simpa using hw, rfl⟩, h⟩
theorem qOpY_put (hk : Keeps Y) {i j : Nat} {oi oj : Oper} {v : Value} (hj : ops[j]? = some oj) (hap : oi.apart ops oj = true)
    (hsi : ∀ cs b, oi.op ≠ .select cs b) (hsj : ∀ cs b, oj.op ≠ .select cs b) {K : Act → Prop} {a : Act}
    (hy : YieldsY Y ops i oi v a) (h : qOpY Y ops j K (a.put oi.dst v)) :
    qOpY Y ops j (fun a' => YieldsY Y ops i oi v a' ∧ K (a'.put oi.dst v)) a := by
  obtain ⟨h1, h2, h3⟩ := Oper.apart_spec hap
  have keep : ∀ (a : Act), YieldsY Y ops i oi v a → ∀ u, YieldsY Y ops i oi v (a.put oj.dst u) := fun a hy u =>
    hy.of_same hk (execOp_put oi hsi a oj.dst u h3) (wanted_put oi a oj.dst u h3)
  unfold qOpY at *
  simp only [hj] at *
  rw [wanted_put oj a oi.dst v h1] at h
  split
  · rename_i hw
    simp only [hw, if_true] at h
    obtain ⟨u, hu, hn⟩ := h
    exact ⟨u, hk j _ a oj u (execOp_put oj hsj a oi.dst v h1).symm hu, keep a hy u, by rw [← Act.put_comm a v u h2]; exact hn⟩
  · rename_i hw
    simp only [hw] at h
    exact ⟨keep a hy _, by rw [← Act.put_comm a v undef h2]; exact h⟩
def anyHeadY (Y : Nat → Act → Oper → Value → Prop) (md : Region.Mode) (ops : Array Oper) (n : Nat) (L : Array Bool → Act → Prop) : Nat → Array Bool → Act → Prop
  | 0, seen, a => L seen a
  | f + 1, seen, a => (∃ i, i ∈ Region.ready md ops seen) ∧ ∀ i ∈ Region.ready md ops seen, i < n ∧ qOpY Y ops i (anyHeadY Y md ops n L f (seen.setIfInBounds i true)) a
theorem anyHeadY_pull (hk : Keeps Y) {i : Nat} {oi : Oper} {v : Value} {L : Array Bool → Act → Prop} (hsel : Region.noSelect ops = true) (hs : sinkTail md ops n = true) (hc : Region.chainB md ops n = true) (hn : n < ops.size)
    (hi : ops[i]? = some oi) (hin : i < n) (hL : ∀ seen a, L seen a → ∀ j ∈ Region.ready md ops seen, n ≤ j) (f : Nat) :
    ∀ seen a, HeadInv md ops n seen → seen.getD 0 false = true → i ∈ Region.ready md ops seen →
      (∀ j oj, ops[j]? = some oj → j ≠ i → seen.getD j true = false → (∀ e ∈ oj.after, Region.binds md e = true → e.on ≠ i) → oi.apart ops oj = true) →
      YieldsY Y ops i oi v a → anyHeadY Y md ops n L f (seen.setIfInBounds i true) (a.put oi.dst v) → anyHeadY Y md ops n L (f + 1) seen a := by
  induction f with
  | zero =>
    intro seen a inv z hr free hy H
    refine ⟨⟨i, hr⟩, fun j hj => ?_⟩
    have hun := (mem_ready.1 hr).1
    have hjn : j < n := Nat.lt_of_not_le fun h => tail_late hs hc hn inv z _ i rfl hin hun j h hj
    refine ⟨hjn, ?_⟩
    by_cases e : j = i
    · subst e; exact hy.qOp hi H
    · have := hL _ _ H j (ready_mono hj e)
      omega
  | succ f ih =>
    intro seen a inv z hr free hy H
    refine ⟨⟨i, hr⟩, fun j hj => ?_⟩
    have hun := (mem_ready.1 hr).1
    have hjn : j < n := Nat.lt_of_not_le fun h => tail_late hs hc hn inv z _ i rfl hin hun j h hj
    refine ⟨hjn, ?_⟩
    by_cases e : j = i
    · subst e; exact hy.qOp hi H
    · obtain ⟨hjun, oj, hoj, hall⟩ := mem_ready.1 hj
      have away : ∀ d ∈ oj.after, Region.binds md d = true → d.on ≠ i := by
        intro d hd hb he
        have h1 := hall d hd hb
        rw [he, getD_both hun] at h1
        cases h1
      have h2 := qOpY_put hk hoj (free j oj hoj e hjun away) (fun cs b => Region.noSelect_spec hsel i oi cs b hi) (fun cs b => Region.noSelect_spec hsel j oj cs b hoj) hy (H.2 j (ready_mono hj e)).2
      refine qOpY_mono (fun a' h3 => ih _ a' (inv.set hj hjn) (getD_set_true z) (ready_mono hr (Ne.symm e)) ?_ h3.1 ?_) h2
      · intro k ok hk hki hkun hno
        refine free k ok hk hki ?_ hno
        by_cases hjk : j = k
        · subst hjk; exact hjun
        · rwa [getD_set_ne true hjk] at hkun
      · rw [Array.setIfInBounds_comm _ _ e]
        exact h3.2
/-- The lexical walk, with each operation's number. -/
def wpQuietY (Y : Nat → Act → Oper → Value → Prop) (ops : Array Oper) (Q : Act → Prop) : Nat → List Oper → Act → Prop
  | _, [], a => Q a
  | k, o :: rest, a => if Region.wanted o (yielded ops a.tmps) then ∃ v, Y k a o v ∧ wpQuietY Y ops Q (k + 1) rest (a.put o.dst v) else wpQuietY Y ops Q (k + 1) rest (a.put o.dst undef)
theorem anyHeadY_lex (hk : Keeps Y) {m g : Nat} {T : Act → Prop} (hsel : Region.noSelect ops = true) (hs : sinkTail md ops n = true) (hc : Region.chainB md ops n = true) (hn : n < ops.size) (hm : m < n) (l : List Oper) :
    ∀ k seen a, (∀ j, j < l.length → l[j]? = ops[k + j]?) → k + l.length = n → HeadInv md ops n seen → seen.getD 0 false = true → (m < k → seen.getD m false = true) → Region.lexHead md ops g l.length k seen = true → wpQuietY Y ops T k l a →
    anyHeadY Y md ops n (fun seen' a' => Region.seqB md ops g n seen' = true ∧ seen'.getD m false = true ∧ T a') l.length seen a := by
  induction l with
  | nil =>
    intro k seen a _ hkn inv z zm hB h
    obtain rfl : k = n := hkn
    exact ⟨hB, zm hm, h⟩
  | cons o l ih =>
    intro k seen a hl hkl inv z zm hB h
    have h0 : ops[k]? = some o := (hl 0 (Nat.succ_pos _)).symm
    simp only [List.length_cons, Region.lexHead, Bool.and_eq_true] at hB
    have hr : k ∈ Region.ready md ops seen := by simpa using hB.1.1
    have hkn : k < n := by rw [List.length_cons] at hkl; omega
    have hq : qOpY Y ops k (wpQuietY Y ops T (k + 1) l) a := by unfold qOpY; simp only [h0]; exact h
    obtain ⟨v, hy, hK⟩ := yieldsY_of_qOp h0 hq
    refine anyHeadY_pull hk hsel hs hc hn h0 hkn (fun seen' a' hL => seqB_ready hL.1) l.length seen a inv z hr (Region.free_spec h0 hB.1.2) hy ?_
    refine ih (k + 1) _ _ (fun j hj => ?_) (by rw [List.length_cons] at hkl; omega) (inv.set hr hkn) (getD_set_true z) (fun hmk => ?_) hB.2 hK
    · have := hl (j + 1) (Nat.succ_lt_succ hj)
      rw [List.getElem?_cons_succ] at this
      rw [this, Nat.add_assoc, Nat.add_comm 1 j]
    · by_cases e : k = m
      · subst e
        have : k < seen.size := by rw [inv.size]; omega
        simp [this]
      · exact getD_set_true (zm (by omega))
/-- An operation leads from the world into the class: a value in the very world, or a call. -/
def StepTo (P : Program) (C : World → Prop) (w : World) (v : Value) (r : Result Next) : Prop :=
  (r = .ok (.value v) w ∧ C w) ∨ ∃ f args, r = .ok (.enter f args) w ∧ Calls P f args w fun e w'' => e = .returned v ∧ C w''
/-- Number m leads from the first class into the second; the others keep each. -/
def Yp (P : Program) (C0 C1 : World → Prop) (m : Nat) (i : Nat) (a : Act) (o : Oper) (v : Value) : Prop :=
  (∀ w, C0 w → StepTo P (if i = m then C1 else C0) w v ((execOp a.eval o).run P w)) ∧ ∀ w, C1 w → StepTo P C1 w v ((execOp a.eval o).run P w)
theorem Yp_keeps (C0 C1 : World → Prop) (m : Nat) : Keeps (Yp P C0 C1 m) := by
  intro i a a' o v he h
  unfold Yp at *
  rw [he]
  exact h
theorem wp_of_stepTo {C : World → Prop} {o : Oper} {a : Act} {v : Value} {K : Act → World → Prop} {Q' : Exit → Act → World → Prop} {w : World} (h : ∀ w', C w' → K (a.put o.dst v) w') (hs : StepTo P C w v ((execOp a.eval o).run P w)) : o.wp P a w K Q' := by
  unfold Oper.wp
  rcases hs with ⟨e, hc⟩ | ⟨f, args, e, hc⟩
  · rw [e]; exact h _ hc
  · rw [e]; exact hc.mono fun e w'' ⟨he, hw⟩ => by subst he; exact h _ hw
theorem anyHeadY_any {C0 C1 : World → Prop} {m g : Nat} {L : Array Bool → Act → Prop} {Q' : Exit → Act → World → Prop} (hms : m < ops.size) (hmw : ∀ o, ops[m]? = some o → o.guard = none)
    (hL : ∀ seen a w, C1 w → L seen a → wpAny P md ops Q' g seen a w) (hLm : ∀ seen a, L seen a → seen.getD m false = true) (f : Nat) :
    ∀ seen a w, seen.size = ops.size → (seen.getD m false = true → C1 w) → (seen.getD m false = false → C0 w) → anyHeadY (Yp P C0 C1 m) md ops n L f seen a → wpAny P md ops Q' (f + g) seen a w := by
  induction f with
  | zero => intro seen a w _ h1 _ h; rw [Nat.zero_add]; exact hL _ _ _ (h1 (hLm _ _ h)) h
  | succ f ih =>
    intro seen a w hsz h1 h0 h
    rw [Nat.add_right_comm]
    refine ⟨fun hr0 => ?_, fun i hi => ?_⟩
    · obtain ⟨i, hi⟩ := h.1
      rw [hr0] at hi
      cases hi
    · have hq := (h.2 i hi).2
      unfold qOpY at hq
      unfold wpOp
      split
      · rename_i ho
        have := (mem_ready.1 hi).2
        obtain ⟨_, ho', _⟩ := this
        rw [ho] at ho'; cases ho'
      · rename_i o ho
        simp only [ho] at hq
        split
        · rename_i hw
          simp only [hw, if_true] at hq
          obtain ⟨v, ⟨y0, y1⟩, hK⟩ := hq
          refine .inl ?_
          by_cases hb : seen.getD m false = true
          · refine wp_of_stepTo (C := C1) (fun w' hw' => ih _ _ _ (by simp [hsz]) (fun _ => hw') (fun k => ?_) hK) (y1 w (h1 hb))
            rw [getD_set_true hb] at k; cases k
          · have hbf : seen.getD m false = false := by simpa using hb
            by_cases e : i = m
            · subst e
              have y := y0 w (h0 hbf)
              rw [if_pos rfl] at y
              refine wp_of_stepTo (C := C1) (fun w' hw' => ih _ _ _ (by simp [hsz]) (fun _ => hw') (fun k => ?_) hK) y
              simp [hsz, hms] at k
            · have y := y0 w (h0 hbf)
              rw [if_neg e] at y
              refine wp_of_stepTo (C := C0) (fun w' hw' => ih _ _ _ (by simp [hsz]) (fun k => ?_) (fun _ => hw') hK) y
              rw [getD_set_ne false e] at k
              rw [hbf] at k; cases k
        · rename_i hw
          simp only [hw] at hq
          have hne : i ≠ m := by
            rintro rfl
            apply hw
            unfold Region.wanted
            rw [hmw o ho]
          refine ih _ _ _ (by simp [hsz]) (fun k => h1 ?_) (fun k => h0 ?_) hq
          · rwa [getD_set_ne false hne] at k
          · rwa [getD_set_ne false hne] at k
theorem wp_region_phase_tail {C0 C1 : World → Prop} {id : Nat} {Q : Exit → Act → World → Prop} {a : Act} {w : World} {o : Oper} {l : List Oper} {v : Value} (n m : Nat) (hm : P.follows .mixedOrders = true) (hB : quietTailB .any (o :: l).toArray (n + 1) = true)
    (hQ : ∀ c a w, Q (.panic c) (a.put o.dst v) w → Q (.panic c) a w) (hy : Yields P (o :: l).toArray o v a) (hm0 : 0 < m) (hmn : m < n + 1) (hmw : ∀ o', (o :: l).toArray[m]? = some o' → o'.guard = none) (h0 : C0 w.drew)
    (h : wpQuietY (Yp P C0 C1 m) (o :: l).toArray (fun a' => ∀ w', C1 w' → wpList P (o :: l).toArray Q (l.drop n) a' w') 1 (l.take n) (a.put o.dst v)) : (Code.region id (o :: l).toArray true).wp P Q a w := by
  simp only [quietTailB, Bool.and_eq_true, decide_eq_true_eq] at hB
  obtain ⟨⟨⟨⟨⟨⟨⟨hsel, _⟩, hn⟩, hs⟩, hc⟩, hf⟩, hr⟩, hlex⟩ := hB
  have hnl : n < l.length := by simpa using hn
  have ht : (l.take n).length = n := by rw [List.length_take]; omega
  have hd : (l.drop n).length = (o :: l).toArray.size - (n + 1) := by rw [List.length_drop, List.size_toArray, List.length_cons]; omega
  have inv0 : HeadInv .any (o :: l).toArray (n + 1) (Array.replicate (o :: l).toArray.size false) := by
    refine ⟨by simp, fun j oj _ hj => ?_, fun t _ hj => getD_in (by simpa using hj) (getD_replicate_false _ _)⟩
    rw [getD_replicate_false] at hj
    cases hj
  have inv := inv0.set (by simpa using hr) (Nat.succ_pos n)
  have z : ((Array.replicate (o :: l).toArray.size false).setIfInBounds 0 true).getD 0 false = true := by simp
  have H := anyHeadY_lex (Yp_keeps C0 C1 m) (m := m) (g := (o :: l).toArray.size - (n + 1)) hsel hs hc hn hmn (l.take n) 1 _ _ (fun j hj => by
    rw [ht] at hj
    rw [List.getElem?_take_of_lt hj, Nat.add_comm 1 j]
    simp) (by rw [ht, Nat.add_comm]) inv z (fun k => by omega) (by rw [ht]; exact hlex) h
  have zf : ((Array.replicate (o :: l).toArray.size false).setIfInBounds 0 true).getD m false = false := by
    rw [getD_set_ne false (by omega)]
    exact getD_replicate_false _ _
  have R := anyHeadY_any (C0 := C0) (C1 := C1) (m := m) (Q' := Q) (g := (o :: l).toArray.size - (n + 1)) (by omega) hmw (fun seen a' w' hw' hL => by
    have := wpAny_of_seq (md := .any) (Q' := Q) (l.drop n) (n + 1) seen a' w' (fun j => by rw [List.getElem?_drop, show n + 1 + j = (n + j) + 1 by omega]; simp) (by rw [hd]; exact hL.1) (hL.2.2 w' hw')
    rwa [hd] at this) (fun seen a' hL => hL.2.1) _ _ _ w.drew (by simp) (fun k => by rw [zf] at k; cases k) (fun _ => h0) H
  refine wp_region_any hm ?_
  have e : (o :: l).toArray.size = ((l.take n).length + ((o :: l).toArray.size - (n + 1))) + 1 := by
    rw [ht, List.size_toArray, List.length_cons]; omega
  have T := wpAny_take (md := .any) (oi := o) (by simp) hsel hf hr hQ hy R
  rw [← e] at T
  exact T
/-- One operation that is no call, in both classes. -/
theorem wpY_value {C0 C1 : World → Prop} {m k : Nat} {Q : Act → Prop} {o : Oper} {rest : List Oper} {a : Act} (v : Value) (hkm : k ≠ m) (hg : o.guard = none) (h : ∀ w, C0 w ∨ C1 w → (execOp a.eval o).run P w = .ok (.value v) w)
    (hn : wpQuietY (Yp P C0 C1 m) ops Q (k + 1) rest (a.put o.dst v)) : wpQuietY (Yp P C0 C1 m) ops Q k (o :: rest) a := by
  have hw : Region.wanted o (yielded ops a.tmps) = true := by unfold Region.wanted; rw [hg]
  unfold wpQuietY
  rw [if_pos hw]
  refine ⟨v, ⟨fun w hc => ?_, fun w hc => .inl ⟨h w (.inr hc), hc⟩⟩, hn⟩
  rw [if_neg hkm]
  exact .inl ⟨h w (.inl hc), hc⟩
/-- A call that keeps each class. -/
theorem wpY_call {C0 C1 : World → Prop} {m k : Nat} {Q : Act → Prop} {o : Oper} {rest : List Oper} {a : Act} (v : Value) (f : FuncId) (args : Array Value) (hkm : k ≠ m) (hg : o.guard = none) (h : ∀ w, (execOp a.eval o).run P w = .ok (.enter f args) w)
    (c0 : ∀ w, C0 w → Calls P f args w fun e w'' => e = .returned v ∧ C0 w'') (c1 : ∀ w, C1 w → Calls P f args w fun e w'' => e = .returned v ∧ C1 w'')
    (hn : wpQuietY (Yp P C0 C1 m) ops Q (k + 1) rest (a.put o.dst v)) : wpQuietY (Yp P C0 C1 m) ops Q k (o :: rest) a := by
  have hw : Region.wanted o (yielded ops a.tmps) = true := by unfold Region.wanted; rw [hg]
  unfold wpQuietY
  rw [if_pos hw]
  refine ⟨v, ⟨fun w hc => ?_, fun w hc => .inr ⟨f, args, h w, c1 w hc⟩⟩, hn⟩
  rw [if_neg hkm]
  exact .inr ⟨f, args, h w, c0 w hc⟩
/-- The call that leads from the first class into the second. -/
theorem wpY_turn {C0 C1 : World → Prop} {m : Nat} {Q : Act → Prop} {o : Oper} {rest : List Oper} {a : Act} (v : Value) (f : FuncId) (args : Array Value) (hg : o.guard = none) (h : ∀ w, (execOp a.eval o).run P w = .ok (.enter f args) w)
    (c0 : ∀ w, C0 w → Calls P f args w fun e w'' => e = .returned v ∧ C1 w'') (c1 : ∀ w, C1 w → Calls P f args w fun e w'' => e = .returned v ∧ C1 w'')
    (hn : wpQuietY (Yp P C0 C1 m) ops Q (m + 1) rest (a.put o.dst v)) : wpQuietY (Yp P C0 C1 m) ops Q m (o :: rest) a := by
  have hw : Region.wanted o (yielded ops a.tmps) = true := by unfold Region.wanted; rw [hg]
  unfold wpQuietY
  rw [if_pos hw]
  refine ⟨v, ⟨fun w hc => ?_, fun w hc => .inr ⟨f, args, h w, c1 w hc⟩⟩, hn⟩
  rw [if_pos rfl]
  exact .inr ⟨f, args, h w, c0 w hc⟩
theorem wpY_nil {Q : Act → Prop} {k : Nat} {a : Act} (h : Q a) : wpQuietY Y ops Q k [] a := h
end
end Go.Proofs.YtamiacmnobklaaaGreatDoor

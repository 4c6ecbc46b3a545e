/- A region that draws its order whose last operation writes a cell that the region loads: what is loaded must hold ahead of that last operation alone. The loads are taken first, in the order that the walk likes. Of no program. -/
import Derived.OrdersHeld
import Derived.RegionTactic
import Derived.StillTail
set_option linter.unusedVariables false
namespace Go.Proofs.YtamiacmnobklaaaGreatDoor
section
variable {P : Program} {ops : Array Oper} {md : Region.Mode} {Q : Exit → Act → World → Prop} {S : World → Prop} {n : Nat}

/-- Whatever comes up, what is held is shown anew behind it, the last one aside. -/
def anyLast (P : Program) (md : Region.Mode) (ops : Array Oper) (Q : Exit → Act → World → Prop) (S : World → Prop) (n : Nat) : Nat → Array Bool → Act → World → Prop
  | 0, seen, a, w => Region.ready md ops seen = [] ∧ Q .normal a w
  | f + 1, seen, a, w => (Region.ready md ops seen = [] → Q .normal a w) ∧ ∀ i ∈ Region.ready md ops seen, wpOp P ops Q i (fun a' w' => (i = n ∨ S w') ∧ anyLast P md ops Q S n f (seen.setIfInBounds i true) a' w') a w
theorem anyLast_any (f : Nat) : ∀ seen a w, anyLast P md ops Q S n f seen a w → wpAny P md ops Q f seen a w := by
  induction f with
  | zero => exact fun _ _ _ h => h
  | succ f ih => exact fun _ _ _ h => ⟨h.1, fun i hi => wpOp_mono (fun a' w' h' => ih _ a' w' h'.2) (h.2 i hi)⟩
def lastB (md : Region.Mode) (ops : Array Oper) (n : Nat) : Bool := Region.noSelect ops && decide (n + 1 = ops.size) && Region.sinkB md ops n && Region.chainB md ops n
theorem lastB_spec (h : lastB md ops n = true) : Region.noSelect ops = true ∧ n + 1 = ops.size ∧ Region.sinkB md ops n = true ∧ Region.chainB md ops n = true := by
  unfold lastB at h
  simp only [Bool.and_eq_true, decide_eq_true_eq] at h
  exact ⟨h.1.1.1, h.1.1.2, h.1.2, h.2⟩
/-- One that may come up now, and yields its value in every world that holds, may be taken first. -/
theorem anyLast_pull {i : Nat} {oi : Oper} {v : Value} (hB : lastB md ops n = true) (hi : ops[i]? = some oi) (hin : i < n) (hQ : ∀ c a w, Q (.panic c) (a.put oi.dst v) w → Q (.panic c) a w) (f : Nat) :
    ∀ seen a w, HeadInv md ops n seen → i ∈ Region.ready md ops seen →
      (∀ j oj, ops[j]? = some oj → j ≠ i → seen.getD j true = false → (∀ e ∈ oj.after, Region.binds md e = true → e.on ≠ i) → oi.apart ops oj = true) →
      YieldsIf P ops S oi v a → S w → anyLast P md ops Q S n f (seen.setIfInBounds i true) (a.put oi.dst v) w → anyLast P md ops Q S n (f + 1) seen a w := by
  obtain ⟨hsel, hsz, hs, hc⟩ := lastB_spec hB
  have late : ∀ {seen : Array Bool}, HeadInv md ops n seen → i ∈ Region.ready md ops seen → ∀ j ∈ Region.ready md ops seen, j < n := fun {seen} inv hr j hj =>
    Nat.lt_of_not_le fun h => tail_waits hs hc (by omega) inv _ i rfl hin (mem_ready.1 hr).1 j h hj
  induction f with
  | zero =>
    intro seen a w inv hr free hy hS H
    refine ⟨fun h => (by rw [h] at hr; cases hr), fun j hj => ?_⟩
    by_cases e : j = i
    · subst e; exact hy.wpOp hi hS ⟨.inr hS, H⟩
    · have := ready_mono hj e
      rw [H.1] at this
      cases this
  | succ f ih =>
    intro seen a w inv hr free hy hS H
    refine ⟨fun h => (by rw [h] at hr; cases hr), fun j hj => ?_⟩
    have hjn := late inv hr j hj
    have hun := (mem_ready.1 hr).1
    by_cases e : j = i
    · subst e; exact hy.wpOp hi hS ⟨.inr hS, H⟩
    · obtain ⟨hjun, oj, hoj, hall⟩ := mem_ready.1 hj
      have away : ∀ d ∈ oj.after, Region.binds md d = true → d.on ≠ i := by
        intro d hd hb he
        have h1 := hall d hd hb
        rw [he, getD_both hun] at h1
        cases h1
      have h2 := wpOp_putIf hoj (free j oj hoj e hjun away) (fun cs b => Region.noSelect_spec hsel i oi cs b hi) (fun cs b => Region.noSelect_spec hsel j oj cs b hoj) hQ hy (H.2 j (ready_mono hj e))
      refine wpOp_mono (fun a' w' h3 => ?_) h2
      have hS' : S w' := h3.2.1.resolve_left (by omega)
      refine ⟨.inr hS', ih _ a' w' (inv.set hj hjn) (ready_mono hr (Ne.symm e)) ?_ h3.1 hS' ?_⟩
      · intro k ok hk hki hkun hno
        refine free k ok hk hki ?_ hno
        by_cases hjk : j = k
        · subst hjk; exact hjun
        · rwa [getD_set_ne true hjk] at hkun
      · rw [Array.setIfInBounds_comm _ _ e]
        exact h3.2.2
/-- The walk's goal. -/
def Last (P : Program) (md : Region.Mode) (ops : Array Oper) (Q : Exit → Act → World → Prop) (S : World → Prop) (n f : Nat) (seen : Array Bool) (a : Act) (w : World) : Prop := HeadInv md ops n seen → anyLast P md ops Q S n f seen a w
/-- Number i is taken first. -/
theorem last_take {i f : Nat} {oi : Oper} {v : Value} {seen : Array Bool} {a : Act} {w : World} (hi : ops[i]? = some oi) (hB : lastB md ops n = true) (hin : decide (i < n) = true) (hf : Region.free md ops seen i = true) (hr : (Region.ready md ops seen).contains i = true)
    (hQ : ∀ c a w, Q (.panic c) (a.put oi.dst v) w → Q (.panic c) a w) (hy : YieldsIf P ops S oi v a) (hS : S w) (h : Last P md ops Q S n f (seen.setIfInBounds i true) (a.put oi.dst v) w) : Last P md ops Q S n (f + 1) seen a w := fun inv => by
  have hr' : i ∈ Region.ready md ops seen := by simpa using hr
  have hin' : i < n := of_decide_eq_true hin
  exact anyLast_pull hB hi hin' hQ f seen a w inv hr' (Region.free_spec hi hf) hy hS (h (inv.set hr' hin'))
/-- Number i alone may come up. -/
theorem last_one {i f : Nat} {o : Oper} {seen : Array Bool} {a : Act} {w : World} (hi : ops[i]? = some o) (hin : decide (i < n) = true) (hr : Region.ready md ops seen = [i])
    (h : ∀ K : Act → World → Prop, (∀ a w, S w → Last P md ops Q S n f (seen.setIfInBounds i true) a w → K a w) → if Region.wanted o (yielded ops a.tmps) = true then Oper.wp P o a w K Q else K (a.put o.dst undef) w) : Last P md ops Q S n (f + 1) seen a w := fun inv => by
  have hin' : i < n := of_decide_eq_true hin
  have hri : i ∈ Region.ready md ops seen := by rw [hr]; simp
  refine ⟨fun h0 => (by rw [hr] at h0; cases h0), fun j hj => ?_⟩
  rw [hr, List.mem_singleton] at hj
  subst hj
  exact wpOp_step hi (fun K hK => h K (fun a w hS hL => hK a w ⟨.inr hS, hL (inv.set hri hin')⟩))
/-- The last one. -/
theorem last_last {f : Nat} {o : Oper} {seen : Array Bool} {a : Act} {w : World} (hi : ops[n]? = some o) (hr : Region.ready md ops seen = [n]) (hr2 : Region.ready md ops (seen.setIfInBounds n true) = [])
    (h : ∀ K : Act → World → Prop, (∀ a w, Q .normal a w → K a w) → if Region.wanted o (yielded ops a.tmps) = true then Oper.wp P o a w K Q else K (a.put o.dst undef) w) : Last P md ops Q S n (f + 1) seen a w := fun inv => by
  refine ⟨fun h0 => (by rw [hr] at h0; cases h0), fun j hj => ?_⟩
  rw [hr, List.mem_singleton] at hj
  subst hj
  refine wpOp_step hi (fun K hK => h K (fun a w hq => hK a w ⟨.inl rfl, ?_⟩))
  cases f with
  | zero => exact ⟨hr2, hq⟩
  | succ f => exact ⟨fun _ => hq, fun k hk => (by rw [hr2] at hk; cases hk)⟩
/-- The beginning. -/
theorem wp_region_last {id : Nat} {a : Act} {w : World} (n : Nat) (hm : P.follows .mixedOrders = true) (hB : lastB .any ops n = true) (h : Last P .any ops Q S n ops.size (Array.replicate ops.size false) a w.drew) : (Code.region id ops true).wp P Q a w := by
  have inv0 : HeadInv .any ops n (Array.replicate ops.size false) := by
    refine ⟨by simp, fun j oj _ hj => ?_, fun t _ ht => getD_in (by simpa using ht) (getD_replicate_false _ _)⟩
    rw [getD_replicate_false] at hj
    cases hj
  exact wp_region_any hm (anyLast_any _ _ _ _ (h inv0))
end
end Go.Proofs.YtamiacmnobklaaaGreatDoor

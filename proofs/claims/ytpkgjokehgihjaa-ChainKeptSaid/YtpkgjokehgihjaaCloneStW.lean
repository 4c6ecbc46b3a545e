/- A list of steps appended whole to an empty list of the call's own: a clone. Of no program. -/
import Derived.Test.YtpkgjokehgihjaaDelX
import Derived.Test.YtpkgjokehgihjaaGen
import Derived.Test.YtpkgjokehgihjaaProg
import Derived.Test.YtpkgjokehgihjaaRollMath
import Derived.Test.YtpkgjokehgihjaaRowKeep
import Derived.Test.YtpkgjokehgihjaaSignMath
import Derived.Deep.AppendSrc
import Derived.Deep.Upon
import Derived.OpenShut
import Derived.ProofKit
import Derived.ShutString
import Derived.SizedLaws
import Derived.SliceStrings
set_option linter.unusedVariables false
namespace Go.Proofs.Ytpkgjokehgihjaa
open Go.RowKit

theorem flat_at (l : List DSt) (j : Nat) (u : Value) (h : (flatC l)[j]? = some u) : ∃ (i : Nat) (hi : i < l.length), (j = i * 3 ∧ u = .int .i64 l[i].pos) ∨ (j = i * 3 + 1 ∧ u = .int .i64 l[i].len) ∨ (j = i * 3 + 2 ∧ u = .string ⟨l[i].txt.toArray⟩) := by
  have hj : j < l.length * 3 := by
    rw [← flat_len]
    exact (List.getElem?_eq_some_iff.1 h).1
  have hi : j / 3 < l.length := by omega
  obtain ⟨h0, h1, h2⟩ := flat_get l (j / 3) hi
  refine ⟨j / 3, hi, ?_⟩
  have : j = j / 3 * 3 ∨ j = j / 3 * 3 + 1 ∨ j = j / 3 * 3 + 2 := by omega
  rcases this with e | e | e
  · left; refine ⟨e, ?_⟩; rw [e, h0] at h; exact (Option.some.inj h).symm
  · right; left; refine ⟨e, ?_⟩; rw [e, h1] at h; exact (Option.some.inj h).symm
  · right; right; refine ⟨e, ?_⟩; rw [e, h2] at h; exact (Option.some.inj h).symm
section
variable {P : Program}
theorem append_clone {w0 : World} {ops : Array Oper} {rest : List Oper} {o : Oper} {a : Act} {Q : Exit → Act → World → Prop} (hgd : o.guard = none) (s x : Operand) (t : TypeId) (z : Value)
    (ho : o.op = .call { callee := .builtin .append, args := #[s, x], argTypes := #[t, t] }) (ht : P.underlying t = some (.slice 61))
    (hinfo : (P.info? 61).map (fun i => (i.zero, i.size, i.bytes)) = some (some z, 3, 32)) (hz : z.cells.size = 3)
    (N : Nat → Prop) (v : Value) (ys : List DSt) (hs : a.eval s = .slice (some ⟨w0.heap.size, 0, none⟩) 0 0) (hx : a.eval x = v) (hr : RowS N w0 v ys) (hlen : ys.length ≤ 2000000)
    (h : ∀ v' w', OwnS w' w0.heap.size v' ys → Below w0.heap.size w0 w' → wpList P ops Q rest (a.put o.dst v') w') :
    wpList P ops Q (o :: rest) a (w0.alloc (.cells #[] 61)) := by
  obtain ⟨i0, hi, hz0, hz1, hz2⟩ := info_parts hinfo
  have hb := below_self_alloc w0 (.cells #[] 61 (0, 0))
  have hg := heap_alloc_new w0 (.cells #[] 61 (0, 0))
  have hown : OwnS (w0.alloc (.cells #[] 61 (0, 0))) w0.heap.size (.slice (some ⟨w0.heap.size, 0, none⟩) 0 0) [] :=
    ⟨rfl, .inr ⟨w0.heap.size, 0, #[], rfl, Nat.le_refl _, hg, Nat.le_refl _, by unfold maxLen; omega, rfl, rfl⟩⟩
  have hr1 := hr.keep hb
  rcases Nat.eq_zero_or_pos ys.length with h0 | h0
  · obtain rfl : ys = [] := List.eq_nil_of_length_eq_zero h0
    obtain ⟨ad, c, rfl⟩ := hr.slice
    have hsrc : Src P i0.size t (.slice ad 0 c) 0 [] (w0.alloc (.cells #[] 61 (0, 0))) := by
      rcases ad with _ | ad
      · exact Src.ofNil _ ht c
      · exact Src.ofSlice _ ht ad 0 c [] (by simp) (by simp) (by simp)
    have hrun := run_append_nothing (P := P) (w0.alloc (.cells #[] 61 (0, 0))) t t o.type 61 i0 ht hi (some ⟨w0.heap.size, 0, none⟩) 0 0 (Nat.le_refl _) (.slice ad 0 c) hsrc
    refine wpList_plain hgd fun K hK' => ?_
    unfold Oper.wp
    simp [execOp, ho, resolve, invoke, builtin, hs, hx, hrun, Result.andThen]
    exact hK' _ _ (h _ _ hown hb)
  · obtain ⟨g, of, c, rfl, _, _⟩ := hr1.at h0
    refine wpList_append_own_at _ hgd s x t ho w0.heap.size _ i0 z 3 32 ht hi hz0 hz1 hz2 hz (by decide) _ 0 [] hs hown ⟨g, of, none⟩ ys.length c (flatC ys) hx (flat_len ys) ?_ ?_ (by unfold maxLen; omega) (by omega) hb.size ?_
    · intro j u hj
      obtain ⟨i, hi', hc⟩ := flat_at ys j u hj
      obtain ⟨g', o', c', hv, _, hst⟩ := hr1.at hi'
      injection hv with hv1 _ _
      injection hv1 with hv1
      injection hv1 with e1 e2
      subst e1
      subst e2
      have ea : ∀ k, (⟨g, of, none⟩ : Addr).add k = ⟨g, of + k, none⟩ := fun k => by unfold Addr.add; split <;> simp_all
      rw [ea]
      rcases hc with ⟨rfl, rfl⟩ | ⟨rfl, rfl⟩ | ⟨rfl, rfl⟩
      · exact hst.c0
      · rw [← Nat.add_assoc]; exact hst.c1
      · rw [← Nat.add_assoc]; exact hst.c2
    · intro u hu
      obtain ⟨j, hj, rfl⟩ := List.getElem_of_mem hu
      obtain ⟨i, hi', hc⟩ := flat_at ys j _ (List.getElem?_eq_getElem hj)
      rcases hc with ⟨_, e⟩ | ⟨_, e⟩ | ⟨_, e⟩ <;> rw [e] <;> rfl
    · intro v' w' hown' hgr _ hat
      rw [Nat.zero_add, List.nil_append] at hown'
      exact h v' w' hown' (hb.grown hgr hb.size (fun k hk => by simp [Value.ownBlock] at hk; omega))
end
end Go.Proofs.Ytpkgjokehgihjaa

/- 'append([]T{}, l...)' of a list of structs: a copy of the call's own. -/
import Derived.Test.YtkfkfpfnpfpkaaaDoorFrame
import Derived.Test.YtkfkfpfnpfpkaaaDoorGen
import Derived.Test.YtkfkfpfnpfpkaaaDoorRowN
import Derived.Laws.AppendOwnNone
import Derived.Laws.OwnMore
set_option linter.unusedVariables false
namespace Go.Proofs.YtkfkfpfnpfpkaaaDoor
open Go.RowKit

section
variable {α : Type} {enc : α → List Value} {k : Nat} {P : Program}
theorem run_append_owned_none' (w : World) (base : Nat) (t ty e : TypeId) (i : TypeInfo) (size : Nat) (ht : P.underlying t = some (.slice e)) (hi : P.info? e = some i)
    (v : Value) (n : Nat) (xs : List Value) (hown : w.ownsRow base e size v n xs) (c : Nat) :
    (Builtin.append_ #[t, t] ty #[v, .slice none 0 c]).run P w = .ok v w := by
  rcases hown.2 with ⟨rfl, rfl⟩ | ⟨g, cap, cur, rfl, _, _, hnc, _⟩
  · simp [Builtin.append_, run_underlying ht, sizeOf, typeInfo, hi, Builtin.lenOf, Builtin.firstCells]
  · simp [Builtin.append_, run_underlying ht, sizeOf, typeInfo, hi, Builtin.lenOf, Builtin.firstCells, hnc, storeCells]
theorem wpList_append_own_none' {w : World} {ops : Array Oper} {rest : List Oper} {o : Oper} {a : Act} {Q : Exit → Act → World → Prop} (hgd : o.guard = none) (s x : Operand) (t : TypeId)
    (ho : o.op = .call { callee := .builtin .append, args := #[s, x], argTypes := #[t, t] })
    (base : Nat) (e : TypeId) (i : TypeInfo) (size : Nat) (ht : P.underlying t = some (.slice e)) (hi : P.info? e = some i)
    (v : Value) (n : Nat) (xs : List Value) (hs : a.eval s = v) (hown : w.ownsRow base e size v n xs) (c : Nat) (hx : a.eval x = .slice none 0 c)
    (h : wpList P ops Q rest (a.put o.dst v) w) : wpList P ops Q (o :: rest) a w := by
  refine wpList_plain hgd fun K hK => ?_
  have hrun := run_append_owned_none' (P := P) w base t o.type e i size ht hi v n xs hown c
  unfold Oper.wp
  simp [execOp, ho, resolve, invoke, builtin, hs, hx, hrun, Result.andThen]
  exact hK _ _ h
/-- A list behind one of the call's own. -/
theorem append_list {w : World} {ops : Array Oper} {rest : List Oper} {o : Oper} {a : Act} {Q : Exit → Act → World → Prop} (hgd : o.guard = none) (s x : Operand) (t e : TypeId) (z : Value) (bytes : Nat)
    (ho : o.op = .call { callee := .builtin .append, args := #[s, x], argTypes := #[t, t] }) (ht : P.underlying t = some (.slice e))
    (hinfo : (P.info? e).map (fun i => (i.zero, i.size, i.bytes)) = some (some z, k, bytes)) (hz : z.cells.size = k) (hk : 0 < k) (hE : EncN enc k)
    (base : Nat) (v : Value) (l : List α) (hs : a.eval s = v) (hown : OwnN enc k w base e v l)
    (u : Value) (m : List α) (N : Nat → Prop) (hx : a.eval x = u) (hrow : RowN enc k N w u m)
    (hlen : (l.length + m.length) * bytes ≤ 140737488355328) (hlen2 : l.length + m.length ≤ maxLen) (hbase : base ≤ w.heap.size)
    (h : ∀ v' w', OwnN enc k w' base e v' (l ++ m) → TurnN base w v w' v' → wpList P ops Q rest (a.put o.dst v') w') :
    wpList P ops Q (o :: rest) a w := by
  obtain ⟨i0, hi, hz0, hz1, hz2⟩ := info_parts hinfo
  have key : ∀ (ad : Addr) (c : Nat), u = .slice (some ad) m.length c → (∀ j y, (flatN enc m)[j]? = some y → w.cell? (ad.add j) = some y) → wpList P ops Q (o :: rest) a w := by
    intro ad c hu hcells
    subst hu
    refine wpList_append_own_at _ hgd s x t ho base _ i0 z k bytes ht hi hz0 hz1 hz2 hz hk v l.length (flatN enc l) hs hown ad m.length c (flatN enc m) hx (flatN_len hE m) hcells ?_ hlen2 hlen hbase ?_
    · intro y hy
      unfold flatN at hy
      rw [List.mem_flatten] at hy
      obtain ⟨p, hp, hy⟩ := hy
      rw [List.mem_map] at hp
      obtain ⟨q, _, rfl⟩ := hp
      exact hE.one q y hy
    · intro v' w' hown' hg _ hat
      refine h v' w' ?_ ⟨(Below.refl base w).grown hg hbase (fun k hk => (World.ownsRow.lt hown k hk).1), ⟨hg.os, hg.tape, hg.output, hg.size, fun k hk hm => hg.block k hk (fun he => hm he.symm)⟩, fun g' hg' => ?_⟩
      · unfold OwnN
        rw [flatN_append, List.length_append]
        exact hown'
      · rcases hat with h | h
        · exact .inl (by rw [← h]; exact hg')
        · right
          rw [hg'] at h
          simp at h
          omega
  rcases hrow.cases with ⟨rfl, ad, c, rfl⟩ | ⟨g, o', c, rfl, hl, _, hel⟩
  · cases ad with
    | none =>
      refine wpList_append_own_none' hgd s x t ho base e i0 k ht hi v l.length (flatN enc l) hs hown c hx ?_
      refine h v w ?_ (TurnN.refl _ _ _)
      rw [List.append_nil]
      exact hown
    | some ad => exact key ad c rfl (fun j y hj => by simp [flatN] at hj)
  · refine key ⟨g, o', none⟩ c rfl (fun j y hj => ?_)
    have hj2 : j < m.length * k := by
      rw [← flatN_len hE m]
      exact (List.getElem?_eq_some_iff.1 hj).1
    have hd : j / k < m.length := by rw [Nat.div_lt_iff_lt_mul hk]; exact hj2
    have hm := Nat.div_add_mod j k
    have hr := Nat.mod_lt j hk
    have e1 : j / k * k + j % k = j := by rw [Nat.mul_comm]; exact hm
    have := flatN_get hE m (j / k) hd (j % k) hr
    rw [e1, hj] at this
    have hc := hel (j / k) hd (j % k) y this.symm
    rw [show (⟨g, o', none⟩ : Addr).add j = ⟨g, o' + j, none⟩ by unfold Addr.add; split <;> simp_all]
    rw [show o' + j / k * k + j % k = o' + j by omega] at hc
    exact hc
end
end Go.Proofs.YtkfkfpfnpfpkaaaDoor

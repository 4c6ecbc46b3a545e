/- Inside a fence: a struct behind others of the call's own (XRowN's laws). Of no program. -/
import Derived.Test.YtgejocceegadhaaFrame
import Derived.Test.YtgejocceegadhaaGen
import Derived.Test.YtgejocceegadhaaOwnL
import Derived.Test.YtgejocceegadhaaRowN
import Derived.Maps.OwnIn
set_option linter.unusedVariables false
namespace Go.Proofs.Ytgejocceegadhaa
open Go.RowKit

section
variable {α : Type} {enc : α → List Value} {k : Nat} {P : Program}
/-- A struct that lies elsewhere, behind others of the call's own. -/
theorem append_elIn {F : Fence} {nF : Nat} {w w0 : World} {ops : Array Oper} {rest : List Oper} {o : Oper} {a : Act} {Q : Exit → Act → World → Prop} (hgd : o.guard = none) (s x : Operand) (t e : TypeId) (z : Value) (bytes : Nat)
    (ho : o.op = .call { callee := .builtin .append, args := #[s, x], argTypes := #[t, t] }) (ht : P.underlying t = some (.slice e))
    (hinfo : (P.info? e).map (fun i => (i.zero, i.size, i.bytes)) = some (some z, k, bytes)) (hz : z.cells.size = k) (hk : 0 < k) (hE : EncN enc k)
    (base : Nat) (v : Value) (l : List α) (y : α) (g : Nat) (hs : a.eval s = v) (hown : OwnN enc k w0 base e v l) (hx : a.eval x = .slice (some ⟨g, 0, none⟩) 1 1) (hy : ElAt enc w g 0 y)
    (hw : Below w0.heap.size w0 w) (hlen : (l.length + 1) * bytes ≤ 140737488355328) (hlen2 : l.length + 1 ≤ maxLen) (hbase : base ≤ w0.heap.size)
    (h : ∀ v' w', OwnN enc k w' base e v' (l ++ [y]) → TurnN base w0 v w' v' → wpListIn F nF P ops Q rest (a.put o.dst v') w') :
    wpListIn F nF P ops Q (o :: rest) a w := by
  obtain ⟨i0, hi, hz0, hz1, hz2⟩ := info_parts hinfo
  have hown1 := hown.new hw
  have hsz := hw.size
  refine wpListIn_append_own_at _ hgd s x t ho base _ i0 z k bytes ht hi hz0 hz1 hz2 hz hk v l.length (flatN enc l) hs hown1 ⟨g, 0, none⟩ 1 1 (enc y) hx (by rw [hE.len, Nat.one_mul]) ?_ (hE.one y) hlen2 hlen (by omega) ?_
  · intro j u hj
    rw [addr_add0]
    have := hy j u hj
    rwa [Nat.zero_add] at this
  · intro v' w' hown' hg _ hat
    have hb1 : Below base w0 w := hw.mono hbase
    refine h v' w' ?_ ⟨hb1.grown hg (by omega) (fun k hk => (World.ownsRow.lt hown1 k hk).1), ?_, fun g' hg' => ?_⟩
    · unfold OwnN
      rw [flatN_append, List.length_append, flatN_one]
      exact hown'
    · have k1 : Kept (fun k => v.ownBlock = some k) w0 w := Kept.new hw _
      exact k1.trans ⟨hg.os, hg.tape, hg.output, hg.size, fun k hk hm => hg.block k hk (fun he => hm he.symm)⟩
    · rcases hat with h | h
      · exact .inl (by rw [← h]; exact hg')
      · right
        rw [hg'] at h
        simp at h
        omega
/-- One that was built just now, behind others of the call's own. -/
theorem append_newIn {F : Fence} {nF : Nat} {w : World} {ops : Array Oper} {rest : List Oper} {o : Oper} {a : Act} {Q : Exit → Act → World → Prop} (hgd : o.guard = none) (s x : Operand) (t e : TypeId) (z : Value) (bytes : Nat)
    (ho : o.op = .call { callee := .builtin .append, args := #[s, x], argTypes := #[t, t] }) (ht : P.underlying t = some (.slice e))
    (hinfo : (P.info? e).map (fun i => (i.zero, i.size, i.bytes)) = some (some z, k, bytes)) (hz : z.cells.size = k) (hk : 0 < k) (hE : EncN enc k)
    (base : Nat) (v : Value) (l : List α) (y : α) (hs : a.eval s = v) (hown : OwnN enc k w base e v l) (hx : a.eval x = .slice (some ⟨w.heap.size, 0, none⟩) 1 1)
    (hlen : (l.length + 1) * bytes ≤ 140737488355328) (hlen2 : l.length + 1 ≤ maxLen) (hbase : base ≤ w.heap.size) (C : Array Value) (hC : C = (enc y).toArray)
    (h : ∀ v' w', OwnN enc k w' base e v' (l ++ [y]) → TurnN base w v w' v' → wpListIn F nF P ops Q rest (a.put o.dst v') w') :
    wpListIn F nF P ops Q (o :: rest) a (w.alloc (.cells C e)) := by
  subst hC
  refine append_elIn hgd s x t e z bytes ho ht hinfo hz hk hE base v l y w.heap.size hs hown hx (fun r u hu => ?_) ((Below.refl _ _).alloc (Nat.le_refl _) _) hlen hlen2 hbase h
  rw [cell_of_row _ _ _ _ _ _ (heap_alloc_new _ _), Nat.zero_add, List.getElem?_toArray]
  exact hu
end
end Go.Proofs.Ytgejocceegadhaa

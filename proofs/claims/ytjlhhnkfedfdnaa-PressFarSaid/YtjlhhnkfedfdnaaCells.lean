/- Cells of a row from a place on; a row of the call's own as cells; a copy of a row. Of no program. -/
import Derived.Test.YtjlhhnkfedfdnaaGen
import Derived.Test.YtjlhhnkfedfdnaaOwnL
import Derived.Laws.OwnMore
import Derived.OpenShut
import Derived.ProofKit
import Derived.ShutString
import Derived.SizedLaws
import Derived.SliceStrings
set_option linter.unusedVariables false
namespace Go.Proofs.Ytjlhhnkfedfdnaa
open Go.RowKit

/-- Cells of a row from a place on. -/
def CellsFrom {α : Type} (enc : α → Value) (w : World) (p o : Nat) (xs : List α) : Prop := ∀ i (h : i < xs.length), w.cell? ⟨p, o + i, none⟩ = some (enc xs[i])
theorem CellsFrom.new {α : Type} {enc : α → Value} {w w' : World} {p o B : Nat} {xs : List α} (h : CellsFrom enc w p o xs) (hp : p < B) (hb : Below B w w') : CellsFrom enc w' p o xs :=
  fun i hi => by rw [World.cell?_of_block (w := w) (hb.block p hp)]; exact h i hi
theorem CellsFrom.of_own {α : Type} {enc : α → Value} {w : World} {base : Nat} {e : TypeId} {g n cap : Nat} {xs : List α} (h : OwnL enc w base e (.slice (some ⟨g, 0, none⟩) n cap) xs) : CellsFrom enc w g 0 xs := by
  obtain ⟨a, c, he, hc⟩ := h.row
  intro i hi
  obtain ⟨b, off, rfl, _, h2⟩ := hc i hi
  injection he with e1 e2 e3
  injection e1 with e1
  injection e1 with e4 e5
  subst e4
  subst e5
  exact h2
def encB (b : UInt8) : Value := .int .u8 (b.toNat : Int)
/-- Of the call's own, and not empty: a block. -/
theorem OwnL.block {α : Type} {enc : α → Value} {w : World} {base : Nat} {e : TypeId} {v : Value} {xs : List α} (h : OwnL enc w base e v xs) (hx : xs ≠ []) : ∃ g cap, v = .slice (some ⟨g, 0, none⟩) xs.length cap ∧ base ≤ g ∧ g < w.heap.size ∧ CellsFrom enc w g 0 xs := by
  rcases h.2 with ⟨rfl, hn⟩ | ⟨g, cap, cur, rfl, hb, hg, _⟩
  · exact absurd (List.eq_nil_of_length_eq_zero hn) hx
  · exact ⟨g, cap, rfl, hb, (Array.getElem?_eq_some_iff.1 hg).1, CellsFrom.of_own h⟩
section
variable {P : Program}
/-- 'append([]T{}, xs...)': a copy of the call's own. -/
theorem append_copy {α : Type} {enc : α → Value} {w : World} {ops : Array Oper} {rest : List Oper} {o : Oper} {a : Act} {Q : Exit → Act → World → Prop} (hgd : o.guard = none) (s x : Operand) (t e : TypeId) (z : Value) (bytes : Nat)
    (ho : o.op = .call { callee := .builtin .append, args := #[s, x], argTypes := #[t, t] }) (ht : P.underlying t = some (.slice e))
    (hinfo : (P.info? e).map (fun i => (i.zero, i.size, i.bytes)) = some (some z, 1, bytes)) (hz : z.cells.size = 1)
    (base : Nat) (hs : a.eval s = .slice (some ⟨w.heap.size, 0, none⟩) 0 0) (xs : List α) (hone : ∀ y, (enc y).oneCell' = true) (p n c : Nat) (hx : a.eval x = .slice (some ⟨p, 0, none⟩) n c) (hn : xs.length = n) (hp : p < w.heap.size) (hcell : CellsFrom enc w p 0 xs)
    (hlen : n * bytes ≤ 140737488355328) (hlen2 : n ≤ maxLen) (hbase : base ≤ w.heap.size)
    (h : ∀ v' w', OwnL enc w' base e v' xs → Below base w w' → wpList P ops Q rest (a.put o.dst v') w') :
    wpList P ops Q (o :: rest) a (w.alloc (.cells #[] e)) := by
  obtain ⟨i0, hi, hz0, hz1, hz2⟩ := info_parts hinfo
  have hb0 : Below base w (w.alloc (.cells #[] e)) := (Below.refl base w).alloc hbase _
  have hc2 := hcell.new hp ((Below.refl w.heap.size w).alloc (Nat.le_refl _) (.cells #[] e))
  subst hn
  refine wpList_append_own _ hgd s x t ho base e i0 z 1 bytes ht hi hz0 hz1 hz2 hz (by decide) _ 0 [] hs (World.ownsRow_lit w #[] 0 hbase (by decide) rfl) ⟨p, 0, none⟩ xs.length c (xs.map enc) hx (by simp) ?_ ?_ (by rw [Nat.zero_add]; exact hlen2) (by rw [Nat.zero_add]; exact hlen) (by simp; omega) ?_
  · intro j u hj
    rw [List.getElem?_map] at hj
    obtain ⟨y, hy, rfl⟩ := Option.map_eq_some_iff.1 hj
    obtain ⟨hjl, rfl⟩ := List.getElem?_eq_some_iff.1 hy
    have := hc2 j hjl
    rw [show (⟨p, 0, none⟩ : Addr).add j = ⟨p, 0 + j, none⟩ by unfold Addr.add; split <;> simp_all]
    exact this
  · intro u hu
    rw [List.mem_map] at hu
    obtain ⟨y, _, rfl⟩ := hu
    exact hone y
  · intro v' w' hown hg _
    refine h v' w' ?_ (hb0.grown hg (by simp; omega) (fun k hk => ?_))
    · unfold OwnL
      simpa using hown
    · simp [Value.ownBlock] at hk
      omega
end
end Go.Proofs.Ytjlhhnkfedfdnaa

/- The walk of the law MarksApart. -/
import Derived.Test.YtifbdbblfhphjaaArgs3
import Derived.Test.YtifbdbblfhphjaaBookW
import Derived.Test.YtifbdbblfhphjaaFrame
import Derived.Test.YtifbdbblfhphjaaGen
import Derived.Test.YtifbdbblfhphjaaInfos
import Derived.Test.YtifbdbblfhphjaaMarkMath
import Derived.Test.YtifbdbblfhphjaaOwnL
import Derived.Test.YtifbdbblfhphjaaRows
import Derived.Test.YtifbdbblfhphjaaShelf
import Derived.Deep.CutBlock
import Derived.Deep.DeepCutAuto
import Derived.Deep.RegionHeld3
import Derived.IntWalk
import Derived.Laws.BitsAllLaws
import Derived.Laws.Rows
import Derived.Laws.Tables
import Derived.Lib.Hide
import Derived.Outline
import Derived.WalkKit
import Derived.WalkLawsBesides
import Derived.WalkSpells
set_option linter.unusedVariables false
namespace Go.Proofs.Ytifbdbblfhphjaa
open Go.RowKit

/-- The marks of the first so many. -/
def mL (ys : List Txt) (k : Nat) : List Txt := (ys.take k).map fun y => numM (noS (seenS ys) y)
theorem mL_length (ys : List Txt) (k : Nat) (h : k ≤ ys.length) : (mL ys k).length = k := by unfold mL; rw [List.length_map, List.length_take]; omega
theorem mL_step (ys : List Txt) (k : Nat) (h : k < ys.length) : mL ys (k + 1) = mL ys k ++ [numM (noS (seenS (ys.take k)) ys[k])] := by
  unfold mL
  rw [List.take_succ_eq_append_getElem h, List.map_append, noS_later ys k h]
  rfl
theorem own_after {w1 w2 : World} {base : Nat} {e : TypeId} {v : Value} {xs : List (List UInt8)} (h : OwnL encT w1 base e v xs) (hb : Below w1.heap.size w1 w2) : OwnL encT w2 base e v xs :=
  own_off h (Kept.of_below hb) (fun g cur hg _ hm => absurd (Array.getElem?_eq_some_iff.1 hg).1 (by omega))
/-- A map's block is no list's. -/
theorem IdealAt.no_cells {w : World} {p bm : Nat} {S : List Txt} (h : IdealAt w p bm S) {cur : Array Value} {e : TypeId} {fr : Nat × Nat} : w.heap[bm]? ≠ some (.cells cur e fr) := by
  obtain ⟨D, ⟨es, cl, hb, _⟩, _⟩ := h.map
  rw [hb]
  intro h
  cases h
theorem own_mark {w w' : World} {p bm base : Nat} {S : List Txt} {v : Value} {e : TypeId} {xs : List Txt} (h : IdealAt w p bm S) (hown : OwnL encT w base e v xs) (hk : Kept (· = bm) w w') : OwnL encT w' base e v xs :=
  own_off hown hk (fun g cur hg _ hm => by subst hm; exact h.no_cells hg)
theorem IdealAt.appended {w w' : World} {p bm base : Nat} {S : List Txt} {v : Value} {e : TypeId} {xs : List Txt} (h : IdealAt w p bm S) (hown : OwnL encT w base e v xs) (he : e ≠ 67) (hk : Kept (fun k => some k = v.ownBlock) w w') : IdealAt w' p bm S := by
  have key : ∀ g, some g = v.ownBlock → ∃ cur, w.heap[g]? = some (.cells cur e (0, 0)) := by
    intro g hg
    rcases hown.2 with ⟨rfl, _⟩ | ⟨g', cap, cur, rfl, _, hgg, _⟩
    · simp [Value.ownBlock] at hg
    · simp [Value.ownBlock] at hg
      subst hg
      exact ⟨cur, hgg⟩
  refine h.kept hk ?_ ?_
  · intro hp
    obtain ⟨cur, hcur⟩ := key p hp
    have := h.book
    unfold BookAt at this
    rw [hcur] at this
    simp at this
    exact he this.2
  · intro hp
    obtain ⟨cur, hcur⟩ := key bm hp
    exact h.no_cells hcur


/-- What holds in every world of the region that compares: four cells, and that nothing that was there has turned. -/
def Four (W0 : World) (a1 a2 a3 a4 : Addr) (x1 x2 x3 x4 : Txt) (w : World) : Prop :=
  w.cell? a1 = some (encT x1) ∧ w.cell? a2 = some (encT x2) ∧ w.cell? a3 = some (encT x3) ∧ w.cell? a4 = some (encT x4) ∧ Below W0.heap.size W0 w
theorem four_kept {W0 w1 w2 : World} {a1 a2 a3 a4 : Addr} {x1 x2 x3 x4 : Txt} (h1 : w1.cell? a1 = some (encT x1)) (h2 : w1.cell? a2 = some (encT x2)) (h3 : w1.cell? a3 = some (encT x3)) (h4 : w1.cell? a4 = some (encT x4))
    (hb : Below W0.heap.size W0 w1) (h : Below w1.heap.size w1 w2) : w2.cell? a1 = some (encT x1) ∧ w2.cell? a2 = some (encT x2) ∧ w2.cell? a3 = some (encT x3) ∧ w2.cell? a4 = some (encT x4) ∧ Below W0.heap.size W0 w2 :=
  ⟨(h.cell (World.block_lt_of_cell? w1 _ h1)).trans h1, (h.cell (World.block_lt_of_cell? w1 _ h2)).trans h2, (h.cell (World.block_lt_of_cell? w1 _ h3)).trans h3, (h.cell (World.block_lt_of_cell? w1 _ h4)).trans h4, below2 hb h⟩

end Go.Proofs.Ytifbdbblfhphjaa

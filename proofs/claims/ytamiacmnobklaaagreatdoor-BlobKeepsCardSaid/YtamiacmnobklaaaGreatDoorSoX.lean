/- Several texts in one: SortGAW, SortGBW. -/
import Derived.Test.YtamiacmnobklaaaGreatDoorGen
import Derived.Test.YtamiacmnobklaaaGreatDoorOwnL
import Derived.Test.YtamiacmnobklaaaGreatDoorProg
import Derived.Test.YtamiacmnobklaaaGreatDoorCdX
import Derived.Test.YtamiacmnobklaaaGreatDoorRowN
import Derived.Test.YtamiacmnobklaaaGreatDoorRows
import Derived.Test.YtamiacmnobklaaaGreatDoorTmX
import Derived.Test.YtamiacmnobklaaaGreatDoorTreeMath
import Derived.BigQuiet
import Derived.BigRegion
import Derived.ChangeAlike
import Derived.Deep.QuietTactic
import Derived.Lib.Hide
import Derived.OpenShut
import Derived.ProofKit
import Derived.RegionTactic
import Derived.ShutString
import Derived.SizedLaws
import Derived.SliceStrings
import Derived.WalkKit
import Derived.WalkLawsBesides
import Derived.WalkSpells
import Derived.Test.YtamiacmnobklaaaGreatDoorQuietBelow
import Derived.Shelf.Abstract
/- The library's stable sort of files, walked: swapRange, rotate. -/
set_option linter.unusedVariables false
namespace Go.Proofs.YtamiacmnobklaaaGreatDoor
open Go.RowKit

/-- n files in block g, which ones told by d. -/
def FR (F : Nat → FileD) (w : World) (g n : Nat) (d : Nat → Nat) : Prop := ∃ cs : Array Value, w.heap[g]? = some (.cells cs 80 (0, 0)) ∧ ∀ k, k < n → cs[k * 3]? = some (.string ⟨(F (d k)).path.toArray⟩) ∧ cs[k * 3 + 1]? = some (.int .i64 (F (d k)).mode) ∧ cs[k * 3 + 2]? = some (.string ⟨(F (d k)).data.toArray⟩)
section
variable {F : Nat → FileD} {w w' : World} {g n : Nat} {d : Nat → Nat}
theorem FR.c0 (h : FR F w g n d) {k : Nat} (hk : k < n) : w.cell? ⟨g, k * 3, none⟩ = some (.string ⟨(F (d k)).path.toArray⟩) := by
  obtain ⟨cs, h1, h2⟩ := h
  rw [cell_of_row _ _ _ _ _ _ h1]; exact (h2 k hk).1
theorem FR.c1 (h : FR F w g n d) {k : Nat} (hk : k < n) : w.cell? ⟨g, k * 3 + 1, none⟩ = some (.int .i64 (F (d k)).mode) := by
  obtain ⟨cs, h1, h2⟩ := h
  rw [cell_of_row _ _ _ _ _ _ h1]; exact (h2 k hk).2.1
theorem FR.c2 (h : FR F w g n d) {k : Nat} (hk : k < n) : w.cell? ⟨g, k * 3 + 2, none⟩ = some (.string ⟨(F (d k)).data.toArray⟩) := by
  obtain ⟨cs, h1, h2⟩ := h
  rw [cell_of_row _ _ _ _ _ _ h1]; exact (h2 k hk).2.2
theorem FR.free (h : FR F w g n d) (k : Nat) : w.frozen? ⟨g, k, none⟩ = false := by
  obtain ⟨cs, h1, h2⟩ := h
  exact frozen_of_row w g k _ _ h1
theorem FR.lt (h : FR F w g n d) : g < w.heap.size := by
  obtain ⟨cs, h1, h2⟩ := h
  exact (Array.getElem?_eq_some_iff.1 h1).1
theorem FR.drew (h : FR F w g n d) : FR F w.drew g n d := h
theorem FR.drewN (h : FR F w g n d) (m : Nat) : FR F (w.drewN m) g n d := h
theorem FR.new (h : FR F w g n d) (hb : Below w.heap.size w w') : FR F w' g n d := by
  have hlt := h.lt
  obtain ⟨cs, h1, h2⟩ := h
  exact ⟨cs, (hb.block g hlt).trans h1, h2⟩
theorem FR.congr (h : FR F w g n d) {e : Nat → Nat} (he : ∀ k, k < n → d k = e k) : FR F w g n e := by
  obtain ⟨cs, h1, h2⟩ := h
  exact ⟨cs, h1, fun k hk => by rw [← he k hk]; exact h2 k hk⟩
/-- A file stored into place k of block g. -/
def setF (w : World) (g k : Nat) (x : FileD) : World := ((w.setCell ⟨g, k * 3, none⟩ (.string ⟨x.path.toArray⟩)).setCell ⟨g, k * 3 + 1, none⟩ (.int .i64 x.mode)).setCell ⟨g, k * 3 + 2, none⟩ (.string ⟨x.data.toArray⟩)
theorem setF_kept (w : World) (g k : Nat) (x : FileD) : Kept (· = g) w (setF w g k x) :=
  (((Kept.refl (· = g) w).setCell (p := ⟨g, k * 3, none⟩) rfl _).setCell (p := ⟨g, k * 3 + 1, none⟩) rfl _).setCell (p := ⟨g, k * 3 + 2, none⟩) rfl _
theorem FR.set (h : FR F w g n d) {i : Nat} (hi : i < n) (v : Nat) : FR F (setF w g i (F v)) g n (fun k => if k = i then v else d k) := by
  obtain ⟨cs, h1, h2⟩ := h
  have s1 : (w.setCell ⟨g, i * 3, none⟩ (.string ⟨(F v).path.toArray⟩)).heap[g]? = some (.cells (cs.setIfInBounds (i * 3) (.string ⟨(F v).path.toArray⟩)) 80 (0, 0)) := heap_setCell_same w g (i * 3) _ _ _ h1
  have s2 : ((w.setCell ⟨g, i * 3, none⟩ (.string ⟨(F v).path.toArray⟩)).setCell ⟨g, i * 3 + 1, none⟩ (.int .i64 (F v).mode)).heap[g]? = some (.cells ((cs.setIfInBounds (i * 3) (.string ⟨(F v).path.toArray⟩)).setIfInBounds (i * 3 + 1) (.int .i64 (F v).mode)) 80 (0, 0)) := heap_setCell_same _ g (i * 3 + 1) _ _ _ s1
  have s3 : (setF w g i (F v)).heap[g]? = some (.cells (((cs.setIfInBounds (i * 3) (.string ⟨(F v).path.toArray⟩)).setIfInBounds (i * 3 + 1) (.int .i64 (F v).mode)).setIfInBounds (i * 3 + 2) (.string ⟨(F v).data.toArray⟩)) 80 (0, 0)) := heap_setCell_same _ g (i * 3 + 2) _ _ _ s2
  refine ⟨_, s3, fun k hk => ?_⟩
  have l2 : i * 3 + 2 < cs.size := (Array.getElem?_eq_some_iff.1 (h2 i hi).2.2).1
  obtain ⟨q0, q1, q2⟩ := h2 k hk
  simp only [Array.getElem?_setIfInBounds, Array.size_setIfInBounds]
  by_cases e : k = i
  · subst e
    simp only [if_pos]
    refine ⟨?_, ?_, ?_⟩
    · rw [if_neg (by omega), if_neg (by omega), if_pos (by omega)]
    · rw [if_neg (by omega), if_pos (by omega)]
    · rw [if_pos (by omega)]
  · simp only [if_neg e]
    refine ⟨?_, ?_, ?_⟩
    · rw [if_neg (by omega), if_neg (by omega), if_neg (by omega)]; exact q0
    · rw [if_neg (by omega), if_neg (by omega), if_neg (by omega)]; exact q1
    · rw [if_neg (by omega), if_neg (by omega), if_neg (by omega)]; exact q2
theorem FR.sw (h : FR F w g n d) {i j : Nat} (hi : i < n) (hj : j < n) (hij : i ≠ j) :
    FR F (setF (setF w g i (F (d j))) g j (F (d i))) g n (sw d i j) ∧ Kept (· = g) w (setF (setF w g i (F (d j))) g j (F (d i))) := by
  refine ⟨((h.set hi (d j)).set hj (d i)).congr (fun k hk => ?_), (setF_kept _ _ _ _).trans (setF_kept _ _ _ _)⟩
  unfold Go.Proofs.YtamiacmnobklaaaGreatDoor.sw
  by_cases e1 : k = j
  · rw [if_pos e1]
    by_cases e2 : k = i
    · omega
    · rw [if_neg e2, if_pos e1]
  · rw [if_neg e1]
    by_cases e2 : k = i
    · rw [if_pos e2, if_pos e2]
    · rw [if_neg e2, if_neg e2, if_neg e1]
end

end Go.Proofs.YtamiacmnobklaaaGreatDoor
/- The library's stable sort of files, walked: insertion sort of a piece. -/
set_option linter.unusedVariables false
namespace Go.Proofs.YtamiacmnobklaaaGreatDoor
open Go.RowKit

variable {F : Nat → FileD}
def aggF (x : FileD) : Value := .agg #[.string ⟨x.path.toArray⟩, .int .i64 x.mode, .string ⟨x.data.toArray⟩]
/-- What the closure tells: cv; it makes memory alone, in whatever world in which block g alone has turned. -/
def CmpF (F : Nat → FileD) (f : Nat) (cb : Array Value) (cv : Nat → Nat → Int) (N g : Nat) (w0 : World) : Prop :=
  (∀ (args : Array Value) (w : World), (callFunc f args).run Tryz.prog w = .ok (.enter f args) w) ∧
  ∀ W, Kept (· = g) w0 W → ∀ x y : Nat, x < N → y < N → Calls Tryz.prog f (#[aggF (F x), aggF (F y)] ++ cb) W fun e w' => e = .returned (.int .i64 (cv x y)) ∧ Below W.heap.size W w'
def ltOf (cv : Nat → Nat → Int) (x y : Nat) : Bool := decide (cv x y < 0)
theorem CmpF.on {f : Nat} {cb : Array Value} {cv : Nat → Nat → Int} {N g : Nat} {w0 w : World} (h : CmpF F f cb cv N g w0) (hk : Kept (· = g) w0 w) : CmpF F f cb cv N g w := ⟨h.1, fun W k => h.2 W (hk.trans k)⟩
theorem CmpF.at {f : Nat} {cb : Array Value} {cv : Nat → Nat → Int} {N g : Nat} {w0 w : World} (h : CmpF F f cb cv N g w0) (hk : Kept (· = g) w0 w) {x y : Nat} (hx : x < N) (hy : y < N) (p : BelowOf w) :
    Calls Tryz.prog f (#[.agg #[.string ⟨(F x).path.toArray⟩, .int .i64 (F x).mode, .string ⟨(F x).data.toArray⟩], .agg #[.string ⟨(F y).path.toArray⟩, .int .i64 (F y).mode, .string ⟨(F y).data.toArray⟩]] ++ cb) p.w fun e w' => e = .returned (.int .i64 (cv x y)) ∧ Below p.w.heap.size p.w w' := h.2 _ (hk.trans (Kept.new p.h _)) x y hx hy
def SortPostG (F : Nat → FileD) (lt : Nat → Nat → Bool) (d : Nat → Nat) (a b g N : Nat) (w : World) (e : Ending) (w' : World) : Prop :=
  e = .returned (.tuple #[]) ∧ ∃ d', Merged lt d a b d' ∧ FR F w' g N d' ∧ Kept (· = g) w w'

theorem Merged.perm_wide {lt : Nat → Nat → Bool} {d e : Nat → Nat} {a k b : Nat} (h : Merged lt d a k e) (h1 : a ≤ k) (h2 : k ≤ b) : (seg e a b).Perm (seg d a b) := by
  rw [seg_append e h1 h2, seg_append d h1 h2]
  have e1 : seg e k b = seg d k b := seg_congr (fun t ht _ => h.off t (.inr ht))
  rw [e1]
  exact h.perm.append_right _
theorem Merged.next {lt : Nat → Nat → Bool} {d e e' : Nat → Nat} {a k b : Nat} (h : Merged lt d a k e) (h1 : a ≤ k) (h2 : k ≤ b) (h' : Merged lt e a b e') : Merged lt d a b e' :=
  ⟨fun t ht => (h'.off t ht).trans (h.off t (by omega)), h'.perm.trans (h.perm_wide h1 h2), h'.sorted⟩

end Go.Proofs.YtamiacmnobklaaaGreatDoor

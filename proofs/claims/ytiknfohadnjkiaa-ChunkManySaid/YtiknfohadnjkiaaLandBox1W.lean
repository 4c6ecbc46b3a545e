/- The landed box (chunk): a list of places (a text, whether it is there) and two numbers; Of, Left. -/
import Derived.Test.YtiknfohadnjkiaaBoxC
import Derived.Test.YtiknfohadnjkiaaChunkFillM
import Derived.Test.YtiknfohadnjkiaaChunkMath
import Derived.Test.YtiknfohadnjkiaaFrame
import Derived.Test.YtiknfohadnjkiaaGen
import Derived.Test.YtiknfohadnjkiaaOwnL
import Derived.Test.YtiknfohadnjkiaaOwnPut
import Derived.Test.YtiknfohadnjkiaaRefBoxW
import Derived.Test.YtiknfohadnjkiaaRowN
import Derived.Test.YtiknfohadnjkiaaRows
import Derived.BigQuiet
import Derived.Deep.QuietTactic
import Derived.Deep.RegionHeld3
import Derived.Laws.OwnMore
import Derived.Laws.ResultCell
import Derived.Lib.Hide
import Derived.Outline
import Derived.WalkKit
import Derived.WalkLawsBesides
import Derived.WalkSpells
set_option linter.unusedVariables false
namespace Go.Proofs.Ytiknfohadnjkiaa
open Go.RowKit

def encPl (o : Option (List UInt8)) : List Value := [.string ⟨(o.getD []).toArray⟩, .bool o.isSome]
theorem encPl_ok : EncN encPl 2 := ⟨fun _ => rfl, fun x u hu => by simp [encPl] at hu; rcases hu with rfl | rfl <;> rfl⟩
structure BXF (w : World) (b g c : Nat) (st : BoxS) : Prop where
  box : w.heap[b]? = some (.cells #[.slice (some ⟨g, 0, none⟩) st.length c, .int .i64 (leftB st : Nat), .int .i64 ((allB st).length : Nat)] 60 (0, 0))
  pl : OwnN encPl 2 w 0 68 (.slice (some ⟨g, 0, none⟩) st.length c) st
  n1 : b ≠ g
  len : 1 ≤ st.length ∧ st.length ≤ 4096 ∧ (allB st).length ≤ 524288
def BX13 (w : World) (b : Nat) (N : Nat → Prop) (st : BoxS) : Prop := ∃ g c, BXF w b g c st ∧ ∀ i, N i ↔ i = b ∨ i = g
section
variable {w w' : World} {b g c : Nat} {st : BoxS} {M N : Nat → Prop}
theorem BXF.two (h : BXF w b g c st) (hN : ∀ i, N i ↔ i = b ∨ i = g) : BX13 w b N st := ⟨g, c, h, hN⟩
theorem BXF.kept (h : BXF w b g c st) (hk : Kept M w w') (hm : ∀ i, i = b ∨ i = g → ¬ M i) : BXF w' b g c st :=
  ⟨hk.old h.box (hm b (.inl rfl)), h.pl.kept hk (fun g0 hg => by injection hg with hg; have hg' : g = g0 := hg; rw [← hg']; exact hm _ (.inr rfl)), h.n1, h.len⟩
theorem BXF.lt (h : BXF w b g c st) : b < w.heap.size ∧ g < w.heap.size := ⟨(Array.getElem?_eq_some_iff.1 h.box).1, (h.pl.lt (g := g) rfl).2.1⟩
theorem BXF.cell (h : BXF w b g c st) :
    w.cell? ⟨b, 0, none⟩ = some (.slice (some ⟨g, 0, none⟩) st.length c) ∧ w.cell? ⟨b, 1, none⟩ = some (.int .i64 (leftB st : Nat)) ∧ w.cell? ⟨b, 2, none⟩ = some (.int .i64 ((allB st).length : Nat)) := by
  refine ⟨?_, ?_, ?_⟩
  all_goals rw [cell_of_row _ _ _ _ _ _ h.box]; rfl
/-- A list of places: the two cells of one of them. -/
theorem pl_at {xs : BoxS} {n : Nat} (h : OwnN encPl 2 w 0 68 (.slice (some ⟨g, 0, none⟩) n c) xs) {i : Nat} (hi : i < xs.length) :
    w.cell? ⟨g, i * 2, none⟩ = some (.string ⟨(xs[i].getD []).toArray⟩) ∧ w.cell? ⟨g, i * 2 + 1, none⟩ = some (.bool xs[i].isSome) ∧ w.frozen? ⟨g, i * 2, none⟩ = false ∧ w.frozen? ⟨g, i * 2 + 1, none⟩ = false := by
  obtain ⟨g', c', hv, _, _, _, hel, hfz⟩ := h.atB encPl_ok (by intro e; rw [e] at hi; simp at hi)
  injection hv with ea _ _
  injection ea with ea
  injection ea with ea1 _ _
  subst ea1
  exact ⟨hel i hi 0 _ rfl, hel i hi 1 _ rfl, hfz _, hfz _⟩
theorem BXF.at (h : BXF w b g c st) {i : Nat} (hi : i < st.length) :
    w.cell? ⟨g, i * 2, none⟩ = some (.string ⟨(st[i].getD []).toArray⟩) ∧ w.cell? ⟨g, i * 2 + 1, none⟩ = some (.bool st[i].isSome) ∧ w.frozen? ⟨g, i * 2, none⟩ = false ∧ w.frozen? ⟨g, i * 2 + 1, none⟩ = false := pl_at h.pl hi
theorem BXF.room (h : BXF w b g c st) : st.length ≤ c := by
  obtain ⟨_, _, hv, hc⟩ := (OwnN.row encPl_ok h.pl).slice
  injection hv with _ _ e
  omega
end
theorem frozen_row {w : World} {b j : Nat} {cs : Array Value} {t : TypeId} (h : w.heap[b]? = some (.cells cs t (0, 0))) : w.frozen? ⟨b, j, none⟩ = false := by
  simp [World.frozen?, h]
set_option maxRecDepth 100000 in
set_option maxHeartbeats 2000000 in
theorem of13_any {w : World} {b g c : Nat} {st : BoxS} (h : BXF w b g c st) : Calls Try.prog 15 #[.pointer (some ⟨b, 0, none⟩)] w fun e w' => e = .returned (.int .i64 (st.length : Nat)) ∧ w = w' := by
  obtain ⟨e0, e1, e2⟩ := h.cell
  have hlen := h.len
  clear h
  go_enter Try.func15, Try.ntmps15
  go_wp2_with fail
  go_ret
  exact ⟨rfl, rfl⟩
set_option maxRecDepth 100000 in
set_option maxHeartbeats 2000000 in
theorem left13_any {w : World} {b g c : Nat} {st : BoxS} (h : BXF w b g c st) : Calls Try.prog 16 #[.pointer (some ⟨b, 0, none⟩)] w fun e w' => e = .returned (.int .i64 (leftB st : Nat)) ∧ w = w' := by
  obtain ⟨e0, e1, e2⟩ := h.cell
  have hlen := h.len
  clear h
  go_enter Try.func16, Try.ntmps16
  go_wp2_with fail
  go_ret
  exact ⟨rfl, rfl⟩
end Go.Proofs.Ytiknfohadnjkiaa

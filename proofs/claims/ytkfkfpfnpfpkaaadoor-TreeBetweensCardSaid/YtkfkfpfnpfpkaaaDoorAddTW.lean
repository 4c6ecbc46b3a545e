/- Landed tree: Between's closure (one change more), walked. -/
import Derived.Test.YtkfkfpfnpfpkaaaDoorArgs3
import Derived.Test.YtkfkfpfnpfpkaaaDoorFitX
import Derived.Test.YtkfkfpfnpfpkaaaDoorFrame
import Derived.Test.YtkfkfpfnpfpkaaaDoorGen
import Derived.Test.YtkfkfpfnpfpkaaaDoorMarkMath
import Derived.Test.YtkfkfpfnpfpkaaaDoorMatchMath
import Derived.Test.YtkfkfpfnpfpkaaaDoorOwnL
import Derived.Test.YtkfkfpfnpfpkaaaDoorPickedTW
import Derived.Test.YtkfkfpfnpfpkaaaDoorPthX
import Derived.Test.YtkfkfpfnpfpkaaaDoorProg
import Derived.Test.YtkfkfpfnpfpkaaaDoorReadW
import Derived.Test.YtkfkfpfnpfpkaaaDoorRefBetW
import Derived.Test.YtkfkfpfnpfpkaaaDoorRefPatW
import Derived.Test.YtkfkfpfnpfpkaaaDoorRefRightTW
import Derived.Test.YtkfkfpfnpfpkaaaDoorRowN
import Derived.Test.YtkfkfpfnpfpkaaaDoorRows
import Derived.Test.YtkfkfpfnpfpkaaaDoorShelf
import Derived.Test.YtkfkfpfnpfpkaaaDoorSortX
import Derived.Test.YtkfkfpfnpfpkaaaDoorSortMath
import Derived.Test.YtkfkfpfnpfpkaaaDoorTreeMath
import Derived.BigQuiet
import Derived.BigRegion
import Derived.Deep.AppendLies
import Derived.Deep.Cut
import Derived.Deep.CutBlock
import Derived.Deep.CutRange
import Derived.Deep.DeepCutAuto
import Derived.Deep.QuietTactic
import Derived.Deep.RegionLaw
import Derived.Deep.Slices
import Derived.Deep.Strs
import Derived.Laws.OwnMore
import Derived.Laws.RangeAny
import Derived.Lib.Hide
import Derived.Lib.SmallJoins
import Derived.LoopTactic
import Derived.Shelf.Strings.SplitCore
import Derived.StillTail
import Derived.WalkKit
import Derived.WalkLawsBesides
import Derived.WalkSpells
set_option linter.unusedVariables false
namespace Go.Proofs.YtkfkfpfnpfpkaaaDoor
open Go.RowKit

/-- A variable of the call's own, a list of changes, in block bx. -/
def BoxC (w : World) (bx : Nat) (V : Value) : Prop := w.heap[bx]? = some (.cells #[V] 52 (0, 0))
theorem BoxC.cell {w : World} {bx : Nat} {V : Value} (h : BoxC w bx V) : w.cell? ⟨bx, 0, none⟩ = some V := by rw [cell_of_row _ _ _ _ _ _ h]; rfl
theorem BoxC.free {w : World} {bx : Nat} {V : Value} (h : BoxC w bx V) : w.frozen? ⟨bx, 0, none⟩ = false := frozen_of_row _ _ _ _ _ h
theorem BoxC.lt {w : World} {bx : Nat} {V : Value} (h : BoxC w bx V) : bx < w.heap.size := (Array.getElem?_eq_some_iff.1 h).1
theorem BoxC.new {w w' : World} {bx : Nat} {V : Value} (h : BoxC w bx V) (hb : Below w.heap.size w w') : BoxC w' bx V := (hb.block bx h.lt).trans h
theorem BoxC.set {w : World} {bx : Nat} {V U : Value} (h : BoxC w bx V) : BoxC (w.setCell ⟨bx, 0, none⟩ U) bx U := heap_setCell_same w bx 0 _ _ _ h
theorem BoxC.turn {w w' : World} {bx base : Nat} {V v v' : Value} {xs : List ChgD} (h : BoxC w bx V) (hown : OwnN encG 2 w base 56 v xs) (ht : TurnN base w v w' v') : BoxC w' bx V := by
  refine (ht.kept.block bx h.lt (fun e => ?_)).trans h
  obtain ⟨_, _, cur, hg⟩ := OwnN.lt hown e
  rw [show w.heap[bx]? = _ from h] at hg
  injection hg with hg
  injection hg with _ hg _
  exact absurd hg (by decide)
theorem OwnN.boxed {w : World} {base bx : Nat} {V U v : Value} {xs : List ChgD} (h : OwnN encG 2 w base 56 v xs) (hb : BoxC w bx V) : OwnN encG 2 (w.setCell ⟨bx, 0, none⟩ U) base 56 v xs := by
  refine own_off h ((Kept.refl (· = bx) w).setCell (p := ⟨bx, 0, none⟩) rfl U) (fun g cur hg _ e => ?_)
  have e' : g = bx := e
  subst e'
  rw [show w.heap[g]? = _ from hb] at hg
  injection hg with hg
  injection hg with _ hg _
  exact absurd hg (by decide)
theorem chg_zero : (Value.agg #[.int .i64 0, .string ByteArray.empty]).cells.size = 2 := rfl
/-- One that was built just now, behind others of the call's own, as a step of a region that draws. -/
theorem step_new {α : Type} {enc : α → List Value} {k : Nat} {P : Program} {w : World} {ops : Array Oper} {o : Oper} {a : Act} {K : Act → World → Prop} {Q : Exit → Act → World → Prop} {E : Prop} (hgd : o.guard = none) (s x : Operand) (t e : TypeId) (z : Value) (bytes : Nat)
    (ho : o.op = .call { callee := .builtin .append, args := #[s, x], argTypes := #[t, t] }) (ht : P.underlying t = some (.slice e))
    (hinfo : (P.info? e).map (fun i => (i.zero, i.size, i.bytes)) = some (some z, k, bytes)) (hz : z.cells.size = k) (hk : 0 < k) (hE : EncN enc k)
    (base : Nat) (v : Value) (l : List α) (y : α) (p : Nat) (hs : a.eval s = v) (hown : OwnN enc k w base e v l) (hx : a.eval x = .slice (some ⟨p, 0, none⟩) 1 1) (hy : ElAt enc w p 0 y)
    (hlen : (l.length + 1) * bytes ≤ 140737488355328) (hlen2 : l.length + 1 ≤ maxLen) (hbase : base ≤ w.heap.size)
    (h : ∀ g c w', OwnN enc k w' base e (.slice (some ⟨g, 0, none⟩) (l.length + 1) c) (l ++ [y]) → TurnN base w v w' (.slice (some ⟨g, 0, none⟩) (l.length + 1) c) → K (a.put o.dst (.slice (some ⟨g, 0, none⟩) (l.length + 1) c)) w') :
    if Region.wanted o (yielded ops a.tmps) = true then Oper.wp P o a w K Q else E := by
  obtain ⟨i0, hi, hz0, hz1, hz2⟩ := info_parts hinfo
  refine step_append_lies w hgd s x t ho base _ i0 z k bytes ht hi hz0 hz1 hz2 hz hk v l.length (flatN enc l) hs hown ⟨p, 0, none⟩ 1 1 (enc y) hx (by rw [hE.len, Nat.one_mul]) ?_ (hE.one y) (by decide) hlen2 hlen hbase w.heap.size rfl ?_
  · intro j u hj
    rw [addr_add0]
    have := hy j u hj
    rwa [Nat.zero_add] at this
  · intro g cap w' hown' hg hat _
    refine h g cap w' ?_ ⟨(Below.refl base w).grown hg hbase (fun k hk => (World.ownsRow.lt hown k hk).1), ⟨hg.os, hg.tape, hg.output, hg.size, fun k hk hm => hg.block k hk (fun he => hm he.symm)⟩, fun g' hg' => ?_⟩
    · unfold OwnN
      rw [flatN_append, List.length_append, flatN_one]
      exact hown'
    · simp [Value.ownBlock] at hg'
      subst hg'
      rcases hat with e | e
      · exact .inl e
      · exact .inr (by omega)
set_option maxRecDepth 100000 in
set_option maxHeartbeats 2000000 in
theorem addC_any (bx base : Nat) (V : Value) (out : List ChgD) (kind : Int) (p : Txt) (w : World) (hbx : BoxC w bx V) (hown : OwnN encG 2 w base 56 V out) (hbase : base ≤ bx) (hp : p.length ≤ 140737488351232) (ho : out.length ≤ 1000000) :
    Calls Tryd.prog 83 #[.int .i64 kind, .string ⟨p.toArray⟩, .pointer (some ⟨bx, 0, none⟩)] w fun e w' => e = .returned (.tuple #[]) ∧ ∃ V', BoxC w' bx V' ∧ OwnN encG 2 w' base 56 V' (out ++ [⟨kind, p⟩]) ∧ Below base w w' := by
  have CL := fun w' => Lib.hid (tclone_any p w' hp)
  have HBX := Lib.hid hbx
  have HO := Lib.hid hown
  have c0 := hbx.cell
  have hlt := hbx.lt
  obtain ⟨oa, om, oc, hV⟩ := own_slice hown
  subst hV
  clear hbx hown
  go_enter Tryd.func83, Tryd.ntmps83
  go_wp2_with fail
  have NX := Lib.hid (fun (w1 : World) (hb : Below w.drew.heap.size w.drew w1) => show BoxC w1 bx (.slice oa om oc) ∧ OwnN encG 2 w1 base 56 (.slice oa om oc) out ∧ Below base w w1 ∧ base ≤ w1.heap.size from by
    have hb' : Below w.heap.size w w1 := (Below_drew (Below.refl _ _)).trans hb
    exact ⟨HBX.out.new hb', HO.out.new hb', hb'.mono (by omega), by have := hb'.size; omega⟩)
  have NA := Lib.hid (fun (w1 : World) (hb : Below w.drew.heap.size w.drew w1) => show OwnN encG 2 (w1.alloc (.cells #[.int .i64 kind, .string ⟨p.toArray⟩] 56)) base 56 (.slice oa om oc) out ∧ ElAt encG (w1.alloc (.cells #[.int .i64 kind, .string ⟨p.toArray⟩] 56)) w1.heap.size 0 ⟨kind, p⟩ ∧ BoxC (w1.alloc (.cells #[.int .i64 kind, .string ⟨p.toArray⟩] 56)) bx (.slice oa om oc) ∧ Below base w (w1.alloc (.cells #[.int .i64 kind, .string ⟨p.toArray⟩] 56)) ∧ base ≤ (w1.alloc (.cells #[.int .i64 kind, .string ⟨p.toArray⟩] 56)).heap.size from by
    obtain ⟨q1, q2, q3, q4⟩ := NX.out w1 hb
    have hal : Below w1.heap.size w1 (w1.alloc (.cells #[.int .i64 kind, .string ⟨p.toArray⟩] 56)) := (Below.refl _ w1).alloc (Nat.le_refl _) _
    refine ⟨q2.new hal, fun r u hu => ?_, q1.new hal, q3.trans (hal.mono q4), by have := hal.size; omega⟩
    rw [cell_of_row _ _ _ _ _ _ (heap_alloc_new _ _), Nat.zero_add]
    match r, hu with
    | 0, hu => exact hu
    | 1, hu => exact hu)
  go_region_law (first
    | (go_simp; go_at_call 59; refine (CL _).out.mono ?_; rintro e w1 ⟨rfl, hb1⟩; have c1 := (NX.out w1 hb1).1.cell; have NA1 := Lib.hid (NA.out w1 hb1); have c2 := NA1.out.2.2.1.cell; clear hb1)
    | ((with_reducible refine step_new (enc := encG) (k := 2) (o := ⟨some 11, _, _, _, _, _⟩) rfl (.tmp 5) (.tmp 10) 52 56 _ 24 rfl Tryd.underlying52 info_chg chg_zero (Nat.succ_pos 1) encG_ok base (.slice oa om oc) out ⟨kind, p⟩ w1.heap.size ?ev NA1.out.1 ?ex NA1.out.2.1 ?hl ?hm NA1.out.2.2.2.2 ?_)
       case ev => simp [Act.eval]
       case ex => simp [Act.eval]
       case hl => omega
       case hm => unfold maxLen; omega
       intro g1 cc w7 ho7 ht7
       have HB7 := Lib.hid (NA1.out.2.2.1.turn NA1.out.1 ht7)
       have HT7 := Lib.hid (NA1.out.2.2.2.1.trans ht7.bel)
       have HO7 := Lib.hid ho7
       clear ho7 ht7
       have c7 := HB7.out.cell
       have f7 := HB7.out.free))
  all_goals
    go_wp2
    go_end0
    exact ⟨rfl, _, HB7.out.set, OwnN.boxed HO7.out HB7.out, HT7.out.setCell (p := ⟨bx, 0, none⟩) hbase _⟩
end Go.Proofs.YtkfkfpfnpfpkaaaDoor

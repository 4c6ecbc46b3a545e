/- The document's one (a path and some patterns), and the mathematics of Filter. -/
import Derived.Test.YtkfkfpfnpfpkaaaDoorArgs3
import Derived.Test.YtkfkfpfnpfpkaaaDoorFrame
import Derived.Test.YtkfkfpfnpfpkaaaDoorGen
import Derived.Test.YtkfkfpfnpfpkaaaDoorMarkMath
import Derived.Test.YtkfkfpfnpfpkaaaDoorMatchMath
import Derived.Test.YtkfkfpfnpfpkaaaDoorOwnL
import Derived.Test.YtkfkfpfnpfpkaaaDoorReadW
import Derived.Test.YtkfkfpfnpfpkaaaDoorRefMatchW9
import Derived.Test.YtkfkfpfnpfpkaaaDoorRefNamesW
import Derived.Test.YtkfkfpfnpfpkaaaDoorRefRightTW
import Derived.Test.YtkfkfpfnpfpkaaaDoorRowN
import Derived.Test.YtkfkfpfnpfpkaaaDoorRows
import Derived.Test.YtkfkfpfnpfpkaaaDoorTreeMath
import Derived.BigQuiet
import Derived.Deep.Cut
import Derived.Deep.CutRange
import Derived.Deep.DeepCutAuto
import Derived.Deep.QuietTactic
import Derived.Deep.Slices
import Derived.Deep.Strs
import Derived.Laws.IdiomStrings
import Derived.Laws.OwnMore
import Derived.Lib.Hide
import Derived.Lib.SmallJoins
import Derived.WalkKit
import Derived.WalkLawsBesides
import Derived.WalkSpells
set_option linter.unusedVariables false
namespace Go.Proofs.YtkfkfpfnpfpkaaaDoor
open Go.RowKit

def oneS (l : List Txt) (path : Txt) : Bool := l.any (fun p => matchS p path)
def fitS (ins outs : List Txt) (path : Txt) : Bool := (ins.isEmpty || oneS ins path) && !oneS outs path
def filterE (l : List FileD) (ins outs : List Txt) : Int := if checkS l ≠ 0 then checkS l else if firstE patternS ins ≠ 0 then firstE patternS ins else firstE patternS outs
def filterS (l : List FileD) (ins outs : List Txt) : List FileD := if filterE l ins outs ≠ 0 then [] else l.filter (fun x => fitS ins outs x.path)
/-- Each of some texts, loaded. -/
def EachAt (w : World) (a : Option Addr) (l : List Txt) : Prop := ∀ i (hi : i < l.length), ∃ g o, a = some ⟨g, o, none⟩ ∧ w.cell? ⟨g, o + i, none⟩ = some (strE l[i])
theorem EachAt.new {w w' : World} {a : Option Addr} {l : List Txt} (h : EachAt w a l) (hb : Below w.heap.size w w') : EachAt w' a l := fun i hi => by
  obtain ⟨g, o, e, hc⟩ := h i hi
  exact ⟨g, o, e, by rw [World.cell?_of_block (w := w) ((Kept.new hb (fun _ => False)).block g (World.block_lt_of_cell? w _ hc) id)]; exact hc⟩
set_option maxRecDepth 100000 in
theorem refOne_any (va : Option Addr) (vc : Nat) (l : List Txt) (p : Txt) (w : World) (hrow : EachAt w va l) (hx : ∀ x ∈ l, x.length ≤ 140737488351232) (hp : p.length ≤ 140737488351232) (hl : l.length ≤ 1000000) :
    Calls Tryd.prog 91 #[.slice va l.length vc, .string ⟨p.toArray⟩] w fun e w' => e = .returned (.bool (oneS l p)) ∧ Below w.heap.size w w' := by
  have HRO := Lib.hid hrow
  have HOK := Lib.hid hx
  have HRS := Lib.hid (show (l.drop 0).any (fun q => matchS q p) = oneS l p from rfl)
  generalize oneS l p = res at *
  clear hrow hx
  go_enter Tryd.func91, Tryd.ntmps91
  go_wp2_with fail
  go_loopw [5] (fun v3 wr => ∃ i : Nat, i ≤ l.length ∧ v3 = .int .i64 i ∧ Hid ((l.drop i).any (fun q => matchS q p) = res) ∧ Below w.heap.size w wr) (fun v3 _ => l.length - (intOf v3).toNat)
  case atStart => exact ⟨0, by omega, rfl, HRS, Below.refl _ _⟩
  case round =>
    clear HRS
    obtain ⟨i, hi, rfl, HA, hbel⟩ := hrel
    have HB := Lib.hid hbel
    clear hbel
    have i0 : (0 : Int) ≤ (i : Int) := by omega
    by_cases hlt : i < l.length
    · have j1 : (i : Int) < (l.length : Int) := by omega
      obtain ⟨g, o, rfl, hc⟩ := (HRO.out.new HB.out) i hlt
      have hxl := HOK.out l[i] (List.getElem_mem hlt)
      have HT := Lib.hid (show (l.drop i).any (fun q => matchS q p) = (matchS l[i] p || (l.drop (i + 1)).any (fun q => matchS q p)) by rw [List.drop_eq_getElem_cons hlt]; rfl)
      generalize l[i] = q at *
      unfold strE at hc
      have MT := Lib.hid (refMatch9_any q p wr hxl hp)
      obtain ⟨b, hb⟩ : ∃ b, b = matchS q p := ⟨_, rfl⟩
      rw [← hb] at MT HT
      clear hb
      cases b with
      | true =>
        go_wp2_with fail
        refine MT.out.mono ?_
        rintro e w1 ⟨rfl, hb1⟩
        have HB1 := Lib.hid (HB.out.trans (hb1.mono HB.out.size))
        clear hb1 MT
        go_wp2_with fail
        go_ret
        exact ⟨by rw [← HA.out, HT.out]; rfl, HB1.out⟩
      | false =>
        go_wp2_with fail
        refine MT.out.mono ?_
        rintro e w1 ⟨rfl, hb1⟩
        have HB1 := Lib.hid (HB.out.trans (hb1.mono HB.out.size))
        clear hb1 MT
        go_wp2_with fail
        go_roundw
        case rel => exact ⟨i + 1, by omega, by go_num, Lib.hid (by rw [← HA.out, HT.out]; rfl), HB1.out⟩
        case measure => simp [intOf]; omega
    · have j1 : ¬ (i : Int) < (l.length : Int) := by omega
      have HN := Lib.hid (show res = false by rw [← HA.out, List.drop_eq_nil_of_le (by omega)]; rfl)
      go_wp2_with fail
      go_ret
      exact ⟨by rw [HN.out]; rfl, HB.out⟩
end Go.Proofs.YtkfkfpfnpfpkaaaDoor

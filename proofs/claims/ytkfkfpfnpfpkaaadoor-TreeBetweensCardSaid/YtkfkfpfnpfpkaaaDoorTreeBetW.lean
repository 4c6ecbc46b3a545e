/- The contract of tree.Between (A TRIAL), and the walk of TreeBetweens. -/
import Derived.Test.YtkfkfpfnpfpkaaaDoorAddTW
import Derived.Test.YtkfkfpfnpfpkaaaDoorArgTree
import Derived.Test.YtkfkfpfnpfpkaaaDoorBetTW
import Derived.Test.YtkfkfpfnpfpkaaaDoorFitX
import Derived.Test.YtkfkfpfnpfpkaaaDoorFrame
import Derived.Test.YtkfkfpfnpfpkaaaDoorGen
import Derived.Test.YtkfkfpfnpfpkaaaDoorOwnL
import Derived.Test.YtkfkfpfnpfpkaaaDoorPlaceTW
import Derived.Test.YtkfkfpfnpfpkaaaDoorProg
import Derived.Test.YtkfkfpfnpfpkaaaDoorReadW
import Derived.Test.YtkfkfpfnpfpkaaaDoorRefBetW
import Derived.Test.YtkfkfpfnpfpkaaaDoorRefCheckW
import Derived.Test.YtkfkfpfnpfpkaaaDoorRefRightTW
import Derived.Test.YtkfkfpfnpfpkaaaDoorRefSortW
import Derived.Test.YtkfkfpfnpfpkaaaDoorRowN
import Derived.Test.YtkfkfpfnpfpkaaaDoorRows
import Derived.Test.YtkfkfpfnpfpkaaaDoorShelf
import Derived.Test.YtkfkfpfnpfpkaaaDoorSortX
import Derived.Test.YtkfkfpfnpfpkaaaDoorSortMath
import Derived.Test.YtkfkfpfnpfpkaaaDoorTreeLawsW
import Derived.Test.YtkfkfpfnpfpkaaaDoorTreeMath
import Derived.BigQuiet
import Derived.BigRegion
import Derived.Deep.Cut
import Derived.Deep.CutRange
import Derived.Deep.DeepCutAuto
import Derived.Deep.QuietTactic
import Derived.Deep.RegionHeld
import Derived.Laws.IdiomStrings
import Derived.Laws.OwnMore
import Derived.Laws.RangeAny
import Derived.Lib.Hide
import Derived.LoopIn
import Derived.LoopNIn
import Derived.LoopTactic
import Derived.OwnWalkIn
import Derived.RangeFuncBound
import Derived.RangeFuncCalls
import Derived.RangeFuncLeaves
import Derived.RangeFuncNested
import Derived.Shelf.Abstract
import Derived.Shelf.RegionOpen
import Derived.Shelf.Strings.SplitCore
import Derived.StillTail
import Derived.TacticsInMore
import Derived.WalkKit
import Derived.WalkLawsBesides
import Derived.WalkSpells
set_option linter.unusedVariables false
namespace Go.Proofs.YtkfkfpfnpfpkaaaDoor
open Go.RowKit

theorem ElAt.g0 {w : World} {g o : Nat} {x : ChgD} (h : ElAt encG w g o x) : w.cell? ⟨g, o, none⟩ = some (.int .i64 x.kind) := h 0 _ rfl
theorem ElAt.g1 {w : World} {g o : Nat} {x : ChgD} (h : ElAt encG w g o x) : w.cell? ⟨g, o + 1, none⟩ = some (.string ⟨x.path.toArray⟩) := h 1 _ rfl
theorem betweenS_len (a b : List ItemD) : (betweenS a b).length ≤ a.length + b.length := by
  unfold betweenS
  split
  · simp
  · refine Nat.le_trans (chgs_len a b _) ?_
    unfold allS
    rw [sortS_len _ _ rfl, List.length_append, List.length_map, List.length_map]
    have := List.length_filter_le (fun y : ItemD => (atS a y.path).isNone) b
    omega
set_option maxRecDepth 100000 in
set_option maxHeartbeats 1000000 in
theorem treeBetweens_walk (v u : Value) (w : World) (h1 : IsIn w v) (h2 : IsIn w u) :
    Calls Tryd.prog 11 #[v, u] w fun e w' => e = .returned (.bool true) ∧ Below w.heap.size w w' := by
  obtain ⟨a, hra, hoka, _⟩ := h1
  obtain ⟨b, hrb, hokb, _⟩ := h2
  have hra := hra.mono (M := fun _ => True) (fun _ _ => trivial)
  have hrb := hrb.mono (M := fun _ => True) (fun _ _ => trivial)
  obtain ⟨pa, ca, hv, _⟩ := hra.slice
  subst hv
  obtain ⟨pb, cb, hv, _⟩ := hrb.slice
  subst hv
  by_cases hz1 : 60 < a.length
  · have j1 : (60 : Int) < (a.length : Int) := by omega
    clear hra hrb hoka hokb
    go_enter Tryd.func11, Tryd.ntmps11
    go_wp2_with fail
    refine (awake9_any _).mono ?_
    rintro e w6 ⟨rfl, hb6⟩
    go_wp2_with fail
    go_ret
    exact ⟨rfl, hb6⟩
  by_cases hz2 : 60 < b.length
  · have j1 : ¬ (60 : Int) < (a.length : Int) := by omega
    have j2 : (60 : Int) < (b.length : Int) := by omega
    clear hra hrb hoka hokb
    go_enter Tryd.func11, Tryd.ntmps11
    go_wp2_with fail
    refine (awake9_any _).mono ?_
    rintro e w6 ⟨rfl, hb6⟩
    go_wp2_with fail
    go_ret
    exact ⟨rfl, hb6⟩
  have j1 : ¬ (60 : Int) < (a.length : Int) := by omega
  have j2 : ¬ (60 : Int) < (b.length : Int) := by omega
  have B1 := Lib.hid (tBetween_any _ _ a b w hra hrb hoka hokb (by omega) (by omega))
  have B2 := Lib.hid (fun w' (hb : Below w.heap.size w w') => refBetween_any _ _ a b w' (hra.keep hb) (hrb.keep hb) hoka hokb (by omega) (by omega))
  have hbl := betweenS_len a b
  have hbl2 : (betweenS a b).length ≤ 120 := by omega
  generalize betweenS a b = cs at *
  generalize betweenE a b = ce at *
  have q1 : (ce != ce) = false := by simp
  have q2 : ((cs.length : Int) != (cs.length : Int)) = false := by simp
  clear hra hrb hoka hokb hbl
  go_enter Tryd.func11, Tryd.ntmps11
  go_wp2_with fail
  refine B1.out.mono ?_
  rintro e w2 ⟨v2, rfl, hrow2, hb2⟩
  obtain ⟨va2, vc2, rfl, _⟩ := hrow2.slice
  have HR2 := Lib.hid hrow2
  have K2 := Lib.hid hb2
  clear hb2 hrow2 B1
  go_wp2_with fail
  refine (B2.out _ K2.out).mono ?_
  rintro e w3 ⟨v3, rfl, hrow3, hb3⟩
  obtain ⟨va3, vc3, rfl, _⟩ := hrow3.slice
  have HO3 := Lib.hid hrow3
  have HR3 := Lib.hid (HR2.out.keep hb3)
  have K3 := Lib.hid (K2.out.trans (hb3.mono K2.out.size))
  clear hb3 hrow3 K2 HR2 B2
  go_wp2_with fail
  go_loopw [9] (fun v9 wr => ∃ i : Nat, i ≤ cs.length ∧ v9 = .int .i64 i ∧ Below w3.heap.size w3 wr) (fun v9 _ => cs.length - (intOf v9).toNat)
  case atStart => exact ⟨0, by omega, rfl, Below.refl _ _⟩
  case round =>
    obtain ⟨i, hi, rfl, hbel⟩ := hrel
    have HBl := Lib.hid hbel
    clear hbel
    have i0 : (0 : Int) ≤ (i : Int) := by omega
    by_cases hlt : i < cs.length
    · have k1 : (i : Int) < (cs.length : Int) := by omega
      obtain ⟨g1, o1, rfl, he1⟩ := HR3.out.el hlt
      obtain ⟨g2, o2, rfl, he2⟩ := HO3.out.el hlt
      have h1 := (he1 i hlt).new HBl.out
      have h2 := (he2 i hlt).new HBl.out
      have x0 := h1.g0
      have x1 := h1.g1
      have y0 := h2.g0
      have y1 := h2.g1
      generalize cs[i] = c at *
      have q5 : (c.kind != c.kind) = false := by simp
      have q6 : (c.path != c.path) = false := by simp
      have q7 : (c.kind == c.kind) = true := by simp
      have q8 : (c.path == c.path) = true := by simp
      clear h1 h2 he1 he2
      go_wp2_with fail
      go_quiet (fail)
      have HBQ := Lib.hid (HBl.out.trans ((Below_drewN (Below.refl wr.heap.size wr) nq).mono HBl.out.size))
      generalize wr.drewN nq = w7 at *
      go_wp2_with fail
      go_roundw
      case rel => exact ⟨i + 1, by omega, by go_num, HBQ.out⟩
      case measure => simp [intOf]; omega
    · have k1 : ¬ (i : Int) < (cs.length : Int) := by omega
      go_wp2_with fail
      refine (awake9_any _).mono ?_
      rintro e w6 ⟨rfl, hb6⟩
      have K5 := Lib.hid (K3.out.trans (HBl.out.mono K3.out.size))
      go_wp2_with fail
      go_ret
      exact ⟨rfl, K5.out.trans (hb6.mono K5.out.size)⟩
end Go.Proofs.YtkfkfpfnpfpkaaaDoor

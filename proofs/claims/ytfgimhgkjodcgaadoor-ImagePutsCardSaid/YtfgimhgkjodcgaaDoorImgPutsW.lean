/- The walk of ImagePuts. -/
import Derived.Test.YtfgimhgkjodcgaaDoorArgTree
import Derived.Test.YtfgimhgkjodcgaaDoorFrame
import Derived.Test.YtfgimhgkjodcgaaDoorGen
import Derived.Test.YtfgimhgkjodcgaaDoorBdX
import Derived.Test.YtfgimhgkjodcgaaDoorMeX
import Derived.Test.YtfgimhgkjodcgaaDoorMarkMath
import Derived.Test.YtfgimhgkjodcgaaDoorOwnL
import Derived.Test.YtfgimhgkjodcgaaDoorProg
import Derived.Test.YtfgimhgkjodcgaaDoorFnX
import Derived.Test.YtfgimhgkjodcgaaDoorReadW
import Derived.Test.YtfgimhgkjodcgaaDoorPuX
import Derived.Test.YtfgimhgkjodcgaaDoorTrX
import Derived.Test.YtfgimhgkjodcgaaDoorRowN
import Derived.Test.YtfgimhgkjodcgaaDoorRows
import Derived.Test.YtfgimhgkjodcgaaDoorShelf
import Derived.Test.YtfgimhgkjodcgaaDoorSoX
import Derived.Test.YtfgimhgkjodcgaaDoorSortX
import Derived.Test.YtfgimhgkjodcgaaDoorTmX
import Derived.Test.YtfgimhgkjodcgaaDoorTlX
import Derived.Test.YtfgimhgkjodcgaaDoorTreeMath
import Derived.BigQuiet
import Derived.BigRegion
import Derived.Deep.Cut
import Derived.Deep.CutBlock
import Derived.Deep.CutRange
import Derived.Deep.DeepCutAuto
import Derived.Deep.QuietTactic
import Derived.Deep.RegionHeld
import Derived.Laws.Externs
import Derived.Laws.RangeAny
import Derived.Lib.AppendStr
import Derived.Lib.Builder
import Derived.Lib.Hide
import Derived.Lib.Strings
import Derived.Lib.Walk
import Derived.LoopIn
import Derived.LoopNIn
import Derived.LoopTactic
import Derived.Outline
import Derived.OwnWalkIn
import Derived.RangeFuncBound
import Derived.RangeFuncCalls
import Derived.RangeFuncLeaves
import Derived.RangeFuncNested
import Derived.Shelf.Abstract
import Derived.Shelf.RegionOpen
import Derived.StillTail
import Derived.TacticsInMore
import Derived.WalkKit
import Derived.WalkLawsBesides
import Derived.WalkSpells
set_option linter.unusedVariables false
namespace Go.Proofs.YtfgimhgkjodcgaaDoor
open Go.RowKit

set_option maxRecDepth 100000 in
set_option maxHeartbeats 1000000 in
theorem imagePuts_walk (s : Txt) (hs : s.length ≤ 140737488351232) (f : FileD) (hf : FileOk f) (w : World) :
    Calls Tryd.prog 7 #[.string ⟨s.toArray⟩, .agg #[.string ⟨f.path.toArray⟩, .int .i64 f.mode, .string ⟨f.data.toArray⟩]] w fun e w' => e = .returned (.bool true) ∧ Below w.heap.size w w' := by
  have CT := Lib.hid (fun w' => cut10_any s w' hs)
  have hl : (s.take 20000).length ≤ 20000 := List.length_take_le _ _
  generalize s.take 20000 = t at *
  have B1 := Lib.hid (fun w' => iPut_any t f w' (by omega) hf)
  have B2 := Lib.hid (fun w' => refPutI_any t f w' (by omega) hf sortI_mem sortI_len)
  have hd := hf.d
  generalize putS t f = res at *
  obtain ⟨mt, oe⟩ := res
  obtain ⟨p, m, d⟩ := f
  dsimp only at B1 B2 hd
  have q0 : (mt == mt) = true := by simp
  have q1 : (oe == oe) = true := by simp
  have HB0 := Lib.hid (heap_alloc_new w (.cells #[.string ⟨p.toArray⟩, .int .i64 m, .string ⟨d.toArray⟩] 33))
  have K0 := Lib.hid ((Below.refl _ w).alloc (Nat.le_refl _) (.cells #[.string ⟨p.toArray⟩, .int .i64 m, .string ⟨d.toArray⟩] 33))
  by_cases hbig : 70000 < d.length
  · have j : (70000 : Int) < (d.length : Int) := by omega
    go_enter Tryd.func7, Tryd.ntmps7
    go_wp2_with fail
    refine (CT.out _).mono ?_
    rintro e w0 ⟨rfl, rfl⟩
    clear CT
    go_wp2_with fail
    refine (awake10_any _).mono ?_
    rintro e w6 ⟨rfl, hb6⟩
    go_wp2_with fail
    go_ret
    exact ⟨rfl, K0.out.trans (hb6.mono K0.out.size)⟩
  · have j : ¬ (70000 : Int) < (d.length : Int) := by omega
    go_enter Tryd.func7, Tryd.ntmps7
    go_wp2_with fail
    refine (CT.out _).mono ?_
    rintro e w0 ⟨rfl, rfl⟩
    clear CT
    go_wp2_with fail
    refine (B1.out _).mono ?_
    rintro e w1 ⟨rfl, hb1⟩
    obtain ⟨b0, b1, b2⟩ := file_box0 ((Kept.new hb1 (fun _ => False)).old HB0.out id)
    have K1 := Lib.hid (K0.out.trans (hb1.mono K0.out.size))
    clear hb1 B1 K0
    go_wp2_with fail
    refine (B2.out _).mono ?_
    rintro e w2 ⟨rfl, hb2⟩
    have K2 := Lib.hid (K1.out.trans (hb2.mono K1.out.size))
    clear hb2 B2 K1
    go_wp2_with fail
    refine (awake10_any _).mono ?_
    rintro e w6 ⟨rfl, hb6⟩
    go_wp2_with fail
    go_ret
    exact ⟨rfl, K2.out.trans (hb6.mono K2.out.size)⟩
end Go.Proofs.YtfgimhgkjodcgaaDoor

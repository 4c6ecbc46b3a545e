/- The walk of ImageBack: a tree and its image are each other's. -/
import Derived.Test.YtfgimhgkjodcgaaDoorArgTree
import Derived.Test.YtfgimhgkjodcgaaDoorArgs3
import Derived.Test.YtfgimhgkjodcgaaDoorFrame
import Derived.Test.YtfgimhgkjodcgaaDoorGen
import Derived.Test.YtfgimhgkjodcgaaDoorBdX
import Derived.Test.YtfgimhgkjodcgaaDoorMeX
import Derived.Test.YtfgimhgkjodcgaaDoorMtX
import Derived.Test.YtfgimhgkjodcgaaDoorImgFewW
import Derived.Test.YtfgimhgkjodcgaaDoorImgMath
import Derived.Test.YtfgimhgkjodcgaaDoorMarkMath
import Derived.Test.YtfgimhgkjodcgaaDoorOwnL
import Derived.Test.YtfgimhgkjodcgaaDoorProg
import Derived.Test.YtfgimhgkjodcgaaDoorReadW
import Derived.Test.YtfgimhgkjodcgaaDoorRefSortW
import Derived.Test.YtfgimhgkjodcgaaDoorTrX
import Derived.Test.YtfgimhgkjodcgaaDoorRowN
import Derived.Test.YtfgimhgkjodcgaaDoorRows
import Derived.Test.YtfgimhgkjodcgaaDoorShelf
import Derived.Test.YtfgimhgkjodcgaaDoorSoX
import Derived.Test.YtfgimhgkjodcgaaDoorTmX
import Derived.Test.YtfgimhgkjodcgaaDoorTlX
import Derived.Test.YtfgimhgkjodcgaaDoorTreeMath
import Derived.BigQuiet
import Derived.BigRegion
import Derived.ChangeAlike
import Derived.Deep.Cut
import Derived.Deep.CutBlock
import Derived.Deep.CutRange
import Derived.Deep.DeepCutAuto
import Derived.Deep.QuietTactic
import Derived.Deep.RegionHeld
import Derived.Laws.Externs
import Derived.Laws.RangeAny
import Derived.Laws.ResultCell
import Derived.Lib.AppendStr
import Derived.Lib.Builder
import Derived.Lib.Hide
import Derived.Lib.Strings
import Derived.Lib.Walk
import Derived.LoopIn
import Derived.LoopNIn
import Derived.LoopTactic
import Derived.Outline
import Derived.OwnWalkIn
import Derived.RangeFuncBound
import Derived.RangeFuncCalls
import Derived.RangeFuncLeaves
import Derived.RangeFuncNested
import Derived.RegionTactic
import Derived.Shelf.Abstract
import Derived.Shelf.RegionOpen
import Derived.StillTail
import Derived.TacticsInMore
import Derived.WalkKit
import Derived.WalkLawsBesides
import Derived.WalkSpells
set_option linter.unusedVariables false
namespace Go.Proofs.YtfgimhgkjodcgaaDoor
open Go.RowKit

theorem imgS_len (l : List FileD) : (imgS l).1.length ≤ 524288 := by
  unfold imgS
  by_cases h1 : checkS l = 0
  · rw [if_neg (fun k => k h1)]
    by_cases h2 : 524288 < (imgB l).length
    · rw [if_pos h2]; simp
    · rw [if_neg h2]; dsimp only; omega
  · rw [if_pos h1]; simp
set_option maxRecDepth 100000 in
set_option maxHeartbeats 2000000 in
theorem imageBack_walk (v : Value) (s : Txt) (hs : s.length ≤ 140737488351232) (w : World) (h : FsIn w v) :
    Calls Tryd.prog 6 #[v, .string ⟨s.toArray⟩] w fun e w' => e = .returned (.bool true) ∧ Below w.heap.size w w' := by
  obtain ⟨xs, hrow, hok, hlen⟩ := h
  have hrow := hrow.mono (M := fun _ => True) (fun _ _ => trivial)
  obtain ⟨hy, hl⟩ := fewI_ok hok
  have FW := Lib.hid (few10_any v xs w hrow hok (by omega))
  have HY := Lib.hid hy
  obtain ⟨va, vc, hv, _⟩ := hrow.slice
  subst hv
  clear hrow hok hlen hy
  generalize fewI xs = ys at *
  have CT := Lib.hid (fun w' => cut10_any s w' hs)
  have htl : (s.take 20000).length ≤ 20000 := List.length_take_le _ _
  generalize s.take 20000 = t at *
  have B1 := Lib.hid (fun v' w' (hr : RowN encF 3 (fun _ => True) w' v' ys) => iOf_any v' ys w' hr HY.out (by omega))
  have O1 := Lib.hid (fun w' => iTree_any (imgS ys).1 w' (by have := imgS_len ys; omega))
  have O2 := Lib.hid (fun w' => iTree_any t w' (by omega))
  have B2 := Lib.hid (fun v' w' (hr : RowN encF 3 (fun _ => True) w' v' (treeS t).1) => iOf_any v' (treeS t).1 w' hr (treeS_ok t).1 (by have := (treeS_ok t).2; omega))
  have F1 := fun h => treeS_fore (l := ys) h
  have F2 := fun h => treeS_back (s := t) h
  generalize imgS ys = mb at *
  generalize treeS mb.1 = of1 at *
  generalize treeS t = of2 at *
  generalize imgS of2.1 = mb2 at *
  obtain ⟨A, eA⟩ := mb
  obtain ⟨m, f⟩ := of1
  obtain ⟨n, g⟩ := of2
  obtain ⟨bt, hh⟩ := mb2
  dsimp only at B1 O1 O2 B2 F1 F2
  have qt : (t == t) = true := by simp
  by_cases he : eA = 0
  · obtain ⟨rfl, rfl⟩ : m = ys ∧ f = 0 := by have := F1 he; injection this with a b; exact ⟨a, b⟩
    subst he
    clear F1
    by_cases hg : g = 0
    · obtain ⟨rfl, rfl⟩ : bt = t ∧ hh = 0 := by have := F2 hg; injection this with a b; exact ⟨a, b⟩
      subst hg
      clear F2
      go_enter Tryd.func6, Tryd.ntmps6
      go_wp2_with fail
      refine FW.out.mono ?_
      rintro e w1 ⟨v1, rfl, hown1, hb1⟩
      obtain ⟨oa, om, oc, rfl⟩ := own_slice hown1
      have R1 := Lib.hid ((OwnN.row encF_ok hown1).mono (M := fun _ => True) (fun _ _ => trivial))
      have K1 := Lib.hid hb1
      clear hown1 hb1 FW
      go_wp2_with fail
      refine (CT.out _).mono ?_
      rintro e w0 ⟨rfl, rfl⟩
      clear CT
      go_wp2_with fail
      refine (B1.out _ _ R1.out).mono ?_
      rintro e w2 ⟨rfl, hb2⟩
      have R2 := Lib.hid (R1.out.keep hb2)
      have K2 := Lib.hid (K1.out.trans (hb2.mono K1.out.size))
      clear hb2 B1 K1 R1
      go_wp2_with fail
      refine (O1.out _).mono ?_
      rintro e w3 ⟨v3, rfl, hr3, hb3⟩
      obtain ⟨va3, vc3, rfl, _⟩ := hr3.slice
      have M3 := Lib.hid hr3
      have R3 := Lib.hid (R2.out.keep hb3)
      have K3 := Lib.hid (K2.out.trans (hb3.mono K2.out.size))
      clear hr3 hb3 O1 K2 R2
      go_wp2_with fail
      refine (O2.out _).mono ?_
      rintro e w4 ⟨v4, rfl, hr4, hb4⟩
      obtain ⟨va4, vc4, rfl, _⟩ := hr4.slice
      have B4 := Lib.hid (B2.out _ _ hr4)
      have M4 := Lib.hid (M3.out.keep hb4)
      have R4 := Lib.hid (R3.out.keep hb4)
      have K4 := Lib.hid (K3.out.trans (hb4.mono K3.out.size))
      clear hr4 hb4 O2 K3 R3 M3 B2
      go_wp2_with fail
      refine B4.out.mono ?_
      rintro e w5 ⟨rfl, hb5⟩
      have M5 := Lib.hid (M4.out.keep hb5)
      have R5 := Lib.hid (R4.out.keep hb5)
      have K5 := Lib.hid (K4.out.trans (hb5.mono K4.out.size))
      clear hb5 B4 K4 R4 M4
      go_wp2_with fail
      refine (filesEq_any _ _ _ _ _ _ M5.out R5.out (by omega)).mono ?_
      rintro e w6 ⟨rfl, hb6⟩
      have K6 := Lib.hid (K5.out.trans (hb6.mono K5.out.size))
      clear hb6
      go_wp2_with fail
      refine (awake10_any _).mono ?_
      rintro e w7 ⟨rfl, hb7⟩
      go_wp2_with fail
      go_ret
      exact ⟨rfl, K6.out.trans (hb7.mono K6.out.size)⟩
    · have q2 : (g != 0) = true := by simp [hg]
      clear F2
      go_enter Tryd.func6, Tryd.ntmps6
      go_wp2_with fail
      refine FW.out.mono ?_
      rintro e w1 ⟨v1, rfl, hown1, hb1⟩
      obtain ⟨oa, om, oc, rfl⟩ := own_slice hown1
      have R1 := Lib.hid ((OwnN.row encF_ok hown1).mono (M := fun _ => True) (fun _ _ => trivial))
      have K1 := Lib.hid hb1
      clear hown1 hb1 FW
      go_wp2_with fail
      refine (CT.out _).mono ?_
      rintro e w0 ⟨rfl, rfl⟩
      clear CT
      go_wp2_with fail
      refine (B1.out _ _ R1.out).mono ?_
      rintro e w2 ⟨rfl, hb2⟩
      have R2 := Lib.hid (R1.out.keep hb2)
      have K2 := Lib.hid (K1.out.trans (hb2.mono K1.out.size))
      clear hb2 B1 K1 R1
      go_wp2_with fail
      refine (O1.out _).mono ?_
      rintro e w3 ⟨v3, rfl, hr3, hb3⟩
      obtain ⟨va3, vc3, rfl, _⟩ := hr3.slice
      have M3 := Lib.hid hr3
      have R3 := Lib.hid (R2.out.keep hb3)
      have K3 := Lib.hid (K2.out.trans (hb3.mono K2.out.size))
      clear hr3 hb3 O1 K2 R2
      go_wp2_with fail
      refine (O2.out _).mono ?_
      rintro e w4 ⟨v4, rfl, hr4, hb4⟩
      obtain ⟨va4, vc4, rfl, _⟩ := hr4.slice
      have B4 := Lib.hid (B2.out _ _ hr4)
      have M4 := Lib.hid (M3.out.keep hb4)
      have R4 := Lib.hid (R3.out.keep hb4)
      have K4 := Lib.hid (K3.out.trans (hb4.mono K3.out.size))
      clear hr4 hb4 O2 K3 R3 M3 B2
      go_wp2_with fail
      refine B4.out.mono ?_
      rintro e w5 ⟨rfl, hb5⟩
      have M5 := Lib.hid (M4.out.keep hb5)
      have R5 := Lib.hid (R4.out.keep hb5)
      have K5 := Lib.hid (K4.out.trans (hb5.mono K4.out.size))
      clear hb5 B4 K4 R4 M4
      go_wp2_with fail
      refine (filesEq_any _ _ _ _ _ _ M5.out R5.out (by omega)).mono ?_
      rintro e w6 ⟨rfl, hb6⟩
      have K6 := Lib.hid (K5.out.trans (hb6.mono K5.out.size))
      clear hb6
      go_wp2_with fail
      refine (awake10_any _).mono ?_
      rintro e w7 ⟨rfl, hb7⟩
      go_wp2_with fail
      go_ret
      exact ⟨rfl, K6.out.trans (hb7.mono K6.out.size)⟩
  · have q1 : (eA != 0) = true := by simp [he]
    clear F1
    by_cases hg : g = 0
    · obtain ⟨rfl, rfl⟩ : bt = t ∧ hh = 0 := by have := F2 hg; injection this with a b; exact ⟨a, b⟩
      subst hg
      clear F2
      go_enter Tryd.func6, Tryd.ntmps6
      go_wp2_with fail
      refine FW.out.mono ?_
      rintro e w1 ⟨v1, rfl, hown1, hb1⟩
      obtain ⟨oa, om, oc, rfl⟩ := own_slice hown1
      have R1 := Lib.hid ((OwnN.row encF_ok hown1).mono (M := fun _ => True) (fun _ _ => trivial))
      have K1 := Lib.hid hb1
      clear hown1 hb1 FW
      go_wp2_with fail
      refine (CT.out _).mono ?_
      rintro e w0 ⟨rfl, rfl⟩
      clear CT
      go_wp2_with fail
      refine (B1.out _ _ R1.out).mono ?_
      rintro e w2 ⟨rfl, hb2⟩
      have R2 := Lib.hid (R1.out.keep hb2)
      have K2 := Lib.hid (K1.out.trans (hb2.mono K1.out.size))
      clear hb2 B1 K1 R1
      go_wp2_with fail
      refine (O1.out _).mono ?_
      rintro e w3 ⟨v3, rfl, hr3, hb3⟩
      obtain ⟨va3, vc3, rfl, _⟩ := hr3.slice
      have M3 := Lib.hid hr3
      have R3 := Lib.hid (R2.out.keep hb3)
      have K3 := Lib.hid (K2.out.trans (hb3.mono K2.out.size))
      clear hr3 hb3 O1 K2 R2
      go_wp2_with fail
      refine (O2.out _).mono ?_
      rintro e w4 ⟨v4, rfl, hr4, hb4⟩
      obtain ⟨va4, vc4, rfl, _⟩ := hr4.slice
      have B4 := Lib.hid (B2.out _ _ hr4)
      have M4 := Lib.hid (M3.out.keep hb4)
      have R4 := Lib.hid (R3.out.keep hb4)
      have K4 := Lib.hid (K3.out.trans (hb4.mono K3.out.size))
      clear hr4 hb4 O2 K3 R3 M3 B2
      go_wp2_with fail
      refine B4.out.mono ?_
      rintro e w5 ⟨rfl, hb5⟩
      have M5 := Lib.hid (M4.out.keep hb5)
      have R5 := Lib.hid (R4.out.keep hb5)
      have K5 := Lib.hid (K4.out.trans (hb5.mono K4.out.size))
      clear hb5 B4 K4 R4 M4
      go_wp2_with fail
      refine (awake10_any _).mono ?_
      rintro e w7 ⟨rfl, hb7⟩
      go_wp2_with fail
      go_ret
      exact ⟨rfl, K5.out.trans (hb7.mono K5.out.size)⟩
    · have q2 : (g != 0) = true := by simp [hg]
      clear F2
      go_enter Tryd.func6, Tryd.ntmps6
      go_wp2_with fail
      refine FW.out.mono ?_
      rintro e w1 ⟨v1, rfl, hown1, hb1⟩
      obtain ⟨oa, om, oc, rfl⟩ := own_slice hown1
      have R1 := Lib.hid ((OwnN.row encF_ok hown1).mono (M := fun _ => True) (fun _ _ => trivial))
      have K1 := Lib.hid hb1
      clear hown1 hb1 FW
      go_wp2_with fail
      refine (CT.out _).mono ?_
      rintro e w0 ⟨rfl, rfl⟩
      clear CT
      go_wp2_with fail
      refine (B1.out _ _ R1.out).mono ?_
      rintro e w2 ⟨rfl, hb2⟩
      have R2 := Lib.hid (R1.out.keep hb2)
      have K2 := Lib.hid (K1.out.trans (hb2.mono K1.out.size))
      clear hb2 B1 K1 R1
      go_wp2_with fail
      refine (O1.out _).mono ?_
      rintro e w3 ⟨v3, rfl, hr3, hb3⟩
      obtain ⟨va3, vc3, rfl, _⟩ := hr3.slice
      have M3 := Lib.hid hr3
      have R3 := Lib.hid (R2.out.keep hb3)
      have K3 := Lib.hid (K2.out.trans (hb3.mono K2.out.size))
      clear hr3 hb3 O1 K2 R2
      go_wp2_with fail
      refine (O2.out _).mono ?_
      rintro e w4 ⟨v4, rfl, hr4, hb4⟩
      obtain ⟨va4, vc4, rfl, _⟩ := hr4.slice
      have B4 := Lib.hid (B2.out _ _ hr4)
      have M4 := Lib.hid (M3.out.keep hb4)
      have R4 := Lib.hid (R3.out.keep hb4)
      have K4 := Lib.hid (K3.out.trans (hb4.mono K3.out.size))
      clear hr4 hb4 O2 K3 R3 M3 B2
      go_wp2_with fail
      refine B4.out.mono ?_
      rintro e w5 ⟨rfl, hb5⟩
      have M5 := Lib.hid (M4.out.keep hb5)
      have R5 := Lib.hid (R4.out.keep hb5)
      have K5 := Lib.hid (K4.out.trans (hb5.mono K4.out.size))
      clear hb5 B4 K4 R4 M4
      go_wp2_with fail
      refine (awake10_any _).mono ?_
      rintro e w7 ⟨rfl, hb7⟩
      go_wp2_with fail
      go_ret
      exact ⟨rfl, K5.out.trans (hb7.mono K5.out.size)⟩
end Go.Proofs.YtfgimhgkjodcgaaDoor

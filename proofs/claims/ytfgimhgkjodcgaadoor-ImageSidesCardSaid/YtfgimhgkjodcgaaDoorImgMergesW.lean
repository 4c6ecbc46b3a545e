/- The walk of ImageMerges. -/
import Derived.Test.YtfgimhgkjodcgaaDoorFrame
import Derived.Test.YtfgimhgkjodcgaaDoorGen
import Derived.Test.YtfgimhgkjodcgaaDoorBdX
import Derived.Test.YtfgimhgkjodcgaaDoorMeX
import Derived.Test.YtfgimhgkjodcgaaDoorImgMath
import Derived.Test.YtfgimhgkjodcgaaDoorMarkMath
import Derived.Test.YtfgimhgkjodcgaaDoorMergeIW
import Derived.Test.YtfgimhgkjodcgaaDoorNextIW
import Derived.Test.YtfgimhgkjodcgaaDoorOwnL
import Derived.Test.YtfgimhgkjodcgaaDoorProg
import Derived.Test.YtfgimhgkjodcgaaDoorReadW
import Derived.Test.YtfgimhgkjodcgaaDoorCkX
import Derived.Test.YtfgimhgkjodcgaaDoorPuX
import Derived.Test.YtfgimhgkjodcgaaDoorRefMerge2W
import Derived.Test.YtfgimhgkjodcgaaDoorTrX
import Derived.Test.YtfgimhgkjodcgaaDoorRowN
import Derived.Test.YtfgimhgkjodcgaaDoorRows
import Derived.Test.YtfgimhgkjodcgaaDoorShelf
import Derived.Test.YtfgimhgkjodcgaaDoorSoX
import Derived.Test.YtfgimhgkjodcgaaDoorTmX
import Derived.Test.YtfgimhgkjodcgaaDoorTlX
import Derived.Test.YtfgimhgkjodcgaaDoorTreeMath
import Derived.BigQuiet
import Derived.BigRegion
import Derived.Deep.Cut
import Derived.Deep.CutBlock
import Derived.Deep.CutRange
import Derived.Deep.DeepCutAuto
import Derived.Deep.QuietTactic
import Derived.Deep.RegionHeld
import Derived.Deep.Slices
import Derived.Deep.Strs
import Derived.Laws.Externs
import Derived.Laws.RangeAny
import Derived.Laws.ResultCell
import Derived.Lib.AppendStr
import Derived.Lib.Builder
import Derived.Lib.Hide
import Derived.Lib.SmallJoins
import Derived.Lib.Strings
import Derived.Lib.Walk
import Derived.LoopIn
import Derived.LoopNIn
import Derived.LoopTactic
import Derived.Outline
import Derived.OwnWalkIn
import Derived.RangeFuncBound
import Derived.RangeFuncCalls
import Derived.RangeFuncLeaves
import Derived.RangeFuncNested
import Derived.Shelf.Abstract
import Derived.Shelf.RegionOpen
import Derived.StillTail
import Derived.TacticsInMore
import Derived.WalkKit
import Derived.WalkLawsBesides
import Derived.WalkSpells
set_option linter.unusedVariables false
namespace Go.Proofs.YtfgimhgkjodcgaaDoor
open Go.RowKit

theorem mergeS_len (s t u : Txt) : (mergeS s t u).l.length ≤ 768 := by
  obtain ⟨ox, lx⟩ := treeS_ok s
  obtain ⟨oy, ly⟩ := treeS_ok t
  obtain ⟨oz, lz⟩ := treeS_ok u
  unfold mergeS
  split
  · simp
  · split
    · simp
    · split
      · simp
      · generalize (treeS s).1 = x at *
        generalize (treeS t).1 = y at *
        generalize (treeS u).1 = z at *
        have h1 : (mergeL x y z).length ≤ 768 := by
          obtain ⟨_, hal⟩ := allS_ok (x ++ y ++ z) [] (by simp) (fun f hf => by
            rcases List.mem_append.1 hf with hf | hf
            · rcases List.mem_append.1 hf with hf | hf
              · exact ox f hf
              · exact oy f hf
            · exact oz f hf)
          have hxl : (x ++ y ++ z).length = x.length + y.length + z.length := by rw [List.length_append, List.length_append]
          rw [hxl, List.length_nil] at hal
          unfold mergeL
          rw [sortI_len]
          omega
        have h2 := flat_len (fun f : FileD => toldM x y z f.path) 1 (mergeL x y z) (fun f _ => toldM_len x y z f.path)
        unfold mergeE
        split
        · simp
        · unfold mergeT
          dsimp only
          omega
set_option maxRecDepth 100000 in
set_option maxHeartbeats 1000000 in
theorem texts10_any (v1 v2 : Value) (l : List Txt) (w : World) (h1 : RowN encS 1 (fun _ => True) w v1 l) (h2 : RowN encS 1 (fun _ => True) w v2 l) (hl : l.length ≤ 1000000) :
    Calls Tryd.prog 26 #[v1, v2] w fun e w' => e = .returned (.bool true) ∧ Below w.heap.size w w' := by
  obtain ⟨a1, c1, rfl, _⟩ := h1.slice
  obtain ⟨a2, c2, rfl, _⟩ := h2.slice
  have HC1 := Lib.hid h1; clear h1
  have HC2 := Lib.hid h2; clear h2
  have hne : ((l.length : Int) != (l.length : Int)) = false := by simp
  go_enter Tryd.func26, Tryd.ntmps26
  go_wp2_with fail
  go_loopw [5] (fun i wr => ∃ k : Nat, k ≤ l.length ∧ i = .int .i64 k ∧ Below w.heap.size w wr) (fun i _ => l.length - (intOf i).toNat)
  case atStart => exact ⟨0, by omega, rfl, Below.refl _ _⟩
  case round =>
    obtain ⟨k, hk, rfl, hbel⟩ := hrel
    have HB := Lib.hid hbel; clear hbel
    by_cases hlt : k < l.length
    · obtain ⟨g1, o1, rfl, hs1⟩ := HC1.out.el hlt
      obtain ⟨g2, o2, rfl, hs2⟩ := HC2.out.el hlt
      have e0 := ((hs1 k hlt).new HB.out) 0 _ rfl
      have f0 := ((hs2 k hlt).new HB.out) 0 _ rfl
      rw [Nat.add_zero, Nat.mul_one] at e0 f0
      clear hs1 hs2
      generalize l[k] = x at *
      have i1 : (k : Int) < (l.length : Int) := by omega
      have i0 : (0 : Int) ≤ (k : Int) := by omega
      have q1 : (x == x) = true := by simp
      have q2 : (x != x) = false := by simp
      go_wp2_with fail
      go_quiet (fail)
      have HBQ := Lib.hid (HB.out.trans ((Below_drewN (Below.refl wr.heap.size wr) nq).mono HB.out.size))
      generalize wr.drewN nq = w3 at *
      go_wp2_with fail
      go_roundw
      case rel => exact ⟨k + 1, by omega, by go_num, HBQ.out⟩
      case measure => simp [intOf]; omega
    · obtain rfl : k = l.length := by omega
      have i1 : ¬ (l.length : Int) < (l.length : Int) := by omega
      go_wp2_with fail
      go_ret
      exact ⟨rfl, HB.out⟩
set_option maxRecDepth 100000 in
set_option maxHeartbeats 1000000 in
theorem imageMerges_walk (s : Txt) (hs : s.length ≤ 140737488351232) (t : Txt) (ht : t.length ≤ 140737488351232) (u : Txt) (hu : u.length ≤ 140737488351232) (w : World) :
    Calls Tryd.prog 9 #[.string ⟨s.toArray⟩, .string ⟨t.toArray⟩, .string ⟨u.toArray⟩] w fun e w' => e = .returned (.bool true) ∧ Below w.heap.size w w' := by
  have C1 := Lib.hid (fun w' => cut10_any s w' hs)
  have C2 := Lib.hid (fun w' => cut10_any t w' ht)
  have C3 := Lib.hid (fun w' => cut10_any u w' hu)
  have l1 : (s.take 20000).length ≤ 20000 := List.length_take_le _ _
  have l2 : (t.take 20000).length ≤ 20000 := List.length_take_le _ _
  have l3 : (u.take 20000).length ≤ 20000 := List.length_take_le _ _
  generalize s.take 20000 = s' at *
  generalize t.take 20000 = t' at *
  generalize u.take 20000 = u' at *
  have B1 := Lib.hid (fun w' => iMerge_any s' t' u' w' (by omega) (by omega) (by omega))
  have B2 := Lib.hid (fun w' => refMergeI_any s' t' u' w' (by omega) (by omega) (by omega))
  have hln := mergeS_len s' t' u'
  generalize mergeS s' t' u' = res at *
  obtain ⟨ms, ml, me⟩ := res
  dsimp only at B1 B2 hln
  have q0 : (ms == ms) = true := by simp
  have q1 : (me == me) = true := by simp
  go_enter Tryd.func9, Tryd.ntmps9
  go_wp2_with fail
  refine (C1.out _).mono ?_
  rintro e w0 ⟨rfl, rfl⟩
  go_wp2_with fail
  refine (C2.out _).mono ?_
  rintro e w0 ⟨rfl, rfl⟩
  go_wp2_with fail
  refine (C3.out _).mono ?_
  rintro e w0 ⟨rfl, rfl⟩
  clear C1 C2 C3
  go_wp2_with fail
  refine (B1.out _).mono ?_
  rintro e w1 ⟨v1, rfl, hr1, hb1⟩
  obtain ⟨va1, vc1, rfl, _⟩ := hr1.slice
  have R1 := Lib.hid hr1
  have K1 := Lib.hid hb1
  clear hr1 hb1 B1
  go_wp2_with fail
  refine (B2.out _).mono ?_
  rintro e w2 ⟨v2, rfl, hr2, hb2⟩
  obtain ⟨va2, vc2, rfl, _⟩ := hr2.slice
  have R2 := Lib.hid hr2
  have R1b := Lib.hid (R1.out.keep hb2)
  have K2 := Lib.hid (K1.out.trans (hb2.mono K1.out.size))
  clear hr2 hb2 B2 R1 K1
  go_wp2_with fail
  refine (texts10_any _ _ ml _ R1b.out R2.out (by omega)).mono ?_
  rintro e w4 ⟨rfl, hb4⟩
  have K4 := Lib.hid (K2.out.trans (hb4.mono K2.out.size))
  clear hb4
  go_wp2_with fail
  refine (awake10_any _).mono ?_
  rintro e w6 ⟨rfl, hb6⟩
  go_wp2_with fail
  go_ret
  exact ⟨rfl, K4.out.trans (hb6.mono K4.out.size)⟩
end Go.Proofs.YtfgimhgkjodcgaaDoor

/- The walk of ImageSides: what one side alone changed is taken; both sides' order matters only for what is told. -/
import Derived.Test.YtfgimhgkjodcgaaDoorArgTree
import Derived.Test.YtfgimhgkjodcgaaDoorFrame
import Derived.Test.YtfgimhgkjodcgaaDoorGen
import Derived.Test.YtfgimhgkjodcgaaDoorBdX
import Derived.Test.YtfgimhgkjodcgaaDoorMeX
import Derived.Test.YtfgimhgkjodcgaaDoorMtX
import Derived.Test.YtfgimhgkjodcgaaDoorImgFewW
import Derived.Test.YtfgimhgkjodcgaaDoorImgMath
import Derived.Test.YtfgimhgkjodcgaaDoorImgMergesW
import Derived.Test.YtfgimhgkjodcgaaDoorMarkMath
import Derived.Test.YtfgimhgkjodcgaaDoorMergeIW
import Derived.Test.YtfgimhgkjodcgaaDoorOwnL
import Derived.Test.YtfgimhgkjodcgaaDoorProg
import Derived.Test.YtfgimhgkjodcgaaDoorReadW
import Derived.Test.YtfgimhgkjodcgaaDoorPuX
import Derived.Test.YtfgimhgkjodcgaaDoorRowN
import Derived.Test.YtfgimhgkjodcgaaDoorRows
import Derived.Test.YtfgimhgkjodcgaaDoorShelf
import Derived.Test.YtfgimhgkjodcgaaDoorSoX
import Derived.Test.YtfgimhgkjodcgaaDoorTmX
import Derived.Test.YtfgimhgkjodcgaaDoorTlX
import Derived.Test.YtfgimhgkjodcgaaDoorTreeMath
import Derived.BigQuiet
import Derived.BigRegion
import Derived.Deep.Cut
import Derived.Deep.CutBlock
import Derived.Deep.CutRange
import Derived.Deep.DeepCutAuto
import Derived.Deep.QuietTactic
import Derived.Deep.RegionHeld
import Derived.Laws.Externs
import Derived.Laws.RangeAny
import Derived.Laws.ResultCell
import Derived.Lib.AppendStr
import Derived.Lib.Builder
import Derived.Lib.Hide
import Derived.Lib.Strings
import Derived.Lib.Walk
import Derived.LoopIn
import Derived.LoopNIn
import Derived.LoopTactic
import Derived.Outline
import Derived.OwnWalkIn
import Derived.RangeFuncBound
import Derived.RangeFuncCalls
import Derived.RangeFuncLeaves
import Derived.RangeFuncNested
import Derived.Shelf.Abstract
import Derived.Shelf.RegionOpen
import Derived.StillTail
import Derived.TacticsInMore
import Derived.WalkKit
import Derived.WalkLawsBesides
import Derived.WalkSpells
set_option linter.unusedVariables false
namespace Go.Proofs.YtfgimhgkjodcgaaDoor
open Go.RowKit

theorem img_len (l : List FileD) : (imgS l).1.length ≤ 524288 := by
  unfold imgS
  by_cases h1 : checkS l = 0
  · rw [if_neg (fun k => k h1)]
    by_cases h2 : 524288 < (imgB l).length
    · rw [if_pos h2]; simp
    · rw [if_neg h2]; dsimp only; omega
  · rw [if_pos h1]; simp
theorem img_pair {l : List FileD} {A : Txt} {e : Int} (h : imgS l = (A, e)) (he : e = 0) : treeS A = (l, 0) ∧ AscF l := by
  subst he
  have h2 : (imgS l).2 = 0 := by rw [h]
  have k := treeS_fore h2
  rw [h] at k
  exact ⟨k, ascF_check (img_check h2)⟩
theorem merge_of {x y z : List FileD} {A B C : Txt} (hx : treeS A = (x, 0)) (hy : treeS B = (y, 0)) (hz : treeS C = (z, 0)) : mergeS A B C = mergeE x y z := by
  unfold mergeS
  rw [hx, hy, hz, if_neg (by simp), if_neg (by simp), if_neg (by simp)]
theorem sides_one {x z : List FileD} {A B : Txt} (hx : imgS x = (A, 0)) (hz : imgS z = (B, 0)) : mergeS A A B = ⟨B, [], 0⟩ ∧ mergeS A B A = ⟨B, [], 0⟩ := by
  obtain ⟨tx, ax⟩ := img_pair hx rfl
  obtain ⟨tz, az⟩ := img_pair hz rfl
  obtain ⟨k1, k2⟩ := side_left ax az
  obtain ⟨j1, j2⟩ := side_right ax az
  refine ⟨?_, ?_⟩
  · rw [merge_of tx tx tz]
    unfold mergeE
    rw [k1, k2, hz, if_neg (by simp)]
  · rw [merge_of tx tz tx]
    unfold mergeE
    rw [j1, j2, hz, if_neg (by simp)]
structure SwapD (r q : MgR) : Prop where
  e1 : r.e ≠ 0 → r.s = []
  e2 : q.e ≠ 0 → q.s = []
  l : r.e = 0 → q.e = 0 → q.l = r.l
  s : r.e = 0 → q.e = 0 → r.l = [] → q.s = r.s
theorem sides_two {x y z : List FileD} {A B C : Txt} (hx : imgS x = (A, 0)) (hy : imgS y = (B, 0)) (hz : imgS z = (C, 0)) : SwapD (mergeS A B C) (mergeS A C B) := by
  obtain ⟨tx, ax⟩ := img_pair hx rfl
  obtain ⟨ty, ay⟩ := img_pair hy rfl
  obtain ⟨tz, az⟩ := img_pair hz rfl
  obtain ⟨k1, k2⟩ := sides_swap ax ay az
  rw [merge_of tx ty tz, merge_of tx tz ty]
  unfold mergeE
  rw [k1] at k2 ⊢
  generalize mergeT x z y (mergeL x z y) = T at *
  generalize mergeO x y z (mergeL x y z) = O1 at *
  generalize mergeO x z y (mergeL x z y) = O2 at *
  by_cases h1 : (imgS O1).2 = 0
  · rw [if_neg (fun k => k h1)]
    by_cases h2 : (imgS O2).2 = 0
    · rw [if_neg (fun k => k h2)]
      exact ⟨fun h => absurd rfl h, fun h => absurd rfl h, fun _ _ => rfl, fun _ _ h => by dsimp only at h ⊢; rw [k2 h]⟩
    · rw [if_pos h2]
      exact ⟨fun h => absurd rfl h, fun _ => rfl, fun _ h => absurd h h2, fun _ h => absurd h h2⟩
  · rw [if_pos h1]
    refine ⟨fun _ => rfl, fun h => ?_, fun h => absurd h h1, fun h => absurd h h1⟩
    by_cases h2 : (imgS O2).2 = 0
    · rw [if_neg (fun k => k h2)] at h; exact absurd rfl h
    · rw [if_pos h2]
set_option maxRecDepth 100000 in
set_option maxHeartbeats 4000000 in
theorem imageSides_walk (v1 v2 v3 : Value) (w : World) (h1 : FsIn w v1) (h2 : FsIn w v2) (h3 : FsIn w v3) :
    Calls Tryd.prog 10 #[v1, v2, v3] w fun e w' => e = .returned (.bool true) ∧ Below w.heap.size w w' := by
  obtain ⟨xs1, hr1, hok1, hl1⟩ := h1
  obtain ⟨xs2, hr2, hok2, hl2⟩ := h2
  obtain ⟨xs3, hr3, hok3, hl3⟩ := h3
  have hr1 := hr1.mono (M := fun _ => True) (fun _ _ => trivial)
  have hr2 := hr2.mono (M := fun _ => True) (fun _ _ => trivial)
  have hr3 := hr3.mono (M := fun _ => True) (fun _ _ => trivial)
  have FW1 := Lib.hid (fun w' (hb : Below w.heap.size w w') => few10_any v1 xs1 w' (hr1.keep hb) hok1 (by omega))
  obtain ⟨hy1, hm1⟩ := fewI_ok hok1
  have HY1 := Lib.hid hy1
  obtain ⟨a1, c1, hv1, _⟩ := hr1.slice
  subst hv1
  clear hr1 hok1 hl1 hy1
  generalize fewI xs1 = ys1 at *
  have IO1 := Lib.hid (fun v w' (hr : RowN encF 3 (fun _ => True) w' v ys1) => iOf_any v ys1 w' hr HY1.out (by omega))
  have hA1 := img_len ys1
  obtain ⟨im1, him1⟩ : ∃ im, im = imgS ys1 := ⟨_, rfl⟩
  rw [← him1] at IO1 hA1
  obtain ⟨A1, e1⟩ := im1
  dsimp only at IO1 hA1
  have HI1 := Lib.hid him1.symm
  clear him1
  have FW2 := Lib.hid (fun w' (hb : Below w.heap.size w w') => few10_any v2 xs2 w' (hr2.keep hb) hok2 (by omega))
  obtain ⟨hy2, hm2⟩ := fewI_ok hok2
  have HY2 := Lib.hid hy2
  obtain ⟨a2, c2, hv2, _⟩ := hr2.slice
  subst hv2
  clear hr2 hok2 hl2 hy2
  generalize fewI xs2 = ys2 at *
  have IO2 := Lib.hid (fun v w' (hr : RowN encF 3 (fun _ => True) w' v ys2) => iOf_any v ys2 w' hr HY2.out (by omega))
  have hA2 := img_len ys2
  obtain ⟨im2, him2⟩ : ∃ im, im = imgS ys2 := ⟨_, rfl⟩
  rw [← him2] at IO2 hA2
  obtain ⟨A2, e2⟩ := im2
  dsimp only at IO2 hA2
  have HI2 := Lib.hid him2.symm
  clear him2
  have FW3 := Lib.hid (fun w' (hb : Below w.heap.size w w') => few10_any v3 xs3 w' (hr3.keep hb) hok3 (by omega))
  obtain ⟨hy3, hm3⟩ := fewI_ok hok3
  have HY3 := Lib.hid hy3
  obtain ⟨a3, c3, hv3, _⟩ := hr3.slice
  subst hv3
  clear hr3 hok3 hl3 hy3
  generalize fewI xs3 = ys3 at *
  have IO3 := Lib.hid (fun v w' (hr : RowN encF 3 (fun _ => True) w' v ys3) => iOf_any v ys3 w' hr HY3.out (by omega))
  have hA3 := img_len ys3
  obtain ⟨im3, him3⟩ : ∃ im, im = imgS ys3 := ⟨_, rfl⟩
  rw [← him3] at IO3 hA3
  obtain ⟨A3, e3⟩ := im3
  dsimp only at IO3 hA3
  have HI3 := Lib.hid him3.symm
  clear him3
  have AW := Lib.hid (fun w' => awake10_any w')
  by_cases he1 : e1 = 0
  · by_cases he2 : e2 = 0
    · by_cases he3 : e3 = 0
      · subst he1
        subst he2
        subst he3
        obtain ⟨s1, s2⟩ := sides_one HI1.out HI2.out
        have sw := sides_two HI1.out HI2.out HI3.out
        have N1 := Lib.hid (fun w' => iMerge_any A1 A1 A2 w' (by omega) (by omega) (by omega))
        have N2 := Lib.hid (fun w' => iMerge_any A1 A2 A1 w' (by omega) (by omega) (by omega))
        have N3 := Lib.hid (fun w' => iMerge_any A1 A2 A3 w' (by omega) (by omega) (by omega))
        have N4 := Lib.hid (fun w' => iMerge_any A1 A3 A2 w' (by omega) (by omega) (by omega))
        have hml := mergeS_len A1 A2 A3
        rw [s1] at N1
        rw [s2] at N2
        dsimp only at N1 N2
        generalize mergeS A1 A2 A3 = r3 at *
        generalize mergeS A1 A3 A2 = r4 at *
        obtain ⟨rs, rl, re⟩ := r3
        obtain ⟨qs, ql, qe⟩ := r4
        have SW := Lib.hid sw
        dsimp only at N3 N4 hml
        have qa : (A2 != A2) = false := by simp
        have qb : (A2 == A2) = true := by simp
        clear s1 s2 sw HI1 HI2 HI3
        by_cases hre : re = 0
        · by_cases hqe : qe = 0
          · have hql : ql = rl := SW.out.l hre hqe
            subst hql
            have HS := Lib.hid (SW.out.s hre hqe)
            subst hre
            subst hqe
            clear SW
            by_cases hn : ql = []
            · have hqs : qs = rs := HS.out hn
              subst hqs
              have HJ := Lib.hid hn
              have qc : (qs == qs) = true := by simp
              clear HS hn
              go_enter Tryd.func10, Tryd.ntmps10
              go_wp2_with fail
              refine (FW1.out _ (Below.refl w.heap.size w)).mono ?_
              rintro e u1 ⟨b1, rfl, ho1, hb1⟩
              obtain ⟨x1, m1, d1, hv1⟩ := own_slice ho1
              subst hv1
              have O1 := Lib.hid ho1
              have U1 := Lib.hid ((Below.refl w.heap.size w).trans (hb1.mono (Below.refl w.heap.size w).size))
              clear ho1 hb1
              go_wp2_with fail
              refine (IO1.out _ u1 ((OwnN.row encF_ok O1.out).mono (fun _ _ => trivial))).mono ?_
              rintro e t1 ⟨rfl, hb1⟩
              have W1 := Lib.hid (U1.out.trans (hb1.mono U1.out.size))
              clear hb1 O1 U1
              go_wp2_with fail
              refine (FW2.out _ W1.out).mono ?_
              rintro e u2 ⟨b2, rfl, ho2, hb2⟩
              obtain ⟨x2, m2, d2, hv2⟩ := own_slice ho2
              subst hv2
              have O2 := Lib.hid ho2
              have U2 := Lib.hid (W1.out.trans (hb2.mono W1.out.size))
              clear ho2 hb2
              go_wp2_with fail
              refine (IO2.out _ u2 ((OwnN.row encF_ok O2.out).mono (fun _ _ => trivial))).mono ?_
              rintro e t2 ⟨rfl, hb2⟩
              have W2 := Lib.hid (U2.out.trans (hb2.mono U2.out.size))
              clear hb2 O2 U2
              go_wp2_with fail
              refine (FW3.out _ W2.out).mono ?_
              rintro e u3 ⟨b3, rfl, ho3, hb3⟩
              obtain ⟨x3, m3, d3, hv3⟩ := own_slice ho3
              subst hv3
              have O3 := Lib.hid ho3
              have U3 := Lib.hid (W2.out.trans (hb3.mono W2.out.size))
              clear ho3 hb3
              go_wp2_with fail
              refine (IO3.out _ u3 ((OwnN.row encF_ok O3.out).mono (fun _ _ => trivial))).mono ?_
              rintro e t3 ⟨rfl, hb3⟩
              have W3 := Lib.hid (U3.out.trans (hb3.mono U3.out.size))
              clear hb3 O3 U3
              go_wp2_with fail
              refine (N1.out _).mono ?_
              rintro e y1 ⟨n1, rfl, hn1, hb1⟩
              obtain ⟨na1, nc1, hv1, _⟩ := hn1.slice
              subst hv1
              have Y1 := Lib.hid (W3.out.trans (hb1.mono W3.out.size))
              clear hb1 hn1
              go_wp2_with fail
              refine (N2.out _).mono ?_
              rintro e y2 ⟨n2, rfl, hn2, hb2⟩
              obtain ⟨na2, nc2, hv2, _⟩ := hn2.slice
              subst hv2
              have Y2 := Lib.hid (Y1.out.trans (hb2.mono Y1.out.size))
              clear hb2 hn2
              go_wp2_with fail
              refine (N3.out _).mono ?_
              rintro e y3 ⟨n3, rfl, hn3, hb3⟩
              obtain ⟨na3, nc3, hv3, _⟩ := hn3.slice
              subst hv3
              have RN3 := Lib.hid hn3
              have Y3 := Lib.hid (Y2.out.trans (hb3.mono Y2.out.size))
              clear hb3 hn3
              go_wp2_with fail
              refine (N4.out _).mono ?_
              rintro e y4 ⟨n4, rfl, hn4, hb4⟩
              obtain ⟨na4, nc4, hv4, _⟩ := hn4.slice
              subst hv4
              have RN3b := Lib.hid (RN3.out.keep hb4)
              have RN4 := Lib.hid hn4
              have Y4 := Lib.hid (Y3.out.trans (hb4.mono Y3.out.size))
              clear hb4 hn4
              go_wp2_with fail
              refine (texts10_any _ _ ql _ RN3b.out RN4.out (by omega)).mono ?_
              rintro e y5 ⟨rfl, hb5⟩
              have Y5 := Lib.hid (Y4.out.trans (hb5.mono Y4.out.size))
              clear hb5
              have j1 := HJ.out
              go_wp2_with fail
              refine (AW.out _).mono ?_
              rintro e w9 ⟨rfl, hb9⟩
              go_wp2_with fail
              go_ret
              exact ⟨rfl, Y5.out.trans (hb9.mono Y5.out.size)⟩
            · have HJ := Lib.hid hn
              clear HS hn
              go_enter Tryd.func10, Tryd.ntmps10
              go_wp2_with fail
              refine (FW1.out _ (Below.refl w.heap.size w)).mono ?_
              rintro e u1 ⟨b1, rfl, ho1, hb1⟩
              obtain ⟨x1, m1, d1, hv1⟩ := own_slice ho1
              subst hv1
              have O1 := Lib.hid ho1
              have U1 := Lib.hid ((Below.refl w.heap.size w).trans (hb1.mono (Below.refl w.heap.size w).size))
              clear ho1 hb1
              go_wp2_with fail
              refine (IO1.out _ u1 ((OwnN.row encF_ok O1.out).mono (fun _ _ => trivial))).mono ?_
              rintro e t1 ⟨rfl, hb1⟩
              have W1 := Lib.hid (U1.out.trans (hb1.mono U1.out.size))
              clear hb1 O1 U1
              go_wp2_with fail
              refine (FW2.out _ W1.out).mono ?_
              rintro e u2 ⟨b2, rfl, ho2, hb2⟩
              obtain ⟨x2, m2, d2, hv2⟩ := own_slice ho2
              subst hv2
              have O2 := Lib.hid ho2
              have U2 := Lib.hid (W1.out.trans (hb2.mono W1.out.size))
              clear ho2 hb2
              go_wp2_with fail
              refine (IO2.out _ u2 ((OwnN.row encF_ok O2.out).mono (fun _ _ => trivial))).mono ?_
              rintro e t2 ⟨rfl, hb2⟩
              have W2 := Lib.hid (U2.out.trans (hb2.mono U2.out.size))
              clear hb2 O2 U2
              go_wp2_with fail
              refine (FW3.out _ W2.out).mono ?_
              rintro e u3 ⟨b3, rfl, ho3, hb3⟩
              obtain ⟨x3, m3, d3, hv3⟩ := own_slice ho3
              subst hv3
              have O3 := Lib.hid ho3
              have U3 := Lib.hid (W2.out.trans (hb3.mono W2.out.size))
              clear ho3 hb3
              go_wp2_with fail
              refine (IO3.out _ u3 ((OwnN.row encF_ok O3.out).mono (fun _ _ => trivial))).mono ?_
              rintro e t3 ⟨rfl, hb3⟩
              have W3 := Lib.hid (U3.out.trans (hb3.mono U3.out.size))
              clear hb3 O3 U3
              go_wp2_with fail
              refine (N1.out _).mono ?_
              rintro e y1 ⟨n1, rfl, hn1, hb1⟩
              obtain ⟨na1, nc1, hv1, _⟩ := hn1.slice
              subst hv1
              have Y1 := Lib.hid (W3.out.trans (hb1.mono W3.out.size))
              clear hb1 hn1
              go_wp2_with fail
              refine (N2.out _).mono ?_
              rintro e y2 ⟨n2, rfl, hn2, hb2⟩
              obtain ⟨na2, nc2, hv2, _⟩ := hn2.slice
              subst hv2
              have Y2 := Lib.hid (Y1.out.trans (hb2.mono Y1.out.size))
              clear hb2 hn2
              go_wp2_with fail
              refine (N3.out _).mono ?_
              rintro e y3 ⟨n3, rfl, hn3, hb3⟩
              obtain ⟨na3, nc3, hv3, _⟩ := hn3.slice
              subst hv3
              have RN3 := Lib.hid hn3
              have Y3 := Lib.hid (Y2.out.trans (hb3.mono Y2.out.size))
              clear hb3 hn3
              go_wp2_with fail
              refine (N4.out _).mono ?_
              rintro e y4 ⟨n4, rfl, hn4, hb4⟩
              obtain ⟨na4, nc4, hv4, _⟩ := hn4.slice
              subst hv4
              have RN3b := Lib.hid (RN3.out.keep hb4)
              have RN4 := Lib.hid hn4
              have Y4 := Lib.hid (Y3.out.trans (hb4.mono Y3.out.size))
              clear hb4 hn4
              go_wp2_with fail
              refine (texts10_any _ _ ql _ RN3b.out RN4.out (by omega)).mono ?_
              rintro e y5 ⟨rfl, hb5⟩
              have Y5 := Lib.hid (Y4.out.trans (hb5.mono Y4.out.size))
              clear hb5
              have j1 := HJ.out
              have j2 : 0 < ql.length := List.length_pos_iff.2 j1
              have j3 : (0 : Int) < (ql.length : Int) := by omega
              go_wp2_with fail
              refine (AW.out _).mono ?_
              rintro e w9 ⟨rfl, hb9⟩
              go_wp2_with fail
              go_ret
              exact ⟨rfl, Y5.out.trans (hb9.mono Y5.out.size)⟩
          · have q1 : (qe != 0) = true := by simp [hqe]
            have q2 : (qe == 0) = false := by simp [hqe]
            obtain rfl : qs = [] := SW.out.e2 hqe
            subst hre
            clear SW hqe
            go_enter Tryd.func10, Tryd.ntmps10
            go_wp2_with fail
            refine (FW1.out _ (Below.refl w.heap.size w)).mono ?_
            rintro e u1 ⟨b1, rfl, ho1, hb1⟩
            obtain ⟨x1, m1, d1, hv1⟩ := own_slice ho1
            subst hv1
            have O1 := Lib.hid ho1
            have U1 := Lib.hid ((Below.refl w.heap.size w).trans (hb1.mono (Below.refl w.heap.size w).size))
            clear ho1 hb1
            go_wp2_with fail
            refine (IO1.out _ u1 ((OwnN.row encF_ok O1.out).mono (fun _ _ => trivial))).mono ?_
            rintro e t1 ⟨rfl, hb1⟩
            have W1 := Lib.hid (U1.out.trans (hb1.mono U1.out.size))
            clear hb1 O1 U1
            go_wp2_with fail
            refine (FW2.out _ W1.out).mono ?_
            rintro e u2 ⟨b2, rfl, ho2, hb2⟩
            obtain ⟨x2, m2, d2, hv2⟩ := own_slice ho2
            subst hv2
            have O2 := Lib.hid ho2
            have U2 := Lib.hid (W1.out.trans (hb2.mono W1.out.size))
            clear ho2 hb2
            go_wp2_with fail
            refine (IO2.out _ u2 ((OwnN.row encF_ok O2.out).mono (fun _ _ => trivial))).mono ?_
            rintro e t2 ⟨rfl, hb2⟩
            have W2 := Lib.hid (U2.out.trans (hb2.mono U2.out.size))
            clear hb2 O2 U2
            go_wp2_with fail
            refine (FW3.out _ W2.out).mono ?_
            rintro e u3 ⟨b3, rfl, ho3, hb3⟩
            obtain ⟨x3, m3, d3, hv3⟩ := own_slice ho3
            subst hv3
            have O3 := Lib.hid ho3
            have U3 := Lib.hid (W2.out.trans (hb3.mono W2.out.size))
            clear ho3 hb3
            go_wp2_with fail
            refine (IO3.out _ u3 ((OwnN.row encF_ok O3.out).mono (fun _ _ => trivial))).mono ?_
            rintro e t3 ⟨rfl, hb3⟩
            have W3 := Lib.hid (U3.out.trans (hb3.mono U3.out.size))
            clear hb3 O3 U3
            go_wp2_with fail
            refine (N1.out _).mono ?_
            rintro e y1 ⟨n1, rfl, hn1, hb1⟩
            obtain ⟨na1, nc1, hv1, _⟩ := hn1.slice
            subst hv1
            have Y1 := Lib.hid (W3.out.trans (hb1.mono W3.out.size))
            clear hb1 hn1
            go_wp2_with fail
            refine (N2.out _).mono ?_
            rintro e y2 ⟨n2, rfl, hn2, hb2⟩
            obtain ⟨na2, nc2, hv2, _⟩ := hn2.slice
            subst hv2
            have Y2 := Lib.hid (Y1.out.trans (hb2.mono Y1.out.size))
            clear hb2 hn2
            go_wp2_with fail
            refine (N3.out _).mono ?_
            rintro e y3 ⟨n3, rfl, hn3, hb3⟩
            obtain ⟨na3, nc3, hv3, _⟩ := hn3.slice
            subst hv3
            have RN3 := Lib.hid hn3
            have Y3 := Lib.hid (Y2.out.trans (hb3.mono Y2.out.size))
            clear hb3 hn3
            go_wp2_with fail
            refine (N4.out _).mono ?_
            rintro e y4 ⟨n4, rfl, hn4, hb4⟩
            obtain ⟨na4, nc4, hv4, _⟩ := hn4.slice
            subst hv4
            have RN3b := Lib.hid (RN3.out.keep hb4)
            have RN4 := Lib.hid hn4
            have Y4 := Lib.hid (Y3.out.trans (hb4.mono Y3.out.size))
            clear hb4 hn4
            go_wp2_with fail
            refine (AW.out _).mono ?_
            rintro e w9 ⟨rfl, hb9⟩
            go_wp2_with fail
            go_ret
            exact ⟨rfl, Y4.out.trans (hb9.mono Y4.out.size)⟩
        · have p1 : (re != 0) = true := by simp [hre]
          have p2 : (re == 0) = false := by simp [hre]
          obtain rfl : rs = [] := SW.out.e1 hre
          by_cases hqe : qe = 0
          · subst hqe
            clear SW hre
            go_enter Tryd.func10, Tryd.ntmps10
            go_wp2_with fail
            refine (FW1.out _ (Below.refl w.heap.size w)).mono ?_
            rintro e u1 ⟨b1, rfl, ho1, hb1⟩
            obtain ⟨x1, m1, d1, hv1⟩ := own_slice ho1
            subst hv1
            have O1 := Lib.hid ho1
            have U1 := Lib.hid ((Below.refl w.heap.size w).trans (hb1.mono (Below.refl w.heap.size w).size))
            clear ho1 hb1
            go_wp2_with fail
            refine (IO1.out _ u1 ((OwnN.row encF_ok O1.out).mono (fun _ _ => trivial))).mono ?_
            rintro e t1 ⟨rfl, hb1⟩
            have W1 := Lib.hid (U1.out.trans (hb1.mono U1.out.size))
            clear hb1 O1 U1
            go_wp2_with fail
            refine (FW2.out _ W1.out).mono ?_
            rintro e u2 ⟨b2, rfl, ho2, hb2⟩
            obtain ⟨x2, m2, d2, hv2⟩ := own_slice ho2
            subst hv2
            have O2 := Lib.hid ho2
            have U2 := Lib.hid (W1.out.trans (hb2.mono W1.out.size))
            clear ho2 hb2
            go_wp2_with fail
            refine (IO2.out _ u2 ((OwnN.row encF_ok O2.out).mono (fun _ _ => trivial))).mono ?_
            rintro e t2 ⟨rfl, hb2⟩
            have W2 := Lib.hid (U2.out.trans (hb2.mono U2.out.size))
            clear hb2 O2 U2
            go_wp2_with fail
            refine (FW3.out _ W2.out).mono ?_
            rintro e u3 ⟨b3, rfl, ho3, hb3⟩
            obtain ⟨x3, m3, d3, hv3⟩ := own_slice ho3
            subst hv3
            have O3 := Lib.hid ho3
            have U3 := Lib.hid (W2.out.trans (hb3.mono W2.out.size))
            clear ho3 hb3
            go_wp2_with fail
            refine (IO3.out _ u3 ((OwnN.row encF_ok O3.out).mono (fun _ _ => trivial))).mono ?_
            rintro e t3 ⟨rfl, hb3⟩
            have W3 := Lib.hid (U3.out.trans (hb3.mono U3.out.size))
            clear hb3 O3 U3
            go_wp2_with fail
            refine (N1.out _).mono ?_
            rintro e y1 ⟨n1, rfl, hn1, hb1⟩
            obtain ⟨na1, nc1, hv1, _⟩ := hn1.slice
            subst hv1
            have Y1 := Lib.hid (W3.out.trans (hb1.mono W3.out.size))
            clear hb1 hn1
            go_wp2_with fail
            refine (N2.out _).mono ?_
            rintro e y2 ⟨n2, rfl, hn2, hb2⟩
            obtain ⟨na2, nc2, hv2, _⟩ := hn2.slice
            subst hv2
            have Y2 := Lib.hid (Y1.out.trans (hb2.mono Y1.out.size))
            clear hb2 hn2
            go_wp2_with fail
            refine (N3.out _).mono ?_
            rintro e y3 ⟨n3, rfl, hn3, hb3⟩
            obtain ⟨na3, nc3, hv3, _⟩ := hn3.slice
            subst hv3
            have RN3 := Lib.hid hn3
            have Y3 := Lib.hid (Y2.out.trans (hb3.mono Y2.out.size))
            clear hb3 hn3
            go_wp2_with fail
            refine (N4.out _).mono ?_
            rintro e y4 ⟨n4, rfl, hn4, hb4⟩
            obtain ⟨na4, nc4, hv4, _⟩ := hn4.slice
            subst hv4
            have RN3b := Lib.hid (RN3.out.keep hb4)
            have RN4 := Lib.hid hn4
            have Y4 := Lib.hid (Y3.out.trans (hb4.mono Y3.out.size))
            clear hb4 hn4
            go_wp2_with fail
            refine (AW.out _).mono ?_
            rintro e w9 ⟨rfl, hb9⟩
            go_wp2_with fail
            go_ret
            exact ⟨rfl, Y4.out.trans (hb9.mono Y4.out.size)⟩
          · have q1 : (qe != 0) = true := by simp [hqe]
            have q2 : (qe == 0) = false := by simp [hqe]
            obtain rfl : qs = [] := SW.out.e2 hqe
            clear SW hre hqe
            go_enter Tryd.func10, Tryd.ntmps10
            go_wp2_with fail
            refine (FW1.out _ (Below.refl w.heap.size w)).mono ?_
            rintro e u1 ⟨b1, rfl, ho1, hb1⟩
            obtain ⟨x1, m1, d1, hv1⟩ := own_slice ho1
            subst hv1
            have O1 := Lib.hid ho1
            have U1 := Lib.hid ((Below.refl w.heap.size w).trans (hb1.mono (Below.refl w.heap.size w).size))
            clear ho1 hb1
            go_wp2_with fail
            refine (IO1.out _ u1 ((OwnN.row encF_ok O1.out).mono (fun _ _ => trivial))).mono ?_
            rintro e t1 ⟨rfl, hb1⟩
            have W1 := Lib.hid (U1.out.trans (hb1.mono U1.out.size))
            clear hb1 O1 U1
            go_wp2_with fail
            refine (FW2.out _ W1.out).mono ?_
            rintro e u2 ⟨b2, rfl, ho2, hb2⟩
            obtain ⟨x2, m2, d2, hv2⟩ := own_slice ho2
            subst hv2
            have O2 := Lib.hid ho2
            have U2 := Lib.hid (W1.out.trans (hb2.mono W1.out.size))
            clear ho2 hb2
            go_wp2_with fail
            refine (IO2.out _ u2 ((OwnN.row encF_ok O2.out).mono (fun _ _ => trivial))).mono ?_
            rintro e t2 ⟨rfl, hb2⟩
            have W2 := Lib.hid (U2.out.trans (hb2.mono U2.out.size))
            clear hb2 O2 U2
            go_wp2_with fail
            refine (FW3.out _ W2.out).mono ?_
            rintro e u3 ⟨b3, rfl, ho3, hb3⟩
            obtain ⟨x3, m3, d3, hv3⟩ := own_slice ho3
            subst hv3
            have O3 := Lib.hid ho3
            have U3 := Lib.hid (W2.out.trans (hb3.mono W2.out.size))
            clear ho3 hb3
            go_wp2_with fail
            refine (IO3.out _ u3 ((OwnN.row encF_ok O3.out).mono (fun _ _ => trivial))).mono ?_
            rintro e t3 ⟨rfl, hb3⟩
            have W3 := Lib.hid (U3.out.trans (hb3.mono U3.out.size))
            clear hb3 O3 U3
            go_wp2_with fail
            refine (N1.out _).mono ?_
            rintro e y1 ⟨n1, rfl, hn1, hb1⟩
            obtain ⟨na1, nc1, hv1, _⟩ := hn1.slice
            subst hv1
            have Y1 := Lib.hid (W3.out.trans (hb1.mono W3.out.size))
            clear hb1 hn1
            go_wp2_with fail
            refine (N2.out _).mono ?_
            rintro e y2 ⟨n2, rfl, hn2, hb2⟩
            obtain ⟨na2, nc2, hv2, _⟩ := hn2.slice
            subst hv2
            have Y2 := Lib.hid (Y1.out.trans (hb2.mono Y1.out.size))
            clear hb2 hn2
            go_wp2_with fail
            refine (N3.out _).mono ?_
            rintro e y3 ⟨n3, rfl, hn3, hb3⟩
            obtain ⟨na3, nc3, hv3, _⟩ := hn3.slice
            subst hv3
            have RN3 := Lib.hid hn3
            have Y3 := Lib.hid (Y2.out.trans (hb3.mono Y2.out.size))
            clear hb3 hn3
            go_wp2_with fail
            refine (N4.out _).mono ?_
            rintro e y4 ⟨n4, rfl, hn4, hb4⟩
            obtain ⟨na4, nc4, hv4, _⟩ := hn4.slice
            subst hv4
            have RN3b := Lib.hid (RN3.out.keep hb4)
            have RN4 := Lib.hid hn4
            have Y4 := Lib.hid (Y3.out.trans (hb4.mono Y3.out.size))
            clear hb4 hn4
            go_wp2_with fail
            refine (AW.out _).mono ?_
            rintro e w9 ⟨rfl, hb9⟩
            go_wp2_with fail
            go_ret
            exact ⟨rfl, Y4.out.trans (hb9.mono Y4.out.size)⟩
      · have q3 : (e3 != 0) = true := by simp [he3]
        subst he1
        subst he2
        clear he3
        go_enter Tryd.func10, Tryd.ntmps10
        go_wp2_with fail
        refine (FW1.out _ (Below.refl w.heap.size w)).mono ?_
        rintro e u1 ⟨b1, rfl, ho1, hb1⟩
        obtain ⟨x1, m1, d1, hv1⟩ := own_slice ho1
        subst hv1
        have O1 := Lib.hid ho1
        have U1 := Lib.hid ((Below.refl w.heap.size w).trans (hb1.mono (Below.refl w.heap.size w).size))
        clear ho1 hb1
        go_wp2_with fail
        refine (IO1.out _ u1 ((OwnN.row encF_ok O1.out).mono (fun _ _ => trivial))).mono ?_
        rintro e t1 ⟨rfl, hb1⟩
        have W1 := Lib.hid (U1.out.trans (hb1.mono U1.out.size))
        clear hb1 O1 U1
        go_wp2_with fail
        refine (FW2.out _ W1.out).mono ?_
        rintro e u2 ⟨b2, rfl, ho2, hb2⟩
        obtain ⟨x2, m2, d2, hv2⟩ := own_slice ho2
        subst hv2
        have O2 := Lib.hid ho2
        have U2 := Lib.hid (W1.out.trans (hb2.mono W1.out.size))
        clear ho2 hb2
        go_wp2_with fail
        refine (IO2.out _ u2 ((OwnN.row encF_ok O2.out).mono (fun _ _ => trivial))).mono ?_
        rintro e t2 ⟨rfl, hb2⟩
        have W2 := Lib.hid (U2.out.trans (hb2.mono U2.out.size))
        clear hb2 O2 U2
        go_wp2_with fail
        refine (FW3.out _ W2.out).mono ?_
        rintro e u3 ⟨b3, rfl, ho3, hb3⟩
        obtain ⟨x3, m3, d3, hv3⟩ := own_slice ho3
        subst hv3
        have O3 := Lib.hid ho3
        have U3 := Lib.hid (W2.out.trans (hb3.mono W2.out.size))
        clear ho3 hb3
        go_wp2_with fail
        refine (IO3.out _ u3 ((OwnN.row encF_ok O3.out).mono (fun _ _ => trivial))).mono ?_
        rintro e t3 ⟨rfl, hb3⟩
        have W3 := Lib.hid (U3.out.trans (hb3.mono U3.out.size))
        clear hb3 O3 U3
        go_wp2_with fail
        refine (AW.out _).mono ?_
        rintro e w9 ⟨rfl, hb9⟩
        go_wp2_with fail
        go_ret
        exact ⟨rfl, W3.out.trans (hb9.mono W3.out.size)⟩
    · have q2 : (e2 != 0) = true := by simp [he2]
      subst he1
      clear he2
      go_enter Tryd.func10, Tryd.ntmps10
      go_wp2_with fail
      refine (FW1.out _ (Below.refl w.heap.size w)).mono ?_
      rintro e u1 ⟨b1, rfl, ho1, hb1⟩
      obtain ⟨x1, m1, d1, hv1⟩ := own_slice ho1
      subst hv1
      have O1 := Lib.hid ho1
      have U1 := Lib.hid ((Below.refl w.heap.size w).trans (hb1.mono (Below.refl w.heap.size w).size))
      clear ho1 hb1
      go_wp2_with fail
      refine (IO1.out _ u1 ((OwnN.row encF_ok O1.out).mono (fun _ _ => trivial))).mono ?_
      rintro e t1 ⟨rfl, hb1⟩
      have W1 := Lib.hid (U1.out.trans (hb1.mono U1.out.size))
      clear hb1 O1 U1
      go_wp2_with fail
      refine (FW2.out _ W1.out).mono ?_
      rintro e u2 ⟨b2, rfl, ho2, hb2⟩
      obtain ⟨x2, m2, d2, hv2⟩ := own_slice ho2
      subst hv2
      have O2 := Lib.hid ho2
      have U2 := Lib.hid (W1.out.trans (hb2.mono W1.out.size))
      clear ho2 hb2
      go_wp2_with fail
      refine (IO2.out _ u2 ((OwnN.row encF_ok O2.out).mono (fun _ _ => trivial))).mono ?_
      rintro e t2 ⟨rfl, hb2⟩
      have W2 := Lib.hid (U2.out.trans (hb2.mono U2.out.size))
      clear hb2 O2 U2
      go_wp2_with fail
      refine (FW3.out _ W2.out).mono ?_
      rintro e u3 ⟨b3, rfl, ho3, hb3⟩
      obtain ⟨x3, m3, d3, hv3⟩ := own_slice ho3
      subst hv3
      have O3 := Lib.hid ho3
      have U3 := Lib.hid (W2.out.trans (hb3.mono W2.out.size))
      clear ho3 hb3
      go_wp2_with fail
      refine (IO3.out _ u3 ((OwnN.row encF_ok O3.out).mono (fun _ _ => trivial))).mono ?_
      rintro e t3 ⟨rfl, hb3⟩
      have W3 := Lib.hid (U3.out.trans (hb3.mono U3.out.size))
      clear hb3 O3 U3
      go_wp2_with fail
      refine (AW.out _).mono ?_
      rintro e w9 ⟨rfl, hb9⟩
      go_wp2_with fail
      go_ret
      exact ⟨rfl, W3.out.trans (hb9.mono W3.out.size)⟩
  · have q1 : (e1 != 0) = true := by simp [he1]
    clear he1
    go_enter Tryd.func10, Tryd.ntmps10
    go_wp2_with fail
    refine (FW1.out _ (Below.refl w.heap.size w)).mono ?_
    rintro e u1 ⟨b1, rfl, ho1, hb1⟩
    obtain ⟨x1, m1, d1, hv1⟩ := own_slice ho1
    subst hv1
    have O1 := Lib.hid ho1
    have U1 := Lib.hid ((Below.refl w.heap.size w).trans (hb1.mono (Below.refl w.heap.size w).size))
    clear ho1 hb1
    go_wp2_with fail
    refine (IO1.out _ u1 ((OwnN.row encF_ok O1.out).mono (fun _ _ => trivial))).mono ?_
    rintro e t1 ⟨rfl, hb1⟩
    have W1 := Lib.hid (U1.out.trans (hb1.mono U1.out.size))
    clear hb1 O1 U1
    go_wp2_with fail
    refine (FW2.out _ W1.out).mono ?_
    rintro e u2 ⟨b2, rfl, ho2, hb2⟩
    obtain ⟨x2, m2, d2, hv2⟩ := own_slice ho2
    subst hv2
    have O2 := Lib.hid ho2
    have U2 := Lib.hid (W1.out.trans (hb2.mono W1.out.size))
    clear ho2 hb2
    go_wp2_with fail
    refine (IO2.out _ u2 ((OwnN.row encF_ok O2.out).mono (fun _ _ => trivial))).mono ?_
    rintro e t2 ⟨rfl, hb2⟩
    have W2 := Lib.hid (U2.out.trans (hb2.mono U2.out.size))
    clear hb2 O2 U2
    go_wp2_with fail
    refine (FW3.out _ W2.out).mono ?_
    rintro e u3 ⟨b3, rfl, ho3, hb3⟩
    obtain ⟨x3, m3, d3, hv3⟩ := own_slice ho3
    subst hv3
    have O3 := Lib.hid ho3
    have U3 := Lib.hid (W2.out.trans (hb3.mono W2.out.size))
    clear ho3 hb3
    go_wp2_with fail
    refine (IO3.out _ u3 ((OwnN.row encF_ok O3.out).mono (fun _ _ => trivial))).mono ?_
    rintro e t3 ⟨rfl, hb3⟩
    have W3 := Lib.hid (U3.out.trans (hb3.mono U3.out.size))
    clear hb3 O3 U3
    go_wp2_with fail
    refine (AW.out _).mono ?_
    rintro e w9 ⟨rfl, hb9⟩
    go_wp2_with fail
    go_ret
    exact ⟨rfl, W3.out.trans (hb9.mono W3.out.size)⟩
end Go.Proofs.YtfgimhgkjodcgaaDoor

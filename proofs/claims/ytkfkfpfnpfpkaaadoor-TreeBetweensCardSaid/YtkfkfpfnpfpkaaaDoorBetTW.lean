/- Landed tree: Between, walked. -/
import Derived.Test.YtkfkfpfnpfpkaaaDoorAddTW
import Derived.Test.YtkfkfpfnpfpkaaaDoorArgTree
import Derived.Test.YtkfkfpfnpfpkaaaDoorArgs3
import Derived.Test.YtkfkfpfnpfpkaaaDoorFitX
import Derived.Test.YtkfkfpfnpfpkaaaDoorFrame
import Derived.Test.YtkfkfpfnpfpkaaaDoorGen
import Derived.Test.YtkfkfpfnpfpkaaaDoorMergeMath
import Derived.Test.YtkfkfpfnpfpkaaaDoorOwnL
import Derived.Test.YtkfkfpfnpfpkaaaDoorPlaceTW
import Derived.Test.YtkfkfpfnpfpkaaaDoorProg
import Derived.Test.YtkfkfpfnpfpkaaaDoorQuietBelow
import Derived.Test.YtkfkfpfnpfpkaaaDoorReadW
import Derived.Test.YtkfkfpfnpfpkaaaDoorRefCheckW
import Derived.Test.YtkfkfpfnpfpkaaaDoorRefPatW
import Derived.Test.YtkfkfpfnpfpkaaaDoorRefRightTW
import Derived.Test.YtkfkfpfnpfpkaaaDoorRowN
import Derived.Test.YtkfkfpfnpfpkaaaDoorRows
import Derived.Test.YtkfkfpfnpfpkaaaDoorShelf
import Derived.Test.YtkfkfpfnpfpkaaaDoorSortX
import Derived.Test.YtkfkfpfnpfpkaaaDoorSortMath
import Derived.Test.YtkfkfpfnpfpkaaaDoorTreeMath
import Derived.Test.YtkfkfpfnpfpkaaaDoorTreeW
import Derived.Test.YtkfkfpfnpfpkaaaDoorTurnedTW
import Derived.BigQuiet
import Derived.BigRegion
import Derived.Deep.Cut
import Derived.Deep.CutRange
import Derived.Deep.DeepCutAuto
import Derived.Deep.QuietTactic
import Derived.Deep.RegionHeld
import Derived.Laws.OwnMore
import Derived.Laws.RangeAny
import Derived.Lib.Hide
import Derived.LoopIn
import Derived.LoopNIn
import Derived.LoopTactic
import Derived.OwnWalkIn
import Derived.RangeFuncBound
import Derived.RangeFuncCalls
import Derived.RangeFuncLeaves
import Derived.RangeFuncNested
import Derived.Shelf.Abstract
import Derived.Shelf.RegionOpen
import Derived.Shelf.Strings.SplitCore
import Derived.StillTail
import Derived.TacticsInMore
import Derived.WalkKit
import Derived.WalkLawsBesides
import Derived.WalkSpells
set_option linter.unusedVariables false
namespace Go.Proofs.YtkfkfpfnpfpkaaaDoor
open Go.RowKit

theorem mergeS_nil : mergeS [] [] = [] := by rw [mergeS]
theorem mergeS_left (x : ItemD) (a b : List ItemD) (h : nextN (x :: a) b < 0) : mergeS (x :: a) b = ⟨1, x.path⟩ :: mergeS a b := by
  cases b with
  | nil => rw [mergeS]
  | cons y b => rw [mergeS, if_pos (show ordS x.path y.path < 0 from h)]
theorem mergeS_right (y : ItemD) (a b : List ItemD) (h : 0 < nextN a (y :: b)) : mergeS a (y :: b) = ⟨2, y.path⟩ :: mergeS a b := by
  cases a with
  | nil => rw [mergeS]
  | cons x a =>
    have h' : 0 < ordS x.path y.path := h
    rw [mergeS, if_neg (by omega), if_pos h']
theorem mergeS_both (x y : ItemD) (a b : List ItemD) (h : nextN (x :: a) (y :: b) = 0) : mergeS (x :: a) (y :: b) = chg1 x y ++ mergeS a b := by
  have h' : ordS x.path y.path = 0 := h
  rw [mergeS, if_neg (by omega), if_neg (by omega)]
theorem nextN_left {a b : List ItemD} (hne : a ≠ [] ∨ b ≠ []) (h : nextN a b < 0) : ∃ x a', a = x :: a' := by
  cases a with
  | cons x a => exact ⟨x, a, rfl⟩
  | nil =>
    cases b with
    | nil => rcases hne with h | h <;> exact absurd rfl h
    | cons y b => exact absurd h (by show ¬ (1 : Int) < 0; decide)
theorem nextN_right {a b : List ItemD} (h : 0 < nextN a b) : ∃ y b', b = y :: b' := by
  cases b with
  | cons y b => exact ⟨y, b, rfl⟩
  | nil => exact absurd h (by cases a <;> (show ¬ (0 : Int) < -1; decide))
theorem nextN_both {a b : List ItemD} (h : nextN a b = 0) : (∃ x a', a = x :: a') ∧ ∃ y b', b = y :: b' := by
  cases b with
  | nil => exact absurd h (by cases a <;> (show ¬ (-1 : Int) = 0; decide))
  | cons y b =>
    cases a with
    | nil => exact absurd h (by show ¬ (1 : Int) = 0; decide)
    | cons x a => exact ⟨⟨x, a, rfl⟩, y, b, rfl⟩
theorem RowN.rest {w : World} {g o n c : Nat} {x : ItemD} {xs : List ItemD} (h : RowN encI 4 (fun _ => True) w (.slice (some ⟨g, o, none⟩) n c) (x :: xs)) :
    RowN encI 4 (fun _ => True) w (.slice (if c = 1 then some ⟨g, o, none⟩ else some ⟨g, o + 4, none⟩) (n - 1) (c - 1)) xs := by
  have h0 := h
  obtain ⟨a', c', hv, hle, _⟩ := h
  injection hv with e1 e2 e3
  subst e1 e3
  have hn : n = xs.length + 1 := by rw [e2, List.length_cons]
  have hc : xs.length + 1 ≤ c := by rw [← List.length_cons (a := x)]; exact hle
  refine ⟨_, c - 1, by rw [hn]; rfl, by omega, fun i hi => ?_⟩
  rw [if_neg (by omega)]
  refine ⟨g, o + 4, rfl, trivial, ?_⟩
  obtain ⟨g', o', hva, hel⟩ := h0.el (i := 0) (by simp)
  simp at hva
  obtain ⟨rfl, rfl⟩ := hva
  have := hel (i + 1) (by simpa using hi)
  rw [show o + 4 + i * 4 = o + (i + 1) * 4 by omega]
  exact this
set_option maxRecDepth 100000 in
set_option maxHeartbeats 4000000 in
theorem tBetween_any (va vb : Value) (a b : List ItemD) (w : World) (hra : RowN encI 4 (fun _ => True) w va a) (hrb : RowN encI 4 (fun _ => True) w vb b) (hoka : ∀ x ∈ a, ItemOk x) (hokb : ∀ x ∈ b, ItemOk x) (hla : a.length ≤ 2000) (hlb : b.length ≤ 2000) :
    Calls Tryd.prog 36 #[va, vb] w fun e w' => ∃ v', e = .returned (.tuple #[v', .int .i64 (betweenE a b)]) ∧ RowN encG 2 (fun _ => True) w' v' (betweenS a b) ∧ Below w.heap.size w w' := by
  have RA := Lib.hid (tRight_any va a w hra hoka (by omega))
  have RB := Lib.hid (fun w1 (hb : Below w.heap.size w w1) => tRight_any vb b w1 (hrb.keep hb) hokb (by omega))
  have HRA := Lib.hid hra
  have HRB := Lib.hid hrb
  have HOA := Lib.hid hoka
  have HOB := Lib.hid hokb
  obtain ⟨a0, ca, hva, _⟩ := hra.slice
  obtain ⟨b0, cb, hvb, _⟩ := hrb.slice
  subst hva hvb
  clear hra hrb hoka hokb
  by_cases h1 : rightS a = 0
  · by_cases h2 : rightS b = 0
    · have HE := Lib.hid (show betweenE a b = 0 by unfold betweenE; rw [if_neg (fun h => h h1), h2])
      have HM := Lib.hid (between_merge h1 h2)
      rw [h1] at RA
      rw [h2] at RB
      clear h1 h2
      generalize betweenE a b = be at *
      have HFIN := Lib.hid (show [] ++ mergeS a b = betweenS a b from HM.out.symm)
      generalize betweenS a b = fin at *
      clear HM
      go_enter Tryd.func36, Tryd.ntmps36
      go_wp2_with fail
      refine RA.out.mono ?_
      rintro e w1 ⟨rfl, hb1⟩
      have HB1 := Lib.hid hb1
      clear hb1 RA
      go_wp2_with fail
      refine (RB.out _ HB1.out).mono ?_
      rintro e w2 ⟨rfl, hb2⟩
      have HB2 := Lib.hid (HB1.out.trans (hb2.mono HB1.out.size))
      clear hb2 RB HB1
      have HX0 := Lib.hid (show BoxC (w2.alloc (.cells #[.slice none 0 0] 52)) w2.heap.size (.slice none 0 0) from heap_alloc_new _ _)
      have HB3 := Lib.hid (HB2.out.alloc HB2.out.size (.cells #[.slice none 0 0] 52))
      have hbx : w.heap.size ≤ w2.heap.size := HB2.out.size
      go_wp2_with fail
      clear HB2
      generalize w2.alloc (.cells #[.slice none 0 0] 52) = w3 at *
      generalize w2.heap.size = bx at *
      go_loopw [0, 1] (fun v0 v1 wr => ∃ (xs ys : List ItemD) (V : Value) (out : List ChgD) (xa ya : Option Addr) (xc yc : Nat), v0 = .slice xa xs.length xc ∧ v1 = .slice ya ys.length yc ∧ RowN encI 4 (fun _ => True) w v0 xs ∧ RowN encI 4 (fun _ => True) w v1 ys ∧ (∀ x ∈ xs, ItemOk x) ∧ (∀ y ∈ ys, ItemOk y) ∧ BoxC wr bx V ∧ OwnN encG 2 wr w.heap.size 56 V out ∧ Hid (out ++ mergeS xs ys = fin) ∧ out.length + xs.length + ys.length ≤ 4000 ∧ Below w.heap.size w wr) (fun v0 v1 _ => lenV v0 + lenV v1)
      case atStart => exact ⟨a, b, _, [], a0, b0, ca, cb, rfl, rfl, HRA.out, HRB.out, HOA.out, HOB.out, HX0.out, OwnN.nil _ _ _ _ _, HFIN, by simp; omega, HB3.out⟩
      case round =>
        clear HX0 HFIN HB3 HRA HRB HOA HOB
        obtain ⟨xs, ys, V, out, xa, ya, xc, yc, rfl, rfl, hrx, hry, hox, hoy, hbox, hown, HA, hlen, hbel⟩ := hrel
        have HB := Lib.hid hbel
        have HRX := Lib.hid hrx
        have HRY := Lib.hid hry
        have HOX := Lib.hid hox
        have HOY := Lib.hid hoy
        have HBX := Lib.hid hbox
        have HO := Lib.hid hown
        clear hbel hrx hry hox hoy hbox hown
        by_cases hpos : 0 < xs.length + ys.length
        · have j1 : (0 : Int) < (xs.length : Int) + (ys.length : Int) := by omega
          have NX := Lib.hid (next_any xa ya xc yc xs ys wr (HRX.out.keep HB.out) (HRY.out.keep HB.out) HOX.out HOY.out (by omega) (by omega))
          obtain ⟨n1, hn1⟩ : ∃ n1, n1 = xs.length := ⟨_, rfl⟩
          obtain ⟨n2, hn2⟩ : ∃ n2, n2 = ys.length := ⟨_, rfl⟩
          have HN := Lib.hid (show n1 = xs.length ∧ n2 = ys.length from ⟨hn1, hn2⟩)
          rw [← hn1, ← hn2] at NX hlen j1 ⊢
          have hl1 : n1 ≤ 4000 := by omega
          have hl2 : n2 ≤ 4000 := by omega
          have hne : xs ≠ [] ∨ ys ≠ [] := by
            by_cases h : xs = []
            · right; rintro rfl; subst h; simp at hpos
            · exact .inl h
          by_cases hlt : nextN xs ys < 0
          · obtain ⟨x, xs', rfl⟩ := nextN_left hne hlt
            have HM := Lib.hid (mergeS_left x xs' ys hlt)
            generalize nextN (x :: xs') ys = nx at *
            obtain ⟨g, o, rfl, hel⟩ := HRX.out.el (i := 0) (by simp)
            have c0 := ((hel 0 (by simp)).new HB.out).i0
            rw [Nat.zero_mul, Nat.add_zero] at c0
            change wr.cell? ⟨g, o, none⟩ = some (.string ⟨x.path.toArray⟩) at c0
            have j2 : (0 : Int) < (n1 : Int) := by rw [hn1, List.length_cons]; omega
            have j3 : (1 : Int) ≤ (n1 : Int) := by omega
            have hpos' : 0 < n1 + n2 := by omega
            clear hn1 hn2 hpos
            go_wp2_with fail
            refine NX.out.mono ?_
            rintro e w5 ⟨rfl, hb5⟩
            have c5 := (hb5.cell (p := ⟨g, o, none⟩) (World.block_lt_of_cell? wr _ c0)).trans c0
            have AD := Lib.hid (addC_any bx w.heap.size V out 1 x.path w5 (HBX.out.new hb5) (HO.out.new hb5) hbx (HOX.out x (by simp)).p (by omega))
            have HB5 := Lib.hid (HB.out.trans (hb5.mono HB.out.size))
            clear hb5 c0 HB NX hel HBX HO
            have j2 : (0 : Int) < (n1 : Int) := by omega
            go_wp2_with fail
            refine AD.out.mono ?_
            rintro e w6 ⟨rfl, V6, hbx6, hown6, hb6⟩
            have HBX6 := Lib.hid hbx6
            have HO6 := Lib.hid hown6
            have HB6 := Lib.hid (HB5.out.trans hb6)
            clear hbx6 hown6 hb6 AD HB5 c5
            go_wp2_with fail
            go_roundw
            case rel => exact ⟨xs', ys, V6, out ++ [⟨1, x.path⟩], _, _, _, _, by rw [show n1 - 1 = xs'.length by have := HN.out.1; simp at this; omega], by rw [HN.out.2], (by rw [HN.out.1]; exact HRX.out.rest), (by rw [HN.out.2]; exact HRY.out), fun z hz => HOX.out z (by simp [hz]), HOY.out, HBX6.out, HO6.out, Lib.hid (by rw [← HA.out, HM.out, List.append_assoc]; rfl), by have := HN.out; simp at this ⊢; omega, HB6.out⟩
            case measure => simp [lenV]; omega
          · by_cases hgt : 0 < nextN xs ys
            · obtain ⟨y, ys', rfl⟩ := nextN_right hgt
              have HM := Lib.hid (mergeS_right y xs ys' hgt)
              generalize nextN xs (y :: ys') = nx at *
              obtain ⟨g, o, rfl, hel⟩ := HRY.out.el (i := 0) (by simp)
              have c0 := ((hel 0 (by simp)).new HB.out).i0
              rw [Nat.zero_mul, Nat.add_zero] at c0
              change wr.cell? ⟨g, o, none⟩ = some (.string ⟨y.path.toArray⟩) at c0
              have j2 : (0 : Int) < (n2 : Int) := by rw [hn2, List.length_cons]; omega
              have j3 : (1 : Int) ≤ (n2 : Int) := by omega
              have hpos' : 0 < n1 + n2 := by omega
              clear hn1 hn2 hpos
              go_wp2_with fail
              refine NX.out.mono ?_
              rintro e w5 ⟨rfl, hb5⟩
              have c5 := (hb5.cell (p := ⟨g, o, none⟩) (World.block_lt_of_cell? wr _ c0)).trans c0
              have AD := Lib.hid (addC_any bx w.heap.size V out 2 y.path w5 (HBX.out.new hb5) (HO.out.new hb5) hbx (HOY.out y (by simp)).p (by omega))
              have HB5 := Lib.hid (HB.out.trans (hb5.mono HB.out.size))
              clear hb5 c0 HB NX hel HBX HO
              have j2 : (0 : Int) < (n2 : Int) := by omega
              go_wp2_with fail
              refine AD.out.mono ?_
              rintro e w6 ⟨rfl, V6, hbx6, hown6, hb6⟩
              have HBX6 := Lib.hid hbx6
              have HO6 := Lib.hid hown6
              have HB6 := Lib.hid (HB5.out.trans hb6)
              clear hbx6 hown6 hb6 AD HB5 c5
              go_wp2_with fail
              go_roundw
              case rel => exact ⟨xs, ys', V6, out ++ [⟨2, y.path⟩], _, _, _, _, by rw [HN.out.1], by rw [show n2 - 1 = ys'.length by have := HN.out.2; simp at this; omega], (by rw [HN.out.1]; exact HRX.out), (by rw [HN.out.2]; exact HRY.out.rest), HOX.out, fun z hz => HOY.out z (by simp [hz]), HBX6.out, HO6.out, Lib.hid (by rw [← HA.out, HM.out, List.append_assoc]; rfl), by have := HN.out; simp at this ⊢; omega, HB6.out⟩
              case measure => simp [lenV]; omega
            · have hze : nextN xs ys = 0 := by omega
              obtain ⟨⟨x, xs', rfl⟩, y, ys', rfl⟩ := nextN_both hze
              have HM := Lib.hid (mergeS_both x y xs' ys' hze)
              generalize nextN (x :: xs') (y :: ys') = nx at *
              subst hze
              obtain ⟨g, o, rfl, hel⟩ := HRX.out.el (i := 0) (by simp)
              obtain ⟨g2, o2, rfl, hel2⟩ := HRY.out.el (i := 0) (by simp)
              have HX := Lib.hid ((hel 0 (by simp)).new HB.out)
              have HY := Lib.hid ((hel2 0 (by simp)).new HB.out)
              rw [Nat.zero_mul, Nat.add_zero] at HX HY
              have j2 : (0 : Int) < (n1 : Int) := by rw [hn1, List.length_cons]; omega
              have j3 : (1 : Int) ≤ (n1 : Int) := by omega
              have j4 : (0 : Int) < (n2 : Int) := by rw [hn2, List.length_cons]; omega
              have j5 : (1 : Int) ≤ (n2 : Int) := by omega
              have hpos' : 0 < n1 + n2 := by omega
              clear hn1 hn2 hpos hlt hgt hel hel2
              go_wp2_with fail
              refine NX.out.mono ?_
              rintro e w5 ⟨rfl, hb5⟩
              have HX5 := Lib.hid (HX.out.new hb5)
              have HY5 := Lib.hid (HY.out.new hb5)
              have HBX5 := Lib.hid (HBX.out.new hb5)
              have HO5 := Lib.hid (HO.out.new hb5)
              have HB5 := Lib.hid (HB.out.trans (hb5.mono HB.out.size))
              clear hb5 HX HY HBX HO HB NX
              have c0 : w5.cell? ⟨g, o, none⟩ = some (.string ⟨x.path.toArray⟩) := HX5.out.i0
              have c1 : w5.cell? ⟨g, o + 1, none⟩ = some (.int .i64 x.mode) := HX5.out.i1
              have c2 : w5.cell? ⟨g, o + 2, none⟩ = some (.int .i64 x.size) := HX5.out.i2
              have c3 : w5.cell? ⟨g, o + 3, none⟩ = some (.string ⟨x.mark.toArray⟩) := HX5.out.i3
              have d0 : w5.cell? ⟨g2, o2, none⟩ = some (.string ⟨y.path.toArray⟩) := HY5.out.i0
              have d1 : w5.cell? ⟨g2, o2 + 1, none⟩ = some (.int .i64 y.mode) := HY5.out.i1
              have d2 : w5.cell? ⟨g2, o2 + 2, none⟩ = some (.int .i64 y.size) := HY5.out.i2
              have d3 : w5.cell? ⟨g2, o2 + 3, none⟩ = some (.string ⟨y.mark.toArray⟩) := HY5.out.i3
              have TU := fun w' => Lib.hid (turned_any x y w')
              unfold aggI at TU
              have j2 : (0 : Int) < (n1 : Int) := by omega
              have j4 : (0 : Int) < (n2 : Int) := by omega
              go_wp2_with fail
              have A1 := below_cell c0
              have A2 := below_cell c1
              have A3 := below_cell c2
              have A4 := below_cell c3
              have E1 := below_cell d0
              have E2 := below_cell d1
              have E3 := below_cell d2
              have E4 := below_cell d3
              have j2 : (0 : Int) < (n1 : Int) := by omega
              have j4 : (0 : Int) < (n2 : Int) := by omega
              refine wp_region_below (by kernel_rfl) (by kernel_rfl) ?_
              repeat (go_big_quiet_step ((go_at_call 85; with_reducible exact below_calls (TU _).out)))
              refine wpQuiet_nil ?_
              rintro w8 ⟨⟨w8b, hb8⟩, e8⟩
              have e8' : w8 = w8b := e8
              clear e8
              subst e8'
              have HBX8 := Lib.hid (HBX5.out.new hb8)
              have HO8 := Lib.hid (HO5.out.new hb8)
              have HB8 := Lib.hid (HB5.out.trans (hb8.mono HB5.out.size))
              have c8 := (hb8.cell (p := ⟨g, o, none⟩) (World.block_lt_of_cell? w5 _ c0)).trans c0
              clear hb8 A1 A2 A3 A4 E1 E2 E3 E4 c0 c1 c2 c3 d0 d1 d2 d3 HBX5 HO5 HB5 HX5 HY5 TU
              have HC := Lib.hid (show (chg1 x y).length ≤ 1 by unfold chg1; split <;> simp)
              by_cases ht : turnedS x y = 0
              · have q1 : (turnedS x y != 0) = false := by simp [ht]
                have HCH := Lib.hid (show chg1 x y = [] by unfold chg1; rw [if_neg (fun h => h ht)])
                generalize turnedS x y = tn at *
                clear ht c8
                have HO9 := Lib.hid (show OwnN encG 2 w8 w.heap.size 56 V (out ++ chg1 x y) by rw [HCH.out, List.append_nil]; exact HO8.out)
                clear HO8
                go_wp2_with fail
                go_quiet (fail)
                have HBN := Lib.hid (Below_drewN (Below.refl w8.heap.size w8) nq)
                have HBX9 := Lib.hid (HBX8.out.new HBN.out)
                have HO10 := Lib.hid (HO9.out.new HBN.out)
                have HB9 := Lib.hid (HB8.out.trans (HBN.out.mono HB8.out.size))
                clear HBN HO9 HBX8 HB8
                generalize w8.drewN nq = w9 at *
                go_wp2_with fail
                go_roundw
                case rel => exact ⟨xs', ys', V, out ++ chg1 x y, _, _, _, _, by rw [show n1 - 1 = xs'.length by have := HN.out.1; simp at this; omega], by rw [show n2 - 1 = ys'.length by have := HN.out.2; simp at this; omega], (by rw [HN.out.1]; exact HRX.out.rest), (by rw [HN.out.2]; exact HRY.out.rest), fun z hz => HOX.out z (by simp [hz]), fun z hz => HOY.out z (by simp [hz]), HBX9.out, HO10.out, Lib.hid (by rw [← HA.out, HM.out, List.append_assoc]), by have := HN.out; have h := HC.out; simp at this ⊢; omega, HB9.out⟩
                case measure => simp [lenV]; omega
              · have q1 : (turnedS x y != 0) = true := by simp [ht]
                have HCH := Lib.hid (show chg1 x y = [⟨turnedS x y, x.path⟩] by unfold chg1; rw [if_pos ht])
                have AD := Lib.hid (addC_any bx w.heap.size V out (turnedS x y) x.path w8 HBX8.out HO8.out hbx (HOX.out x (by simp)).p (by omega))
                rw [← HCH.out] at AD
                generalize turnedS x y = tn at *
                clear ht HBX8 HO8
                have j2 : (0 : Int) < (n1 : Int) := by omega
                go_wp2_with fail
                refine AD.out.mono ?_
                rintro e w10 ⟨rfl, V6, hbx6, hown6, hb6⟩
                have HBX8 := Lib.hid hbx6
                have HO9 := Lib.hid hown6
                have HB10 := Lib.hid (HB8.out.trans hb6)
                clear hbx6 hown6 hb6 AD c8 HB8
                go_wp2_with fail
                go_quiet (fail)
                have HBN := Lib.hid (Below_drewN (Below.refl w10.heap.size w10) nq)
                have HBX9 := Lib.hid (HBX8.out.new HBN.out)
                have HO10 := Lib.hid (HO9.out.new HBN.out)
                have HB9 := Lib.hid (HB10.out.trans (HBN.out.mono HB10.out.size))
                clear HBN HO9 HBX8 HB10
                generalize w10.drewN nq = w9 at *
                go_wp2_with fail
                go_roundw
                case rel => exact ⟨xs', ys', V6, out ++ chg1 x y, _, _, _, _, by rw [show n1 - 1 = xs'.length by have := HN.out.1; simp at this; omega], by rw [show n2 - 1 = ys'.length by have := HN.out.2; simp at this; omega], (by rw [HN.out.1]; exact HRX.out.rest), (by rw [HN.out.2]; exact HRY.out.rest), fun z hz => HOX.out z (by simp [hz]), fun z hz => HOY.out z (by simp [hz]), HBX9.out, HO10.out, Lib.hid (by rw [← HA.out, HM.out, List.append_assoc]), by have := HN.out; have h := HC.out; simp at this ⊢; omega, HB9.out⟩
                case measure => simp [lenV]; omega
        · have hx0 : xs = [] := List.eq_nil_of_length_eq_zero (by omega)
          have hy0 : ys = [] := List.eq_nil_of_length_eq_zero (by omega)
          subst hx0 hy0
          have HF := Lib.hid (show out = fin by rw [← HA.out, mergeS_nil, List.append_nil])
          have c0 := HBX.out.cell
          obtain ⟨oa, om, oc, hV⟩ := own_slice HO.out
          subst hV
          clear hpos HA
          go_wp2_with fail
          go_ret2
          exact ⟨_, by rw [HE.out]; rfl, by rw [← HF.out]; exact (OwnN.row encG_ok HO.out).mono (fun _ _ => trivial), HB.out⟩
    · have HE := Lib.hid (show betweenE a b = rightS b by unfold betweenE; rw [if_neg (fun h => h h1)])
      have HF := Lib.hid (show betweenS a b = [] by unfold betweenS; rw [if_pos (by rw [HE.out]; exact h2)])
      rw [h1] at RA
      have q1 : (rightS b != 0) = true := by simp [h2]
      generalize rightS b = rb at *
      generalize betweenS a b = fin at *
      generalize betweenE a b = be at *
      clear h1 h2
      go_enter Tryd.func36, Tryd.ntmps36
      go_wp2_with fail
      refine RA.out.mono ?_
      rintro e w1 ⟨rfl, hb1⟩
      have HB1 := Lib.hid hb1
      clear hb1 RA
      go_wp2_with fail
      refine (RB.out _ HB1.out).mono ?_
      rintro e w2 ⟨rfl, hb2⟩
      have HB2 := Lib.hid (HB1.out.trans (hb2.mono HB1.out.size))
      clear hb2 RB HB1
      go_wp2_with fail
      go_ret2
      exact ⟨_, by rw [HE.out]; rfl, by rw [HF.out]; exact RowN.nil _ _ _ _, HB2.out⟩
  · have HE := Lib.hid (show betweenE a b = rightS a by unfold betweenE; rw [if_pos h1])
    have HF := Lib.hid (show betweenS a b = [] by unfold betweenS; rw [if_pos (by rw [HE.out]; exact h1)])
    have q1 : (rightS a != 0) = true := by simp [h1]
    generalize rightS a = ra at *
    generalize betweenS a b = fin at *
    generalize betweenE a b = be at *
    clear h1
    go_enter Tryd.func36, Tryd.ntmps36
    go_wp2_with fail
    refine RA.out.mono ?_
    rintro e w1 ⟨rfl, hb1⟩
    have HB1 := Lib.hid hb1
    clear hb1 RA RB
    go_wp2_with fail
    go_ret2
    exact ⟨_, by rw [HE.out]; rfl, by rw [HF.out]; exact RowN.nil _ _ _ _, HB1.out⟩
end Go.Proofs.YtkfkfpfnpfpkaaaDoor

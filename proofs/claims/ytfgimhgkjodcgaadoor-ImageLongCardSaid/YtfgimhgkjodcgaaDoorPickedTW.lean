/- Landed tree: picked (the files that are wanted, in memory of their own), walked. -/
import Derived.Test.YtfgimhgkjodcgaaDoorArgTree
import Derived.Test.YtfgimhgkjodcgaaDoorArgs3
import Derived.Test.YtfgimhgkjodcgaaDoorQtX
import Derived.Test.YtfgimhgkjodcgaaDoorCodeMath
import Derived.Test.YtfgimhgkjodcgaaDoorFrame
import Derived.Test.YtfgimhgkjodcgaaDoorGen
import Derived.Test.YtfgimhgkjodcgaaDoorMarkMath
import Derived.Test.YtfgimhgkjodcgaaDoorOwnL
import Derived.Test.YtfgimhgkjodcgaaDoorProg
import Derived.Test.YtfgimhgkjodcgaaDoorQuietBelow
import Derived.Test.YtfgimhgkjodcgaaDoorReadMath
import Derived.Test.YtfgimhgkjodcgaaDoorReadW
import Derived.Test.YtfgimhgkjodcgaaDoorCkX
import Derived.Test.YtfgimhgkjodcgaaDoorRefSortW
import Derived.Test.YtfgimhgkjodcgaaDoorRowN
import Derived.Test.YtfgimhgkjodcgaaDoorRows
import Derived.Test.YtfgimhgkjodcgaaDoorShelf
import Derived.Test.YtfgimhgkjodcgaaDoorSoX
import Derived.Test.YtfgimhgkjodcgaaDoorTmX
import Derived.Test.YtfgimhgkjodcgaaDoorTreeMath
import Derived.BigQuiet
import Derived.Deep.Cut
import Derived.Deep.CutRange
import Derived.Deep.DeepCutAuto
import Derived.Deep.QuietTactic
import Derived.Deep.RegionHeld
import Derived.Laws.RangeAny
import Derived.Lib.Hide
import Derived.LoopIn
import Derived.LoopNIn
import Derived.LoopTactic
import Derived.OwnWalkIn
import Derived.RangeFuncBound
import Derived.RangeFuncCalls
import Derived.RangeFuncLeaves
import Derived.RangeFuncNested
import Derived.Shelf.Abstract
import Derived.Shelf.RegionOpen
import Derived.StillTail
import Derived.TacticsInMore
import Derived.WalkKit
import Derived.WalkLawsBesides
import Derived.WalkSpells
set_option linter.unusedVariables false
namespace Go.Proofs.YtfgimhgkjodcgaaDoor
open Go.RowKit

set_option maxRecDepth 100000 in
theorem tclone_any (l : Txt) (w : World) (hl : l.length ≤ 140737488351232) :
    Calls Tryd.prog 36 #[.string ⟨l.toArray⟩] w fun e w' => e = .returned (.string ⟨l.toArray⟩) ∧ Below w.heap.size w w' := by
  have C := fun w' => Lib.hid (Tryd.stringslite_Clone ⟨l.toArray⟩ w' (by show l.length ≤ _; omega))
  go_enter Tryd.func36, Tryd.ntmps36
  go_wp2_with fail
  refine (C _).out.mono ?_
  rintro e w1 ⟨rfl, hb⟩
  go_wp2_with fail
  go_ret
  exact ⟨rfl, hb⟩
set_option maxRecDepth 100000 in
set_option maxHeartbeats 1000000 in
theorem picked_any (f : Nat) (cb : Array Value) (want : FileD → Bool) (v : Value) (xs : List FileD) (w : World) (eg : ∀ (args : Array Value) (w : World), (callFunc f args).run Tryd.prog w = .ok (.enter f args) w)
    (hwa : ∀ x ∈ xs, ∀ w', Below w.heap.size w w' → Calls Tryd.prog f (#[.agg #[.string ⟨x.path.toArray⟩, .int .i64 x.mode, .string ⟨x.data.toArray⟩]] ++ cb) w' fun e w'' => e = .returned (.bool (want x)) ∧ Below w'.heap.size w' w'')
    (hrow : RowN encF 3 (fun _ => True) w v xs) (hok : ∀ x ∈ xs, FileOk x) (hl : xs.length ≤ 1000000) :
    Calls Tryd.prog 70 #[v, .func (.func f) #[] cb] w fun e w' => ∃ v', e = .returned v' ∧ OwnN encF 3 w' w.heap.size 33 v' (xs.filter want) ∧ Below w.heap.size w w' := by
  obtain ⟨va, vc, hv, _⟩ := hrow.slice
  subst hv
  have HRO := Lib.hid hrow
  have HOK := Lib.hid hok
  have HWA := Lib.hid hwa
  clear hrow hok hwa
  go_enter Tryd.func70, Tryd.ntmps70
  go_wp2_with fail
  go_loopw [5, 10] (fun v5 v10 wr => ∃ i : Nat, i ≤ xs.length ∧ v10 = .int .i64 i ∧ OwnN encF 3 wr w.heap.size 33 v5 ((xs.take i).filter want) ∧ Below w.heap.size w wr) (fun _ v10 _ => xs.length - (intOf v10).toNat)
  case atStart => exact ⟨0, by omega, rfl, OwnN.nil _ _ _ _ _, Below.refl _ _⟩
  case round =>
    obtain ⟨i, hi, rfl, hown, hbel⟩ := hrel
    have HO := Lib.hid hown
    have HB := Lib.hid hbel
    clear hown hbel
    have i0 : (0 : Int) ≤ (i : Int) := by omega
    by_cases hlt : i < xs.length
    · have j1 : (i : Int) < (xs.length : Int) := by omega
      obtain ⟨g, o, rfl, hel⟩ := HRO.out.el hlt
      have hel1 := (hel i hlt).new HB.out
      have c0 := hel1.f0
      have c1 := hel1.f1
      have c2 := hel1.f2
      have HT := Lib.hid (show (xs.take (i + 1)).filter want = (xs.take i).filter want ++ (if want xs[i] then [xs[i]] else []) by
        rw [List.take_add_one, List.getElem?_eq_getElem hlt, List.filter_append]
        congr 1
        by_cases h : want xs[i] = true
        · rw [if_pos h]; simp [h]
        · rw [if_neg h]; simp [h])
      have hxo := HOK.out xs[i] (List.getElem_mem hlt)
      have WA := Lib.hid (HWA.out xs[i] (List.getElem_mem hlt))
      have hll : ((xs.take i).filter want).length ≤ 1000000 := by have := List.length_filter_le want (xs.take i); rw [List.length_take] at this; omega
      obtain ⟨wx, hwx⟩ : ∃ wx, wx = want xs[i] := ⟨_, rfl⟩
      rw [← hwx] at WA HT
      clear hwx hel hel1
      generalize xs[i] = x at *
      obtain ⟨p, md, dt⟩ := x
      dsimp only at c0 c1 c2 WA
      have hpl := hxo.p
      have hdl := hxo.d
      dsimp only at hpl hdl
      clear hxo
      generalize (xs.take i).filter want = out at *
      obtain ⟨oa, om, oc, hv5⟩ := own_slice HO.out
      subst hv5
      go_wp2_with fail
      refine (WA.out _ (HB.out.alloc HB.out.size _)).mono ?_
      rintro e w2 ⟨rfl, hb2⟩
      have hb2' : Below wr.heap.size wr w2 := ((Below.refl _ wr).alloc (Nat.le_refl _) _).trans (hb2.mono (by simp))
      have hnew := heap_alloc_new wr (.cells #[.string ⟨p.toArray⟩, .int .i64 md, .string ⟨dt.toArray⟩] 33)
      have b0 : w2.cell? ⟨wr.heap.size, 0, none⟩ = some (.string ⟨p.toArray⟩) := (hb2.cell (p := ⟨wr.heap.size, 0, none⟩) (by simp)).trans (by rw [cell_of_row _ _ _ _ _ _ hnew]; rfl)
      have b1 : w2.cell? ⟨wr.heap.size, 1, none⟩ = some (.int .i64 md) := (hb2.cell (p := ⟨wr.heap.size, 1, none⟩) (by simp)).trans (by rw [cell_of_row _ _ _ _ _ _ hnew]; rfl)
      have b2 : w2.cell? ⟨wr.heap.size, 2, none⟩ = some (.string ⟨dt.toArray⟩) := (hb2.cell (p := ⟨wr.heap.size, 2, none⟩) (by simp)).trans (by rw [cell_of_row _ _ _ _ _ _ hnew]; rfl)
      have HB2 := Lib.hid (HB.out.trans (hb2'.mono HB.out.size))
      have HO2 := Lib.hid (HO.out.new hb2')
      obtain ⟨nb, hnb⟩ : ∃ nb, nb = wr.heap.size := ⟨_, rfl⟩
      rw [← hnb] at b0 b1 b2 ⊢
      clear hb2 hb2' hnew HO HB WA c0 c1 c2 hnb
      have CP := fun w' => Lib.hid (tclone_any p w' hpl)
      have CD := fun w' => Lib.hid (tclone_any dt w' hdl)
      cases wx with
      | true =>
        have HT2 := Lib.hid (show (xs.take (i + 1)).filter want = out ++ [⟨p, md, dt⟩] by rw [HT.out]; rfl)
        clear HT
        go_wp2_with fail
        refine wp_region_below_tail 8 (by kernel_rfl) (by kernel_rfl) (fun _ _ _ h => h) (Or.inl ⟨by rfl, fun _ => rfl⟩) ?_ (v := .slice oa om oc)
        have A0 := below_cell b0
        have A1 := below_cell b1
        have A2 := below_cell b2
        simp only [List.take_succ_cons, List.take_zero, List.drop_succ_cons, List.drop_zero]
        go_frame
        repeat (go_big_quiet_step (first | (go_at_call 36; with_reducible exact below_calls (CP _).out) | (go_at_call 36; with_reducible exact below_calls (CD _).out)))
        refine wpQuiet_nil ?_
        rintro w8 ⟨⟨w8b, hb8⟩, e8⟩
        have e8' : w8 = w8b := e8
        clear e8
        subst e8'
        have HB8 := Lib.hid (HB2.out.trans (hb8.mono HB2.out.size))
        have HO8 := Lib.hid (HO2.out.new hb8)
        clear hb8 A0 A1 A2 b0 b1 b2 HO2 HB2
        go_wp2_with (at_builtin; refine append_new (enc := encF) (k := 3) (w := w8) (by rfl) (.tmp 17) (.tmp 27) 22 33 (.agg #[.string ByteArray.empty, .int .i64 0, .string ByteArray.empty]) 40 (by rfl) Tryd.underlying22 info_file (by rfl) (by decide) encF_ok w.heap.size _ out ⟨p, md, dt⟩ (by rfl) HO8.out (by rfl) (by omega) (by unfold maxLen; omega) HB8.out.size _ (by rfl) ?_; intro v7 w7 hown7 ht7; obtain ⟨va7, vm7, vc7, rfl⟩ := own_slice hown7; have HO7 := Lib.hid hown7; have HB7 := Lib.hid (HB8.out.trans ht7.bel); clear hown7 ht7)
        go_roundw
        case rel => exact ⟨i + 1, hlt, by go_num, by rw [HT2.out]; exact HO7.out, HB7.out⟩
        case measure => simp [intOf]; omega
      | false =>
        have HT2 := Lib.hid (show (xs.take (i + 1)).filter want = out by rw [HT.out]; simp)
        clear HT
        go_wp2_with fail
        go_roundw
        case rel => exact ⟨i + 1, hlt, by go_num, by rw [HT2.out]; exact HO2.out, HB2.out⟩
        case measure => simp [intOf]; omega
    · obtain rfl : i = xs.length := by omega
      have j1 : ¬ (xs.length : Int) < (xs.length : Int) := by omega
      rw [List.take_of_length_le (Nat.le_refl _)] at HO
      go_wp2_with fail
      go_ret
      exact ⟨_, rfl, HO.out, HB.out⟩
end Go.Proofs.YtfgimhgkjodcgaaDoor

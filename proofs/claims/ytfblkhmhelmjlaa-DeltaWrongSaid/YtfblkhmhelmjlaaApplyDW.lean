/- The walk of Apply, by any book that is asked. -/
import Derived.Test.YtfblkhmhelmjlaaTabX
import Derived.Test.YtfblkhmhelmjlaaBldShelf
import Derived.Test.YtfblkhmhelmjlaaBookW
import Derived.Test.YtfblkhmhelmjlaaDelX
import Derived.Test.YtfblkhmhelmjlaaFrame
import Derived.Test.YtfblkhmhelmjlaaGen
import Derived.Test.YtfblkhmhelmjlaaMarkMath
import Derived.Test.YtfblkhmhelmjlaaOwnL
import Derived.Test.YtfblkhmhelmjlaaProg
import Derived.Test.YtfblkhmhelmjlaaReadW
import Derived.Test.YtfblkhmhelmjlaaRightDW
import Derived.Test.YtfblkhmhelmjlaaRollMath
import Derived.Test.YtfblkhmhelmjlaaRowKeep
import Derived.Test.YtfblkhmhelmjlaaRows
import Derived.Test.YtfblkhmhelmjlaaRunDW
import Derived.Test.YtfblkhmhelmjlaaShelf
import Derived.Test.YtfblkhmhelmjlaaSigAt
import Derived.Test.YtfblkhmhelmjlaaSignMath
import Derived.Test.YtfblkhmhelmjlaaSortX
import Derived.Test.YtfblkhmhelmjlaaSortEW
import Derived.Test.YtfblkhmhelmjlaaStepW
import Derived.BigQuiet
import Derived.BigRegion
import Derived.Deep.CutBlock
import Derived.Deep.DeepCutAuto
import Derived.Deep.QuietTactic
import Derived.Deep.RegionHeld3
import Derived.Deep.RegionLaw
import Derived.IntWalk
import Derived.Laws.BitsAllLaws
import Derived.Laws.Externs
import Derived.Laws.MakeOwn
import Derived.Laws.Rows
import Derived.Laws.Tables
import Derived.Lib.AppendStr
import Derived.Lib.Builder
import Derived.Lib.Hide
import Derived.Lib.Strings
import Derived.Lib.Walk
import Derived.Outline
import Derived.Sort.Walk0
import Derived.StillTailTactics
import Derived.WalkKit
import Derived.WalkLawsBesides
import Derived.WalkSpells
set_option linter.unusedVariables false
namespace Go.Proofs.Ytfblkhmhelmjlaa
open Go.RowKit

/-- What a delta makes of a text, or why nothing. -/
def applyS (is : Txt → Txt → Bool) (basis bm mm : Txt) (n : Int) (l : List DSt) : Int × Txt :=
  if rightD bm mm n l = false then (1, []) else if is basis bm = false then (13, []) else if (runG basis l []).1 ≠ 0 then ((runG basis l []).1, []) else if is (runG basis l []).2 mm = true then (0, (runG basis l []).2) else (6, [])
theorem run_len {basis : Txt} : ∀ (l : List DSt) (out : Txt), out.length ≤ 524288 → (runG basis l out).2.length ≤ 524288 := by
  intro l
  induction l with
  | nil => intro out h; exact h
  | cons x l ih =>
    intro out h
    unfold runG
    split
    · rename_i hx
      split
      · rename_i h2
        refine ih _ ?_
        have := piece_len hx.1 hx.2
        rw [List.length_append]; omega
      · simp
    · simp
theorem run_err {basis : Txt} : ∀ (l : List DSt) (out : Txt), (runG basis l out).1 = 0 ∨ (runG basis l out).1 = 2 ∨ (runG basis l out).1 = 4 := by
  intro l
  induction l with
  | nil => intro out; exact .inl rfl
  | cons x l ih =>
    intro out
    unfold runG
    split
    · split
      · exact ih _
      · exact .inr (.inr rfl)
    · exact .inr (.inl rfl)

set_option maxRecDepth 100000 in
set_option maxHeartbeats 2000000 in
theorem applyD_any {nn pb : Nat} {At : World → Prop} {is : Txt → Txt → Bool} (A : AskI nn pb At is) (hn1 : 1000000 ≤ nn) (hn2 : nn ≤ 140737488351232) (N : Nat → Prop) (basis bm mm : Txt) (n : Int) (v : Value) (l : List DSt) (w : World) (h : RowS N w v l) (hok : ∀ x ∈ l, StOk x) (hl : l.length ≤ 1000000) (h1 : bm.length ≤ 140737488351232) (h2 : mm.length ≤ 140737488351232) (hb1 : -9223372036854775808 ≤ n) (hb2 : n ≤ 9223372036854775807)
    (hAt : At w) (hbl : basis.length ≤ nn) (hbb : is basis bm = true → basis.length ≤ 1000000) :
    Calls Try.prog 17 #[.pointer (some ⟨pb, 0, none⟩), .string ⟨basis.toArray⟩, delW bm mm n v] w fun e w' => e = .returned (.tuple #[.string ⟨(applyS is basis bm mm n l).2.toArray⟩, .int .i64 (applyS is basis bm mm n l).1]) ∧ Below w.heap.size w w' := by
  have hd0 := below_self_alloc w (delO bm mm n v)
  obtain ⟨a, c, hv⟩ := h.slice
  obtain ⟨d0, d1, d2, d3⟩ := delO_cells (heap_alloc_new w (delO bm mm n v))
  have R0 := Lib.hid (h.keep hd0)
  have HA0 := Lib.hid (A.new hAt hd0)
  have HA := Lib.hid A
  have B0 := Lib.hid hd0
  have RT := Lib.hid (rightD_any N bm mm n v l _ R0.out hok hl h1 h2 hb1 hb2)
  have RN := Lib.hid (fun w' (hr : RowS N w' v l) hb => runD_any N basis v l w' hr hok hl hb)
  have HS := Lib.hid (show applyS is basis bm mm n l = if rightD bm mm n l = false then (1, []) else if is basis bm = false then (13, []) else if (runG basis l []).1 ≠ 0 then ((runG basis l []).1, []) else if is (runG basis l []).2 mm = true then (0, (runG basis l []).2) else (6, []) from rfl)
  have hrl := run_len (basis := basis) l [] (by simp)
  have hre := run_err (basis := basis) l []
  generalize applyS is basis bm mm n l = res at *
  have HBB := Lib.hid hbb
  clear h A hAt hok hd0 hbb
  subst hv
  cases hr : rightD bm mm n l with
  | false =>
    rw [hr] at RT
    have HR := Lib.hid (show res = (1, []) by rw [HS.out, hr]; rfl)
    clear HS hr
    go_enter Try.func17, Try.ntmps17
    go_wp2_with fail
    refine RT.out.mono ?_
    rintro e w2 ⟨rfl, hb2'⟩
    have B2 := Lib.hid (B0.out.trans (hb2'.mono B0.out.size))
    clear hb2'
    go_wp2_with fail
    go_ret2
    exact ⟨by rw [HR.out]; rfl, B2.out⟩
  | true =>
    rw [hr] at RT
    have HS2 := Lib.hid (show res = if is basis bm = false then (13, []) else if (runG basis l []).1 ≠ 0 then ((runG basis l []).1, []) else if is (runG basis l []).2 mm = true then (0, (runG basis l []).2) else (6, []) by rw [HS.out, hr]; rfl)
    clear HS hr
    generalize hw0 : w.alloc (.cells #[.string ⟨bm.toArray⟩, .string ⟨mm.toArray⟩, .int .i64 n, .slice a l.length c] 27) = w0 at *
    have RT' := RT
    cases hi : is basis bm with
    | false =>
      have HR := Lib.hid (show res = (13, []) by rw [HS2.out, hi]; rfl)
      clear HS2
      go_enter Try.func17, Try.ntmps17
      go_wp2_with fail
      refine RT.out.mono ?_
      rintro e w2 ⟨rfl, hb2'⟩
      have B2 := Lib.hid (B0.out.trans (hb2'.mono B0.out.size))
      have E0 := (hb2'.cell (World.block_lt_of_cell? w0 _ d0)).trans d0
      have IS := Lib.hid (HA.out.is w2 basis bm (HA.out.new HA0.out hb2') hbl)
      rw [hi] at IS
      clear hb2' d0 d1 d2 d3
      go_wp2_with fail
      refine IS.out.mono ?_
      rintro e w3 ⟨rfl, hb3⟩
      have B3 := Lib.hid (B2.out.trans (hb3.mono B2.out.size))
      clear hb3
      go_wp2_with fail
      go_ret2
      exact ⟨by rw [HR.out]; rfl, B3.out⟩
    | true =>
      have HS3 := Lib.hid (show res = if (runG basis l []).1 ≠ 0 then ((runG basis l []).1, []) else if is (runG basis l []).2 mm = true then (0, (runG basis l []).2) else (6, []) by rw [HS2.out, hi]; rfl)
      have hbs := HBB.out hi
      clear HS2
      obtain ⟨rr, hrr⟩ : ∃ rr : Int × Txt, rr = runG basis l [] := ⟨_, rfl⟩
      rw [← hrr] at HS3 hrl hre RN
      clear hrr
      obtain ⟨re, rt⟩ := rr
      dsimp only at HS3 hrl hre
      go_enter Try.func17, Try.ntmps17
      go_wp2_with fail
      refine RT.out.mono ?_
      rintro e w2 ⟨rfl, hb2'⟩
      have B2 := Lib.hid (B0.out.trans (hb2'.mono B0.out.size))
      have E0 := (hb2'.cell (World.block_lt_of_cell? w0 _ d0)).trans d0
      have E1 := (hb2'.cell (World.block_lt_of_cell? w0 _ d1)).trans d1
      have E3 := (hb2'.cell (World.block_lt_of_cell? w0 _ d3)).trans d3
      have HA2 := Lib.hid (HA.out.new HA0.out hb2')
      have R2 := Lib.hid (R0.out.keep hb2')
      have IS := Lib.hid (HA.out.is w2 basis bm HA2.out hbl)
      rw [hi] at IS
      clear hb2' d0 d1 d2 d3 R0 HA0 B0
      go_wp2_with fail
      refine IS.out.mono ?_
      rintro e w3 ⟨rfl, hb3⟩
      have B3 := Lib.hid (B2.out.trans (hb3.mono B2.out.size))
      have F1 := (hb3.cell (World.block_lt_of_cell? w2 _ E1)).trans E1
      have F3 := (hb3.cell (World.block_lt_of_cell? w2 _ E3)).trans E3
      have HA3 := Lib.hid (HA.out.new HA2.out hb3)
      have RR := Lib.hid (RN.out w3 (R2.out.keep hb3) hbs)
      clear hb3 E0 E1 E3 IS R2 RN HA2
      go_wp2_with fail
      refine RR.out.mono ?_
      rintro e w4 ⟨rfl, hb4⟩
      have B4 := Lib.hid (B3.out.trans (hb4.mono B3.out.size))
      have G1 := (hb4.cell (World.block_lt_of_cell? w3 _ F1)).trans F1
      have HA4 := Lib.hid (HA.out.new HA3.out hb4)
      clear hb4 F1 F3 RR HA3
      by_cases hz : re = 0
      · have q0 : (re != 0) = false := by simp [hz]
        have IS := Lib.hid (HA.out.is w4 rt mm HA4.out (by omega))
        have HS4 := Lib.hid (show res = if is rt mm = true then (0, rt) else (6, []) by rw [HS3.out, if_neg (fun c => c hz)])
        clear HS3 hz hre
        cases hm : is rt mm with
        | true =>
          rw [hm] at IS
          have HR := Lib.hid (show res = (0, rt) by rw [HS4.out, hm]; rfl)
          clear HS4
          go_wp2_with fail
          refine IS.out.mono ?_
          rintro e w5 ⟨rfl, hb5⟩
          have B5 := Lib.hid (B4.out.trans (hb5.mono B4.out.size))
          clear hb5
          go_wp2_with fail
          go_ret2
          exact ⟨by rw [HR.out]; rfl, B5.out⟩
        | false =>
          rw [hm] at IS
          have HR := Lib.hid (show res = (6, []) by rw [HS4.out, hm]; rfl)
          clear HS4
          go_wp2_with fail
          refine IS.out.mono ?_
          rintro e w5 ⟨rfl, hb5⟩
          have B5 := Lib.hid (B4.out.trans (hb5.mono B4.out.size))
          clear hb5
          go_wp2_with fail
          go_ret2
          exact ⟨by rw [HR.out]; rfl, B5.out⟩
      · have q0 : (re != 0) = true := by simp [hz]
        have HR := Lib.hid (show res = (re, []) by rw [HS3.out, if_pos hz])
        clear HS3 hz
        go_wp2_with fail
        go_ret2
        exact ⟨by rw [HR.out]; rfl, B4.out⟩
end Go.Proofs.Ytfblkhmhelmjlaa

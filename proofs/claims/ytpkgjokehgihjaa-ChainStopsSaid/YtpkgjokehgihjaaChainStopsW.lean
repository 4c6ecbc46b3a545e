/- The walk of the law ChainStops. -/
import Derived.Test.YtpkgjokehgihjaaTabX
import Derived.Test.YtpkgjokehgihjaaBldShelf
import Derived.Test.YtpkgjokehgihjaaBookW
import Derived.Test.YtpkgjokehgihjaaTyX
import Derived.Test.YtpkgjokehgihjaaSrX
import Derived.Test.YtpkgjokehgihjaaDelX
import Derived.Test.YtpkgjokehgihjaaRcX
import Derived.Test.YtpkgjokehgihjaaFrame
import Derived.Test.YtpkgjokehgihjaaGen
import Derived.Test.YtpkgjokehgihjaaPtX
import Derived.Test.YtpkgjokehgihjaaMarkMath
import Derived.Test.YtpkgjokehgihjaaRollX
import Derived.Test.YtpkgjokehgihjaaNewTabW
import Derived.Test.YtpkgjokehgihjaaOwnL
import Derived.Test.YtpkgjokehgihjaaProg
import Derived.Test.YtpkgjokehgihjaaCdX
import Derived.Test.YtpkgjokehgihjaaRollMath
import Derived.Test.YtpkgjokehgihjaaRowKeep
import Derived.Test.YtpkgjokehgihjaaRows
import Derived.Test.YtpkgjokehgihjaaShelf
import Derived.Test.YtpkgjokehgihjaaSigAt
import Derived.Test.YtpkgjokehgihjaaSigOfW
import Derived.Test.YtpkgjokehgihjaaSignMath
import Derived.Test.YtpkgjokehgihjaaSignW
import Derived.Test.YtpkgjokehgihjaaSmall7W
import Derived.Test.YtpkgjokehgihjaaSortX
import Derived.Test.YtpkgjokehgihjaaSortEW
import Derived.Test.YtpkgjokehgihjaaSortFW
import Derived.BigQuiet
import Derived.Deep.CutBlock
import Derived.Deep.DeepCutAuto
import Derived.Deep.LoopGhost
import Derived.Deep.QuietTactic
import Derived.Deep.RegionHeld3
import Derived.Deep.RegionLaw
import Derived.IntWalk
import Derived.Laws.BitsAllLaws
import Derived.Laws.Externs
import Derived.Laws.MakeOwn
import Derived.Laws.Rows
import Derived.Laws.Tables
import Derived.Lib.AppendStr
import Derived.Lib.Builder
import Derived.Lib.Hide
import Derived.Lib.Strings
import Derived.Lib.Walk
import Derived.Outline
import Derived.Sort.Walk0
import Derived.StillTailTactics
import Derived.WalkKit
import Derived.WalkLawsBesides
import Derived.WalkSpells
set_option linter.unusedVariables false
namespace Go.Proofs.Ytpkgjokehgihjaa
open Go.RowKit

theorem Row.lt {α : Type} {enc : α → Value} {N : Nat → Prop} {w : World} {v : Value} {xs : List α} (h : Row enc N w v xs) : Row enc (· < w.heap.size) w v xs := by
  obtain ⟨a, cap, rfl, hc⟩ := h
  refine ⟨a, cap, rfl, fun i hi => ?_⟩
  obtain ⟨b, off, ha, _, hcell⟩ := hc i hi
  exact ⟨b, off, ha, World.block_lt_of_cell? w _ hcell, hcell⟩
set_option maxRecDepth 100000 in
set_option maxHeartbeats 1000000 in
theorem chainStops_walk (v : Value) (ts : List Txt) (z : Int) (hz1 : -9223372036854775808 ≤ z) (hz2 : z ≤ 9223372036854775807) (zo : Int) (ho1 : -9223372036854775808 ≤ zo) (ho2 : zo ≤ 9223372036854775807) (w : World) (h : Row encX (· < w.heap.size) w v ts) (_ : ts.length * 16 ≤ 140737488351232) :
    Calls Try.prog 9 #[v, .int .i64 z, .int .i64 zo] w fun e w' => e = .returned (.bool true) ∧ Below w.heap.size w w' := by
  have FW := Lib.hid (few7_any _ v ts w h)
  have HLE := Lib.hid (fewS_le ts)
  have hl6 := fewS_len ts
  generalize fewS ts = L at *
  clear h
  go_enter Try.func9, Try.ntmps9
  go_wp2_with fail
  refine FW.out.mono ?_
  rintro e w1 ⟨v1, rfl, ho, hb1⟩
  have HO1 := Lib.hid ho
  have HB1 := Lib.hid hb1
  obtain ⟨a1, c1, rfl, _⟩ := HO1.out.row
  clear ho hb1 FW
  by_cases q1 : L.length < 3
  · have i1 : (L.length : Int) < 3 := by omega
    go_wp2_with fail
    refine (awake7_any _).mono ?_
    rintro e w2 ⟨rfl, b2⟩
    have HB2 := Lib.hid (HB1.out.trans (b2.mono HB1.out.size))
    go_wp2_with fail
    go_ret
    exact ⟨rfl, HB2.out⟩
  have i1 : ¬ (L.length : Int) < 3 := by omega
  by_cases q2 : z < 16
  · go_wp2_with fail
    refine (awake7_any _).mono ?_
    rintro e w2 ⟨rfl, b2⟩
    have HB2 := Lib.hid (HB1.out.trans (b2.mono HB1.out.size))
    go_wp2_with fail
    go_ret
    exact ⟨rfl, HB2.out⟩
  by_cases q3 : 1024 < z
  · go_wp2_with fail
    refine (awake7_any _).mono ?_
    rintro e w2 ⟨rfl, b2⟩
    have HB2 := Lib.hid (HB1.out.trans (b2.mono HB1.out.size))
    go_wp2_with fail
    go_ret
    exact ⟨rfl, HB2.out⟩
  by_cases q4 : zo < 0
  · go_wp2_with fail
    refine (awake7_any _).mono ?_
    rintro e w2 ⟨rfl, b2⟩
    have HB2 := Lib.hid (HB1.out.trans (b2.mono HB1.out.size))
    go_wp2_with fail
    go_ret
    exact ⟨rfl, HB2.out⟩
  by_cases q5 : (L.length : Int) - 2 ≤ zo
  · go_wp2_with fail
    refine (awake7_any _).mono ?_
    rintro e w2 ⟨rfl, b2⟩
    have HB2 := Lib.hid (HB1.out.trans (b2.mono HB1.out.size))
    go_wp2_with fail
    go_ret
    exact ⟨rfl, HB2.out⟩
  obtain ⟨B, rfl⟩ : ∃ B : Nat, z = (B : Int) := ⟨z.toNat, by omega⟩
  obtain ⟨r, rfl⟩ : ∃ r : Nat, zo = (r : Int) := ⟨zo.toNat, by omega⟩
  clear hz1 hz2 ho1 ho2
  obtain ⟨ga, oa, HC⟩ : ∃ ga oa, a1 = some ⟨ga, oa, none⟩ ∧ Hid (∀ w', Below w1.heap.size w1 w' → ∀ i (hi : i < L.length), w'.cell? ⟨ga, oa + i, none⟩ = some (.string ⟨(L[i]'hi).toArray⟩)) := by
    rcases HO1.out.row.cases with ⟨e, _⟩ | ⟨b, off, cap, e, _, hc⟩
    · rw [e] at i1; simp at i1
    · injection e with e1 e2 e3
      exact ⟨b, off, e1, Lib.hid (fun w' hb i hi => (hb.cell (World.block_lt_of_cell? _ _ (hc i hi))).trans (hc i hi))⟩
  obtain ⟨rfl, HC⟩ := HC
  go_wp2_with fail
  refine (ideal_any _).mono ?_
  rintro e w2 ⟨pb, bm, rfl, hid2, hp, hbm, hb2⟩
  have HRW := Lib.hid (HO1.out.row.lt.grow hb2)
  have RW := Lib.hid (row_any pb bm B (.slice (some ⟨ga, oa, none⟩) L.length c1) L w2 (by omega) (by omega) (HRW.out.mono (fun k hk e => by rcases e with rfl | rfl <;> omega)) hl6 (by omega) HLE.out hid2)
  have HPB := Lib.hid (show w1.heap.size ≤ pb ∧ w1.heap.size ≤ bm from ⟨hp, hbm⟩)
  have HW2 := Lib.hid hb2
  clear hid2 hp hbm hb2
  go_wp2_with fail
  refine RW.out.mono ?_
  rintro e w3 ⟨v3, S, xs, rfl, hd3, hx3, hin3, hS3, hid3, hk3⟩
  have hxl : xs.length = L.length - 1 := by rw [← rowL_len S B L, ← hx3, List.length_map]
  have hx0 : 0 < xs.length := by omega
  obtain ⟨g3, c3, hv3, hg3, _⟩ := hd3.own.at hx0
  subst hv3
  obtain ⟨_, _, hv3, hc3⟩ := hd3.own.slice
  injection hv3 with hv31 hv32 hv33
  subst hv33
  clear hv31 hv32
  have HD3 := Lib.hid hd3
  have HX3 := Lib.hid hx3
  have HIN := Lib.hid hin3
  have HI3 := Lib.hid hid3
  have HXL := Lib.hid hxl
  have HW3 := Lib.hid (HW2.out.trans (hk3.below HW2.out.size (fun k e => by have := HPB.out; rcases e with rfl | rfl <;> omega)))
  have q6 : ((xs.length : Int) != (L.length : Int) - 1) = false := by simp; omega
  have r1 : r + 1 < xs.length := by omega
  have r2 : (0 : Int) ≤ (r : Int) := by omega
  have r3 : (r : Int) ≤ (c3 : Int) := by omega
  have r4 : (r : Int) + 1 ≤ (xs.length : Int) := by omega
  have r5 : (0 : Int) ≤ (r : Int) + 1 := by omega
  have r6 : IntKind.i64.wrap ((r : Int) + 1) = (r : Int) + 1 := by rw [IntKind.wrap_i64]; omega
  have r7 : ¬ c3 = r + 1 := by omega
  have HB23 := Lib.hid (hk3.size)
  clear hd3 hx3 hin3 hid3 hk3 RW hxl
  have b4 : Below w3.heap.size w3 (w3.alloc (.cells #[] 24)).drew := Below_drew (below_self_alloc w3 (.cells #[] 24 (0, 0)))
  have HO4 := Lib.hid (show OwnP (w3.alloc (.cells #[] 24)).drew w3.heap.size (.slice (some ⟨w3.heap.size, 0, none⟩) 0 0) [] from OwnP.nilAt _ _ (heap_alloc_new w3 (.cells #[] 24 (0, 0))) _ (Nat.le_refl _))
  have HP4 := Lib.hid (show ∀ j u, (flatD (xs.take r))[j]? = some u → (w3.alloc (.cells #[] 24)).drew.cell? ((⟨g3, 0, none⟩ : Addr).add j) = some u by
    have := (HD3.out.own.new b4).part 0 r
    rw [Nat.zero_mul, List.drop_zero] at this
    exact this)
  have HONE := Lib.hid (show ∀ y ∈ xs, y.2.oneCell' = true from fun y hy => by obtain ⟨_, _, _, e⟩ := own_slice (HD3.out.st y hy); rw [e]; rfl)
  have HB4 := Lib.hid b4
  have hb4s := b4.size
  have hw23 := HB23.out
  have hg3' : g3 < w3.heap.size := by
    obtain ⟨_, h2, _⟩ := HD3.out.own.lt (g := g3) rfl
    exact h2
  have HTL := Lib.hid (show r = (xs.take r).length by rw [List.length_take]; omega)
  have HTD := Lib.hid (show xs.length - (r + 1) = (xs.drop (r + 1)).length by rw [List.length_drop])
  have HXS := Lib.hid (show xs.length ≤ 5 by have := HXL.out; omega)
  clear b4
  go_upto_region 8 with fail
  go_region_law (first
    | ((with_reducible refine step_dels (o := ⟨some 53, _, _, _, _, _⟩) rfl (.tmp 49) (.tmp 52) 43 _ rfl Try.underlying43 info_del ?ez w3.heap.size (.slice (some ⟨w3.heap.size, 0, none⟩) 0 0) [] (xs.take r) ⟨g3, 0, none⟩ r c3 ?ev HO4.out ?ex HTL.out HP4.out ?h1 ?hl hb4s ?_)
       case ez => rfl
       case ev => simp [Act.eval]
       case ex => simp [Act.eval]
       case h1 => exact fun y hy => HONE.out y (List.mem_of_mem_take hy)
       case hl => have := HXS.out; simp; omega
       intro vA wA hoA htA
       have HOA := Lib.hid hoA
       have HBA := Lib.hid (HB4.out.trans htA.bel)
       have HPA := Lib.hid (show ∀ j u, (flatD (xs.drop (r + 1)))[j]? = some u → wA.cell? ((⟨g3, (r + 1) * 4, none⟩ : Addr).add j) = some u by
         have := (HD3.out.own.new HBA.out).part (r + 1) xs.length
         rw [List.take_of_length_le (by rw [List.length_drop]; omega)] at this
         exact this)
       have hbAs := HBA.out.size
       clear hoA htA)
    | ((with_reducible refine step_dels (o := ⟨some 58, _, _, _, _, _⟩) rfl (.tmp 53) (.tmp 57) 43 _ rfl Try.underlying43 info_del ?ez w3.heap.size vA ([] ++ xs.take r) (xs.drop (r + 1)) ⟨g3, (r + 1) * 4, none⟩ (xs.length - (r + 1)) (c3 - (r + 1)) ?ev HOA.out ?ex HTD.out HPA.out ?h1 ?hl hbAs ?_)
       case ez => rfl
       case ev => simp [Act.eval]
       case ex => simp [Act.eval]
       case h1 => exact fun y hy => HONE.out y (List.mem_of_mem_drop hy)
       case hl => have := HXS.out; simp; omega
       intro vC wC hoC htC
       have HOC := Lib.hid hoC
       have HBC := Lib.hid (HBA.out.trans htC.bel)
       clear hoC htC))
  all_goals
    have HDC := Lib.hid (show OwnD wC w2.heap.size vC (([] ++ xs.take r) ++ xs.drop (r + 1)) from ⟨HOC.out.mono hw23, fun x hx => (HD3.out.st x (by
      rcases List.mem_append.1 hx with hx | hx
      · exact List.mem_of_mem_take (by simpa using hx)
      · exact List.mem_of_mem_drop hx)).new HBC.out⟩)
    have HRD := Lib.hid (show RowD wC vC ((rowL S B L).take r ++ (rowL S B L).drop (r + 1)) by
      have := HDC.out.row
      rw [List.nil_append, List.map_append, List.map_take, List.map_drop, HX3.out] at this
      exact this)
    have HDL := Lib.hid (show ((rowL S B L).take r ++ (rowL S B L).drop (r + 1)).length = L.length - 2 by
      rw [List.length_append, List.length_take, List.length_drop, rowL_len]; omega)
    have HOKD := Lib.hid (show ∀ d ∈ (rowL S B L).take r ++ (rowL S B L).drop (r + 1), d.Ok from fun d hd => rowL_ok S (B := B) (by omega) L HLE.out d (by
      rcases List.mem_append.1 hd with hd | hd
      · exact List.mem_of_mem_take hd
      · exact List.mem_of_mem_drop hd))
    have SM := Lib.hid (stops_math (S := S) (L := L) (B := B) (r := r) (by omega) (by omega) (fun t ht => ⟨HIN.out t ht, HLE.out t ht⟩) (by omega))
    generalize (rowL S B L).take r ++ (rowL S B L).drop (r + 1) = D at *
    have HWC := Lib.hid (HW3.out.trans (HBC.out.mono HW3.out.size))
    obtain ⟨aC, cC, rfl, _⟩ := HRD.out
    have RN := Lib.hid (runCh_any (ask_ideal pb bm S (by omega)) (by decide) (Nat.le_refl _) L[0] (.slice aC D.length cC) D wC HRD.out HOKD.out (by have := HDL.out; omega) (by have := HLE.out L[0] (List.getElem_mem _); omega) (HI3.out.new HBC.out))
    have e0 := HC.out wC HWC.out 0 (by omega)
    rw [Nat.add_zero] at e0
    have i5 : (0 : Int) < (L.length : Int) := by omega
    clear HDC HRD HOKD HOC HD3 HX3 HIN HI3
    generalize runC (isS S) L[0] 0 D = rr at *
    go_wp2_with fail
    refine RN.out.mono ?_
    rintro e w5 ⟨rfl, hb5⟩
    have HW5 := Lib.hid (HWC.out.trans (hb5.mono HWC.out.size))
    have HB5 := Lib.hid (HB1.out.trans (HW5.out.mono HB1.out.size))
    have e1 := HC.out w5 HW5.out r (by omega)
    have e2 := HC.out w5 HW5.out (r + 1) (by omega)
    have HEL := Lib.hid (HC.out w5 HW5.out (L.length - 1) (by omega))
    have j1 : (r : Int) < (L.length : Int) := by omega
    have j2 : (r : Int) + 1 < (L.length : Int) := by omega
    generalize L[r] = x at *
    generalize L[r + 1] = y at *
    clear hb5 e0 RN
    have HBD := Lib.hid (show Below w.heap.size w w5.drew from Below_drew HB5.out)
    by_cases hxy : x = y
    · have hxx : (x == x) = true := by simp
      have HR := Lib.hid (SM.out.1 hxy)
      subst hxy
      rw [← HDL.out] at HR
      generalize L[L.length - 1] = tz at *
      have htz : (tz == tz) = true := by simp
      obtain ⟨rs, rn, re⟩ := rr
      have HR' := HR.out
      injection HR' with hr1 hr2
      injection hr2 with hr2 hr3
      subst hr1 hr2 hr3
      have e3 : w5.drew.cell? ⟨ga, oa + (L.length - 1), none⟩ = some (.string ⟨rs.toArray⟩) := HEL.out
      have j3 : (0 : Int) ≤ (L.length : Int) - 1 := by omega
      have j4 : (L.length : Int) - 1 < (L.length : Int) := by omega
      have j5 : IntKind.i64.wrap ((L.length : Int) - 1) = (L.length : Int) - 1 := by rw [IntKind.wrap_i64]; omega
      have j6 : ((L.length : Int) - 1).toNat = L.length - 1 := by omega
      clear HR HEL HDL
      go_upto_region 10 with fail
      go_region
      all_goals
        generalize w5.drew = w6 at *
        go_wp2_with fail
        refine (awake7_any _).mono ?_
        rintro e w7 ⟨rfl, b7⟩
        have HB7 := Lib.hid (HBD.out.trans (b7.mono HBD.out.size))
        go_wp2_with fail
        go_ret
        exact ⟨rfl, HB7.out⟩
    · have hxx : (x == y) = false := by simp [hxy]
      have HR := Lib.hid (SM.out.2 hxy)
      obtain ⟨rs, rn, re⟩ := rr
      have HR' := HR.out
      injection HR' with hr1 hr2
      injection hr2 with hr2 hr3
      subst hr1 hr2 hr3
      clear HR HEL HDL
      go_upto_region 10 with fail
      go_region
      all_goals
        generalize w5.drew = w6 at *
        go_wp2_with fail
        refine (awake7_any _).mono ?_
        rintro e w7 ⟨rfl, b7⟩
        have HB7 := Lib.hid (HBD.out.trans (b7.mono HBD.out.size))
        go_wp2_with fail
        go_ret
        exact ⟨rfl, HB7.out⟩
end Go.Proofs.Ytpkgjokehgihjaa

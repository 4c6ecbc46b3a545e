/- The walk of the law ChainRows. -/
import Derived.Test.YtpkgjokehgihjaaGreatBlX
import Derived.Test.YtpkgjokehgihjaaGreatMkX
import Derived.Test.YtpkgjokehgihjaaGreatTabX
import Derived.Test.YtpkgjokehgihjaaGreatBldShelf
import Derived.Test.YtpkgjokehgihjaaGreatBookW
import Derived.Test.YtpkgjokehgihjaaGreatTyX
import Derived.Test.YtpkgjokehgihjaaGreatSrX
import Derived.Test.YtpkgjokehgihjaaGreatDelX
import Derived.Test.YtpkgjokehgihjaaGreatRcX
import Derived.Test.YtpkgjokehgihjaaGreatFrame
import Derived.Test.YtpkgjokehgihjaaGreatGen
import Derived.Test.YtpkgjokehgihjaaGreatPtX
import Derived.Test.YtpkgjokehgihjaaGreatMarkMath
import Derived.Test.YtpkgjokehgihjaaGreatRollX
import Derived.Test.YtpkgjokehgihjaaGreatNewTabW
import Derived.Test.YtpkgjokehgihjaaGreatOdX
import Derived.Test.YtpkgjokehgihjaaGreatOwnL
import Derived.Test.YtpkgjokehgihjaaGreatProg
import Derived.Test.YtpkgjokehgihjaaGreatCdX
import Derived.Test.YtpkgjokehgihjaaGreatRightDW
import Derived.Test.YtpkgjokehgihjaaGreatRollMath
import Derived.Test.YtpkgjokehgihjaaGreatRowKeep
import Derived.Test.YtpkgjokehgihjaaGreatRows
import Derived.Test.YtpkgjokehgihjaaGreatSameW
import Derived.Test.YtpkgjokehgihjaaGreatShelf
import Derived.Test.YtpkgjokehgihjaaGreatSigAt
import Derived.Test.YtpkgjokehgihjaaGreatSigOfW
import Derived.Test.YtpkgjokehgihjaaGreatSignMath
import Derived.Test.YtpkgjokehgihjaaGreatSignW
import Derived.Test.YtpkgjokehgihjaaGreatSmall7W
import Derived.Test.YtpkgjokehgihjaaGreatSortX
import Derived.Test.YtpkgjokehgihjaaGreatSortEW
import Derived.Test.YtpkgjokehgihjaaGreatSortFW
import Derived.BigQuiet
import Derived.Deep.CutBlock
import Derived.Deep.DeepCutAuto
import Derived.Deep.LoopGhost
import Derived.Deep.QuietTactic
import Derived.Deep.RegionHeld3
import Derived.Deep.RegionLaw
import Derived.IntWalk
import Derived.Laws.BitsAllLaws
import Derived.Laws.Externs
import Derived.Laws.MakeOwn
import Derived.Laws.Rows
import Derived.Laws.Tables
import Derived.Lib.AppendStr
import Derived.Lib.Builder
import Derived.Lib.Hide
import Derived.Lib.Strings
import Derived.Lib.Walk
import Derived.Outline
import Derived.Sort.Walk0
import Derived.StillTailTactics
import Derived.WalkKit
import Derived.WalkLawsBesides
import Derived.WalkSpells
set_option linter.unusedVariables false
namespace Go.Proofs.YtpkgjokehgihjaaGreat
open Go.RowKit

theorem Row.lt {α : Type} {enc : α → Value} {N : Nat → Prop} {w : World} {v : Value} {xs : List α} (h : Row enc N w v xs) : Row enc (· < w.heap.size) w v xs := by
  obtain ⟨a, cap, rfl, hc⟩ := h
  refine ⟨a, cap, rfl, fun i hi => ?_⟩
  obtain ⟨b, off, ha, _, hcell⟩ := hc i hi
  exact ⟨b, off, ha, World.block_lt_of_cell? w _ hcell, hcell⟩
theorem rows_math {S L : List Txt} {B : Nat} (hb : 16 ≤ B) (h2 : 2 ≤ L.length) (hin : ∀ t ∈ L, t ∈ S ∧ t.length ≤ 1000) : RowTo S L[0] L[L.length - 1] (rowL S B L) := by
  match L, h2, hin with
  | x :: y :: R, h2, hin =>
    have h := rowL_row S hb (y :: R) x hin
    rw [List.getLastD_cons] at h
    have e := last_get (x :: y :: R) x y [] R rfl (by simp)
    rw [e]
    exact h
set_option maxRecDepth 100000 in
set_option maxHeartbeats 1000000 in
theorem chainRows_walk (v : Value) (ts : List Txt) (z : Int) (hz1 : -9223372036854775808 ≤ z) (hz2 : z ≤ 9223372036854775807) (w : World) (h : Row encX (· < w.heap.size) w v ts) (_ : ts.length * 16 ≤ 140737488351232) :
    Calls Tryz.prog 3 #[v, .int .i64 z] w fun e w' => e = .returned (.bool true) ∧ Below w.heap.size w w' := by
  have FW := Lib.hid (few7_any _ v ts w h)
  have HLE := Lib.hid (fewS_le ts)
  have hl6 := fewS_len ts
  generalize fewS ts = L at *
  clear h
  go_enter Tryz.func3, Tryz.ntmps3
  go_wp2_with fail
  refine FW.out.mono ?_
  rintro e w1 ⟨v1, rfl, ho, hb1⟩
  have HO1 := Lib.hid ho
  have HB1 := Lib.hid hb1
  obtain ⟨a1, c1, rfl, _⟩ := HO1.out.row
  clear ho hb1 FW
  by_cases q1 : L.length < 2
  · have i1 : (L.length : Int) < 2 := by omega
    go_wp2_with fail
    refine (awake7_any _).mono ?_
    rintro e w2 ⟨rfl, b2⟩
    have HB2 := Lib.hid (HB1.out.trans (b2.mono HB1.out.size))
    go_wp2_with fail
    go_ret
    exact ⟨rfl, HB2.out⟩
  have i1 : ¬ (L.length : Int) < 2 := by omega
  by_cases q2 : z < 16
  · go_wp2_with fail
    refine (awake7_any _).mono ?_
    rintro e w2 ⟨rfl, b2⟩
    have HB2 := Lib.hid (HB1.out.trans (b2.mono HB1.out.size))
    go_wp2_with fail
    go_ret
    exact ⟨rfl, HB2.out⟩
  by_cases q3 : 1024 < z
  · go_wp2_with fail
    refine (awake7_any _).mono ?_
    rintro e w2 ⟨rfl, b2⟩
    have HB2 := Lib.hid (HB1.out.trans (b2.mono HB1.out.size))
    go_wp2_with fail
    go_ret
    exact ⟨rfl, HB2.out⟩
  obtain ⟨B, rfl⟩ : ∃ B : Nat, z = (B : Int) := ⟨z.toNat, by omega⟩
  clear hz1 hz2
  obtain ⟨ga, oa, HC⟩ : ∃ ga oa, a1 = some ⟨ga, oa, none⟩ ∧ Hid (∀ w', Below w1.heap.size w1 w' → ∀ i (hi : i < L.length), w'.cell? ⟨ga, oa + i, none⟩ = some (.string ⟨(L[i]'hi).toArray⟩)) := by
    rcases HO1.out.row.cases with ⟨e, _⟩ | ⟨b, off, cap, e, _, hc⟩
    · rw [e] at i1; simp at i1
    · injection e with e1 e2 e3
      exact ⟨b, off, e1, Lib.hid (fun w' hb i hi => (hb.cell (World.block_lt_of_cell? _ _ (hc i hi))).trans (hc i hi))⟩
  obtain ⟨rfl, HC⟩ := HC
  go_wp2_with fail
  refine (ideal_any _).mono ?_
  rintro e w2 ⟨pb, bm, rfl, hid2, hp, hbm, hb2⟩
  have HRW := Lib.hid (HO1.out.row.lt.grow hb2)
  have RW := Lib.hid (row_any pb bm B (.slice (some ⟨ga, oa, none⟩) L.length c1) L w2 (by omega) (by omega) (HRW.out.mono (fun k hk e => by rcases e with rfl | rfl <;> omega)) hl6 (by omega) HLE.out hid2)
  have HPB := Lib.hid (show w1.heap.size ≤ pb ∧ w1.heap.size ≤ bm from ⟨hp, hbm⟩)
  have HW2 := Lib.hid hb2
  clear hid2 hp hbm hb2
  go_wp2_with fail
  refine RW.out.mono ?_
  rintro e w3 ⟨v3, S, xs, rfl, hd3, hx3, hin3, hS3, hid3, hk3⟩
  have HW3 := Lib.hid (HW2.out.trans (hk3.below HW2.out.size (fun k e => by have := HPB.out; rcases e with rfl | rfl <;> omega)))
  have HRD := Lib.hid (show RowD w3 v3 (rowL S B L) by rw [← hx3]; exact hd3.row)
  have HI3 := Lib.hid hid3
  have HRT := Lib.hid (rows_math (S := S) (L := L) (B := B) (by omega) (by omega) (fun t ht => ⟨hin3 t ht, HLE.out t ht⟩))
  have HOKD := Lib.hid (show ∀ d ∈ rowL S B L, d.Ok from rowL_ok S (B := B) (by omega) L HLE.out)
  have HDL := Lib.hid (show (rowL S B L).length = L.length - 1 from rowL_len S B L)
  have HL0 := Lib.hid (show L[0] ∈ S ∧ L[0].length ≤ 1000 from ⟨hin3 _ (List.getElem_mem _), HLE.out _ (List.getElem_mem _)⟩)
  have HLZ := Lib.hid (show L[L.length - 1] ∈ S from hin3 _ (List.getElem_mem _))
  have RA := Lib.hid (run_all HRT.out (by omega) HL0.out.1)
  have FR := Lib.hid (foldR_row HRT.out (fun e => by have := HDL.out; rw [e] at this; simp at this; omega))
  obtain ⟨a3, c3, rfl, -⟩ := HRD.out
  have RN := Lib.hid (runCh_any (ask_ideal pb bm S (by omega)) (by decide) (Nat.le_refl _) L[0] _ (rowL S B L) w3 HRD.out HOKD.out (by have := HDL.out; omega) (by have := HL0.out.2; omega) HI3.out)
  have FD := Lib.hid (fun w' (hb : Below w3.heap.size w3 w') => fold_any _ (rowL S B L) w' (HRD.out.keep hb) HOKD.out (by have := HDL.out; omega))
  rw [RA.out] at RN
  have AP := Lib.hid (fun (d : DD) (hd : DMk S L[0] L[L.length - 1] d) w' (v' : Value) (ho : RowS (fun _ => True) w' v' d.l) (hb : Below w3.heap.size w3 w') => (show Calls Tryz.prog 10 #[.pointer (some ⟨pb, 0, none⟩), .string ⟨(L[0]).toArray⟩, delW d.bm d.mm d.n v'] w' fun e w'' => e = .returned (.tuple #[.string ⟨(L[L.length - 1]).toArray⟩, .int .i64 0]) ∧ Below w'.heap.size w' w'' from by
    have hok := hd.ok
    have := applyD_any (ask_ideal pb bm S (by omega)) (by decide) (Nat.le_refl _) (fun _ => True) L[0] d.bm d.mm d.n v' d.l w' ho hok.st hok.len hok.b hok.m hok.n1 hok.n2 (HI3.out.new hb) (by have := HL0.out.2; omega) (fun _ => by have := HL0.out.2; omega)
    rw [hd.apply (is := isS S) (by rw [hd.bm, isS_one HL0.out.1 (by omega), decide_eq_true rfl]) (by rw [hd.mm, isS_one HLZ.out (by omega), decide_eq_true rfl])] at this
    exact this))
  have HN := Lib.hid (show (((rowL S B L).length : Nat) : Int) = (L.length : Int) - 1 by have := HDL.out; omega)
  dsimp only at RN
  rw [HN.out] at RN
  have HC0 := Lib.hid (fun w' (hb : Below w1.heap.size w1 w') => (show w'.cell? ⟨ga, oa, none⟩ = some (.string ⟨(L[0]).toArray⟩) from HC.out w' hb 0 (by omega)))
  have HCZ := Lib.hid (fun w' (hb : Below w1.heap.size w1 w') => HC.out w' hb (L.length - 1) (by omega))
  clear hd3 hx3 hin3 hid3 hk3 RW RA HOKD HRT HL0 HLZ HRD HN HDL
  generalize foldR (rowL S B L) = fr at *
  generalize (rowL S B L).length = dl at *
  generalize L[0] = t0 at *
  generalize L[L.length - 1] = tz at *
  obtain ⟨dd, fe⟩ := fr
  have e0 := HC0.out w3 HW3.out
  have i5 : (0 : Int) < (L.length : Int) := by omega
  go_wp2_with fail
  refine RN.out.mono ?_
  rintro e w4 ⟨rfl, hb4⟩
  have h34 := Lib.hid hb4
  have FD4 := Lib.hid (FD.out w4 hb4)
  clear hb4 RN FD e0
  go_wp2_with fail
  refine FD4.out.mono ?_
  rintro e w5 ⟨v5, rfl, ho5, hb5⟩
  obtain ⟨x5, y5, z5, rfl⟩ := own_slice ho5
  obtain ⟨hfe, hdm⟩ := FR.out
  subst hfe
  have bx := below_self_alloc w5 (dd.o (.slice x5 y5 z5))
  have HX6 := Lib.hid (heap_alloc_new w5 (dd.o (.slice x5 y5 z5)))
  have h36 := Lib.hid (h34.out.trans ((hb5.trans (bx.mono hb5.size)).mono h34.out.size))
  have BD : Hid (Below w3.heap.size w3 (w5.alloc (dd.o (.slice x5 y5 z5))).drew) := Lib.hid (Below_drew h36.out)
  have AP6 := Lib.hid (AP.out dd hdm (w5.alloc (dd.o (.slice x5 y5 z5))).drew (.slice x5 y5 z5) (((ho5.new bx).new (Below_drew (Below.refl _ _))).row.mono (fun _ _ => trivial)) BD.out)
  have HF := Lib.hid (fun w' (hb : Below w3.heap.size w3 w') => HC0.out w' (HW3.out.trans (hb.mono HW3.out.size)))
  have HBX := Lib.hid (fun w' (hb : Below (w5.alloc (dd.o (.slice x5 y5 z5))).heap.size (w5.alloc (dd.o (.slice x5 y5 z5))).drew w') => delO_cells (old_of hb (show (w5.alloc (dd.o (.slice x5 y5 z5))).drew.heap[w5.heap.size]? = some (dd.o (.slice x5 y5 z5)) from HX6.out)))
  obtain ⟨bq, mq, nq, lq⟩ := dd
  dsimp only [DD.v, DD.o] at *
  clear ho5 hb5 bx FD4 FR AP hdm
  obtain ⟨f0, f1, f2, f3⟩ := HBX.out _ (Below.refl _ _)
  have c0 := HF.out _ BD.out
  go_upto_region 8 with fail
  have i6 : (0 : Int) < (L.length : Int) := by omega
  have i7 : 0 < L.length := by omega
  go_region_held3 (fun w' => w'.cell? ⟨ga, oa, none⟩ = some (.string ⟨t0.toArray⟩) ∧ w'.cell? ⟨w5.heap.size, 0, none⟩ = some (.string ⟨bq.toArray⟩) ∧ w'.cell? ⟨w5.heap.size, 1, none⟩ = some (.string ⟨mq.toArray⟩) ∧ w'.cell? ⟨w5.heap.size, 2, none⟩ = some (.int .i64 nq) ∧ w'.cell? ⟨w5.heap.size, 3, none⟩ = some (.slice x5 y5 z5))
    (first | with_reducible exact ⟨by assumption, by assumption, by assumption, by assumption, by assumption⟩ | go_keep)
    (first | (go_at_call 10; go_split_ands; refine AP6.out.mono ?_; rintro e w8 ⟨rfl, hb8⟩; obtain ⟨g0, g1, g2, g3⟩ := HBX.out w8 hb8; have h38 := Lib.hid (BD.out.trans (hb8.mono BD.out.size)); have c0b := HF.out w8 h38.out; clear hb8))
  all_goals
    have htz : (tz == tz) = true := by simp
    have h18 := Lib.hid (HW3.out.trans (h38.out.mono HW3.out.size))
    have e3 := HCZ.out w8 h18.out
    have HB8 := Lib.hid (HB1.out.trans (h18.out.mono HB1.out.size))
    have j3 : (0 : Int) ≤ (L.length : Int) - 1 := by omega
    have j4 : (L.length : Int) - 1 < (L.length : Int) := by omega
    have j5 : IntKind.i64.wrap ((L.length : Int) - 1) = (L.length : Int) - 1 := by rw [IntKind.wrap_i64]; omega
    have j6 : ((L.length : Int) - 1).toNat = L.length - 1 := by omega
    clear c0 f0 f1 f2 f3 g0 g1 g2 g3 c0b AP6 HBX HF BD HX6
    go_wp2_with fail
    refine (awake7_any _).mono ?_
    rintro e w9 ⟨rfl, b9⟩
    have HB9 := Lib.hid (HB8.out.trans (b9.mono HB8.out.size))
    go_wp2_with fail
    go_ret
    exact ⟨rfl, HB9.out⟩
end Go.Proofs.YtpkgjokehgihjaaGreat

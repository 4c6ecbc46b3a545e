/- The walk of the law SignKept. -/
import Derived.Test.YtifbdbblfhphjaaArgSig
import Derived.Test.YtifbdbblfhphjaaBookW
import Derived.Test.YtifbdbblfhphjaaBytesW
import Derived.Test.YtifbdbblfhphjaaFewW
import Derived.Test.YtifbdbblfhphjaaFrame
import Derived.Test.YtifbdbblfhphjaaGen
import Derived.Test.YtifbdbblfhphjaaLists
import Derived.Test.YtifbdbblfhphjaaNewTabW
import Derived.Test.YtifbdbblfhphjaaOwnL
import Derived.Test.YtifbdbblfhphjaaProg
import Derived.Test.YtifbdbblfhphjaaReadW
import Derived.Test.YtifbdbblfhphjaaRightW
import Derived.Test.YtifbdbblfhphjaaRows
import Derived.Test.YtifbdbblfhphjaaTabX
import Derived.Test.YtifbdbblfhphjaaSAwakeW
import Derived.Test.YtifbdbblfhphjaaSameW
import Derived.Test.YtifbdbblfhphjaaShelf
import Derived.Test.YtifbdbblfhphjaaSigAt
import Derived.Test.YtifbdbblfhphjaaSignAW
import Derived.Test.YtifbdbblfhphjaaSignBytesW
import Derived.Test.YtifbdbblfhphjaaSignFindsW
import Derived.Test.YtifbdbblfhphjaaSignMath
import Derived.Test.YtifbdbblfhphjaaSignReadsW
import Derived.Test.YtifbdbblfhphjaaSortX
import Derived.Test.YtifbdbblfhphjaaSortEW
import Derived.Test.YtifbdbblfhphjaaSortShelf
import Derived.Test.YtifbdbblfhphjaaTabFindW
import Derived.BigQuiet
import Derived.BigRegion
import Derived.ChangeAlike
import Derived.Deep.CutBlock
import Derived.Deep.DeepCutAuto
import Derived.Deep.QuietTactic
import Derived.Deep.RegionLaw
import Derived.IntWalk
import Derived.Laws.BitsAllLaws
import Derived.Laws.Rows
import Derived.Laws.Tables
import Derived.Lib.Hide
import Derived.Outline
import Derived.RegionTactic
import Derived.Sort.Walk0
import Derived.StillTailTactics
import Derived.WalkKit
import Derived.WalkLawsBesides
import Derived.WalkSpells
set_option linter.unusedVariables false
namespace Go.Proofs.Ytifbdbblfhphjaa
open Go.RowKit

theorem cell_setCell_other {w : World} {a : Addr} {g i : Nat} {v : Value} (h : a.block ≠ g) : (w.setCell ⟨g, i, none⟩ v).cell? a = w.cell? a := by
  unfold World.cell?
  rw [Below.heap_setCell _ _ _ _ (fun e => h e)]

set_option maxRecDepth 100000 in
set_option maxHeartbeats 4000000 in
theorem signKept_walk (v : Value) (weak : Int) (hw1 : -9223372036854775808 ≤ weak) (hw2 : weak ≤ 9223372036854775807) (w : World) (hv : SigIn w v) :
    Calls Try.prog 12 #[v, .int .i64 weak] w fun e w' => e = .returned (.bool true) ∧ Below w.heap.size w w' := by
  obtain ⟨b, n, vw, vs, ws, ms, rfl, ⟨a1, m1, k1, rfl⟩, ⟨a2, m2, k2, rfl⟩, r1, r2, l1, l2, _, _, FEW⟩ := few_start v w hv
  clear hv
  obtain ⟨A1, M1, K1, e1⟩ : ∃ a m c, takeV 300 (.slice a1 m1 k1) = .slice a m c := ⟨_, _, _, rfl⟩
  obtain ⟨A2, M2, K2, e2⟩ : ∃ a m c, takeV 300 (.slice a2 m2 k2) = .slice a m c := ⟨_, _, _, rfl⟩
  rw [e1] at r1 FEW
  rw [e2] at r2 FEW
  clear e1 e2
  have F := fun w' => Lib.hid (FEW w')
  have R1 := Lib.hid r1
  have R2 := Lib.hid r2
  have G0 := Lib.hid (heap_alloc_new w (sigC b n (.slice a1 m1 k1) (.slice a2 m2 k2)))
  have HB0 := Lib.hid ((Below.refl w.heap.size w).alloc (Nat.le_refl _) (sigC b n (.slice a1 m1 k1) (.slice a2 m2 k2)))
  clear FEW r1 r2
  go_enter Try.func12, Try.ntmps12
  go_wp2_with fail
  generalize w.alloc (.cells #[.int .i64 b, .int .i64 n, .slice a1 m1 k1, .slice a2 m2 k2] 31) = w0 at *
  refine (F _).out.mono ?_
  rintro e w1 ⟨rfl, hb1⟩
  obtain ⟨⟨x1, x2⟩, ⟨x3, x4⟩, ⟨x5, x6⟩, ⟨x7, x8⟩, x9, x10⟩ := sig_store (b' := b) (n' := n) (vw' := .slice A1 M1 K1) (vs' := .slice A2 M2 K2) (old_of hb1 G0.out)
  have c0 := sig_c0 x9
  have c1 := sig_c1 x9
  have c2 := sig_c2 x9
  have c3 := sig_c3 x9
  have HB1 := Lib.hid (HB0.out.trans (hb1.mono HB0.out.size))
  have HG := Lib.hid x9
  have HB2 := Lib.hid (HB1.out.trans (x10.below HB1.out.size (fun k e => by omega)))
  clear x9 x10 hb1 F G0 HB0
  go_wp2_with fail
  generalize (((w1.setCell ⟨w.heap.size, 0, none⟩ (.int .i64 b)).setCell ⟨w.heap.size, 1, none⟩ (.int .i64 n)).setCell ⟨w.heap.size, 2, none⟩ (.slice A1 M1 K1)).setCell ⟨w.heap.size, 3, none⟩ (.slice A2 M2 K2) = w2 at *
  clear x1 x2 x3 x4 x5 x6 x7 x8 HB1
  have S1 := Lib.hid (R1.out.to HB2.out (fun _ h => h))
  have S2 := Lib.hid (R2.out.to HB2.out (fun _ h => h))
  have AW := fun w' => Lib.hid (awake_any w')
  have hl1 : ws.length ≤ 1000000 := by omega
  have hl2 : ms.length ≤ 1000000 := by omega
  have HL1 := Lib.hid hl1
  have HL2 := Lib.hid hl2
  clear R1 R2 hl1 hl2 l1 l2
  cases hr : rightS b n ws ms with
  | false =>
    have NT := Lib.hid (newTable_no b n ws ms (.slice A1 M1 K1) (.slice A2 M2 K2) (· < w.heap.size) (· < w.heap.size) w2 S1.out S2.out HL1.out HL2.out hr)
    clear hr
    have q1 : ((1 : Int) != 0) = true := by simp
    refine NT.out.mono ?_
    rintro e w3 ⟨rfl, hb3⟩
    have HB3 := Lib.hid (HB2.out.trans (hb3.mono HB2.out.size))
    clear c0 c1 c2 c3 hb3 NT HG S1 S2 HB2
    go_wp2_with fail
    refine (AW _).out.mono ?_
    rintro e w10 ⟨rfl, hb10⟩
    go_wp2
    go_ret
    exact ⟨rfl, HB3.out.trans (hb10.mono HB3.out.size)⟩
  | true =>
    obtain ⟨B, M, hR⟩ := right_is hr
    obtain rfl := hR.b
    obtain rfl := hR.n
    have HR := Lib.hid hR
    have NT := Lib.hid (newTable_ok B M ws ms (.slice A1 M1 K1) (.slice A2 M2 K2) (· < w.heap.size) (· < w.heap.size) w2 S1.out S2.out hr hR)
    clear hr hR
    refine NT.out.mono ?_
    rintro e w3 ⟨p, vw', vs', vo, ord, rfl, hT, hO, hb3⟩
    have HB3 := Lib.hid (HB2.out.trans (hb3.mono HB2.out.size))
    have T1 := Lib.hid (S1.out.keep hb3)
    have HT := Lib.hid hT; clear hT
    have HO := Lib.hid hO; clear hO
    have HG3 := Lib.hid (old_of hb3 HG.out)
    clear c0 c1 c2 c3 hb3 NT HG S1 S2 HB2
    have c0 := sig_c0 HG3.out
    have c1 := sig_c1 HG3.out
    have c2 := sig_c2 HG3.out
    have c3 := sig_c3 HG3.out
    have q1 : ((0 : Int) != 0) = false := by simp
    have RF := Lib.hid (refTabFind_any B M ws (.slice A1 M1 K1) (.slice A2 M2 K2) (· < w.heap.size) weak w3 T1.out ⟨_, _, _, rfl⟩ (right_le HR.out) HL1.out HR.out.b1 HR.out.b2 HR.out.n2)
    have FN := fun W (h : TabAt W w2.heap.size p B M ws ms vw' vs' vo ord) => Lib.hid (tabFind_any p B M ws ms vw' vs' vo ord w2.heap.size (M / B) weak W h HO.out (right_le HR.out) HL1.out)
    have FL := Lib.hid (Nat.le_trans (findZ_len ws (M / B) weak) (Nat.le_trans (right_le HR.out) HL1.out))
    generalize findZ ws (M / B) weak = fz at *
    clear HR HO HL1 HL2
    go_wp2_with fail
    refine RF.out.mono ?_
    rintro e w4 ⟨v4, rfl, ho4, hb4⟩
    have HB4 := Lib.hid (HB3.out.trans (hb4.mono HB3.out.size))
    have HT4 := Lib.hid (HT.out.keep hb4)
    have P4 := Lib.hid (row_lt ho4.row)
    clear c0 c1 c2 c3 hb4 ho4 RF HT HG3 T1 HB3
    go_wp2_with fail
    refine (FN _ HT4.out).out.mono ?_
    rintro e w5 ⟨v5, rfl, ho5, hb5⟩
    have HB5 := Lib.hid (HB4.out.trans (hb5.mono HB4.out.size))
    have B5 := Lib.hid hb5
    have HCUR := Lib.hid (show ∃ ax kx, v5 = .slice ax fz.length kx ∧ ∀ k, k < fz.length → ∃ g, ax = some ⟨g, 0, none⟩ ∧ w4.heap.size ≤ g ∧ ∃ cur, w5.heap[g]? = some (.cells cur 3 (0, 0)) ∧ fz.length ≤ cur.size by
      have hl : (castZ fz).length = fz.length := by simp [castZ]
      rcases ho5.2 with ⟨rfl, hn⟩ | ⟨g, cap, cur, rfl, hb, hg, hle, hcm, hcs, htake⟩
      · exact ⟨none, 0, by rw [← hl, hn], fun k hk => by omega⟩
      · exact ⟨_, _, by rw [hl], fun k hk => ⟨g, rfl, hb, cur, hg, by omega⟩⟩)
    clear ho5 hb5
    obtain ⟨ax, kx, rfl, hcur⟩ := HCUR.out
    have HC := Lib.hid hcur
    clear hcur HCUR
    have FL2 := FL.out
    go_wp2_with fail
    go_loopw [9] (fun i wr => ∃ k : Nat, k ≤ fz.length ∧ i = .int .i64 k ∧ Kept (fun x => w4.heap.size ≤ x) w5 wr ∧ Hid (∀ k, k < fz.length → ∃ g, ax = some ⟨g, 0, none⟩ ∧ w4.heap.size ≤ g ∧ ∃ cur, wr.heap[g]? = some (.cells cur 3 (0, 0)) ∧ fz.length ≤ cur.size)) (fun i _ => fz.length - (intOf i).toNat)
    case atStart => exact ⟨0, by omega, rfl, Kept.refl _ _, HC⟩
    case round =>
      obtain ⟨k, hk, rfl, hkp, HS⟩ := hrel
      have HK := Lib.hid hkp; clear hkp
      by_cases hlt : k < fz.length
      · obtain ⟨g, rfl, hg, cur, hcell, hsz⟩ := HS.out k hlt
        have x1 : wr.cell? ⟨g, k, none⟩ = some cur[k] := by
          rw [cell_of_row _ _ _ _ _ _ hcell]
          exact Array.getElem?_eq_getElem (by omega)
        have x2 := frozen_of_row wr g k _ _ hcell
        have HS2 := Lib.hid (show ∀ k', k' < fz.length → ∃ g', (some ⟨g, 0, none⟩ : Option Addr) = some ⟨g', 0, none⟩ ∧ w4.heap.size ≤ g' ∧ ∃ cur, (wr.setCell ⟨g, k, none⟩ (.int .i64 (-7))).heap[g']? = some (.cells cur 3 (0, 0)) ∧ fz.length ≤ cur.size from
          fun k' hk' => ⟨g, rfl, hg, _, heap_setCell_same wr g k _ _ _ hcell, by rw [Array.size_setIfInBounds]; exact hsz⟩)
        have HK2 := Lib.hid (HK.out.setCell (p := ⟨g, k, none⟩) hg (.int .i64 (-7)))
        generalize cur[k] = u at *
        clear hcell hsz HS
        have i1 : (k : Int) < (fz.length : Int) := by omega
        have i2 : (0 : Int) ≤ (k : Int) := by omega
        go_wp2
        go_roundw
        case rel => exact ⟨k + 1, by omega, by go_num, HK2.out, HS2⟩
        case measure => simp [intOf]; omega
      · obtain rfl : k = fz.length := by omega
        have i1 : ¬ (fz.length : Int) < (fz.length : Int) := by omega
        obtain ⟨w6, rfl⟩ : ∃ w6, w6 = wr := ⟨_, rfl⟩
        have hb6 := B5.out.trans (HK.out.below B5.out.size (fun x e => e))
        have HT6 := Lib.hid (HT4.out.keep hb6)
        have P6 := Lib.hid (P4.out.keep hb6)
        have HB6 := Lib.hid (HB4.out.trans (hb6.mono HB4.out.size))
        clear hb6 HK HS HC
        go_wp2_with fail
        refine (FN _ HT6.out).out.mono ?_
        rintro e w7 ⟨v7, rfl, ho7, hb7⟩
        have HB7 := Lib.hid (HB6.out.trans (hb7.mono HB6.out.size))
        have P7 := Lib.hid (P6.out.keep hb7)
        have O7 := Lib.hid (castZ_row ho7.row)
        clear ho7 hb7
        go_wp2_with fail
        refine (ints_same fz _ _ _ _ w7 O7.out P7.out FL.out).mono ?_
        rintro e w8 ⟨rfl, hb8⟩
        have HB8 := Lib.hid (HB7.out.trans (hb8.mono HB7.out.size))
        clear hb8
        go_wp2_with fail
        refine (AW _).out.mono ?_
        rintro e w10 ⟨rfl, hb10⟩
        go_wp2
        go_ret
        exact ⟨rfl, HB8.out.trans (hb10.mono HB8.out.size)⟩
end Go.Proofs.Ytifbdbblfhphjaa

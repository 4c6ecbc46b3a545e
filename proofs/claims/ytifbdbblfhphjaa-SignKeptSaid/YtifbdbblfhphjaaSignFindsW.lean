/- The walk of the law SignFinds. -/
import Derived.Test.YtifbdbblfhphjaaArgSig
import Derived.Test.YtifbdbblfhphjaaBookW
import Derived.Test.YtifbdbblfhphjaaBytesW
import Derived.Test.YtifbdbblfhphjaaFewW
import Derived.Test.YtifbdbblfhphjaaFrame
import Derived.Test.YtifbdbblfhphjaaGen
import Derived.Test.YtifbdbblfhphjaaInfos
import Derived.Test.YtifbdbblfhphjaaLists
import Derived.Test.YtifbdbblfhphjaaMarkMath
import Derived.Test.YtifbdbblfhphjaaNewTabW
import Derived.Test.YtifbdbblfhphjaaOwnL
import Derived.Test.YtifbdbblfhphjaaProg
import Derived.Test.YtifbdbblfhphjaaReadW
import Derived.Test.YtifbdbblfhphjaaRefRightW
import Derived.Test.YtifbdbblfhphjaaRightW
import Derived.Test.YtifbdbblfhphjaaRollMath
import Derived.Test.YtifbdbblfhphjaaRows
import Derived.Test.YtifbdbblfhphjaaTabX
import Derived.Test.YtifbdbblfhphjaaSAwakeW
import Derived.Test.YtifbdbblfhphjaaSameW
import Derived.Test.YtifbdbblfhphjaaShelf
import Derived.Test.YtifbdbblfhphjaaSigAt
import Derived.Test.YtifbdbblfhphjaaSignAW
import Derived.Test.YtifbdbblfhphjaaSignBytesW
import Derived.Test.YtifbdbblfhphjaaSignMath
import Derived.Test.YtifbdbblfhphjaaSignReadsW
import Derived.Test.YtifbdbblfhphjaaSortX
import Derived.Test.YtifbdbblfhphjaaSortEW
import Derived.Test.YtifbdbblfhphjaaSortShelf
import Derived.Test.YtifbdbblfhphjaaTabFindW
import Derived.BigQuiet
import Derived.BigRegion
import Derived.Deep.CutBlock
import Derived.Deep.DeepCutAuto
import Derived.Deep.QuietTactic
import Derived.Deep.RegionLaw
import Derived.IntWalk
import Derived.Laws.BitsAllLaws
import Derived.Laws.Rows
import Derived.Laws.Tables
import Derived.Lib.Hide
import Derived.Outline
import Derived.Sort.Walk0
import Derived.StillTailTactics
import Derived.WalkKit
import Derived.WalkLawsBesides
import Derived.WalkSpells
set_option linter.unusedVariables false
namespace Go.Proofs.Ytifbdbblfhphjaa
open Go.RowKit

theorem castZ_row {N : Nat → Prop} {w : World} {v : Value} {xs : List Nat} (h : Row (Value.int .i64) N w v (castZ xs)) : Row encN N w v xs := by
  obtain ⟨a, c, rfl, hc⟩ := h
  have hl : (castZ xs).length = xs.length := by simp [castZ]
  refine ⟨a, c, by rw [hl], fun i hi => ?_⟩
  obtain ⟨b, o, rfl, hN, hcell⟩ := hc i (by omega)
  refine ⟨b, o, rfl, hN, ?_⟩
  rw [hcell]
  simp [castZ, encN]
theorem TabAt.keep {w w' : World} {base p B M : Nat} {ws : List Int} {ms : List Txt} {vw vs vo : Value} {ord : List Nat} (h : TabAt w base p B M ws ms vw vs vo ord) (hb : Below w.heap.size w w') : TabAt w' base p B M ws ms vw vs vo ord :=
  ⟨h.hp, old_of hb h.tab, h.rw.keep hb, h.rs.keep hb, h.ro.keep hb⟩
theorem right_le {b n : Int} {ws : List Int} {ms : List Txt} {B M : Nat} (h : RightIs b n ws ms B M) : M / B ≤ ws.length := by
  rw [h.lw]
  exact Nat.div_le_div_right (by have := h.b1; omega)

set_option maxRecDepth 100000 in
set_option maxHeartbeats 4000000 in
theorem signFinds_walk (v : Value) (weak : Int) (hw1 : -9223372036854775808 ≤ weak) (hw2 : weak ≤ 9223372036854775807) (w : World) (hv : SigIn w v) :
    Calls Try.prog 9 #[v, .int .i64 weak] w fun e w' => e = .returned (.bool true) ∧ Below w.heap.size w w' := by
  obtain ⟨b, n, vw, vs, ws, ms, rfl, ⟨a1, m1, k1, rfl⟩, ⟨a2, m2, k2, rfl⟩, r1, r2, l1, l2, _, _, FEW⟩ := few_start v w hv
  clear hv
  obtain ⟨A1, M1, K1, e1⟩ : ∃ a m c, takeV 300 (.slice a1 m1 k1) = .slice a m c := ⟨_, _, _, rfl⟩
  obtain ⟨A2, M2, K2, e2⟩ : ∃ a m c, takeV 300 (.slice a2 m2 k2) = .slice a m c := ⟨_, _, _, rfl⟩
  rw [e1] at r1 FEW
  rw [e2] at r2 FEW
  clear e1 e2
  have F := fun w' => Lib.hid (FEW w')
  have R1 := Lib.hid r1
  have R2 := Lib.hid r2
  have G0 := Lib.hid (heap_alloc_new w (sigC b n (.slice a1 m1 k1) (.slice a2 m2 k2)))
  have HB0 := Lib.hid ((Below.refl w.heap.size w).alloc (Nat.le_refl _) (sigC b n (.slice a1 m1 k1) (.slice a2 m2 k2)))
  clear FEW r1 r2
  go_enter Try.func9, Try.ntmps9
  go_wp2_with fail
  generalize w.alloc (.cells #[.int .i64 b, .int .i64 n, .slice a1 m1 k1, .slice a2 m2 k2] 31) = w0 at *
  refine (F _).out.mono ?_
  rintro e w1 ⟨rfl, hb1⟩
  obtain ⟨⟨x1, x2⟩, ⟨x3, x4⟩, ⟨x5, x6⟩, ⟨x7, x8⟩, x9, x10⟩ := sig_store (b' := b) (n' := n) (vw' := .slice A1 M1 K1) (vs' := .slice A2 M2 K2) (old_of hb1 G0.out)
  have c0 := sig_c0 x9
  have c1 := sig_c1 x9
  have c2 := sig_c2 x9
  have c3 := sig_c3 x9
  have HB1 := Lib.hid (HB0.out.trans (hb1.mono HB0.out.size))
  have HG := Lib.hid x9
  have HB2 := Lib.hid (HB1.out.trans (x10.below HB1.out.size (fun k e => by omega)))
  clear x9 x10 hb1 F G0 HB0
  go_wp2_with fail
  generalize (((w1.setCell ⟨w.heap.size, 0, none⟩ (.int .i64 b)).setCell ⟨w.heap.size, 1, none⟩ (.int .i64 n)).setCell ⟨w.heap.size, 2, none⟩ (.slice A1 M1 K1)).setCell ⟨w.heap.size, 3, none⟩ (.slice A2 M2 K2) = w2 at *
  clear x1 x2 x3 x4 x5 x6 x7 x8 HB1
  have S1 := Lib.hid (R1.out.to HB2.out (fun _ h => h))
  have S2 := Lib.hid (R2.out.to HB2.out (fun _ h => h))
  have AW := fun w' => Lib.hid (awake_any w')
  have hl1 : ws.length ≤ 1000000 := by omega
  have hl2 : ms.length ≤ 1000000 := by omega
  have HL1 := Lib.hid hl1
  have HL2 := Lib.hid hl2
  have RR := fun w' h1 h2 => Lib.hid (refRight_any b n ws ms (.slice A1 M1 K1) (.slice A2 M2 K2) (· < w.heap.size) (· < w.heap.size) w' h1 h2 hl1 hl2)
  clear R1 R2 hl1 hl2 l1 l2
  cases hr : rightS b n ws ms with
  | false =>
    rw [hr] at RR
    have NT := Lib.hid (newTable_no b n ws ms (.slice A1 M1 K1) (.slice A2 M2 K2) (· < w.heap.size) (· < w.heap.size) w2 S1.out S2.out HL1.out HL2.out hr)
    clear hr
    have q1 : ((1 : Int) == 1) = true := by simp
    refine NT.out.mono ?_
    rintro e w3 ⟨rfl, hb3⟩
    have HB3 := Lib.hid (HB2.out.trans (hb3.mono HB2.out.size))
    have T1 := Lib.hid (S1.out.keep hb3)
    have T2 := Lib.hid (S2.out.keep hb3)
    have g3 := old_of hb3 HG.out
    clear c0 c1 c2 c3 hb3 NT HG S1 S2 HB2
    have c0 := sig_c0 g3
    have c1 := sig_c1 g3
    have c2 := sig_c2 g3
    have c3 := sig_c3 g3
    clear g3
    go_wp2_with fail
    refine (RR _ T1.out T2.out).out.mono ?_
    rintro e w4 ⟨rfl, hb4⟩
    have HB4 := Lib.hid (HB3.out.trans (hb4.mono HB3.out.size))
    clear hb4 c0 c1 c2 c3
    go_wp2_with fail
    refine (AW _).out.mono ?_
    rintro e w10 ⟨rfl, hb10⟩
    go_wp2
    go_ret
    exact ⟨rfl, HB4.out.trans (hb10.mono HB4.out.size)⟩
  | true =>
    rw [hr] at RR
    obtain ⟨B, M, hR⟩ := right_is hr
    obtain rfl := hR.b
    obtain rfl := hR.n
    have HR := Lib.hid hR
    have NT := Lib.hid (newTable_ok B M ws ms (.slice A1 M1 K1) (.slice A2 M2 K2) (· < w.heap.size) (· < w.heap.size) w2 S1.out S2.out hr hR)
    clear hr hR
    refine NT.out.mono ?_
    rintro e w3 ⟨p, vw', vs', vo, ord, rfl, hT, hO, hb3⟩
    have HB3 := Lib.hid (HB2.out.trans (hb3.mono HB2.out.size))
    have T1 := Lib.hid (S1.out.keep hb3)
    have T2 := Lib.hid (S2.out.keep hb3)
    have HT := Lib.hid hT; clear hT
    have HO := Lib.hid hO; clear hO
    have HG3 := Lib.hid (old_of hb3 HG.out)
    clear c0 c1 c2 c3 hb3 NT HG S1 S2 HB2
    have c0 := sig_c0 HG3.out
    have c1 := sig_c1 HG3.out
    have c2 := sig_c2 HG3.out
    have c3 := sig_c3 HG3.out
    go_wp2_with fail
    refine (RR _ T1.out T2.out).out.mono ?_
    rintro e w4 ⟨rfl, hb4⟩
    have HB4 := Lib.hid (Below_drew (HB3.out.trans (hb4.mono HB3.out.size)))
    have hbd := Below_drew hb4
    have U1 := Lib.hid (T1.out.keep hbd)
    have HT4 := Lib.hid (HT.out.keep hbd)
    have HG4 := Lib.hid (old_of hbd HG3.out)
    have g4 := old_of hb4 HG3.out
    clear c0 c1 c2 c3 hb4 hbd T1 T2 HT HG3 HB3 RR
    have c0 := sig_c0 g4
    have c1 := sig_c1 g4
    have c2 := sig_c2 g4
    have c3 := sig_c3 g4
    clear g4
    have q1 : ((0 : Int) == 0) = true := by simp
    have q2 : ((M : Int) == (M : Int)) = true := by simp
    have q3 : ((B : Int) == (B : Int)) = true := by simp
    have SZ := Lib.hid (tabSize_any p B M vw' vs' vo w4.drew HT4.out.tab)
    have BK := Lib.hid (tabBlock_any p B M vw' vs' vo w4.drew HT4.out.tab)
    have FN := Lib.hid (tabFind_any p B M ws ms vw' vs' vo ord w2.heap.size (M / B) weak w4.drew HT4.out HO.out (right_le HR.out) HL1.out)
    have RF := fun w' h1 => Lib.hid (refTabFind_any B M ws (.slice A1 M1 K1) (.slice A2 M2 K2) (· < w.heap.size) weak w' h1 ⟨_, _, _, rfl⟩ (right_le HR.out) HL1.out HR.out.b1 HR.out.b2 HR.out.n2)
    have FL := Lib.hid (Nat.le_trans (findZ_len ws (M / B) weak) (Nat.le_trans (right_le HR.out) HL1.out))
    generalize findZ ws (M / B) weak = fz at *
    clear HR HO HT4 HL1 HL2
    go_wp2_with fail
    go_region_law (first
      | (go_simp; go_at_call 34; (with_reducible refine SZ.out.mono ?_); rintro e w' ⟨rfl, rfl⟩)
      | (go_simp; go_at_call 35; (with_reducible refine BK.out.mono ?_); rintro e w' ⟨rfl, rfl⟩)
      | (go_simp; go_at_call 36; (with_reducible refine FN.out.mono ?_); rintro e w5 ⟨v5, rfl, ho5, hb5⟩; have HO5 := Lib.hid ho5; have HB5 := Lib.hid (HB4.out.trans (hb5.mono HB4.out.size)); have U5 := Lib.hid (U1.out.keep hb5); have g5 := old_of hb5 HG4.out; have d0 := sig_c0 g5; have d1 := sig_c1 g5; have d2 := sig_c2 g5; have d3 := sig_c3 g5; obtain ⟨ax5, mx5, kx5, hv5⟩ := own_slice ho5; subst hv5; clear g5 hb5 ho5)
      | (go_simp; go_at_call 37; (with_reducible refine (RF w5 U5.out).out.mono ?_); rintro e w6 ⟨v6, rfl, ho6, hb6⟩; have HO6 := Lib.hid ho6; have HP6 := Lib.hid ((castZ_row HO5.out.row).keep hb6); have HB6 := Lib.hid (HB5.out.trans (hb6.mono HB5.out.size)); clear hb6 ho6)
      | (go_simp; go_at_call 21; (with_reducible refine (ints_same fz _ _ _ _ w6 HP6.out HO6.out.row FL.out).mono ?_); rintro e w7 ⟨rfl, hb7⟩; have HB7 := Lib.hid (HB6.out.trans (hb7.mono HB6.out.size)); clear hb7)
      | (go_simp; go_at_call 16; (with_reducible refine (AW w7).out.mono ?_); rintro e w8 ⟨rfl, hb8⟩; have HB8 := Lib.hid (HB7.out.trans (hb8.mono HB7.out.size)); clear hb8))
    all_goals
      go_wp2
      go_ret
      exact ⟨rfl, HB8.out⟩
end Go.Proofs.Ytifbdbblfhphjaa

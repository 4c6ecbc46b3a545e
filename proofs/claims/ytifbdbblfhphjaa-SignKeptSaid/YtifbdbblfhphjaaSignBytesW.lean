/- The walk of the law SignBytes. -/
import Derived.Test.YtifbdbblfhphjaaArgSig
import Derived.Test.YtifbdbblfhphjaaBookW
import Derived.Test.YtifbdbblfhphjaaBytesW
import Derived.Test.YtifbdbblfhphjaaFewW
import Derived.Test.YtifbdbblfhphjaaFrame
import Derived.Test.YtifbdbblfhphjaaGen
import Derived.Test.YtifbdbblfhphjaaInfos
import Derived.Test.YtifbdbblfhphjaaMarkMath
import Derived.Test.YtifbdbblfhphjaaOwnL
import Derived.Test.YtifbdbblfhphjaaReadW
import Derived.Test.YtifbdbblfhphjaaRefBytesW
import Derived.Test.YtifbdbblfhphjaaRefRightW
import Derived.Test.YtifbdbblfhphjaaRightW
import Derived.Test.YtifbdbblfhphjaaRollMath
import Derived.Test.YtifbdbblfhphjaaRows
import Derived.Test.YtifbdbblfhphjaaSAwakeW
import Derived.Test.YtifbdbblfhphjaaSameW
import Derived.Test.YtifbdbblfhphjaaShelf
import Derived.Test.YtifbdbblfhphjaaSigAt
import Derived.Test.YtifbdbblfhphjaaSignAW
import Derived.Test.YtifbdbblfhphjaaSignMath
import Derived.BigQuiet
import Derived.BigRegion
import Derived.Deep.CutBlock
import Derived.Deep.DeepCutAuto
import Derived.Deep.QuietTactic
import Derived.Deep.RegionLaw
import Derived.IntWalk
import Derived.Laws.BitsAllLaws
import Derived.Laws.Rows
import Derived.Laws.Tables
import Derived.Lib.Hide
import Derived.Outline
import Derived.StillTailTactics
import Derived.WalkKit
import Derived.WalkLawsBesides
import Derived.WalkSpells
set_option linter.unusedVariables false
namespace Go.Proofs.Ytifbdbblfhphjaa
open Go.RowKit

theorem Row.to {α : Type} {enc : α → Value} {N : Nat → Prop} {w w' : World} {v : Value} {xs : List α} (h : Row enc N w v xs) {B : Nat} (hb : Below B w w') (hN : ∀ k, N k → k < B) : Row enc N w' v xs := by
  obtain ⟨a, cap, rfl, hc⟩ := h
  refine ⟨a, cap, rfl, fun i hi => ?_⟩
  obtain ⟨b, off, rfl, hn, hcell⟩ := hc i hi
  exact ⟨b, off, rfl, hn, (hb.cell (p := ⟨b, off + i, none⟩) (hN b hn)).trans hcell⟩
theorem slice_some {α : Type} {enc : α → Value} {N : Nat → Prop} {w : World} {a : Option Addr} {m c : Nat} {xs : List α} (h : Row enc N w (.slice a m c) xs) : 0 < m → ∃ g o, a = some ⟨g, o, none⟩ := by
  obtain ⟨_, _, hv, hc⟩ := h
  injection hv with ha hm _
  subst ha
  intro h0
  obtain ⟨b, o, e, _⟩ := hc 0 (by omega)
  exact ⟨b, o, e⟩

/-- What the law holds behind few: the first so many. -/
theorem few_start (v : Value) (w : World) (hv : SigIn w v) : ∃ b n vw vs ws ms, v = sigV b n vw vs ∧ (∃ a m c, vw = .slice a m c) ∧ (∃ a m c, vs = .slice a m c) ∧ Row (Value.int .i64) (· < w.heap.size) w (takeV 300 vw) ws ∧ Row encT (· < w.heap.size) w (takeV 300 vs) ms ∧ ws.length ≤ 300 ∧ ms.length ≤ 300 ∧
    (-9223372036854775808 ≤ b ∧ b ≤ 9223372036854775807) ∧ (-9223372036854775808 ≤ n ∧ n ≤ 9223372036854775807) ∧
    ∀ w', Calls Try.prog 27 #[sigV b n vw vs] w' fun e w'' => e = .returned (sigV b n (takeV 300 vw) (takeV 300 vs)) ∧ Below w'.heap.size w' w'' := by
  obtain ⟨b, n, vw, vs, ws, ms, h⟩ := hv
  obtain ⟨a1, c1, e1, l1⟩ := h.c1
  obtain ⟨a2, c2, e2, l2⟩ := h.c2
  subst e1; subst e2
  refine ⟨b, n, _, _, ws.take 300, ms.take 300, h.val, ⟨_, _, _, rfl⟩, ⟨_, _, _, rfl⟩, h.r1.takeV 300, h.r2.takeV 300, List.length_take_le _ _, List.length_take_le _ _, h.bb, h.bn, fun w' => few_any b n a1 a2 _ _ _ _ w' l1 l2 (slice_some h.r1) (slice_some h.r2)⟩

/-- Both Bytes tell one and the same. -/
theorem bytes_both (b n : Int) (ws : List Int) (ms : List Txt) (hl1 : ws.length ≤ 300) (hl2 : ms.length ≤ 300) : ∃ (s : Txt) (e : Int), ((e = 0) ↔ rightS b n ws ms = true) ∧ (rightS b n ws ms = true → ∃ B M, RightIs b n ws ms B M ∧ s = bytesS B M ws ms) ∧
    ∀ (vw vs : Value) (N1 N2 : Nat → Prop) (w : World), Row (Value.int .i64) N1 w vw ws → Row encT N2 w vs ms →
      (Calls Try.prog 28 #[sigV b n vw vs] w fun e' w' => e' = .returned (.tuple #[.string ⟨s.toArray⟩, .int .i64 e]) ∧ Below w.heap.size w w') ∧
      (Calls Try.prog 29 #[sigV b n vw vs] w fun e' w' => e' = .returned (.tuple #[.string ⟨s.toArray⟩, .int .i64 e]) ∧ Below w.heap.size w w') := by
  cases hr : rightS b n ws ms with
  | false =>
    refine ⟨[], 1, by simp, by simp, fun vw vs N1 N2 w h1 h2 => ⟨bytes_no b n ws ms vw vs N1 N2 w h1 h2 (by omega) (by omega) hr, refBytes_no b n ws ms vw vs N1 N2 w h1 h2 (by omega) (by omega) hr⟩⟩
  | true =>
    obtain ⟨B, M, hR⟩ := right_is hr
    obtain rfl := hR.b
    obtain rfl := hR.n
    refine ⟨bytesS B M ws ms, 0, by simp, fun _ => ⟨B, M, hR, rfl⟩, fun vw vs N1 N2 w h1 h2 => ⟨bytes_ok B M ws ms vw vs N1 N2 w h1 h2 hr hR, refBytesS_ok B M ws ms vw vs N1 N2 w h1 h2 hr hR⟩⟩

set_option maxRecDepth 100000 in
set_option maxHeartbeats 4000000 in
theorem signBytes_walk (v : Value) (w : World) (hv : SigIn w v) :
    Calls Try.prog 6 #[v] w fun e w' => e = .returned (.bool true) ∧ Below w.heap.size w w' := by
  obtain ⟨b, n, vw, vs, ws, ms, rfl, ⟨a1, m1, k1, rfl⟩, ⟨a2, m2, k2, rfl⟩, r1, r2, l1, l2, _, _, FEW⟩ := few_start v w hv
  clear hv
  obtain ⟨A1, M1, K1, e1⟩ : ∃ a m c, takeV 300 (.slice a1 m1 k1) = .slice a m c := ⟨_, _, _, rfl⟩
  obtain ⟨A2, M2, K2, e2⟩ : ∃ a m c, takeV 300 (.slice a2 m2 k2) = .slice a m c := ⟨_, _, _, rfl⟩
  rw [e1] at r1 FEW
  rw [e2] at r2 FEW
  clear e1 e2
  have F := fun w' => Lib.hid (FEW w')
  have R1 := Lib.hid r1
  have R2 := Lib.hid r2
  have G0 := Lib.hid (heap_alloc_new w (sigC b n (.slice a1 m1 k1) (.slice a2 m2 k2)))
  have HB0 := Lib.hid ((Below.refl w.heap.size w).alloc (Nat.le_refl _) (sigC b n (.slice a1 m1 k1) (.slice a2 m2 k2)))
  clear FEW r1 r2
  go_enter Try.func6, Try.ntmps6
  go_wp2_with fail
  generalize w.alloc (.cells #[.int .i64 b, .int .i64 n, .slice a1 m1 k1, .slice a2 m2 k2] 31) = w0 at *
  refine (F _).out.mono ?_
  rintro e w1 ⟨rfl, hb1⟩
  obtain ⟨⟨x1, x2⟩, ⟨x3, x4⟩, ⟨x5, x6⟩, ⟨x7, x8⟩, x9, x10⟩ := sig_store (b' := b) (n' := n) (vw' := .slice A1 M1 K1) (vs' := .slice A2 M2 K2) (old_of hb1 G0.out)
  have c0 := sig_c0 x9
  have c1 := sig_c1 x9
  have c2 := sig_c2 x9
  have c3 := sig_c3 x9
  have HB1 := Lib.hid (HB0.out.trans (hb1.mono HB0.out.size))
  have HG := Lib.hid x9
  have HB2 := Lib.hid (HB1.out.trans (x10.below HB1.out.size (fun k e => by omega)))
  clear x9 x10 hb1 F G0 HB0
  go_wp2_with fail
  generalize (((w1.setCell ⟨w.heap.size, 0, none⟩ (.int .i64 b)).setCell ⟨w.heap.size, 1, none⟩ (.int .i64 n)).setCell ⟨w.heap.size, 2, none⟩ (.slice A1 M1 K1)).setCell ⟨w.heap.size, 3, none⟩ (.slice A2 M2 K2) = w2 at *
  clear x1 x2 x3 x4 x5 x6 x7 x8 HB1
  obtain ⟨s, er, _, _, BB⟩ := bytes_both b n ws ms l1 l2
  have HBB := Lib.hid BB; clear BB
  obtain ⟨R, hR⟩ : ∃ R, R = rightS b n ws ms := ⟨_, rfl⟩
  have RG := Lib.hid (fun w' h1 h2 => sigRight_any b n ws ms (.slice A1 M1 K1) (.slice A2 M2 K2) (· < w.heap.size) (· < w.heap.size) w' h1 h2 (by omega) (by omega))
  have RR := Lib.hid (fun w' h1 h2 => refRight_any b n ws ms (.slice A1 M1 K1) (.slice A2 M2 K2) (· < w.heap.size) (· < w.heap.size) w' h1 h2 (by omega) (by omega))
  rw [← hR] at RG RR
  clear hR
  have S1 := Lib.hid (fun w' (h : Below w.heap.size w w') => R1.out.to h (fun _ h => h))
  have S2 := Lib.hid (fun w' (h : Below w.heap.size w w') => R2.out.to h (fun _ h => h))
  have C1 := Lib.hid (HBB.out _ _ _ _ w2 (S1.out w2 HB2.out) (S2.out w2 HB2.out)).1
  refine C1.out.mono ?_
  rintro e w3 ⟨rfl, hb3⟩
  have HB3 := Lib.hid (HB2.out.trans (hb3.mono HB2.out.size))
  have g3 := old_of hb3 HG.out
  have HG3 := Lib.hid g3
  clear c0 c1 c2 c3 C1 hb3
  have c0 := sig_c0 g3
  have c1 := sig_c1 g3
  have c2 := sig_c2 g3
  have c3 := sig_c3 g3
  clear g3
  go_wp2_with fail
  have C2 := Lib.hid (HBB.out _ _ _ _ w3 (S1.out w3 HB3.out) (S2.out w3 HB3.out)).2
  refine C2.out.mono ?_
  rintro e w4 ⟨rfl, hb4⟩
  have HB4 := Lib.hid (HB3.out.trans (hb4.mono HB3.out.size))
  have g4 := old_of hb4 HG3.out
  have HG4 := Lib.hid g4
  clear c0 c1 c2 c3 C2 hb4
  have c0 := sig_c0 g4
  have c1 := sig_c1 g4
  have c2 := sig_c2 g4
  have c3 := sig_c3 g4
  clear g4 HBB HG HG3 HB2 HB3
  have q1 : (s == s) = true := by simp
  have q2 : (er == er) = true := by simp
  have q3 : (R == R) = true := by simp
  have HB4d := Lib.hid (Below_drew HB4.out)
  have AW := fun w' => Lib.hid (awake_any w')
  go_wp2
  go_region_law (first
    | (go_simp; go_at_call 24; with_reducible refine (RG.out w4.drew (S1.out _ HB4d.out) (S2.out _ HB4d.out)).mono ?_; rintro e w5 ⟨rfl, hb5⟩; have HB5 := Lib.hid (HB4d.out.trans (hb5.mono HB4d.out.size)); have g5 := old_of hb5 HG4.out; have d0 := sig_c0 g5; have d1 := sig_c1 g5; have d2 := sig_c2 g5; have d3 := sig_c3 g5; clear g5 hb5)
    | (go_simp; go_at_call 30; with_reducible refine (RR.out w5 (S1.out _ HB5.out) (S2.out _ HB5.out)).mono ?_; rintro e w6 ⟨rfl, hb6⟩; have HB6 := Lib.hid (HB5.out.trans (hb6.mono HB5.out.size)); clear hb6)
    | (go_simp; go_at_call 16; with_reducible refine (AW w6).out.mono ?_; rintro e w7 ⟨rfl, hb7⟩; have HB7 := Lib.hid (HB6.out.trans (hb7.mono HB6.out.size)); clear hb7))
  all_goals
    go_wp2
    go_ret
    exact ⟨rfl, HB7.out⟩
end Go.Proofs.Ytifbdbblfhphjaa

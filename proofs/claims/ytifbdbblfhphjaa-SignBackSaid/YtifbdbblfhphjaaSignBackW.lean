/- The walk of the law SignBack. -/
import Derived.Test.YtifbdbblfhphjaaArgSig
import Derived.Test.YtifbdbblfhphjaaBookW
import Derived.Test.YtifbdbblfhphjaaBytesW
import Derived.Test.YtifbdbblfhphjaaFewW
import Derived.Test.YtifbdbblfhphjaaFrame
import Derived.Test.YtifbdbblfhphjaaGen
import Derived.Test.YtifbdbblfhphjaaInfos
import Derived.Test.YtifbdbblfhphjaaLists
import Derived.Test.YtifbdbblfhphjaaMarkMath
import Derived.Test.YtifbdbblfhphjaaOfMath
import Derived.Test.YtifbdbblfhphjaaOwnL
import Derived.Test.YtifbdbblfhphjaaReadW
import Derived.Test.YtifbdbblfhphjaaRightW
import Derived.Test.YtifbdbblfhphjaaRows
import Derived.Test.YtifbdbblfhphjaaSAwakeW
import Derived.Test.YtifbdbblfhphjaaSameW
import Derived.Test.YtifbdbblfhphjaaShelf
import Derived.Test.YtifbdbblfhphjaaSigAt
import Derived.Test.YtifbdbblfhphjaaSigOfW
import Derived.Test.YtifbdbblfhphjaaSignAW
import Derived.Test.YtifbdbblfhphjaaSignBytesW
import Derived.Test.YtifbdbblfhphjaaSignMath
import Derived.Test.YtifbdbblfhphjaaSignReadsW
import Derived.BigQuiet
import Derived.BigRegion
import Derived.Deep.CutBlock
import Derived.Deep.DeepCutAuto
import Derived.Deep.QuietTactic
import Derived.Deep.RegionLaw
import Derived.IntWalk
import Derived.Laws.BitsAllLaws
import Derived.Laws.Rows
import Derived.Laws.Tables
import Derived.Lib.Hide
import Derived.Outline
import Derived.StillTailTactics
import Derived.WalkKit
import Derived.WalkLawsBesides
import Derived.WalkSpells
set_option linter.unusedVariables false
namespace Go.Proofs.Ytifbdbblfhphjaa
open Go.RowKit

theorem bytesS_le (B M : Nat) (ws : List Int) (ms : List Txt) (h : ∀ m ∈ ms, m.length = 32) : (bytesS B M ws ms).length ≤ 20 + 10 * ws.length + 32 * ms.length := by
  have h1 := preS_le B M ws ws.length
  have h2 := flat_le ms 32 (fun l hl => Nat.le_of_eq (h l hl))
  have e : bytesS B M ws ms = preS B M ws ws.length ++ ms.flatten := by unfold bytesS preS; rw [List.take_length]
  rw [e, List.length_append]
  omega
/-- What Bytes tells of a signature. -/
theorem bytes_prog (b n : Int) (ws : List Int) (ms : List Txt) (hl1 : ws.length ≤ 1000000) (hl2 : ms.length ≤ 1000000) : ∃ (A : Txt) (e : Int), A.length ≤ 20 + 10 * ws.length + 32 * ms.length ∧ (e = 0 → ∃ B M : Nat, b = (B : Int) ∧ n = (M : Int) ∧ ofS A = ⟨0, B, M, ws, ms⟩) ∧ (rightS b n ws ms = true → ∃ B M : Nat, b = (B : Int) ∧ n = (M : Int) ∧ e = 0 ∧ A = bytesS B M ws ms) ∧
    ∀ (vw vs : Value) (N1 N2 : Nat → Prop) (w : World), Row (Value.int .i64) N1 w vw ws → Row encT N2 w vs ms →
      Calls Try.prog 28 #[sigV b n vw vs] w fun e' w' => e' = .returned (.tuple #[.string ⟨A.toArray⟩, .int .i64 e]) ∧ Below w.heap.size w w' := by
  cases hr : rightS b n ws ms with
  | false => exact ⟨[], 1, by simp, by simp, by simp, fun vw vs N1 N2 w h1 h2 => bytes_no b n ws ms vw vs N1 N2 w h1 h2 hl1 hl2 hr⟩
  | true =>
    obtain ⟨B, M, hR⟩ := right_is hr
    obtain rfl := hR.b
    obtain rfl := hR.n
    exact ⟨bytesS B M ws ms, 0, bytesS_le B M ws ms hR.m, fun _ => ⟨B, M, rfl, rfl, ofS_bytes hR⟩, fun _ => ⟨B, M, rfl, rfl, rfl, rfl⟩, fun vw vs N1 N2 w h1 h2 => bytes_ok B M ws ms vw vs N1 N2 w h1 h2 hr hR⟩
theorem bytes_of (l : Txt) : ∃ (A : Txt) (e : Int), ((ofS l).e = 0 → e = 0 ∧ A = l) ∧ ∀ (vw vs : Value) (N1 N2 : Nat → Prop) (w : World), Row (Value.int .i64) N1 w vw (ofS l).ws → Row encT N2 w vs (ofS l).ms →
      Calls Try.prog 28 #[sigV (ofS l).b (ofS l).n vw vs] w fun e' w' => e' = .returned (.tuple #[.string ⟨A.toArray⟩, .int .i64 e]) ∧ Below w.heap.size w w' := by
  have hl := ofS_len l
  obtain ⟨A, e, _, _, h, hc⟩ := bytes_prog (ofS l).b (ofS l).n (ofS l).ws (ofS l).ms (by omega) (by omega)
  refine ⟨A, e, fun he => ?_, hc⟩
  obtain ⟨B, M, ws, ms, e1, hR, hr, hb⟩ := ofS_back l he
  rw [e1] at h
  obtain ⟨B', M', hB, hM, h1, h2⟩ := h hr
  have hB' : B = B' := Int.ofNat_inj.1 hB
  have hM' : M = M' := Int.ofNat_inj.1 hM
  subst hB'; subst hM'
  exact ⟨h1, by rw [h2]; exact hb⟩

set_option maxRecDepth 100000 in
set_option maxHeartbeats 4000000 in
theorem signBack_walk (v : Value) (s : Txt) (hs : s.length ≤ 140737488351232) (w : World) (hv : SigIn w v) :
    Calls Try.prog 8 #[v, .string ⟨s.toArray⟩] w fun e w' => e = .returned (.bool true) ∧ Below w.heap.size w w' := by
  obtain ⟨b, n, vw, vs, ws, ms, rfl, ⟨a1, m1, k1, rfl⟩, ⟨a2, m2, k2, rfl⟩, r1, r2, l1, l2, _, _, FEW⟩ := few_start v w hv
  clear hv
  obtain ⟨A1, M1, K1, e1⟩ : ∃ a m c, takeV 300 (.slice a1 m1 k1) = .slice a m c := ⟨_, _, _, rfl⟩
  obtain ⟨A2, M2, K2, e2⟩ : ∃ a m c, takeV 300 (.slice a2 m2 k2) = .slice a m c := ⟨_, _, _, rfl⟩
  rw [e1] at r1 FEW
  rw [e2] at r2 FEW
  clear e1 e2
  have F := fun w' => Lib.hid (FEW w')
  have R1 := Lib.hid r1
  have R2 := Lib.hid r2
  have G0 := Lib.hid (heap_alloc_new w (sigC b n (.slice a1 m1 k1) (.slice a2 m2 k2)))
  have HB0 := Lib.hid ((Below.refl w.heap.size w).alloc (Nat.le_refl _) (sigC b n (.slice a1 m1 k1) (.slice a2 m2 k2)))
  clear FEW r1 r2
  have CT := fun w' => Lib.hid (cut_any s 12000 w' (by decide) hs)
  have hl : (s.take 12000).length ≤ 12000 := List.length_take_le _ _
  generalize s.take 12000 = l at *
  obtain ⟨A, er, hA, hO, _, hc⟩ := bytes_prog b n ws ms (by omega) (by omega)
  obtain ⟨A', er', hO', hc'⟩ := bytes_of l
  have SA := fun w' => Lib.hid (sigOf_any A w' (by omega))
  have SL := fun w' => Lib.hid (sigOf_any l w' (by omega))
  have HC := Lib.hid hc
  have HC' := Lib.hid hc'
  have HO := Lib.hid hO
  have HO' := Lib.hid hO'
  have HL := Lib.hid l1
  have HL2 := Lib.hid l2
  clear hA hO hO' hc hc' hl l1 l2
  generalize ofS A = ra at *
  generalize ofS l = rl at *
  obtain ⟨rae, rab, ran, raw, ram⟩ := ra
  obtain ⟨rle, rlb, rln, rlw, rlm⟩ := rl
  dsimp only at HC' HO'
  go_enter Try.func8, Try.ntmps8
  go_wp2_with fail
  generalize w.alloc (.cells #[.int .i64 b, .int .i64 n, .slice a1 m1 k1, .slice a2 m2 k2] 31) = w0 at *
  refine (F _).out.mono ?_
  rintro e w1 ⟨rfl, hb1⟩
  obtain ⟨⟨x1, x2⟩, ⟨x3, x4⟩, ⟨x5, x6⟩, ⟨x7, x8⟩, x9, x10⟩ := sig_store (b' := b) (n' := n) (vw' := .slice A1 M1 K1) (vs' := .slice A2 M2 K2) (old_of hb1 G0.out)
  have c0 := sig_c0 x9
  have c1 := sig_c1 x9
  have c2 := sig_c2 x9
  have c3 := sig_c3 x9
  have HB1 := Lib.hid (HB0.out.trans (hb1.mono HB0.out.size))
  have HG := Lib.hid x9
  have HB2 := Lib.hid (HB1.out.trans (x10.below HB1.out.size (fun k e => by omega)))
  clear x9 x10 hb1 F G0 HB0
  go_wp2_with fail
  generalize (((w1.setCell ⟨w.heap.size, 0, none⟩ (.int .i64 b)).setCell ⟨w.heap.size, 1, none⟩ (.int .i64 n)).setCell ⟨w.heap.size, 2, none⟩ (.slice A1 M1 K1)).setCell ⟨w.heap.size, 3, none⟩ (.slice A2 M2 K2) = w2 at *
  clear x1 x2 x3 x4 x5 x6 x7 x8 HB1
  refine (CT _).out.mono ?_
  rintro e w' ⟨rfl, rfl⟩
  have S1 := Lib.hid (R1.out.to HB2.out (fun _ h => h))
  have S2 := Lib.hid (R2.out.to HB2.out (fun _ h => h))
  clear R1 R2 CT
  go_wp2_with fail
  refine (HC.out _ _ _ _ _ S1.out S2.out).mono ?_
  rintro e w3 ⟨rfl, hb3⟩
  have HB3 := Lib.hid (HB2.out.trans (hb3.mono HB2.out.size))
  have HG3 := Lib.hid (old_of hb3 HG.out)
  have T1 := Lib.hid (S1.out.keep hb3)
  have T2 := Lib.hid (S2.out.keep hb3)
  clear c0 c1 c2 c3 hb3 HC HG S1 S2 HB2
  go_wp2_with fail
  refine (SA _).out.mono ?_
  rintro e w4 ⟨vw, vs, rfl, r3, r4, hb4⟩
  dsimp only at r3 r4 ⊢
  obtain ⟨a3, n3, k3, rfl⟩ := r3.slice
  obtain ⟨a4, n4, k4, rfl⟩ := r4.slice
  have hbb := hb4.trans ((below_self_alloc w4 (sigC rab ran (.slice a3 n3 k3) (.slice a4 n4 k4))).mono hb4.size)
  have HB4 := Lib.hid (HB3.out.trans (hbb.mono HB3.out.size))
  have HG4 := Lib.hid (old_of hbb HG3.out)
  have U1 := Lib.hid (T1.out.keep hbb)
  have U2 := Lib.hid (T2.out.keep hbb)
  have U3 := Lib.hid (r3.keep (below_self_alloc w4 (sigC rab ran (.slice a3 n3 k3) (.slice a4 n4 k4))))
  have U4 := Lib.hid (r4.keep (below_self_alloc w4 (sigC rab ran (.slice a3 n3 k3) (.slice a4 n4 k4))))
  have GH4 := Lib.hid (heap_alloc_new w4 (sigC rab ran (.slice a3 n3 k3) (.slice a4 n4 k4)))
  clear r3 r4 hb4 hbb T1 T2 HG3 HB3 SA
  go_wp2_with fail
  generalize w4.alloc (.cells #[.int .i64 rab, .int .i64 ran, .slice a3 n3 k3, .slice a4 n4 k4] 31) = w5 at *
  refine (SL _).out.mono ?_
  rintro e w6 ⟨vw, vs, rfl, r5, r6, hb6⟩
  dsimp only at r5 r6 ⊢
  obtain ⟨a5, n5, k5, rfl⟩ := r5.slice
  obtain ⟨a6, n6, k6, rfl⟩ := r6.slice
  have hbb := hb6.trans ((below_self_alloc w6 (sigC rlb rln (.slice a5 n5 k5) (.slice a6 n6 k6))).mono hb6.size)
  have HB6 := Lib.hid (HB4.out.trans (hbb.mono HB4.out.size))
  have HG6 := Lib.hid (old_of hbb HG4.out)
  have GH6 := Lib.hid (old_of hbb GH4.out)
  have V1 := Lib.hid (U1.out.keep hbb)
  have V2 := Lib.hid (U2.out.keep hbb)
  have V3 := Lib.hid (U3.out.keep hbb)
  have V4 := Lib.hid (U4.out.keep hbb)
  have V5 := Lib.hid (r5.keep (below_self_alloc w6 (sigC rlb rln (.slice a5 n5 k5) (.slice a6 n6 k6))))
  have V6 := Lib.hid (r6.keep (below_self_alloc w6 (sigC rlb rln (.slice a5 n5 k5) (.slice a6 n6 k6))))
  have g6 := heap_alloc_new w6 (sigC rlb rln (.slice a5 n5 k5) (.slice a6 n6 k6))
  have c0 := sig_c0 g6
  have c1 := sig_c1 g6
  have c2 := sig_c2 g6
  have c3 := sig_c3 g6
  clear r5 r6 hb6 hbb U1 U2 U3 U4 HG4 GH4 HB4 SL g6
  go_wp2_with fail
  generalize w6.alloc (.cells #[.int .i64 rlb, .int .i64 rln, .slice a5 n5 k5, .slice a6 n6 k6] 31) = w7 at *
  refine (HC'.out _ _ _ _ _ V5.out V6.out).mono ?_
  rintro e w8 ⟨rfl, hb8⟩
  have HB8 := Lib.hid (HB6.out.trans (hb8.mono HB6.out.size))
  have g8 := old_of hb8 HG6.out
  have h8 := old_of hb8 GH6.out
  have W1 := Lib.hid (V1.out.keep hb8)
  have W2 := Lib.hid (V2.out.keep hb8)
  have W3 := Lib.hid (V3.out.keep hb8)
  have W4 := Lib.hid (V4.out.keep hb8)
  clear c0 c1 c2 c3 hb8 HC' HG6 GH6 V1 V2 V3 V4 V5 V6 HB6
  have c0 := sig_c0 g8
  have c1 := sig_c1 g8
  have c2 := sig_c2 g8
  have c3 := sig_c3 g8
  have c4 := sig_c0 h8
  have c5 := sig_c1 h8
  have c6 := sig_c2 h8
  have c7 := sig_c3 h8
  clear g8 h8
  have AW := fun w' => Lib.hid (awake_any w')
  by_cases he : er = 0
  · obtain ⟨B, M, hB, hM, hX⟩ := HO.out he
    injection hX with x1 x2 x3 x4 x5
    subst hB; subst hM; subst x1; subst x2; subst x3; subst x4; subst x5; subst he
    have SM := Lib.hid (fun w' h1 h2 h3 h4 => same_any (Value.int .i64) (fun x => ⟨x, rfl⟩) rab ran raw ram (.slice a3 n3 k3) (.slice a4 n4 k4) (.slice A1 M1 K1) (.slice A2 M2 K2) (w3.heap.size ≤ ·) (w3.heap.size ≤ ·) (· < w.heap.size) (· < w.heap.size) w' h1 h2 h3 h4 (by have := HL.out; omega) (by have := HL2.out; omega))
    clear HO HL HL2
    have q1 : ((0 : Int) != 0) = false := by simp
    have q2 : ((0 : Int) == 0) = true := by simp
    by_cases hr : rle = 0
    · obtain ⟨rfl, rfl⟩ := HO'.out hr
      subst hr
      have q3 : (A' == A') = true := by simp
      clear HO'
      go_wp2_with fail
      refine (SM.out _ W3.out W4.out W1.out W2.out).mono ?_
      rintro e w9 ⟨rfl, hb9⟩
      have HB9 := Lib.hid (HB8.out.trans (hb9.mono HB8.out.size))
      clear hb9
      go_wp2_with fail
      refine (AW _).out.mono ?_
      rintro e w10 ⟨rfl, hb10⟩
      go_wp2
      go_ret
      exact ⟨rfl, HB9.out.trans (hb10.mono HB9.out.size)⟩
    · have q4 : (rle != 0) = true := by simp [hr]
      clear HO' hr
      go_wp2_with fail
      refine (SM.out _ W3.out W4.out W1.out W2.out).mono ?_
      rintro e w9 ⟨rfl, hb9⟩
      have HB9 := Lib.hid (HB8.out.trans (hb9.mono HB8.out.size))
      clear hb9
      go_wp2_with fail
      refine (AW _).out.mono ?_
      rintro e w10 ⟨rfl, hb10⟩
      go_wp2
      go_ret
      exact ⟨rfl, HB9.out.trans (hb10.mono HB9.out.size)⟩
  · have q1 : (er != 0) = true := by simp [he]
    clear HO he
    by_cases hr : rle = 0
    · obtain ⟨rfl, rfl⟩ := HO'.out hr
      subst hr
      have q3 : (A' == A') = true := by simp
      have q5 : ((0 : Int) != 0) = false := by simp
      have q2 : ((0 : Int) == 0) = true := by simp
      clear HO'
      go_wp2_with fail
      refine (AW _).out.mono ?_
      rintro e w10 ⟨rfl, hb10⟩
      go_wp2
      go_ret
      exact ⟨rfl, HB8.out.trans (hb10.mono HB8.out.size)⟩
    · have q4 : (rle != 0) = true := by simp [hr]
      clear HO' hr
      go_wp2_with fail
      refine (AW _).out.mono ?_
      rintro e w10 ⟨rfl, hb10⟩
      go_wp2
      go_ret
      exact ⟨rfl, HB8.out.trans (hb10.mono HB8.out.size)⟩
end Go.Proofs.Ytifbdbblfhphjaa

/- The walk of the law SignOwn. -/
import Derived.Test.YtifbdbblfhphjaaTabX
import Derived.Test.YtifbdbblfhphjaaBookW
import Derived.Test.YtifbdbblfhphjaaBooksW
import Derived.Test.YtifbdbblfhphjaaBytesW
import Derived.Test.YtifbdbblfhphjaaFrame
import Derived.Test.YtifbdbblfhphjaaGen
import Derived.Test.YtifbdbblfhphjaaInfos
import Derived.Test.YtifbdbblfhphjaaMarkMath
import Derived.Test.YtifbdbblfhphjaaNewTabW
import Derived.Test.YtifbdbblfhphjaaOwnL
import Derived.Test.YtifbdbblfhphjaaOwnMath
import Derived.Test.YtifbdbblfhphjaaProg
import Derived.Test.YtifbdbblfhphjaaReadW
import Derived.Test.YtifbdbblfhphjaaRefBlocksW
import Derived.Test.YtifbdbblfhphjaaRefBookW
import Derived.Test.YtifbdbblfhphjaaRefSignW
import Derived.Test.YtifbdbblfhphjaaRightW
import Derived.Test.YtifbdbblfhphjaaRollMath
import Derived.Test.YtifbdbblfhphjaaRowKeep
import Derived.Test.YtifbdbblfhphjaaRows
import Derived.Test.YtifbdbblfhphjaaSAwakeW
import Derived.Test.YtifbdbblfhphjaaSameW
import Derived.Test.YtifbdbblfhphjaaShelf
import Derived.Test.YtifbdbblfhphjaaSigAt
import Derived.Test.YtifbdbblfhphjaaSigOwnW
import Derived.Test.YtifbdbblfhphjaaSignAW
import Derived.Test.YtifbdbblfhphjaaSignBW
import Derived.Test.YtifbdbblfhphjaaSignMatW
import Derived.Test.YtifbdbblfhphjaaSignMath
import Derived.Test.YtifbdbblfhphjaaSignW
import Derived.Test.YtifbdbblfhphjaaSortX
import Derived.Test.YtifbdbblfhphjaaSortEW
import Derived.BigQuiet
import Derived.Deep.CutBlock
import Derived.Deep.DeepCutAuto
import Derived.Deep.QuietTactic
import Derived.Deep.RegionHeld3
import Derived.Deep.RegionLaw
import Derived.IntWalk
import Derived.Laws.BitsAllLaws
import Derived.Laws.Rows
import Derived.Laws.Tables
import Derived.Lib.Hide
import Derived.Outline
import Derived.Sort.Walk0
import Derived.StillTailTactics
import Derived.WalkKit
import Derived.WalkLawsBesides
import Derived.WalkSpells
set_option linter.unusedVariables false
namespace Go.Proofs.Ytifbdbblfhphjaa
open Go.RowKit

set_option maxRecDepth 100000 in
set_option maxHeartbeats 4000000 in
theorem signOwn_bad (s : Txt) (hs : s.length ≤ 140737488351232) (z : Int) (hz : z < 16 ∨ 1024 < z) (w : World) :
    Calls Try.prog 11 #[.string ⟨s.toArray⟩, .int .i64 z] w fun e w' => e = .returned (.bool true) ∧ Below w.heap.size w w' := by
  have CT := fun w' => Lib.hid (cut_any s 2000 w' (by decide) hs)
  generalize s.take 2000 = l at *
  have S1 := fun bp w' => Lib.hid (sign_arg bp l z w' hz)
  have N1 := fun w' => Lib.hid (newTable_no 0 0 [] [] (.slice none 0 0) (.slice none 0 0) (fun _ => True) (fun _ => True) w' ⟨none, 0, rfl, fun i hi => absurd hi (by simp)⟩ ⟨none, 0, rfl, fun i hi => absurd hi (by simp)⟩ (by simp) (by simp) (by rfl))
  have q1 : ((1 : Int) == 1) = true := by simp
  go_enter Try.func11, Try.ntmps11
  go_wp2_with fail
  refine (CT _).out.mono ?_
  rintro e w' ⟨rfl, rfl⟩
  go_wp2_with fail
  refine (ideal_any _).mono ?_
  rintro e w1 ⟨p, bm, rfl, hid1, hp, hbm, hb1⟩
  have HB1 := Lib.hid hb1; clear hid1 hb1
  go_wp2_with fail
  refine (S1 _ _).out.mono ?_
  rintro e w2 ⟨rfl, hb2⟩
  have HB2 := Lib.hid (below_alloc (HB1.out.trans (hb2.mono HB1.out.size)) (sigC 0 0 (.slice none 0 0) (.slice none 0 0))); clear hb2
  go_wp2_with fail
  generalize w2.alloc (.cells #[.int .i64 0, .int .i64 0, .slice none 0 0, .slice none 0 0] 31) = w3 at *
  refine (N1 _).out.mono ?_
  rintro e w4 ⟨rfl, hb4⟩
  have HB4 := Lib.hid (HB2.out.trans (hb4.mono HB2.out.size)); clear hb4
  by_cases h16 : z < 16
  · clear hz
    go_wp2_with fail
    refine (awake_any _).mono ?_
    rintro e w7 ⟨rfl, hb7⟩
    go_wp2
    go_ret
    exact ⟨rfl, HB4.out.trans (hb7.mono HB4.out.size)⟩
  · have hz2 : 1024 < z := by omega
    clear hz
    go_wp2_with fail
    refine (awake_any _).mono ?_
    rintro e w7 ⟨rfl, hb7⟩
    go_wp2
    go_ret
    exact ⟨rfl, HB4.out.trans (hb7.mono HB4.out.size)⟩

set_option maxRecDepth 100000 in
set_option maxHeartbeats 8000000 in
theorem signOwn_good (s : Txt) (hs : s.length ≤ 140737488351232) (B : Nat) (hb : 16 ≤ B) (hb2 : B ≤ 1024) (w : World) :
    Calls Try.prog 11 #[.string ⟨s.toArray⟩, .int .i64 B] w fun e w' => e = .returned (.bool true) ∧ Below w.heap.size w w' := by
  have CT := fun w' => Lib.hid (cut_any s 2000 w' (by decide) hs)
  have hl : (s.take 2000).length ≤ 2000 := List.length_take_le _ _
  generalize s.take 2000 = l at *
  have hbl := cutS_le B (by omega) l
  have S1 := fun p bm w' h => Lib.hid (sign_ok (book_ideal p bm) B l w' [] hb hb2 (by omega) h (by unfold okI; simp; omega))
  have BL := fun w' => Lib.hid (refBlocks_any B l w' hb hb2 (by omega))
  have SG := Lib.hid (fun ms S mk => signed_of (ms := ms) (S := S) hb hb2 hl mk)
  clear hbl
  go_enter Try.func11, Try.ntmps11
  go_wp2_with fail
  refine (CT _).out.mono ?_
  rintro e w' ⟨rfl, rfl⟩
  go_wp2_with fail
  refine (ideal_any _).mono ?_
  rintro e w1 ⟨pb, bm, rfl, hid1, hp, hbm, hb1⟩
  have HB1 := Lib.hid hb1; clear hb1
  have HI1 := Lib.hid hid1; clear hid1
  go_wp2_with fail
  refine (S1 _ _ _ HI1.out).out.mono ?_
  rintro e w2 ⟨vw, vs, ms, S, rfl, o1, o2, mk1, hid2, kp2, _, _⟩
  have HB2 := Lib.hid (HB1.out.trans (kp2.below HB1.out.size (by rintro k (e | e) <;> omega))); clear kp2
  have HSG := Lib.hid (SG.out ms S mk1)
  have R1 := row_int o1.row
  have R2 := o2.row
  have HI2 := Lib.hid hid2
  clear o1 o2 hid2 mk1 SG HI1 HB1 S1 CT
  generalize hws : ((cutS B l).map wk).map (fun n : Nat => (n : Int)) = ws at *
  have HL := Lib.hid (show cutS B l = cutS B l from rfl)
  clear hws HL
  have hbb := below_self_alloc w2 (sigC B l.length vw vs)
  have HB3 := Lib.hid (HB2.out.trans (hbb.mono HB2.out.size))
  have HI3 := Lib.hid (HI2.out.new hbb)
  have T1 := R1.keep hbb
  have T2 := R2.keep hbb
  have HG := Lib.hid (heap_alloc_new w2 (sigC B l.length vw vs))
  clear R1 R2 HI2 HB2 hbb
  obtain ⟨a1, k1, rfl, hc1⟩ := T1
  obtain ⟨a2, k2, rfl, hc2⟩ := T2
  have T1 := Lib.hid (show Row (Value.int .i64) _ _ (.slice a1 ws.length k1) ws from ⟨a1, k1, rfl, hc1⟩)
  have T2 := Lib.hid (show Row encT _ _ (.slice a2 ms.length k2) ms from ⟨a2, k2, rfl, hc2⟩)
  clear hc1 hc2
  have i16 : ¬ (B : Int) < 16 := by omega
  have i1024 : ¬ (1024 : Int) < (B : Int) := by omega
  have q0 : ((0 : Int) != 0) = false := by simp
  go_wp2_with fail
  generalize w2.alloc (.cells #[.int .i64 B, .int .i64 l.length, .slice a1 ws.length k1, .slice a2 ms.length k2] 31) = w3 at *
  have NT := Lib.hid (show Calls Try.prog 33 #[sigV B l.length (.slice a1 ws.length k1) (.slice a2 ms.length k2)] w3 (NewPost w3 B l.length ws ms) by
    have hr := HSG.out.right
    obtain ⟨B', M', hR⟩ := right_is hr
    have e1 : B = B' := Int.ofNat_inj.1 hR.b
    have e2 : l.length = M' := Int.ofNat_inj.1 hR.n
    subst e1; subst e2
    exact newTable_ok B l.length ws ms _ _ _ _ w3 T1.out T2.out hr hR)
  refine NT.out.mono ?_
  rintro e w4 ⟨p, vw', vs', vo, ord, rfl, hT, hO, hb4⟩
  have HB4 := Lib.hid (HB3.out.trans (hb4.mono HB3.out.size))
  have HI4 := Lib.hid (HI3.out.new hb4)
  have HT4 := Lib.hid hT
  have HO := Lib.hid hO
  have T4 := Lib.hid (T1.out.keep hb4)
  have HG4 := Lib.hid (old_of hb4 HG.out)
  clear hT hO hb4 NT T1 T2 HI3 HB3 HG
  generalize cutS B l = L at *
  generalize l.length / B = N at *
  have HSM := Lib.hid HSG.out.small
  go_wp2_with fail
  refine (BL _).out.mono ?_
  rintro e w5 ⟨vb, rfl, ob, hb5⟩
  have HB5 := Lib.hid (HB4.out.trans (hb5.mono HB4.out.size))
  have HI5 := Lib.hid (HI4.out.new hb5)
  have HT5 := Lib.hid (HT4.out.on hb5)
  have T5 := Lib.hid (T4.out.keep hb5)
  have c2 := sig_c2 (old_of hb5 HG4.out)
  obtain ⟨ab, cb, rfl, hcb⟩ := ob.row
  have HCB := Lib.hid hcb
  clear ob hb5 hcb HI4 HT4 HB4 BL T4 HG4
  have hLs := HSM.out.1
  have qn : ((ws.length : Int) != (L.length : Int)) = false := by have := HSG.out.lw; simp [this]
  have C2 := Lib.hid c2
  have MC := fun (i : Nat) (hi : i < L.length) (weak wanted : Int) w' (hb : Below w5.heap.size w5 w') => Lib.hid (tabMatch_any p B l.length pb bm S L[i] ws ms vw' vs' vo ord w3.heap.size N weak wanted w' (HT5.out.on hb) HO.out (by have := HSG.out.lw; have := HSM.out; omega) (by have := HSG.out.lm; have := HSM.out; omega) (by have := HSG.out.lw; omega) (by have := HSG.out.lm; omega) (HI5.out.new hb) (by have := HSG.out.le_b hi; omega) (by have h := seenS_length L; rw [← HSG.out.hS] at h; omega))
  have TC := fun (i : Nat) (hi : i < L.length) w' (hb : Below w5.heap.size w5 w') => Lib.hid (tabTail_any p B l.length pb bm S L[i] ws ms vw' vs' vo ord w3.heap.size N w' (HT5.out.on hb) HO.out (by have := HSG.out.lw; have := HSM.out; omega) (by rw [HSG.out.lw, HSG.out.lm]) (by have := HSG.out.lw; omega) (by rw [HSG.out.hN]; exact Nat.div_mul_le_self _ _) (by omega) hb2 (HI5.out.new hb) (by have := HSG.out.le_b hi; omega) (by have h := seenS_length L; rw [← HSG.out.hS] at h; omega))
  go_wp2_with fail
  clear c2
  go_loopw [11, 12] (fun a b wr => ∃ (i : Nat), i ≤ L.length ∧ a = .int .i64 i ∧ Below w5.heap.size w5 wr) (fun a _ _ => L.length - (intOf a).toNat)
  case atStart => exact ⟨0, by omega, rfl, Below.refl _ _⟩
  case round =>
    obtain ⟨i, hi, rfl, hbr⟩ := hrel
    have HBR := Lib.hid hbr
    have HBW := Lib.hid (HB5.out.trans (hbr.mono HB5.out.size))
    have CR := (hbr.cell (World.block_lt_of_cell? w5 _ C2.out)).trans C2.out
    by_cases h0 : i < L.length
    · have i1 : (i : Int) < (L.length : Int) := by omega
      obtain ⟨gb, go, rfl, _, x1⟩ := HCB.out i h0
      have X1 := (hbr.cell (World.block_lt_of_cell? w5 _ x1)).trans x1
      have TL := Lib.hid (TC i h0 _ hbr)
      have M1 := Lib.hid (fun wn w' (h : Below wr.heap.size wr w') => MC i h0 (wOf ws i) wn w' (hbr.trans (h.mono hbr.size)))
      have OT := Lib.hid (HSG.out.own_tail h0)
      have OI := Lib.hid (HSG.out.own_is HO.out h0)
      have OA := Lib.hid (HSG.out.own_any HO.out h0)
      unfold encT at X1 x1
      have LB := HSG.out.le_b h0
      generalize hy : L[i] = y at *
      have hbr' := hbr
      clear hbr
      by_cases c1 : y.length = B
      · have j1 : ¬ (y.length : Int) < (B : Int) := by omega
        have OI2 := Lib.hid (OI.out c1)
        obtain ⟨k, hk, hki, hky, hkm⟩ := OA.out c1
        obtain ⟨_, _, hv, _, xk⟩ := HCB.out k hk
        simp only [Value.slice.injEq, Option.some.injEq, Addr.mk.injEq, and_true, true_and] at hv
        obtain ⟨⟨rfl, rfl⟩, hv6⟩ := hv
        subst hv6
        unfold encT at xk
        rw [hky] at xk
        have K1 := (hbr'.cell (World.block_lt_of_cell? w5 _ xk)).trans xk
        have hiw : i < ws.length := by have := HSG.out.lw; omega
        obtain ⟨g1, o1, cc, hv, xw⟩ := T5.out.at hiw
        injection hv with e1 e2 e3
        subst e1; subst e3
        rw [← wOf_get hiw] at xw
        have W1 := (hbr'.cell (World.block_lt_of_cell? w5 _ xw)).trans xw
        have i0 : (0 : Int) ≤ (i : Int) := by omega
        have i2 : (i : Int) < (ws.length : Int) := by omega
        have MK := Lib.hid (fun P : BelowOf wr => (M1.out (-1) P.w P.h))
        rw [hkm] at MK
        have k0 : (0 : Int) ≤ (k : Int) := by omega
        have k1' : (k : Int) < (L.length : Int) := by omega
        have k2' : ¬ (k : Int) < 0 := by omega
        have k3 : ¬ (i : Int) < (k : Int) := by omega
        clear hbr' xk xw x1 hky hkm hki hk c1 OT OI OA TL hiw
        generalize wOf ws i = wv at *
        go_wp2_with fail
        have E1 := below_cell CR
        have E2 := below_cell W1
        have E3 := below_cell X1
        refine wp_region_below (by kernel_rfl) (by kernel_rfl) ?_
        repeat (go_big_quiet_step ((first | (go_at_call 39; exact below_calls (MK.out _).out))))
        refine wpQuiet_nil ?_
        rintro w6 ⟨⟨w6b, hb6⟩, hw6⟩
        have hw6b : w6 = w6b := hw6
        clear hw6
        subst hw6b
        clear E1 E2 E3 MK
        have CR6 := (hb6.cell (World.block_lt_of_cell? wr _ CR)).trans CR
        have W6 := (hb6.cell (World.block_lt_of_cell? wr _ W1)).trans W1
        have X6 := (hb6.cell (World.block_lt_of_cell? wr _ X1)).trans X1
        have K6 := (hb6.cell (World.block_lt_of_cell? wr _ K1)).trans K1
        have MK := Lib.hid (fun P : BelowOf w6 => (M1.out (i : Int) P.w (hb6.trans (P.h.mono hb6.size))))
        rw [OI2.out] at MK
        have HB6 := Lib.hid (HBR.out.trans (hb6.mono HBR.out.size))
        have qi : ((i : Int) != (i : Int)) = false := by simp
        have qy : (y != y) = false := by simp
        clear hb6 CR W1 X1 K1 M1
        go_wp2_with fail
        have E1 := below_cell CR6
        have E2 := below_cell W6
        have E3 := below_cell X6
        have E4 := below_cell K6
        clear CR6 W6 X6 K6
        have qk : decide ((k : Int) < 0) = false := decide_eq_false (by omega)
        have qk2 : decide ((i : Int) < (k : Int)) = false := decide_eq_false (by omega)
        have qk3 : decide (i < k) = false := decide_eq_false (by omega)
        have qk4 : k ≤ i := by omega
        refine wp_region_below (by kernel_rfl) (by kernel_rfl) ?_
        repeat (go_big_quiet_step ((first | (go_at_call 39; exact below_calls (MK.out _).out))))
        refine wpQuiet_nil ?_
        rintro _ ⟨⟨w7, hb7⟩, rfl⟩
        go_wp2_with fail
        go_roundw
        case rel => exact ⟨i + 1, by omega, by go_num, HB6.out.trans (hb7.mono HB6.out.size)⟩
        case measure => simp [intOf]; omega
      · have j1 : (y.length : Int) < (B : Int) := by omega
        have OT2 := Lib.hid (OT.out c1)
        clear OT OI OA c1 M1 hbr'
        rw [OT2.out] at TL
        go_wp2_with fail
        refine TL.out.mono ?_
        rintro e w6 ⟨rfl, hb6⟩
        go_wp2_with fail
        go_roundw
        case rel => exact ⟨i + 1, by omega, by go_num, HBR.out.trans (hb6.mono HBR.out.size)⟩
        case measure => simp [intOf]; omega
    · obtain rfl : i = L.length := by omega
      go_wp2_with fail
      refine (awake_any _).mono ?_
      rintro e w7 ⟨rfl, hb7⟩
      go_wp2
      go_ret
      exact ⟨rfl, HBW.out.trans (hb7.mono HBW.out.size)⟩

theorem signOwn_walk (s : Txt) (hs : s.length ≤ 140737488351232) (z : Int) (hz1 : -9223372036854775808 ≤ z) (hz2 : z ≤ 9223372036854775807) (w : World) :
    Calls Try.prog 11 #[.string ⟨s.toArray⟩, .int .i64 z] w fun e w' => e = .returned (.bool true) ∧ Below w.heap.size w w' := by
  by_cases h : z < 16 ∨ 1024 < z
  · exact signOwn_bad s hs z h w
  · obtain ⟨B, rfl⟩ : ∃ B : Nat, z = (B : Int) := ⟨z.toNat, by omega⟩
    exact signOwn_good s hs B (by omega) (by omega) w
end Go.Proofs.Ytifbdbblfhphjaa

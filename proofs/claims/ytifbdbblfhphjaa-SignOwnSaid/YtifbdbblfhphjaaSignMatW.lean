/- The walk of the law SignMatches. -/
import Derived.Test.YtifbdbblfhphjaaArgs3
import Derived.Test.YtifbdbblfhphjaaTabX
import Derived.Test.YtifbdbblfhphjaaBookW
import Derived.Test.YtifbdbblfhphjaaBooksW
import Derived.Test.YtifbdbblfhphjaaBytesW
import Derived.Test.YtifbdbblfhphjaaFrame
import Derived.Test.YtifbdbblfhphjaaGen
import Derived.Test.YtifbdbblfhphjaaInfos
import Derived.Test.YtifbdbblfhphjaaMarkMath
import Derived.Test.YtifbdbblfhphjaaNewTabW
import Derived.Test.YtifbdbblfhphjaaOwnL
import Derived.Test.YtifbdbblfhphjaaProg
import Derived.Test.YtifbdbblfhphjaaReadMath
import Derived.Test.YtifbdbblfhphjaaReadW
import Derived.Test.YtifbdbblfhphjaaRefBlocksW
import Derived.Test.YtifbdbblfhphjaaRefBookW
import Derived.Test.YtifbdbblfhphjaaRefSignW
import Derived.Test.YtifbdbblfhphjaaRightW
import Derived.Test.YtifbdbblfhphjaaRollMath
import Derived.Test.YtifbdbblfhphjaaRowKeep
import Derived.Test.YtifbdbblfhphjaaRows
import Derived.Test.YtifbdbblfhphjaaSAwakeW
import Derived.Test.YtifbdbblfhphjaaShelf
import Derived.Test.YtifbdbblfhphjaaSigAt
import Derived.Test.YtifbdbblfhphjaaSignAW
import Derived.Test.YtifbdbblfhphjaaSignBW
import Derived.Test.YtifbdbblfhphjaaSignMath
import Derived.Test.YtifbdbblfhphjaaSignSignsW
import Derived.Test.YtifbdbblfhphjaaSignW
import Derived.Test.YtifbdbblfhphjaaSortX
import Derived.Test.YtifbdbblfhphjaaSortEW
import Derived.Test.YtifbdbblfhphjaaWeak3W
import Derived.BigQuiet
import Derived.BigRegion
import Derived.ChangeAlike
import Derived.Deep.CutBlock
import Derived.Deep.DeepCutAuto
import Derived.Deep.QuietTactic
import Derived.Deep.RegionHeld3
import Derived.Deep.RegionLaw
import Derived.IntWalk
import Derived.Laws.BitsAllLaws
import Derived.Laws.Rows
import Derived.Laws.Tables
import Derived.Lib.Hide
import Derived.Outline
import Derived.RegionTactic
import Derived.Sort.Walk0
import Derived.StillTailTactics
import Derived.WalkKit
import Derived.WalkLawsBesides
import Derived.WalkSpells
set_option linter.unusedVariables false
namespace Go.Proofs.Ytifbdbblfhphjaa
open Go.RowKit

set_option maxRecDepth 100000 in
set_option maxHeartbeats 4000000 in
theorem signMatches_bad (s : Txt) (hs : s.length ≤ 140737488351232) (z : Int) (hz : z < 16 ∨ 1024 < z) (weak : Int) (t : Txt) (ht : t.length ≤ 140737488351232) (wanted : Int) (w : World) :
    Calls Try.prog 10 #[.string ⟨s.toArray⟩, .int .i64 z, .int .i64 weak, .string ⟨t.toArray⟩, .int .i64 wanted] w fun e w' => e = .returned (.bool true) ∧ Below w.heap.size w w' := by
  have CT := fun w' => Lib.hid (cut_any s 2000 w' (by decide) hs)
  have CT2 := fun w' => Lib.hid (cut_any t 2000 w' (by decide) ht)
  generalize s.take 2000 = l at *
  generalize t.take 2000 = u at *
  have S1 := fun bp w' => Lib.hid (sign_arg bp l z w' hz)
  have q1 : ((1 : Int) == 1) = true := by simp
  go_enter Try.func10, Try.ntmps10
  go_wp2_with fail
  refine (CT _).out.mono ?_
  rintro e w' ⟨rfl, rfl⟩
  go_wp2_with fail
  refine (CT2 _).out.mono ?_
  rintro e w' ⟨rfl, rfl⟩
  go_wp2_with fail
  refine (ideal_any _).mono ?_
  rintro e w1 ⟨p, bm, rfl, hid1, hp, hbm, hb1⟩
  have HB1 := Lib.hid hb1; clear hid1 hb1
  go_wp2_with fail
  refine (S1 _ _).out.mono ?_
  rintro e w2 ⟨rfl, hb2⟩
  have HB2 := Lib.hid (below_alloc (HB1.out.trans (hb2.mono HB1.out.size)) (sigC 0 0 (.slice none 0 0) (.slice none 0 0))); clear hb2
  by_cases h16 : z < 16
  · clear hz
    go_wp2_with fail
    generalize w2.alloc (.cells #[.int .i64 0, .int .i64 0, .slice none 0 0, .slice none 0 0] 31) = w3 at *
    refine (awake_any _).mono ?_
    rintro e w7 ⟨rfl, hb7⟩
    go_wp2
    go_ret
    exact ⟨rfl, HB2.out.trans (hb7.mono HB2.out.size)⟩
  · have hz2 : 1024 < z := by omega
    clear hz
    go_wp2_with fail
    generalize w2.alloc (.cells #[.int .i64 0, .int .i64 0, .slice none 0 0, .slice none 0 0] 31) = w3 at *
    refine (awake_any _).mono ?_
    rintro e w7 ⟨rfl, hb7⟩
    go_wp2
    go_ret
    exact ⟨rfl, HB2.out.trans (hb7.mono HB2.out.size)⟩

/-- A text signed by an ideal book. -/
theorem signed_of {B : Nat} {l : Txt} {ms S : List Txt} (hb : 16 ≤ B) (hb2 : B ≤ 1024) (hl : l.length ≤ 2000) (mk : Marked nxI mkI [] (cutS B l) ms S) :
    Signed B l (cutS B l) S (((cutS B l).map wk).map (fun n : Nat => (n : Int))) ms (l.length / B) := by
  obtain ⟨e1, e2⟩ := marked_ideal mk
  exact ⟨hb, hb2, hl, rfl, e1, rfl, e2, rfl⟩
theorem Signed.right {B : Nat} {s : Txt} {L S : List Txt} {ws : List Int} {ms : List Txt} {N : Nat} (h : Signed B s L S ws ms N) : rightS B s.length ws ms = true := by
  rw [h.hws, h.hL]
  refine rightS_sign B s ms h.b1 h.b2 (by have := h.sl; omega) (by rw [h.lm, h.hL]) ?_
  rw [h.hms]
  exact marks_len32 S L

set_option maxRecDepth 100000 in
set_option maxHeartbeats 8000000 in
theorem signMatches_good (s : Txt) (hs : s.length ≤ 140737488351232) (B : Nat) (hb : 16 ≤ B) (hb2 : B ≤ 1024) (weak : Int) (t : Txt) (ht : t.length ≤ 140737488351232) (wanted : Int) (w : World) :
    Calls Try.prog 10 #[.string ⟨s.toArray⟩, .int .i64 B, .int .i64 weak, .string ⟨t.toArray⟩, .int .i64 wanted] w fun e w' => e = .returned (.bool true) ∧ Below w.heap.size w w' := by
  have CT := fun w' => Lib.hid (cut_any s 2000 w' (by decide) hs)
  have CT2 := fun w' => Lib.hid (cut_any t 2000 w' (by decide) ht)
  have hl : (s.take 2000).length ≤ 2000 := List.length_take_le _ _
  have hu : (t.take 2000).length ≤ 2000 := List.length_take_le _ _
  generalize s.take 2000 = l at *
  generalize t.take 2000 = u at *
  have hbl := cutS_le B (by omega) l
  have S1 := fun p bm w' h => Lib.hid (sign_ok (book_ideal p bm) B l w' [] hb hb2 (by omega) h (by unfold okI; simp; omega))
  have BL := fun w' => Lib.hid (refBlocks_any B l w' hb hb2 (by omega))
  have SG := Lib.hid (fun ms S mk => signed_of (ms := ms) (S := S) hb hb2 hl mk)
  clear hbl
  go_enter Try.func10, Try.ntmps10
  go_wp2_with fail
  refine (CT _).out.mono ?_
  rintro e w' ⟨rfl, rfl⟩
  go_wp2_with fail
  refine (CT2 _).out.mono ?_
  rintro e w' ⟨rfl, rfl⟩
  go_wp2_with fail
  refine (ideal_any _).mono ?_
  rintro e w1 ⟨pb, bm, rfl, hid1, hp, hbm, hb1⟩
  have HB1 := Lib.hid hb1; clear hb1
  have HI1 := Lib.hid hid1; clear hid1
  go_wp2_with fail
  refine (S1 _ _ _ HI1.out).out.mono ?_
  rintro e w2 ⟨vw, vs, ms, S, rfl, o1, o2, mk1, hid2, kp2, _, _⟩
  have HB2 := Lib.hid (HB1.out.trans (kp2.below HB1.out.size (by rintro k (e | e) <;> omega))); clear kp2
  have HSG := Lib.hid (SG.out ms S mk1)
  obtain ⟨a1, n1, k1, rfl⟩ := own_slice o1
  obtain ⟨a2, n2, k2, rfl⟩ := own_slice o2
  have R1 := Lib.hid (row_int o1.row)
  have R2 := Lib.hid o2.row
  have HI2 := Lib.hid hid2
  clear o1 o2 hid2 mk1 SG HI1 HB1 S1 CT CT2
  generalize hws : ((cutS B l).map wk).map (fun n : Nat => (n : Int)) = ws at *
  have HL := Lib.hid (show cutS B l = cutS B l from rfl)
  clear hws HL
  have hbb := below_self_alloc w2 (sigC B l.length (.slice a1 n1 k1) (.slice a2 n2 k2))
  have HB3 := Lib.hid (HB2.out.trans (hbb.mono HB2.out.size))
  have HI3 := Lib.hid (HI2.out.new hbb)
  have T1 := Lib.hid (R1.out.keep hbb)
  have T2 := Lib.hid (R2.out.keep hbb)
  clear R1 R2 HI2 HB2 hbb
  have i16 : ¬ (B : Int) < 16 := by omega
  have i1024 : ¬ (1024 : Int) < (B : Int) := by omega
  have q0 : ((0 : Int) != 0) = false := by simp
  go_wp2_with fail
  generalize w2.alloc (.cells #[.int .i64 B, .int .i64 l.length, .slice a1 n1 k1, .slice a2 n2 k2] 31) = w3 at *
  have NT := Lib.hid (show Calls Try.prog 33 #[sigV B l.length (.slice a1 n1 k1) (.slice a2 n2 k2)] w3 (NewPost w3 B l.length ws ms) by
    have hr := HSG.out.right
    obtain ⟨B', M', hR⟩ := right_is hr
    have e1 : B = B' := Int.ofNat_inj.1 hR.b
    have e2 : l.length = M' := Int.ofNat_inj.1 hR.n
    subst e1; subst e2
    exact newTable_ok B l.length ws ms _ _ _ _ w3 T1.out T2.out hr hR)
  refine NT.out.mono ?_
  rintro e w4 ⟨p, vw', vs', vo, ord, rfl, hT, hO, hb4⟩
  have HB4 := Lib.hid (HB3.out.trans (hb4.mono HB3.out.size))
  have HI4 := Lib.hid (HI3.out.new hb4)
  have HT4 := Lib.hid hT
  have HO := Lib.hid hO
  clear hT hO hb4 NT T1 T2 HI3 HB3
  generalize cutS B l = L at *
  generalize l.length / B = N at *
  have HSM := Lib.hid HSG.out.small
  go_wp2_with fail
  refine (BL _).out.mono ?_
  rintro e w5 ⟨vb, rfl, ob, hb5⟩
  have HB5 := Lib.hid (HB4.out.trans (hb5.mono HB4.out.size))
  have HI5 := Lib.hid (HI4.out.new hb5)
  have HT5 := Lib.hid (HT4.out.on hb5)
  obtain ⟨ab, cb, rfl, hcb⟩ := ob.row
  have HCB := Lib.hid hcb
  clear ob hb5 hcb HI4 HT4 HB4 BL
  have RS := fun w' => Lib.hid (wrefSum_any u w' (by omega))
  have hLs := HSM.out.1
  go_wp2_with fail
  go_loopw [17, 18, 19] (fun a b c wr => ∃ (k : Nat) (ii : Int), k ≤ L.length ∧ Hid (ii = (k : Int) - 1) ∧ -1 ≤ ii ∧ ii < 1000 ∧ a = .int .i64 (lowF (condB L B u weak) k (L.length - k)) ∧ b = .bool (anyF (condB L B u weak) wanted k (L.length - k)) ∧ c = .int .i64 ii ∧ w5 = wr) (fun _ _ c _ => (intOf c + 1).toNat)
  case atStart => exact ⟨L.length, (L.length : Int) - 1, Nat.le_refl _, Lib.hid rfl, by omega, by omega, by rw [Nat.sub_self]; rfl, by rw [Nat.sub_self]; rfl, rfl, rfl⟩
  case round =>
    obtain ⟨k, ii, hk, hii, hi1, hi2, rfl, rfl, rfl, rfl⟩ := hrel
    by_cases h0 : 0 < k
    · obtain ⟨j, rfl⟩ : ∃ j, k = j + 1 := ⟨k - 1, by omega⟩
      obtain rfl : ii = (j : Int) := by have := hii.out; omega
      obtain ⟨gb, go, rfl, _, x1⟩ := HCB.out j (by omega)
      obtain ⟨f, hf⟩ : ∃ f, L.length - j = f + 1 := ⟨L.length - j - 1, by omega⟩
      have hf2 : L.length - (j + 1) = f := by omega
      rw [hf2]
      have E1 := Lib.hid (show lowF (condB L B u weak) j (L.length - j) = if condB L B u weak j = true then (j : Int) else lowF (condB L B u weak) (j + 1) f by rw [hf]; rfl)
      have E2 := Lib.hid (show anyF (condB L B u weak) wanted j (L.length - j) = (anyF (condB L B u weak) wanted (j + 1) f || (condB L B u weak j && ((j : Int) == wanted))) by rw [hf]; rfl)
      have HP := Lib.hid (show condB L B u weak j = decide (L[j].length = B ∧ L[j] = u ∧ ((wk u : Nat) : Int) = weak) by
        unfold condB; rw [List.getD_eq_getElem?_getD, List.getElem?_eq_getElem (show j < L.length by omega), Option.getD_some])
      generalize condB L B u weak j = pj at *
      generalize lowF (condB L B u weak) (j + 1) f = m1 at *
      generalize anyF (condB L B u weak) wanted (j + 1) f = b1 at *
      unfold encT at x1
      generalize L[j] = y at *
      have j0 : (0 : Int) ≤ (j : Int) := by omega
      have j1 : (j : Int) < (L.length : Int) := by omega
      clear hf hf2 hii h0
      by_cases c1 : y.length = B
      · have q1 : ((y.length : Int) == (B : Int)) = true := by simp [c1]
        by_cases c2 : y = u
        · subst c2
          have q2 : (y == y) = true := by simp
          by_cases c3 : ((wk y : Nat) : Int) = weak
          · have q3 : (((wk y : Nat) : Int) == weak) = true := by simp [c3]
            obtain rfl : pj = true := by rw [HP.out]; exact decide_eq_true ⟨c1, rfl, c3⟩
            have V1 := Lib.hid (show lowF (condB L B y weak) j (L.length - j) = (j : Int) by rw [E1.out, if_pos rfl])
            have V2 := Lib.hid (show anyF (condB L B y weak) wanted j (L.length - j) = (b1 || ((j : Int) == wanted)) by rw [E2.out]; simp)
            clear c1 c3 HP E1 E2
            cases b1 with
            | true =>
              go_wp2_with fail
              refine (RS _).out.mono ?_
              rintro e w' ⟨rfl, rfl⟩
              go_wp2_with fail
              go_roundw
              case rel => exact ⟨j, (j : Int) - 1, by omega, Lib.hid rfl, by omega, by omega, by rw [V1.out], by rw [V2.out] <;> rfl, by first | rfl | trivial, by first | rfl | trivial⟩
              case measure => first | (simp [intOf]; done) | (simp [intOf]; omega)
            | false =>
              go_wp2_with fail
              refine (RS _).out.mono ?_
              rintro e w' ⟨rfl, rfl⟩
              go_wp2_with fail
              go_roundw
              case rel => exact ⟨j, (j : Int) - 1, by omega, Lib.hid rfl, by omega, by omega, by rw [V1.out], by rw [V2.out] <;> rfl, by first | rfl | trivial, by first | rfl | trivial⟩
              case measure => first | (simp [intOf]; done) | (simp [intOf]; omega)
          · have q3 : (((wk y : Nat) : Int) == weak) = false := by simpa using c3
            obtain rfl : pj = false := by rw [HP.out]; exact decide_eq_false (fun c => c3 c.2.2)
            have V1 := Lib.hid (show lowF (condB L B y weak) j (L.length - j) = m1 by rw [E1.out]; simp)
            have V2 := Lib.hid (show anyF (condB L B y weak) wanted j (L.length - j) = b1 by rw [E2.out]; simp)
            clear c1 c3 HP E1 E2
            go_wp2_with fail
            refine (RS _).out.mono ?_
            rintro e w' ⟨rfl, rfl⟩
            go_wp2_with fail
            go_roundw
            case rel => exact ⟨j, (j : Int) - 1, by omega, Lib.hid rfl, by omega, by omega, by rw [V1.out], by rw [V2.out] <;> rfl, by first | rfl | trivial, by first | rfl | trivial⟩
            case measure => first | (simp [intOf]; done) | (simp [intOf]; omega)
        · have q2 : (y == u) = false := by simpa using c2
          obtain rfl : pj = false := by rw [HP.out]; exact decide_eq_false (fun c => c2 c.2.1)
          have V1 := Lib.hid (show lowF (condB L B u weak) j (L.length - j) = m1 by rw [E1.out]; simp)
          have V2 := Lib.hid (show anyF (condB L B u weak) wanted j (L.length - j) = b1 by rw [E2.out]; simp)
          clear c1 c2 HP E1 E2
          go_wp2_with fail
          go_roundw
          case rel => exact ⟨j, (j : Int) - 1, by omega, Lib.hid rfl, by omega, by omega, by rw [V1.out], by rw [V2.out] <;> rfl, by first | rfl | trivial, by first | rfl | trivial⟩
          case measure => first | (simp [intOf]; done) | (simp [intOf]; omega)
      · have q1 : ((y.length : Int) == (B : Int)) = false := by simp; omega
        obtain rfl : pj = false := by rw [HP.out]; exact decide_eq_false (fun c => c1 c.1)
        have V1 := Lib.hid (show lowF (condB L B u weak) j (L.length - j) = m1 by rw [E1.out]; simp)
        have V2 := Lib.hid (show anyF (condB L B u weak) wanted j (L.length - j) = b1 by rw [E2.out]; simp)
        clear c1 HP E1 E2
        go_wp2_with fail
        go_roundw
        case rel => exact ⟨j, (j : Int) - 1, by omega, Lib.hid rfl, by omega, by omega, by rw [V1.out], by rw [V2.out] <;> rfl, by first | rfl | trivial, by first | rfl | trivial⟩
        case measure => first | (simp [intOf]; done) | (simp [intOf]; omega)
    · obtain rfl : k = 0 := by omega
      have hn : ¬ (0 : Int) ≤ ii := by have := hii.out; omega
      clear hii hi1 hi2 h0
      rw [Nat.sub_zero]
      have ME := Lib.hid (HSG.out.match_eq HO.out u weak wanted)
      have TE := Lib.hid (HSG.out.tail_eq u)
      generalize lowF (condB L B u weak) 0 L.length = m0 at *
      generalize anyF (condB L B u weak) wanted 0 L.length = b0 at *
      have b0' : (B : Int) ≠ 0 := by omega
      clear RS HCB
      have RM : (l.length : Int) % (B : Int) = ((l.length % B : Nat) : Int) := by omega
      have RL := Nat.mod_le l.length B
      generalize l.length % B = r at *
      obtain ⟨d, hd⟩ : ∃ d, d = l.length - r := ⟨_, rfl⟩
      rw [← hd] at TE
      have SB : (l.length : Int) - (r : Int) = (d : Int) := by omega
      have d1 : (0 : Int) ≤ (d : Int) := by omega
      have d2 : (d : Int) ≤ (l.length : Int) := by omega
      have EX := drop_toArray l d l.length (Nat.le_refl _)
      have MC := fun w' (hb : Below w5.heap.size w5 w') => Lib.hid (tabMatch_any p B l.length pb bm S u ws ms vw' vs' vo ord w3.heap.size N weak wanted w' (HT5.out.on hb) HO.out (by have := HSG.out.lw; have := HSM.out; omega) (by have := HSG.out.lm; have := HSM.out; omega) (by have := HSG.out.lw; omega) (by have := HSG.out.lm; omega) (HI5.out.new hb) (by omega) (by have h := seenS_length L; rw [← HSG.out.hS] at h; omega))
      have TC := fun w' (hb : Below w5.heap.size w5 w') => Lib.hid (tabTail_any p B l.length pb bm S u ws ms vw' vs' vo ord w3.heap.size N w' (HT5.out.on hb) HO.out (by have := HSG.out.lw; have := HSM.out; omega) (by rw [HSG.out.lw, HSG.out.lm]) (by have := HSG.out.lw; omega) (by rw [HSG.out.hN]; exact Nat.div_mul_le_self _ _) (by omega) hb2 (HI5.out.new hb) (by omega) (by have h := seenS_length L; rw [← HSG.out.hS] at h; omega))
      obtain ⟨mz, hmz⟩ : ∃ mz, mz = matchZ (isS S u) ws ms N B ord weak wanted u := ⟨_, rfl⟩
      obtain ⟨tz, htz⟩ : ∃ tz, tz = tailZ (isS S u) ws ms N B l.length u := ⟨_, rfl⟩
      rw [← hmz] at ME MC
      rw [← htz] at TE TC
      have qm : (mz == mz) = true := by simp
      have qt : (tz == tz) = true := by simp
      clear hmz htz hd
      by_cases r0 : r = 0
      · obtain rfl : tz = false := by rw [TE.out, r0]; rfl
        subst r0
        clear TE EX
        cases b0 with
        | true =>
          obtain rfl : mz = wanted := ME.out
          clear ME
          go_wp2_with fail
          refine (MC _ (Below.refl _ _)).out.mono ?_
          rintro e w6 ⟨rfl, hb6⟩
          have TQ := TC _ hb6
          have HB6 := Lib.hid (HB5.out.trans (hb6.mono HB5.out.size)); clear hb6 MC TC HB5
          go_wp2_with fail
          refine TQ.out.mono ?_
          rintro e w7 ⟨rfl, hb7⟩
          have HB7 := Lib.hid (HB6.out.trans (hb7.mono HB6.out.size)); clear hb7 TQ HB6
          go_wp2_with fail
          refine (awake_any _).mono ?_
          rintro e w8 ⟨rfl, hb8⟩
          go_wp2
          go_ret
          exact ⟨rfl, HB7.out.trans (hb8.mono HB7.out.size)⟩
        | false =>
          obtain rfl : mz = m0 := ME.out
          clear ME
          go_wp2_with fail
          refine (MC _ (Below.refl _ _)).out.mono ?_
          rintro e w6 ⟨rfl, hb6⟩
          have TQ := TC _ hb6
          have HB6 := Lib.hid (HB5.out.trans (hb6.mono HB5.out.size)); clear hb6 MC TC HB5
          go_wp2_with fail
          refine TQ.out.mono ?_
          rintro e w7 ⟨rfl, hb7⟩
          have HB7 := Lib.hid (HB6.out.trans (hb7.mono HB6.out.size)); clear hb7 TQ HB6
          go_wp2_with fail
          refine (awake_any _).mono ?_
          rintro e w8 ⟨rfl, hb8⟩
          go_wp2
          go_ret
          exact ⟨rfl, HB7.out.trans (hb8.mono HB7.out.size)⟩
      · have r1 : (0 : Int) < (r : Int) := by omega
        by_cases hq : u = l.drop d
        · have q : (u == l.drop d) = true := by simpa using hq
          obtain rfl : tz = true := by rw [TE.out, decide_eq_true hq, decide_eq_true (show 0 < r by omega)]; rfl
          clear hq TE r0
          cases b0 with
          | true =>
            obtain rfl : mz = wanted := ME.out
            clear ME
            go_wp2_with fail
            refine (MC _ (Below.refl _ _)).out.mono ?_
            rintro e w6 ⟨rfl, hb6⟩
            have TQ := TC _ hb6
            have HB6 := Lib.hid (HB5.out.trans (hb6.mono HB5.out.size)); clear hb6 MC TC HB5
            go_wp2_with fail
            refine TQ.out.mono ?_
            rintro e w7 ⟨rfl, hb7⟩
            have HB7 := Lib.hid (HB6.out.trans (hb7.mono HB6.out.size)); clear hb7 TQ HB6
            go_wp2_with fail
            refine (awake_any _).mono ?_
            rintro e w8 ⟨rfl, hb8⟩
            go_wp2
            go_ret
            exact ⟨rfl, HB7.out.trans (hb8.mono HB7.out.size)⟩
          | false =>
            obtain rfl : mz = m0 := ME.out
            clear ME
            go_wp2_with fail
            refine (MC _ (Below.refl _ _)).out.mono ?_
            rintro e w6 ⟨rfl, hb6⟩
            have TQ := TC _ hb6
            have HB6 := Lib.hid (HB5.out.trans (hb6.mono HB5.out.size)); clear hb6 MC TC HB5
            go_wp2_with fail
            refine TQ.out.mono ?_
            rintro e w7 ⟨rfl, hb7⟩
            have HB7 := Lib.hid (HB6.out.trans (hb7.mono HB6.out.size)); clear hb7 TQ HB6
            go_wp2_with fail
            refine (awake_any _).mono ?_
            rintro e w8 ⟨rfl, hb8⟩
            go_wp2
            go_ret
            exact ⟨rfl, HB7.out.trans (hb8.mono HB7.out.size)⟩
        · have q : (u == l.drop d) = false := by simpa using hq
          obtain rfl : tz = false := by rw [TE.out, decide_eq_false hq]; simp
          clear hq TE r0
          cases b0 with
          | true =>
            obtain rfl : mz = wanted := ME.out
            clear ME
            go_wp2_with fail
            refine (MC _ (Below.refl _ _)).out.mono ?_
            rintro e w6 ⟨rfl, hb6⟩
            have TQ := TC _ hb6
            have HB6 := Lib.hid (HB5.out.trans (hb6.mono HB5.out.size)); clear hb6 MC TC HB5
            go_wp2_with fail
            refine TQ.out.mono ?_
            rintro e w7 ⟨rfl, hb7⟩
            have HB7 := Lib.hid (HB6.out.trans (hb7.mono HB6.out.size)); clear hb7 TQ HB6
            go_wp2_with fail
            refine (awake_any _).mono ?_
            rintro e w8 ⟨rfl, hb8⟩
            go_wp2
            go_ret
            exact ⟨rfl, HB7.out.trans (hb8.mono HB7.out.size)⟩
          | false =>
            obtain rfl : mz = m0 := ME.out
            clear ME
            go_wp2_with fail
            refine (MC _ (Below.refl _ _)).out.mono ?_
            rintro e w6 ⟨rfl, hb6⟩
            have TQ := TC _ hb6
            have HB6 := Lib.hid (HB5.out.trans (hb6.mono HB5.out.size)); clear hb6 MC TC HB5
            go_wp2_with fail
            refine TQ.out.mono ?_
            rintro e w7 ⟨rfl, hb7⟩
            have HB7 := Lib.hid (HB6.out.trans (hb7.mono HB6.out.size)); clear hb7 TQ HB6
            go_wp2_with fail
            refine (awake_any _).mono ?_
            rintro e w8 ⟨rfl, hb8⟩
            go_wp2
            go_ret
            exact ⟨rfl, HB7.out.trans (hb8.mono HB7.out.size)⟩

theorem signMatches_walk (s : Txt) (hs : s.length ≤ 140737488351232) (z : Int) (hz1 : -9223372036854775808 ≤ z) (hz2 : z ≤ 9223372036854775807) (weak : Int) (hk1 : -9223372036854775808 ≤ weak) (hk2 : weak ≤ 9223372036854775807) (t : Txt) (ht : t.length ≤ 140737488351232) (wanted : Int) (hw1 : -9223372036854775808 ≤ wanted) (hw2 : wanted ≤ 9223372036854775807) (w : World) :
    Calls Try.prog 10 #[.string ⟨s.toArray⟩, .int .i64 z, .int .i64 weak, .string ⟨t.toArray⟩, .int .i64 wanted] w fun e w' => e = .returned (.bool true) ∧ Below w.heap.size w w' := by
  by_cases h : z < 16 ∨ 1024 < z
  · exact signMatches_bad s hs z h weak t ht wanted w
  · obtain ⟨B, rfl⟩ : ∃ B : Nat, z = (B : Int) := ⟨z.toNat, by omega⟩
    exact signMatches_good s hs B (by omega) (by omega) weak t ht wanted w
end Go.Proofs.Ytifbdbblfhphjaa

/- The walk of search: the steps for a text by a table. -/
import Derived.Test.YtpkgjokehgihjaaGreatDelX
import Derived.Test.YtpkgjokehgihjaaGreatFrame
import Derived.Test.YtpkgjokehgihjaaGreatGaX
import Derived.Test.YtpkgjokehgihjaaGreatGen
import Derived.Test.YtpkgjokehgihjaaGreatRollX
import Derived.Test.YtpkgjokehgihjaaGreatMarkMath
import Derived.Test.YtpkgjokehgihjaaGreatOwnL
import Derived.Test.YtpkgjokehgihjaaGreatProg
import Derived.Test.YtpkgjokehgihjaaGreatTabX
import Derived.Test.YtpkgjokehgihjaaGreatRollMath
import Derived.Test.YtpkgjokehgihjaaGreatRowKeep
import Derived.Test.YtpkgjokehgihjaaGreatRows
import Derived.Test.YtpkgjokehgihjaaGreatShelf
import Derived.Test.YtpkgjokehgihjaaGreatSigAt
import Derived.Test.YtpkgjokehgihjaaGreatSignMath
import Derived.Test.YtpkgjokehgihjaaGreatWkX
import Derived.BigQuiet
import Derived.BigRegion
import Derived.Deep.CutBlock
import Derived.Deep.DeepCutAuto
import Derived.Deep.LoopGhost
import Derived.Deep.QuietTactic
import Derived.Deep.RegionLaw
import Derived.IntWalk
import Derived.Laws.BitsAllLaws
import Derived.Laws.Rows
import Derived.Laws.Tables
import Derived.Lib.Hide
import Derived.Outline
import Derived.StillTailTactics
import Derived.WalkKit
import Derived.WalkLawsBesides
import Derived.WalkSpells
set_option linter.unusedVariables false
namespace Go.Proofs.YtpkgjokehgihjaaGreat
open Go.RowKit

/-- A table that is asked by a book, from world w on. -/
structure TabI (w : World) (p pb M B : Nat) (mt : Txt → Int → Int) (T : Txt → Bool) : Prop where
  mat : ∀ (w' : World) (t : Txt) (wanted : Int), Below w.heap.size w w' → t.length ≤ 1024 → Calls Tryz.prog 59 #[.pointer (some ⟨p, 0, none⟩), .pointer (some ⟨pb, 0, none⟩), .int .i64 (wk t : Nat), .string ⟨t.toArray⟩, .int .i64 wanted] w' fun e w'' => e = .returned (.int .i64 (mt t wanted)) ∧ Below w'.heap.size w' w''
  tail : ∀ (w' : World) (t : Txt), Below w.heap.size w w' → t.length ≤ 1024 → Calls Tryz.prog 66 #[.pointer (some ⟨p, 0, none⟩), .pointer (some ⟨pb, 0, none⟩), .string ⟨t.toArray⟩] w' fun e w'' => e = .returned (.bool (T t)) ∧ Below w'.heap.size w' w''
  size : ∀ (w' : World), Below w.heap.size w w' → Calls Tryz.prog 65 #[.pointer (some ⟨p, 0, none⟩)] w' fun e w'' => e = .returned (.int .i64 M) ∧ w' = w''
  block : ∀ (w' : World), Below w.heap.size w w' → Calls Tryz.prog 56 #[.pointer (some ⟨p, 0, none⟩)] w' fun e w'' => e = .returned (.int .i64 B) ∧ w' = w''
  b1 : 16 ≤ B
  b2 : B ≤ 1024
  m2 : M ≤ 524288
  top : ∀ t wanted, mt t wanted ≤ 40000

theorem roll_ne {w : World} {base p n k : Nat} {s : Txt} {v : Value} {l : List DSt} (h : RollOn w p s n k) (ho : OwnS w base v l) : ¬ v.ownBlock = some p := by
  intro e
  obtain ⟨_, _, cur, hc⟩ := ho.lt e
  have h' : w.heap[p]? = _ := h
  rw [hc] at h'
  injection h' with h'
  injection h' with _ h2 _
  exact absurd h2 (by decide)
theorem kept_of_p {w w' : World} {base p : Nat} {v : Value} (hk : Kept (· = p) w w') (hp : base ≤ p) (hb : base ≤ w.heap.size) : TurnS base w v w' v → True := fun _ => trivial
theorem turn_of_p {w w' : World} {base p : Nat} (hk : Kept (· = p) w w') (hp : base ≤ p) (hb : base ≤ w.heap.size) : Below base w w' :=
  hk.below hb (fun k e => by have e' : k = p := e; omega)

structure SrchL (w : World) (p : Nat) (s : Txt) (B : Nat) (mt : Txt → Int → Int) (RES : List DSt × Nat × Nat) (l : List DSt) (at' fr : Nat) (wt : Int) (v : Value) (wr : World) : Prop where
  own : OwnS wr w.heap.size v l
  roll : RollOn wr p s B at'
  bel : Below w.heap.size w wr
  pw : w.heap.size ≤ p
  inn : at' + B ≤ s.length
  fr' : fr ≤ at'
  ok : OkL fr l
  w1 : -1 ≤ wt
  w2 : wt ≤ 40001
  res : ∃ f, s.length < at' + f ∧ srchS mt B s f at' fr wt l = RES

set_option maxRecDepth 100000 in
set_option maxHeartbeats 4000000 in
theorem searchD_any (p pb M B : Nat) (mt : Txt → Int → Int) (T : Txt → Bool) (s : Txt) (w : World) (I : TabI w p pb M B mt T) (hs : s.length ≤ 524288) :
    Calls Tryz.prog 41 #[.pointer (some ⟨pb, 0, none⟩), .pointer (some ⟨p, 0, none⟩), .string ⟨s.toArray⟩] w fun e w' => ∃ v, e = .returned v ∧ OwnS w' w.heap.size v (stepsS mt T M B s) ∧ Below w.heap.size w w' := by
  have HI := Lib.hid I
  have hB1 := I.b1
  have hB2 := I.b2
  have hM := I.m2
  clear I
  have SL := Lib.hid (show (⟨s.toArray⟩ : ByteArray).size = s.length from rfl)
  have HST := Lib.hid (show stepsS mt T M B s = restS T M B s (srchS mt B s (s.length + 1) 0 0 0 []).1 (srchS mt B s (s.length + 1) 0 0 0 []).2.1 from rfl)
  obtain ⟨RES, hR⟩ : ∃ R, R = srchS mt B s (s.length + 1) 0 0 0 [] := ⟨_, rfl⟩
  rw [← hR] at HST
  generalize stepsS mt T M B s = OUT at *
  have HRES := Lib.hid hR; clear hR
  have BK := Lib.hid (HI.out.block w (Below.refl _ _))
  by_cases hsh : B ≤ s.length
  · have NW := fun w' => Lib.hid (new_ok s B w' (by omega) hB2 hsh (by omega))
    go_enter Tryz.func41, Tryz.ntmps41
    go_wp2_with fail
    go_step3
    go_wp2_with fail
    refine BK.out.mono ?_
    rintro e w1 ⟨rfl, rfl⟩
    go_wp2_with fail
    refine (NW _).out.mono ?_
    rintro e w2 ⟨pr, rfl, hro, hpr, hb2⟩
    have L0 := Lib.hid (show SrchL w pr s B mt RES [] 0 0 0 (.slice none 0 0) w2 from ⟨OwnS.nil _ _, hro, hb2, hpr, by omega, Nat.le_refl _, OkL.nil _, by decide, by decide, s.length + 1, by omega, HRES.out.symm⟩)
    clear hro hpr hb2 BK NW
    go_wp2_with fail
    go_step3
    go_wp2_with fail
    go_loopg [7, 9, 10] (s.length + 1) (fun g v x y wr => ∃ (l : List DSt) (at' fr : Nat) (wt : Int), g = s.length + 1 - at' ∧ x = .int .i64 wt ∧ y = .int .i64 fr ∧ SrchL w pr s B mt RES l at' fr wt v wr)
    case atStart => exact ⟨[], 0, 0, 0, rfl, rfl, rfl, L0.out⟩
    case round =>
      clear L0
      obtain ⟨l, at', fr, wt, hg, rfl, rfl, hL⟩ := hrel
      have HL := Lib.hid hL; clear hL
      have AT := fun w' hr => Lib.hid (at_any pr B at' (lo (win s B at')) (hi (win s B at')) s w' hr (by omega))
      go_wp2_with fail
      refine (AT _ HL.out.roll).out.mono ?_
      rintro e w' ⟨rfl, rfl⟩
      go_wp2_with fail
      have hin := HL.out.inn
      have hfr := HL.out.fr'
      have WAB : IntKind.i64.wrap ((at' : Int) + (B : Int)) = ((at' + B : Nat) : Int) := by rw [IntKind.wrap_i64]; omega
      have a1 : (0 : Int) ≤ (at' : Int) := by omega
      have a2 : (at' : Int) ≤ ((at' + B : Nat) : Int) := by omega
      have a3 : ((at' + B : Nat) : Int) ≤ (s.length : Int) := by omega
      have HE := Lib.hid (show (⟨s.toArray⟩ : ByteArray).extract at' (at' + B) = ⟨(win s B at').toArray⟩ from slice_toArray s at' (at' + B))
      have hwl := win_length s B at' (by omega)
      have SUM := Lib.hid (fun P : BelowOf wr => sumR_any pr B at' (lo (win s B at')) (hi (win s B at')) s P.w (RollOn.kept HL.out.roll (Kept.new P.h (fun _ => False)) id) (by omega) (lo_lt _) (hi_lt _))
      have MAT := Lib.hid (fun P : BelowOf wr => HI.out.mat P.w (win s B at') wt (HL.out.bel.trans (P.h.mono HL.out.bel.size)) (by omega))
      have HTOP := HI.out.top (win s B at') wt
      have HNO := Lib.hid (fun f hm => srch_no mt B s f at' fr wt l hin hm)
      have HYES := Lib.hid (fun f i hi hm => srch_yes mt B s f at' fr wt i l hin hi hm)
      obtain ⟨ii, hii⟩ : ∃ ii, ii = mt (win s B at') wt := ⟨_, rfl⟩
      rw [← hii] at MAT HTOP HNO HYES
      have HWK := Lib.hid (show lo (win s B at') + 65536 * hi (win s B at') = wk (win s B at') from rfl)
      rw [HWK.out] at SUM
      obtain ⟨x, hx⟩ : ∃ x, x = wk (win s B at') := ⟨_, rfl⟩
      rw [← hx] at SUM MAT
      generalize win s B at' = tw at *
      clear hx HWK hwl AT hii
      refine wp_region_below (by kernel_rfl) (by kernel_rfl) ?_
      repeat (go_big_quiet_step ((first | (go_at_call 60; exact below_calls (SUM.out _)) | (go_at_call 59; (try rw [HE.out]); exact below_calls (MAT.out _)))))
      refine wpQuiet_nil ?_
      rintro w6 ⟨⟨w6b, hb6⟩, hw6⟩
      have hw6b : w6 = w6b := hw6
      clear hw6
      subst hw6b
      have HL6 := Lib.hid (show SrchL w pr s B mt RES l at' fr wt u7 w6 from ⟨HL.out.own.new hb6, HL.out.roll.kept (Kept.new hb6 (fun _ => False)) id, HL.out.bel.trans (hb6.mono HL.out.bel.size), HL.out.pw, HL.out.inn, HL.out.fr', HL.out.ok, HL.out.w1, HL.out.w2, HL.out.res⟩)
      clear HL SUM MAT hb6 HE a1 a2 a3 WAB
      by_cases hneg : ii < 0
      · by_cases hnx : at' + B < s.length
        · have NX := Lib.hid (next_step pr B at' s w6 HL6.out.roll (by omega) hB2 hnx (by omega))
          go_wp2_with fail
          refine NX.out.mono ?_
          rintro e w7 ⟨rfl, hr7, hk7⟩
          have L7 := Lib.hid (show SrchL w pr s B mt RES l (at' + 1) fr wt u7 w7 from ⟨HL6.out.own.kept hk7 (fun g' hg' e => roll_ne HL6.out.roll HL6.out.own (by rw [hg', e])), hr7, HL6.out.bel.trans (turn_of_p hk7 HL6.out.pw HL6.out.bel.size), HL6.out.pw, by omega, by omega, HL6.out.ok, HL6.out.w1, HL6.out.w2, by
            obtain ⟨f, h1, h2⟩ := HL6.out.res
            obtain ⟨f', rfl⟩ : ∃ f', f = f' + 1 := ⟨f - 1, by omega⟩
            exact ⟨f', by omega, by rw [← h2]; exact (HNO.out f' hneg).symm⟩⟩)
          clear hr7 hk7 NX
          go_wp2_with fail
          go_roundg (s.length + 1 - (at' + 1))
          case measure => omega
          case rel => exact ⟨l, at' + 1, fr, wt, rfl, rfl, rfl, L7.out⟩
        · have NX := Lib.hid (next_end pr B at' s w6 HL6.out.roll (by omega) (by omega) (by omega))
          have HRS := Lib.hid (show RES = (l, fr, at' + 1) by
            obtain ⟨f, h1, h2⟩ := HL6.out.res
            obtain ⟨f', rfl⟩ : ∃ f', f = f' + 1 := ⟨f - 1, by omega⟩
            rw [← h2, HNO.out f' hneg, srch_end _ _ _ _ _ _ _ _ (by omega)])
          have hfx : fr ≤ s.length := by omega
          have hok := HL6.out.ok
          go_wp2_with fail
          refine NX.out.mono ?_
          rintro e w7 ⟨rfl, m7, rfl⟩
          have hb7 := Below_drewN (Below.refl w6.heap.size w6) m7
          have HO := Lib.hid (HL6.out.own.new hb7)
          have HBX := Lib.hid (HL6.out.bel.trans (hb7.mono HL6.out.bel.size))
          clear hb7 NX HL6 HNO HYES
          generalize w6.drewN m7 = w7 at *
          go_wp2_with fail
          have SZ := Lib.hid (HI.out.size w7 HBX.out)
          have HOUT := Lib.hid (show OUT = restS T M B s l fr by rw [HST.out, HRS.out])
          clear HST HRS HRES
          obtain ⟨r, hr⟩ : ∃ r, r = M % B := ⟨_, rfl⟩
          have TM : Int.tmod (M : Int) (B : Int) = (r : Int) := by rw [hr]; rfl
          have hrB : r < B := by rw [hr]; exact Nat.mod_lt _ (by omega)
          have hrM : r ≤ M := by rw [hr]; exact Nat.mod_le _ _
          unfold restS at HOUT
          rw [← hr] at HOUT
          clear hr
          have qb0 : ((B : Int) == 0) = false := by simp; omega
          by_cases hc : fr + r ≤ s.length
          · obtain ⟨q, hq⟩ : ∃ q, q = s.length - r := ⟨_, rfl⟩
            have WL : (s.length : Int) - (r : Int) = (q : Int) := by omega
            have qc : (fr : Int) ≤ (q : Int) := by omega
            have q1 : (q : Int) ≤ (s.length : Int) := by omega
            have hqr : s.length - q ≤ 1024 := by omega
            rw [← hq] at HOUT
            have TA := Lib.hid (HI.out.tail w7 (s.drop q) HBX.out (by rw [List.length_drop]; omega))
            have HE := Lib.hid (show (⟨s.toArray⟩ : ByteArray).extract q s.length = ⟨(s.drop q).toArray⟩ from drop_toArray s q s.length (Nat.le_refl _))
            have HE2 := Lib.hid (show (⟨s.toArray⟩ : ByteArray).extract fr q = ⟨(segS s fr q).toArray⟩ from slice_toArray s fr q)
            have HE3 := Lib.hid (show (⟨s.toArray⟩ : ByteArray).extract fr s.length = ⟨(s.drop fr).toArray⟩ from drop_toArray s fr s.length (Nat.le_refl _))
            have hsl := seg_len s fr q (by omega)
            have hdl : (s.drop fr).length = s.length - fr := List.length_drop
            cases hT : T (s.drop q) with
            | true =>
              rw [hT] at TA
              have HOUT2 := Lib.hid (show OUT = takeS (gatherS l (segS s fr q)) ((M - r : Nat) : Int) (r : Int) by rw [HOUT.out, if_pos ⟨hc, hT⟩])
              have GA := fun v' w' ho hb => Lib.hid (gather_any w.heap.size fr v' l (segS s fr q) w' ho hok (by omega) hb)
              have HG := Lib.hid (hok.gather (segS s fr q))
              have TK := fun v' w' ho hb => Lib.hid (take_any w.heap.size (fr + (segS s fr q).length) v' (gatherS l (segS s fr q)) ((M - r : Nat) : Int) (r : Int) w' ho HG.out (by omega) (by omega) (by omega) (by omega) (by omega) hb)
              have WM : (M : Int) - (r : Int) = ((M - r : Nat) : Int) := by omega
              clear HOUT hT hq
              generalize ((M - r : Nat) : Int) = mr at *
              generalize s.drop q = tq at *
              generalize s.drop fr = tf at *
              generalize segS s fr q = sg at *
              go_wp2_with fail
              refine SZ.out.mono ?_
              rintro e w' ⟨rfl, rfl⟩
              go_wp2_with fail
              rw [HE.out]
              refine TA.out.mono ?_
              rintro e w7 ⟨rfl, hb7⟩
              have HO7 := Lib.hid (HO.out.new hb7)
              have HB7 := Lib.hid (HBX.out.trans (hb7.mono HBX.out.size))
              have SZ7 := Lib.hid (HI.out.size w7 HB7.out)
              clear hb7 SZ TA
              go_wp2_with fail
              rw [HE2.out]
              refine (GA _ _ HO7.out HB7.out.size).out.mono ?_
              rintro e w8 ⟨v8, rfl, ho8, tn8⟩
              have HO8 := Lib.hid ho8
              have HB8 := Lib.hid (HB7.out.trans tn8.bel)
              have SZ8 := Lib.hid (HI.out.size w8 HB8.out)
              clear ho8 tn8 GA SZ7
              go_wp2_with fail
              refine SZ8.out.mono ?_
              rintro e w' ⟨rfl, rfl⟩
              go_wp2_with fail
              refine (TK _ _ HO8.out HB8.out.size).out.mono ?_
              rintro e w9 ⟨v9, rfl, ho9, tn9⟩
              have HO9 := Lib.hid ho9
              have HB9 := Lib.hid (HB8.out.trans tn9.bel)
              clear ho9 tn9 TK
              go_wp2_with fail
              try rw [Exit.noGoto_ret]
              go_ret
              exact ⟨_, rfl, by rw [HOUT2.out]; exact HO9.out, HB9.out⟩
            | false =>
              rw [hT] at TA
              have HOUT2 := Lib.hid (show OUT = gatherS l (s.drop fr) by rw [HOUT.out, if_neg (fun c => by rw [hT] at c; exact absurd c.2 (by simp))])
              have GA := fun v' w' ho hb => Lib.hid (gather_any w.heap.size fr v' l (s.drop fr) w' ho hok (by omega) hb)
              clear HOUT hT hq
              generalize s.drop q = tq at *
              generalize s.drop fr = tf at *
              go_wp2_with fail
              refine SZ.out.mono ?_
              rintro e w' ⟨rfl, rfl⟩
              go_wp2_with fail
              rw [HE.out]
              refine TA.out.mono ?_
              rintro e w7 ⟨rfl, hb7⟩
              have HO7 := Lib.hid (HO.out.new hb7)
              have HB7 := Lib.hid (HBX.out.trans (hb7.mono HBX.out.size))
              clear hb7 SZ TA
              go_wp2_with fail
              rw [HE3.out]
              refine (GA _ _ HO7.out HB7.out.size).out.mono ?_
              rintro e w8 ⟨v8, rfl, ho8, tn8⟩
              have HO8 := Lib.hid ho8
              have HB8 := Lib.hid (HB7.out.trans tn8.bel)
              clear ho8 tn8 GA
              go_wp2_with fail
              try rw [Exit.noGoto_ret]
              go_ret
              exact ⟨_, rfl, by rw [HOUT2.out]; exact HO8.out, HB8.out⟩
          · exfalso; omega
      · have hii0 : ¬ (ii < 0) := hneg
        have GA := fun w' ho hb => Lib.hid (gather_any w.heap.size fr u7 l (segS s fr at') w' ho HL6.out.ok (by rw [seg_len s fr at' (by omega)]; omega) hb)
        have HG := Lib.hid (HL6.out.ok.gather (segS s fr at'))
        have hsl := seg_len s fr at' (by omega)
        have hiB : 0 ≤ ii * (B : Int) ∧ ii * (B : Int) ≤ 40960000 := by
          have h1 : 0 ≤ ii := by omega
          obtain ⟨i0, rfl⟩ : ∃ i0 : Nat, ii = (i0 : Int) := ⟨ii.toNat, by omega⟩
          have h2 : i0 * B ≤ 40000 * 1024 := Nat.mul_le_mul (by omega) hB2
          rw [← Int.natCast_mul]
          omega
        have TK := fun v' w' ho hb => Lib.hid (take_any w.heap.size (fr + (segS s fr at').length) v' (gatherS l (segS s fr at')) (ii * (B : Int)) (B : Int) w' ho HG.out (by omega) (by omega) (by omega) (by omega) (by omega) hb)
        have HOK2 := Lib.hid (HG.out.take (m := at' + B) (a := ii * (B : Int)) (k := (B : Int)) hiB.1 (by omega) (by omega) (by omega) (by omega))
        have HE2 := Lib.hid (show (⟨s.toArray⟩ : ByteArray).extract fr at' = ⟨(segS s fr at').toArray⟩ from slice_toArray s fr at')
        have hil : ii ≤ 40000 := HTOP
        have b1 : (0 : Int) ≤ (fr : Int) := by omega
        have b2 : (fr : Int) ≤ (at' : Int) := by omega
        have b3 : (at' : Int) ≤ (s.length : Int) := by omega
        have HRN := Lib.hid (show ∃ f, s.length < (at' + B) + f ∧ srchS mt B s f (at' + B) (at' + B) (ii + 1) (takeS (gatherS l (segS s fr at')) (ii * (B : Int)) (B : Int)) = RES by
          obtain ⟨f, h1, h2⟩ := HL6.out.res
          obtain ⟨f', rfl⟩ : ∃ f', f = f' + 1 := ⟨f - 1, by omega⟩
          exact ⟨f', by omega, by rw [← h2]; exact (HYES.out f' ii rfl hii0).symm⟩)
        obtain ⟨e2, he2⟩ : ∃ e2, e2 = at' + B := ⟨_, rfl⟩
        have WIB : (at' : Int) + (B : Int) = (e2 : Int) := by omega
        rw [← he2] at HOK2 HRN
        have HE9 := Lib.hid he2; clear he2
        generalize takeS (gatherS l (segS s fr at')) (ii * (B : Int)) (B : Int) = l2 at *
        generalize gatherS l (segS s fr at') = l1 at *
        generalize segS s fr at' = sg at *
        clear HYES HNO HTOP hneg hsl
        go_wp2_with fail
        rw [HE2.out]
        refine (GA _ HL6.out.own HL6.out.bel.size).out.mono ?_
        rintro e w7 ⟨v7, rfl, ho7, tn7⟩
        have HO7 := Lib.hid ho7
        have HB7 := Lib.hid (HL6.out.bel.trans tn7.bel)
        have HR7 := Lib.hid (HL6.out.roll.kept tn7.kept (roll_ne HL6.out.roll HL6.out.own))
        have hpw := HL6.out.pw
        clear ho7 tn7 GA HL6
        go_wp2_with fail
        refine (TK _ _ HO7.out HB7.out.size).out.mono ?_
        rintro e w8 ⟨v8, rfl, ho8, tn8⟩
        have HO8 := Lib.hid ho8
        have HB8 := Lib.hid (HB7.out.trans tn8.bel)
        have HR8 := Lib.hid (HR7.out.kept tn8.kept (roll_ne HR7.out HO7.out))
        clear ho8 tn8 TK HR7
        by_cases hsk : at' + B + B ≤ s.length
        · have SK := Lib.hid (skip_ok pr B at' B (B : Int) s w8 HR8.out (by omega) rfl hsk (by omega))
          rw [← HE9.out] at SK
          have HE9b := Lib.hid HE9.out
          go_wp2_with fail
          refine SK.out.mono ?_
          rintro e w9 ⟨rfl, hr9, hk9⟩
          have L9 := Lib.hid (show SrchL w pr s B mt RES l2 e2 e2 (ii + 1) v8 w9 from ⟨HO8.out.kept hk9 (fun g' hg' e => roll_ne HR8.out HO8.out (by rw [hg', e])), hr9, HB8.out.trans (turn_of_p hk9 hpw HB8.out.size), hpw, by have := HE9.out; omega, Nat.le_refl _, HOK2.out, by omega, by omega, HRN.out⟩)
          clear hr9 hk9 SK
          go_wp2_with fail
          go_roundg (s.length + 1 - e2)
          case measure => have := HE9.out; omega
          case rel => exact ⟨l2, e2, e2, ii + 1, rfl, rfl, rfl, L9.out⟩
        · have SK := Lib.hid (skip_far pr B at' (B : Int) s w8 HR8.out (by omega) (by omega) (by omega) (by omega))
          have HRS := Lib.hid (show RES = (l2, e2, e2) by
            obtain ⟨f, h1, h2⟩ := HRN.out
            rw [← h2, srch_end _ _ _ _ _ _ _ _ (by have := HE9.out; omega)])
          have hfx : e2 ≤ s.length := by have := HE9.out; omega
          have hok := HOK2.out
          go_wp2_with fail
          refine SK.out.mono ?_
          rintro e w9 ⟨rfl, m9, rfl⟩
          have hb9 := Below_drewN (Below.refl w8.heap.size w8) m9
          have HO := Lib.hid (HO8.out.new hb9)
          have HBX := Lib.hid (HB8.out.trans (hb9.mono HB8.out.size))
          clear hb9 SK HR8 HRN HO7 HB7 HO8 HB8
          generalize w8.drewN m9 = w9 at *
          go_wp2_with fail
          have SZ := Lib.hid (HI.out.size w9 HBX.out)
          have HOUT := Lib.hid (show OUT = restS T M B s l2 e2 by rw [HST.out, HRS.out])
          clear HST HRS HRES
          obtain ⟨r, hr⟩ : ∃ r, r = M % B := ⟨_, rfl⟩
          have TM : Int.tmod (M : Int) (B : Int) = (r : Int) := by rw [hr]; rfl
          have hrB : r < B := by rw [hr]; exact Nat.mod_lt _ (by omega)
          have hrM : r ≤ M := by rw [hr]; exact Nat.mod_le _ _
          unfold restS at HOUT
          rw [← hr] at HOUT
          clear hr
          have qb0 : ((B : Int) == 0) = false := by simp; omega
          by_cases hc : e2 + r ≤ s.length
          · obtain ⟨q, hq⟩ : ∃ q, q = s.length - r := ⟨_, rfl⟩
            have WL : (s.length : Int) - (r : Int) = (q : Int) := by omega
            have qc : (e2 : Int) ≤ (q : Int) := by omega
            have q1 : (q : Int) ≤ (s.length : Int) := by omega
            have hqr : s.length - q ≤ 1024 := by omega
            rw [← hq] at HOUT
            have TA := Lib.hid (HI.out.tail w9 (s.drop q) HBX.out (by rw [List.length_drop]; omega))
            have HE := Lib.hid (show (⟨s.toArray⟩ : ByteArray).extract q s.length = ⟨(s.drop q).toArray⟩ from drop_toArray s q s.length (Nat.le_refl _))
            have HE2 := Lib.hid (show (⟨s.toArray⟩ : ByteArray).extract e2 q = ⟨(segS s e2 q).toArray⟩ from slice_toArray s e2 q)
            have HE3 := Lib.hid (show (⟨s.toArray⟩ : ByteArray).extract e2 s.length = ⟨(s.drop e2).toArray⟩ from drop_toArray s e2 s.length (Nat.le_refl _))
            have hsl := seg_len s e2 q (by omega)
            have hdl : (s.drop e2).length = s.length - e2 := List.length_drop
            cases hT : T (s.drop q) with
            | true =>
              rw [hT] at TA
              have HOUT2 := Lib.hid (show OUT = takeS (gatherS l2 (segS s e2 q)) ((M - r : Nat) : Int) (r : Int) by rw [HOUT.out, if_pos ⟨hc, hT⟩])
              have GA := fun v' w' ho hb => Lib.hid (gather_any w.heap.size e2 v' l2 (segS s e2 q) w' ho hok (by omega) hb)
              have HG := Lib.hid (hok.gather (segS s e2 q))
              have TK := fun v' w' ho hb => Lib.hid (take_any w.heap.size (e2 + (segS s e2 q).length) v' (gatherS l2 (segS s e2 q)) ((M - r : Nat) : Int) (r : Int) w' ho HG.out (by omega) (by omega) (by omega) (by omega) (by omega) hb)
              have WM : (M : Int) - (r : Int) = ((M - r : Nat) : Int) := by omega
              clear HOUT hT hq
              generalize ((M - r : Nat) : Int) = mr at *
              generalize s.drop q = tq at *
              generalize s.drop e2 = tf at *
              generalize segS s e2 q = sg at *
              go_wp2_with fail
              refine SZ.out.mono ?_
              rintro e w' ⟨rfl, rfl⟩
              go_wp2_with fail
              rw [HE.out]
              refine TA.out.mono ?_
              rintro e w7 ⟨rfl, hb7⟩
              have HO7 := Lib.hid (HO.out.new hb7)
              have HB7 := Lib.hid (HBX.out.trans (hb7.mono HBX.out.size))
              have SZ7 := Lib.hid (HI.out.size w7 HB7.out)
              clear hb7 SZ TA
              go_wp2_with fail
              rw [HE2.out]
              refine (GA _ _ HO7.out HB7.out.size).out.mono ?_
              rintro e w8 ⟨v8, rfl, ho8, tn8⟩
              have HO8 := Lib.hid ho8
              have HB8 := Lib.hid (HB7.out.trans tn8.bel)
              have SZ8 := Lib.hid (HI.out.size w8 HB8.out)
              clear ho8 tn8 GA SZ7
              go_wp2_with fail
              refine SZ8.out.mono ?_
              rintro e w' ⟨rfl, rfl⟩
              go_wp2_with fail
              refine (TK _ _ HO8.out HB8.out.size).out.mono ?_
              rintro e w9 ⟨v9, rfl, ho9, tn9⟩
              have HO9 := Lib.hid ho9
              have HB9 := Lib.hid (HB8.out.trans tn9.bel)
              clear ho9 tn9 TK
              go_wp2_with fail
              try rw [Exit.noGoto_ret]
              go_ret
              exact ⟨_, rfl, by rw [HOUT2.out]; exact HO9.out, HB9.out⟩
            | false =>
              rw [hT] at TA
              have HOUT2 := Lib.hid (show OUT = gatherS l2 (s.drop e2) by rw [HOUT.out, if_neg (fun c => by rw [hT] at c; exact absurd c.2 (by simp))])
              have GA := fun v' w' ho hb => Lib.hid (gather_any w.heap.size e2 v' l2 (s.drop e2) w' ho hok (by omega) hb)
              clear HOUT hT hq
              generalize s.drop q = tq at *
              generalize s.drop e2 = tf at *
              go_wp2_with fail
              refine SZ.out.mono ?_
              rintro e w' ⟨rfl, rfl⟩
              go_wp2_with fail
              rw [HE.out]
              refine TA.out.mono ?_
              rintro e w7 ⟨rfl, hb7⟩
              have HO7 := Lib.hid (HO.out.new hb7)
              have HB7 := Lib.hid (HBX.out.trans (hb7.mono HBX.out.size))
              clear hb7 SZ TA
              go_wp2_with fail
              rw [HE3.out]
              refine (GA _ _ HO7.out HB7.out.size).out.mono ?_
              rintro e w8 ⟨v8, rfl, ho8, tn8⟩
              have HO8 := Lib.hid ho8
              have HB8 := Lib.hid (HB7.out.trans tn8.bel)
              clear ho8 tn8 GA
              go_wp2_with fail
              try rw [Exit.noGoto_ret]
              go_ret
              exact ⟨_, rfl, by rw [HOUT2.out]; exact HO8.out, HB8.out⟩
          · have qc : ¬ (e2 : Int) ≤ (s.length : Int) - (r : Int) := by omega
            have HE3 := Lib.hid (show (⟨s.toArray⟩ : ByteArray).extract e2 s.length = ⟨(s.drop e2).toArray⟩ from drop_toArray s e2 s.length (Nat.le_refl _))
            have hdl : (s.drop e2).length = s.length - e2 := List.length_drop
            have HOUT2 := Lib.hid (show OUT = gatherS l2 (s.drop e2) by rw [HOUT.out, if_neg (fun c => hc c.1)])
            have GA := fun v' w' ho hb => Lib.hid (gather_any w.heap.size e2 v' l2 (s.drop e2) w' ho hok (by omega) hb)
            clear HOUT
            generalize s.drop e2 = tf at *
            go_wp2_with fail
            refine SZ.out.mono ?_
            rintro e w' ⟨rfl, rfl⟩
            go_wp2_with fail
            rw [HE3.out]
            refine (GA _ _ HO.out HBX.out.size).out.mono ?_
            rintro e w8 ⟨v8, rfl, ho8, tn8⟩
            have HO8 := Lib.hid ho8
            have HB8 := Lib.hid (HBX.out.trans tn8.bel)
            clear ho8 tn8 GA
            go_wp2_with fail
            try rw [Exit.noGoto_ret]
            go_ret
            exact ⟨_, rfl, by rw [HOUT2.out]; exact HO8.out, HB8.out⟩
  · have NW := fun w' => Lib.hid (new_short s B w' (by omega) hB2 (by omega))
    have HRS := Lib.hid (show RES = ([], 0, 0) by rw [HRES.out, srch_end _ _ _ _ _ _ _ _ (by omega)])
    have hok := OkL.nil 0
    go_enter Tryz.func41, Tryz.ntmps41
    go_wp2_with fail
    go_step3
    go_wp2_with fail
    refine BK.out.mono ?_
    rintro e w1 ⟨rfl, rfl⟩
    go_wp2_with fail
    refine (NW _).out.mono ?_
    rintro e w2 ⟨rfl, hb2⟩
    have HO := Lib.hid (OwnS.nil w2 w.heap.size)
    have HBX := Lib.hid hb2
    clear hb2 BK NW
    go_wp2_with fail
    go_step3
    go_wp2_with fail
    go_loopg [7, 9, 10] 1 (fun g v x y wr => v = .slice none 0 0 ∧ x = .int .i64 0 ∧ y = .int .i64 0 ∧ wr = w2)
    case atStart => exact ⟨rfl, rfl, rfl, rfl⟩
    case round =>
      obtain ⟨rfl, rfl, rfl, rfl⟩ := hrel
      go_wp2_with fail
      have SZ := Lib.hid (HI.out.size wr HBX.out)
      have HOUT := Lib.hid (show OUT = restS T M B s [] 0 by rw [HST.out, HRS.out])
      clear HST HRS HRES
      obtain ⟨r, hr⟩ : ∃ r, r = M % B := ⟨_, rfl⟩
      have TM : Int.tmod (M : Int) (B : Int) = (r : Int) := by rw [hr]; rfl
      have hrB : r < B := by rw [hr]; exact Nat.mod_lt _ (by omega)
      have hrM : r ≤ M := by rw [hr]; exact Nat.mod_le _ _
      unfold restS at HOUT
      rw [← hr] at HOUT
      clear hr
      have qb0 : ((B : Int) == 0) = false := by simp; omega
      by_cases hc : 0 + r ≤ s.length
      · obtain ⟨q, hq⟩ : ∃ q, q = s.length - r := ⟨_, rfl⟩
        have WL : (s.length : Int) - (r : Int) = (q : Int) := by omega
        have qc : (0 : Int) ≤ (q : Int) := by omega
        have q1 : (q : Int) ≤ (s.length : Int) := by omega
        have hqr : s.length - q ≤ 1024 := by omega
        rw [← hq] at HOUT
        have TA := Lib.hid (HI.out.tail wr (s.drop q) HBX.out (by rw [List.length_drop]; omega))
        have HE := Lib.hid (show (⟨s.toArray⟩ : ByteArray).extract q s.length = ⟨(s.drop q).toArray⟩ from drop_toArray s q s.length (Nat.le_refl _))
        have HE2 := Lib.hid (show (⟨s.toArray⟩ : ByteArray).extract 0 q = ⟨(segS s 0 q).toArray⟩ from slice_toArray s 0 q)
        have HE3 := Lib.hid (show (⟨s.toArray⟩ : ByteArray).extract 0 s.length = ⟨(s.drop 0).toArray⟩ from drop_toArray s 0 s.length (Nat.le_refl _))
        have hsl := seg_len s 0 q (by omega)
        have hdl : (s.drop 0).length = s.length - 0 := List.length_drop
        cases hT : T (s.drop q) with
        | true =>
          rw [hT] at TA
          have HOUT2 := Lib.hid (show OUT = takeS (gatherS [] (segS s 0 q)) ((M - r : Nat) : Int) (r : Int) by rw [HOUT.out, if_pos ⟨hc, hT⟩])
          have GA := fun v' w' ho hb => Lib.hid (gather_any w.heap.size 0 v' [] (segS s 0 q) w' ho hok (by omega) hb)
          have HG := Lib.hid (hok.gather (segS s 0 q))
          have TK := fun v' w' ho hb => Lib.hid (take_any w.heap.size (0 + (segS s 0 q).length) v' (gatherS [] (segS s 0 q)) ((M - r : Nat) : Int) (r : Int) w' ho HG.out (by omega) (by omega) (by omega) (by omega) (by omega) hb)
          have WM : (M : Int) - (r : Int) = ((M - r : Nat) : Int) := by omega
          clear HOUT hT hq
          generalize ((M - r : Nat) : Int) = mr at *
          generalize s.drop q = tq at *
          generalize s.drop 0 = tf at *
          generalize segS s 0 q = sg at *
          go_wp2_with fail
          refine SZ.out.mono ?_
          rintro e w' ⟨rfl, rfl⟩
          go_wp2_with fail
          rw [HE.out]
          refine TA.out.mono ?_
          rintro e w7 ⟨rfl, hb7⟩
          have HO7 := Lib.hid (HO.out.new hb7)
          have HB7 := Lib.hid (HBX.out.trans (hb7.mono HBX.out.size))
          have SZ7 := Lib.hid (HI.out.size w7 HB7.out)
          clear hb7 SZ TA
          go_wp2_with fail
          rw [HE2.out]
          refine (GA _ _ HO7.out HB7.out.size).out.mono ?_
          rintro e w8 ⟨v8, rfl, ho8, tn8⟩
          have HO8 := Lib.hid ho8
          have HB8 := Lib.hid (HB7.out.trans tn8.bel)
          have SZ8 := Lib.hid (HI.out.size w8 HB8.out)
          clear ho8 tn8 GA SZ7
          go_wp2_with fail
          refine SZ8.out.mono ?_
          rintro e w' ⟨rfl, rfl⟩
          go_wp2_with fail
          refine (TK _ _ HO8.out HB8.out.size).out.mono ?_
          rintro e w9 ⟨v9, rfl, ho9, tn9⟩
          have HO9 := Lib.hid ho9
          have HB9 := Lib.hid (HB8.out.trans tn9.bel)
          clear ho9 tn9 TK
          go_wp2_with fail
          try rw [Exit.noGoto_ret]
          go_ret
          exact ⟨_, rfl, by rw [HOUT2.out]; exact HO9.out, HB9.out⟩
        | false =>
          rw [hT] at TA
          have HOUT2 := Lib.hid (show OUT = gatherS [] (s.drop 0) by rw [HOUT.out, if_neg (fun c => by rw [hT] at c; exact absurd c.2 (by simp))])
          have GA := fun v' w' ho hb => Lib.hid (gather_any w.heap.size 0 v' [] (s.drop 0) w' ho hok (by omega) hb)
          clear HOUT hT hq
          generalize s.drop q = tq at *
          generalize s.drop 0 = tf at *
          go_wp2_with fail
          refine SZ.out.mono ?_
          rintro e w' ⟨rfl, rfl⟩
          go_wp2_with fail
          rw [HE.out]
          refine TA.out.mono ?_
          rintro e w7 ⟨rfl, hb7⟩
          have HO7 := Lib.hid (HO.out.new hb7)
          have HB7 := Lib.hid (HBX.out.trans (hb7.mono HBX.out.size))
          clear hb7 SZ TA
          go_wp2_with fail
          rw [HE3.out]
          refine (GA _ _ HO7.out HB7.out.size).out.mono ?_
          rintro e w8 ⟨v8, rfl, ho8, tn8⟩
          have HO8 := Lib.hid ho8
          have HB8 := Lib.hid (HB7.out.trans tn8.bel)
          clear ho8 tn8 GA
          go_wp2_with fail
          try rw [Exit.noGoto_ret]
          go_ret
          exact ⟨_, rfl, by rw [HOUT2.out]; exact HO8.out, HB8.out⟩
      · have qc : ¬ (0 : Int) ≤ (s.length : Int) - (r : Int) := by omega
        have HE3 := Lib.hid (show (⟨s.toArray⟩ : ByteArray).extract 0 s.length = ⟨(s.drop 0).toArray⟩ from drop_toArray s 0 s.length (Nat.le_refl _))
        have hdl : (s.drop 0).length = s.length - 0 := List.length_drop
        have HOUT2 := Lib.hid (show OUT = gatherS [] (s.drop 0) by rw [HOUT.out, if_neg (fun c => hc c.1)])
        have GA := fun v' w' ho hb => Lib.hid (gather_any w.heap.size 0 v' [] (s.drop 0) w' ho hok (by omega) hb)
        clear HOUT
        generalize s.drop 0 = tf at *
        go_wp2_with fail
        refine SZ.out.mono ?_
        rintro e w' ⟨rfl, rfl⟩
        go_wp2_with fail
        rw [HE3.out]
        refine (GA _ _ HO.out HBX.out.size).out.mono ?_
        rintro e w8 ⟨v8, rfl, ho8, tn8⟩
        have HO8 := Lib.hid ho8
        have HB8 := Lib.hid (HBX.out.trans tn8.bel)
        clear ho8 tn8 GA
        go_wp2_with fail
        try rw [Exit.noGoto_ret]
        go_ret
        exact ⟨_, rfl, by rw [HOUT2.out]; exact HO8.out, HB8.out⟩
end Go.Proofs.YtpkgjokehgihjaaGreat

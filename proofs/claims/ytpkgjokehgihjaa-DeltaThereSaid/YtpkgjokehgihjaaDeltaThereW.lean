/- The walk of the law DeltaThere. -/
import Derived.Test.YtpkgjokehgihjaaAgX
import Derived.Test.YtpkgjokehgihjaaTabX
import Derived.Test.YtpkgjokehgihjaaBldShelf
import Derived.Test.YtpkgjokehgihjaaBookW
import Derived.Test.YtpkgjokehgihjaaRbX
import Derived.Test.YtpkgjokehgihjaaMkX
import Derived.Test.YtpkgjokehgihjaaDbX
import Derived.Test.YtpkgjokehgihjaaDelX
import Derived.Test.YtpkgjokehgihjaaRdX
import Derived.Test.YtpkgjokehgihjaaRfX
import Derived.Test.YtpkgjokehgihjaaFrame
import Derived.Test.YtpkgjokehgihjaaGen
import Derived.Test.YtpkgjokehgihjaaPtX
import Derived.Test.YtpkgjokehgihjaaMarkMath
import Derived.Test.YtpkgjokehgihjaaRollX
import Derived.Test.YtpkgjokehgihjaaOdX
import Derived.Test.YtpkgjokehgihjaaOwnL
import Derived.Test.YtpkgjokehgihjaaProg
import Derived.Test.YtpkgjokehgihjaaCdX
import Derived.Test.YtpkgjokehgihjaaRightDW
import Derived.Test.YtpkgjokehgihjaaRowKeep
import Derived.Test.YtpkgjokehgihjaaRows
import Derived.Test.YtpkgjokehgihjaaSeX
import Derived.Test.YtpkgjokehgihjaaShelf
import Derived.Test.YtpkgjokehgihjaaSigAt
import Derived.Test.YtpkgjokehgihjaaSignMath
import Derived.Test.YtpkgjokehgihjaaSortX
import Derived.Test.YtpkgjokehgihjaaSortEW
import Derived.Test.YtpkgjokehgihjaaStepW
import Derived.BigQuiet
import Derived.BigRegion
import Derived.Deep.AppendLies
import Derived.Deep.CutBlock
import Derived.Deep.DeepCutAuto
import Derived.Deep.LoopGhost
import Derived.Deep.QuietTactic
import Derived.Deep.RegionHeld3
import Derived.Deep.RegionLaw
import Derived.IntWalk
import Derived.Laws.BitsAllLaws
import Derived.Laws.Externs
import Derived.Laws.MakeOwn
import Derived.Laws.Rows
import Derived.Laws.Tables
import Derived.Lib.AppendStr
import Derived.Lib.Builder
import Derived.Lib.Hide
import Derived.Lib.SmallJoins
import Derived.Lib.Strings
import Derived.Lib.Walk
import Derived.Outline
import Derived.Sort.Walk0
import Derived.StillTailTactics
import Derived.WalkKit
import Derived.WalkLawsBesides
import Derived.WalkSpells
set_option linter.unusedVariables false
namespace Go.Proofs.Ytpkgjokehgihjaa
open Go.RowKit

theorem readD_err (S : Txt) (h : (readD S).e ≠ 0) : readD S = dlZ (readD S).e := by
  unfold readD at h ⊢
  unfold tailR at h ⊢
  split
  · rfl
  · rename_i h1
    rw [if_neg h1] at h
    split
    · rfl
    · rename_i h2
      rw [if_neg h2] at h
      split
      · rename_i h3; rw [if_pos h3] at h; exact absurd rfl h
      · rfl
/-- There and back from a delta. -/
theorem there1 (N : Nat → Prop) (bm mm : Txt) (n : Int) (v : Value) (l : List DSt) (hok : ∀ x ∈ l, StOk x) (hl : l.length ≤ 200) (h1 : bm.length ≤ 140737488351232) (h2 : mm.length ≤ 140737488351232) (hn1 : -9223372036854775808 ≤ n) (hn2 : n ≤ 9223372036854775807) :
    ∃ (rs : Txt) (re : Int), (∀ w, RowS N w v l → Calls Try.prog 13 #[delW bm mm n v] w fun e w' => e = .returned (.tuple #[.string ⟨rs.toArray⟩, .int .i64 re]) ∧ Below w.heap.size w w') ∧
      rs.length ≤ 1000000 ∧ ((re != 0) = true ∨ ((re != 0) = false ∧ readD rs = ⟨0, bm, mm, n, l⟩)) := by
  cases hr : rightD bm mm n l with
  | true =>
    obtain ⟨M, hM⟩ := rightD_is hr
    refine ⟨bytesD bm mm M l, 0, fun w h => ?_, ?_, .inr ⟨rfl, readD_bytes hM⟩⟩
    · have hn := hM.n
      subst hn
      exact bytesD_ok N bm mm v l M w h hok hM (by omega)
    · have a1 := headB_len bm mm M l.length hM.b hM.m
      have a2 := body_len l hM.st
      unfold bytesD
      rw [List.length_append]; omega
  | false => exact ⟨[], 1, fun w h => bytesD_no N bm mm n v l w h hok (by omega) h1 h2 hn1 hn2 hr, by simp, .inl rfl⟩
/-- There and back from bytes. -/
theorem there2 (N : Nat → Prop) (S : Txt) (hS : S.length ≤ 20000) (v : Value) :
    ∃ (b : Txt) (je : Int), (∀ w, RowS N w v (readD S).l → Calls Try.prog 13 #[delW (readD S).bm (readD S).mm (readD S).n v] w fun e w' => e = .returned (.tuple #[.string ⟨b.toArray⟩, .int .i64 je]) ∧ Below w.heap.size w w') ∧
      ((((readD S).e != 0) = true) ∨ ((((readD S).e != 0) = false) ∧ (je == 0) = true ∧ (b == S) = true)) := by
  by_cases he : (readD S).e = 0
  · obtain ⟨M, hM, hB⟩ := readD_back S he
    refine ⟨S, 0, fun w h => ?_, .inr ⟨by simp [he], rfl, by simp⟩⟩
    have hn := hM.n
    have hlen : (readD S).l.length ≤ 20000 := by
      have h1 : ∀ m : List DSt, m.length ≤ (bodyB m).length := by
        intro m
        induction m with
        | nil => simp
        | cons x m ih =>
          have := stB_pos x
          unfold bodyB at *
          rw [List.map_cons, List.flatten_cons, List.length_append, List.length_cons]; omega
      have h2 := h1 (readD S).l
      have h3 := congrArg List.length hB
      unfold bytesD at h3
      rw [List.length_append] at h3
      omega
    have := bytesD_ok N (readD S).bm (readD S).mm v (readD S).l M w h (fun x hx => st_ok (hM.st x hx)) (by rw [hn] at hM; exact hM) hlen
    rw [hB, ← hn] at this
    exact this
  · rw [readD_err S he]
    refine ⟨[], 1, fun w h => ?_, .inl (by simp [dlZ, he])⟩
    exact bytesD_no N [] [] 0 v [] w h (by simp) (by simp) (by simp) (by simp) (by decide) (by decide) (by decide)

set_option maxRecDepth 100000 in
set_option maxHeartbeats 4000000 in
theorem deltaThere_walk (v : Value) (s0 : Txt) (hs0 : s0.length ≤ 140737488351232) (w : World) (hv : DIn w v) :
    Calls Try.prog 4 #[v, .string ⟨s0.toArray⟩] w fun e w' => e = .returned (.bool true) ∧ Below w.heap.size w w' := by
  obtain ⟨bm, mm, n, c, xs, hd⟩ := hv
  obtain rfl := hd.val
  obtain ⟨a, k, rfl, hk⟩ := hd.st.cap
  have CT := fun w' => Lib.hid (cutD_any s0 6000 w' (by decide) hs0)
  have hs : (s0.take 6000).length ≤ 6000 := List.length_take_le _ _
  generalize s0.take 6000 = s at *
  have hok : ∀ x ∈ xs.take 200, StOk x := fun x hx => hd.st.ok x (List.mem_of_mem_take hx)
  have hlen : (xs.take 200).length ≤ 200 := List.length_take_le _ _
  have hrow := RowS.takeD hd.st.row 200
  have FW := Lib.hid (fun w' => fewD_any bm mm n a xs.length k w' hk (fun h => by
    obtain ⟨g, o, c, hv, _⟩ := hd.st.row.at h
    injection hv with e _ _
    exact ⟨g, o, e⟩))
  have hb1 := hd.b1
  have hb2 := hd.b2
  have hbn := hd.bn
  generalize hmn : min xs.length 200 = mn at *
  obtain ⟨rs, re, B1, hrs, C1⟩ := there1 (· < w.heap.size) bm mm n (.slice a mn k) (xs.take 200) hok (by omega) hb1 hb2 hbn.1 hbn.2
  have BY1 := Lib.hid (fun w' (hb : Below w.heap.size w w') => B1 w' (hrow.keep hb))
  have RF := fun w' => Lib.hid (readD_any rs w' (by omega))
  have RH := fun w' => Lib.hid (readD_any s w' (by omega))
  have TH := Lib.hid (fun vv N => there2 N s (by omega) vv)
  have SM := Lib.hid (fun vv N w' (hb : Below w.heap.size w w') (h1 : RowS N w' vv (xs.take 200)) => sameD_any N (· < w.heap.size) bm mm n vv (.slice a mn k) (xs.take 200) w' h1 (hrow.keep hb) (by omega))
  generalize readD rs = rf at *
  generalize readD s = rh at *
  obtain ⟨fe, fb, fm, fn, fl⟩ := rf
  obtain ⟨ie, ib, im, iN, il⟩ := rh
  dsimp only at RF RH TH C1
  generalize xs.take 200 = ys at *
  clear B1
  have hb0 := below_self_alloc w (delO bm mm n (.slice a xs.length k))
  have HB0 := Lib.hid hb0
  have HG0 := Lib.hid (heap_alloc_new w (delO bm mm n (.slice a xs.length k)))
  obtain ⟨d0, d1, d2, d3⟩ := delO_cells HG0.out
  clear hd hb0 hrow hok hlen hmn hbn
  go_enter Try.func4, Try.ntmps4
  go_wp2_with fail
  generalize w.alloc (.cells #[.string ⟨bm.toArray⟩, .string ⟨mm.toArray⟩, .int .i64 n, .slice a xs.length k] 24) = w0 at *
  refine (FW.out _).mono ?_
  rintro e w1 ⟨rfl, hb1'⟩
  have HG1 := Lib.hid ((hb1'.block _ (Array.getElem?_eq_some_iff.1 HG0.out).1).trans HG0.out)
  have HB1 := Lib.hid (HB0.out.trans (hb1'.mono HB0.out.size))
  obtain ⟨⟨S0, S0f⟩, ⟨S1, S1f⟩, ⟨S2, S2f⟩, ⟨S3, S3f⟩, s4', s5'⟩ := four_store HG1.out (.string ⟨bm.toArray⟩) (.string ⟨mm.toArray⟩) (.int .i64 n) (.slice a mn k)
  obtain ⟨z0, z1, z2, z3⟩ := delO_cells s4'
  have HB2 := Lib.hid (HB1.out.trans (s5'.below HB1.out.size (fun k e => by omega)))
  have HFIN := Lib.hid (And.intro z0 (And.intro z1 (And.intro z2 z3)))
  clear s4' s5' hb1' d0 d1 d2 d3 z0 z1 z2 z3
  go_upto_region 2 with fail
  generalize (((w1.setCell ⟨w.heap.size, 0, none⟩ (.string ⟨bm.toArray⟩)).setCell ⟨w.heap.size, 1, none⟩ (.string ⟨mm.toArray⟩)).setCell ⟨w.heap.size, 2, none⟩ (.int .i64 n)).setCell ⟨w.heap.size, 3, none⟩ (.slice a mn k) = w2 at *
  clear S0 S0f S1 S1f S2 S2f S3 S3f
  obtain ⟨z0, z1, z2, z3⟩ := HFIN.out
  have A1 := Lib.hid (BY1.out w2 HB2.out)
  go_wp2_with fail
  refine (CT _).out.mono ?_
  rintro e w' ⟨rfl, rfl⟩
  go_wp2_with fail
  refine A1.out.mono ?_
  rintro e w3 ⟨rfl, hb3⟩
  have y0 := (hb3.cell (World.block_lt_of_cell? _ _ z0)).trans z0
  have y1 := (hb3.cell (World.block_lt_of_cell? _ _ z1)).trans z1
  have y2 := (hb3.cell (World.block_lt_of_cell? _ _ z2)).trans z2
  have y3 := (hb3.cell (World.block_lt_of_cell? _ _ z3)).trans z3
  have HB3 := Lib.hid (HB2.out.trans (hb3.mono HB2.out.size))
  clear z0 z1 z2 z3 hb3 A1 HFIN BY1 CT
  go_wp2_with fail
  refine (RF _).out.mono ?_
  rintro e w4 ⟨vf, rfl, hof, hb4⟩
  have u0 := (hb4.cell (World.block_lt_of_cell? _ _ y0)).trans y0
  have u1 := (hb4.cell (World.block_lt_of_cell? _ _ y1)).trans y1
  have u2 := (hb4.cell (World.block_lt_of_cell? _ _ y2)).trans y2
  have u3 := (hb4.cell (World.block_lt_of_cell? _ _ y3)).trans y3
  have HB4 := HB3.out.trans (hb4.mono HB3.out.size)
  obtain ⟨af, mf, cf, rfl⟩ := own_slice hof
  have hb5 := below_self_alloc w4 (delO fb fm fn (.slice af mf cf))
  have HOF := Lib.hid (hof.row.keep hb5)
  have HB5 := Lib.hid (HB4.trans (hb5.mono HB4.size))
  have v0 := (hb5.cell (World.block_lt_of_cell? _ _ u0)).trans u0
  have v1 := (hb5.cell (World.block_lt_of_cell? _ _ u1)).trans u1
  have v2 := (hb5.cell (World.block_lt_of_cell? _ _ u2)).trans u2
  have v3 := (hb5.cell (World.block_lt_of_cell? _ _ u3)).trans u3
  obtain ⟨p0, p1, p2, p3⟩ := delO_cells (heap_alloc_new w4 (delO fb fm fn (.slice af mf cf)))
  clear y0 y1 y2 y3 u0 u1 u2 u3 hb4 hb5 hof HB4
  go_wp2_with fail
  generalize w4.alloc (.cells #[.string ⟨fb.toArray⟩, .string ⟨fm.toArray⟩, .int .i64 fn, .slice af mf cf] 24) = w5 at *
  refine (RH _).out.mono ?_
  rintro e w6 ⟨vh, rfl, hoh, hb6⟩
  obtain ⟨b, je, BH, C2⟩ := TH.out vh (w5.heap.size ≤ ·)
  obtain ⟨ah, mh, ch, rfl⟩ := own_slice hoh
  have hb7 := below_self_alloc w6 (delO ib im iN (.slice ah mh ch))
  have B67 := hb6.trans (hb7.mono hb6.size)
  have HBY := Lib.hid (BH _ (hoh.row.keep hb7))
  have HB7 := Lib.hid (HB5.out.trans (B67.mono HB5.out.size))
  have u0 := (B67.cell (World.block_lt_of_cell? _ _ v0)).trans v0
  have u1 := (B67.cell (World.block_lt_of_cell? _ _ v1)).trans v1
  have u2 := (B67.cell (World.block_lt_of_cell? _ _ v2)).trans v2
  have u3 := (B67.cell (World.block_lt_of_cell? _ _ v3)).trans v3
  have q0 := (B67.cell (World.block_lt_of_cell? _ _ p0)).trans p0
  have q1 := (B67.cell (World.block_lt_of_cell? _ _ p1)).trans p1
  have q2 := (B67.cell (World.block_lt_of_cell? _ _ p2)).trans p2
  have q3 := (B67.cell (World.block_lt_of_cell? _ _ p3)).trans p3
  have HOF7 := Lib.hid (HOF.out.keep B67)
  obtain ⟨r0, r1, r2, r3⟩ := delO_cells (heap_alloc_new w6 (delO ib im iN (.slice ah mh ch)))
  clear v0 v1 v2 v3 p0 p1 p2 p3 B67 hb6 hb7 hoh TH BH HOF RF RH
  go_wp2_with fail
  generalize w6.alloc (.cells #[.string ⟨ib.toArray⟩, .string ⟨im.toArray⟩, .int .i64 iN, .slice ah mh ch] 24) = w7 at *
  refine HBY.out.mono ?_
  rintro e w8 ⟨rfl, hb8⟩
  have v0 := (hb8.cell (World.block_lt_of_cell? _ _ u0)).trans u0
  have v1 := (hb8.cell (World.block_lt_of_cell? _ _ u1)).trans u1
  have v2 := (hb8.cell (World.block_lt_of_cell? _ _ u2)).trans u2
  have v3 := (hb8.cell (World.block_lt_of_cell? _ _ u3)).trans u3
  have p0 := (hb8.cell (World.block_lt_of_cell? _ _ q0)).trans q0
  have p1 := (hb8.cell (World.block_lt_of_cell? _ _ q1)).trans q1
  have p2 := (hb8.cell (World.block_lt_of_cell? _ _ q2)).trans q2
  have p3 := (hb8.cell (World.block_lt_of_cell? _ _ q3)).trans q3
  have HOF8 := Lib.hid (HOF7.out.keep hb8)
  have HB8 := Lib.hid (HB7.out.trans (hb8.mono HB7.out.size))
  have HC1 := Lib.hid C1
  have HC2 := Lib.hid C2
  clear u0 u1 u2 u3 q0 q1 q2 q3 r0 r1 r2 r3 hb8 HBY HOF7 C1 C2
  rcases HC1.out with c1 | ⟨c1, c2⟩
  · rcases HC2.out with d1 | ⟨d1, d2, d3⟩
    · go_wp2_with fail
      refine (awake_any _).mono ?_
      rintro e w9 ⟨rfl, hb9⟩
      go_wp2_with fail
      go_ret
      exact ⟨rfl, HB8.out.trans (hb9.mono HB8.out.size)⟩
    · go_wp2_with fail
      refine (awake_any _).mono ?_
      rintro e w9 ⟨rfl, hb9⟩
      go_wp2_with fail
      go_ret
      exact ⟨rfl, HB8.out.trans (hb9.mono HB8.out.size)⟩
  · simp only [DlR.mk.injEq] at c2
    obtain ⟨rfl, rfl, rfl, rfl, rfl⟩ := c2
    have S8 := Lib.hid (SM.out _ _ w8 HB8.out HOF8.out)
    rcases HC2.out with d1 | ⟨d1, d2, d3⟩
    · go_wp2_with fail
      refine S8.out.mono ?_
      rintro e w9 ⟨rfl, hb9⟩
      go_wp2_with fail
      refine (awake_any _).mono ?_
      rintro e w10 ⟨rfl, hb10⟩
      go_wp2_with fail
      go_ret
      exact ⟨rfl, HB8.out.trans ((hb9.trans (hb10.mono hb9.size)).mono HB8.out.size)⟩
    · go_wp2_with fail
      refine S8.out.mono ?_
      rintro e w9 ⟨rfl, hb9⟩
      go_wp2_with fail
      refine (awake_any _).mono ?_
      rintro e w10 ⟨rfl, hb10⟩
      go_wp2_with fail
      go_ret
      exact ⟨rfl, HB8.out.trans ((hb9.trans (hb10.mono hb9.size)).mono HB8.out.size)⟩
end Go.Proofs.Ytpkgjokehgihjaa

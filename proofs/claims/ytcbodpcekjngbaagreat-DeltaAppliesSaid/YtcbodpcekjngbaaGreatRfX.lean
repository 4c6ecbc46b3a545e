/- Several texts in one: RefRunW, RefRightDW, RefApplyW, FewDW. -/
import Derived.Test.YtcbodpcekjngbaaGreatBldShelf
import Derived.Test.YtcbodpcekjngbaaGreatDelX
import Derived.Test.YtcbodpcekjngbaaGreatFrame
import Derived.Test.YtcbodpcekjngbaaGreatGen
import Derived.Test.YtcbodpcekjngbaaGreatMarkMath
import Derived.Test.YtcbodpcekjngbaaGreatOwnL
import Derived.Test.YtcbodpcekjngbaaGreatProg
import Derived.Test.YtcbodpcekjngbaaGreatRightDW
import Derived.Test.YtcbodpcekjngbaaGreatRowKeep
import Derived.Test.YtcbodpcekjngbaaGreatRows
import Derived.Test.YtcbodpcekjngbaaGreatRnX
import Derived.Test.YtcbodpcekjngbaaGreatSignMath
import Derived.Test.YtcbodpcekjngbaaGreatStepW
import Derived.BigQuiet
import Derived.Deep.QuietTactic
import Derived.IntWalk
import Derived.Laws.Externs
import Derived.Laws.Rows
import Derived.Laws.Tables
import Derived.Lib.AppendStr
import Derived.Lib.Builder
import Derived.Lib.Hide
import Derived.Lib.Strings
import Derived.Lib.Walk
import Derived.Outline
import Derived.WalkKit
import Derived.WalkLawsBesides
import Derived.WalkSpells
import Derived.Test.YtcbodpcekjngbaaGreatRollMath
import Derived.Test.YtcbodpcekjngbaaGreatArgs3
import Derived.Test.YtcbodpcekjngbaaGreatTabX
import Derived.Test.YtcbodpcekjngbaaGreatBookW
import Derived.Test.YtcbodpcekjngbaaGreatRshX
import Derived.Test.YtcbodpcekjngbaaGreatShaX
import Derived.Test.YtcbodpcekjngbaaGreatOps3
import Derived.Test.YtcbodpcekjngbaaGreatRealBookW
import Derived.Test.YtcbodpcekjngbaaGreatBkX
import Derived.Test.YtcbodpcekjngbaaGreatRefX
import Derived.Test.YtcbodpcekjngbaaGreatShelf
import Derived.Test.YtcbodpcekjngbaaGreatSigAt
import Derived.Test.YtcbodpcekjngbaaGreatSortX
import Derived.Test.YtcbodpcekjngbaaGreatSortEW
import Derived.BigRegion
import Derived.Deep.CutBlock
import Derived.Deep.DeepCutAuto
import Derived.Deep.LoopGhost
import Derived.Deep.RegionHeld3
import Derived.Deep.RegionLaw
import Derived.Laws.BitsAllLaws
import Derived.Laws.CopyRow
import Derived.Laws.IdiomCopy
import Derived.Laws.MakeOwn
import Derived.Lib.SliceRun
import Derived.Sort.Walk0
import Derived.StillTail
import Derived.StillTailTactics
import Derived.OpenShut
import Derived.ProofKit
import Derived.ShutString
import Derived.SizedLaws
import Derived.SliceStrings
/- The walks of the document's step, Run. -/
set_option linter.unusedVariables false
namespace Go.Proofs.YtcbodpcekjngbaaGreat
open Go.RowKit

set_option maxRecDepth 100000 in
set_option maxHeartbeats 1000000 in
theorem refStep_any (x : DSt) (w : World) (h : StOk x) :
    Calls Tryz.prog 77 #[stV x] w fun e w' => e = .returned (.bool (stS x)) ∧ Below w.heap.size w w' := by
  obtain ⟨p, n, t⟩ := x
  have hp1 := h.p1
  have hp2 := h.p2
  have hn1 := h.l1
  have hn2 := h.l2
  have ht := h.t
  dsimp only at hp1 hp2 hn1 hn2 ht
  have B0 := Lib.hid (below_self_alloc w (stO ⟨p, n, t⟩))
  obtain ⟨c0, c1, c2⟩ := stO_at w ⟨p, n, t⟩
  dsimp only at c0 c1 c2
  rw [Nat.zero_add] at c1 c2
  have TL := Lib.hid (show (⟨t.toArray⟩ : ByteArray).size = t.length from rfl)
  have HR := Lib.hid (show stS ⟨p, n, t⟩ = if t ≠ [] then decide (t.length ≤ 4096 ∧ p = 0 ∧ n = 0) else decide (0 < n ∧ n ≤ 524288 ∧ 0 ≤ p ∧ p ≤ 524288 - n) from rfl)
  generalize stS ⟨p, n, t⟩ = res at *
  clear h
  by_cases h0 : 0 < t.length
  · have hne : t.isEmpty = false := by cases t <;> simp_all
    have HR2 := Lib.hid (show res = decide (t.length ≤ 4096 ∧ p = 0 ∧ n = 0) by rw [HR.out, if_pos (by rintro rfl; simp at h0)])
    clear HR
    by_cases h2 : p = 0
    · have q1 : (p == 0) = true := by simp [h2]
      by_cases h3 : n = 0
      · have q2 : (n == 0) = true := by simp [h3]
        by_cases h1 : t.length ≤ 4096
        · have i1 : (t.length : Int) ≤ 4096 := by omega
          have HRR := Lib.hid (show res = true by rw [HR2.out]; exact decide_eq_true ⟨h1, h2, h3⟩)
          clear h2 h3 HR2
          go_enter Tryz.func77, Tryz.ntmps77
          go_wp2
          go_ret
          exact ⟨by rw [HRR.out]; rfl, B0.out⟩
        · have i1 : ¬ (t.length : Int) ≤ 4096 := by omega
          have HRR := Lib.hid (show res = false by rw [HR2.out]; exact decide_eq_false (fun c => h1 c.1))
          clear h2 h3 HR2 h1
          go_enter Tryz.func77, Tryz.ntmps77
          go_wp2
          go_ret
          exact ⟨by rw [HRR.out]; rfl, B0.out⟩
      · have q2 : (n == 0) = false := by simp [h3]
        have HRR := Lib.hid (show res = false by rw [HR2.out]; exact decide_eq_false (fun c => h3 c.2.2))
        clear h2 h3 HR2
        go_enter Tryz.func77, Tryz.ntmps77
        go_wp2
        go_ret
        exact ⟨by rw [HRR.out]; rfl, B0.out⟩
    · have q1 : (p == 0) = false := by simp [h2]
      have HRR := Lib.hid (show res = false by rw [HR2.out]; exact decide_eq_false (fun c => h2 c.2.1))
      clear h2 HR2
      go_enter Tryz.func77, Tryz.ntmps77
      go_wp2
      go_ret
      exact ⟨by rw [HRR.out]; rfl, B0.out⟩
  · obtain rfl : t = [] := List.eq_nil_of_length_eq_zero (by omega)
    have HR2 := Lib.hid (show res = decide (0 < n ∧ n ≤ 524288 ∧ 0 ≤ p ∧ p ≤ 524288 - n) by rw [HR.out, if_neg (by simp)])
    clear HR
    by_cases h1 : 0 < n
    · by_cases h2 : n ≤ 524288
      · by_cases h3 : 0 ≤ p
        · by_cases h4 : p ≤ 524288 - n
          · have HRR := Lib.hid (show res = true by rw [HR2.out]; exact decide_eq_true ⟨h1, h2, h3, h4⟩)
            clear HR2
            go_enter Tryz.func77, Tryz.ntmps77
            go_wp2
            go_ret
            exact ⟨by rw [HRR.out]; rfl, B0.out⟩
          · have HRR := Lib.hid (show res = false by rw [HR2.out]; exact decide_eq_false (fun c => h4 c.2.2.2))
            clear HR2
            go_enter Tryz.func77, Tryz.ntmps77
            go_wp2
            go_ret
            exact ⟨by rw [HRR.out]; rfl, B0.out⟩
        · have HRR := Lib.hid (show res = false by rw [HR2.out]; exact decide_eq_false (fun c => h3 c.2.2.1))
          clear HR2
          go_enter Tryz.func77, Tryz.ntmps77
          go_wp2
          go_ret
          exact ⟨by rw [HRR.out]; rfl, B0.out⟩
      · have HRR := Lib.hid (show res = false by rw [HR2.out]; exact decide_eq_false (fun c => h2 c.2.1))
        clear HR2
        go_enter Tryz.func77, Tryz.ntmps77
        go_wp2
        go_ret
        exact ⟨by rw [HRR.out]; rfl, B0.out⟩
    · have HRR := Lib.hid (show res = false by rw [HR2.out]; exact decide_eq_false (fun c => h1 c.1))
      clear HR2
      go_enter Tryz.func77, Tryz.ntmps77
      go_wp2
      go_ret
      exact ⟨by rw [HRR.out]; rfl, B0.out⟩

theorem cat_bytes (a b : Txt) : (⟨a.toArray⟩ : ByteArray) ++ ⟨b.toArray⟩ = ⟨(a ++ b).toArray⟩ := by
  apply ByteArray.ext
  simp
/-- Of a step that may be, text and copy stand in either order. -/
theorem piece_swap {basis : Txt} {x : DSt} (h : stS x = true) : pieceS basis x = (basis.drop x.pos.toNat).take x.len.toNat ++ x.txt := by
  unfold pieceS
  unfold stS at h
  split at h
  · have := of_decide_eq_true h
    rw [this.2.2]; simp
  · rename_i c; simp at c; rw [c]; simp

set_option maxRecDepth 100000 in
set_option maxHeartbeats 2000000 in
theorem refRun_any (N : Nat → Prop) (basis : Txt) (v : Value) (l : List DSt) (w : World) (h : RowS N w v l) (hok : ∀ x ∈ l, StOk x) (hl : l.length ≤ 1000000) (hb : basis.length ≤ 1000000) :
    Calls Tryz.prog 44 #[.string ⟨basis.toArray⟩, v] w (RunDPost w (runG basis l [])) := by
  obtain ⟨a, c, rfl, hc⟩ := h
  have HC := Lib.hid hc; clear hc
  have HK := Lib.hid hok; clear hok
  have SL := Lib.hid (show (⟨basis.toArray⟩ : ByteArray).size = basis.length from rfl)
  obtain ⟨RES, hR⟩ : ∃ R, R = runG basis l [] := ⟨_, rfl⟩
  rw [← hR]
  have HR := Lib.hid hR; clear hR
  go_enter Tryz.func44, Tryz.ntmps44
  go_wp2
  go_loopw [6, 7] (fun u i wr => ∃ (k : Nat) (out : Txt), k ≤ l.length ∧ i = .int .i64 k ∧ u = .string ⟨out.toArray⟩ ∧ out.length ≤ 524288 ∧ Hid (runG basis (l.drop k) out = RES) ∧ Below w.heap.size w wr) (fun _ i _ => l.length - (intOf i).toNat)
  case atStart => exact ⟨0, [], by omega, rfl, rfl, by simp, Lib.hid (by rw [List.drop_zero]; exact HR.out.symm), Below.refl _ _⟩
  case round =>
    obtain ⟨k, out, hk, rfl, rfl, hout, hres, hbel⟩ := hrel
    have HB := Lib.hid hbel; clear hbel
    have OL := Lib.hid (show (⟨out.toArray⟩ : ByteArray).size = out.length from rfl)
    by_cases hlt : k < l.length
    · obtain ⟨g, o, rfl, _, hst⟩ := HC.out k hlt
      have hst' := hst.new HB.out
      have HKX := HK.out l[k] (List.getElem_mem hlt)
      have HRES := Lib.hid (show (if stS l[k] = true ∧ l[k].pos + l[k].len ≤ basis.length then (if (out.length : Int) + mkS l[k] ≤ 524288 then runG basis (l.drop (k + 1)) (out ++ pieceS basis l[k]) else (4, [])) else (2, [])) = RES by rw [← run_cons, ← drop_cons l k hlt]; exact hres.out)
      have IS := fun w' => Lib.hid (refStep_any l[k] w' HKX)
      have hp1 := HKX.p1
      have hp2 := HKX.p2
      have hl1 := HKX.l1
      have hl2 := HKX.l2
      have htl := HKX.t
      have hbm := fun (hs : stS l[k] = true) => mk_bound (x := l[k]) hs
      have hpl := Lib.hid (fun (hs : stS l[k] = true) (h2 : l[k].pos + l[k].len ≤ (basis.length : Int)) => piece_len (basis := basis) (x := l[k]) hs h2)
      have hsw := Lib.hid (fun (hs : stS l[k] = true) => piece_swap (basis := basis) (x := l[k]) hs)
      clear hst HKX hres
      generalize l[k] = x at *
      obtain ⟨p, m, t⟩ := x
      dsimp only at hp1 hp2 hl1 hl2 htl HRES hpl hsw
      obtain ⟨e0, e1, e2⟩ := hst'
      dsimp only at e0 e1 e2
      have i1 : (k : Int) < (l.length : Int) := by omega
      have i0 : (0 : Int) ≤ (k : Int) := by omega
      have hbb := below_self_alloc wr (stO ⟨p, m, t⟩)
      have HB2 := Lib.hid (HB.out.trans (hbb.mono HB.out.size))
      obtain ⟨f0, f1, f2⟩ := stO_at wr ⟨p, m, t⟩
      dsimp only at f0 f1 f2
      rw [Nat.zero_add] at f1 f2
      clear hbb
      cases hs : stS ⟨p, m, t⟩ with
      | false =>
        rw [hs] at IS
        have HRR := Lib.hid (show RES = (2, []) by rw [← HRES.out, if_neg (fun c => by rw [hs] at c; exact absurd c.1 (by simp))])
        clear hbm HRES hpl hsw
        go_wp2_with fail
        refine (IS _).out.mono ?_
        rintro e w2 ⟨rfl, hb2⟩
        have HB3 := Lib.hid (HB2.out.trans (hb2.mono HB2.out.size))
        clear hb2
        go_wp2_with fail
        go_ret2
        exact ⟨by rw [HRR.out]; rfl, HB3.out⟩
      | true =>
        rw [hs] at IS
        have hb3 := hbm hs
        have HST := Lib.hid (show stS ⟨p, m, t⟩ = true from hs)
        have hbd : 0 ≤ p ∧ 0 ≤ m ∧ m ≤ 524288 ∧ p ≤ 524288 ∧ t.length ≤ 4096 := by
          unfold stS at hs; dsimp only at hs
          split at hs
          · have := of_decide_eq_true hs; omega
          · rename_i c; have := of_decide_eq_true hs; simp at c; rw [c]; simp; omega
        clear hs hbm
        go_wp2_with fail
        generalize hw1 : wr.alloc (.cells #[.int .i64 p, .int .i64 m, .string ⟨t.toArray⟩] 54) = w1 at *
        clear hw1
        refine (IS _).out.mono ?_
        rintro e w2 ⟨rfl, hb2⟩
        have E0 := (hb2.cell (World.block_lt_of_cell? w1 _ f0)).trans f0
        have E1 := (hb2.cell (World.block_lt_of_cell? w1 _ f1)).trans f1
        have E2 := (hb2.cell (World.block_lt_of_cell? w1 _ f2)).trans f2
        have HB3 := Lib.hid (HB2.out.trans (hb2.mono HB2.out.size))
        clear hb2 f0 f1 f2 e0 e1 e2 IS
        by_cases hin : p + m ≤ basis.length
        · have j1 : ¬ (basis.length : Int) < p + m := by omega
          have HRES2 := Lib.hid (show (if (out.length : Int) + mkS ⟨p, m, t⟩ ≤ 524288 then runG basis (l.drop (k + 1)) (out ++ pieceS basis ⟨p, m, t⟩) else (4, [])) = RES by
            have e := HRES.out
            rw [if_pos (show stS ⟨p, m, t⟩ = true ∧ p + m ≤ (basis.length : Int) from ⟨HST.out, hin⟩)] at e
            exact e)
          have HPL := Lib.hid (hpl.out HST.out hin)
          have HSW := Lib.hid (hsw.out HST.out)
          obtain ⟨pn, hpn⟩ : ∃ pn : Nat, p = (pn : Int) := ⟨p.toNat, by omega⟩
          obtain ⟨mn, hmn⟩ : ∃ mn : Nat, m = (mn : Int) := ⟨m.toNat, by omega⟩
          subst hpn; subst hmn
          obtain ⟨en, hen⟩ : ∃ en, en = pn + mn := ⟨_, rfl⟩
          have WPM : IntKind.i64.wrap ((pn : Int) + (mn : Int)) = (en : Int) := by rw [IntKind.wrap_i64]; omega
          have WPM2 : (pn : Int) + (mn : Int) = (en : Int) := by omega
          have k1 : (pn : Int) ≤ (en : Int) := by omega
          have k2 : (en : Int) ≤ (basis.length : Int) := by omega
          have HSL := Lib.hid (show (⟨basis.toArray⟩ : ByteArray).extract pn en = ⟨((basis.drop pn).take mn).toArray⟩ by rw [slice_toArray, List.drop_take, hen]; congr 3; omega)
          rw [show (pn : Int).toNat = pn from rfl, show (mn : Int).toNat = mn from rfl] at HSW
          rw [HSW.out] at HRES2 HPL
          have hll := HPL.out
          rw [List.length_append] at hll
          obtain ⟨y, hy⟩ : ∃ y, y = mkS ⟨pn, mn, t⟩ := ⟨_, rfl⟩
          rw [← hy] at HRES2 hll hb3
          clear hy HRES hpl hsw hen hin HPL HSW
          generalize (basis.drop pn).take mn = sl at *
          go_wp2_with fail
          go_quiet (fail)
          have hbq := Below_drewN (Below.refl w2.heap.size w2) nq
          have HBQ := Lib.hid (HB3.out.trans (hbq.mono HB3.out.size))
          rw [HSL.out]
          have HCAT := Lib.hid (show (⟨out.toArray⟩ : ByteArray) ++ ⟨sl.toArray⟩ ++ ⟨t.toArray⟩ = ⟨(out ++ (sl ++ t)).toArray⟩ by rw [cat_bytes, cat_bytes, List.append_assoc])
          rw [HCAT.out]
          have OL2 := Lib.hid (show (⟨(out ++ (sl ++ t)).toArray⟩ : ByteArray).size = (out ++ (sl ++ t)).length from rfl)
          have HL2 := Lib.hid (show (out ++ (sl ++ t)).length = out.length + (sl.length + t.length) by simp)
          generalize out ++ (sl ++ t) = out2 at *
          clear hbq E0 E1 E2 HCAT
          generalize w2.drewN nq = w3 at *
          by_cases hlong : out2.length ≤ 524288
          · have q2 : ¬ (524288 : Int) < (out2.length : Int) := by omega
            have HR3 := Lib.hid (show runG basis (l.drop (k + 1)) out2 = RES by rw [← HRES2.out, if_pos (by have := HL2.out; omega)])
            go_wp2_with fail
            go_roundw
            case rel => exact ⟨k + 1, out2, by omega, by go_num, rfl, hlong, HR3, HBQ.out⟩
            case measure => simp [intOf]; omega
          · have q2 : (524288 : Int) < (out2.length : Int) := by omega
            have HRR := Lib.hid (show RES = (4, []) by rw [← HRES2.out, if_neg (by have := HL2.out; omega)])
            go_wp2_with fail
            go_ret2
            exact ⟨by rw [HRR.out]; rfl, HBQ.out⟩
        · have j1 : (basis.length : Int) < p + m := by omega
          have HRR := Lib.hid (show RES = (2, []) by rw [← HRES.out, if_neg (fun c => hin c.2)])
          clear HRES hpl hsw
          go_wp2_with fail
          go_ret2
          exact ⟨by rw [HRR.out]; rfl, HB3.out⟩
    · obtain rfl : k = l.length := by omega
      have i1 : ¬ (l.length : Int) < (l.length : Int) := by omega
      have HRR := Lib.hid (show RES = (0, out) by rw [← hres.out, List.drop_length]; rfl)
      go_wp2_with fail
      go_ret2
      exact ⟨by rw [HRR.out]; rfl, HB.out⟩
end Go.Proofs.YtcbodpcekjngbaaGreat
/- The walk of the document's Right of deltas. -/
set_option linter.unusedVariables false
namespace Go.Proofs.YtcbodpcekjngbaaGreat
open Go.RowKit

theorem sumK_mono (l : List DSt) (k : Nat) (hk : k ≤ l.length) (h : ∀ x ∈ l, stS x = true) : sumK (l.take k) ≤ sumK l := by
  have h1 : sumK l = sumK (l.take k) + sumK (l.drop k) := by unfold sumK; rw [← List.sum_append, ← List.map_append, List.take_append_drop]
  have h2 : 0 ≤ sumK (l.drop k) := by
    have h3 : ∀ m : List DSt, (∀ x ∈ m, stS x = true) → 0 ≤ sumK m := by
      intro m
      induction m with
      | nil => intro _; unfold sumK; simp
      | cons x m ih =>
        intro hm
        have := ih (fun y hy => hm y (by simp [hy]))
        have := mk_bound (hm x (by simp))
        unfold sumK at *
        rw [List.map_cons, List.sum_cons]; omega
    exact h3 _ (fun x hx => h x (List.mem_of_mem_drop hx))
  omega
set_option maxRecDepth 100000 in
set_option maxHeartbeats 2000000 in
theorem refRightD_any (N : Nat → Prop) (bm mm : Txt) (n : Int) (v : Value) (l : List DSt) (w : World) (h : RowS N w v l) (hok : ∀ x ∈ l, StOk x) (hl : l.length ≤ 1000000) (h1 : bm.length ≤ 140737488351232) (h2 : mm.length ≤ 140737488351232) (hn1 : -9223372036854775808 ≤ n) (hn2 : n ≤ 9223372036854775807) :
    Calls Tryz.prog 42 #[delW bm mm n v] w fun e w' => e = .returned (.bool (rightD bm mm n l)) ∧ Below w.heap.size w w' := by
  obtain ⟨a, c, rfl, hc⟩ := h
  have HC := Lib.hid hc; clear hc
  have HK := Lib.hid hok; clear hok
  have B0 := Lib.hid (below_self_alloc w (delO bm mm n (.slice a l.length c)))
  obtain ⟨d0, d1, d2, d3⟩ := delO_cells (heap_alloc_new w (delO bm mm n (.slice a l.length c)))
  have T1 := Lib.hid (show (⟨bm.toArray⟩ : ByteArray).size = bm.length from rfl)
  have T2 := Lib.hid (show (⟨mm.toArray⟩ : ByteArray).size = mm.length from rfl)
  have HR := Lib.hid (rightD_eq bm mm n l)
  generalize rightD bm mm n l = res at *
  by_cases c1 : bm.length = 32
  · have q1 : ((bm.length : Int) != 32) = false := by simp [c1]
    by_cases c2 : mm.length = 32
    · have q2 : ((mm.length : Int) != 32) = false := by simp [c2]
      by_cases c3 : 0 ≤ n
      · have q3 : ¬ n < 0 := by omega
        by_cases c4 : n ≤ 524288
        · have q4 : ¬ 524288 < n := by omega
          have HR2 := Lib.hid (show res = (l.all stS && decide (sumK l = n)) by rw [HR.out, decide_eq_true c1, decide_eq_true c2, decide_eq_true ⟨c3, c4⟩]; rfl)
          clear HR c1 c2
          go_enter Tryz.func42, Tryz.ntmps42
          go_wp2
          generalize w.alloc (.cells #[.string ⟨bm.toArray⟩, .string ⟨mm.toArray⟩, .int .i64 n, .slice a l.length c] 41) = w0 at *
          have D2 := Lib.hid d2
          have D3 := Lib.hid d3
          clear d0 d1 d2 d3 q1 q2
          have HC0 := Lib.hid (show ∀ i (h : i < l.length), ∃ g o, a = some ⟨g, o, none⟩ ∧ DStAt w0 g (o + i * 3) l[i] from fun i hi => by
            obtain ⟨g, o, e, _, hx⟩ := HC.out i hi
            exact ⟨g, o, e, hx.new B0.out⟩)
          clear HC
          go_loopw [3, 4] (fun m i wr => ∃ k : Nat, k ≤ l.length ∧ i = .int .i64 k ∧ m = .int .i64 (sumK (l.take k)) ∧ (∀ x ∈ l.take k, stS x = true) ∧ Below w0.heap.size w0 wr) (fun _ i _ => l.length - (intOf i).toNat)
          case atStart => exact ⟨0, by omega, rfl, rfl, by simp, Below.refl _ _⟩
          case round =>
            obtain ⟨k, hk, rfl, rfl, hall, hbel⟩ := hrel
            have HB := Lib.hid hbel; clear hbel
            have hsb := sumK_bound l k hk hall
            have d2 := (HB.out.cell (World.block_lt_of_cell? w0 _ D2.out)).trans D2.out
            have d3 := (HB.out.cell (World.block_lt_of_cell? w0 _ D3.out)).trans D3.out
            by_cases hlt : k < l.length
            · obtain ⟨g, o, rfl, hst⟩ := HC0.out k hlt
              have HS := Lib.hid (sumK_succ l k hlt)
              have HKX := HK.out l[k] (List.getElem_mem hlt)
              have HTK := Lib.hid (show l.take (k + 1) = l.take k ++ [l[k]] by rw [List.take_add_one, List.getElem?_eq_getElem hlt]; rfl)
              have HMEM := Lib.hid (List.getElem_mem hlt)
              have hst' := hst.new HB.out
              have IS := fun w' => Lib.hid (refStep_any l[k] w' HKX)
              have HALL := Lib.hid hall; clear hall hst HKX
              generalize l[k] = x at *
              have hbm := fun hs => mk_bound (x := x) hs
              have hmk : mkS x = (x.txt.length : Int) + x.len := rfl
              have hxs := fun (hs : stS x = true) => (show x.txt.length ≤ 4096 ∧ 0 ≤ x.len ∧ x.len ≤ 524288 by
                unfold stS at hs
                split at hs
                · have := of_decide_eq_true hs; omega
                · rename_i c; have := of_decide_eq_true hs; simp at c; rw [c]; simp; omega)
              obtain ⟨p, m, t⟩ := x
              obtain ⟨e0, e1, e2⟩ := hst'
              dsimp only at e0 e1 e2 hmk hxs
              have i1 : (k : Int) < (l.length : Int) := by omega
              have i0 : (0 : Int) ≤ (k : Int) := by omega
              obtain ⟨q, hq⟩ : ∃ q, q = sumK (l.take k) := ⟨_, rfl⟩
              obtain ⟨q2, hq2⟩ : ∃ q2, q2 = sumK (l.take (k + 1)) := ⟨_, rfl⟩
              rw [← hq, ← hq2] at HS
              rw [← hq] at hsb ⊢
              have HQ2 := Lib.hid hq2
              have HQ := Lib.hid hq
              clear hq hq2
              cases hs : stS ⟨p, m, t⟩ with
              | true =>
                rw [hs] at IS
                have hb3 := hbm hs
                have hx3 := hxs hs
                have HMK := Lib.hid hmk
                have HHS := Lib.hid hs
                have TL := Lib.hid (show (⟨t.toArray⟩ : ByteArray).size = t.length from rfl)
                clear hbm hs hmk hxs
                by_cases hgt : n < q
                · have HRR := Lib.hid (show res = false by
                    rw [HR2.out]
                    by_cases c : l.all stS = true
                    · have := sumK_mono l k hk (fun x hx => List.all_eq_true.1 c x hx)
                      rw [← HQ.out] at this
                      rw [c, decide_eq_false (by omega)]; rfl
                    · rw [Bool.not_eq_true] at c; rw [c]; rfl)
                  go_wp2_with fail
                  refine (IS _).out.mono ?_
                  rintro e w2 ⟨rfl, hb2⟩
                  have E2 := (hb2.cell (World.block_lt_of_cell? wr _ d2)).trans d2
                  have HB3 := Lib.hid (HB.out.trans (hb2.mono HB.out.size))
                  clear hb2
                  go_wp2_with fail
                  go_ret
                  exact ⟨by rw [HRR.out]; rfl, B0.out.trans (HB3.out.mono B0.out.size)⟩
                · have hgt' : ¬ n < q := hgt
                  go_wp2_with fail
                  refine (IS _).out.mono ?_
                  rintro e w2 ⟨rfl, hb2⟩
                  have E2 := (hb2.cell (World.block_lt_of_cell? wr _ d2)).trans d2
                  have E3 := (hb2.cell (World.block_lt_of_cell? wr _ d3)).trans d3
                  have g1 := (hb2.cell (World.block_lt_of_cell? wr _ e1)).trans e1
                  have g2 := (hb2.cell (World.block_lt_of_cell? wr _ e2)).trans e2
                  have HB3 := Lib.hid (HB.out.trans (hb2.mono HB.out.size))
                  clear hb2 d2 d3 e0 e1 e2
                  have W1 : IntKind.i64.wrap (q + m) = q + m := by rw [IntKind.wrap_i64]; omega
                  have W2 : IntKind.i64.wrap (q + m + (t.length : Int)) = q2 := by rw [IntKind.wrap_i64, HS.out, HMK.out]; omega
                  go_wp2_with fail
                  go_quiet (fail)
                  have HBQ := Lib.hid (HB3.out.trans ((Below_drewN (Below.refl w2.heap.size w2) nq).mono HB3.out.size))
                  generalize w2.drewN nq = w3 at *
                  have W3 : q + m + (t.length : Int) = q2 := by rw [HS.out, HMK.out]; omega
                  try rw [W3]
                  clear E2 E3 g1 g2 W1 W2 W3
                  go_wp2_with fail
                  go_roundw
                  case rel => exact ⟨k + 1, by omega, by go_num, by rw [← HQ2.out], by rw [HTK.out]; intro x hx; rcases List.mem_append.1 hx with hx | hx; (exact HALL.out x hx); (simp at hx; subst hx; exact HHS.out), HBQ.out⟩
                  case measure => simp [intOf]; omega
              | false =>
                rw [hs] at IS
                have HRR := Lib.hid (show res = false by
                  rw [HR2.out]
                  have : l.all stS = false := List.all_eq_false.2 ⟨_, HMEM.out, by rw [hs]; simp⟩
                  rw [this]; rfl)
                clear hs hbm hmk hxs
                go_wp2_with fail
                refine (IS _).out.mono ?_
                rintro e w2 ⟨rfl, hb2⟩
                have HB3 := Lib.hid (HB.out.trans (hb2.mono HB.out.size))
                clear hb2
                go_wp2_with fail
                go_ret
                exact ⟨by rw [HRR.out]; rfl, B0.out.trans (HB3.out.mono B0.out.size)⟩
            · obtain rfl : k = l.length := by omega
              have i1 : ¬ (l.length : Int) < (l.length : Int) := by omega
              rw [List.take_length] at hall ⊢
              have hst : l.all stS = true := List.all_eq_true.2 hall
              have HRR := Lib.hid (show res = (sumK l == n) by rw [HR2.out, hst, Bool.true_and]; by_cases c : sumK l = n <;> simp [c])
              clear hall hst hsb
              generalize sumK l = q at *
              go_wp2_with fail
              go_ret
              exact ⟨by rw [HRR.out]; rfl, B0.out.trans (HB.out.mono B0.out.size)⟩
        · have q4 : 524288 < n := by omega
          have HRR := Lib.hid (show res = false by rw [HR.out, decide_eq_false (p := 0 ≤ n ∧ n ≤ 524288) (fun c => c4 c.2)]; simp)
          clear HR c1 c2
          go_enter Tryz.func42, Tryz.ntmps42
          go_wp2
          go_ret
          exact ⟨by rw [HRR.out]; rfl, B0.out⟩
      · have q3 : n < 0 := by omega
        have HRR := Lib.hid (show res = false by rw [HR.out, decide_eq_false (p := 0 ≤ n ∧ n ≤ 524288) (fun c => c3 c.1)]; simp)
        clear HR c1 c2
        go_enter Tryz.func42, Tryz.ntmps42
        go_wp2
        go_ret
        exact ⟨by rw [HRR.out]; rfl, B0.out⟩
    · have q2 : ((mm.length : Int) != 32) = true := by simp; omega
      have HRR := Lib.hid (show res = false by rw [HR.out, decide_eq_false c2]; simp)
      clear HR c1 c2
      go_enter Tryz.func42, Tryz.ntmps42
      go_wp2
      go_ret
      exact ⟨by rw [HRR.out]; rfl, B0.out⟩
  · have q1 : ((bm.length : Int) != 32) = true := by simp; omega
    have HRR := Lib.hid (show res = false by rw [HR.out, decide_eq_false c1]; simp)
    clear HR c1
    go_enter Tryz.func42, Tryz.ntmps42
    go_wp2
    go_ret
    exact ⟨by rw [HRR.out]; rfl, B0.out⟩
end Go.Proofs.YtcbodpcekjngbaaGreat
/- The walk of the document's Apply, by a real book. -/
set_option linter.unusedVariables false
namespace Go.Proofs.YtcbodpcekjngbaaGreat
open Go.RowKit

set_option maxRecDepth 100000 in
set_option maxHeartbeats 2000000 in
theorem refApply_any (q : Nat) (N : Nat → Prop) (basis bm mm : Txt) (n : Int) (v : Value) (l : List DSt) (w : World) (h : RowS N w v l) (hok : ∀ x ∈ l, StOk x) (hl : l.length ≤ 1000000) (h1 : bm.length ≤ 140737488351232) (h2 : mm.length ≤ 140737488351232) (hb1 : -9223372036854775808 ≤ n) (hb2 : n ≤ 9223372036854775807)
    (hAt : RefRealAt w q) (hbl : basis.length ≤ 1000000) :
    Calls Tryz.prog 18 #[.pointer (some ⟨q, 0, none⟩), .string ⟨basis.toArray⟩, delW bm mm n v] w fun e w' => e = .returned (.tuple #[.string ⟨(applyS isRl basis bm mm n l).2.toArray⟩, .int .i64 (applyS isRl basis bm mm n l).1]) ∧ Below w.heap.size w w' := by
  have hd0 := below_self_alloc w (delO bm mm n v)
  obtain ⟨a, c, hv⟩ := h.slice
  obtain ⟨d0, d1, d2, d3⟩ := delO_cells (heap_alloc_new w (delO bm mm n v))
  have R0 := Lib.hid (h.keep hd0)
  have HA0 := Lib.hid (RefRealAt.new hAt hd0)
  have B0 := Lib.hid hd0
  have RT := Lib.hid (refRightD_any N bm mm n v l _ R0.out hok hl h1 h2 hb1 hb2)
  have RN := Lib.hid (fun w' (hr : RowS N w' v l) => refRun_any N basis v l w' hr hok hl hbl)
  have HS := Lib.hid (show applyS isRl basis bm mm n l = if rightD bm mm n l = false then (1, []) else if isRl basis bm = false then (13, []) else if (runG basis l []).1 ≠ 0 then ((runG basis l []).1, []) else if isRl (runG basis l []).2 mm = true then (0, (runG basis l []).2) else (6, []) from rfl)
  have hrl := run_len (basis := basis) l [] (by simp)
  generalize applyS isRl basis bm mm n l = res at *
  clear h hAt hok hd0
  subst hv
  generalize hw0 : w.alloc (.cells #[.string ⟨bm.toArray⟩, .string ⟨mm.toArray⟩, .int .i64 n, .slice a l.length c] 41) = w0 at *
  cases hr : rightD bm mm n l with
  | false =>
    rw [hr] at RT
    have HR := Lib.hid (show res = (1, []) by rw [HS.out, hr]; rfl)
    clear HS hr
    go_enter Tryz.func18, Tryz.ntmps18
    go_wp2_with fail
    refine RT.out.mono ?_
    rintro e w2 ⟨rfl, hb2'⟩
    have B2 := Lib.hid (B0.out.trans (hb2'.mono B0.out.size))
    clear hb2'
    go_wp2_with fail
    go_ret2
    exact ⟨by rw [HR.out]; rfl, B2.out⟩
  | true =>
    rw [hr] at RT
    have HS2 := Lib.hid (show res = if isRl basis bm = false then (13, []) else if (runG basis l []).1 ≠ 0 then ((runG basis l []).1, []) else if isRl (runG basis l []).2 mm = true then (0, (runG basis l []).2) else (6, []) by rw [HS.out, hr]; rfl)
    clear HS hr
    obtain ⟨mb, hmb⟩ : ∃ mb, mb = realM basis := ⟨_, rfl⟩
    have MK := Lib.hid (fun w' (hA : RefRealAt w' q) => refMark_real w' q basis hA hbl)
    rw [← hmb] at MK
    have HIB := Lib.hid (show isRl basis bm = decide (mb = bm) by rw [hmb]; rfl)
    clear hmb
    by_cases hi : mb = bm
    · have qi : (mb != bm) = false := by simp [hi]
      have qi' : (mb == bm) = true := by simp [hi]
      have HS3 := Lib.hid (show res = if (runG basis l []).1 ≠ 0 then ((runG basis l []).1, []) else if isRl (runG basis l []).2 mm = true then (0, (runG basis l []).2) else (6, []) by rw [HS2.out, HIB.out, decide_eq_true hi]; rfl)
      clear HS2 HIB hi
      obtain ⟨rr, hrr⟩ : ∃ rr : Int × Txt, rr = runG basis l [] := ⟨_, rfl⟩
      rw [← hrr] at HS3 hrl RN
      clear hrr
      obtain ⟨re, rt⟩ := rr
      dsimp only at HS3 hrl
      go_enter Tryz.func18, Tryz.ntmps18
      go_wp2_with fail
      refine RT.out.mono ?_
      rintro e w2 ⟨rfl, hb2'⟩
      have B2 := Lib.hid (B0.out.trans (hb2'.mono B0.out.size))
      have E0 := (hb2'.cell (World.block_lt_of_cell? w0 _ d0)).trans d0
      have E1 := (hb2'.cell (World.block_lt_of_cell? w0 _ d1)).trans d1
      have E3 := (hb2'.cell (World.block_lt_of_cell? w0 _ d3)).trans d3
      have HA2 := Lib.hid (RefRealAt.new HA0.out hb2')
      have R2 := Lib.hid (R0.out.keep hb2')
      have MP := Lib.hid (fun P : BelowOf w2 => MK.out P.w (RefRealAt.new HA2.out P.h))
      clear hb2' d0 d1 d2 d3 R0 HA0 B0
      go_wp2_with fail
      have C0 := below_cell E0
      refine wp_region_below (by kernel_rfl) (by kernel_rfl) ?_
      repeat (go_big_quiet_step ((go_at_call 43; exact below_calls (MP.out _))))
      refine wpQuiet_nil ?_
      rintro w3 ⟨⟨w3b, hb3⟩, hw3⟩
      have hw3b : w3 = w3b := hw3
      clear hw3
      subst hw3b
      have B3 := Lib.hid (B2.out.trans (hb3.mono B2.out.size))
      have F1 := (hb3.cell (World.block_lt_of_cell? w2 _ E1)).trans E1
      have F3 := (hb3.cell (World.block_lt_of_cell? w2 _ E3)).trans E3
      have HA3 := Lib.hid (RefRealAt.new HA2.out hb3)
      have RR := Lib.hid (RN.out w3 (R2.out.keep hb3))
      clear hb3 E0 E1 E3 R2 RN HA2 C0 MP
      go_wp2_with fail
      refine RR.out.mono ?_
      rintro e w4 ⟨rfl, hb4⟩
      have B4 := Lib.hid (B3.out.trans (hb4.mono B3.out.size))
      have G1 := (hb4.cell (World.block_lt_of_cell? w3 _ F1)).trans F1
      have HA4 := Lib.hid (RefRealAt.new HA3.out hb4)
      clear hb4 F1 F3 RR HA3
      by_cases hz : re = 0
      · have q0 : (re != 0) = false := by simp [hz]
        obtain ⟨mt, hmt⟩ : ∃ mt, mt = realM rt := ⟨_, rfl⟩
        have MP := Lib.hid (fun P : BelowOf w4 => refMark_real P.w q rt (RefRealAt.new HA4.out P.h) (by omega))
        rw [← hmt] at MP
        have HS4 := Lib.hid (show res = if decide (mt = mm) = true then (0, rt) else (6, []) by rw [HS3.out, if_neg (fun c => c hz), hmt]; rfl)
        clear HS3 hz hmt
        by_cases hm : mt = mm
        · have qm : (mt != mm) = false := by simp [hm]
          have qm' : (mt == mm) = true := by simp [hm]
          have HR := Lib.hid (show res = (0, rt) by rw [HS4.out, decide_eq_true hm]; rfl)
          clear HS4 hm
          go_wp2_with fail
          have C1 := below_cell G1
          refine wp_region_below (by kernel_rfl) (by kernel_rfl) ?_
          repeat (go_big_quiet_step ((go_at_call 43; exact below_calls (MP.out _))))
          refine wpQuiet_nil ?_
          rintro w5 ⟨⟨w5b, hb5⟩, hw5⟩
          have hw5b : w5 = w5b := hw5
          clear hw5
          subst hw5b
          have B5 := Lib.hid (B4.out.trans (hb5.mono B4.out.size))
          clear hb5 C1
          go_wp2_with fail
          go_ret2
          exact ⟨by rw [HR.out]; rfl, B5.out⟩
        · have qm : (mt != mm) = true := by simp [hm]
          have qm' : (mt == mm) = false := by simp [hm]
          have HR := Lib.hid (show res = (6, []) by rw [HS4.out, decide_eq_false hm]; rfl)
          clear HS4 hm
          go_wp2_with fail
          have C1 := below_cell G1
          refine wp_region_below (by kernel_rfl) (by kernel_rfl) ?_
          repeat (go_big_quiet_step ((go_at_call 43; exact below_calls (MP.out _))))
          refine wpQuiet_nil ?_
          rintro w5 ⟨⟨w5b, hb5⟩, hw5⟩
          have hw5b : w5 = w5b := hw5
          clear hw5
          subst hw5b
          have B5 := Lib.hid (B4.out.trans (hb5.mono B4.out.size))
          clear hb5 C1
          go_wp2_with fail
          go_ret2
          exact ⟨by rw [HR.out]; rfl, B5.out⟩
      · have q0 : (re != 0) = true := by simp [hz]
        have HR := Lib.hid (show res = (re, []) by rw [HS3.out, if_pos hz])
        clear HS3 hz
        go_wp2_with fail
        go_ret2
        exact ⟨by rw [HR.out]; rfl, B4.out⟩
    · have qi : (mb != bm) = true := by simp [hi]
      have qi' : (mb == bm) = false := by simp [hi]
      have HR := Lib.hid (show res = (13, []) by rw [HS2.out, HIB.out, decide_eq_false hi]; rfl)
      clear HS2 HIB hi
      go_enter Tryz.func18, Tryz.ntmps18
      go_wp2_with fail
      refine RT.out.mono ?_
      rintro e w2 ⟨rfl, hb2'⟩
      have B2 := Lib.hid (B0.out.trans (hb2'.mono B0.out.size))
      have E0 := (hb2'.cell (World.block_lt_of_cell? w0 _ d0)).trans d0
      have HA2 := Lib.hid (RefRealAt.new HA0.out hb2')
      have MP := Lib.hid (fun P : BelowOf w2 => MK.out P.w (RefRealAt.new HA2.out P.h))
      clear hb2' d0 d1 d2 d3
      go_wp2_with fail
      have C0 := below_cell E0
      refine wp_region_below (by kernel_rfl) (by kernel_rfl) ?_
      repeat (go_big_quiet_step ((go_at_call 43; exact below_calls (MP.out _))))
      refine wpQuiet_nil ?_
      rintro w3 ⟨⟨w3b, hb3⟩, hw3⟩
      have hw3b : w3 = w3b := hw3
      clear hw3
      subst hw3b
      have B3 := Lib.hid (B2.out.trans (hb3.mono B2.out.size))
      clear hb3 C0
      go_wp2_with fail
      go_ret2
      exact ⟨by rw [HR.out]; rfl, B3.out⟩
end Go.Proofs.YtcbodpcekjngbaaGreat
/- The walk of the law's few of deltas. -/
set_option linter.unusedVariables false
namespace Go.Proofs.YtcbodpcekjngbaaGreat
open Go.RowKit

theorem delD_info : (Tryz.prog.info? 41).map (·.size) = some 4 := by kernel_rfl
theorem RowS.takeD {N : Nat → Prop} {w : World} {a : Option Addr} {c : Nat} {xs : List DSt} (h : RowS N w (.slice a xs.length c) xs) (n : Nat) : RowS N w (.slice a (min xs.length n) c) (xs.take n) := by
  obtain ⟨a', c2, he, hc⟩ := h
  injection he with e1 _ _
  subst e1
  refine ⟨a, c, by rw [List.length_take, Nat.min_comm], fun i hi => ?_⟩
  rw [List.length_take] at hi
  obtain ⟨g, o, h1, h2, h3⟩ := hc i (by omega)
  exact ⟨g, o, h1, h2, by rw [List.getElem_take]; exact h3⟩

set_option maxRecDepth 100000 in
set_option maxHeartbeats 1000000 in
theorem fewD_any (bm mm : Txt) (n : Int) (a : Option Addr) (m c : Nat) (w : World) (h : m ≤ c) (ha : 0 < m → ∃ g o, a = some ⟨g, o, none⟩) :
    Calls Tryz.prog 17 #[delW bm mm n (.slice a m c)] w fun e w' => e = .returned (delW bm mm n (.slice a (min m 200) c)) ∧ Below w.heap.size w w' := by
  by_cases q : 200 < m
  · obtain ⟨g, o, rfl⟩ := ha (by omega)
    rw [Nat.min_eq_right (by omega)]
    have i1 : (200 : Int) < (m : Int) := by omega
    have i2 : (200 : Int) ≤ (c : Int) := by omega
    go_enter Tryz.func17, Tryz.ntmps17
    go_wp2
    exact bodyPost_ret (v := delW bm mm n (.slice (some ⟨g, o, none⟩) 200 c)) (results_cell_row Tryz.results17 _ _ (w.heap.size + 1) _ _ _ _ rfl (heap_alloc2_new _ _ _) Tryz.underlying41 rfl delD_info) rfl ⟨rfl, ((Below.refl _ _).alloc (Nat.le_refl _) _).alloc (by simp) _⟩
  · rw [Nat.min_eq_left (by omega)]
    have i1 : ¬ (200 : Int) < (m : Int) := by omega
    go_enter Tryz.func17, Tryz.ntmps17
    go_wp2
    exact bodyPost_ret (v := delW bm mm n (.slice a m c)) (results_cell_row Tryz.results17 _ _ (w.heap.size + 1) _ _ _ _ rfl (heap_alloc2_new _ _ _) Tryz.underlying41 rfl delD_info) rfl ⟨rfl, ((Below.refl _ _).alloc (Nat.le_refl _) _).alloc (by simp) _⟩
end Go.Proofs.YtcbodpcekjngbaaGreat

/- The walk of Right: may a delta be? -/
import Derived.Test.YtpkgjokehgihjaaGreatDelX
import Derived.Test.YtpkgjokehgihjaaGreatFrame
import Derived.Test.YtpkgjokehgihjaaGreatGen
import Derived.Test.YtpkgjokehgihjaaGreatMarkMath
import Derived.Test.YtpkgjokehgihjaaGreatOwnL
import Derived.Test.YtpkgjokehgihjaaGreatProg
import Derived.Test.YtpkgjokehgihjaaGreatRollMath
import Derived.Test.YtpkgjokehgihjaaGreatRowKeep
import Derived.Test.YtpkgjokehgihjaaGreatRows
import Derived.Test.YtpkgjokehgihjaaGreatSignMath
import Derived.Test.YtpkgjokehgihjaaGreatStepW
import Derived.BigQuiet
import Derived.Deep.QuietTactic
import Derived.IntWalk
import Derived.Laws.Rows
import Derived.Laws.Tables
import Derived.Lib.Hide
import Derived.Outline
import Derived.WalkKit
import Derived.WalkLawsBesides
import Derived.WalkSpells
set_option linter.unusedVariables false
namespace Go.Proofs.YtpkgjokehgihjaaGreat
open Go.RowKit

abbrev delW (bm mm : Txt) (n : Int) (v : Value) : Value := .agg #[.string ⟨bm.toArray⟩, .string ⟨mm.toArray⟩, .int .i64 n, v]
abbrev delO (bm mm : Txt) (n : Int) (v : Value) : Obj := .cells #[.string ⟨bm.toArray⟩, .string ⟨mm.toArray⟩, .int .i64 n, v] 34 (0, 0)
theorem delO_cells {w : World} {p : Nat} {bm mm : Txt} {n : Int} {v : Value} (h : w.heap[p]? = some (delO bm mm n v)) :
    w.cell? ⟨p, 0, none⟩ = some (.string ⟨bm.toArray⟩) ∧ w.cell? ⟨p, 1, none⟩ = some (.string ⟨mm.toArray⟩) ∧ w.cell? ⟨p, 2, none⟩ = some (.int .i64 n) ∧ w.cell? ⟨p, 3, none⟩ = some v := by
  refine ⟨?_, ?_, ?_, ?_⟩ <;> (rw [cell_of_row _ _ _ _ _ _ h]; rfl)
def sumK (l : List DSt) : Int := (l.map mkS).sum
theorem sumK_succ (l : List DSt) (k : Nat) (hk : k < l.length) : sumK (l.take (k + 1)) = sumK (l.take k) + mkS l[k] := by
  unfold sumK
  rw [List.take_add_one, List.getElem?_eq_getElem hk, Option.toList, List.map_append, List.sum_append]; simp
theorem mk_bound {x : DSt} (h : stS x = true) : 1 ≤ mkS x ∧ mkS x ≤ 524288 := by
  unfold stS at h; unfold mkS
  split at h
  · rename_i c; have := of_decide_eq_true h; have : 0 < x.txt.length := List.length_pos_iff.2 c; omega
  · rename_i c; have := of_decide_eq_true h; simp at c; rw [c]; simp; omega
theorem sumK_bound (l : List DSt) (k : Nat) (hk : k ≤ l.length) (h : ∀ x ∈ l.take k, stS x = true) : 0 ≤ sumK (l.take k) ∧ sumK (l.take k) ≤ k * 524288 := by
  induction k with
  | zero => unfold sumK; simp
  | succ k ih =>
    have h1 : l.take (k + 1) = l.take k ++ [l[k]] := by rw [List.take_add_one, List.getElem?_eq_getElem (by omega)]; rfl
    have := ih (by omega) (fun x hx => h x (by rw [h1]; exact List.mem_append_left _ hx))
    rw [sumK_succ l k (by omega)]
    have := mk_bound (h l[k] (by rw [h1]; exact List.mem_append_right _ (by simp)))
    omega
theorem rightD_eq (bm mm : Txt) (n : Int) (l : List DSt) : rightD bm mm n l = (decide (bm.length = 32) && decide (mm.length = 32) && decide (0 ≤ n ∧ n ≤ 524288) && l.all stS && decide (sumK l = n)) := rfl

set_option maxRecDepth 100000 in
set_option maxHeartbeats 2000000 in
theorem rightD_any (N : Nat → Prop) (bm mm : Txt) (n : Int) (v : Value) (l : List DSt) (w : World) (h : RowS N w v l) (hok : ∀ x ∈ l, StOk x) (hl : l.length ≤ 1000000) (h1 : bm.length ≤ 140737488351232) (h2 : mm.length ≤ 140737488351232) (hn1 : -9223372036854775808 ≤ n) (hn2 : n ≤ 9223372036854775807) :
    Calls Tryz.prog 14 #[delW bm mm n v] w fun e w' => e = .returned (.bool (rightD bm mm n l)) ∧ Below w.heap.size w w' := by
  obtain ⟨a, c, rfl, hc⟩ := h
  have HC := Lib.hid hc; clear hc
  have HK := Lib.hid hok; clear hok
  have B0 := Lib.hid (below_self_alloc w (delO bm mm n (.slice a l.length c)))
  obtain ⟨d0, d1, d2, d3⟩ := delO_cells (heap_alloc_new w (delO bm mm n (.slice a l.length c)))
  have T1 := Lib.hid (show (⟨bm.toArray⟩ : ByteArray).size = bm.length from rfl)
  have T2 := Lib.hid (show (⟨mm.toArray⟩ : ByteArray).size = mm.length from rfl)
  have HR := Lib.hid (rightD_eq bm mm n l)
  generalize rightD bm mm n l = res at *
  by_cases c1 : bm.length = 32
  · have q1 : ((bm.length : Int) != 32) = false := by simp [c1]
    by_cases c2 : mm.length = 32
    · have q2 : ((mm.length : Int) != 32) = false := by simp [c2]
      by_cases c3 : 0 ≤ n
      · have q3 : ¬ n < 0 := by omega
        by_cases c4 : n ≤ 524288
        · have q4 : ¬ 524288 < n := by omega
          have HR2 := Lib.hid (show res = (l.all stS && decide (sumK l = n)) by rw [HR.out, decide_eq_true c1, decide_eq_true c2, decide_eq_true ⟨c3, c4⟩]; rfl)
          clear HR c1 c2
          go_enter Tryz.func14, Tryz.ntmps14
          go_wp2
          generalize w.alloc (.cells #[.string ⟨bm.toArray⟩, .string ⟨mm.toArray⟩, .int .i64 n, .slice a l.length c] 34) = w0 at *
          have D2 := Lib.hid d2
          clear d0 d1 d2 d3 q1 q2
          have HC0 := Lib.hid (show ∀ i (h : i < l.length), ∃ g o, a = some ⟨g, o, none⟩ ∧ DStAt w0 g (o + i * 3) l[i] from fun i hi => by
            obtain ⟨g, o, e, _, hx⟩ := HC.out i hi
            exact ⟨g, o, e, hx.new B0.out⟩)
          clear HC
          go_loopw [3, 29] (fun m i wr => ∃ k : Nat, k ≤ l.length ∧ i = .int .i64 k ∧ m = .int .i64 (sumK (l.take k)) ∧ (∀ x ∈ l.take k, stS x = true) ∧ Below w0.heap.size w0 wr) (fun _ i _ => l.length - (intOf i).toNat)
          case atStart => exact ⟨0, by omega, rfl, rfl, by simp, Below.refl _ _⟩
          case round =>
            obtain ⟨k, hk, rfl, rfl, hall, hbel⟩ := hrel
            have HB := Lib.hid hbel; clear hbel
            have hsb := sumK_bound l k hk hall
            by_cases hlt : k < l.length
            · obtain ⟨g, o, rfl, hst⟩ := HC0.out k hlt
              have HS := Lib.hid (sumK_succ l k hlt)
              have HKX := HK.out l[k] (List.getElem_mem hlt)
              have HTK := Lib.hid (show l.take (k + 1) = l.take k ++ [l[k]] by rw [List.take_add_one, List.getElem?_eq_getElem hlt]; rfl)
              have HMEM := Lib.hid (List.getElem_mem hlt)
              have hst' := hst.new HB.out
              have IS := fun w' => Lib.hid (isStep_any l[k] w' HKX)
              have MK := fun w' (hs : stS l[k] = true) => Lib.hid (makes_any l[k] w' hs)
              have HALL := Lib.hid hall; clear hall hst HKX
              generalize l[k] = x at *
              have hbm := fun hs => mk_bound (x := x) hs
              have HX := Lib.hid (show x = ⟨x.pos, x.len, x.txt⟩ from rfl)
              obtain ⟨p, m, t⟩ := x
              obtain ⟨e0, e1, e2⟩ := hst'
              dsimp only at e0 e1 e2
              have i1 : (k : Int) < (l.length : Int) := by omega
              have i0 : (0 : Int) ≤ (k : Int) := by omega
              obtain ⟨q, hq⟩ : ∃ q, q = sumK (l.take k) := ⟨_, rfl⟩
              obtain ⟨q2, hq2⟩ : ∃ q2, q2 = sumK (l.take (k + 1)) := ⟨_, rfl⟩
              rw [← hq, ← hq2] at HS
              rw [← hq] at hsb ⊢
              have HQ2 := Lib.hid hq2
              clear hq hq2
              have hbb := below_self_alloc wr (stO ⟨p, m, t⟩)
              have HB2 := Lib.hid (HB.out.trans (hbb.mono HB.out.size))
              obtain ⟨f0, f1, f2⟩ := stO_at wr ⟨p, m, t⟩
              dsimp only at f0 f1 f2
              rw [Nat.zero_add] at f1 f2
              clear hbb
              cases hs : stS ⟨p, m, t⟩ with
              | true =>
                have IS1 := fun w' => IS w'
                rw [hs] at IS1
                have MK1 := fun w' => MK w' hs
                have hb3 := hbm hs
                obtain ⟨y, hy⟩ : ∃ y, y = mkS ⟨p, m, t⟩ := ⟨_, rfl⟩
                rw [← hy] at HS MK1 hb3
                have HHS := Lib.hid hs
                clear hy hbm IS MK hs
                go_wp2_with fail
                generalize wr.alloc (.cells #[.int .i64 p, .int .i64 m, .string ⟨t.toArray⟩] 42) = w1 at *
                refine (IS1 _).out.mono ?_
                rintro e w2 ⟨rfl, hb2⟩
                have E0 := (hb2.cell (World.block_lt_of_cell? w1 _ f0)).trans f0
                have E1 := (hb2.cell (World.block_lt_of_cell? w1 _ f1)).trans f1
                have E2 := (hb2.cell (World.block_lt_of_cell? w1 _ f2)).trans f2
                have HB3 := Lib.hid (HB2.out.trans (hb2.mono HB2.out.size))
                clear hb2 f0 f1 f2 e0 e1 e2
                go_wp2_with fail
                refine (MK1 _).out.mono ?_
                rintro e w3 ⟨rfl, hb3'⟩
                have HB4 := Lib.hid (HB3.out.trans (hb3'.mono HB3.out.size))
                clear hb3'
                go_wp2_with fail
                go_roundw
                case rel => exact ⟨k + 1, by omega, by go_num, by rw [← HQ2.out, HS.out], by rw [HTK.out]; intro x hx; rcases List.mem_append.1 hx with hx | hx; (exact HALL.out x hx); (simp at hx; subst hx; exact HHS.out), HB4.out⟩
                case measure => simp [intOf]; omega
              | false =>
                have IS1 := fun w' => IS w'
                rw [hs] at IS1
                have HRR := Lib.hid (show res = false by
                  rw [HR2.out]
                  have : l.all stS = false := List.all_eq_false.2 ⟨_, HMEM.out, by rw [hs]; simp⟩
                  rw [this]; rfl)
                clear IS MK hs hbm
                go_wp2_with fail
                refine (IS1 _).out.mono ?_
                rintro e w2 ⟨rfl, hb2⟩
                have HB3 := Lib.hid (HB2.out.trans (hb2.mono HB2.out.size))
                clear hb2
                go_wp2_with fail
                go_ret
                exact ⟨by rw [HRR.out]; rfl, B0.out.trans (HB3.out.mono B0.out.size)⟩
            · obtain rfl : k = l.length := by omega
              have i1 : ¬ (l.length : Int) < (l.length : Int) := by omega
              rw [List.take_length] at hall ⊢
              have hst : l.all stS = true := List.all_eq_true.2 hall
              have d2 := (HB.out.cell (World.block_lt_of_cell? w0 _ D2.out)).trans D2.out
              have HRR := Lib.hid (show res = (sumK l == n) by rw [HR2.out, hst, Bool.true_and]; by_cases c : sumK l = n <;> simp [c])
              clear hall hst hsb
              generalize sumK l = q at *
              go_wp2_with fail
              go_ret
              exact ⟨by rw [HRR.out]; rfl, B0.out.trans (HB.out.mono B0.out.size)⟩
        · have q4 : 524288 < n := by omega
          have HRR := Lib.hid (show res = false by rw [HR.out, decide_eq_false (p := 0 ≤ n ∧ n ≤ 524288) (fun c => c4 c.2)]; simp)
          clear HR c1 c2
          go_enter Tryz.func14, Tryz.ntmps14
          go_wp2
          go_ret
          exact ⟨by rw [HRR.out]; rfl, B0.out⟩
      · have q3 : n < 0 := by omega
        have HRR := Lib.hid (show res = false by rw [HR.out, decide_eq_false (p := 0 ≤ n ∧ n ≤ 524288) (fun c => c3 c.1)]; simp)
        clear HR c1 c2
        go_enter Tryz.func14, Tryz.ntmps14
        go_wp2
        go_ret
        exact ⟨by rw [HRR.out]; rfl, B0.out⟩
    · have q2 : ((mm.length : Int) != 32) = true := by simp; omega
      have HRR := Lib.hid (show res = false by rw [HR.out, decide_eq_false c2]; simp)
      clear HR c1 c2
      go_enter Tryz.func14, Tryz.ntmps14
      go_wp2
      go_ret
      exact ⟨by rw [HRR.out]; rfl, B0.out⟩
  · have q1 : ((bm.length : Int) != 32) = true := by simp; omega
    have HRR := Lib.hid (show res = false by rw [HR.out, decide_eq_false c1]; simp)
    clear HR c1
    go_enter Tryz.func14, Tryz.ntmps14
    go_wp2
    go_ret
    exact ⟨by rw [HRR.out]; rfl, B0.out⟩
end Go.Proofs.YtpkgjokehgihjaaGreat

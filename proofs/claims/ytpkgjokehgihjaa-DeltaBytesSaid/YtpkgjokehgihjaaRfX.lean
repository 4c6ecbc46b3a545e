/- Several texts in one: RefRunW, RefRightDW, FewDW. -/
import Derived.Test.YtpkgjokehgihjaaBldShelf
import Derived.Test.YtpkgjokehgihjaaDelX
import Derived.Test.YtpkgjokehgihjaaFrame
import Derived.Test.YtpkgjokehgihjaaMarkMath
import Derived.Test.YtpkgjokehgihjaaProg
import Derived.Test.YtpkgjokehgihjaaRowKeep
import Derived.Test.YtpkgjokehgihjaaRows
import Derived.Test.YtpkgjokehgihjaaSignMath
import Derived.Test.YtpkgjokehgihjaaStepW
import Derived.BigQuiet
import Derived.Deep.Draws
import Derived.Deep.QuietTactic
import Derived.IntWalk
import Derived.Laws.Bits128
import Derived.Laws.Externs
import Derived.Laws.IdiomStrings
import Derived.Laws.Rows
import Derived.Laws.Tables
import Derived.Lib.AppendStr
import Derived.Lib.Builder
import Derived.Lib.Hide
import Derived.Lib.Strings
import Derived.Lib.Walk
import Derived.Outline
import Derived.WalkKit
import Derived.WalkLawsBesides
import Derived.WalkSpells
import Derived.Test.YtpkgjokehgihjaaGen
import Derived.Test.YtpkgjokehgihjaaOwnL
import Derived.Test.YtpkgjokehgihjaaRightDW
import Derived.Test.YtpkgjokehgihjaaRollMath
import Derived.Test.YtpkgjokehgihjaaSigAt
import Derived.OpenShut
import Derived.ProofKit
import Derived.ShutString
import Derived.SizedLaws
import Derived.SliceStrings
/- The walks of the document's step, Run. -/
set_option linter.unusedVariables false
namespace Go.Proofs.Ytpkgjokehgihjaa
open Go.RowKit

set_option maxRecDepth 100000 in
set_option maxHeartbeats 1000000 in
theorem refStep_any (x : DSt) (w : World) (h : StOk x) :
    Calls Try.prog 41 #[stV x] w fun e w' => e = .returned (.bool (stS x)) ∧ Below w.heap.size w w' := by
  obtain ⟨p, n, t⟩ := x
  have hp1 := h.p1
  have hp2 := h.p2
  have hn1 := h.l1
  have hn2 := h.l2
  have ht := h.t
  dsimp only at hp1 hp2 hn1 hn2 ht
  have B0 := Lib.hid (below_self_alloc w (stO ⟨p, n, t⟩))
  obtain ⟨c0, c1, c2⟩ := stO_at w ⟨p, n, t⟩
  dsimp only at c0 c1 c2
  rw [Nat.zero_add] at c1 c2
  have TL := Lib.hid (show (⟨t.toArray⟩ : ByteArray).size = t.length from rfl)
  have HR := Lib.hid (show stS ⟨p, n, t⟩ = if t ≠ [] then decide (t.length ≤ 4096 ∧ p = 0 ∧ n = 0) else decide (0 < n ∧ n ≤ 524288 ∧ 0 ≤ p ∧ p ≤ 524288 - n) from rfl)
  generalize stS ⟨p, n, t⟩ = res at *
  clear h
  by_cases h0 : 0 < t.length
  · have hne : t.isEmpty = false := by cases t <;> simp_all
    have HR2 := Lib.hid (show res = decide (t.length ≤ 4096 ∧ p = 0 ∧ n = 0) by rw [HR.out, if_pos (by rintro rfl; simp at h0)])
    clear HR
    by_cases h2 : p = 0
    · have q1 : (p == 0) = true := by simp [h2]
      by_cases h3 : n = 0
      · have q2 : (n == 0) = true := by simp [h3]
        by_cases h1 : t.length ≤ 4096
        · have i1 : (t.length : Int) ≤ 4096 := by omega
          have HRR := Lib.hid (show res = true by rw [HR2.out]; exact decide_eq_true ⟨h1, h2, h3⟩)
          clear h2 h3 HR2
          go_enter Try.func41, Try.ntmps41
          go_wp2
          go_ret
          exact ⟨by rw [HRR.out]; rfl, B0.out⟩
        · have i1 : ¬ (t.length : Int) ≤ 4096 := by omega
          have HRR := Lib.hid (show res = false by rw [HR2.out]; exact decide_eq_false (fun c => h1 c.1))
          clear h2 h3 HR2 h1
          go_enter Try.func41, Try.ntmps41
          go_wp2
          go_ret
          exact ⟨by rw [HRR.out]; rfl, B0.out⟩
      · have q2 : (n == 0) = false := by simp [h3]
        have HRR := Lib.hid (show res = false by rw [HR2.out]; exact decide_eq_false (fun c => h3 c.2.2))
        clear h2 h3 HR2
        go_enter Try.func41, Try.ntmps41
        go_wp2
        go_ret
        exact ⟨by rw [HRR.out]; rfl, B0.out⟩
    · have q1 : (p == 0) = false := by simp [h2]
      have HRR := Lib.hid (show res = false by rw [HR2.out]; exact decide_eq_false (fun c => h2 c.2.1))
      clear h2 HR2
      go_enter Try.func41, Try.ntmps41
      go_wp2
      go_ret
      exact ⟨by rw [HRR.out]; rfl, B0.out⟩
  · obtain rfl : t = [] := List.eq_nil_of_length_eq_zero (by omega)
    have HR2 := Lib.hid (show res = decide (0 < n ∧ n ≤ 524288 ∧ 0 ≤ p ∧ p ≤ 524288 - n) by rw [HR.out, if_neg (by simp)])
    clear HR
    by_cases h1 : 0 < n
    · by_cases h2 : n ≤ 524288
      · by_cases h3 : 0 ≤ p
        · by_cases h4 : p ≤ 524288 - n
          · have HRR := Lib.hid (show res = true by rw [HR2.out]; exact decide_eq_true ⟨h1, h2, h3, h4⟩)
            clear HR2
            go_enter Try.func41, Try.ntmps41
            go_wp2
            go_ret
            exact ⟨by rw [HRR.out]; rfl, B0.out⟩
          · have HRR := Lib.hid (show res = false by rw [HR2.out]; exact decide_eq_false (fun c => h4 c.2.2.2))
            clear HR2
            go_enter Try.func41, Try.ntmps41
            go_wp2
            go_ret
            exact ⟨by rw [HRR.out]; rfl, B0.out⟩
        · have HRR := Lib.hid (show res = false by rw [HR2.out]; exact decide_eq_false (fun c => h3 c.2.2.1))
          clear HR2
          go_enter Try.func41, Try.ntmps41
          go_wp2
          go_ret
          exact ⟨by rw [HRR.out]; rfl, B0.out⟩
      · have HRR := Lib.hid (show res = false by rw [HR2.out]; exact decide_eq_false (fun c => h2 c.2.1))
        clear HR2
        go_enter Try.func41, Try.ntmps41
        go_wp2
        go_ret
        exact ⟨by rw [HRR.out]; rfl, B0.out⟩
    · have HRR := Lib.hid (show res = false by rw [HR2.out]; exact decide_eq_false (fun c => h1 c.1))
      clear HR2
      go_enter Try.func41, Try.ntmps41
      go_wp2
      go_ret
      exact ⟨by rw [HRR.out]; rfl, B0.out⟩

theorem cat_bytes (a b : Txt) : (⟨a.toArray⟩ : ByteArray) ++ ⟨b.toArray⟩ = ⟨(a ++ b).toArray⟩ := by
  apply ByteArray.ext
  simp
/-- Of a step that may be, text and copy stand in either order. -/
theorem piece_swap {basis : Txt} {x : DSt} (h : stS x = true) : pieceS basis x = (basis.drop x.pos.toNat).take x.len.toNat ++ x.txt := by
  unfold pieceS
  unfold stS at h
  split at h
  · have := of_decide_eq_true h
    rw [this.2.2]; simp
  · rename_i c; simp at c; rw [c]; simp

end Go.Proofs.Ytpkgjokehgihjaa
/- The walk of the document's Right of deltas. -/
set_option linter.unusedVariables false
namespace Go.Proofs.Ytpkgjokehgihjaa
open Go.RowKit

theorem sumK_mono (l : List DSt) (k : Nat) (hk : k ≤ l.length) (h : ∀ x ∈ l, stS x = true) : sumK (l.take k) ≤ sumK l := by
  have h1 : sumK l = sumK (l.take k) + sumK (l.drop k) := by unfold sumK; rw [← List.sum_append, ← List.map_append, List.take_append_drop]
  have h2 : 0 ≤ sumK (l.drop k) := by
    have h3 : ∀ m : List DSt, (∀ x ∈ m, stS x = true) → 0 ≤ sumK m := by
      intro m
      induction m with
      | nil => intro _; unfold sumK; simp
      | cons x m ih =>
        intro hm
        have := ih (fun y hy => hm y (by simp [hy]))
        have := mk_bound (hm x (by simp))
        unfold sumK at *
        rw [List.map_cons, List.sum_cons]; omega
    exact h3 _ (fun x hx => h x (List.mem_of_mem_drop hx))
  omega
set_option maxRecDepth 100000 in
set_option maxHeartbeats 2000000 in
theorem refRightD_any (N : Nat → Prop) (bm mm : Txt) (n : Int) (v : Value) (l : List DSt) (w : World) (h : RowS N w v l) (hok : ∀ x ∈ l, StOk x) (hl : l.length ≤ 1000000) (h1 : bm.length ≤ 140737488351232) (h2 : mm.length ≤ 140737488351232) (hn1 : -9223372036854775808 ≤ n) (hn2 : n ≤ 9223372036854775807) :
    Calls Try.prog 16 #[delW bm mm n v] w fun e w' => e = .returned (.bool (rightD bm mm n l)) ∧ Below w.heap.size w w' := by
  obtain ⟨a, c, rfl, hc⟩ := h
  have HC := Lib.hid hc; clear hc
  have HK := Lib.hid hok; clear hok
  have B0 := Lib.hid (below_self_alloc w (delO bm mm n (.slice a l.length c)))
  obtain ⟨d0, d1, d2, d3⟩ := delO_cells (heap_alloc_new w (delO bm mm n (.slice a l.length c)))
  have T1 := Lib.hid (show (⟨bm.toArray⟩ : ByteArray).size = bm.length from rfl)
  have T2 := Lib.hid (show (⟨mm.toArray⟩ : ByteArray).size = mm.length from rfl)
  have HR := Lib.hid (rightD_eq bm mm n l)
  generalize rightD bm mm n l = res at *
  by_cases c1 : bm.length = 32
  · have q1 : ((bm.length : Int) != 32) = false := by simp [c1]
    by_cases c2 : mm.length = 32
    · have q2 : ((mm.length : Int) != 32) = false := by simp [c2]
      by_cases c3 : 0 ≤ n
      · have q3 : ¬ n < 0 := by omega
        by_cases c4 : n ≤ 524288
        · have q4 : ¬ 524288 < n := by omega
          have HR2 := Lib.hid (show res = (l.all stS && decide (sumK l = n)) by rw [HR.out, decide_eq_true c1, decide_eq_true c2, decide_eq_true ⟨c3, c4⟩]; rfl)
          clear HR c1 c2
          go_enter Try.func16, Try.ntmps16
          go_wp2
          generalize w.alloc (.cells #[.string ⟨bm.toArray⟩, .string ⟨mm.toArray⟩, .int .i64 n, .slice a l.length c] 24) = w0 at *
          have D2 := Lib.hid d2
          have D3 := Lib.hid d3
          clear d0 d1 d2 d3 q1 q2
          have HC0 := Lib.hid (show ∀ i (h : i < l.length), ∃ g o, a = some ⟨g, o, none⟩ ∧ DStAt w0 g (o + i * 3) l[i] from fun i hi => by
            obtain ⟨g, o, e, _, hx⟩ := HC.out i hi
            exact ⟨g, o, e, hx.new B0.out⟩)
          clear HC
          go_loopw [3, 4] (fun m i wr => ∃ k : Nat, k ≤ l.length ∧ i = .int .i64 k ∧ m = .int .i64 (sumK (l.take k)) ∧ (∀ x ∈ l.take k, stS x = true) ∧ Below w0.heap.size w0 wr) (fun _ i _ => l.length - (intOf i).toNat)
          case atStart => exact ⟨0, by omega, rfl, rfl, by simp, Below.refl _ _⟩
          case round =>
            obtain ⟨k, hk, rfl, rfl, hall, hbel⟩ := hrel
            have HB := Lib.hid hbel; clear hbel
            have hsb := sumK_bound l k hk hall
            have d2 := (HB.out.cell (World.block_lt_of_cell? w0 _ D2.out)).trans D2.out
            have d3 := (HB.out.cell (World.block_lt_of_cell? w0 _ D3.out)).trans D3.out
            by_cases hlt : k < l.length
            · obtain ⟨g, o, rfl, hst⟩ := HC0.out k hlt
              have HS := Lib.hid (sumK_succ l k hlt)
              have HKX := HK.out l[k] (List.getElem_mem hlt)
              have HTK := Lib.hid (show l.take (k + 1) = l.take k ++ [l[k]] by rw [List.take_add_one, List.getElem?_eq_getElem hlt]; rfl)
              have HMEM := Lib.hid (List.getElem_mem hlt)
              have hst' := hst.new HB.out
              have IS := fun w' => Lib.hid (refStep_any l[k] w' HKX)
              have HALL := Lib.hid hall; clear hall hst HKX
              generalize l[k] = x at *
              have hbm := fun hs => mk_bound (x := x) hs
              have hmk : mkS x = (x.txt.length : Int) + x.len := rfl
              have hxs := fun (hs : stS x = true) => (show x.txt.length ≤ 4096 ∧ 0 ≤ x.len ∧ x.len ≤ 524288 by
                unfold stS at hs
                split at hs
                · have := of_decide_eq_true hs; omega
                · rename_i c; have := of_decide_eq_true hs; simp at c; rw [c]; simp; omega)
              obtain ⟨p, m, t⟩ := x
              obtain ⟨e0, e1, e2⟩ := hst'
              dsimp only at e0 e1 e2 hmk hxs
              have i1 : (k : Int) < (l.length : Int) := by omega
              have i0 : (0 : Int) ≤ (k : Int) := by omega
              obtain ⟨q, hq⟩ : ∃ q, q = sumK (l.take k) := ⟨_, rfl⟩
              obtain ⟨q2, hq2⟩ : ∃ q2, q2 = sumK (l.take (k + 1)) := ⟨_, rfl⟩
              rw [← hq, ← hq2] at HS
              rw [← hq] at hsb ⊢
              have HQ2 := Lib.hid hq2
              have HQ := Lib.hid hq
              clear hq hq2
              cases hs : stS ⟨p, m, t⟩ with
              | true =>
                rw [hs] at IS
                have hb3 := hbm hs
                have hx3 := hxs hs
                have HMK := Lib.hid hmk
                have HHS := Lib.hid hs
                have TL := Lib.hid (show (⟨t.toArray⟩ : ByteArray).size = t.length from rfl)
                clear hbm hs hmk hxs
                by_cases hgt : n < q
                · have HRR := Lib.hid (show res = false by
                    rw [HR2.out]
                    by_cases c : l.all stS = true
                    · have := sumK_mono l k hk (fun x hx => List.all_eq_true.1 c x hx)
                      rw [← HQ.out] at this
                      rw [c, decide_eq_false (by omega)]; rfl
                    · rw [Bool.not_eq_true] at c; rw [c]; rfl)
                  go_wp2_with fail
                  refine (IS _).out.mono ?_
                  rintro e w2 ⟨rfl, hb2⟩
                  have E2 := (hb2.cell (World.block_lt_of_cell? wr _ d2)).trans d2
                  have HB3 := Lib.hid (HB.out.trans (hb2.mono HB.out.size))
                  clear hb2
                  go_wp2_with fail
                  go_ret
                  exact ⟨by rw [HRR.out]; rfl, B0.out.trans (HB3.out.mono B0.out.size)⟩
                · have hgt' : ¬ n < q := hgt
                  go_wp2_with fail
                  refine (IS _).out.mono ?_
                  rintro e w2 ⟨rfl, hb2⟩
                  have E2 := (hb2.cell (World.block_lt_of_cell? wr _ d2)).trans d2
                  have E3 := (hb2.cell (World.block_lt_of_cell? wr _ d3)).trans d3
                  have g1 := (hb2.cell (World.block_lt_of_cell? wr _ e1)).trans e1
                  have g2 := (hb2.cell (World.block_lt_of_cell? wr _ e2)).trans e2
                  have HB3 := Lib.hid (HB.out.trans (hb2.mono HB.out.size))
                  clear hb2 d2 d3 e0 e1 e2
                  have W1 : IntKind.i64.wrap (q + m) = q + m := by rw [IntKind.wrap_i64]; omega
                  have W2 : IntKind.i64.wrap (q + m + (t.length : Int)) = q2 := by rw [IntKind.wrap_i64, HS.out, HMK.out]; omega
                  go_wp2_with fail
                  go_quiet (fail)
                  have HBQ := Lib.hid (HB3.out.trans ((Below_drewN (Below.refl w2.heap.size w2) nq).mono HB3.out.size))
                  generalize w2.drewN nq = w3 at *
                  have W3 : q + m + (t.length : Int) = q2 := by rw [HS.out, HMK.out]; omega
                  try rw [W3]
                  clear E2 E3 g1 g2 W1 W2 W3
                  go_wp2_with fail
                  go_roundw
                  case rel => exact ⟨k + 1, by omega, by go_num, by rw [← HQ2.out], by rw [HTK.out]; intro x hx; rcases List.mem_append.1 hx with hx | hx; (exact HALL.out x hx); (simp at hx; subst hx; exact HHS.out), HBQ.out⟩
                  case measure => simp [intOf]; omega
              | false =>
                rw [hs] at IS
                have HRR := Lib.hid (show res = false by
                  rw [HR2.out]
                  have : l.all stS = false := List.all_eq_false.2 ⟨_, HMEM.out, by rw [hs]; simp⟩
                  rw [this]; rfl)
                clear hs hbm hmk hxs
                go_wp2_with fail
                refine (IS _).out.mono ?_
                rintro e w2 ⟨rfl, hb2⟩
                have HB3 := Lib.hid (HB.out.trans (hb2.mono HB.out.size))
                clear hb2
                go_wp2_with fail
                go_ret
                exact ⟨by rw [HRR.out]; rfl, B0.out.trans (HB3.out.mono B0.out.size)⟩
            · obtain rfl : k = l.length := by omega
              have i1 : ¬ (l.length : Int) < (l.length : Int) := by omega
              rw [List.take_length] at hall ⊢
              have hst : l.all stS = true := List.all_eq_true.2 hall
              have HRR := Lib.hid (show res = (sumK l == n) by rw [HR2.out, hst, Bool.true_and]; by_cases c : sumK l = n <;> simp [c])
              clear hall hst hsb
              generalize sumK l = q at *
              go_wp2_with fail
              go_ret
              exact ⟨by rw [HRR.out]; rfl, B0.out.trans (HB.out.mono B0.out.size)⟩
        · have q4 : 524288 < n := by omega
          have HRR := Lib.hid (show res = false by rw [HR.out, decide_eq_false (p := 0 ≤ n ∧ n ≤ 524288) (fun c => c4 c.2)]; simp)
          clear HR c1 c2
          go_enter Try.func16, Try.ntmps16
          go_wp2
          go_ret
          exact ⟨by rw [HRR.out]; rfl, B0.out⟩
      · have q3 : n < 0 := by omega
        have HRR := Lib.hid (show res = false by rw [HR.out, decide_eq_false (p := 0 ≤ n ∧ n ≤ 524288) (fun c => c3 c.1)]; simp)
        clear HR c1 c2
        go_enter Try.func16, Try.ntmps16
        go_wp2
        go_ret
        exact ⟨by rw [HRR.out]; rfl, B0.out⟩
    · have q2 : ((mm.length : Int) != 32) = true := by simp; omega
      have HRR := Lib.hid (show res = false by rw [HR.out, decide_eq_false c2]; simp)
      clear HR c1 c2
      go_enter Try.func16, Try.ntmps16
      go_wp2
      go_ret
      exact ⟨by rw [HRR.out]; rfl, B0.out⟩
  · have q1 : ((bm.length : Int) != 32) = true := by simp; omega
    have HRR := Lib.hid (show res = false by rw [HR.out, decide_eq_false c1]; simp)
    clear HR c1
    go_enter Try.func16, Try.ntmps16
    go_wp2
    go_ret
    exact ⟨by rw [HRR.out]; rfl, B0.out⟩
end Go.Proofs.Ytpkgjokehgihjaa
/- The walk of the law's few of deltas. -/
set_option linter.unusedVariables false
namespace Go.Proofs.Ytpkgjokehgihjaa
open Go.RowKit

theorem delD_info : (Try.prog.info? 24).map (·.size) = some 4 := by kernel_rfl
theorem RowS.takeD {N : Nat → Prop} {w : World} {a : Option Addr} {c : Nat} {xs : List DSt} (h : RowS N w (.slice a xs.length c) xs) (n : Nat) : RowS N w (.slice a (min xs.length n) c) (xs.take n) := by
  obtain ⟨a', c2, he, hc⟩ := h
  injection he with e1 _ _
  subst e1
  refine ⟨a, c, by rw [List.length_take, Nat.min_comm], fun i hi => ?_⟩
  rw [List.length_take] at hi
  obtain ⟨g, o, h1, h2, h3⟩ := hc i (by omega)
  exact ⟨g, o, h1, h2, by rw [List.getElem_take]; exact h3⟩

set_option maxRecDepth 100000 in
set_option maxHeartbeats 1000000 in
theorem fewD_any (bm mm : Txt) (n : Int) (a : Option Addr) (m c : Nat) (w : World) (h : m ≤ c) (ha : 0 < m → ∃ g o, a = some ⟨g, o, none⟩) :
    Calls Try.prog 12 #[delW bm mm n (.slice a m c)] w fun e w' => e = .returned (delW bm mm n (.slice a (min m 200) c)) ∧ Below w.heap.size w w' := by
  by_cases q : 200 < m
  · obtain ⟨g, o, rfl⟩ := ha (by omega)
    rw [Nat.min_eq_right (by omega)]
    have i1 : (200 : Int) < (m : Int) := by omega
    have i2 : (200 : Int) ≤ (c : Int) := by omega
    go_enter Try.func12, Try.ntmps12
    go_wp2
    exact bodyPost_ret (v := delW bm mm n (.slice (some ⟨g, o, none⟩) 200 c)) (results_cell_row Try.results12 _ _ (w.heap.size + 1) _ _ _ _ rfl (heap_alloc2_new _ _ _) Try.underlying24 rfl delD_info) rfl ⟨rfl, ((Below.refl _ _).alloc (Nat.le_refl _) _).alloc (by simp) _⟩
  · rw [Nat.min_eq_left (by omega)]
    have i1 : ¬ (200 : Int) < (m : Int) := by omega
    go_enter Try.func12, Try.ntmps12
    go_wp2
    exact bodyPost_ret (v := delW bm mm n (.slice a m c)) (results_cell_row Try.results12 _ _ (w.heap.size + 1) _ _ _ _ rfl (heap_alloc2_new _ _ _) Try.underlying24 rfl delD_info) rfl ⟨rfl, ((Below.refl _ _).alloc (Nat.le_refl _) _).alloc (by simp) _⟩
end Go.Proofs.Ytpkgjokehgihjaa

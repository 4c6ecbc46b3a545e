/- The walk of Right. -/
import Derived.Test.YtpkgjokehgihjaaGreatFrame
import Derived.Test.YtpkgjokehgihjaaGreatGen
import Derived.Test.YtpkgjokehgihjaaGreatInfos
import Derived.Test.YtpkgjokehgihjaaGreatMarkMath
import Derived.Test.YtpkgjokehgihjaaGreatOwnL
import Derived.Test.YtpkgjokehgihjaaGreatRollMath
import Derived.Test.YtpkgjokehgihjaaGreatRows
import Derived.Test.YtpkgjokehgihjaaGreatSigAt
import Derived.Test.YtpkgjokehgihjaaGreatSignAW
import Derived.Test.YtpkgjokehgihjaaGreatSignMath
import Derived.Test.YtpkgjokehgihjaaGreatWkX
import Derived.BigQuiet
import Derived.BigRegion
import Derived.Deep.CutBlock
import Derived.Deep.DeepCutAuto
import Derived.Deep.QuietTactic
import Derived.Deep.RegionLaw
import Derived.IntWalk
import Derived.Laws.BitsAllLaws
import Derived.Laws.Rows
import Derived.Lib.Hide
import Derived.Outline
import Derived.StillTailTactics
import Derived.WalkKit
import Derived.WalkLawsBesides
import Derived.WalkSpells
set_option linter.unusedVariables false
namespace Go.Proofs.YtpkgjokehgihjaaGreat
open Go.RowKit

/-- May a signature be? -/
def okB (b : Int) : Bool := decide (16 ≤ b ∧ b ≤ 1024)
def okN (n : Int) : Bool := decide (0 ≤ n ∧ n ≤ 524288)
def rightS (b n : Int) (ws : List Int) (ms : List Txt) : Bool :=
  okB b && okN n && decide (ws.length = nBlk n.toNat b.toNat) && decide (ms.length = nBlk n.toNat b.toNat) && ws.all sumOk && ms.all markOk
theorem okB_iff (b : Int) : okB b = true ↔ 16 ≤ b ∧ b ≤ 1024 := by simp [okB]
theorem okN_iff (n : Int) : okN n = true ↔ 0 ≤ n ∧ n ≤ 524288 := by simp [okN]
theorem row_int {N : Nat → Prop} {w : World} {v : Value} {ws : List Nat} (h : Row encN N w v ws) : Row (Value.int .i64) N w v (ws.map (fun n : Nat => (n : Int))) := by
  obtain ⟨a, c, rfl, hc⟩ := h
  refine ⟨a, c, by rw [List.length_map], fun i hi => ?_⟩
  obtain ⟨b, o, rfl, hN, hcell⟩ := hc i (by simpa using hi)
  exact ⟨b, o, rfl, hN, by rw [List.getElem_map]; exact hcell⟩

set_option maxRecDepth 100000 in
set_option maxHeartbeats 1000000 in
theorem sigRight_any (b n : Int) (ws : List Int) (ms : List Txt) (vw vs : Value) (N1 N2 : Nat → Prop) (w : World) (h1 : Row (Value.int .i64) N1 w vw ws) (h2 : Row encT N2 w vs ms) (hl1 : ws.length ≤ 1000000) (hl2 : ms.length ≤ 1000000) :
    Calls Tryz.prog 50 #[sigV b n vw vs] w fun e w' => e = .returned (.bool (rightS b n ws ms)) ∧ Below w.heap.size w w' := by
  have IB := fun w' => Lib.hid (show Calls _ _ _ w' fun e w'' => e = .returned (.bool (okB b)) ∧ w' = w'' from isBlock_any b w')
  have IS := fun w' => Lib.hid (show Calls _ _ _ w' fun e w'' => e = .returned (.bool (okN n)) ∧ w' = w'' from isSize_any n w')
  have HB := Lib.hid ((Below.refl w.heap.size w).alloc (Nat.le_refl _) (sigC b n vw vs))
  obtain ⟨R, hR⟩ : ∃ R, R = rightS b n ws ms := ⟨_, rfl⟩
  rw [← hR]
  unfold rightS at hR
  by_cases hb : okB b = true
  · have hb2 := (okB_iff b).1 hb
    rw [hb] at IB hR
    by_cases hn : okN n = true
    · have hn2 := (okN_iff n).1 hn
      rw [hn] at IS hR
      obtain ⟨B, rfl⟩ : ∃ B : Nat, b = (B : Int) := ⟨b.toNat, by omega⟩
      obtain ⟨M, rfl⟩ : ∃ M : Nat, n = (M : Int) := ⟨n.toNat, by omega⟩
      rw [Int.toNat_natCast, Int.toNat_natCast] at hR
      have BL := fun w' => Lib.hid (blocks_any M B vw vs w' (by omega) (by omega) (by omega))
      have h1' : ∀ w', Below w.heap.size w w' → Row (Value.int .i64) N1 w' vw ws := fun w' hb' => h1.kept (Kept.new hb' (fun _ => False)) (fun _ _ => id)
      have h2' : ∀ w', Below w.heap.size w w' → Row encT N2 w' vs ms := fun w' hb' => h2.kept (Kept.new hb' (fun _ => False)) (fun _ _ => id)
      have A1 := Lib.hid (fun w' hb' => allSums_any ws vw N1 w' (h1' w' hb') hl1)
      have A2 := Lib.hid (fun w' hb' => allMarks_any ms vs N2 w' (h2' w' hb') hl2)
      clear h1' h2'
      obtain ⟨a1, k1, rfl, _⟩ := h1
      obtain ⟨a2, k2, rfl, _⟩ := h2
      generalize nBlk M B = q at *
      have HR := Lib.hid hR; clear hR hb hn
      have G0 := Lib.hid (heap_alloc_new w (sigC B M (.slice a1 ws.length k1) (.slice a2 ms.length k2)))
      go_enter Tryz.func50, Tryz.ntmps50
      go_wp2_with fail
      generalize w.alloc (.cells #[.int .i64 B, .int .i64 M, .slice a1 ws.length k1, .slice a2 ms.length k2] 58) = w0 at *
      have c0 : w0.cell? ⟨w.heap.size, 0, none⟩ = some (.int .i64 B) := by rw [cell_of_row _ _ _ _ _ _ G0.out]; rfl
      have c1 : w0.cell? ⟨w.heap.size, 1, none⟩ = some (.int .i64 M) := by rw [cell_of_row _ _ _ _ _ _ G0.out]; rfl
      have c2 : w0.cell? ⟨w.heap.size, 2, none⟩ = some (.slice a1 ws.length k1) := by rw [cell_of_row _ _ _ _ _ _ G0.out]; rfl
      have c3 : w0.cell? ⟨w.heap.size, 3, none⟩ = some (.slice a2 ms.length k2) := by rw [cell_of_row _ _ _ _ _ _ G0.out]; rfl
      refine (IB _).out.mono ?_
      rintro e w' ⟨rfl, rfl⟩
      go_wp2_with fail
      refine (IS _).out.mono ?_
      rintro e w' ⟨rfl, rfl⟩
      go_wp2_with fail
      refine (BL _).out.mono ?_
      rintro e w1 ⟨rfl, hb1⟩
      have hold : w1.heap[w.heap.size]? = some (sigC B M (.slice a1 ws.length k1) (.slice a2 ms.length k2)) := (hb1.block _ (Array.getElem?_eq_some_iff.1 G0.out).1).trans G0.out
      have d2 : w1.cell? ⟨w.heap.size, 2, none⟩ = some (.slice a1 ws.length k1) := by rw [cell_of_row _ _ _ _ _ _ hold]; rfl
      have d3 : w1.cell? ⟨w.heap.size, 3, none⟩ = some (.slice a2 ms.length k2) := by rw [cell_of_row _ _ _ _ _ _ hold]; rfl
      have B1 := Lib.hid (HB.out.trans (hb1.mono HB.out.size))
      clear hold hb1 c0 c1 c2 c3
      by_cases e1 : ws.length = q
      · have q1 : ((ws.length : Int) == (q : Int)) = true := by simp; omega
        by_cases e2 : ms.length = q
        · have q2 : ((ms.length : Int) == (q : Int)) = true := by simp; omega
          have HR2 := Lib.hid (show R = (ws.all sumOk && ms.all markOk) by rw [HR.out, decide_eq_true e1, decide_eq_true e2]; rfl)
          clear HR e1 e2
          cases ha : ws.all sumOk with
          | false =>
            have HR3 := Lib.hid (show R = false by rw [HR2.out, ha]; rfl)
            have AA := Lib.hid (A1.out w1 B1.out)
            rw [ha] at AA
            clear ha HR2
            go_wp2_with fail
            refine AA.out.mono ?_
            rintro e w' ⟨rfl, rfl⟩
            go_wp2
            go_ret
            rw [HR3.out]
            exact ⟨rfl, B1.out⟩
          | true =>
            have HR3 := Lib.hid (show R = ms.all markOk by rw [HR2.out, ha]; rfl)
            have AA := Lib.hid (A1.out w1 B1.out)
            rw [ha] at AA
            have AB := Lib.hid (A2.out w1 B1.out)
            rw [← HR3.out] at AB
            clear ha HR2
            go_wp2_with fail
            refine AA.out.mono ?_
            rintro e w' ⟨rfl, rfl⟩
            go_wp2_with fail
            refine AB.out.mono ?_
            rintro e w' ⟨rfl, rfl⟩
            go_wp2
            go_ret
            exact ⟨rfl, B1.out⟩
        · have q2 : ((ms.length : Int) == (q : Int)) = false := by simp; omega
          have HR2 := Lib.hid (show R = false by rw [HR.out, decide_eq_false e2]; simp)
          clear HR e1 e2
          go_wp2
          go_ret
          rw [HR2.out]
          exact ⟨rfl, B1.out⟩
      · have q1 : ((ws.length : Int) == (q : Int)) = false := by simp; omega
        have HR2 := Lib.hid (show R = false by rw [HR.out, decide_eq_false e1]; simp)
        clear HR e1
        go_wp2
        go_ret
        rw [HR2.out]
        exact ⟨rfl, B1.out⟩
    · have hn3 : okN n = false := by simpa using hn
      rw [hn3] at IS hR
      simp only [Bool.and_false, Bool.false_and] at hR
      subst hR
      clear hn hn3
      go_enter Tryz.func50, Tryz.ntmps50
      go_wp2_with fail
      refine (IB _).out.mono ?_
      rintro e w' ⟨rfl, rfl⟩
      go_wp2_with fail
      refine (IS _).out.mono ?_
      rintro e w' ⟨rfl, rfl⟩
      go_wp2
      go_ret
      exact ⟨rfl, HB.out⟩
  · have hb3 : okB b = false := by simpa using hb
    rw [hb3] at IB hR
    simp only [Bool.false_and] at hR
    subst hR
    clear hb hb3
    go_enter Tryz.func50, Tryz.ntmps50
    go_wp2_with fail
    refine (IB _).out.mono ?_
    rintro e w' ⟨rfl, rfl⟩
    go_wp2
    go_ret
    exact ⟨rfl, HB.out⟩
end Go.Proofs.YtpkgjokehgihjaaGreat

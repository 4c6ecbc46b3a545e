/- The walk of the document's Right. -/
import Derived.Test.YtcbodpcekjngbaaGreatFrame
import Derived.Test.YtcbodpcekjngbaaGreatGen
import Derived.Test.YtcbodpcekjngbaaGreatInfos
import Derived.Test.YtcbodpcekjngbaaGreatMarkMath
import Derived.Test.YtcbodpcekjngbaaGreatOwnL
import Derived.Test.YtcbodpcekjngbaaGreatRightW
import Derived.Test.YtcbodpcekjngbaaGreatRows
import Derived.Test.YtcbodpcekjngbaaGreatSameW
import Derived.Test.YtcbodpcekjngbaaGreatSigAt
import Derived.Test.YtcbodpcekjngbaaGreatSignAW
import Derived.Test.YtcbodpcekjngbaaGreatSignMath
import Derived.Test.YtcbodpcekjngbaaGreatWkX
import Derived.BigQuiet
import Derived.BigRegion
import Derived.Deep.CutBlock
import Derived.Deep.DeepCutAuto
import Derived.Deep.QuietTactic
import Derived.Deep.RegionLaw
import Derived.IntWalk
import Derived.Laws.BitsAllLaws
import Derived.Laws.Rows
import Derived.Lib.Hide
import Derived.Outline
import Derived.StillTailTactics
import Derived.WalkKit
import Derived.WalkLawsBesides
import Derived.WalkSpells
set_option linter.unusedVariables false
namespace Go.Proofs.YtcbodpcekjngbaaGreat
open Go.RowKit

theorem all_take_succ {α : Type} (xs : List α) (p : α → Bool) (k : Nat) (hk : k < xs.length) (h : (xs.take k).all p = true) (hx : p xs[k] = true) : (xs.take (k + 1)).all p = true := by
  rw [List.take_succ_eq_append_getElem hk, List.all_append, h]; simpa using hx
theorem all_not {α : Type} (xs : List α) (p : α → Bool) (k : Nat) (hk : k < xs.length) (hx : p xs[k] = false) : xs.all p = false := by
  rw [List.all_eq_false]; exact ⟨xs[k], List.getElem_mem _, by simp [hx]⟩

set_option maxRecDepth 100000 in
set_option maxHeartbeats 2000000 in
theorem refRight_any (b n : Int) (ws : List Int) (ms : List Txt) (vw vs : Value) (N1 N2 : Nat → Prop) (w : World) (h1 : Row (Value.int .i64) N1 w vw ws) (h2 : Row encT N2 w vs ms) (hl1 : ws.length ≤ 1000000) (hl2 : ms.length ≤ 1000000) :
    Calls Tryz.prog 23 #[sigV b n vw vs] w fun e w' => e = .returned (.bool (rightS b n ws ms)) ∧ Below w.heap.size w w' := by
  have HB := Lib.hid ((Below.refl w.heap.size w).alloc (Nat.le_refl _) (sigC b n vw vs))
  obtain ⟨R, hR⟩ : ∃ R, R = rightS b n ws ms := ⟨_, rfl⟩
  rw [← hR]
  unfold rightS at hR
  by_cases b1 : b < 16
  · have e : R = false := by rw [hR, show okB b = false by simp [okB]; omega]; rfl
    subst e
    clear hR
    go_enter Tryz.func23, Tryz.ntmps23
    go_wp2
    go_ret
    exact ⟨rfl, HB.out⟩
  by_cases b2 : 1024 < b
  · have e : R = false := by rw [hR, show okB b = false by simp [okB]; omega]; rfl
    subst e
    clear hR
    go_enter Tryz.func23, Tryz.ntmps23
    go_wp2
    go_ret
    exact ⟨rfl, HB.out⟩
  by_cases n1 : n < 0
  · have e : R = false := by rw [hR, show okN n = false by simp [okN]; omega]; simp
    subst e
    clear hR
    go_enter Tryz.func23, Tryz.ntmps23
    go_wp2
    go_ret
    exact ⟨rfl, HB.out⟩
  by_cases n2 : 524288 < n
  · have e : R = false := by rw [hR, show okN n = false by simp [okN]; omega]; simp
    subst e
    clear hR
    go_enter Tryz.func23, Tryz.ntmps23
    go_wp2
    go_ret
    exact ⟨rfl, HB.out⟩
  obtain ⟨B, rfl⟩ : ∃ B : Nat, b = (B : Int) := ⟨b.toNat, by omega⟩
  obtain ⟨M, rfl⟩ : ∃ M : Nat, n = (M : Int) := ⟨n.toNat, by omega⟩
  obtain ⟨E1, E2, E4⟩ := nBlk_num M B (by omega) (by omega) (by omega)
  have E3 : ((M : Int) + (B : Int) - 1) / (B : Int) = ((nBlk M B : Nat) : Int) := by rw [show (M : Int) + B - 1 = ((M + B - 1 : Nat) : Int) by omega]; rfl
  rw [Int.toNat_natCast, Int.toNat_natCast, show okB (B : Int) = true by simp [okB]; omega, show okN (M : Int) = true by simp [okN]; omega, Bool.true_and, Bool.true_and] at hR
  have hb0 : ((B : Int) == 0) = false := by simp; omega
  have h1' : ∀ w', Below w.heap.size w w' → Row (Value.int .i64) N1 w' vw ws := fun w' hb' => h1.kept (Kept.new hb' (fun _ => False)) (fun _ _ => id)
  have h2' : ∀ w', Below w.heap.size w w' → Row encT N2 w' vs ms := fun w' hb' => h2.kept (Kept.new hb' (fun _ => False)) (fun _ _ => id)
  have H1 := Lib.hid (h1' _ HB.out)
  have H2 := Lib.hid (h2' _ HB.out)
  clear h1' h2'
  obtain ⟨a1, k1, rfl, _⟩ := h1
  obtain ⟨a2, k2, rfl, _⟩ := h2
  have G0 := Lib.hid (heap_alloc_new w (sigC B M (.slice a1 ws.length k1) (.slice a2 ms.length k2)))
  generalize nBlk M B = q at *
  have HR := Lib.hid hR; clear hR
  by_cases e1 : ws.length = q
  · have q1 : ((ws.length : Int) != (q : Int)) = false := by simp; omega
    by_cases e2 : ms.length = q
    · have q2 : ((ms.length : Int) != (q : Int)) = false := by simp; omega
      have HR2 := Lib.hid (show R = (ws.all sumOk && ms.all markOk) by rw [HR.out, decide_eq_true e1, decide_eq_true e2]; rfl)
      have HE1 := Lib.hid e1; clear e1
      have HE2 := Lib.hid e2; clear e2 HR
      have HU := Lib.hid (show ∀ w', w' = w.alloc (sigC B M (.slice a1 ws.length k1) (.slice a2 ms.length k2)) → Row (Value.int .i64) N1 w' (.slice a1 ws.length k1) ws ∧ Row encT N2 w' (.slice a2 ms.length k2) ms ∧ Below w.heap.size w w' ∧ w'.heap[w.heap.size]? = some (sigC B M (.slice a1 ws.length k1) (.slice a2 ms.length k2)) from fun w' e => by subst e; exact ⟨H1.out, H2.out, HB.out, G0.out⟩)
      clear H1 H2 HB G0
      go_enter Tryz.func23, Tryz.ntmps23
      go_wp2
      obtain ⟨w0, hw0⟩ : ∃ w0, w0 = w.alloc (sigC B M (.slice a1 ws.length k1) (.slice a2 ms.length k2)) := ⟨_, rfl⟩
      obtain ⟨r1, r2, hb0', g0⟩ := HU.out w0 hw0
      rw [← hw0]
      clear hw0 HU
      obtain ⟨_, _, hv1, hc1⟩ := r1
      injection hv1 with ea1 en1 ec1
      clear en1 ec1
      subst ea1
      obtain ⟨_, _, hv2, hc2⟩ := r2
      injection hv2 with ea2 en2 ec2
      clear en2 ec2
      subst ea2
      have HC1 := Lib.hid hc1
      have HC2 := Lib.hid hc2
      have B0 := Lib.hid hb0'
      have c2 := sig_c2 g0
      have c3 := sig_c3 g0
      clear hc1 hc2 hb0' g0
      go_loop [4] (fun i => ∃ k : Nat, k ≤ q ∧ i = .int .i64 k ∧ (ws.take k).all sumOk = true ∧ (ms.take k).all markOk = true) (fun i => q - (intOf i).toNat)
      case atStart => exact ⟨0, by omega, rfl, rfl, rfl⟩
      case round =>
        obtain ⟨k, hk, rfl, ha1, ha2⟩ := hrel
        have HA1 := Lib.hid ha1; clear ha1
        have HA2 := Lib.hid ha2; clear ha2
        by_cases hlt : k < q
        · have hk1 : k < ws.length := by rw [HE1.out]; exact hlt
          have hk2 : k < ms.length := by rw [HE2.out]; exact hlt
          obtain ⟨b1', o1, rfl, _, cc1⟩ := HC1.out k hk1
          obtain ⟨b2', o2, rfl, _, cc2⟩ := HC2.out k hk2
          unfold encT at cc2
          have NX1 := Lib.hid (all_take_succ ws sumOk k hk1 HA1.out)
          have NX2 := Lib.hid (all_take_succ ms markOk k hk2 HA2.out)
          have NO1 := Lib.hid (all_not ws sumOk k hk1)
          have NO2 := Lib.hid (all_not ms markOk k hk2)
          have i0 : (0 : Int) ≤ (k : Int) := by omega
          have i1 : (k : Int) < (ws.length : Int) := by omega
          have i2 : (k : Int) < (ms.length : Int) := by omega
          have i3 : (k : Int) < (q : Int) := by omega
          generalize ws[k] = x at *
          generalize ms[k] = t at *
          have L := Lib.hid (show (⟨t.toArray⟩ : ByteArray).size = t.length from rfl)
          by_cases x1 : x < 0
          · have e : R = false := by rw [HR2.out, NO1.out (by simp [sumOk]; omega)]; rfl
            subst e
            clear HR2
            go_wp2
            go_ret
            exact ⟨rfl, B0.out⟩
          by_cases x2 : 4294967295 < x
          · have e : R = false := by rw [HR2.out, NO1.out (by simp [sumOk]; omega)]; rfl
            subst e
            clear HR2
            go_wp2
            go_ret
            exact ⟨rfl, B0.out⟩
          by_cases t1 : t.length = 32
          · have t2 : ((t.length : Int) != 32) = false := by simp; omega
            have N1' := Lib.hid (NX1.out (by simp [sumOk]; omega))
            have N2' := Lib.hid (NX2.out (by simp [markOk]; exact t1))
            clear t1 NX1 NX2 NO1 NO2
            go_wp2
            go_round
            case rel => exact ⟨k + 1, by omega, by go_num, N1'.out, N2'.out⟩
            case measure => simp [intOf]; omega
          · have t2 : ((t.length : Int) != 32) = true := by simp; omega
            have e : R = false := by rw [HR2.out, NO2.out (by simp [markOk]; exact t1)]; simp
            subst e
            clear HR2 t1
            go_wp2
            go_ret
            exact ⟨rfl, B0.out⟩
        · have i3 : ¬ (k : Int) < (q : Int) := by omega
          have e : R = true := by
            rw [HR2.out]
            have h1 := HA1.out
            have h2 := HA2.out
            rw [List.take_of_length_le (by rw [HE1.out]; omega)] at h1
            rw [List.take_of_length_le (by rw [HE2.out]; omega)] at h2
            rw [h1, h2]
            rfl
          subst e
          clear HR2
          go_wp2
          go_ret
          exact ⟨rfl, B0.out⟩
    · have q2 : ((ms.length : Int) != (q : Int)) = true := by simp; omega
      have e : R = false := by rw [HR.out, decide_eq_false e2]; simp
      subst e
      clear HR e1 e2
      go_enter Tryz.func23, Tryz.ntmps23
      go_wp2
      go_ret
      exact ⟨rfl, HB.out⟩
  · have q1 : ((ws.length : Int) != (q : Int)) = true := by simp; omega
    have e : R = false := by rw [HR.out, decide_eq_false e1]; simp
    subst e
    clear HR e1
    go_enter Tryz.func23, Tryz.ntmps23
    go_wp2
    go_ret
    exact ⟨rfl, HB.out⟩
end Go.Proofs.YtcbodpcekjngbaaGreat

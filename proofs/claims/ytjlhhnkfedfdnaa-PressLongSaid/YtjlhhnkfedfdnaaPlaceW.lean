/- (*places).add and (*places).longest. -/
import Derived.Test.YtjlhhnkfedfdnaaAlikeW
import Derived.Test.YtjlhhnkfedfdnaaFrame
import Derived.Test.YtjlhhnkfedfdnaaGen
import Derived.Test.YtjlhhnkfedfdnaaMarkMath
import Derived.Test.YtjlhhnkfedfdnaaOwnL
import Derived.Test.YtjlhhnkfedfdnaaPlaceMath
import Derived.Test.YtjlhhnkfedfdnaaReadW
import Derived.Test.YtjlhhnkfedfdnaaRows
import Derived.BigQuiet
import Derived.Deep.Cut
import Derived.Deep.DeepCutAuto
import Derived.Deep.QuietTactic
import Derived.IntWalk
import Derived.Lib.Hide
import Derived.Outline
import Derived.StillTailTactics
import Derived.WalkKit
import Derived.WalkLawsBesides
import Derived.WalkSpells
set_option linter.unusedVariables false
namespace Go.Proofs.Ytjlhhnkfedfdnaa
open Go.RowKit

/-! ### add, longest -/
set_option maxRecDepth 100000 in
set_option maxHeartbeats 1000000 in
theorem add_press (s : Txt) (p q : Nat) (L A : Nat → Nat) (w : World) (hs : s.length ≤ 1048576) (hp : p < s.length) (hpl : PlAt w q s L A) (hin : PlInv s p L A) :
    Calls Try.prog 23 #[.pointer (some ⟨q, 0, none⟩), .int .i64 p] w fun e w' => e = .returned (.tuple #[]) ∧ (∃ L' A', PlAt w' q s L' A' ∧ PlInv s (p + 1) L' A') ∧ Kept (· = q) w w' := by
  have HP := Lib.hid hpl
  have HC := hpl.text
  have SL := Lib.hid (show (⟨s.toArray⟩ : ByteArray).size = s.length from rfl)
  by_cases h4 : p + 4 ≤ s.length
  · have HI := Lib.hid (hin.add h4)
    have CH := Lib.hid (chain_press s p q L A w hs h4 hpl)
    have hc := hashS_lt s p
    have CL := hpl.cellL (hashS s p) hc
    generalize hr : p % 4096 = r at *
    have T1 : Int.tmod (p : Int) 4096 = (r : Int) := by rw [← hr]; rfl
    have T2 : (p : Int) % 4096 = (r : Int) := by omega
    have rb : r < 4096 := by omega
    have i1 : ¬ (s.length : Int) < (p : Int) + 4 := by omega
    generalize hashS s p = c at *
    have c1 : (c : Int) < 8192 := by omega
    have r1 : (r : Int) < 4096 := by omega
    have r0 : (0 : Int) ≤ (r : Int) := by omega
    have c0 : (0 : Int) ≤ (c : Int) := by omega
    clear hpl hin hr
    go_enter Try.func23, Try.ntmps23
    go_wp2_with fail
    refine CH.out.mono ?_
    rintro e w1 ⟨rfl, rfl⟩
    clear CH
    have HPd := Lib.hid (show PlAt w.drew q s L A from HP.out)
    have HKd := Lib.hid (show Kept (· = q) w w.drew from (Kept.refl _ _).drew)
    go_wp2_with fail
    as_aux_lemma =>
      go_still_tail 12, (by kernel_rfl)
      change wpList _ _ _ _ _ w.drew
      clear CL HC
      generalize w.drew = w1 at *
      have CA := HPd.out.cellA r rb
      have FA := HPd.out.frozen (8193 + r)
      have HP2 := Lib.hid (HPd.out.setA r (L c) rb)
      have HK2 := Lib.hid (HKd.out.setCell (p := ⟨q, 8193 + r, none⟩) rfl (.int .i64 ((L c : Nat) : Int)))
      have CL2 := HP2.out.cellL c hc
      have F2 := HP2.out.frozen (1 + c)
      have HP3 := Lib.hid (HP2.out.setL c (p + 1) hc)
      have HK3 := Lib.hid (HK2.out.setCell (p := ⟨q, 1 + c, none⟩) rfl (.int .i64 ((p + 1 : Nat) : Int)))
      rw [show ((p + 1 : Nat) : Int) = (p : Int) + 1 by omega] at HP3 HK3
      clear HPd HKd HP2 HK2
      go_wp2_with fail
      go_end0
      exact ⟨rfl, ⟨_, _, HP3.out, HI.out⟩, HK3.out⟩
  · have HI := Lib.hid (hin.skip h4)
    have i1 : (s.length : Int) < (p : Int) + 4 := by omega
    clear hin
    go_enter Try.func23, Try.ntmps23
    go_wp2_with fail
    refine bodyPost_ret (results_none rfl _ _ _) rfl ?_
    exact ⟨rfl, ⟨L, A, HP.out, HI.out⟩, Kept.refl _ _⟩
end Go.Proofs.Ytjlhhnkfedfdnaa

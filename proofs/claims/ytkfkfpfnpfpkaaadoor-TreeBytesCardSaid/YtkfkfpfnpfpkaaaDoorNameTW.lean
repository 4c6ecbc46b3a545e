/- Landed tree: isName, walked: a name is gone through sign by sign. -/
import Derived.Test.YtkfkfpfnpfpkaaaDoorFrame
import Derived.Test.YtkfkfpfnpfpkaaaDoorGen
import Derived.Test.YtkfkfpfnpfpkaaaDoorMarkMath
import Derived.Test.YtkfkfpfnpfpkaaaDoorProg
import Derived.Test.YtkfkfpfnpfpkaaaDoorReadMath
import Derived.Test.YtkfkfpfnpfpkaaaDoorReadW
import Derived.Test.YtkfkfpfnpfpkaaaDoorRowN
import Derived.Test.YtkfkfpfnpfpkaaaDoorRows
import Derived.Test.YtkfkfpfnpfpkaaaDoorTreeMath
import Derived.BigQuiet
import Derived.Laws.RangeAny
import Derived.Lib.Hide
import Derived.LoopTactic
import Derived.WalkKit
import Derived.WalkLawsBesides
import Derived.WalkSpells
set_option linter.unusedVariables false
namespace Go.Proofs.YtkfkfpfnpfpkaaaDoor
open Go.RowKit

theorem Below_iter (w : World) (s : ByteArray) (p : Nat) : Below w.heap.size w (w.iter s p) := (Below.refl _ w).alloc (Nat.le_refl _) _
set_option maxRecDepth 100000 in
set_option maxHeartbeats 1000000 in
theorem isName_any (s : Txt) (w : World) (hs : s.length ≤ 140737488351232) :
    Calls Tryd.prog 45 #[.string ⟨s.toArray⟩] w fun e w' => e = .returned (.bool (nameS s)) ∧ Below w.heap.size w w' := by
  have SA := Lib.hid (show (⟨s.toArray⟩ : ByteArray).size = s.length from rfl)
  by_cases h0 : s = []
  · subst h0
    go_enter Tryd.func45, Tryd.ntmps45
    go_wp2_with fail
    go_ret
    exact ⟨rfl, Below.refl _ _⟩
  by_cases h1 : 32 < s.length
  · have HR := Lib.hid (show nameS s = false by unfold nameS; rw [decide_eq_false (by omega)]; simp)
    rw [HR.out]
    have j1 : (32 : Int) < (s.length : Int) := by omega
    go_enter Tryd.func45, Tryd.ntmps45
    go_wp2_with fail
    go_ret
    exact ⟨rfl, Below.refl _ _⟩
  by_cases h2 : s = [46]
  · subst h2
    go_enter Tryd.func45, Tryd.ntmps45
    go_wp2_with fail
    go_ret
    exact ⟨rfl, Below.refl _ _⟩
  by_cases h3 : s = [46, 46]
  · subst h3
    go_enter Tryd.func45, Tryd.ntmps45
    go_wp2_with fail
    go_ret
    exact ⟨rfl, Below.refl _ _⟩
  have HR := Lib.hid (show nameS s = s.all okC by unfold nameS; rw [decide_eq_true (by omega), beq_eq_false_iff_ne.2 h0, beq_eq_false_iff_ne.2 h2, beq_eq_false_iff_ne.2 h3]; simp)
  rw [HR.out]
  obtain ⟨res, hres⟩ : ∃ res, res = s.all okC := ⟨_, rfl⟩
  rw [← hres]
  have H0 := Lib.hid (show (s.drop 0).all okC = res from hres.symm)
  clear HR hres
  have j1 : ¬ (32 : Int) < (s.length : Int) := by omega
  have q0 : s.isEmpty = false := by cases s <;> simp_all
  have q2 : (s == [46]) = false := beq_eq_false_iff_ne.2 h2
  have q3 : (s == [46, 46]) = false := beq_eq_false_iff_ne.2 h3
  clear h0 h1 h2 h3
  go_enter Tryd.func45, Tryd.ntmps45
  go_wp2_with fail
  clear q0 q2 q3
  go_loopw [4] (fun v4 wr => ∃ k : Nat, k ≤ s.length ∧ wr = w.iter ⟨s.toArray⟩ k ∧ Hid ((s.drop k).all okC = res)) (fun v4 wr => s.length - wr.iterPos w.heap.size)
  case atStart => exact ⟨0, by omega, rfl, H0⟩
  case round =>
    clear H0
    obtain ⟨k, hk, rfl, HA⟩ := hrel
    have HW := Lib.hid (fun p => Below_iter w ⟨s.toArray⟩ p)
    by_cases hlt : k < s.length
    · have HC := Lib.hid (show (s.drop k).all okC = (okC s[k] && (s.drop (k + 1)).all okC) by rw [List.drop_eq_getElem_cons hlt]; rfl)
      have hby := s[k].toNat_lt
      by_cases ha : s[k].toNat < 128
      · have hn : ∀ ty, (Instr.next (.pointer (some ⟨w.heap.size, 0, none⟩)) true ty).run Tryd.prog (w.iter ⟨s.toArray⟩ k) = .ok (.tuple #[.bool true, .int .i64 k, .int .i32 (s[k].toNat : Nat)]) (w.iter ⟨s.toArray⟩ (k + 1)) := fun ty => run_next_ascii (P := Tryd.prog) w ⟨s.toArray⟩ k ty hlt ha
        by_cases hc : 33 ≤ s[k].toNat ∧ s[k].toNat ≤ 126
        · have HR := Lib.hid (show (s.drop (k + 1)).all okC = res by
            rw [← HA.out, HC.out]
            have : okC s[k] = true := by unfold okC; rw [decide_eq_true hc.1, decide_eq_true hc.2]; rfl
            rw [this, Bool.true_and])
          clear HC
          generalize s[k].toNat = c at *
          have c1 : ¬ (c : Int) < 33 := by omega
          have c2 : ¬ (126 : Int) < (c : Int) := by omega
          go_wp2_with fail
          go_roundw
          case rel => exact ⟨k + 1, hlt, rfl, HR⟩
          case measure => simp only [World.iterPos_iter]; omega
        · have HR := Lib.hid (show false = res by
            rw [← HA.out, HC.out]
            have : okC s[k] = false := by
              unfold okC
              by_cases h : 33 ≤ s[k].toNat
              · rw [decide_eq_false (show ¬ s[k].toNat ≤ 126 from fun h' => hc ⟨h, h'⟩), Bool.and_false]
              · rw [decide_eq_false h, Bool.false_and]
            rw [this, Bool.false_and])
          clear HC
          generalize s[k].toNat = c at *
          by_cases c1 : (c : Int) < 33
          · go_wp2_with fail
            go_ret
            exact ⟨by rw [← HR.out]; rfl, HW.out _⟩
          · have c2 : (126 : Int) < (c : Int) := by omega
            go_wp2_with fail
            go_ret
            exact ⟨by rw [← HR.out]; rfl, HW.out _⟩
      · have hn := fun ty => run_next_any (P := Tryd.prog) w ⟨s.toArray⟩ k ty hlt
        have hd := (decode_high ⟨s.toArray⟩ k hlt (by show 128 ≤ s[k].toNat; omega)).1
        have HR := Lib.hid (show false = res by
          rw [← HA.out, HC.out]
          have : okC s[k] = false := by unfold okC; rw [decide_eq_false (show ¬ s[k].toNat ≤ 126 by omega), Bool.and_false]
          rw [this, Bool.false_and])
        clear HC
        generalize (Utf8.decode ⟨s.toArray⟩ k).1 = c at *
        generalize (Utf8.decode ⟨s.toArray⟩ k).2 = d at *
        have c1 : ¬ (c : Int) < 33 := by omega
        have c2 : (126 : Int) < (c : Int) := by omega
        go_wp2_with fail
        go_ret
        exact ⟨by rw [← HR.out]; rfl, HW.out _⟩
    · obtain rfl : k = s.length := by omega
      have hn := fun ty => run_next_end (P := Tryd.prog) w ⟨s.toArray⟩ s.length ty (by show ¬ s.length < s.length; omega)
      have HR := Lib.hid (show true = res by rw [← HA.out, List.drop_eq_nil_of_le (Nat.le_refl _)]; rfl)
      go_wp2_with fail
      go_ret
      exact ⟨by rw [← HR.out]; rfl, HW.out _⟩
end Go.Proofs.YtkfkfpfnpfpkaaaDoor

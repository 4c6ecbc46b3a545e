/- The document's keep: policies, places, Check. -/
import Derived.Test.YtgejocceegadhaaGen
import Derived.Test.YtgejocceegadhaaKeepMath
import Derived.Test.YtgejocceegadhaaRowN
import Derived.Test.YtgejocceegadhaaRows
import Derived.BigQuiet
import Derived.Deep.QuietTactic
import Derived.Lib.Hide
import Derived.OpenShut
import Derived.Outline
import Derived.ProofKit
import Derived.ShutString
import Derived.SizedLaws
import Derived.SliceStrings
import Derived.WalkKit
import Derived.WalkLawsBesides
import Derived.WalkSpells
set_option linter.unusedVariables false
namespace Go.Proofs.Ytgejocceegadhaa
open Go.RowKit

def PolIn (l e : Int) : Prop := (-9223372036854775808 ≤ l ∧ l ≤ 9223372036854775807) ∧ (-9223372036854775808 ≤ e ∧ e ≤ 9223372036854775807)
def polV (l e : Int) : Value := .agg #[.int .i64 l, .int .i64 e]
set_option maxRecDepth 100000 in
theorem refRight12_any (l e : Int) (w : World) (h : PolIn l e) : Calls Try.prog 11 #[polV l e] w fun en w' => en = .returned (.bool (rightP l e)) ∧ Below w.heap.size w w' := by
  obtain ⟨⟨a1, a2⟩, a3, a4⟩ := h
  have HB := Lib.hid ((Below.refl _ w).alloc (Nat.le_refl _) (.cells #[.int .i64 l, .int .i64 e] 23))
  unfold polV
  by_cases h1 : 1 ≤ l
  · by_cases h2 : l ≤ 1048576
    · by_cases h3 : 0 ≤ e
      · by_cases h4 : e ≤ 1048576
        · have HR := Lib.hid (show rightP l e = true from decide_eq_true ⟨h1, h2, h3, h4⟩)
          go_enter Try.func11, Try.ntmps11
          go_wp2_with fail
          go_ret
          exact ⟨by rw [HR.out]; rfl, HB.out⟩
        · have HR := Lib.hid (show rightP l e = false from decide_eq_false (fun c => h4 c.2.2.2))
          go_enter Try.func11, Try.ntmps11
          go_wp2_with fail
          go_ret
          exact ⟨by rw [HR.out]; rfl, HB.out⟩
      · have HR := Lib.hid (show rightP l e = false from decide_eq_false (fun c => h3 c.2.2.1))
        go_enter Try.func11, Try.ntmps11
        go_wp2_with fail
        go_ret
        exact ⟨by rw [HR.out]; rfl, HB.out⟩
    · have HR := Lib.hid (show rightP l e = false from decide_eq_false (fun c => h2 c.2.1))
      go_enter Try.func11, Try.ntmps11
      go_wp2_with fail
      go_ret
      exact ⟨by rw [HR.out]; rfl, HB.out⟩
  · have HR := Lib.hid (show rightP l e = false from decide_eq_false (fun c => h1 c.1))
    go_enter Try.func11, Try.ntmps11
    go_wp2_with fail
    go_ret
    exact ⟨by rw [HR.out]; rfl, HB.out⟩
set_option maxRecDepth 100000 in
theorem refAt12_any (v : Value) (l : List GenD) (g : Int) (w : World) {N : Nat → Prop} (hrow : RowN encGn 4 N w v l) (hl : l.length ≤ 140737488351232) :
    Calls Try.prog 23 #[v, .int .i64 g] w fun e w' => e = .returned (.int .i64 (atZ l g)) ∧ w = w' := by
  have HR := Lib.hid hrow
  obtain ⟨va, vc, hv, _⟩ := hrow.slice
  subst hv
  clear hrow
  go_enter Try.func23, Try.ntmps23
  go_wp2_with fail
  go_loopw [5] (fun v5 wr => ∃ i : Nat, i ≤ l.length ∧ v5 = .int .i64 (i : Nat) ∧ w = wr ∧ ∀ x ∈ l.take i, x.gen ≠ g) (fun v5 _ => l.length - (intOf v5).toNat)
  case atStart => exact ⟨0, Nat.zero_le _, rfl, rfl, fun x hx => by simp at hx⟩
  case round =>
    obtain ⟨i, hi, rfl, rfl, hno⟩ := hrel
    have HN := Lib.hid hno
    clear hno
    have i0 : (0 : Int) ≤ (i : Int) := by omega
    by_cases hlt : i < l.length
    · have j1 : (i : Int) < (l.length : Int) := by omega
      obtain ⟨b, o, c', hv, hn, hel⟩ := HR.out.at hlt
      injection hv with ea eb ec
      subst ea; subst ec
      clear eb
      have HT := Lib.hid (show l.take (i + 1) = l.take i ++ [l[i]] from by rw [List.take_succ_eq_append_getElem hlt])
      have HA := Lib.hid (fun (he : l[i].gen = g) => atN_first hlt HN.out he)
      generalize l[i] = x at *
      obtain ⟨xg, xb, xn, xm⟩ := x
      have d0 := hel 0 _ rfl
      rw [Nat.add_zero] at d0
      dsimp only at d0 HA
      clear hel
      by_cases he : xg = g
      · have q : (xg == g) = true := by simp [he]
        have HZ := Lib.hid (show atZ l g = (i : Int) by unfold atZ; rw [HA.out he, if_pos hlt])
        clear he
        go_wp2_with fail
        go_ret
        exact ⟨by rw [HZ.out]; rfl, rfl⟩
      · have q : (xg == g) = false := by simp [he]
        have HE := Lib.hid he
        clear he
        go_wp2_with fail
        go_roundw
        case rel =>
          refine ⟨i + 1, hlt, by go_num, trivial, fun y hy => ?_⟩
          rw [HT.out] at hy
          rcases List.mem_append.1 hy with c | c
          · exact HN.out y c
          · rw [List.mem_singleton.1 c]; exact HE.out
        case measure => simp [intOf]; omega
    · have j1 : ¬ (i : Int) < (l.length : Int) := by omega
      have HZ := Lib.hid (show atZ l g = -1 by
        have := atN_none (l := l) (g := g) (fun x hx => HN.out x (by rw [List.take_of_length_le (by omega)]; exact hx))
        unfold atZ
        rw [this, if_neg (by omega)])
      go_wp2_with fail
      go_ret
      exact ⟨by rw [HZ.out]; rfl, rfl⟩
end Go.Proofs.Ytgejocceegadhaa

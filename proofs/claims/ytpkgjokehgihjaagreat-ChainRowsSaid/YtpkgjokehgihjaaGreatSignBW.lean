/- Walks of Block, and of the document's Block; of Sign where the size of blocks may not be. -/
import Derived.Test.YtpkgjokehgihjaaGreatFrame
import Derived.Test.YtpkgjokehgihjaaGreatGen
import Derived.Test.YtpkgjokehgihjaaGreatMarkMath
import Derived.Test.YtpkgjokehgihjaaGreatOwnL
import Derived.Test.YtpkgjokehgihjaaGreatRows
import Derived.Test.YtpkgjokehgihjaaGreatSigAt
import Derived.Test.YtpkgjokehgihjaaGreatSignAW
import Derived.Test.YtpkgjokehgihjaaGreatSignW
import Derived.BigQuiet
import Derived.Deep.QuietTactic
import Derived.IntWalk
import Derived.Laws.BitsAllLaws
import Derived.Laws.Rows
import Derived.Lib.Hide
import Derived.Outline
import Derived.StillTailTactics
import Derived.WalkKit
import Derived.WalkLawsBesides
import Derived.WalkSpells
set_option linter.unusedVariables false
namespace Go.Proofs.YtpkgjokehgihjaaGreat
open Go.RowKit

/-- The sizes that are chosen among. -/
def bsN (k : Nat) : Nat := 16 * 2 ^ k
theorem bsN_succ (k : Nat) : bsN (k + 1) = 2 * bsN k := by unfold bsN; rw [Nat.pow_succ]; omega
theorem bsN_lt (k : Nat) (h : k < 6) : bsN k < 1024 ∧ 16 ≤ bsN k := by
  match k, h with
  | 0, _ => decide
  | 1, _ => decide
  | 2, _ => decide
  | 3, _ => decide
  | 4, _ => decide
  | 5, _ => decide
  | k + 6, h => omega
theorem bsN_six : bsN 6 = 1024 := by decide
theorem bsN_sq (k : Nat) (h : k ≤ 6) : bsN k * bsN k ≤ 1048576 ∧ 16 ≤ bsN k ∧ bsN k ≤ 1024 := by
  match k, h with
  | 0, _ => decide
  | 1, _ => decide
  | 2, _ => decide
  | 3, _ => decide
  | 4, _ => decide
  | 5, _ => decide
  | 6, _ => decide
  | k + 7, h => omega
/-- Number k is the one for n. -/
structure IsB (n : Int) (k : Nat) : Prop where
  le : k ≤ 6
  ahead : ∀ j, j < k → ((bsN j * bsN j : Nat) : Int) < n
  stop : k = 6 ∨ n ≤ ((bsN k * bsN k : Nat) : Int)
theorem isB_ex (n : Int) : ∃ k, IsB n k := by
  suffices h : ∀ d k, k + d = 6 → (∀ j, j < k → ((bsN j * bsN j : Nat) : Int) < n) → ∃ k, IsB n k from h 6 0 rfl (fun j hj => absurd hj (Nat.not_lt_zero j))
  intro d
  induction d with
  | zero => intro k hk h; exact ⟨k, by omega, h, .inl (by omega)⟩
  | succ d ih =>
    intro k hk h
    rcases Int.lt_or_le ((bsN k * bsN k : Nat) : Int) n with h1 | h1
    · exact ih (k + 1) (by omega) (fun j hj => by rcases Nat.lt_succ_iff_lt_or_eq.1 hj with h2 | rfl; exact h j h2; exact h1)
    · exact ⟨k, by omega, h, .inr h1⟩


/-! ### Sizes that may not be -/
set_option maxRecDepth 100000 in
theorem sign_arg (bp : Value) (s : Txt) (z : Int) (w : World) (h : z < 16 ∨ 1024 < z) :
    Calls Tryz.prog 22 #[bp, .string ⟨s.toArray⟩, .int .i64 z] w fun e w' => e = .returned (.tuple #[sigV 0 0 (.slice none 0 0) (.slice none 0 0), .int .i64 1]) ∧ Below w.heap.size w w' := by
  have IB := fun w' => Lib.hid (isBlock_no z w' h)
  have G := Lib.hid (heap_alloc_new w (sigC 0 0 (.slice none 0 0) (.slice none 0 0)))
  have B := Lib.hid ((Below.refl w.heap.size w).alloc (Nat.le_refl _) (sigC 0 0 (.slice none 0 0) (.slice none 0 0)))
  clear h
  go_enter Tryz.func22, Tryz.ntmps22
  go_wp2_with fail
  generalize w.alloc (.cells #[.int .i64 0, .int .i64 0, .slice none 0 0, .slice none 0 0] 58) = w0 at *
  refine (IB _).out.mono ?_
  rintro e w' ⟨rfl, rfl⟩
  obtain ⟨s0', s1', s2', s3', s4', s5'⟩ := sig_store (b' := 0) (n' := 0) (vw' := .slice none 0 0) (vs' := .slice none 0 0) G.out
  have S0 := s0'.1
  have S0f := s0'.2
  have S1 := s1'.1
  have S1f := s1'.2
  have S2 := s2'.1
  have S2f := s2'.2
  have S3 := s3'.1
  have S3f := s3'.2
  have S4 := Lib.hid s4'
  have S5 := Lib.hid s5'
  clear s0' s1' s2' s3' s4' s5'
  go_wp2
  exact bodyPost_ret (v := .tuple #[sigV 0 0 (.slice none 0 0) (.slice none 0 0), .int .i64 1]) (results_row_tmp Tryz.results22 _ _ w.heap.size _ _ _ _ rfl S4.out Tryz.underlying58 rfl sig_info) rfl ⟨rfl, B.out.trans (S5.out.below B.out.size (fun k e => by omega))⟩
end Go.Proofs.YtpkgjokehgihjaaGreat

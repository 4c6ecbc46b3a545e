/- The walks of Bytes and of the document's Bytes. -/
import Derived.Test.YtpkgjokehgihjaaGreatCdX
import Derived.Test.YtpkgjokehgihjaaGreatFrame
import Derived.Test.YtpkgjokehgihjaaGreatGen
import Derived.Test.YtpkgjokehgihjaaGreatMarkMath
import Derived.Test.YtpkgjokehgihjaaGreatOwnL
import Derived.Test.YtpkgjokehgihjaaGreatRightW
import Derived.Test.YtpkgjokehgihjaaGreatRows
import Derived.Test.YtpkgjokehgihjaaGreatSigAt
import Derived.Test.YtpkgjokehgihjaaGreatSignAW
import Derived.Test.YtpkgjokehgihjaaGreatSignMath
import Derived.BigQuiet
import Derived.BigRegion
import Derived.Deep.CutBlock
import Derived.Deep.DeepCutAuto
import Derived.Deep.QuietTactic
import Derived.Deep.RegionHeld3
import Derived.Deep.RegionLaw
import Derived.IntWalk
import Derived.Laws.BitsAllLaws
import Derived.Laws.Rows
import Derived.Lib.Hide
import Derived.Outline
import Derived.StillTailTactics
import Derived.WalkKit
import Derived.WalkLawsBesides
import Derived.WalkSpells
set_option linter.unusedVariables false
namespace Go.Proofs.YtpkgjokehgihjaaGreat
open Go.RowKit

/-- A signature's bytes. -/
def nbZ (x : Int) : Txt := nb x.toNat
def preS (b n : Nat) (ws : List Int) (k : Nat) : Txt := nb b ++ nb n ++ ((ws.take k).map nbZ).flatten
def bytesS (b n : Nat) (ws : List Int) (ms : List Txt) : Txt := nb b ++ nb n ++ (ws.map nbZ).flatten ++ ms.flatten
theorem preS_next (b n : Nat) (ws : List Int) (k : Nat) (hk : k < ws.length) : preS b n ws (k + 1) = preS b n ws k ++ nbZ ws[k] := by
  unfold preS
  rw [List.take_succ_eq_append_getElem hk, List.map_append, List.flatten_append, List.append_assoc, List.append_assoc, List.append_assoc]
  simp
theorem flat_next (ms : List Txt) (k : Nat) (hk : k < ms.length) : (ms.take (k + 1)).flatten = (ms.take k).flatten ++ ms[k] := by
  rw [List.take_succ_eq_append_getElem hk, List.flatten_append]; simp
theorem flat_le (ls : List Txt) (c : Nat) (h : ∀ l ∈ ls, l.length ≤ c) : ls.flatten.length ≤ c * ls.length := by
  induction ls with
  | nil => simp
  | cons x l ih =>
    have h1 := h x (by simp)
    have h2 := ih (fun y hy => h y (by simp [hy]))
    rw [List.flatten_cons, List.length_append, List.length_cons, Nat.mul_succ]
    omega
theorem preS_le (b n : Nat) (ws : List Int) (k : Nat) : (preS b n ws k).length ≤ 20 + 10 * k := by
  unfold preS
  have h1 := (nb_length b).2
  have h2 := (nb_length n).2
  have h3 := flat_le ((ws.take k).map nbZ) 10 (by intro l hl; obtain ⟨x, _, rfl⟩ := List.mem_map.1 hl; exact (nb_length _).2)
  rw [List.length_map, List.length_take] at h3
  have h4 : min k ws.length ≤ k := Nat.min_le_left _ _
  have h5 : 10 * min k ws.length ≤ 10 * k := Nat.mul_le_mul_left _ h4
  rw [List.length_append, List.length_append]
  omega
theorem mks_le (ms : List Txt) (k : Nat) (h : ∀ m ∈ ms, m.length = 32) : ((ms.take k).flatten).length ≤ 32 * k := by
  have h3 := flat_le (ms.take k) 32 (fun l hl => Nat.le_of_eq (h l (List.mem_of_mem_take hl)))
  rw [List.length_take] at h3
  have h5 : 32 * min k ms.length ≤ 32 * k := Nat.mul_le_mul_left _ (Nat.min_le_left _ _)
  omega
/-- What is known of a signature that may be. -/
structure RightIs (b n : Int) (ws : List Int) (ms : List Txt) (B M : Nat) : Prop where
  b : b = (B : Int)
  n : n = (M : Int)
  b1 : 16 ≤ B
  b2 : B ≤ 1024
  n2 : M ≤ 524288
  w : ∀ x ∈ ws, 0 ≤ x ∧ x ≤ 4294967295
  m : ∀ x ∈ ms, x.length = 32
  lw : ws.length = nBlk M B
  lm : ms.length = nBlk M B
  q : nBlk M B ≤ 40000
theorem right_is {b n : Int} {ws : List Int} {ms : List Txt} (h : rightS b n ws ms = true) : ∃ B M, RightIs b n ws ms B M := by
  unfold rightS at h
  simp only [Bool.and_eq_true, decide_eq_true_eq, List.all_eq_true, okB_iff, okN_iff] at h
  obtain ⟨⟨⟨⟨⟨hb, hn⟩, h1⟩, h2⟩, h3⟩, h4⟩ := h
  refine ⟨b.toNat, n.toNat, by omega, by omega, by omega, by omega, by omega, fun x hx => ?_, fun x hx => ?_, h1, h2, (nBlk_num n.toNat b.toNat (by omega) (by omega) (by omega)).2.2⟩
  · simpa [sumOk] using h3 x hx
  · simpa [markOk] using h4 x hx


end Go.Proofs.YtpkgjokehgihjaaGreat

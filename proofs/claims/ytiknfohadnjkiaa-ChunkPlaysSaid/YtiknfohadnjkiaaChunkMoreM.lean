/- How many pieces, which piece; what of a box is told by its first places: mathematics, for the walk of a landed box. -/
import Derived.Test.YtiknfohadnjkiaaChunkFillM
import Derived.Test.YtiknfohadnjkiaaChunkMath
import Derived.Test.YtiknfohadnjkiaaGen
import Derived.Test.YtiknfohadnjkiaaRefBoxW
import Derived.Test.YtiknfohadnjkiaaRowN
import Derived.Test.YtiknfohadnjkiaaRows
import Derived.BigQuiet
import Derived.Deep.QuietTactic
import Derived.Deep.RegionHeld3
import Derived.Laws.ResultCell
import Derived.Lib.Hide
import Derived.OpenShut
import Derived.Outline
import Derived.ProofKit
import Derived.ShutString
import Derived.SizedLaws
import Derived.SliceStrings
import Derived.WalkKit
import Derived.WalkLawsBesides
import Derived.WalkSpells
set_option linter.unusedVariables false
namespace Go.Proofs.Ytiknfohadnjkiaa
open Go.RowKit

theorem cutL_length : ∀ (k n : Nat) (s : List UInt8), 0 < n → s.length ≤ k → (cutL n s).length = (s.length - 1) / n + 1
  | 0, n, s, hn, h => by
    rw [cutL_step hn, if_neg (by omega), show s.length - 1 = 0 by omega, Nat.zero_div]
    rfl
  | k + 1, n, s, hn, h => by
    rw [cutL_step hn]
    by_cases c : n < s.length
    · rw [if_pos c, List.length_cons, cutL_length k n (s.drop n) hn (by rw [List.length_drop]; omega), List.length_drop]
      rw [show s.length - 1 = (s.length - n - 1) + n by omega, Nat.add_div_right _ hn]
    · rw [if_neg c, Nat.div_eq_of_lt (by omega)]
      rfl
theorem cutL_get : ∀ (i n : Nat) (s : List UInt8) (hn : 0 < n) (hi : i < (cutL n s).length), (cutL n s)[i] = (s.drop (i * n)).take n
  | 0, n, s, hn, hi => by
    by_cases c : n < s.length
    · have e : cutL n s = s.take n :: cutL n (s.drop n) := by rw [cutL_step hn, if_pos c]
      simp only [e, List.getElem_cons_zero, Nat.zero_mul, List.drop_zero]
    · have e : cutL n s = [s] := by rw [cutL_step hn, if_neg c]
      simp only [e, List.getElem_cons_zero, Nat.zero_mul, List.drop_zero]
      rw [List.take_of_length_le (by omega)]
  | i + 1, n, s, hn, hi => by
    by_cases c : n < s.length
    · have e : cutL n s = s.take n :: cutL n (s.drop n) := by rw [cutL_step hn, if_pos c]
      have hi2 : i < (cutL n (s.drop n)).length := by rw [e, List.length_cons] at hi; omega
      simp only [e, List.getElem_cons_succ]
      rw [cutL_get i n (s.drop n) hn hi2, List.drop_drop, Nat.succ_mul, Nat.add_comm]
    · have e : cutL n s = [s] := by rw [cutL_step hn, if_neg c]
      rw [e, List.length_singleton] at hi
      omega
/-- The last piece reaches to the end. -/
theorem cutL_last {n : Nat} {s : List UInt8} (hn : 0 < n) {i : Nat} (hi : i < (cutL n s).length) : i * n + n < s.length ↔ i + 1 < (cutL n s).length := by
  rw [cutL_length _ n s hn (Nat.le_refl _)]
  constructor
  · intro h
    have : i + 1 ≤ (s.length - 1) / n := (Nat.le_div_iff_mul_le hn).2 (by rw [Nat.succ_mul]; omega)
    omega
  · intro h
    have : (i + 1) * n ≤ s.length - 1 := (Nat.le_div_iff_mul_le hn).1 (by omega)
    rw [Nat.succ_mul] at this
    omega
theorem cutL_in {n : Nat} {s : List UInt8} (hn : 0 < n) {i : Nat} (hi : i < (cutL n s).length) : i * n ≤ s.length := by
  rw [cutL_length _ n s hn (Nat.le_refl _)] at hi
  have := (Nat.le_div_iff_mul_le hn).1 (show i ≤ (s.length - 1) / n by omega)
  omega
theorem missB_take {st : BoxS} {i : Nat} (hi : i < st.length) : missB (st.take (i + 1)) = missB (st.take i) ++ if st[i] = none then [i] else [] := by
  rw [List.take_succ_eq_append_getElem hi, missB_snoc, List.length_take, Nat.min_eq_left (by omega)]
theorem missB_prefix (st : BoxS) : ∀ (d i : Nat), i + d = st.length → missB (st.take i) <+: missB st
  | 0, i, h => by rw [List.take_of_length_le (by omega)]; exact List.prefix_refl _
  | d + 1, i, h => by
    have := missB_prefix st d (i + 1) (by omega)
    rw [missB_take (by omega)] at this
    exact (List.prefix_append _ _).trans this
/-- As many as are asked for are told by the first places. -/
theorem missN_first {st : BoxS} {i : Nat} (hi : i ≤ st.length) {most : Int} (h : most ≤ ((missB (st.take i)).length : Int)) : missN st most = (missB (st.take i)).take most.toNat := by
  obtain ⟨r, hr⟩ := missB_prefix st (st.length - i) i (by omega)
  unfold missN
  rw [← hr, List.take_append_of_le_length (by omega)]
theorem missN_end {st : BoxS} {most : Int} (h : ((missB st).length : Int) ≤ most) : missN st most = missB st := by
  unfold missN
  exact List.take_of_length_le (by omega)
theorem missN_neg {st : BoxS} {most : Int} (h : most ≤ 0) : missN st most = [] := by
  unfold missN
  rw [show most.toNat = 0 by omega]
  rfl
theorem missB_le (st : BoxS) (i : Nat) : (missB (st.take i)).length ≤ i := by
  rw [missB_len _ _ rfl]
  have h1 : leftB (st.take i) ≤ (st.take i).length := List.countP_le_length
  rw [List.length_take] at h1
  omega
theorem leftB_le (st : BoxS) : leftB st ≤ st.length := List.countP_le_length
theorem allB_none_set {st : BoxS} {i : Nat} (hi : i < st.length) (h : st[i] = none) (t : List UInt8) : (allB (st.set i (some t))).length = (allB st).length + t.length := allB_set st i t hi h
/-- How many pieces, as a program may count them. -/
theorem cut_count {s : List UInt8} {size : Int} (h1 : ¬ size < 1) (hs : 0 < s.length) : ((s.length : Int) - 1).tdiv size + 1 = ((cutL size.toNat s).length : Nat) := by
  obtain ⟨n, hn⟩ : ∃ n : Nat, n = size.toNat := ⟨_, rfl⟩
  have hsz : size = (n : Int) := by omega
  subst hsz
  rw [Int.toNat_natCast, cutL_length _ n s (by omega) (Nat.le_refl _), show ((s.length : Int) - 1) = ((s.length - 1 : Nat) : Int) by omega, Int.natCast_add, Int.ofNat_tdiv]
  rfl
theorem cut_count0 (n : Nat) : (cutL n []).length = 1 := by
  unfold cutL cutF
  rfl
theorem cut_count2 {s : List UInt8} {n : Nat} (hn : 0 < n) (hs : 0 < s.length) : (s.length + n - 1) / n = (cutL n s).length := by
  rw [cutL_length _ n s hn (Nat.le_refl _), show s.length + n - 1 = (s.length - 1) + n by omega, Nat.add_div_right _ hn]
/-- What has been told is all that was asked for. -/
theorem missN_told {st : BoxS} {i : Nat} (hi : i ≤ st.length) {most : Int} (h : most ≤ ((missB (st.take i)).length : Int)) (hk : (missB (st.take i)).length ≤ most.toNat) : missN st most = missB (st.take i) := by
  rw [missN_first hi h, List.take_of_length_le hk]
theorem missN_allOf {st : BoxS} {most : Int} (hk : (missB st).length ≤ most.toNat) : missN st most = missB st := by
  unfold missN
  exact List.take_of_length_le hk
end Go.Proofs.Ytiknfohadnjkiaa

/- Frames are found again: behind noise, one behind the other, and where the last lacks bytes. Of no walk. -/
import Derived.Test.YtjgoceebjmnjcaaDoorScanW
set_option linter.unusedVariables false
namespace Go.Proofs.YtjgoceebjmnjcaaDoor
open Go.RowKit

theorem numL_fourB (n : Nat) (h : n < 4294967296) : numL (fourB n) = n := by
  simp only [fourB, numL, UInt8.toNat_ofNat']
  omega
theorem frame_parts (x t : List UInt8) : ∃ a b c d, fourB x.length = [a, b, c, d] ∧ frameB x ++ t = 181 :: 126 :: a :: b :: c :: d :: (fourB (sumS (fourB x.length ++ x)) ++ (x ++ t)) :=
  ⟨_, _, _, _, rfl, by simp [frameB, fourB]⟩
theorem frame_head (x t : List UInt8) : headBad (frameB x ++ t) = false := by
  obtain ⟨a, b, c, d, _, e⟩ := frame_parts x t
  rw [e]; rfl
theorem frame_26 (x t : List UInt8) : ((frameB x ++ t).take 6).drop 2 = fourB x.length := by
  obtain ⟨a, b, c, d, e1, e⟩ := frame_parts x t
  rw [e, e1]; rfl
theorem frame_610 (x t : List UInt8) : ((frameB x ++ t).take 10).drop 6 = fourB (sumS (fourB x.length ++ x)) := by
  obtain ⟨a, b, c, d, e1, e⟩ := frame_parts x t
  rw [e]; rfl
theorem frame_data (x t : List UInt8) : ((frameB x ++ t).take (10 + x.length)).drop 10 = x := by
  rw [List.take_append_of_le_length (by rw [frameB_length]; omega), List.take_of_length_le (by rw [frameB_length]; omega)]
  rfl
theorem one_frame (x t : List UInt8) (h : x.length ≤ 65536) : oneS (frameB x ++ t) = (x, 10 + x.length, 0) := by
  have hp : payS (frameB x ++ t) = (x.length, 0) := by
    unfold payS
    rw [frame_head, frame_26, numL_fourB _ (by omega), if_neg (by simp), if_neg (by rw [List.length_append, frameB_length]; omega), if_neg (by omega), if_neg (by rw [List.length_append, frameB_length]; omega)]
  unfold oneS
  rw [hp, if_neg (by simp), frame_26, frame_610, frame_data, numL_fourB _ (sumS_lt _), if_neg (by simp)]
theorem one_cut (x : List UInt8) (k : Nat) (h : x.length ≤ 65536) (hk : k < x.length + 10) : (oneS ((frameB x).take k)).2.2 = 3 := by
  obtain ⟨a, b, c, d, e1, e⟩ := frame_parts x []
  rw [List.append_nil, List.append_nil] at e
  have hlen : ((frameB x).take k).length = k := by rw [List.length_take, frameB_length]; omega
  have hp : payS ((frameB x).take k) = (0, 3) := by
    unfold payS
    have hh : headBad ((frameB x).take k) = false := by
      rw [e]
      match k with
      | 0 => rfl
      | 1 => rfl
      | k + 2 => rfl
    rw [hh, if_neg (by simp), hlen]
    by_cases h6 : k < 6
    · rw [if_pos h6]
    · have h26 : (((frameB x).take k).take 6).drop 2 = fourB x.length := by
        rw [List.take_take, Nat.min_eq_left (by omega), e, e1]; rfl
      rw [if_neg h6, h26, numL_fourB _ (by omega), if_neg (by omega), if_pos (by omega)]
  unfold oneS
  rw [hp, if_pos (by simp)]
theorem one_noise (c : UInt8) (t : List UInt8) (h : c ≠ 181) : oneS (c :: t) = ([], 0, 5) := by
  have hh : headBad (c :: t) = true := by
    cases t with
    | nil => simp [headBad, h]
    | cons b t => simp [headBad, h]
  have hp : payS (c :: t) = (0, 5) := by unfold payS; rw [if_pos hh]
  unfold oneS
  rw [hp, if_pos (by simp)]

theorem scan_frames (xs : List (List UInt8)) (t : List UInt8) (hx : ∀ x ∈ xs, x.length ≤ 65536) (ht : (oneS t).2.2 = 3) : ∀ f, (framesB xs ++ t).length < f → scanF f (framesB xs ++ t) = (xs, (framesB xs).length, 0) := by
  induction xs with
  | nil =>
    intro f hf
    obtain ⟨f, rfl⟩ : ∃ k, f = k + 1 := ⟨f - 1, by omega⟩
    rw [show framesB [] ++ t = t from rfl, scan_stop _ _ ht]
    rfl
  | cons x xs ih =>
    intro f hf
    obtain ⟨f, rfl⟩ : ∃ k, f = k + 1 := ⟨f - 1, by omega⟩
    have e : framesB (x :: xs) = frameB x ++ framesB xs := rfl
    rw [e, List.append_assoc] at hf ⊢
    have h1 := one_frame x (framesB xs ++ t) (hx x (by simp))
    have hd : (frameB x ++ (framesB xs ++ t)).drop (10 + x.length) = framesB xs ++ t := by
      rw [show 10 + x.length = (frameB x).length from by rw [frameB_length]; omega, List.drop_left]
    have hl : (framesB xs ++ t).length < f := by
      rw [List.length_append, frameB_length] at hf
      omega
    rw [scan_ok _ _ (by rw [h1]), h1]
    simp only
    rw [hd, ih (fun y hy => hx y (by simp [hy])) f hl]
    simp only [List.length_append, frameB_length]
    rw [Nat.add_comm 10]
theorem scan_noise (r : List UInt8) (ns : List UInt8) (hn : ∀ c ∈ ns, c ≠ 181) : ∀ f, (ns ++ r).length < f → scanF f (ns ++ r) = ((scanF (f - ns.length) r).1, ns.length + (scanF (f - ns.length) r).2.1, ns.length + (scanF (f - ns.length) r).2.2) := by
  induction ns with
  | nil => intro f hf; simp
  | cons c ns ih =>
    intro f hf
    obtain ⟨f, rfl⟩ : ∃ k, f = k + 1 := ⟨f - 1, by omega⟩
    have h1 := one_noise c (ns ++ r) (hn c (by simp))
    rw [List.cons_append]
    rw [scan_lost _ _ (by rw [h1]; simp) (by rw [h1]; simp)]
    rw [show (c :: (ns ++ r)).drop 1 = ns ++ r from rfl, ih (fun y hy => hn y (by simp [hy])) f (by simp at hf ⊢; omega)]
    rw [List.length_cons, show f + 1 - (ns.length + 1) = f - ns.length from by omega]
    simp only [Nat.add_assoc, Nat.add_left_comm]
theorem scanS_frames (xs : List (List UInt8)) (hx : ∀ x ∈ xs, x.length ≤ 65536) : scanS (framesB xs) = (xs, (framesB xs).length, 0) := by
  have := scan_frames xs [] hx (by rw [oneS_nil]) ((framesB xs).length + 1) (by simp)
  rw [List.append_nil] at this
  exact this
theorem scanS_cut (xs : List (List UInt8)) (y : List UInt8) (k : Nat) (hx : ∀ x ∈ xs, x.length ≤ 65536) (hy : y.length ≤ 65536) (hk : k < y.length + 10) : scanS (framesB xs ++ (frameB y).take k) = (xs, (framesB xs).length, 0) :=
  scan_frames xs _ hx (one_cut y k hy hk) _ (Nat.lt_succ_self _)
theorem scanS_lost (ns x : List UInt8) (hn : ∀ c ∈ ns, c ≠ 181) (hx : x.length ≤ 65536) : scanS (ns ++ frameB x) = ([x], ns.length + (frameB x).length, ns.length) := by
  unfold scanS
  rw [scan_noise (frameB x) ns hn _ (Nat.lt_succ_self _)]
  have e : framesB [x] ++ [] = frameB x := by simp [framesB]
  have := scan_frames [x] [] (by simpa using hx) (by rw [oneS_nil]) ((ns ++ frameB x).length + 1 - ns.length) (by rw [e, List.length_append]; omega)
  rw [e] at this
  rw [this]
  simp [framesB]
end Go.Proofs.YtjgoceebjmnjcaaDoor

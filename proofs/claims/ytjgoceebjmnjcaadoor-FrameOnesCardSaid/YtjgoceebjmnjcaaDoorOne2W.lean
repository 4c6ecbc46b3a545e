/- Walks of one, One. -/
import Derived.Test.YtjgoceebjmnjcaaDoorOneW
import Derived.Test.YtjgoceebjmnjcaaDoorQuietLaw
import Derived.BigQuiet
import Derived.Deep.QuietTactic
import Derived.WalkKit
import Derived.WalkSpells
import Derived.Lib.Hide
import Derived.WalkLawsBesides
import Derived.Outline
set_option linter.unusedVariables false
namespace Go.Proofs.YtjgoceebjmnjcaaDoor
open Go.RowKit

theorem ret3 {a a' : ByteArray} {b b' c c' : Int} (h1 : a = a') (h2 : b = b') (h3 : c = c') : Ending.returned (.tuple #[.string a, .int .i64 b, .int .i64 c]) = .returned (.tuple #[.string a', .int .i64 b', .int .i64 c']) := by
  rw [h1, h2, h3]

/-- The closure of One: it goes on with a sum by a piece of the text. -/
theorem oneAdd_any (s : Nat) (l : List UInt8) (a b : Nat) (B : Int) (hB : B = b) (p : Addr) (w : World) (hs : s < 4294967296) (hl : l.length ≤ 140737488351232) (hab : a ≤ b) (hb : b ≤ l.length) (ht : Tab w)
    (hc : w.cell? p = some (.string ⟨l.toArray⟩)) :
    Calls Tryd.prog 32 #[.int .i64 s, .int .i64 a, .int .i64 B, .pointer (some p)] w fun e w' => e = .returned (.int .i64 (addS s ((l.take b).drop a) : Nat)) ∧ w = w' := by
  subst hB
  have L := Lib.hid (show (⟨l.toArray⟩ : ByteArray).size = l.length from rfl)
  have E := slice_toArray l a b
  have hlen : ((l.take b).drop a).length ≤ 140737488351232 := by simp; omega
  have C := fun w ht => Lib.hid (add_any (s : Nat) s ((l.take b).drop a) w (by omega) hs hlen ht)
  have T := Lib.hid ht
  clear ht
  generalize (l.take b).drop a = m at *
  go_enter Tryd.func32, Tryd.ntmps32
  go_wp2_with fail
  refine (C _ T.out).out.mono ?_
  rintro e w1 ⟨rfl, rfl⟩
  go_wp2
  go_ret
  exact ⟨rfl, rfl⟩

set_option maxHeartbeats 800000 in
theorem one1_any (l : List UInt8) (p : Addr) (w : World) (hl : l.length ≤ 140737488351232) (ht : Tab w) (hp : p.block < w.heap.size) (hc : w.cell? p = some (.string ⟨l.toArray⟩)) :
    Calls Tryd.prog 31 #[.string ⟨l.toArray⟩, .func (.func 32) #[] #[.pointer (some p)]] w fun e w' =>
      e = .returned (.tuple #[.string ⟨(oneS l).1.toArray⟩, .int .i64 (oneS l).2.1, .int .i64 (oneS l).2.2]) ∧ Below w.heap.size w w' := by
  have L := Lib.hid (show (⟨l.toArray⟩ : ByteArray).size = l.length from rfl)
  have P := Lib.hid (pay_any l w hl)
  by_cases h0 : (payS l).2 = 0
  · obtain ⟨h1, h2, h3⟩ := payS_ok l h0
    obtain ⟨a, b, c, d, e4⟩ := take610 l (by omega)
    have E1 := slice_toArray l 2 6
    have E2 := slice_toArray l 6 10
    have E3 := slice_toArray l 10 (10 + (payS l).1)
    have hs := sumS_lt ((l.take 6).drop 2)
    have S1 := fun w ht => Lib.hid (sum_any ((l.take 6).drop 2) w (by simp; omega) ht)
    have A1 := fun w ht hc => Lib.hid (oneAdd_any (sumS ((l.take 6).drop 2)) l 10 (10 + (payS l).1) (10 + ((payS l).1 : Int)) (by omega) p w hs hl (by omega) (by omega) ht hc)
    have N1 := fun w => Lib.hid (number_any a b c d w)
    rw [← sumS_append] at A1
    rw [e4] at E2
    have hone : Lib.hid (h0) = Lib.hid h0 := rfl
    have O := Lib.hid (show oneS l = if sumS ((l.take 6).drop 2 ++ (l.take (10 + (payS l).1)).drop 10) ≠ numL [a, b, c, d] then ([], 0, 6) else ((l.take (10 + (payS l).1)).drop 10, 10 + (payS l).1, 0) by
      unfold oneS; rw [if_neg (by omega), e4])
    rw [h0] at P
    clear hone h3 e4 h0
    have T := Lib.hid ht
    clear ht
    generalize (payS l).1 = n at *
    generalize sumS ((l.take 6).drop 2 ++ (l.take (10 + n)).drop 10) = s2 at *
    generalize (l.take (10 + n)).drop 10 = body at *
    generalize sumS ((l.take 6).drop 2) = s1 at *
    generalize (l.take 6).drop 2 = hd at *
    generalize numL [a, b, c, d] = q at *
    have HC := Lib.hid hc; clear hc
    by_cases hq : s2 = q
    · have O2 := O.out
      rw [if_neg (by simpa using hq)] at O2
      rw [O2]
      clear O O2
      have hne : ((s2 : Int) != (q : Int)) = false := by simp [hq]
      clear hq
      go_enter Tryd.func31, Tryd.ntmps31
      go_wp2_with fail
      refine P.out.mono ?_
      rintro e w1 ⟨rfl, hb1⟩
      have T1 := Lib.hid (T.out.below hb1)
      have HC1 := Lib.hid ((hb1.cell hp).trans HC.out)
      go_wp2
      go_quiet ((first | (go_at_call 12; exact quiet_left (S1 _ (T1.out.drewN _)).out) | (go_at_call 32; exact quiet_left (A1 _ (T1.out.drewN _) HC1.out).out) | (go_at_call 45; exact quiet_some (N1 _).out)))
      go_wp2
      go_ret3
      exact ⟨ret3 E3 (by omega) rfl, Below_drewN hb1 _⟩
    · have O2 := O.out
      rw [if_pos (by simpa using hq)] at O2
      rw [O2]
      clear O O2
      have hne : ((s2 : Int) != (q : Int)) = true := by simp; omega
      clear hq
      go_enter Tryd.func31, Tryd.ntmps31
      go_wp2_with fail
      refine P.out.mono ?_
      rintro e w1 ⟨rfl, hb1⟩
      have T1 := Lib.hid (T.out.below hb1)
      have HC1 := Lib.hid ((hb1.cell hp).trans HC.out)
      go_wp2
      go_quiet ((first | (go_at_call 12; exact quiet_left (S1 _ (T1.out.drewN _)).out) | (go_at_call 32; exact quiet_left (A1 _ (T1.out.drewN _) HC1.out).out) | (go_at_call 45; exact quiet_some (N1 _).out)))
      go_wp2
      go_ret3
      exact ⟨ret3 rfl rfl rfl, Below_drewN hb1 _⟩
  · have O := Lib.hid (show oneS l = ([], 0, (payS l).2) by unfold oneS; rw [if_pos h0])
    have hz := payS_bad l h0
    rw [hz] at P
    rw [O.out]
    clear hz O
    have hne : (((payS l).2 : Int) != 0) = true := by simp; omega
    clear h0
    generalize (payS l).2 = q at *
    go_enter Tryd.func31, Tryd.ntmps31
    go_wp2_with fail
    refine P.out.mono ?_
    rintro e w1 ⟨rfl, hb1⟩
    go_wp2
    go_ret3
    exact ⟨ret3 rfl rfl rfl, hb1⟩

set_option maxHeartbeats 400000 in
theorem One_any (l : List UInt8) (w : World) (hl : l.length ≤ 140737488351232) (ht : Tab w) :
    Calls Tryd.prog 18 #[.string ⟨l.toArray⟩] w fun e w' =>
      e = .returned (.tuple #[.string ⟨(oneS l).1.toArray⟩, .int .i64 (oneS l).2.1, .int .i64 (oneS l).2.2]) ∧ Below w.heap.size w w' := by
  have hb0 : Below w.heap.size w (w.alloc (.cells #[.string ⟨l.toArray⟩] 9)) := (Below.refl _ _).alloc (Nat.le_refl _) _
  have C := Lib.hid (one1_any l ⟨w.heap.size, 0, none⟩ (w.alloc (.cells #[.string ⟨l.toArray⟩] 9)) hl (ht.below hb0) (by simp) (by simp))
  go_enter Tryd.func18, Tryd.ntmps18
  go_wp2_with fail
  refine C.out.mono ?_
  rintro e w1 ⟨rfl, hb1⟩
  go_wp2
  go_ret3
  exact ⟨rfl, hb0.trans (hb1.mono hb0.size)⟩
end Go.Proofs.YtjgoceebjmnjcaaDoor

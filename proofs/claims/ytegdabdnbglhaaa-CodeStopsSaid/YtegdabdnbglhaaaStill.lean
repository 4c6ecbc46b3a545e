/- Behind its first error a reader reads nothing more: package code's, and the document's own: the world stays as it is. -/
import Derived.Test.YtegdabdnbglhaaaBack
import Derived.WalkKit
import Derived.WalkSpells
import Derived.WalkLawsBesides
import Derived.Deep.QuietTactic
import Derived.BigQuiet
set_option linter.unusedVariables false
namespace Go.Proofs.Ytegdabdnbglhaaa
open Go.RowKit

section
variable (w : World) (g : Nat) (er : Int) (h : Rd w g ⟨[], er⟩) (hne : er ≠ 0)
include h

theorem err_st : Calls Try.prog 23 #[ptr g] w fun e w' => e = .returned (.int .i64 er) ∧ w' = w := err_any w g _ h
theorem left_st : Calls Try.prog 22 #[ptr g] w fun e w' => e = .returned (.int .i64 0) ∧ w' = w := left_any w g _ h

include hne
theorem fail_st (n : Int) : Calls Try.prog 38 #[ptr g, .int .i64 n] w fun e w' => e = .returned (.tuple #[]) ∧ w' = w := by
  have hb : (er == 0) = false := by simp [hne]
  have H := Lib.hid (err_st w g er h)
  clear hne
  go_enter Try.func38, Try.ntmps38
  go_wp2_with fail
  refine H.out.mono ?_
  rintro e w1 ⟨rfl, rfl⟩
  go_wp2
  go_end0
  exact ⟨rfl, rfl⟩

theorem raw_st (n : Int) : Calls Try.prog 33 #[ptr g, .int .i64 n] w fun e w' => e = .returned (.string ⟨#[]⟩) ∧ w' = w := by
  have hb : (er != 0) = true := by simp [hne]
  have He := Lib.hid (err_st w g er h)
  have Hl := Lib.hid (left_st w g er h)
  have Hf := fun n => Lib.hid (fail_st w g er h hne n)
  clear hne h
  by_cases h : n < 0
  · go_enter Try.func33, Try.ntmps33
    go_wp2_with fail
    refine (Hf _).out.mono ?_
    rintro e w1 ⟨rfl, rfl⟩
    go_wp2_with fail
    refine He.out.mono ?_
    rintro e w1 ⟨rfl, rfl⟩
    go_wp2
    go_ret
    exact ⟨rfl, rfl⟩
  · by_cases h2 : 0 < n
    · go_enter Try.func33, Try.ntmps33
      go_wp2_with fail
      refine Hl.out.mono ?_
      rintro e w1 ⟨rfl, rfl⟩
      go_wp2_with fail
      refine (Hf _).out.mono ?_
      rintro e w1 ⟨rfl, rfl⟩
      go_wp2_with fail
      refine He.out.mono ?_
      rintro e w1 ⟨rfl, rfl⟩
      go_wp2
      go_ret
      exact ⟨rfl, rfl⟩
    · go_enter Try.func33, Try.ntmps33
      go_wp2_with fail
      refine Hl.out.mono ?_
      rintro e w1 ⟨rfl, rfl⟩
      go_wp2_with fail
      refine He.out.mono ?_
      rintro e w1 ⟨rfl, rfl⟩
      go_wp2
      go_ret
      exact ⟨rfl, rfl⟩

theorem byte_st : Calls Try.prog 35 #[ptr g] w fun e w' => e = .returned (.int .i64 0) ∧ w' = w := by
  have Hr := Lib.hid (raw_st w g er h hne 1)
  clear hne h
  go_enter Try.func35, Try.ntmps35
  go_wp2_with fail
  refine Hr.out.mono ?_
  rintro e w1 ⟨rfl, rfl⟩
  go_wp2
  go_ret
  exact ⟨rfl, rfl⟩

theorem num_st : Calls Try.prog 28 #[ptr g] w fun e w' => e = .returned (.int .i64 0) ∧ w' = w := by
  have hb : (er != 0) = true := by simp [hne]
  have He := Lib.hid (err_st w g er h)
  have Hb := Lib.hid (byte_st w g er h hne)
  clear hne h
  go_enter Try.func28, Try.ntmps28
  go_wp2
  refine wp_loop_rounds 1 ?_
  rw [rounds_succ]
  go_wp2_with fail
  refine Hb.out.mono ?_
  rintro e w1 ⟨rfl, rfl⟩
  go_wp2_with fail
  refine He.out.mono ?_
  rintro e w1 ⟨rfl, rfl⟩
  go_wp2
  go_ret
  exact ⟨rfl, rfl⟩

theorem signed_st : Calls Try.prog 17 #[ptr g] w fun e w' => e = .returned (.int .i64 0) ∧ w' = w := by
  have Hn := Lib.hid (num_st w g er h hne)
  clear hne h
  go_enter Try.func17, Try.ntmps17
  go_wp2_with fail
  refine Hn.out.mono ?_
  rintro e w1 ⟨rfl, rfl⟩
  go_wp2
  go_ret
  exact ⟨rfl, rfl⟩

theorem count_st (n : Int) : Calls Try.prog 41 #[ptr g, .int .i64 n] w fun e w' => e = .returned (.int .i64 0) ∧ w' = w := by
  have hb : (er != 0) = true := by simp [hne]
  have He := Lib.hid (err_st w g er h)
  have Hn := Lib.hid (num_st w g er h hne)
  have Hf := fun n => Lib.hid (fail_st w g er h hne n)
  clear hne h
  by_cases h : n < 0
  · go_enter Try.func41, Try.ntmps41
    go_wp2_with fail
    refine Hn.out.mono ?_
    rintro e w1 ⟨rfl, rfl⟩
    go_wp2_with fail
    refine (Hf _).out.mono ?_
    rintro e w1 ⟨rfl, rfl⟩
    go_wp2_with fail
    refine He.out.mono ?_
    rintro e w1 ⟨rfl, rfl⟩
    go_wp2
    go_ret
    exact ⟨rfl, rfl⟩
  · go_enter Try.func41, Try.ntmps41
    go_wp2_with fail
    refine Hn.out.mono ?_
    rintro e w1 ⟨rfl, rfl⟩
    go_wp2_with fail
    refine He.out.mono ?_
    rintro e w1 ⟨rfl, rfl⟩
    go_wp2
    go_ret
    exact ⟨rfl, rfl⟩

theorem text_st (n : Int) : Calls Try.prog 21 #[ptr g, .int .i64 n] w fun e w' => e = .returned (.string ⟨#[]⟩) ∧ w' = w := by
  have Hc := Lib.hid (count_st w g er h hne n)
  have Hr := Lib.hid (raw_st w g er h hne 0)
  clear hne h
  go_enter Try.func21, Try.ntmps21
  go_wp2_with fail
  refine Hc.out.mono ?_
  rintro e w1 ⟨rfl, rfl⟩
  go_wp2_with fail
  refine Hr.out.mono ?_
  rintro e w1 ⟨rfl, rfl⟩
  go_wp2
  go_ret
  exact ⟨rfl, rfl⟩

omit hne in
theorem end_st : Calls Try.prog 18 #[ptr g] w fun e w' => e = .returned (.int .i64 er) ∧ w' = w := by
  have He := Lib.hid (err_st w g er h)
  have Hl := Lib.hid (left_st w g er h)
  clear h
  go_enter Try.func18, Try.ntmps18
  go_wp2_with fail
  refine Hl.out.mono ?_
  rintro e w1 ⟨rfl, rfl⟩
  go_wp2_with fail
  refine He.out.mono ?_
  rintro e w1 ⟨rfl, rfl⟩
  go_wp2
  go_ret
  exact ⟨rfl, rfl⟩

theorem partsInt_st (n : Int) (f : Value) : Calls Try.prog 44 #[ptr g, .int .i64 n, f] w fun e w' => e = .returned (.slice none 0 0) ∧ w' = w := by
  have Hc := Lib.hid (count_st w g er h hne n)
  clear hne h
  go_enter Try.func44, Try.ntmps44
  go_wp2_with fail
  refine Hc.out.mono ?_
  rintro e w1 ⟨rfl, rfl⟩
  go_wp2
  refine wp_loop_rounds 1 ?_
  rw [rounds_succ]
  go_wp2
  go_ret
  exact ⟨rfl, rfl⟩

theorem partsStr_st (n : Int) (f : Value) : Calls Try.prog 45 #[ptr g, .int .i64 n, f] w fun e w' => e = .returned (.slice none 0 0) ∧ w' = w := by
  have Hc := Lib.hid (count_st w g er h hne n)
  clear hne h
  go_enter Try.func45, Try.ntmps45
  go_wp2_with fail
  refine Hc.out.mono ?_
  rintro e w1 ⟨rfl, rfl⟩
  go_wp2
  refine wp_loop_rounds 1 ?_
  rw [rounds_succ]
  go_wp2
  go_ret
  exact ⟨rfl, rfl⟩

theorem nums_st (n : Int) : Calls Try.prog 29 #[ptr g, .int .i64 n] w fun e w' => e = .returned (.slice none 0 0) ∧ w' = w := by
  have hmf : ∀ (fn : Fn) (first cap : Array Value) (w : World), (Instr.makeFunc fn first cap).run Try.prog w = .ok (.func fn first cap) w := fun _ _ _ _ => rfl
  have Hc := fun f => Lib.hid (partsInt_st w g er h hne n f)
  clear hne h
  go_enter Try.func29, Try.ntmps29
  go_wp2_with fail
  refine (Hc _).out.mono ?_
  rintro e w1 ⟨rfl, rfl⟩
  go_wp2
  go_ret
  exact ⟨rfl, rfl⟩
end

theorem texts_st (w : World) (g : Nat) (er : Int) (h : Rd w g ⟨[], er⟩) (hne : er ≠ 0) (n m : Int) :
    Calls Try.prog 30 #[ptr g, .int .i64 n, .int .i64 m] w fun e w' => e = .returned (.slice none 0 0) ∧ Kept (fun _ => False) w w' := by
  have hmf : ∀ (fn : Fn) (first cap : Array Value) (w : World), (Instr.makeFunc fn first cap).run Try.prog w = .ok (.func fn first cap) w := fun _ _ _ _ => rfl
  have hr0 : Rd ((w.alloc (.cells #[ptr g] 27)).alloc (.cells #[.int .i64 m] 3)) g ⟨[], er⟩ := h.kept (((Kept.refl (fun _ => False) w).alloc _).alloc _) (fun h => h)
  have Hc := fun f => Lib.hid (partsStr_st _ g er hr0 hne n f)
  clear hne h hr0
  go_enter Try.func30, Try.ntmps30
  go_wp2_with fail
  refine (Hc _).out.mono ?_
  rintro e w1 ⟨rfl, rfl⟩
  go_wp2
  go_ret
  exact ⟨rfl, ((Kept.refl (fun _ => False) w).alloc _).alloc _⟩

/-! ### The document's own reader, behind its first error -/
section
variable (w : World) (q : Nat) (er : Int) (hc : w.cell? ⟨q, 2, none⟩ = some (.int .i64 er)) (hne : er ≠ 0)
include hc hne

theorem refByte_st : Calls Try.prog 47 #[ptr q] w fun e w' => e = .returned (.int .i64 0) ∧ w' = w := by
  have hb : (er != 0) = true := by simp [hne]
  clear hne
  go_enter Try.func47, Try.ntmps47
  go_wp2
  go_ret
  exact ⟨rfl, rfl⟩

theorem refRaw_st (n : Int) : Calls Try.prog 50 #[ptr q, .int .i64 n] w fun e w' => e = .returned (.string ⟨#[]⟩) ∧ w' = w := by
  have hb : (er != 0) = true := by simp [hne]
  clear hne
  go_enter Try.func50, Try.ntmps50
  go_wp2
  go_ret
  exact ⟨rfl, rfl⟩

theorem refRNum_st : Calls Try.prog 48 #[ptr q] w fun e w' => e = .returned (.int .i64 0) ∧ w' = w := by
  have hb : (er != 0) = true := by simp [hne]
  have Hb := Lib.hid (refByte_st w q er hc hne)
  clear hne
  go_enter Try.func48, Try.ntmps48
  go_wp2
  refine wp_loop_rounds 1 ?_
  rw [rounds_succ]
  go_wp2_with fail
  refine Hb.out.mono ?_
  rintro e w1 ⟨rfl, rfl⟩
  go_wp2
  go_ret
  exact ⟨rfl, rfl⟩

theorem refRSigned_st : Calls Try.prog 49 #[ptr q] w fun e w' => e = .returned (.int .i64 0) ∧ w' = w := by
  have Hb := Lib.hid (refRNum_st w q er hc hne)
  clear hne hc
  go_enter Try.func49, Try.ntmps49
  go_wp2_with fail
  refine Hb.out.mono ?_
  rintro e w1 ⟨rfl, rfl⟩
  go_wp2
  go_ret
  exact ⟨rfl, rfl⟩

theorem refCount_st (n : Int) : Calls Try.prog 51 #[ptr q, .int .i64 n] w fun e w' => e = .returned (.int .i64 0) ∧ w' = w := by
  have hb : (er == 0) = false := by simp [hne]
  have Hb := Lib.hid (refRNum_st w q er hc hne)
  clear hne
  go_enter Try.func51, Try.ntmps51
  go_wp2_with fail
  refine Hb.out.mono ?_
  rintro e w1 ⟨rfl, rfl⟩
  go_wp2
  go_ret
  exact ⟨rfl, rfl⟩

theorem refRText_st (n : Int) : Calls Try.prog 52 #[ptr q, .int .i64 n] w fun e w' => e = .returned (.string ⟨#[]⟩) ∧ w' = w := by
  have Hc := Lib.hid (refCount_st w q er hc hne n)
  have Hr := Lib.hid (refRaw_st w q er hc hne 0)
  clear hne hc
  go_enter Try.func52, Try.ntmps52
  go_wp2_with fail
  refine Hc.out.mono ?_
  rintro e w1 ⟨rfl, rfl⟩
  go_wp2_with fail
  refine Hr.out.mono ?_
  rintro e w1 ⟨rfl, rfl⟩
  go_wp2
  go_ret
  exact ⟨rfl, rfl⟩

theorem refREnd_st : Calls Try.prog 55 #[ptr q] w fun e w' => e = .returned (.int .i64 er) ∧ ∃ m, w' = w.drewN m := by
  have hb : (er == 0) = false := by simp [hne]
  clear hne
  go_enter Try.func55, Try.ntmps55
  go_wp2
  go_quiet (fail)
  go_wp2
  go_ret
  exact ⟨rfl, _, rfl⟩

theorem refRNums_st (n : Int) : Calls Try.prog 53 #[ptr q, .int .i64 n] w fun e w' => e = .returned (.slice none 0 0) ∧ w' = w := by
  have hb : (er != 0) = true := by simp [hne]
  have Hc := Lib.hid (refCount_st w q er hc hne n)
  clear hne
  go_enter Try.func53, Try.ntmps53
  go_wp2_with fail
  refine Hc.out.mono ?_
  rintro e w1 ⟨rfl, rfl⟩
  go_wp2
  refine wp_loop_rounds 1 ?_
  rw [rounds_succ]
  go_wp2
  go_ret
  exact ⟨rfl, rfl⟩

theorem refRTexts_st (n m : Int) : Calls Try.prog 54 #[ptr q, .int .i64 n, .int .i64 m] w fun e w' => e = .returned (.slice none 0 0) ∧ w' = w := by
  have hb : (er != 0) = true := by simp [hne]
  have Hc := Lib.hid (refCount_st w q er hc hne n)
  clear hne
  go_enter Try.func54, Try.ntmps54
  go_wp2_with fail
  refine Hc.out.mono ?_
  rintro e w1 ⟨rfl, rfl⟩
  go_wp2
  refine wp_loop_rounds 1 ?_
  rw [rounds_succ]
  go_wp2
  go_ret
  exact ⟨rfl, rfl⟩
end

theorem ints_nil (w : World) : Calls Try.prog 31 #[.slice none 0 0, .slice none 0 0] w fun e w' => e = .returned (.bool true) ∧ w' = w := by
  go_enter Try.func31, Try.ntmps31
  go_wp2
  refine wp_loop_rounds 1 ?_
  rw [rounds_succ]
  go_wp2
  go_ret
  exact ⟨rfl, rfl⟩
theorem texts_nil (w : World) : Calls Try.prog 32 #[.slice none 0 0, .slice none 0 0] w fun e w' => e = .returned (.bool true) ∧ w' = w := by
  go_enter Try.func32, Try.ntmps32
  go_wp2
  refine wp_loop_rounds 1 ?_
  rw [rounds_succ]
  go_wp2
  go_ret
  exact ⟨rfl, rfl⟩
end Go.Proofs.Ytegdabdnbglhaaa

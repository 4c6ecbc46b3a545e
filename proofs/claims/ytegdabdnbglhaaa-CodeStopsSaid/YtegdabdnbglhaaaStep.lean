/- One call of both readers behind the first error: the law's 'step' says that they answer alike. (Written by gen/step.py.) -/
import Derived.Test.YtegdabdnbglhaaaStill
import Derived.WalkKit
import Derived.WalkSpells
import Derived.WalkLawsBesides
import Derived.Deep.QuietTactic
import Derived.Deep.RegionHeld3
import Derived.BigQuiet
set_option linter.unusedVariables false
namespace Go.Proofs.Ytegdabdnbglhaaa
open Go.RowKit

/-- What 'step' needs of the world. -/
def Both (w : World) (g q : Nat) (er : Int) : Prop := Rd w g ⟨[], er⟩ ∧ w.cell? ⟨q, 2, none⟩ = some (.int .i64 er)
theorem Both.kept {w w' : World} {g q : Nat} {er : Int} (h : Both w g q er) (hk : Kept (fun _ => False) w w') : Both w' g q er :=
  ⟨h.1.kept hk id, (World.cell?_of_block (w := w) (hk.block q (World.block_lt_of_cell? w _ h.2) id)).trans h.2⟩
theorem Both.drewN {w : World} {g q : Nat} {er : Int} (h : Both w g q er) (n : Nat) : Both (w.drewN n) g q er := h
theorem keptDrewN {w w' : World} {n : Nat} (h : Kept (fun _ => False) w w') : Kept (fun _ => False) w (w'.drewN n) := h.trans ⟨rfl, rfl, rfl, Nat.le_refl _, fun _ _ _ => rfl⟩
theorem tests (k : Int) : (k == 0) = true ∨ ((k == 0) = false ∧ (k == 1) = true) ∨ ((k == 0) = false ∧ (k == 1) = false ∧ (k == 2) = true) ∨
    ((k == 0) = false ∧ (k == 1) = false ∧ (k == 2) = false ∧ (k == 3) = true) ∨ ((k == 0) = false ∧ (k == 1) = false ∧ (k == 2) = false ∧ (k == 3) = false ∧ (k == 4) = true) ∨
    ((k == 0) = false ∧ (k == 1) = false ∧ (k == 2) = false ∧ (k == 3) = false ∧ (k == 4) = false ∧ (k == 5) = true) ∨
    ((k == 0) = false ∧ (k == 1) = false ∧ (k == 2) = false ∧ (k == 3) = false ∧ (k == 4) = false ∧ (k == 5) = false ∧ (k == 6) = true) ∨
    ((k == 0) = false ∧ (k == 1) = false ∧ (k == 2) = false ∧ (k == 3) = false ∧ (k == 4) = false ∧ (k == 5) = false ∧ (k == 6) = false ∧ (k == 7) = true) ∨
    ((k == 0) = false ∧ (k == 1) = false ∧ (k == 2) = false ∧ (k == 3) = false ∧ (k == 4) = false ∧ (k == 5) = false ∧ (k == 6) = false ∧ (k == 7) = false) := by
  cases (k == 0) <;> cases (k == 1) <;> cases (k == 2) <;> cases (k == 3) <;> cases (k == 4) <;> cases (k == 5) <;> cases (k == 6) <;> cases (k == 7) <;> simp

set_option maxRecDepth 100000 in
set_option maxHeartbeats 1600000 in
theorem step0 (w : World) (g q : Nat) (er : Int) (h : Both w g q er) (hne : er ≠ 0) (k n m : Int)  (c0 : (k == 0) = true) :
    Calls Try.prog 34 #[ptr g, ptr q, .agg #[.int .i64 k, .int .i64 n, .int .i64 m]] w fun e w' => e = .returned (.bool true) ∧ Kept (fun _ => False) w w' := by
  have HK := fun (o : Obj) => Lib.hid ((Kept.refl (fun _ => False) w).alloc o)
  have HB := fun (o : Obj) => Lib.hid (h.kept ((Kept.refl (fun _ => False) w).alloc o))
  have Hne := Lib.hid hne
  clear h hne
  go_enter Try.func34, Try.ntmps34
  go_wp2_with fail
  refine (byte_st _ g er (HB _).out.1 Hne.out).mono ?_
  rintro e w1 ⟨rfl, rfl⟩
  go_wp2_with fail
  refine (refByte_st _ q er (HB _).out.2 Hne.out).mono ?_
  rintro e w2 ⟨rfl, rfl⟩
  go_wp2
  go_ret
  exact ⟨rfl, (HK _).out⟩

set_option maxRecDepth 100000 in
set_option maxHeartbeats 1600000 in
theorem step1 (w : World) (g q : Nat) (er : Int) (h : Both w g q er) (hne : er ≠ 0) (k n m : Int) (c0 : (k == 0) = false) (c1 : (k == 1) = true) :
    Calls Try.prog 34 #[ptr g, ptr q, .agg #[.int .i64 k, .int .i64 n, .int .i64 m]] w fun e w' => e = .returned (.bool true) ∧ Kept (fun _ => False) w w' := by
  have HK := fun (o : Obj) => Lib.hid ((Kept.refl (fun _ => False) w).alloc o)
  have HB := fun (o : Obj) => Lib.hid (h.kept ((Kept.refl (fun _ => False) w).alloc o))
  have Hne := Lib.hid hne
  clear h hne
  go_enter Try.func34, Try.ntmps34
  go_wp2_with fail
  refine (num_st _ g er (HB _).out.1 Hne.out).mono ?_
  rintro e w1 ⟨rfl, rfl⟩
  go_wp2_with fail
  refine (refRNum_st _ q er (HB _).out.2 Hne.out).mono ?_
  rintro e w2 ⟨rfl, rfl⟩
  go_wp2
  go_ret
  exact ⟨rfl, (HK _).out⟩

set_option maxRecDepth 100000 in
set_option maxHeartbeats 1600000 in
theorem step2 (w : World) (g q : Nat) (er : Int) (h : Both w g q er) (hne : er ≠ 0) (k n m : Int) (c0 : (k == 0) = false) (c1 : (k == 1) = false) (c2 : (k == 2) = true) :
    Calls Try.prog 34 #[ptr g, ptr q, .agg #[.int .i64 k, .int .i64 n, .int .i64 m]] w fun e w' => e = .returned (.bool true) ∧ Kept (fun _ => False) w w' := by
  have HK := fun (o : Obj) => Lib.hid ((Kept.refl (fun _ => False) w).alloc o)
  have HB := fun (o : Obj) => Lib.hid (h.kept ((Kept.refl (fun _ => False) w).alloc o))
  have Hne := Lib.hid hne
  clear h hne
  go_enter Try.func34, Try.ntmps34
  go_wp2_with fail
  refine (signed_st _ g er (HB _).out.1 Hne.out).mono ?_
  rintro e w1 ⟨rfl, rfl⟩
  go_wp2_with fail
  refine (refRSigned_st _ q er (HB _).out.2 Hne.out).mono ?_
  rintro e w2 ⟨rfl, rfl⟩
  go_wp2
  go_ret
  exact ⟨rfl, (HK _).out⟩

set_option maxRecDepth 100000 in
set_option maxHeartbeats 1600000 in
theorem step3 (w : World) (g q : Nat) (er : Int) (h : Both w g q er) (hne : er ≠ 0) (k n m : Int) (c0 : (k == 0) = false) (c1 : (k == 1) = false) (c2 : (k == 2) = false) (c3 : (k == 3) = true) :
    Calls Try.prog 34 #[ptr g, ptr q, .agg #[.int .i64 k, .int .i64 n, .int .i64 m]] w fun e w' => e = .returned (.bool true) ∧ Kept (fun _ => False) w w' := by
  have HK := fun (o : Obj) => Lib.hid ((Kept.refl (fun _ => False) w).alloc o)
  have HB := fun (o : Obj) => Lib.hid (h.kept ((Kept.refl (fun _ => False) w).alloc o))
  have Hne := Lib.hid hne
  clear h hne
  go_enter Try.func34, Try.ntmps34
  go_wp2_with fail
  go_quiet (first | (go_at_call 33; exact Calls.quiet_of_same (raw_st _ g er (Both.drewN (HB _).out _).1 Hne.out _)) | (go_at_call 50; exact Calls.quiet_of_same (refRaw_st _ q er (Both.drewN (HB _).out _).2 Hne.out _)))
  go_wp2
  go_ret
  exact ⟨rfl, keptDrewN (HK _).out⟩

set_option maxRecDepth 100000 in
set_option maxHeartbeats 1600000 in
theorem step4 (w : World) (g q : Nat) (er : Int) (h : Both w g q er) (hne : er ≠ 0) (k n m : Int) (c0 : (k == 0) = false) (c1 : (k == 1) = false) (c2 : (k == 2) = false) (c3 : (k == 3) = false) (c4 : (k == 4) = true) :
    Calls Try.prog 34 #[ptr g, ptr q, .agg #[.int .i64 k, .int .i64 n, .int .i64 m]] w fun e w' => e = .returned (.bool true) ∧ Kept (fun _ => False) w w' := by
  have HK := fun (o : Obj) => Lib.hid ((Kept.refl (fun _ => False) w).alloc o)
  have HB := fun (o : Obj) => Lib.hid (h.kept ((Kept.refl (fun _ => False) w).alloc o))
  have Hne := Lib.hid hne
  clear h hne
  go_enter Try.func34, Try.ntmps34
  go_wp2_with fail
  go_quiet (first | (go_at_call 41; exact Calls.quiet_of_same (count_st _ g er (Both.drewN (HB _).out _).1 Hne.out _)) | (go_at_call 51; exact Calls.quiet_of_same (refCount_st _ q er (Both.drewN (HB _).out _).2 Hne.out _)))
  go_wp2
  go_ret
  exact ⟨rfl, keptDrewN (HK _).out⟩

set_option maxRecDepth 100000 in
set_option maxHeartbeats 1600000 in
theorem step5 (w : World) (g q : Nat) (er : Int) (h : Both w g q er) (hne : er ≠ 0) (k n m : Int) (c0 : (k == 0) = false) (c1 : (k == 1) = false) (c2 : (k == 2) = false) (c3 : (k == 3) = false) (c4 : (k == 4) = false) (c5 : (k == 5) = true) :
    Calls Try.prog 34 #[ptr g, ptr q, .agg #[.int .i64 k, .int .i64 n, .int .i64 m]] w fun e w' => e = .returned (.bool true) ∧ Kept (fun _ => False) w w' := by
  have HK := fun (o : Obj) => Lib.hid ((Kept.refl (fun _ => False) w).alloc o)
  have HB := fun (o : Obj) => Lib.hid (h.kept ((Kept.refl (fun _ => False) w).alloc o))
  have Hne := Lib.hid hne
  clear h hne
  go_enter Try.func34, Try.ntmps34
  go_wp2_with fail
  go_quiet (first | (go_at_call 21; exact Calls.quiet_of_same (text_st _ g er (Both.drewN (HB _).out _).1 Hne.out _)) | (go_at_call 52; exact Calls.quiet_of_same (refRText_st _ q er (Both.drewN (HB _).out _).2 Hne.out _)))
  go_wp2
  go_ret
  exact ⟨rfl, keptDrewN (HK _).out⟩

set_option maxRecDepth 100000 in
set_option maxHeartbeats 1600000 in
theorem step6 (w : World) (g q : Nat) (er : Int) (h : Both w g q er) (hne : er ≠ 0) (k n m : Int) (c0 : (k == 0) = false) (c1 : (k == 1) = false) (c2 : (k == 2) = false) (c3 : (k == 3) = false) (c4 : (k == 4) = false) (c5 : (k == 5) = false) (c6 : (k == 6) = true) :
    Calls Try.prog 34 #[ptr g, ptr q, .agg #[.int .i64 k, .int .i64 n, .int .i64 m]] w fun e w' => e = .returned (.bool true) ∧ Kept (fun _ => False) w w' := by
  have HK := fun (o : Obj) => Lib.hid ((Kept.refl (fun _ => False) w).alloc o)
  have HB := fun (o : Obj) => Lib.hid (h.kept ((Kept.refl (fun _ => False) w).alloc o))
  have Hne := Lib.hid hne
  clear h hne
  go_enter Try.func34, Try.ntmps34
  go_wp2_with fail
  go_quiet (first | (go_at_call 29; exact Calls.quiet_of_same (nums_st _ g er (Both.drewN (HB _).out _).1 Hne.out _)) | (go_at_call 53; exact Calls.quiet_of_same (refRNums_st _ q er (Both.drewN (HB _).out _).2 Hne.out _)) | (go_at_call 31; exact Calls.quiet_of_same (ints_nil _)))
  go_wp2
  go_ret
  exact ⟨rfl, keptDrewN (HK _).out⟩

set_option maxRecDepth 100000 in
set_option maxHeartbeats 1600000 in
theorem step8 (w : World) (g q : Nat) (er : Int) (h : Both w g q er) (hne : er ≠ 0) (k n m : Int) (c0 : (k == 0) = false) (c1 : (k == 1) = false) (c2 : (k == 2) = false) (c3 : (k == 3) = false) (c4 : (k == 4) = false) (c5 : (k == 5) = false) (c6 : (k == 6) = false) (c7 : (k == 7) = false) :
    Calls Try.prog 34 #[ptr g, ptr q, .agg #[.int .i64 k, .int .i64 n, .int .i64 m]] w fun e w' => e = .returned (.bool true) ∧ Kept (fun _ => False) w w' := by
  have HK := fun (o : Obj) => Lib.hid ((Kept.refl (fun _ => False) w).alloc o)
  have HB := fun (o : Obj) => Lib.hid (h.kept ((Kept.refl (fun _ => False) w).alloc o))
  have Hne := Lib.hid hne
  clear h hne
  go_enter Try.func34, Try.ntmps34
  go_wp2_with fail
  refine (end_st _ g er (HB _).out.1).mono ?_
  rintro e w1 ⟨rfl, rfl⟩
  go_wp2_with fail
  refine (refREnd_st _ q er (HB _).out.2 Hne.out).mono ?_
  rintro e w2 ⟨rfl, mm, rfl⟩
  have hself := int_self er
  go_wp2
  go_ret
  exact ⟨rfl, keptDrewN (HK _).out⟩

/-- What holds in every world of the region in which both read lists of texts: the struct's two cells, and that nothing that was there has turned. -/
theorem seven_kept {w0 w1 w2 : World} {b : Nat} {n m : Int} (h1 : w1.cell? ⟨b, 1, none⟩ = some (.int .i64 n)) (h2 : w1.cell? ⟨b, 2, none⟩ = some (.int .i64 m)) (hk : Kept (fun _ => False) w0 w1) (h : Kept (fun _ => False) w1 w2) :
    w2.cell? ⟨b, 1, none⟩ = some (.int .i64 n) ∧ w2.cell? ⟨b, 2, none⟩ = some (.int .i64 m) ∧ Kept (fun _ => False) w0 w2 :=
  ⟨(World.cell?_of_block (w := w1) (h.block b (World.block_lt_of_cell? w1 _ h1) id)).trans h1, (World.cell?_of_block (w := w1) (h.block b (World.block_lt_of_cell? w1 _ h2) id)).trans h2, hk.trans h⟩

set_option maxRecDepth 100000 in
set_option maxHeartbeats 1600000 in
theorem step7 (w : World) (g q : Nat) (er : Int) (h : Both w g q er) (hne : er ≠ 0) (k n m : Int) (c0 : (k == 0) = false) (c1 : (k == 1) = false) (c2 : (k == 2) = false) (c3 : (k == 3) = false) (c4 : (k == 4) = false) (c5 : (k == 5) = false) (c6 : (k == 6) = false) (c7 : (k == 7) = true) :
    Calls Try.prog 34 #[ptr g, ptr q, .agg #[.int .i64 k, .int .i64 n, .int .i64 m]] w fun e w' => e = .returned (.bool true) ∧ Kept (fun _ => False) w w' := by
  have HK := fun (o : Obj) => Lib.hid ((Kept.refl (fun _ => False) w).alloc o)
  have HB := fun (o : Obj) => Lib.hid (h.kept ((Kept.refl (fun _ => False) w).alloc o))
  have Hne := Lib.hid hne
  clear h hne
  go_enter Try.func34, Try.ntmps34
  go_wp2_with fail
  have b1 : (w.alloc (.cells #[.int .i64 k, .int .i64 n, .int .i64 m] 51)).cell? ⟨w.heap.size, 1, none⟩ = some (.int .i64 n) := by rw [World.cell?_alloc_at _ _ _ _ rfl]; rfl
  have b2 : (w.alloc (.cells #[.int .i64 k, .int .i64 n, .int .i64 m] 51)).cell? ⟨w.heap.size, 2, none⟩ = some (.int .i64 m) := by rw [World.cell?_alloc_at _ _ _ _ rfl]; rfl
  have bk := Kept.refl (fun _ => False) (w.alloc (.cells #[.int .i64 k, .int .i64 n, .int .i64 m] 51))
  have HB0 := HB (.cells #[.int .i64 k, .int .i64 n, .int .i64 m] 51)
  have HK0 := HK (.cells #[.int .i64 k, .int .i64 n, .int .i64 m] 51)
  clear HB HK
  generalize (w.alloc (.cells #[.int .i64 k, .int .i64 n, .int .i64 m] 51)) = W0 at *
  go_region_held3 (fun w' => w'.cell? ⟨w.heap.size, 1, none⟩ = some (.int .i64 n) ∧ w'.cell? ⟨w.heap.size, 2, none⟩ = some (.int .i64 m) ∧ Kept (fun _ => False) W0 w')
    (first
      | (go_split_ands; exact seven_kept (by assumption) (by assumption) (by assumption) ((Kept.refl _ _).drew))
      | (go_split_ands; exact seven_kept (by assumption) (by assumption) (by assumption) (by assumption))
      | go_keep)
    (first
      | (go_at_call 30; go_split_ands; refine (texts_st _ g er (HB0.out.kept (by assumption)).1 Hne.out _ _).mono ?_; rintro e w' ⟨rfl, hkw⟩)
      | (go_at_call 54; go_split_ands; refine (refRTexts_st _ q er (HB0.out.kept (by assumption)).2 Hne.out _ _).mono ?_; rintro e w' ⟨rfl, rfl⟩)
      | (go_at_call 32; refine (texts_nil _).mono ?_; rintro e w' ⟨rfl, rfl⟩))
  go_wp2
  go_ret
  exact ⟨rfl, HK0.out.trans (by assumption)⟩

theorem step_st (w : World) (g q : Nat) (er : Int) (h : Both w g q er) (hne : er ≠ 0) (k n m : Int) :
    Calls Try.prog 34 #[ptr g, ptr q, .agg #[.int .i64 k, .int .i64 n, .int .i64 m]] w fun e w' => e = .returned (.bool true) ∧ Kept (fun _ => False) w w' := by
  rcases tests k with c0 | ⟨c0, c1⟩ | ⟨c0, c1, c2⟩ | ⟨c0, c1, c2, c3⟩ | ⟨c0, c1, c2, c3, c4⟩ | ⟨c0, c1, c2, c3, c4, c5⟩ | ⟨c0, c1, c2, c3, c4, c5, c6⟩ | ⟨c0, c1, c2, c3, c4, c5, c6, c7⟩ | ⟨c0, c1, c2, c3, c4, c5, c6, c7⟩
  · exact step0 w g q er h hne k n m c0
  · exact step1 w g q er h hne k n m c0 c1
  · exact step2 w g q er h hne k n m c0 c1 c2
  · exact step3 w g q er h hne k n m c0 c1 c2 c3
  · exact step4 w g q er h hne k n m c0 c1 c2 c3 c4
  · exact step5 w g q er h hne k n m c0 c1 c2 c3 c4 c5
  · exact step6 w g q er h hne k n m c0 c1 c2 c3 c4 c5 c6
  · exact step7 w g q er h hne k n m c0 c1 c2 c3 c4 c5 c6 c7
  · exact step8 w g q er h hne k n m c0 c1 c2 c3 c4 c5 c6 c7
end Go.Proofs.Ytegdabdnbglhaaa

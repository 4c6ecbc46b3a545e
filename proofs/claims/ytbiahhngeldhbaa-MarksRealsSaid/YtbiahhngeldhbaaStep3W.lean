/- One call of both books: the law's 'step' says that they answer alike. -/
import Derived.Test.YtbiahhngeldhbaaRefBookW
set_option linter.unusedVariables false
namespace Go.Proofs.Ytbiahhngeldhbaa
open Go.RowKit

abbrev opV (k n : Int) (t m : Txt) : Value := .agg #[.int .i64 k, .int .i64 n, .string ⟨t.toArray⟩, .string ⟨m.toArray⟩]
abbrev opC (k n : Int) (t m : Txt) : Obj := .cells #[.int .i64 k, .int .i64 n, .string ⟨t.toArray⟩, .string ⟨m.toArray⟩] 35
abbrev ptrV (p : Nat) : Value := .pointer (some ⟨p, 0, none⟩)
theorem opC_at (w : World) (k n : Int) (t m : Txt) : (w.alloc (opC k n t m)).heap[w.heap.size]? = some (opC k n t m) := heap_alloc_new _ _
theorem one_kept {W0 w1 w2 : World} {a : Addr} {v : Value} (h1 : w1.cell? a = some v) (hb : Below W0.heap.size W0 w1) (h : Below w1.heap.size w1 w2) : w2.cell? a = some v ∧ Below W0.heap.size W0 w2 :=
  ⟨(h.cell (World.block_lt_of_cell? w1 _ h1)).trans h1, below2 hb h⟩

/-- What both books answer to a question, and that asking makes new memory alone. -/
structure Asked (p q : Nat) (f : Txt → Txt → Bool) (St : World → Prop) : Prop where
  new : ∀ {a b : World}, St a → Below a.heap.size a b → St b
  book : ∀ (w : World) (s m : Txt), St w → s.length ≤ 300 → Calls Try.prog 20 #[ptrV p, .string ⟨s.toArray⟩, .string ⟨m.toArray⟩] w fun e w' => e = .returned (.bool (f s m)) ∧ Below w.heap.size w w'
  ref : ∀ (w : World) (s m : Txt), St w → s.length ≤ 300 → Calls Try.prog 31 #[ptrV q, .string ⟨s.toArray⟩, .string ⟨m.toArray⟩] w fun e w' => e = .returned (.bool (f s m)) ∧ Below w.heap.size w w'

set_option maxRecDepth 100000 in
set_option maxHeartbeats 1600000 in
theorem step_one (p q : Nat) (f : Txt → Txt → Bool) (St : World → Prop) (A : Asked p q f St) (w : World) (hst : St w) (k n : Int) (t m : Txt) (ht : t.length ≤ 140737488351232) (c0 : (k == 0) = false) (c1 : (k == 1) = true) :
    Calls Try.prog 18 #[ptrV p, ptrV q, opV k n t m] w fun e w' => e = .returned (.bool true) ∧ Below w.heap.size w w' := by
  have HA := Lib.hid A; clear A
  have b0 : (w.alloc (opC k n t m)).cell? ⟨w.heap.size, 0, none⟩ = some (.int .i64 k) := by rw [cell_of_row _ _ _ _ _ _ (opC_at w k n t m)]; rfl
  have b2 : (w.alloc (opC k n t m)).cell? ⟨w.heap.size, 2, none⟩ = some (.string ⟨t.toArray⟩) := by rw [cell_of_row _ _ _ _ _ _ (opC_at w k n t m)]; rfl
  have b3 : (w.alloc (opC k n t m)).cell? ⟨w.heap.size, 3, none⟩ = some (.string ⟨m.toArray⟩) := by rw [cell_of_row _ _ _ _ _ _ (opC_at w k n t m)]; rfl
  have hb0 : Below w.heap.size w (w.alloc (opC k n t m)) := (Below.refl _ _).alloc (Nat.le_refl _) _
  have HST := Lib.hid (HA.out.new hst hb0); clear hst
  have CUT := fun w' => Lib.hid (cut_any t 300 w' (by decide) ht)
  have hcl : (t.take 300).length ≤ 300 := List.length_take_le _ _
  have H0 := Lib.hid hb0; clear hb0
  go_enter Try.func18, Try.ntmps18
  go_wp2_with fail
  generalize w.alloc (opC k n t m) = W0 at *
  refine (CUT _).out.mono ?_
  rintro e w' ⟨rfl, rfl⟩
  generalize t.take 300 = s at *
  go_wp2_with fail
  have bk := Below.refl W0.heap.size W0
  go_region_held3 (fun w1 => w1.cell? ⟨w.heap.size, 3, none⟩ = some (.string ⟨m.toArray⟩) ∧ Below W0.heap.size W0 w1)
    (first
      | (go_split_ands; exact one_kept (by assumption) (by assumption) (Below_drew (Below.refl _ _)))
      | (go_split_ands; exact one_kept (by assumption) (by assumption) (by assumption))
      | go_keep)
    (first
      | (go_at_call 20; go_split_ands; refine (HA.out.book _ s m (HA.out.new HST.out (by assumption)) hcl).mono ?_; rintro e w1 ⟨rfl, hkw⟩)
      | (go_at_call 31; go_split_ands; refine (HA.out.ref _ s m (HA.out.new HST.out (by assumption)) hcl).mono ?_; rintro e w1 ⟨rfl, hkw⟩))
  all_goals
    go_split_ands
    go_wp2
    go_ret
    exact ⟨rfl, H0.out.trans (Below.mono (by assumption) H0.out.size)⟩

set_option maxRecDepth 100000 in
set_option maxHeartbeats 1600000 in
theorem step_two (p q : Nat) (f : Txt → Txt → Bool) (St : World → Prop) (A : Asked p q f St) (w : World) (hst : St w) (k : Int) (n : Nat) (t m : Txt) (ht : t.length ≤ 140737488351232) (hn : n < 9223372036854775808) (c0 : (k == 0) = false) (c1 : (k == 1) = false) :
    Calls Try.prog 18 #[ptrV p, ptrV q, opV k n t m] w fun e w' => e = .returned (.bool true) ∧ Below w.heap.size w w' := by
  have HA := Lib.hid A; clear A
  have b0 : (w.alloc (opC k n t m)).cell? ⟨w.heap.size, 0, none⟩ = some (.int .i64 k) := by rw [cell_of_row _ _ _ _ _ _ (opC_at w k n t m)]; rfl
  have b1 : (w.alloc (opC k n t m)).cell? ⟨w.heap.size, 1, none⟩ = some (.int .i64 n) := by rw [cell_of_row _ _ _ _ _ _ (opC_at w k n t m)]; rfl
  have b2 : (w.alloc (opC k n t m)).cell? ⟨w.heap.size, 2, none⟩ = some (.string ⟨t.toArray⟩) := by rw [cell_of_row _ _ _ _ _ _ (opC_at w k n t m)]; rfl
  have b3 : (w.alloc (opC k n t m)).cell? ⟨w.heap.size, 3, none⟩ = some (.string ⟨m.toArray⟩) := by rw [cell_of_row _ _ _ _ _ _ (opC_at w k n t m)]; rfl
  have hb0 : Below w.heap.size w (w.alloc (opC k n t m)) := (Below.refl _ _).alloc (Nat.le_refl _) _
  have HST := Lib.hid (HA.out.new hst hb0); clear hst
  have CUT := fun w' => Lib.hid (cut_any t 300 w' (by decide) ht)
  have hcl : (t.take 300).length ≤ 300 := List.length_take_le _ _
  have H0 := Lib.hid hb0; clear hb0
  have N1 := fun w' => Lib.hid (number_any n w' hn)
  generalize numM n = nm at *
  go_enter Try.func18, Try.ntmps18
  go_wp2_with fail
  generalize w.alloc (opC k n t m) = W0 at *
  refine (CUT _).out.mono ?_
  rintro e w' ⟨rfl, rfl⟩
  generalize t.take 300 = s at *
  go_wp2_with fail
  refine (N1 _).out.mono ?_
  rintro e w1 ⟨rfl, hb1⟩
  have b1' := (one_kept b1 (Below.refl W0.heap.size W0) hb1).1
  have HS1 := Lib.hid (HA.out.new HST.out hb1)
  go_wp2_with fail
  refine (HA.out.book _ s nm HS1.out hcl).mono ?_
  rintro e w2 ⟨rfl, hb2⟩
  have HS2 := Lib.hid (HA.out.new HS1.out hb2)
  go_wp2_with fail
  refine (HA.out.ref _ s nm HS2.out hcl).mono ?_
  rintro e w3 ⟨rfl, hb3⟩
  go_wp2
  go_ret
  exact ⟨rfl, H0.out.trans ((below2 (below2 hb1 hb2) hb3).mono H0.out.size)⟩

set_option maxRecDepth 100000 in
set_option maxHeartbeats 1600000 in
theorem step_neg (p q : Nat) (f : Txt → Txt → Bool) (St : World → Prop) (A : Asked p q f St) (w : World) (hst : St w) (k n : Int) (t m : Txt) (ht : t.length ≤ 140737488351232) (hn : n < 0) (hn2 : -9223372036854775808 ≤ n) (c0 : (k == 0) = false) (c1 : (k == 1) = false) :
    Calls Try.prog 18 #[ptrV p, ptrV q, opV k n t m] w fun e w' => e = .returned (.bool true) ∧ Below w.heap.size w w' := by
  have HA := Lib.hid A; clear A
  have b0 : (w.alloc (opC k n t m)).cell? ⟨w.heap.size, 0, none⟩ = some (.int .i64 k) := by rw [cell_of_row _ _ _ _ _ _ (opC_at w k n t m)]; rfl
  have b1 : (w.alloc (opC k n t m)).cell? ⟨w.heap.size, 1, none⟩ = some (.int .i64 n) := by rw [cell_of_row _ _ _ _ _ _ (opC_at w k n t m)]; rfl
  have b2 : (w.alloc (opC k n t m)).cell? ⟨w.heap.size, 2, none⟩ = some (.string ⟨t.toArray⟩) := by rw [cell_of_row _ _ _ _ _ _ (opC_at w k n t m)]; rfl
  have b3 : (w.alloc (opC k n t m)).cell? ⟨w.heap.size, 3, none⟩ = some (.string ⟨m.toArray⟩) := by rw [cell_of_row _ _ _ _ _ _ (opC_at w k n t m)]; rfl
  have hb0 : Below w.heap.size w (w.alloc (opC k n t m)) := (Below.refl _ _).alloc (Nat.le_refl _) _
  have HST := Lib.hid (HA.out.new hst hb0); clear hst
  have CUT := fun w' => Lib.hid (cut_any t 300 w' (by decide) ht)
  have hcl : (t.take 300).length ≤ 300 := List.length_take_le _ _
  have H0 := Lib.hid hb0; clear hb0
  have N1 := fun w' => Lib.hid (number_neg n w' hn hn2)
  go_enter Try.func18, Try.ntmps18
  go_wp2_with fail
  generalize w.alloc (opC k n t m) = W0 at *
  refine (CUT _).out.mono ?_
  rintro e w' ⟨rfl, rfl⟩
  generalize t.take 300 = s at *
  go_wp2_with fail
  refine (N1 _).out.mono ?_
  rintro e w1 ⟨l, rfl, hb1⟩
  have b1' := (one_kept b1 (Below.refl W0.heap.size W0) hb1).1
  have b3' := (one_kept b3 (Below.refl W0.heap.size W0) hb1).1
  have HS1 := Lib.hid (HA.out.new HST.out hb1)
  go_wp2_with fail
  refine (HA.out.book _ s m HS1.out hcl).mono ?_
  rintro e w2 ⟨rfl, hb2⟩
  have HS2 := Lib.hid (HA.out.new HS1.out hb2)
  go_wp2_with fail
  refine (HA.out.ref _ s m HS2.out hcl).mono ?_
  rintro e w3 ⟨rfl, hb3⟩
  go_wp2
  go_ret
  exact ⟨rfl, H0.out.trans ((below2 (below2 hb1 hb2) hb3).mono H0.out.size)⟩

/-- A question. -/
theorem step_ask (p q : Nat) (f : Txt → Txt → Bool) (St : World → Prop) (A : Asked p q f St) (w : World) (hst : St w) (k n : Int) (t m : Txt) (ht : t.length ≤ 140737488351232) (hn1 : -9223372036854775808 ≤ n) (hn2 : n ≤ 9223372036854775807) (c0 : (k == 0) = false) :
    Calls Try.prog 18 #[ptrV p, ptrV q, opV k n t m] w fun e w' => e = .returned (.bool true) ∧ Below w.heap.size w w' := by
  cases c1 : (k == 1)
  · by_cases hn : n < 0
    · exact step_neg p q f St A w hst k n t m ht hn hn1 c0 c1
    · obtain ⟨n', rfl⟩ : ∃ n' : Nat, n = n' := ⟨n.toNat, by omega⟩
      exact step_two p q f St A w hst k n' t m ht (by omega) c0 c1
  · exact step_one p q f St A w hst k n t m ht c0 c1

/-! ### The ideal book and the document's -/
theorem pair_ne {w : World} {p bm base q : Nat} {v : Value} {S T : List Txt} (h : IdealAt w p bm S) (h' : RefAt w base q v T) : p ≠ q ∧ q ≠ bm ∧ ∀ g, v.ownBlock = some g → p ≠ g ∧ g ≠ bm := by
  refine ⟨?_, ?_, fun g hg => ?_⟩
  · rintro rfl
    have h1 := h.book
    unfold BookAt at h1
    rw [h'.book] at h1
    simp at h1
  · rintro rfl
    exact h.no_cells h'.book
  · rcases h'.own.2 with ⟨rfl, _⟩ | ⟨g', cap, cur, rfl, _, hgg, _⟩
    · simp [Value.ownBlock] at hg
    · simp [Value.ownBlock] at hg
      subst hg
      refine ⟨?_, ?_⟩
      · rintro rfl
        have h1 := h.book
        unfold BookAt at h1
        rw [hgg] at h1
        simp at h1
      · rintro rfl
        exact h.no_cells hgg
theorem asked_ideal (p bm base q : Nat) (v : Value) (S : List Txt) (hn : S.length ≤ 1000) : Asked p q (isS S) (fun w => IdealAt w p bm S ∧ RefAt w base q v S) where
  new h hb := ⟨h.1.new hb, h.2.new hb⟩
  book w s m h hs := is_ideal w p bm S s m h.1 (by omega) (by omega)
  ref w s m h hs := refIs_any w base q v S s m h.2 (by omega)

set_option maxRecDepth 100000 in
set_option maxHeartbeats 1600000 in
theorem step_mark (w : World) (p bm base q : Nat) (v : Value) (S : List Txt) (hid : IdealAt w p bm S) (href : RefAt w base q v S) (hn : S.length ≤ 1000) (hbase : base ≤ w.heap.size) (k n : Int) (t m : Txt) (ht : t.length ≤ 140737488351232) (c0 : (k == 0) = true) :
    Calls Try.prog 18 #[ptrV p, ptrV q, opV k n t m] w fun e w' => ∃ v' S', e = .returned (.bool true) ∧ S'.length ≤ S.length + 1 ∧ IdealAt w' p bm S' ∧ RefAt w' base q v' S' ∧
      Kept (fun g => g = bm ∨ g = q ∨ v.ownBlock = some g) w w' ∧ Moved w v v' := by
  have b0 : (w.alloc (opC k n t m)).cell? ⟨w.heap.size, 0, none⟩ = some (.int .i64 k) := by rw [cell_of_row _ _ _ _ _ _ (opC_at w k n t m)]; rfl
  have b2 : (w.alloc (opC k n t m)).cell? ⟨w.heap.size, 2, none⟩ = some (.string ⟨t.toArray⟩) := by rw [cell_of_row _ _ _ _ _ _ (opC_at w k n t m)]; rfl
  have hb0 : Below w.heap.size w (w.alloc (opC k n t m)) := (Below.refl _ _).alloc (Nat.le_refl _) _
  have HI := Lib.hid (hid.new hb0)
  have HR := Lib.hid (href.new hb0)
  have NE := Lib.hid (pair_ne hid href)
  have CUT := fun w' => Lib.hid (cut_any t 300 w' (by decide) ht)
  have hcl : (t.take 300).length ≤ 300 := List.length_take_le _ _
  have hbz := hb0.size
  have H0 := Lib.hid hb0; clear hb0 hid href
  go_enter Try.func18, Try.ntmps18
  go_wp2_with fail
  generalize w.alloc (opC k n t m) = W0 at *
  refine (CUT _).out.mono ?_
  rintro e w' ⟨rfl, rfl⟩
  generalize t.take 300 = s at *
  have ML := Lib.hid (markS_length S s)
  have M1 := Lib.hid (mark_ideal W0 p bm S s HI.out (by omega) (by omega))
  have M2 := fun w' h hb => Lib.hid (refMark_any w' base q v S s h (by omega) hb)
  generalize numM (noS S s) = mk at *
  go_wp2_with fail
  refine M1.out.mono ?_
  rintro e w1 ⟨rfl, hid1, hk1⟩
  have HR1 := Lib.hid (HR.out.kept hk1 NE.out.2.1 (fun g hg => (NE.out.2.2 g hg).2))
  have hs1 := hk1.size
  have HI1 := Lib.hid hid1; clear hid1
  go_wp2_with fail
  refine (M2 _ HR1.out (by omega)).out.mono ?_
  rintro e w2 ⟨v', rfl, href2, hk2, hmv⟩
  have HR2 := Lib.hid href2; clear href2
  go_wp2
  go_ret
  refine ⟨v', markS S s, rfl, ML.out, HI1.out.kept hk2 (fun e => e.elim NE.out.1 (fun h => (NE.out.2.2 p h).1 rfl)) (fun e => e.elim (fun e => NE.out.2.1 e.symm) (fun h => (NE.out.2.2 bm h).2 rfl)), HR2.out, ?_, ?_⟩
  · have k0 : Kept (fun g => g = bm ∨ g = q ∨ v.ownBlock = some g) w W0 := Kept.new H0.out _
    exact (k0.trans (hk1.mono (fun g _ e => .inl e))).trans (hk2.mono (fun g _ e => .inr e))
  · intro g hg
    rcases hmv g hg with h | h
    · exact .inl h
    · right; omega

/-- A call, whatever is asked: both answer alike. -/
theorem step_ideal (w : World) (p bm base q : Nat) (v : Value) (S : List Txt) (hid : IdealAt w p bm S) (href : RefAt w base q v S) (hn : S.length ≤ 1000) (hbase : base ≤ w.heap.size) (k n : Int) (t m : Txt) (ht : t.length ≤ 140737488351232)
    (hn1 : -9223372036854775808 ≤ n) (hn2 : n ≤ 9223372036854775807) :
    Calls Try.prog 18 #[ptrV p, ptrV q, opV k n t m] w fun e w' => ∃ v' S', e = .returned (.bool true) ∧ S'.length ≤ S.length + 1 ∧ IdealAt w' p bm S' ∧ RefAt w' base q v' S' ∧
      Kept (fun g => g = bm ∨ g = q ∨ v.ownBlock = some g) w w' ∧ Moved w v v' := by
  cases c0 : (k == 0)
  · refine (step_ask p q (isS S) _ (asked_ideal p bm base q v S hn) w ⟨hid, href⟩ k n t m ht hn1 hn2 c0).mono ?_
    rintro e w' ⟨rfl, hb⟩
    exact ⟨v, S, rfl, by omega, hid.new hb, href.new hb, Kept.new hb _, Moved.refl _ _⟩
  · exact step_mark w p bm base q v S hid href hn hbase k n t m ht c0
end Go.Proofs.Ytbiahhngeldhbaa

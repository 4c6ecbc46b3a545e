/- Walks of strings.Builder's Grow, at a builder that has not been written. -/
import Derived.Test.YtiknfohadnjkiaaBuildW
import Derived.Test.YtiknfohadnjkiaaGen
import Derived.Test.YtiknfohadnjkiaaRows
import Derived.BigQuiet
import Derived.BigRegion
import Derived.Lib.MakeNoZero
set_option linter.unusedVariables false
namespace Go.Proofs.Ytiknfohadnjkiaa
open Go.RowKit

/-- A builder of no buffer yet, in block b; its own address in it or none. -/
def Fresh (w : World) (b : Nat) (p : Value) : Prop := w.heap[b]? = some (.cells #[p, .slice none 0 0] 71 (0, 0))
theorem Fresh.c0 {w : World} {b : Nat} {p : Value} (h : Fresh w b p) : w.cell? ⟨b, 0, none⟩ = some p := (cell_of_row _ _ _ _ _ _ h).trans rfl
theorem Fresh.c1 {w : World} {b : Nat} {p : Value} (h : Fresh w b p) : w.cell? ⟨b, 1, none⟩ = some (.slice none 0 0) := (cell_of_row _ _ _ _ _ _ h).trans rfl
theorem Fresh.f {w : World} {b : Nat} {p : Value} (h : Fresh w b p) (j : Nat) : w.frozen? ⟨b, j, none⟩ = false := frozen_of_row _ _ _ _ _ h
theorem Fresh.lt {w : World} {b : Nat} {p : Value} (h : Fresh w b p) : b < w.heap.size := (Array.getElem?_eq_some_iff.1 h).1
theorem Fresh.below {w w' : World} {b : Nat} {p : Value} (h : Fresh w b p) (hb : Below w.heap.size w w') : Fresh w' b p := (hb.block b h.lt).trans h
set_option maxRecDepth 100000 in
set_option maxHeartbeats 2000000 in
theorem growB_any (b n : Nat) (w : World) (h : Fresh w b (.pointer (some ⟨b, 0, none⟩))) (hn : n ≤ 1000000) :
    Calls Try.prog 34 #[.pointer (some ⟨b, 0, none⟩), .int .i64 n] w fun e w' => e = .returned (.tuple #[]) ∧ Bld w' b b [] ∧ Below b w w' := by
  obtain ⟨cs, hrun, hle, hmax⟩ := Lib.run_makeNoZero (P := Try.prog) w.drew #[3] 52 5 Try.underlying52 n (by omega)
  have hcall : (callFunc 36 #[.int .i64 n]).run Try.prog w.drew = .ok (.value (.slice (some ⟨w.drew.heap.size, 0, none⟩) n cs.size)) (w.drew.drew.drew.alloc (.cells cs 5)) := by
    rw [run_callFunc_extern Try.func36 (by kernel_rfl) (by kernel_rfl) (by kernel_rfl) (e := Extern.BytealgMakeNoZero.makeNoZero #[3] #[52]) (by kernel_rfl), hrun]
    rfl
  have q0 : IntKind.i64.wrap (IntKind.i64.wrap 0 + (n : Int)) = (n : Int) := by rw [IntKind.wrap_i64, IntKind.wrap_i64]; omega
  have hcall2 := q0 ▸ hcall
  have d1 : w.drew.cell? ⟨b, 1, none⟩ = some (.slice none 0 0) := Fresh.c1 (w := w.drew) h
  have h2 : Fresh (w.alloc (.cells cs 5)) b (.pointer (some ⟨b, 0, none⟩)) := (Lib.alloc_old w _ b h.lt).trans h
  have d2 := h2.c1
  have f2 := h2.f 1
  have hcp : ∀ W : World, (Builtin.copy_ #[52, 52] 3 #[.slice (some ⟨w.heap.size, 0, none⟩) 0 cs.size, .slice none 0 0]).run Try.prog W = .ok (goInt 0) W :=
    fun W => run_copy_none W 52 52 3 5 _ _ 0 cs.size 0 0 Try.underlying52 (by kernel_rfl) rfl
  have hfin := Lib.grown_fresh (T := 71) (e := 5) (B := b) (cs := cs) (Nat.le_refl _) h (Nat.le_of_lt h.lt) (hmax (by unfold maxLen; omega)) (by decide)
  clear hrun hmax q0
  go_enter Try.func34, Try.ntmps34
  go_wp2
  go_region
  go_wp2
  go_end0
  exact ⟨rfl, .inr hfin.1, hfin.2⟩
set_option maxRecDepth 100000 in
set_option maxHeartbeats 1000000 in
theorem copyCheckF_any (b : Nat) (w : World) (h : Fresh w b (.pointer none)) :
    Calls Try.prog 33 #[.pointer (some ⟨b, 0, none⟩)] w fun e w' => e = .returned (.tuple #[]) ∧ w' = w.setCell ⟨b, 0, none⟩ (.pointer (some ⟨b, 0, none⟩)) := by
  obtain ⟨j, hj, hjs⟩ := Option.map_eq_some_iff.1 bld_size
  have h0 := h.c0
  have hf := h.f 0
  have hs : w.shape? b = some (71, 2) := by
    have : w.heap[b]? = _ := h
    simp [World.shape?, this]
  clear h
  have HR1 := Lib.hid (Lib.run_to_unsafe (P := Try.prog) w ⟨b, 0, none⟩ Try.underlying69 Try.underlying78 hj (by rw [hjs]; decide) hs (Nat.zero_lt_succ 1))
  have HR2 := Lib.hid (Lib.run_from_unsafe (P := Try.prog) w ⟨b, 0, none⟩ Try.underlying78 Try.underlying69 hj hs (by kernel_rfl))
  clear hj hjs hs
  go_enter Try.func33, Try.ntmps33
  go_wp2
  rw [HR1.out]
  go_wp2
  rw [run_callFunc_extern Try.func35 (by kernel_rfl) (by kernel_rfl) (by kernel_rfl) (e := Extern.AbiNoEscape.same) (by kernel_rfl), Lib.run_noEscape]
  go_wp2
  rw [HR2.out]
  go_wp2
  go_end0
  exact ⟨rfl, rfl⟩
set_option maxRecDepth 100000 in
set_option maxHeartbeats 2000000 in
/-- Behind Grow a builder that has not been written holds nothing. -/
theorem growI_any (b n : Nat) (w : World) (h : Fresh w b (.pointer none)) (hn : n ≤ 1000000) :
    Calls Try.prog 29 #[.pointer (some ⟨b, 0, none⟩), .int .i64 n] w fun e w' => e = .returned (.tuple #[]) ∧ Bld w' b b [] ∧ Below b w w' := by
  have CC := Lib.hid (copyCheckF_any b w h)
  have h1 : Fresh (w.setCell ⟨b, 0, none⟩ (.pointer (some ⟨b, 0, none⟩))) b (.pointer (some ⟨b, 0, none⟩)) := heap_setCell_same w b 0 _ _ _ h
  have hb1 : Below b w (w.setCell ⟨b, 0, none⟩ (.pointer (some ⟨b, 0, none⟩))) := (Below.refl b w).setCell (p := ⟨b, 0, none⟩) (Nat.le_refl _) _
  generalize w.setCell ⟨b, 0, none⟩ (.pointer (some ⟨b, 0, none⟩)) = w1 at *
  clear h
  have HB1 := Lib.hid hb1
  have H1 := Lib.hid h1
  have d1 := h1.c1
  clear hb1 h1
  have j0 : ¬ (n : Int) < 0 := by omega
  have HN := Lib.hid hn
  by_cases hz : n = 0
  · subst hz
    go_enter Try.func29, Try.ntmps29
    go_wp2_with fail
    refine CC.out.mono ?_
    rintro e w2 ⟨rfl, rfl⟩
    go_wp2_with fail
    go_quiet (fail)
    have HBQ := Lib.hid (Below_drewN (Below.refl w2.heap.size w2) nq)
    have H2 := Lib.hid (H1.out.below HBQ.out)
    go_wp2_with fail
    go_end0
    exact ⟨rfl, .inr ⟨Nat.le_refl _, .slice none 0 0, H2.out, World.ownsRow_nil _ _ _ _, by simp [Value.ownBlock]⟩, HB1.out.trans (HBQ.out.mono (Nat.le_of_lt H1.out.lt))⟩
  · have j1 : (0 : Int) < (n : Int) := by omega
    clear hz
    go_enter Try.func29, Try.ntmps29
    go_wp2_with fail
    refine CC.out.mono ?_
    rintro e w2 ⟨rfl, rfl⟩
    go_wp2_with fail
    go_quiet (fail)
    have HBQ := Lib.hid (Below_drewN (Below.refl w2.heap.size w2) nq)
    have H2 := Lib.hid (H1.out.below HBQ.out)
    have GR := Lib.hid (growB_any b n _ H2.out HN.out)
    generalize w2.drewN nq = w3 at *
    go_wp2_with fail
    refine GR.out.mono ?_
    rintro e w4 ⟨rfl, hbl, hb4⟩
    go_wp2_with fail
    go_end0
    exact ⟨rfl, hbl, (HB1.out.trans (HBQ.out.mono (Nat.le_of_lt H1.out.lt))).trans hb4⟩
end Go.Proofs.Ytiknfohadnjkiaa

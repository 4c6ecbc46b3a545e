/- Several texts in one: BuildW, BuildKW, GrowIW. -/
import Derived.Test.YtfgimhgkjodcgaaDoorGen
import Derived.Test.YtfgimhgkjodcgaaDoorRows
import Derived.Laws.Externs
import Derived.Lib.AppendStr
import Derived.Lib.Builder
import Derived.Lib.Hide
import Derived.Lib.Strings
import Derived.Lib.Walk
import Derived.Outline
import Derived.WalkKit
import Derived.WalkSpells
import Derived.BigQuiet
import Derived.BigRegion
import Derived.Lib.MakeNoZero
/- Walks of strings.Builder: a text is written into one that the call has made. -/
set_option linter.unusedVariables false
namespace Go.Proofs.YtfgimhgkjodcgaaDoor
open Go.RowKit

/-- A builder in block b, which holds these bytes. -/
abbrev Bld (w : World) (B b : Nat) (l : List UInt8) : Prop := Lib.IsBuilder 55 5 B b (cellsOf l) w

theorem bld_size : (Tryd.prog.info? 55).map (·.size) = some 2 := by kernel_rfl
theorem info_byte : (Tryd.prog.info? 5).map (fun i => (i.zero, i.size, i.bytes)) = some (some (.int .u8 0), 1, 1) := by kernel_rfl

set_option maxRecDepth 100000 in
set_option maxHeartbeats 1000000 in
theorem copyCheck_any (B b : Nat) (l : List UInt8) (w : World) (h : Bld w B b l) :
    Calls Tryd.prog 54 #[.pointer (some ⟨b, 0, none⟩)] w fun e w' => e = .returned (.tuple #[]) ∧
      Lib.BuilderAt 55 5 B b (.pointer (some ⟨b, 0, none⟩)) (cellsOf l) w' ∧ Below B w w' := by
  obtain ⟨j, hj, hjs⟩ := Option.map_eq_some_iff.1 bld_size
  rcases h with h | h
  · have h0 := h.cell0
    have hf := h.frozen0
    have hs := h.shape
    have H := Lib.hid h
    clear h
    have R1 := Lib.run_to_unsafe (P := Tryd.prog) w ⟨b, 0, none⟩ Tryd.underlying53 Tryd.underlying109 hj (by rw [hjs]; decide) hs (Nat.zero_lt_succ 1)
    have R2 := Lib.run_from_unsafe (P := Tryd.prog) w ⟨b, 0, none⟩ Tryd.underlying109 Tryd.underlying53 hj hs (by kernel_rfl)
    have HR1 := Lib.hid R1; clear R1
    have HR2 := Lib.hid R2; clear R2
    have HJ := Lib.hid hj; clear hj
    clear hjs
    go_enter Tryd.func54, Tryd.ntmps54
    go_wp2
    rw [HR1.out]
    go_wp2
    rw [run_callFunc_extern Tryd.func82 (by kernel_rfl) (by kernel_rfl) (by kernel_rfl) (e := Extern.AbiNoEscape.same) (by kernel_rfl), Lib.run_noEscape]
    go_wp2
    rw [HR2.out]
    go_wp2
    go_end0
    exact ⟨rfl, H.out.used _, (Below.refl B w).setCell (p := ⟨b, 0, none⟩) H.out.1 _⟩
  · have h0 := h.cell0
    have H := Lib.hid h
    clear h
    have R := Lib.hid (Lib.run_neq_ptr_same (P := Tryd.prog) w ⟨b, 0, none⟩ Tryd.underlying53 hj)
    clear hj hjs
    go_enter Tryd.func54, Tryd.ntmps54
    go_wp2
    rw [R.out]
    go_wp2
    go_end0
    exact ⟨rfl, H.out, Below.refl B _⟩

set_option maxRecDepth 100000 in
set_option maxHeartbeats 1000000 in
theorem writeString_any (B b : Nat) (l s : List UInt8) (w : World) (h : Bld w B b l) (hlen : l.length + s.length ≤ 140737488355328) (hBw : B ≤ w.heap.size) :
    Calls Tryd.prog 29 #[.pointer (some ⟨b, 0, none⟩), .string ⟨s.toArray⟩] w fun e w' => e = .returned (.tuple #[.int .i64 s.length, .nilIface]) ∧
      Bld w' B b (l ++ s) ∧ Below B w w' := by
  obtain ⟨i0, hi, hz0, hz1, hz2⟩ := info_parts info_byte
  have L := Lib.hid (show (⟨s.toArray⟩ : ByteArray).size = s.length from rfl)
  have C := Lib.hid (copyCheck_any B b l w h)
  clear h
  go_enter Tryd.func29, Tryd.ntmps29
  go_wp2_with fail
  refine C.out.mono ?_
  rintro e w1 ⟨rfl, h1, hb1⟩
  obtain ⟨hB, v, hbk, hown, hne⟩ := h1
  have c0 : w1.cell? ⟨b, 0, none⟩ = some (.pointer (some ⟨b, 0, none⟩)) := by rw [Lib.cell_of_heap hbk]; rfl
  have c1 : w1.cell? ⟨b, 1, none⟩ = some v := by rw [Lib.cell_of_heap hbk]; rfl
  have Hown : Hid (w1.ownsRow B 5 1 v l.length (cellsOf l)) := Lib.hid (by rw [cellsOf_length] at hown; exact hown)
  clear hown
  have Hbk := Lib.hid hbk; clear hbk
  have Hne := Lib.hid hne; clear hne
  have Hi := Lib.hid hi; clear hi
  have Z0 := Lib.hid hz0; clear hz0
  have Z1 := Lib.hid hz1; clear hz1
  have Z2 := Lib.hid hz2; clear hz2
  go_wp2_with (at_builtin; refine Lib.wpList_append_own_string _ rfl _ _ 31 9 rfl B 5 i0 Tryd.underlying31 Tryd.underlying9 Hi.out Z0.out Z1.out Z2.out _ _ _ rfl Hown.out ⟨s.toArray⟩ rfl ?c3 ?c4 ?c5 ?_)
  case c3 => rw [L.out]; unfold maxLen; omega
  case c4 => rw [L.out]; omega
  case c5 => have := hb1.size; omega
  intro v' w2 hown' hgrow _
  have hlt : b < w1.heap.size := (Array.getElem?_eq_some_iff.1 Hbk.out).1
  have hb2 : w2.heap[b]? = some (.cells #[.pointer (some ⟨b, 0, none⟩), v] 55 (0, 0)) := by
    rw [hgrow.block b hlt (fun e => Hne.out e.symm)]
    exact Hbk.out
  have d0 : w2.cell? ⟨b, 0, none⟩ = some (.pointer (some ⟨b, 0, none⟩)) := by rw [Lib.cell_of_heap hb2]; rfl
  have d1 : w2.cell? ⟨b, 1, none⟩ = some v := by rw [Lib.cell_of_heap hb2]; rfl
  have f1 : w2.frozen? ⟨b, 1, none⟩ = false := Lib.frozen_of_heap hb2 1
  have Hown2 := Lib.hid hown'; clear hown'
  have Hg := Lib.hid hgrow; clear hgrow
  have Hb2 := Lib.hid hb2; clear hb2
  have D1 := Lib.hid d1; clear d1
  obtain ⟨ao, n', cap, rfl⟩ : ∃ ao n' cap, v' = .slice ao n' cap := by
    rcases Hown2.out.2 with ⟨hv, _⟩ | ⟨g, cap, cur, hv, _⟩
    · exact ⟨_, _, _, hv⟩
    · exact ⟨_, _, _, hv⟩
  have d1 := D1.out
  go_wp2
  go_ret2
  refine ⟨rfl, .inr ?_, ?_⟩
  · refine Lib.BuilderAt.put (T := 55) (e := 5) hB Hb2.out (bs' := cellsOf (l ++ s)) ?_ (by decide)
    have := Hown2.out
    rw [cellsOf_append, List.length_append, cellsOf_length, cellsOf_length]
    exact this
  · exact (hb1.grown Hg.out (by have := hb1.size; omega) (fun k hk => (Hown.out.lt k hk).1)).setCell (p := ⟨b, 1, none⟩) hB _
end Go.Proofs.YtfgimhgkjodcgaaDoor
/- Walks of strings.Builder: a text is written into one that the call has made; what else stands. -/
set_option linter.unusedVariables false
namespace Go.Proofs.YtfgimhgkjodcgaaDoor
open Go.RowKit

/-- But for the builder's own block and rows of bytes all stands. -/
def KeptB (b : Nat) (w w' : World) : Prop := ∀ k o, w.heap[k]? = some o → k ≠ b → (∀ cs fr, o ≠ .cells cs 5 fr) → w'.heap[k]? = some o

set_option maxRecDepth 100000 in
set_option maxHeartbeats 1000000 in
theorem copyCheckK_any (B b : Nat) (l : List UInt8) (w : World) (h : Bld w B b l) :
    Calls Tryd.prog 54 #[.pointer (some ⟨b, 0, none⟩)] w fun e w' => e = .returned (.tuple #[]) ∧
      Lib.BuilderAt 55 5 B b (.pointer (some ⟨b, 0, none⟩)) (cellsOf l) w' ∧ Below B w w' ∧ Kept (fun k => k = b) w w' := by
  obtain ⟨j, hj, hjs⟩ := Option.map_eq_some_iff.1 bld_size
  rcases h with h | h
  · have h0 := h.cell0
    have hf := h.frozen0
    have hs := h.shape
    have H := Lib.hid h
    clear h
    have R1 := Lib.run_to_unsafe (P := Tryd.prog) w ⟨b, 0, none⟩ Tryd.underlying53 Tryd.underlying109 hj (by rw [hjs]; decide) hs (Nat.zero_lt_succ 1)
    have R2 := Lib.run_from_unsafe (P := Tryd.prog) w ⟨b, 0, none⟩ Tryd.underlying109 Tryd.underlying53 hj hs (by kernel_rfl)
    have HR1 := Lib.hid R1; clear R1
    have HR2 := Lib.hid R2; clear R2
    have HJ := Lib.hid hj; clear hj
    clear hjs
    go_enter Tryd.func54, Tryd.ntmps54
    go_wp2
    rw [HR1.out]
    go_wp2
    rw [run_callFunc_extern Tryd.func82 (by kernel_rfl) (by kernel_rfl) (by kernel_rfl) (e := Extern.AbiNoEscape.same) (by kernel_rfl), Lib.run_noEscape]
    go_wp2
    rw [HR2.out]
    go_wp2
    go_end0
    exact ⟨rfl, H.out.used _, (Below.refl B w).setCell (p := ⟨b, 0, none⟩) H.out.1 _, (Kept.refl (fun k => k = b) w).setCell (p := ⟨b, 0, none⟩) rfl _⟩
  · have h0 := h.cell0
    have H := Lib.hid h
    clear h
    have R := Lib.hid (Lib.run_neq_ptr_same (P := Tryd.prog) w ⟨b, 0, none⟩ Tryd.underlying53 hj)
    clear hj hjs
    go_enter Tryd.func54, Tryd.ntmps54
    go_wp2
    rw [R.out]
    go_wp2
    go_end0
    exact ⟨rfl, H.out, Below.refl B _, Kept.refl _ _⟩

set_option maxRecDepth 100000 in
set_option maxHeartbeats 1000000 in
theorem writeStringK_any (B b : Nat) (l s : List UInt8) (w : World) (h : Bld w B b l) (hlen : l.length + s.length ≤ 140737488355328) (hBw : B ≤ w.heap.size) :
    Calls Tryd.prog 29 #[.pointer (some ⟨b, 0, none⟩), .string ⟨s.toArray⟩] w fun e w' => e = .returned (.tuple #[.int .i64 s.length, .nilIface]) ∧
      Bld w' B b (l ++ s) ∧ Below B w w' ∧ KeptB b w w' := by
  obtain ⟨i0, hi, hz0, hz1, hz2⟩ := info_parts info_byte
  have L := Lib.hid (show (⟨s.toArray⟩ : ByteArray).size = s.length from rfl)
  have C := Lib.hid (copyCheckK_any B b l w h)
  clear h
  go_enter Tryd.func29, Tryd.ntmps29
  go_wp2_with fail
  refine C.out.mono ?_
  rintro e w1 ⟨rfl, h1, hb1, hk1⟩
  obtain ⟨hB, v, hbk, hown, hne⟩ := h1
  have c0 : w1.cell? ⟨b, 0, none⟩ = some (.pointer (some ⟨b, 0, none⟩)) := by rw [Lib.cell_of_heap hbk]; rfl
  have c1 : w1.cell? ⟨b, 1, none⟩ = some v := by rw [Lib.cell_of_heap hbk]; rfl
  have Hown : Hid (w1.ownsRow B 5 1 v l.length (cellsOf l)) := Lib.hid (by rw [cellsOf_length] at hown; exact hown)
  clear hown
  have Hbk := Lib.hid hbk; clear hbk
  have Hne := Lib.hid hne; clear hne
  have Hi := Lib.hid hi; clear hi
  have Z0 := Lib.hid hz0; clear hz0
  have Z1 := Lib.hid hz1; clear hz1
  have Z2 := Lib.hid hz2; clear hz2
  go_wp2_with (at_builtin; refine Lib.wpList_append_own_string _ rfl _ _ 31 9 rfl B 5 i0 Tryd.underlying31 Tryd.underlying9 Hi.out Z0.out Z1.out Z2.out _ _ _ rfl Hown.out ⟨s.toArray⟩ rfl ?c3 ?c4 ?c5 ?_)
  case c3 => rw [L.out]; unfold maxLen; omega
  case c4 => rw [L.out]; omega
  case c5 => have := hb1.size; omega
  intro v' w2 hown' hgrow _
  have hlt : b < w1.heap.size := (Array.getElem?_eq_some_iff.1 Hbk.out).1
  have hb2 : w2.heap[b]? = some (.cells #[.pointer (some ⟨b, 0, none⟩), v] 55 (0, 0)) := by
    rw [hgrow.block b hlt (fun e => Hne.out e.symm)]
    exact Hbk.out
  have d0 : w2.cell? ⟨b, 0, none⟩ = some (.pointer (some ⟨b, 0, none⟩)) := by rw [Lib.cell_of_heap hb2]; rfl
  have d1 : w2.cell? ⟨b, 1, none⟩ = some v := by rw [Lib.cell_of_heap hb2]; rfl
  have f1 : w2.frozen? ⟨b, 1, none⟩ = false := Lib.frozen_of_heap hb2 1
  have Hown2 := Lib.hid hown'; clear hown'
  have Hg := Lib.hid hgrow; clear hgrow
  have Hb2 := Lib.hid hb2; clear hb2
  have D1 := Lib.hid d1; clear d1
  obtain ⟨ao, n', cap, rfl⟩ : ∃ ao n' cap, v' = .slice ao n' cap := by
    rcases Hown2.out.2 with ⟨hv, _⟩ | ⟨g, cap, cur, hv, _⟩
    · exact ⟨_, _, _, hv⟩
    · exact ⟨_, _, _, hv⟩
  have d1 := D1.out
  go_wp2
  go_ret2
  refine ⟨rfl, .inr ?_, ?_, ?_⟩
  · refine Lib.BuilderAt.put (T := 55) (e := 5) hB Hb2.out (bs' := cellsOf (l ++ s)) ?_ (by decide)
    have := Hown2.out
    rw [cellsOf_append, List.length_append, cellsOf_length, cellsOf_length]
    exact this
  · exact (hb1.grown Hg.out (by have := hb1.size; omega) (fun k hk => (Hown.out.lt k hk).1)).setCell (p := ⟨b, 1, none⟩) hB _
  · intro k o hk hne hty
    have h1 := hk1.old hk hne
    have hv : v.ownBlock ≠ some k := fun e => by
      rcases Hown.out.2 with ⟨hv, _⟩ | ⟨g, cap', cur, hv, _, hgg, _⟩
      · rw [hv] at e; simp [Value.ownBlock] at e
      · rw [hv] at e
        simp [Value.ownBlock] at e
        subst e
        rw [h1] at hgg
        injection hgg with hgg
        exact hty _ _ hgg
    have h2 := (Hg.out.block k (Array.getElem?_eq_some_iff.1 h1).1 (fun e => hv e.symm)).trans h1
    exact (((Kept.refl (fun k => k = b) w2).setCell (p := ⟨b, 1, none⟩) rfl _).old h2 hne)
end Go.Proofs.YtfgimhgkjodcgaaDoor
/- Walks of strings.Builder's Grow, at a builder that has not been written. -/
set_option linter.unusedVariables false
namespace Go.Proofs.YtfgimhgkjodcgaaDoor
open Go.RowKit

/-- A builder of no buffer yet, in block b; its own address in it or none. -/
def Fresh (w : World) (b : Nat) (p : Value) : Prop := w.heap[b]? = some (.cells #[p, .slice none 0 0] 55 (0, 0))
theorem Fresh.c0 {w : World} {b : Nat} {p : Value} (h : Fresh w b p) : w.cell? ⟨b, 0, none⟩ = some p := (cell_of_row _ _ _ _ _ _ h).trans rfl
theorem Fresh.c1 {w : World} {b : Nat} {p : Value} (h : Fresh w b p) : w.cell? ⟨b, 1, none⟩ = some (.slice none 0 0) := (cell_of_row _ _ _ _ _ _ h).trans rfl
theorem Fresh.f {w : World} {b : Nat} {p : Value} (h : Fresh w b p) (j : Nat) : w.frozen? ⟨b, j, none⟩ = false := frozen_of_row _ _ _ _ _ h
theorem Fresh.lt {w : World} {b : Nat} {p : Value} (h : Fresh w b p) : b < w.heap.size := (Array.getElem?_eq_some_iff.1 h).1
theorem Fresh.below {w w' : World} {b : Nat} {p : Value} (h : Fresh w b p) (hb : Below w.heap.size w w') : Fresh w' b p := (hb.block b h.lt).trans h
set_option maxRecDepth 100000 in
set_option maxHeartbeats 2000000 in
theorem growB_any (b n : Nat) (w : World) (h : Fresh w b (.pointer (some ⟨b, 0, none⟩))) (hn : n ≤ 1000000) :
    Calls Tryd.prog 55 #[.pointer (some ⟨b, 0, none⟩), .int .i64 n] w fun e w' => e = .returned (.tuple #[]) ∧ Bld w' b b [] ∧ Below b w w' := by
  obtain ⟨cs, hrun, hle, hmax⟩ := Lib.run_makeNoZero (P := Tryd.prog) w.drew #[3] 31 5 Tryd.underlying31 n (by omega)
  have hcall : (callFunc 83 #[.int .i64 n]).run Tryd.prog w.drew = .ok (.value (.slice (some ⟨w.drew.heap.size, 0, none⟩) n cs.size)) (w.drew.drew.drew.alloc (.cells cs 5)) := by
    rw [run_callFunc_extern Tryd.func83 (by kernel_rfl) (by kernel_rfl) (by kernel_rfl) (e := Extern.BytealgMakeNoZero.makeNoZero #[3] #[31]) (by kernel_rfl), hrun]
    rfl
  have q0 : IntKind.i64.wrap (IntKind.i64.wrap 0 + (n : Int)) = (n : Int) := by rw [IntKind.wrap_i64, IntKind.wrap_i64]; omega
  have hcall2 := q0 ▸ hcall
  have d1 : w.drew.cell? ⟨b, 1, none⟩ = some (.slice none 0 0) := Fresh.c1 (w := w.drew) h
  have h2 : Fresh (w.alloc (.cells cs 5)) b (.pointer (some ⟨b, 0, none⟩)) := (Lib.alloc_old w _ b h.lt).trans h
  have d2 := h2.c1
  have f2 := h2.f 1
  have hcp : ∀ W : World, (Builtin.copy_ #[31, 31] 3 #[.slice (some ⟨w.heap.size, 0, none⟩) 0 cs.size, .slice none 0 0]).run Tryd.prog W = .ok (goInt 0) W :=
    fun W => run_copy_none W 31 31 3 5 _ _ 0 cs.size 0 0 Tryd.underlying31 (by kernel_rfl) rfl
  have hfin := Lib.grown_fresh (T := 55) (e := 5) (B := b) (cs := cs) (Nat.le_refl _) h (Nat.le_of_lt h.lt) (hmax (by unfold maxLen; omega)) (by decide)
  clear hrun hmax q0
  go_enter Tryd.func55, Tryd.ntmps55
  go_wp2
  go_region
  go_wp2
  go_end0
  exact ⟨rfl, .inr hfin.1, hfin.2⟩
set_option maxRecDepth 100000 in
set_option maxHeartbeats 1000000 in
theorem copyCheckF_any (b : Nat) (w : World) (h : Fresh w b (.pointer none)) :
    Calls Tryd.prog 54 #[.pointer (some ⟨b, 0, none⟩)] w fun e w' => e = .returned (.tuple #[]) ∧ w' = w.setCell ⟨b, 0, none⟩ (.pointer (some ⟨b, 0, none⟩)) := by
  obtain ⟨j, hj, hjs⟩ := Option.map_eq_some_iff.1 bld_size
  have h0 := h.c0
  have hf := h.f 0
  have hs : w.shape? b = some (55, 2) := by
    have : w.heap[b]? = _ := h
    simp [World.shape?, this]
  clear h
  have HR1 := Lib.hid (Lib.run_to_unsafe (P := Tryd.prog) w ⟨b, 0, none⟩ Tryd.underlying53 Tryd.underlying109 hj (by rw [hjs]; decide) hs (Nat.zero_lt_succ 1))
  have HR2 := Lib.hid (Lib.run_from_unsafe (P := Tryd.prog) w ⟨b, 0, none⟩ Tryd.underlying109 Tryd.underlying53 hj hs (by kernel_rfl))
  clear hj hjs hs
  go_enter Tryd.func54, Tryd.ntmps54
  go_wp2
  rw [HR1.out]
  go_wp2
  rw [run_callFunc_extern Tryd.func82 (by kernel_rfl) (by kernel_rfl) (by kernel_rfl) (e := Extern.AbiNoEscape.same) (by kernel_rfl), Lib.run_noEscape]
  go_wp2
  rw [HR2.out]
  go_wp2
  go_end0
  exact ⟨rfl, rfl⟩
set_option maxRecDepth 100000 in
set_option maxHeartbeats 2000000 in
/-- Behind Grow a builder that has not been written holds nothing. -/
theorem growI_any (b n : Nat) (w : World) (h : Fresh w b (.pointer none)) (hn : n ≤ 1000000) :
    Calls Tryd.prog 28 #[.pointer (some ⟨b, 0, none⟩), .int .i64 n] w fun e w' => e = .returned (.tuple #[]) ∧ Bld w' b b [] ∧ Below b w w' := by
  have CC := Lib.hid (copyCheckF_any b w h)
  have h1 : Fresh (w.setCell ⟨b, 0, none⟩ (.pointer (some ⟨b, 0, none⟩))) b (.pointer (some ⟨b, 0, none⟩)) := heap_setCell_same w b 0 _ _ _ h
  have hb1 : Below b w (w.setCell ⟨b, 0, none⟩ (.pointer (some ⟨b, 0, none⟩))) := (Below.refl b w).setCell (p := ⟨b, 0, none⟩) (Nat.le_refl _) _
  generalize w.setCell ⟨b, 0, none⟩ (.pointer (some ⟨b, 0, none⟩)) = w1 at *
  clear h
  have HB1 := Lib.hid hb1
  have H1 := Lib.hid h1
  have d1 := h1.c1
  clear hb1 h1
  have j0 : ¬ (n : Int) < 0 := by omega
  have HN := Lib.hid hn
  by_cases hz : n = 0
  · subst hz
    go_enter Tryd.func28, Tryd.ntmps28
    go_wp2_with fail
    refine CC.out.mono ?_
    rintro e w2 ⟨rfl, rfl⟩
    go_wp2_with fail
    go_quiet (fail)
    have HBQ := Lib.hid (Below_drewN (Below.refl w2.heap.size w2) nq)
    have H2 := Lib.hid (H1.out.below HBQ.out)
    go_wp2_with fail
    go_end0
    exact ⟨rfl, .inr ⟨Nat.le_refl _, .slice none 0 0, H2.out, World.ownsRow_nil _ _ _ _, by simp [Value.ownBlock]⟩, HB1.out.trans (HBQ.out.mono (Nat.le_of_lt H1.out.lt))⟩
  · have j1 : (0 : Int) < (n : Int) := by omega
    clear hz
    go_enter Tryd.func28, Tryd.ntmps28
    go_wp2_with fail
    refine CC.out.mono ?_
    rintro e w2 ⟨rfl, rfl⟩
    go_wp2_with fail
    go_quiet (fail)
    have HBQ := Lib.hid (Below_drewN (Below.refl w2.heap.size w2) nq)
    have H2 := Lib.hid (H1.out.below HBQ.out)
    have GR := Lib.hid (growB_any b n _ H2.out HN.out)
    generalize w2.drewN nq = w3 at *
    go_wp2_with fail
    refine GR.out.mono ?_
    rintro e w4 ⟨rfl, hbl, hb4⟩
    go_wp2_with fail
    go_end0
    exact ⟨rfl, hbl, (HB1.out.trans (HBQ.out.mono (Nat.le_of_lt H1.out.lt))).trans hb4⟩
end Go.Proofs.YtfgimhgkjodcgaaDoor

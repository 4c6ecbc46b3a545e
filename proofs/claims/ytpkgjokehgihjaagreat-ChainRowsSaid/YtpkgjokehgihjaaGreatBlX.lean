/- Several texts in one: BuildW, BuildKW, RunDW, ApplyDW. -/
import Derived.Test.YtpkgjokehgihjaaGreatGen
import Derived.Test.YtpkgjokehgihjaaGreatRows
import Derived.Laws.Externs
import Derived.Lib.AppendStr
import Derived.Lib.Builder
import Derived.Lib.Hide
import Derived.Lib.Strings
import Derived.Lib.Walk
import Derived.Outline
import Derived.WalkKit
import Derived.WalkSpells
import Derived.Test.YtpkgjokehgihjaaGreatBldShelf
import Derived.Test.YtpkgjokehgihjaaGreatDelX
import Derived.Test.YtpkgjokehgihjaaGreatFrame
import Derived.Test.YtpkgjokehgihjaaGreatMarkMath
import Derived.Test.YtpkgjokehgihjaaGreatOwnL
import Derived.Test.YtpkgjokehgihjaaGreatProg
import Derived.Test.YtpkgjokehgihjaaGreatTabX
import Derived.Test.YtpkgjokehgihjaaGreatRightDW
import Derived.Test.YtpkgjokehgihjaaGreatRowKeep
import Derived.Test.YtpkgjokehgihjaaGreatSignMath
import Derived.Test.YtpkgjokehgihjaaGreatStepW
import Derived.BigQuiet
import Derived.Deep.QuietTactic
import Derived.IntWalk
import Derived.Laws.Rows
import Derived.Laws.Tables
import Derived.WalkLawsBesides
import Derived.Test.YtpkgjokehgihjaaGreatBookW
import Derived.Test.YtpkgjokehgihjaaGreatRollMath
import Derived.Test.YtpkgjokehgihjaaGreatShelf
import Derived.Test.YtpkgjokehgihjaaGreatSigAt
import Derived.Test.YtpkgjokehgihjaaGreatSortX
import Derived.Test.YtpkgjokehgihjaaGreatSortEW
import Derived.BigRegion
import Derived.Deep.CutBlock
import Derived.Deep.DeepCutAuto
import Derived.Deep.RegionHeld3
import Derived.Deep.RegionLaw
import Derived.Laws.BitsAllLaws
import Derived.Laws.MakeOwn
import Derived.Sort.Walk0
import Derived.StillTailTactics
/- Walks of strings.Builder: a text is written into one that the call has made. -/
set_option linter.unusedVariables false
namespace Go.Proofs.YtpkgjokehgihjaaGreat
open Go.RowKit

/-- A builder in block b, which holds these bytes. -/
abbrev Bld (w : World) (B b : Nat) (l : List UInt8) : Prop := Lib.IsBuilder 71 5 B b (cellsOf l) w

theorem bld_size : (Tryz.prog.info? 71).map (·.size) = some 2 := by kernel_rfl
theorem info_byte : (Tryz.prog.info? 5).map (fun i => (i.zero, i.size, i.bytes)) = some (some (.int .u8 0), 1, 1) := by kernel_rfl

set_option maxRecDepth 100000 in
set_option maxHeartbeats 1000000 in
theorem copyCheck_any (B b : Nat) (l : List UInt8) (w : World) (h : Bld w B b l) :
    Calls Tryz.prog 47 #[.pointer (some ⟨b, 0, none⟩)] w fun e w' => e = .returned (.tuple #[]) ∧
      Lib.BuilderAt 71 5 B b (.pointer (some ⟨b, 0, none⟩)) (cellsOf l) w' ∧ Below B w w' := by
  obtain ⟨j, hj, hjs⟩ := Option.map_eq_some_iff.1 bld_size
  rcases h with h | h
  · have h0 := h.cell0
    have hf := h.frozen0
    have hs := h.shape
    have H := Lib.hid h
    clear h
    have R1 := Lib.run_to_unsafe (P := Tryz.prog) w ⟨b, 0, none⟩ Tryz.underlying69 Tryz.underlying124 hj (by rw [hjs]; decide) hs (Nat.zero_lt_succ 1)
    have R2 := Lib.run_from_unsafe (P := Tryz.prog) w ⟨b, 0, none⟩ Tryz.underlying124 Tryz.underlying69 hj hs (by kernel_rfl)
    have HR1 := Lib.hid R1; clear R1
    have HR2 := Lib.hid R2; clear R2
    have HJ := Lib.hid hj; clear hj
    clear hjs
    go_enter Tryz.func47, Tryz.ntmps47
    go_wp2
    rw [HR1.out]
    go_wp2
    rw [run_callFunc_extern Tryz.func72 (by kernel_rfl) (by kernel_rfl) (by kernel_rfl) (e := Extern.AbiNoEscape.same) (by kernel_rfl), Lib.run_noEscape]
    go_wp2
    rw [HR2.out]
    go_wp2
    go_end0
    exact ⟨rfl, H.out.used _, (Below.refl B w).setCell (p := ⟨b, 0, none⟩) H.out.1 _⟩
  · have h0 := h.cell0
    have H := Lib.hid h
    clear h
    have R := Lib.hid (Lib.run_neq_ptr_same (P := Tryz.prog) w ⟨b, 0, none⟩ Tryz.underlying69 hj)
    clear hj hjs
    go_enter Tryz.func47, Tryz.ntmps47
    go_wp2
    rw [R.out]
    go_wp2
    go_end0
    exact ⟨rfl, H.out, Below.refl B _⟩

set_option maxRecDepth 100000 in
set_option maxHeartbeats 1000000 in
theorem writeString_any (B b : Nat) (l s : List UInt8) (w : World) (h : Bld w B b l) (hlen : l.length + s.length ≤ 140737488355328) (hBw : B ≤ w.heap.size) :
    Calls Tryz.prog 35 #[.pointer (some ⟨b, 0, none⟩), .string ⟨s.toArray⟩] w fun e w' => e = .returned (.tuple #[.int .i64 s.length, .nilIface]) ∧
      Bld w' B b (l ++ s) ∧ Below B w w' := by
  obtain ⟨i0, hi, hz0, hz1, hz2⟩ := info_parts info_byte
  have L := Lib.hid (show (⟨s.toArray⟩ : ByteArray).size = s.length from rfl)
  have C := Lib.hid (copyCheck_any B b l w h)
  clear h
  go_enter Tryz.func35, Tryz.ntmps35
  go_wp2_with fail
  refine C.out.mono ?_
  rintro e w1 ⟨rfl, h1, hb1⟩
  obtain ⟨hB, v, hbk, hown, hne⟩ := h1
  have c0 : w1.cell? ⟨b, 0, none⟩ = some (.pointer (some ⟨b, 0, none⟩)) := by rw [Lib.cell_of_heap hbk]; rfl
  have c1 : w1.cell? ⟨b, 1, none⟩ = some v := by rw [Lib.cell_of_heap hbk]; rfl
  have Hown : Hid (w1.ownsRow B 5 1 v l.length (cellsOf l)) := Lib.hid (by rw [cellsOf_length] at hown; exact hown)
  clear hown
  have Hbk := Lib.hid hbk; clear hbk
  have Hne := Lib.hid hne; clear hne
  have Hi := Lib.hid hi; clear hi
  have Z0 := Lib.hid hz0; clear hz0
  have Z1 := Lib.hid hz1; clear hz1
  have Z2 := Lib.hid hz2; clear hz2
  go_wp2_with (at_builtin; refine Lib.wpList_append_own_string _ rfl _ _ 54 9 rfl B 5 i0 Tryz.underlying54 Tryz.underlying9 Hi.out Z0.out Z1.out Z2.out _ _ _ rfl Hown.out ⟨s.toArray⟩ rfl ?c3 ?c4 ?c5 ?_)
  case c3 => rw [L.out]; unfold maxLen; omega
  case c4 => rw [L.out]; omega
  case c5 => have := hb1.size; omega
  intro v' w2 hown' hgrow _
  have hlt : b < w1.heap.size := (Array.getElem?_eq_some_iff.1 Hbk.out).1
  have hb2 : w2.heap[b]? = some (.cells #[.pointer (some ⟨b, 0, none⟩), v] 71 (0, 0)) := by
    rw [hgrow.block b hlt (fun e => Hne.out e.symm)]
    exact Hbk.out
  have d0 : w2.cell? ⟨b, 0, none⟩ = some (.pointer (some ⟨b, 0, none⟩)) := by rw [Lib.cell_of_heap hb2]; rfl
  have d1 : w2.cell? ⟨b, 1, none⟩ = some v := by rw [Lib.cell_of_heap hb2]; rfl
  have f1 : w2.frozen? ⟨b, 1, none⟩ = false := Lib.frozen_of_heap hb2 1
  have Hown2 := Lib.hid hown'; clear hown'
  have Hg := Lib.hid hgrow; clear hgrow
  have Hb2 := Lib.hid hb2; clear hb2
  have D1 := Lib.hid d1; clear d1
  obtain ⟨ao, n', cap, rfl⟩ : ∃ ao n' cap, v' = .slice ao n' cap := by
    rcases Hown2.out.2 with ⟨hv, _⟩ | ⟨g, cap, cur, hv, _⟩
    · exact ⟨_, _, _, hv⟩
    · exact ⟨_, _, _, hv⟩
  have d1 := D1.out
  go_wp2
  go_ret2
  refine ⟨rfl, .inr ?_, ?_⟩
  · refine Lib.BuilderAt.put (T := 71) (e := 5) hB Hb2.out (bs' := cellsOf (l ++ s)) ?_ (by decide)
    have := Hown2.out
    rw [cellsOf_append, List.length_append, cellsOf_length, cellsOf_length]
    exact this
  · exact (hb1.grown Hg.out (by have := hb1.size; omega) (fun k hk => (Hown.out.lt k hk).1)).setCell (p := ⟨b, 1, none⟩) hB _
end Go.Proofs.YtpkgjokehgihjaaGreat
/- Walks of strings.Builder: a text is written into one that the call has made; what else stands. -/
set_option linter.unusedVariables false
namespace Go.Proofs.YtpkgjokehgihjaaGreat
open Go.RowKit

/-- But for the builder's own block and rows of bytes all stands. -/
def KeptB (b : Nat) (w w' : World) : Prop := ∀ k o, w.heap[k]? = some o → k ≠ b → (∀ cs fr, o ≠ .cells cs 5 fr) → w'.heap[k]? = some o

set_option maxRecDepth 100000 in
set_option maxHeartbeats 1000000 in
theorem copyCheckK_any (B b : Nat) (l : List UInt8) (w : World) (h : Bld w B b l) :
    Calls Tryz.prog 47 #[.pointer (some ⟨b, 0, none⟩)] w fun e w' => e = .returned (.tuple #[]) ∧
      Lib.BuilderAt 71 5 B b (.pointer (some ⟨b, 0, none⟩)) (cellsOf l) w' ∧ Below B w w' ∧ Kept (fun k => k = b) w w' := by
  obtain ⟨j, hj, hjs⟩ := Option.map_eq_some_iff.1 bld_size
  rcases h with h | h
  · have h0 := h.cell0
    have hf := h.frozen0
    have hs := h.shape
    have H := Lib.hid h
    clear h
    have R1 := Lib.run_to_unsafe (P := Tryz.prog) w ⟨b, 0, none⟩ Tryz.underlying69 Tryz.underlying124 hj (by rw [hjs]; decide) hs (Nat.zero_lt_succ 1)
    have R2 := Lib.run_from_unsafe (P := Tryz.prog) w ⟨b, 0, none⟩ Tryz.underlying124 Tryz.underlying69 hj hs (by kernel_rfl)
    have HR1 := Lib.hid R1; clear R1
    have HR2 := Lib.hid R2; clear R2
    have HJ := Lib.hid hj; clear hj
    clear hjs
    go_enter Tryz.func47, Tryz.ntmps47
    go_wp2
    rw [HR1.out]
    go_wp2
    rw [run_callFunc_extern Tryz.func72 (by kernel_rfl) (by kernel_rfl) (by kernel_rfl) (e := Extern.AbiNoEscape.same) (by kernel_rfl), Lib.run_noEscape]
    go_wp2
    rw [HR2.out]
    go_wp2
    go_end0
    exact ⟨rfl, H.out.used _, (Below.refl B w).setCell (p := ⟨b, 0, none⟩) H.out.1 _, (Kept.refl (fun k => k = b) w).setCell (p := ⟨b, 0, none⟩) rfl _⟩
  · have h0 := h.cell0
    have H := Lib.hid h
    clear h
    have R := Lib.hid (Lib.run_neq_ptr_same (P := Tryz.prog) w ⟨b, 0, none⟩ Tryz.underlying69 hj)
    clear hj hjs
    go_enter Tryz.func47, Tryz.ntmps47
    go_wp2
    rw [R.out]
    go_wp2
    go_end0
    exact ⟨rfl, H.out, Below.refl B _, Kept.refl _ _⟩

set_option maxRecDepth 100000 in
set_option maxHeartbeats 1000000 in
theorem writeStringK_any (B b : Nat) (l s : List UInt8) (w : World) (h : Bld w B b l) (hlen : l.length + s.length ≤ 140737488355328) (hBw : B ≤ w.heap.size) :
    Calls Tryz.prog 35 #[.pointer (some ⟨b, 0, none⟩), .string ⟨s.toArray⟩] w fun e w' => e = .returned (.tuple #[.int .i64 s.length, .nilIface]) ∧
      Bld w' B b (l ++ s) ∧ Below B w w' ∧ KeptB b w w' := by
  obtain ⟨i0, hi, hz0, hz1, hz2⟩ := info_parts info_byte
  have L := Lib.hid (show (⟨s.toArray⟩ : ByteArray).size = s.length from rfl)
  have C := Lib.hid (copyCheckK_any B b l w h)
  clear h
  go_enter Tryz.func35, Tryz.ntmps35
  go_wp2_with fail
  refine C.out.mono ?_
  rintro e w1 ⟨rfl, h1, hb1, hk1⟩
  obtain ⟨hB, v, hbk, hown, hne⟩ := h1
  have c0 : w1.cell? ⟨b, 0, none⟩ = some (.pointer (some ⟨b, 0, none⟩)) := by rw [Lib.cell_of_heap hbk]; rfl
  have c1 : w1.cell? ⟨b, 1, none⟩ = some v := by rw [Lib.cell_of_heap hbk]; rfl
  have Hown : Hid (w1.ownsRow B 5 1 v l.length (cellsOf l)) := Lib.hid (by rw [cellsOf_length] at hown; exact hown)
  clear hown
  have Hbk := Lib.hid hbk; clear hbk
  have Hne := Lib.hid hne; clear hne
  have Hi := Lib.hid hi; clear hi
  have Z0 := Lib.hid hz0; clear hz0
  have Z1 := Lib.hid hz1; clear hz1
  have Z2 := Lib.hid hz2; clear hz2
  go_wp2_with (at_builtin; refine Lib.wpList_append_own_string _ rfl _ _ 54 9 rfl B 5 i0 Tryz.underlying54 Tryz.underlying9 Hi.out Z0.out Z1.out Z2.out _ _ _ rfl Hown.out ⟨s.toArray⟩ rfl ?c3 ?c4 ?c5 ?_)
  case c3 => rw [L.out]; unfold maxLen; omega
  case c4 => rw [L.out]; omega
  case c5 => have := hb1.size; omega
  intro v' w2 hown' hgrow _
  have hlt : b < w1.heap.size := (Array.getElem?_eq_some_iff.1 Hbk.out).1
  have hb2 : w2.heap[b]? = some (.cells #[.pointer (some ⟨b, 0, none⟩), v] 71 (0, 0)) := by
    rw [hgrow.block b hlt (fun e => Hne.out e.symm)]
    exact Hbk.out
  have d0 : w2.cell? ⟨b, 0, none⟩ = some (.pointer (some ⟨b, 0, none⟩)) := by rw [Lib.cell_of_heap hb2]; rfl
  have d1 : w2.cell? ⟨b, 1, none⟩ = some v := by rw [Lib.cell_of_heap hb2]; rfl
  have f1 : w2.frozen? ⟨b, 1, none⟩ = false := Lib.frozen_of_heap hb2 1
  have Hown2 := Lib.hid hown'; clear hown'
  have Hg := Lib.hid hgrow; clear hgrow
  have Hb2 := Lib.hid hb2; clear hb2
  have D1 := Lib.hid d1; clear d1
  obtain ⟨ao, n', cap, rfl⟩ : ∃ ao n' cap, v' = .slice ao n' cap := by
    rcases Hown2.out.2 with ⟨hv, _⟩ | ⟨g, cap, cur, hv, _⟩
    · exact ⟨_, _, _, hv⟩
    · exact ⟨_, _, _, hv⟩
  have d1 := D1.out
  go_wp2
  go_ret2
  refine ⟨rfl, .inr ?_, ?_, ?_⟩
  · refine Lib.BuilderAt.put (T := 71) (e := 5) hB Hb2.out (bs' := cellsOf (l ++ s)) ?_ (by decide)
    have := Hown2.out
    rw [cellsOf_append, List.length_append, cellsOf_length, cellsOf_length]
    exact this
  · exact (hb1.grown Hg.out (by have := hb1.size; omega) (fun k hk => (Hown.out.lt k hk).1)).setCell (p := ⟨b, 1, none⟩) hB _
  · intro k o hk hne hty
    have h1 := hk1.old hk hne
    have hv : v.ownBlock ≠ some k := fun e => by
      rcases Hown.out.2 with ⟨hv, _⟩ | ⟨g, cap', cur, hv, _, hgg, _⟩
      · rw [hv] at e; simp [Value.ownBlock] at e
      · rw [hv] at e
        simp [Value.ownBlock] at e
        subst e
        rw [h1] at hgg
        injection hgg with hgg
        exact hty _ _ hgg
    have h2 := (Hg.out.block k (Array.getElem?_eq_some_iff.1 h1).1 (fun e => hv e.symm)).trans h1
    exact (((Kept.refl (fun k => k = b) w2).setCell (p := ⟨b, 1, none⟩) rfl _).old h2 hne)
end Go.Proofs.YtpkgjokehgihjaaGreat
/- The walk of Run: what steps make. -/
set_option linter.unusedVariables false
namespace Go.Proofs.YtpkgjokehgihjaaGreat
open Go.RowKit

theorem bld_new (w : World) : Bld (w.alloc (.cells #[.pointer none, .slice none 0 0] 71)) w.heap.size w.heap.size [] :=
  .inl ⟨Nat.le_refl _, .slice none 0 0, by show (w.heap.push _)[w.heap.size]? = _; simp, World.ownsRow_nil _ _ _ _, by simp [Value.ownBlock]⟩
theorem bldAt_kept {w w' : World} {B b : Nat} {p : Value} {l : List Value} (h : Lib.BuilderAt 71 5 B b p l w) (hb : Below w.heap.size w w') : Lib.BuilderAt 71 5 B b p l w' := by
  have hlt := h.lt
  obtain ⟨hB, v, hbk, hown, hne⟩ := h
  refine ⟨hB, v, (hb.block b hlt).trans hbk, ?_, hne⟩
  refine ⟨hown.1, ?_⟩
  rcases hown.2 with hn | ⟨g, cap, cur, rfl, hg, hgg, rest⟩
  · exact .inl hn
  · exact .inr ⟨g, cap, cur, rfl, hg, (hb.block g (Array.getElem?_eq_some_iff.1 hgg).1).trans hgg, rest⟩
theorem bld_kept {w w' : World} {B b : Nat} {l : List UInt8} (h : Bld w B b l) (hb : Below w.heap.size w w') : Bld w' B b l :=
  h.elim (fun h => .inl (bldAt_kept h hb)) (fun h => .inr (bldAt_kept h hb))
theorem run_cons (basis : Txt) (x : DSt) (l : List DSt) (out : Txt) : runG basis (x :: l) out = if stS x = true ∧ x.pos + x.len ≤ basis.length then (if (out.length : Int) + mkS x ≤ 524288 then runG basis l (out ++ pieceS basis x) else (4, [])) else (2, []) := rfl
theorem drop_cons (l : List DSt) (k : Nat) (hk : k < l.length) : l.drop k = l[k] :: l.drop (k + 1) := List.drop_eq_getElem_cons hk
def RunDPost (w : World) (r : Int × Txt) (e : Ending) (w' : World) : Prop := e = .returned (.tuple #[.string ⟨r.2.toArray⟩, .int .i64 r.1]) ∧ Below w.heap.size w w'

set_option maxRecDepth 100000 in
set_option maxHeartbeats 2000000 in
theorem runD_any (N : Nat → Prop) (basis : Txt) (v : Value) (l : List DSt) (w : World) (h : RowS N w v l) (hok : ∀ x ∈ l, StOk x) (hl : l.length ≤ 1000000) (hb : basis.length ≤ 1000000) :
    Calls Tryz.prog 18 #[.string ⟨basis.toArray⟩, v] w (RunDPost w (runG basis l [])) := by
  obtain ⟨a, c, rfl, hc⟩ := h
  have HC := Lib.hid hc; clear hc
  have HK := Lib.hid hok; clear hok
  have SL := Lib.hid (show (⟨basis.toArray⟩ : ByteArray).size = basis.length from rfl)
  have B0 := Lib.hid (below_self_alloc w (.cells #[.pointer none, .slice none 0 0] 71))
  have BN := Lib.hid (bld_new w)
  have SZ0 := Lib.hid (show (w.alloc (.cells #[.pointer none, .slice none 0 0] 71)).heap.size = w.heap.size + 1 by simp)
  obtain ⟨RES, hR⟩ : ∃ R, R = runG basis l [] := ⟨_, rfl⟩
  rw [← hR]
  have HR := Lib.hid hR; clear hR
  go_enter Tryz.func18, Tryz.ntmps18
  go_wp2
  generalize w.alloc (.cells #[.pointer none, .slice none 0 0] 71) = w0 at *
  go_loopw [11] (fun i wr => ∃ (k : Nat) (out : Txt), k ≤ l.length ∧ i = .int .i64 k ∧ Bld wr w.heap.size w.heap.size out ∧ out.length ≤ 524288 ∧ Hid (runG basis (l.drop k) out = RES) ∧ Below w.heap.size w wr ∧ w.heap.size < wr.heap.size) (fun i _ => l.length - (intOf i).toNat)
  case atStart => exact ⟨0, [], by omega, rfl, BN.out, by simp, Lib.hid (by rw [List.drop_zero]; exact HR.out.symm), B0.out, by have := SZ0.out; omega⟩
  case round =>
    obtain ⟨k, out, hk, rfl, hbld, hout, hres, hbel, hszr⟩ := hrel
    have HB := Lib.hid hbel; clear hbel
    have HBL := Lib.hid hbld; clear hbld
    by_cases hlt : k < l.length
    · obtain ⟨g, o, rfl, _, hst⟩ := HC.out k hlt
      have hst' := hst.new HB.out
      have HKX := HK.out l[k] (List.getElem_mem hlt)
      have HRES := Lib.hid (show (if stS l[k] = true ∧ l[k].pos + l[k].len ≤ basis.length then (if (out.length : Int) + mkS l[k] ≤ 524288 then runG basis (l.drop (k + 1)) (out ++ pieceS basis l[k]) else (4, [])) else (2, [])) = RES by rw [← run_cons, ← drop_cons l k hlt]; exact hres.out)
      have IS := fun w' => Lib.hid (isStep_any l[k] w' HKX)
      have MK := Lib.hid (fun w' (hs : stS l[k] = true) => makes_any l[k] w' hs)
      have hp1 := HKX.p1
      have hp2 := HKX.p2
      have hl1 := HKX.l1
      have hl2 := HKX.l2
      have htl := HKX.t
      have hbm := fun (hs : stS l[k] = true) => mk_bound (x := l[k]) hs
      have hpl := Lib.hid (fun (hs : stS l[k] = true) (h2 : l[k].pos + l[k].len ≤ (basis.length : Int)) => piece_len (basis := basis) (x := l[k]) hs h2)
      clear hst HKX hres
      generalize l[k] = x at *
      obtain ⟨p, m, t⟩ := x
      dsimp only at hp1 hp2 hl1 hl2 htl HRES hpl
      obtain ⟨e0, e1, e2⟩ := hst'
      dsimp only at e0 e1 e2
      have i1 : (k : Int) < (l.length : Int) := by omega
      have i0 : (0 : Int) ≤ (k : Int) := by omega
      have hbb := below_self_alloc wr (stO ⟨p, m, t⟩)
      have HB2 := Lib.hid (HB.out.trans (hbb.mono HB.out.size))
      have HBL2 := Lib.hid (bld_kept HBL.out hbb)
      obtain ⟨f0, f1, f2⟩ := stO_at wr ⟨p, m, t⟩
      have fo := heap_alloc_new wr (stO ⟨p, m, t⟩)
      dsimp only at f0 f1 f2
      rw [Nat.zero_add] at f1 f2
      clear hbb
      cases hs : stS ⟨p, m, t⟩ with
      | false =>
        rw [hs] at IS
        have HRR := Lib.hid (show RES = (2, []) by rw [← HRES.out, if_neg (fun c => by rw [hs] at c; exact absurd c.1 (by simp))])
        clear hbm HRES MK hpl
        go_wp2_with fail
        refine (IS _).out.mono ?_
        rintro e w2 ⟨rfl, hb2⟩
        have HB3 := Lib.hid (HB2.out.trans (hb2.mono HB2.out.size))
        clear hb2 fo
        go_wp2_with fail
        go_ret2
        exact ⟨by rw [HRR.out]; rfl, HB3.out⟩
      | true =>
        rw [hs] at IS
        have hb3 := hbm hs
        have MKX := Lib.hid (fun w' => MK.out w' hs)
        have HHS := Lib.hid hs
        have HST := Lib.hid (show stS ⟨p, m, t⟩ = true from hs)
        have hbd : 0 ≤ p ∧ 0 ≤ m ∧ m ≤ 524288 ∧ p ≤ 524288 := by
          unfold stS at hs; dsimp only at hs
          split at hs
          · have := of_decide_eq_true hs; omega
          · have := of_decide_eq_true hs; omega
        clear hs hbm MK
        go_wp2_with fail
        generalize hw1 : wr.alloc (.cells #[.int .i64 p, .int .i64 m, .string ⟨t.toArray⟩] 42) = w1 at *
        clear hw1
        refine (IS _).out.mono ?_
        rintro e w2 ⟨rfl, hb2⟩
        have E0 := (hb2.cell (World.block_lt_of_cell? w1 _ f0)).trans f0
        have E1 := (hb2.cell (World.block_lt_of_cell? w1 _ f1)).trans f1
        have E2 := (hb2.cell (World.block_lt_of_cell? w1 _ f2)).trans f2
        have FO2 := Lib.hid ((hb2.block _ (Array.getElem?_eq_some_iff.1 fo).1).trans fo)
        have HBL3 := Lib.hid (bld_kept HBL2.out hb2)
        have HB3 := Lib.hid (HB2.out.trans (hb2.mono HB2.out.size))
        clear hb2 f0 f1 f2 e0 e1 e2 fo IS HBL2 HBL
        by_cases hin : p + m ≤ basis.length
        · have j1 : ¬ (basis.length : Int) < p + m := by omega
          have HRES2 := Lib.hid (show (if (out.length : Int) + mkS ⟨p, m, t⟩ ≤ 524288 then runG basis (l.drop (k + 1)) (out ++ pieceS basis ⟨p, m, t⟩) else (4, [])) = RES by
            have e := HRES.out
            rw [if_pos (show stS ⟨p, m, t⟩ = true ∧ p + m ≤ (basis.length : Int) from ⟨HST.out, hin⟩)] at e
            exact e)
          have HPL := Lib.hid (hpl.out HST.out hin)
          have LN := Lib.hid (fun P : BelowOf w2 => (Tryz.Builder_Len w.heap.size w.heap.size (cellsOf out) P.w (bld_kept HBL3.out P.h)).mono (R' := fun e w' => e = .returned (.int .i64 out.length) ∧ P.w = w') (fun e w' ⟨h1, h2⟩ => ⟨by rw [h1, cellsOf_length], h2.symm⟩))
          obtain ⟨y, hy⟩ : ∃ y, y = mkS ⟨p, m, t⟩ := ⟨_, rfl⟩
          rw [← hy] at HRES2 MKX hb3 HPL
          clear hy HRES hpl HHS
          obtain ⟨z, hz⟩ : ∃ z, z = (out.length : Int) + y := ⟨_, rfl⟩
          rw [← hz] at HRES2
          have WZ : IntKind.i64.wrap ((out.length : Int) + y) = z := by rw [IntKind.wrap_i64]; omega
          have hzn : z = (out.length : Int) + y := hz
          have HZ := Lib.hid hzn
          clear hz hzn
          by_cases hlong : z ≤ 524288
          · have q1 : decide (524288 < z) = false := decide_eq_false (by omega)
            have q2 : ¬ 524288 < z := by omega
            rw [if_pos hlong] at HRES2
            go_wp2_with fail
            have C0 := below_cell E0
            have C1 := below_cell E1
            have C2 := below_cell E2
            refine wp_region_below (by kernel_rfl) (by kernel_rfl) ?_
            repeat (go_big_quiet_step ((first | (go_at_call 34; exact below_calls_same (LN.out _)) | (go_at_call 27; exact below_calls (MKX.out _)))))
            refine wpQuiet_nil ?_
            rintro w6 ⟨⟨w6b, hb6⟩, hw6⟩
            have hw6b : w6 = w6b := hw6
            clear hw6
            subst hw6b
            clear C0 C1 C2 LN MKX
            have G0 := (hb6.cell (World.block_lt_of_cell? w2 _ E0)).trans E0
            have G1 := (hb6.cell (World.block_lt_of_cell? w2 _ E1)).trans E1
            have G2 := (hb6.cell (World.block_lt_of_cell? w2 _ E2)).trans E2
            have FO6 := Lib.hid ((hb6.block _ (Array.getElem?_eq_some_iff.1 FO2.out).1).trans FO2.out)
            have HBL6 := Lib.hid (bld_kept HBL3.out hb6)
            have HB6 := Lib.hid (HB3.out.trans (hb6.mono HB3.out.size))
            clear E0 E1 E2 FO2 HBL3 HB3 hb6
            obtain ⟨pn, hpn⟩ : ∃ pn : Nat, p = (pn : Int) := ⟨p.toNat, by omega⟩
            obtain ⟨mn, hmn⟩ : ∃ mn : Nat, m = (mn : Int) := ⟨m.toNat, by omega⟩
            subst hpn; subst hmn
            obtain ⟨en, hen⟩ : ∃ en, en = pn + mn := ⟨_, rfl⟩
            have WPM : (pn : Int) + (mn : Int) = (en : Int) := by omega
            have k1 : (pn : Int) ≤ (en : Int) := by omega
            have k2 : (en : Int) ≤ (basis.length : Int) := by omega
            have HSL := Lib.hid (show (⟨basis.toArray⟩ : ByteArray).extract pn en = ⟨((basis.drop pn).take mn).toArray⟩ by rw [slice_toArray, List.drop_take, hen]; congr 3; omega)
            have HPC := Lib.hid (show pieceS basis ⟨pn, mn, t⟩ = t ++ (basis.drop pn).take mn from rfl)
            have hll := HPL.out
            rw [HPC.out] at HRES2 hll
            rw [List.length_append] at hll
            clear hen
            generalize (basis.drop pn).take mn = sl at *
            have hsz0 := HB6.out.size
            have hwz := (Array.getElem?_eq_some_iff.1 FO6.out).1
            have W1 := Lib.hid (writeStringK_any w.heap.size w.heap.size out t w6 HBL6.out (by have := HZ.out; omega) hsz0)
            have hne : wr.heap.size ≠ w.heap.size := by omega
            have HLG := Lib.hid hlong
            clear hlong q1 q2 HPC hin j1
            go_wp2_with fail
            refine W1.out.mono ?_
            rintro e w7 ⟨rfl, hbl7, hb7, hk7⟩
            have FO7 := Lib.hid (hk7 _ _ FO6.out hne (fun cs fr e => by injection e with _ e2 _; exact absurd e2 (by decide)))
            have I0 : w7.cell? ⟨wr.heap.size, 0, none⟩ = some (.int .i64 pn) := by rw [cell_of_row _ _ _ _ _ _ FO7.out]; rfl
            have I1 : w7.cell? ⟨wr.heap.size, 1, none⟩ = some (.int .i64 mn) := by rw [cell_of_row _ _ _ _ _ _ FO7.out]; rfl
            have HBL7 := Lib.hid hbl7
            have HB7 := Lib.hid (HB6.out.trans hb7)
            clear hbl7 hb7 hk7 W1 G0 G1 G2 FO6
            go_wp2_with fail
            rw [HSL.out]
            refine (writeStringK_any w.heap.size w.heap.size (out ++ t) sl w7 HBL7.out (by rw [List.length_append]; have := HZ.out; omega) HB7.out.size).mono ?_
            rintro e w8 ⟨rfl, hbl8, hb8, _⟩
            have HBL8 := Lib.hid hbl8
            have HB8 := Lib.hid (HB7.out.trans hb8)
            have HS8 := Lib.hid (show wr.heap.size < w8.heap.size by have := (Array.getElem?_eq_some_iff.1 FO7.out).1; have := hb8.size; omega)
            clear hbl8 hb8
            go_wp2_with fail
            go_roundw
            case rel => exact ⟨k + 1, out ++ (t ++ sl), by omega, by go_num, by rw [← List.append_assoc]; exact HBL8.out, by rw [List.length_append, List.length_append]; have := HZ.out; have := HLG.out; omega, HRES2, HB8.out, by have := HS8.out; omega⟩
            case measure => simp [intOf]; omega
          · have q1 : decide (524288 < z) = true := decide_eq_true (by omega)
            have q2 : 524288 < z := by omega
            rw [if_neg hlong] at HRES2
            go_wp2_with fail
            have C0 := below_cell E0
            have C1 := below_cell E1
            have C2 := below_cell E2
            refine wp_region_below (by kernel_rfl) (by kernel_rfl) ?_
            repeat (go_big_quiet_step ((first | (go_at_call 34; exact below_calls_same (LN.out _)) | (go_at_call 27; exact below_calls (MKX.out _)))))
            refine wpQuiet_nil ?_
            rintro w6 ⟨⟨w6b, hb6⟩, hw6⟩
            have hw6b : w6 = w6b := hw6
            clear hw6
            subst hw6b
            have HB6 := Lib.hid (HB3.out.trans (hb6.mono HB3.out.size))
            clear C0 C1 C2 LN MKX hb6
            go_wp2_with fail
            go_ret2
            exact ⟨by rw [← HRES2.out]; rfl, HB6.out⟩
        · have j1 : (basis.length : Int) < p + m := by omega
          have HRR := Lib.hid (show RES = (2, []) by rw [← HRES.out, if_neg (fun c => hin c.2)])
          clear HRES hpl
          go_wp2_with fail
          go_ret2
          exact ⟨by rw [HRR.out]; rfl, HB3.out⟩
    · obtain rfl : k = l.length := by omega
      have i1 : ¬ (l.length : Int) < (l.length : Int) := by omega
      have HRR := Lib.hid (show RES = (0, out) by rw [← hres.out, List.drop_length]; rfl)
      have ST := Lib.hid (Tryz.Builder_String_any w.heap.size w.heap.size out wr HBL.out HB.out.size)
      go_wp2_with fail
      refine ST.out.mono ?_
      rintro e w2 ⟨rfl, hb2⟩
      have HB2 := Lib.hid (HB.out.trans hb2)
      clear hb2
      go_wp2_with fail
      go_ret2
      exact ⟨by rw [HRR.out]; rfl, HB2.out⟩
end Go.Proofs.YtpkgjokehgihjaaGreat
/- The walk of Apply, by any book that is asked. -/
set_option linter.unusedVariables false
namespace Go.Proofs.YtpkgjokehgihjaaGreat
open Go.RowKit

/-- What a delta makes of a text, or why nothing. -/
def applyS (is : Txt → Txt → Bool) (basis bm mm : Txt) (n : Int) (l : List DSt) : Int × Txt :=
  if rightD bm mm n l = false then (1, []) else if is basis bm = false then (13, []) else if (runG basis l []).1 ≠ 0 then ((runG basis l []).1, []) else if is (runG basis l []).2 mm = true then (0, (runG basis l []).2) else (6, [])
theorem run_len {basis : Txt} : ∀ (l : List DSt) (out : Txt), out.length ≤ 524288 → (runG basis l out).2.length ≤ 524288 := by
  intro l
  induction l with
  | nil => intro out h; exact h
  | cons x l ih =>
    intro out h
    unfold runG
    split
    · rename_i hx
      split
      · rename_i h2
        refine ih _ ?_
        have := piece_len hx.1 hx.2
        rw [List.length_append]; omega
      · simp
    · simp
theorem run_err {basis : Txt} : ∀ (l : List DSt) (out : Txt), (runG basis l out).1 = 0 ∨ (runG basis l out).1 = 2 ∨ (runG basis l out).1 = 4 := by
  intro l
  induction l with
  | nil => intro out; exact .inl rfl
  | cons x l ih =>
    intro out
    unfold runG
    split
    · split
      · exact ih _
      · exact .inr (.inr rfl)
    · exact .inr (.inl rfl)

set_option maxRecDepth 100000 in
set_option maxHeartbeats 2000000 in
theorem applyD_any {nn pb : Nat} {At : World → Prop} {is : Txt → Txt → Bool} (A : AskI nn pb At is) (hn1 : 1000000 ≤ nn) (hn2 : nn ≤ 140737488351232) (N : Nat → Prop) (basis bm mm : Txt) (n : Int) (v : Value) (l : List DSt) (w : World) (h : RowS N w v l) (hok : ∀ x ∈ l, StOk x) (hl : l.length ≤ 1000000) (h1 : bm.length ≤ 140737488351232) (h2 : mm.length ≤ 140737488351232) (hb1 : -9223372036854775808 ≤ n) (hb2 : n ≤ 9223372036854775807)
    (hAt : At w) (hbl : basis.length ≤ nn) (hbb : is basis bm = true → basis.length ≤ 1000000) :
    Calls Tryz.prog 10 #[.pointer (some ⟨pb, 0, none⟩), .string ⟨basis.toArray⟩, delW bm mm n v] w fun e w' => e = .returned (.tuple #[.string ⟨(applyS is basis bm mm n l).2.toArray⟩, .int .i64 (applyS is basis bm mm n l).1]) ∧ Below w.heap.size w w' := by
  have hd0 := below_self_alloc w (delO bm mm n v)
  obtain ⟨a, c, hv⟩ := h.slice
  obtain ⟨d0, d1, d2, d3⟩ := delO_cells (heap_alloc_new w (delO bm mm n v))
  have R0 := Lib.hid (h.keep hd0)
  have HA0 := Lib.hid (A.new hAt hd0)
  have HA := Lib.hid A
  have B0 := Lib.hid hd0
  have RT := Lib.hid (rightD_any N bm mm n v l _ R0.out hok hl h1 h2 hb1 hb2)
  have RN := Lib.hid (fun w' (hr : RowS N w' v l) hb => runD_any N basis v l w' hr hok hl hb)
  have HS := Lib.hid (show applyS is basis bm mm n l = if rightD bm mm n l = false then (1, []) else if is basis bm = false then (13, []) else if (runG basis l []).1 ≠ 0 then ((runG basis l []).1, []) else if is (runG basis l []).2 mm = true then (0, (runG basis l []).2) else (6, []) from rfl)
  have hrl := run_len (basis := basis) l [] (by simp)
  have hre := run_err (basis := basis) l []
  generalize applyS is basis bm mm n l = res at *
  have HBB := Lib.hid hbb
  clear h A hAt hok hd0 hbb
  subst hv
  cases hr : rightD bm mm n l with
  | false =>
    rw [hr] at RT
    have HR := Lib.hid (show res = (1, []) by rw [HS.out, hr]; rfl)
    clear HS hr
    go_enter Tryz.func10, Tryz.ntmps10
    go_wp2_with fail
    refine RT.out.mono ?_
    rintro e w2 ⟨rfl, hb2'⟩
    have B2 := Lib.hid (B0.out.trans (hb2'.mono B0.out.size))
    clear hb2'
    go_wp2_with fail
    go_ret2
    exact ⟨by rw [HR.out]; rfl, B2.out⟩
  | true =>
    rw [hr] at RT
    have HS2 := Lib.hid (show res = if is basis bm = false then (13, []) else if (runG basis l []).1 ≠ 0 then ((runG basis l []).1, []) else if is (runG basis l []).2 mm = true then (0, (runG basis l []).2) else (6, []) by rw [HS.out, hr]; rfl)
    clear HS hr
    generalize hw0 : w.alloc (.cells #[.string ⟨bm.toArray⟩, .string ⟨mm.toArray⟩, .int .i64 n, .slice a l.length c] 34) = w0 at *
    have RT' := RT
    cases hi : is basis bm with
    | false =>
      have HR := Lib.hid (show res = (13, []) by rw [HS2.out, hi]; rfl)
      clear HS2
      go_enter Tryz.func10, Tryz.ntmps10
      go_wp2_with fail
      refine RT.out.mono ?_
      rintro e w2 ⟨rfl, hb2'⟩
      have B2 := Lib.hid (B0.out.trans (hb2'.mono B0.out.size))
      have E0 := (hb2'.cell (World.block_lt_of_cell? w0 _ d0)).trans d0
      have IS := Lib.hid (HA.out.is w2 basis bm (HA.out.new HA0.out hb2') hbl)
      rw [hi] at IS
      clear hb2' d0 d1 d2 d3
      go_wp2_with fail
      refine IS.out.mono ?_
      rintro e w3 ⟨rfl, hb3⟩
      have B3 := Lib.hid (B2.out.trans (hb3.mono B2.out.size))
      clear hb3
      go_wp2_with fail
      go_ret2
      exact ⟨by rw [HR.out]; rfl, B3.out⟩
    | true =>
      have HS3 := Lib.hid (show res = if (runG basis l []).1 ≠ 0 then ((runG basis l []).1, []) else if is (runG basis l []).2 mm = true then (0, (runG basis l []).2) else (6, []) by rw [HS2.out, hi]; rfl)
      have hbs := HBB.out hi
      clear HS2
      obtain ⟨rr, hrr⟩ : ∃ rr : Int × Txt, rr = runG basis l [] := ⟨_, rfl⟩
      rw [← hrr] at HS3 hrl hre RN
      clear hrr
      obtain ⟨re, rt⟩ := rr
      dsimp only at HS3 hrl hre
      go_enter Tryz.func10, Tryz.ntmps10
      go_wp2_with fail
      refine RT.out.mono ?_
      rintro e w2 ⟨rfl, hb2'⟩
      have B2 := Lib.hid (B0.out.trans (hb2'.mono B0.out.size))
      have E0 := (hb2'.cell (World.block_lt_of_cell? w0 _ d0)).trans d0
      have E1 := (hb2'.cell (World.block_lt_of_cell? w0 _ d1)).trans d1
      have E3 := (hb2'.cell (World.block_lt_of_cell? w0 _ d3)).trans d3
      have HA2 := Lib.hid (HA.out.new HA0.out hb2')
      have R2 := Lib.hid (R0.out.keep hb2')
      have IS := Lib.hid (HA.out.is w2 basis bm HA2.out hbl)
      rw [hi] at IS
      clear hb2' d0 d1 d2 d3 R0 HA0 B0
      go_wp2_with fail
      refine IS.out.mono ?_
      rintro e w3 ⟨rfl, hb3⟩
      have B3 := Lib.hid (B2.out.trans (hb3.mono B2.out.size))
      have F1 := (hb3.cell (World.block_lt_of_cell? w2 _ E1)).trans E1
      have F3 := (hb3.cell (World.block_lt_of_cell? w2 _ E3)).trans E3
      have HA3 := Lib.hid (HA.out.new HA2.out hb3)
      have RR := Lib.hid (RN.out w3 (R2.out.keep hb3) hbs)
      clear hb3 E0 E1 E3 IS R2 RN HA2
      go_wp2_with fail
      refine RR.out.mono ?_
      rintro e w4 ⟨rfl, hb4⟩
      have B4 := Lib.hid (B3.out.trans (hb4.mono B3.out.size))
      have G1 := (hb4.cell (World.block_lt_of_cell? w3 _ F1)).trans F1
      have HA4 := Lib.hid (HA.out.new HA3.out hb4)
      clear hb4 F1 F3 RR HA3
      by_cases hz : re = 0
      · have q0 : (re != 0) = false := by simp [hz]
        have IS := Lib.hid (HA.out.is w4 rt mm HA4.out (by omega))
        have HS4 := Lib.hid (show res = if is rt mm = true then (0, rt) else (6, []) by rw [HS3.out, if_neg (fun c => c hz)])
        clear HS3 hz hre
        cases hm : is rt mm with
        | true =>
          rw [hm] at IS
          have HR := Lib.hid (show res = (0, rt) by rw [HS4.out, hm]; rfl)
          clear HS4
          go_wp2_with fail
          refine IS.out.mono ?_
          rintro e w5 ⟨rfl, hb5⟩
          have B5 := Lib.hid (B4.out.trans (hb5.mono B4.out.size))
          clear hb5
          go_wp2_with fail
          go_ret2
          exact ⟨by rw [HR.out]; rfl, B5.out⟩
        | false =>
          rw [hm] at IS
          have HR := Lib.hid (show res = (6, []) by rw [HS4.out, hm]; rfl)
          clear HS4
          go_wp2_with fail
          refine IS.out.mono ?_
          rintro e w5 ⟨rfl, hb5⟩
          have B5 := Lib.hid (B4.out.trans (hb5.mono B4.out.size))
          clear hb5
          go_wp2_with fail
          go_ret2
          exact ⟨by rw [HR.out]; rfl, B5.out⟩
      · have q0 : (re != 0) = true := by simp [hz]
        have HR := Lib.hid (show res = (re, []) by rw [HS3.out, if_pos hz])
        clear HS3 hz
        go_wp2_with fail
        go_ret2
        exact ⟨by rw [HR.out]; rfl, B4.out⟩
end Go.Proofs.YtpkgjokehgihjaaGreat

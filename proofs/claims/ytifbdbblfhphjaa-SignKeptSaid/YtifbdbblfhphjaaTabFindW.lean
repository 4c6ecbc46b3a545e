/- Walks of a table's Find and of the document's Find; Size, Block. -/
import Derived.Test.YtifbdbblfhphjaaBookW
import Derived.Test.YtifbdbblfhphjaaCmpW
import Derived.Test.YtifbdbblfhphjaaFrame
import Derived.Test.YtifbdbblfhphjaaGen
import Derived.Test.YtifbdbblfhphjaaInfos
import Derived.Test.YtifbdbblfhphjaaLists
import Derived.Test.YtifbdbblfhphjaaMarkMath
import Derived.Test.YtifbdbblfhphjaaNewTabW
import Derived.Test.YtifbdbblfhphjaaOwnL
import Derived.Test.YtifbdbblfhphjaaProg
import Derived.Test.YtifbdbblfhphjaaReadW
import Derived.Test.YtifbdbblfhphjaaRollMath
import Derived.Test.YtifbdbblfhphjaaRows
import Derived.Test.YtifbdbblfhphjaaTabX
import Derived.Test.YtifbdbblfhphjaaSameW
import Derived.Test.YtifbdbblfhphjaaShelf
import Derived.Test.YtifbdbblfhphjaaSigAt
import Derived.Test.YtifbdbblfhphjaaSigOwnW
import Derived.Test.YtifbdbblfhphjaaSignAW
import Derived.Test.YtifbdbblfhphjaaSignMath
import Derived.Test.YtifbdbblfhphjaaSignReadsW
import Derived.Test.YtifbdbblfhphjaaSortX
import Derived.Test.YtifbdbblfhphjaaSortEW
import Derived.Test.YtifbdbblfhphjaaSortShelf
import Derived.BigQuiet
import Derived.BigRegion
import Derived.ChangeAlike
import Derived.Deep.CutBlock
import Derived.Deep.DeepCutAuto
import Derived.Deep.QuietTactic
import Derived.Deep.RegionHeld3
import Derived.Deep.RegionLaw
import Derived.IntWalk
import Derived.Laws.BitsAllLaws
import Derived.Laws.MakeOwn
import Derived.Laws.Rows
import Derived.Laws.Tables
import Derived.Lib.Hide
import Derived.Outline
import Derived.RegionTactic
import Derived.Sort.OwnSortedInts
import Derived.StillTailTactics
import Derived.WalkKit
import Derived.WalkLawsBesides
import Derived.WalkSpells
set_option linter.unusedVariables false
namespace Go.Proofs.Ytifbdbblfhphjaa
open Go.RowKit

/-- The blocks of a weak sum, rising. -/
def findZ (ws : List Int) (N : Nat) (weak : Int) : List Nat := (List.range N).filter (fun i => decide (wOf ws i = weak))
abbrev castZ (l : List Nat) : List Int := l.map (fun n : Nat => (n : Int))
abbrev srtZ (l : List Int) : List Int := l.mergeSort fun x y => decide (x ≤ y)
theorem findZ_len (ws : List Int) (N : Nat) (weak : Int) : (findZ ws N weak).length ≤ N := by
  have := List.length_filter_le (fun i => decide (wOf ws i = weak)) (List.range N)
  rw [List.length_range] at this
  exact this
theorem runS_sorted {ws : List Int} {ms : List Txt} {N : Nat} {ord : List Nat} (h : OrdIs ws ms N ord) (weak : Int) : srtZ (castZ (runS ws ord weak)) = castZ (findZ ws N weak) := by
  have hp : (castZ (runS ws ord weak)).Perm (castZ (findZ ws N weak)) := List.Perm.map _ (List.Perm.filter _ h.perm)
  refine List.Perm.eq_of_pairwise (le := fun x y : Int => x ≤ y) (fun a b _ _ h1 h2 => Int.le_antisymm h1 h2) ?_ ?_ ((List.mergeSort_perm _ _).trans hp)
  · have := List.pairwise_mergeSort (le := fun x y : Int => decide (x ≤ y)) (fun a b c h1 h2 => by simp at h1 h2 ⊢; omega) (fun a b => by simp; omega) (castZ (runS ws ord weak))
    exact this.imp (fun h => by simpa using h)
  · unfold castZ findZ
    rw [List.pairwise_map]
    refine List.Pairwise.imp (R := fun a b => a < b) (fun h => by omega) ?_
    exact List.Pairwise.filter _ List.pairwise_lt_range

theorem sortInts_any (xs : List Int) (v : Value) (base : Nat) (w : World) (h : OwnL (Value.int .i64) w base 3 v xs) (hl : xs.length ≤ 1000000) :
    Calls Try.prog 75 #[v] w fun e w' => e = .returned (.tuple #[]) ∧ OwnL (Value.int .i64) w' base 3 v (srtZ xs) ∧ Kept (fun k => v.ownBlock = some k) w w' := by
  rcases h.2 with ⟨rfl, hn⟩ | ⟨g, cap, cur, rfl, hb, hg, hle, hcm, hcs, htake⟩
  · have : xs = [] := List.eq_nil_of_length_eq_zero hn
    subst this
    refine (Try.slices_Sort_int_none none 0 w).mono ?_
    rintro e w' ⟨rfl, rfl⟩
    exact ⟨rfl, by rw [show srtZ [] = [] by simp [srtZ]]; exact OwnL.nil _ _ _ _, Kept.refl _ _⟩
  · rw [Nat.mul_one] at htake
    refine (Try.slices_Sort_int g 0 cap xs w (holds_of_blockI hg htake) (Array.getElem?_eq_some_iff.1 hg).1 (by omega)).mono ?_
    rintro e w' ⟨rfl, n, os, rfl⟩
    refine ⟨rfl, ?_, ?_⟩
    · have hls : (srtZ xs).length = xs.length := List.length_mergeSort _
      have := ownsRow_sortedI (n := n) (os := os) (ts := srtZ xs) hls hb hg hle hcm hcs
      unfold OwnL
      rw [hls]
      exact this
    · have := grownBy_sortedI (w := w) (g := g) (n := n) (os := os) (srtZ xs).toArray
      exact ⟨this.os, this.tape, this.output, this.size, fun k hk hm => this.block k hk (fun e => hm (by simp [Value.ownBlock]; exact (by injection e with e; exact e.symm)))⟩

def TabFindPost (l : List Nat) (w : World) (e : Ending) (w' : World) : Prop := ∃ v, e = .returned v ∧ OwnL (Value.int .i64) w' w.heap.size 3 v (castZ l) ∧ Below w.heap.size w w'
theorem RowC.toRow {w : World} {base : Nat} {v : Value} {xs : List Nat} (h : RowC encN base w v xs) : Row (Value.int .i64) (fun _ => True) w v (castZ xs) := by
  rcases h with ⟨rfl, rfl⟩ | ⟨g, o, c, rfl, _, _, hc⟩
  · exact Row.nil _ _ _
  · refine ⟨some ⟨g, o, none⟩, c, by simp [castZ], fun i hi => ⟨g, o, rfl, trivial, ?_⟩⟩
    simp only [castZ, List.length_map] at hi
    simp only [castZ, List.getElem_map]
    exact hc i hi
theorem runS_len {ws : List Int} {ms : List Txt} {N : Nat} {ord : List Nat} (h : OrdIs ws ms N ord) (weak : Int) : (runS ws ord weak).length ≤ N := by
  have := List.length_filter_le (fun i => decide (wOf ws i = weak)) ord
  rw [h.len] at this
  exact this

set_option maxRecDepth 100000 in
set_option maxHeartbeats 1000000 in
theorem tabFind_any (p B M : Nat) (ws : List Int) (ms : List Txt) (vw vs vo : Value) (ord : List Nat) (base N : Nat) (weak : Int) (w : World) (h : TabAt w base p B M ws ms vw vs vo ord) (hO : OrdIs ws ms N ord) (hN : N ≤ ws.length) (hl : ws.length ≤ 1000000) :
    Calls Try.prog 36 #[.pointer (some ⟨p, 0, none⟩), .int .i64 weak] w (TabFindPost (findZ ws N weak) w) := by
  have RN := Lib.hid (run_any p B M ws ms vw vs vo ord base N weak w h hO hN hl)
  have HS := Lib.hid (runS_sorted hO weak)
  have HL := Lib.hid (Nat.le_trans (runS_len hO weak) (Nat.le_trans hN hl))
  generalize runS ws ord weak = rs at *
  clear h hO
  go_enter Try.func36, Try.ntmps36
  go_wp2_with fail
  refine RN.out.mono ?_
  rintro e w1 ⟨v, rfl, hr, hb1⟩
  have R1 := Lib.hid hr.toRow; clear hr
  have B1 := Lib.hid hb1; clear hb1
  go_wp2_with fail
  refine (cloneInts_any (castZ rs) v (fun _ => True) w1 R1.out (by simp [castZ]; exact HL.out)).mono ?_
  rintro e w2 ⟨v2, rfl, ho, hb2⟩
  have O2 := Lib.hid ho; clear ho
  have B2 := Lib.hid (B1.out.trans (hb2.mono B1.out.size)); clear hb2
  go_wp2_with fail
  refine (sortInts_any (castZ rs) v2 w1.heap.size w2 O2.out (by simp [castZ]; exact HL.out)).mono ?_
  rintro e w3 ⟨rfl, ho3, hk3⟩
  rw [HS.out] at ho3
  have B3 := Lib.hid (B2.out.trans (hk3.below B2.out.size (fun k e => by have := (own_cells O2.out e).1; have := B1.out.size; omega)))
  have O3 := Lib.hid (ho3.mono B1.out.size)
  clear ho3 hk3
  go_wp2_with fail
  go_ret
  exact ⟨v2, rfl, O3.out, B3.out⟩
theorem tabSize_any (p B M : Nat) (vw vs vo : Value) (w : World) (h : w.heap[p]? = some (tabC B M vw vs vo)) : Calls Try.prog 34 #[.pointer (some ⟨p, 0, none⟩)] w fun e w' => e = .returned (.int .i64 M) ∧ w = w' := by
  obtain ⟨d0, d1, d2, d3, d4⟩ := tab_c h
  clear h
  go_enter Try.func34, Try.ntmps34
  go_wp2
  go_ret
  exact ⟨rfl, rfl⟩
theorem tabBlock_any (p B M : Nat) (vw vs vo : Value) (w : World) (h : w.heap[p]? = some (tabC B M vw vs vo)) : Calls Try.prog 35 #[.pointer (some ⟨p, 0, none⟩)] w fun e w' => e = .returned (.int .i64 B) ∧ w = w' := by
  obtain ⟨d0, d1, d2, d3, d4⟩ := tab_c h
  clear h
  go_enter Try.func35, Try.ntmps35
  go_wp2
  go_ret
  exact ⟨rfl, rfl⟩
/-- The document's Find. -/
theorem findZ_yes {ws : List Int} {weak : Int} {k : Nat} (h : wOf ws k = weak) : findZ ws (k + 1) weak = findZ ws k weak ++ [k] := by
  unfold findZ; rw [List.range_succ, List.filter_append, List.filter_cons, if_pos (by simpa using h), List.filter_nil]
theorem findZ_no {ws : List Int} {weak : Int} {k : Nat} (h : wOf ws k ≠ weak) : findZ ws (k + 1) weak = findZ ws k weak := by
  unfold findZ; rw [List.range_succ, List.filter_append, List.filter_cons, if_neg (by simpa using h), List.filter_nil, List.append_nil]

set_option maxRecDepth 100000 in
set_option maxHeartbeats 1000000 in
theorem refTabFind_any (B M : Nat) (ws : List Int) (vw vs : Value) (N1 : Nat → Prop) (weak : Int) (w : World) (h1 : Row (Value.int .i64) N1 w vw ws) (hs : ∃ a m c, vs = .slice a m c) (hN : M / B ≤ ws.length) (hl : ws.length ≤ 1000000) (hB : 16 ≤ B) (hB2 : B ≤ 1024) (hM : M ≤ 524288) :
    Calls Try.prog 37 #[sigV B M vw vs, .int .i64 weak] w fun e w' => ∃ v, e = .returned v ∧ OwnL encN w' w.heap.size 3 v (findZ ws (M / B) weak) ∧ Below w.heap.size w w' := by
  obtain ⟨a2, m2, k2, rfl⟩ := hs
  obtain ⟨a1, m1, k1, rfl⟩ := h1.slice
  have R0 := Lib.hid (h1.keep (below_self_alloc w (sigC B M (.slice a1 m1 k1) (.slice a2 m2 k2))))
  have B0 := Lib.hid (below_self_alloc w (sigC B M (.slice a1 m1 k1) (.slice a2 m2 k2)))
  have G0 := Lib.hid (heap_alloc_new w (sigC B M (.slice a1 m1 k1) (.slice a2 m2 k2)))
  obtain ⟨N, hNN⟩ : ∃ N, N = M / B := ⟨_, rfl⟩
  have E : (M : Int) / (B : Int) = (N : Int) := by rw [hNN]; rfl
  have hb0 : ((B : Int) == 0) = false := by simp; omega
  rw [← hNN] at hN ⊢
  clear hNN h1
  go_enter Try.func37, Try.ntmps37
  go_wp2
  have S0 := Lib.hid (show w.heap.size ≤ (w.alloc (sigC B M (.slice a1 m1 k1) (.slice a2 m2 k2))).heap.size by simp)
  generalize w.alloc (.cells #[.int .i64 B, .int .i64 M, .slice a1 m1 k1, .slice a2 m2 k2] 31) = w0 at *
  go_loopw [5, 6] (fun v i wr => ∃ k : Nat, k ≤ N ∧ i = .int .i64 k ∧ OwnL encN wr w0.heap.size 3 v (findZ ws k weak) ∧ Below w0.heap.size w0 wr) (fun _ i _ => N - (intOf i).toNat)
  case atStart => exact ⟨0, by omega, rfl, OwnL.nil _ _ _ _, Below.refl _ _⟩
  case round =>
    obtain ⟨k, hk, rfl, hown, hbel⟩ := hrel
    have Hown := Lib.hid hown; clear hown
    have Hbel := Lib.hid hbel; clear hbel
    have g1 := old_of Hbel.out G0.out
    have c0 := sig_c0 g1
    have c1 := sig_c1 g1
    have c2 := sig_c2 g1
    clear g1
    by_cases hlt : k < N
    · have i1 : (k : Int) < (N : Int) := by omega
      obtain ⟨g, o, c, he, x1⟩ := (R0.out.keep Hbel.out).at (show k < ws.length by omega)
      injection he with e1 e2 e3
      subst e1; subst e2; subst e3
      have i2 : (0 : Int) ≤ (k : Int) := by omega
      have i3 : (k : Int) < (ws.length : Int) := by omega
      have LEN := findZ_len ws k weak
      have hwb := Hbel.out.size
      have hS0 := S0.out
      have HWO := Lib.hid (wOf_get (show k < ws.length by omega))
      obtain ⟨wo, rfl⟩ : ∃ wo : World, wo = wr := ⟨_, rfl⟩
      by_cases heq : wOf ws k = weak
      · have Y2 := Lib.hid (findZ_yes heq)
        rw [HWO.out] at heq
        rw [heq] at x1
        have q1 : (weak == weak) = true := by simp
        clear heq HWO
        go_wp2_with (at_builtin; refine append_elem (enc := encN) (y := k) rfl _ _ 28 3 (.int .i64 0) 8 (by rfl) Try.underlying28 info_i64 rfl w0.heap.size _ _ rfl (by rfl) Hown.out (by rfl) (by omega) (by unfold maxLen; omega) (by omega) ?_; intro v' w3 hown3 hb3 hk3)
        have Hown3 := Lib.hid hown3; clear hown3
        have HB3 := Lib.hid (Hbel.out.trans hb3)
        go_wp2
        go_roundw
        case rel => exact ⟨k + 1, by omega, by go_num, by rw [Y2.out]; exact Hown3.out, HB3.out⟩
        case measure => simp [intOf]; omega
      · have Y2 := Lib.hid (findZ_no heq)
        rw [HWO.out] at heq
        have q1 : (ws[k] == weak) = false := by simpa using heq
        clear heq HWO
        generalize ws[k] = u at *
        go_wp2
        go_roundw
        case rel => exact ⟨k + 1, by omega, by go_num, by rw [Y2.out]; exact Hown.out, Hbel.out⟩
        case measure => simp [intOf]; omega
    · obtain rfl : k = N := by omega
      have i1 : ¬ (k : Int) < (k : Int) := by omega
      go_wp2
      go_ret
      exact ⟨_, rfl, Hown.out.mono S0.out, B0.out.trans (Hbel.out.mono B0.out.size)⟩
end Go.Proofs.Ytifbdbblfhphjaa

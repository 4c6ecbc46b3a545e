/- The walk of own: a signature in memory of its own. -/
import Derived.Test.YtpkgjokehgihjaaGreatBookW
import Derived.Test.YtpkgjokehgihjaaGreatFrame
import Derived.Test.YtpkgjokehgihjaaGreatGen
import Derived.Test.YtpkgjokehgihjaaGreatInfos
import Derived.Test.YtpkgjokehgihjaaGreatMarkMath
import Derived.Test.YtpkgjokehgihjaaGreatOwnL
import Derived.Test.YtpkgjokehgihjaaGreatRows
import Derived.Test.YtpkgjokehgihjaaGreatSameW
import Derived.Test.YtpkgjokehgihjaaGreatShelf
import Derived.Test.YtpkgjokehgihjaaGreatSigAt
import Derived.Test.YtpkgjokehgihjaaGreatSignAW
import Derived.Test.YtpkgjokehgihjaaGreatSignMath
import Derived.Test.YtpkgjokehgihjaaGreatSignW
import Derived.BigQuiet
import Derived.Deep.QuietTactic
import Derived.Deep.RegionHeld3
import Derived.IntWalk
import Derived.Laws.BitsAllLaws
import Derived.Laws.Rows
import Derived.Laws.Tables
import Derived.Lib.Hide
import Derived.Outline
import Derived.StillTailTactics
import Derived.WalkKit
import Derived.WalkLawsBesides
import Derived.WalkSpells
set_option linter.unusedVariables false
namespace Go.Proofs.YtpkgjokehgihjaaGreat
open Go.RowKit

theorem setCell_self {w : World} {a : Addr} {v : Value} (h : w.cell? a = some v) : w.setCell a v = w := by
  have hh : (w.setCell a v).heap = w.heap := by
    unfold World.setCell
    unfold World.cell? at h
    apply Array.ext_getElem?
    intro i
    rw [Array.getElem?_modify]
    split
    · rename_i e
      subst e
      split at h
      · rename_i c t fr hc
        rw [hc]
        by_cases hs : a.spot.isSome
        · rw [if_pos hs] at h; cases h
        · rw [if_neg hs] at h
          simp only [Option.map_some, if_neg hs]
          congr 2
          apply Array.ext_getElem?
          intro j
          rw [Array.getElem?_setIfInBounds]
          split
          · rename_i e2
            subst e2
            rw [h]
            split
            · rfl
            · rename_i hne; exact absurd (Array.getElem?_eq_some_iff.1 h).1 hne
          · rfl
      · cases h
    · rfl
  cases w
  simp only [World.setCell] at hh ⊢
  rw [hh]
theorem own_at {α : Type} {enc : α → Value} {w : World} {base : Nat} {e : TypeId} {v : Value} {xs : List α} (h : OwnL enc w base e v xs) (k : Nat) (hk : k < xs.length) :
    ∃ g c, v = .slice (some ⟨g, 0, none⟩) xs.length c ∧ base ≤ g ∧ w.cell? ⟨g, k, none⟩ = some (enc xs[k]) ∧ w.frozen? ⟨g, k, none⟩ = false := by
  rcases h.2 with ⟨rfl, hn⟩ | ⟨g, cap, cur, rfl, hb, hg, _⟩
  · omega
  · have h1 := World.ownsRow.cells h (g := g) rfl k (enc xs[k]) (by simp [hk])
    rw [addr_add0] at h1
    exact ⟨g, cap, rfl, hb, h1, frozen_of_row w g k _ _ hg⟩

theorem cloneInts_any (xs : List Int) (v : Value) (N : Nat → Prop) (w : World) (h : Row (Value.int .i64) N w v xs) (hl : xs.length ≤ 1000000) :
    Calls Tryz.prog 80 #[v] w fun e w' => ∃ v', e = .returned v' ∧ OwnL (Value.int .i64) w' w.heap.size 3 v' xs ∧ Below w.heap.size w w' := by
  obtain ⟨a, c, rfl, hc⟩ := h
  by_cases hx : 0 < xs.length
  · obtain ⟨b, o, rfl, _, _⟩ := hc 0 hx
    refine (Tryz.slices_Clone_int b o xs.length c xs w (Nat.le_refl _) (by omega) (fun j hj => ?_)).mono ?_
    · obtain ⟨b', o', e, _, hcell⟩ := hc j hj
      injection e with e
      injection e with e1 e2
      subst e1
      subst e2
      rw [hcell, List.getD_eq_getElem?_getD, List.getElem?_eq_getElem hj]
      rfl
    · rintro e w' ⟨v', rfl, ho, _, hb⟩
      rw [List.take_length] at ho
      exact ⟨v', rfl, ho, hb⟩
  · have h0 : xs = [] := List.eq_nil_of_length_eq_zero (by omega)
    subst h0
    cases a with
    | none =>
      refine (Tryz.slices_Clone_int_nil _ c w).mono ?_
      rintro e w' ⟨rfl, rfl⟩
      exact ⟨_, rfl, OwnL.nil _ _ _ _, Below.refl _ _⟩
    | some a =>
      refine (Tryz.slices_Clone_int_zero a c w).mono ?_
      rintro e w' ⟨v', rfl, ho, _, hb⟩
      exact ⟨v', rfl, ho, hb⟩
theorem cloneTexts_any (xs : List Txt) (v : Value) (N : Nat → Prop) (w : World) (h : Row encT N w v xs) (hl : xs.length ≤ 1000000) :
    Calls Tryz.prog 81 #[v] w fun e w' => ∃ v', e = .returned v' ∧ OwnL encT w' w.heap.size 9 v' xs ∧ Below w.heap.size w w' := by
  obtain ⟨a, c, rfl, hc⟩ := h
  by_cases hx : 0 < xs.length
  · obtain ⟨b, o, rfl, _, _⟩ := hc 0 hx
    refine (Tryz.slices_Clone_string b o xs.length c (xs.map (fun l => ⟨l.toArray⟩)) w (by rw [List.length_map]; exact Nat.le_refl _) (by omega) (fun j hj => ?_)).mono ?_
    · rw [List.length_map] at hj
      obtain ⟨b', o', e, _, hcell⟩ := hc j hj
      injection e with e
      injection e with e1 e2
      subst e1
      subst e2
      rw [hcell, List.getD_eq_getElem?_getD, List.getElem?_map, List.getElem?_eq_getElem hj]
      rfl
    · rintro e w' ⟨v', rfl, ho, _, hb⟩
      rw [List.take_of_length_le (by rw [List.length_map]; exact Nat.le_refl _), List.map_map] at ho
      exact ⟨v', rfl, ho, hb⟩
  · have h0 : xs = [] := List.eq_nil_of_length_eq_zero (by omega)
    subst h0
    cases a with
    | none =>
      refine (Tryz.slices_Clone_string_nil _ c w).mono ?_
      rintro e w' ⟨rfl, rfl⟩
      exact ⟨_, rfl, OwnL.nil _ _ _ _, Below.refl _ _⟩
    | some a =>
      refine (Tryz.slices_Clone_string_zero a c w).mono ?_
      rintro e w' ⟨v', rfl, ho, _, hb⟩
      exact ⟨v', rfl, ho, hb⟩

/-- A signature's cells, one of them written. -/
theorem sig_set2 {w : World} {p : Nat} {b n : Int} {vw vs : Value} (h : w.heap[p]? = some (sigC b n vw vs)) (v : Value) : (w.setCell ⟨p, 2, none⟩ v).heap[p]? = some (sigC b n v vs) := by
  rw [heap_setCell_same w p 2 _ _ _ h]; rfl
theorem sig_set3 {w : World} {p : Nat} {b n : Int} {vw vs : Value} (h : w.heap[p]? = some (sigC b n vw vs)) (v : Value) : (w.setCell ⟨p, 3, none⟩ v).heap[p]? = some (sigC b n vw v) := by
  rw [heap_setCell_same w p 3 _ _ _ h]; rfl
/-- Behind a write into a signature's block. -/
theorem own_sig {α : Type} {enc : α → Value} {w : World} {base : Nat} {e : TypeId} {v : Value} {xs : List α} (h : OwnL enc w base e v xs) {p j : Nat} {u : Value} {o : Obj} (hp : w.heap[p]? = some o) (hne : ∀ cs, o ≠ .cells cs e (0, 0)) : OwnL enc (w.setCell ⟨p, j, none⟩ u) base e v xs :=
  own_off h ((Kept.refl (fun k => k = p) w).setCell (by rfl) u) (fun g cur hg _ hgp => by
    subst hgp
    rw [hp] at hg
    injection hg with hg
    exact hne cur hg)
theorem own_grow {α : Type} {enc : α → Value} {w w' : World} {base : Nat} {e : TypeId} {v : Value} {xs : List α} (h : OwnL enc w base e v xs) (hb : Below w.heap.size w w') : OwnL enc w' base e v xs :=
  own_off h (Kept.new hb (fun _ => False)) (fun _ _ _ _ => id)

theorem own_back {α : Type} {enc : α → Value} {w : World} {base base' : Nat} {e : TypeId} {v : Value} {xs : List α} (h : w.ownsRow base e 1 v xs.length (xs.map enc)) (hb : base' ≤ base) : OwnL enc w base' e v xs := OwnL.mono (enc := enc) h hb

set_option maxRecDepth 100000 in
set_option maxHeartbeats 4000000 in
theorem own_any (b n : Int) (ws : List Int) (ms : List Txt) (vw vs : Value) (N1 N2 : Nat → Prop) (w : World) (h1 : Row (Value.int .i64) N1 w vw ws) (h2 : Row encT N2 w vs ms) (hl1 : ws.length ≤ 1000000) (hl2 : ms.length ≤ 1000000) (hm : ∀ m ∈ ms, m.length ≤ 1000000) :
    Calls Tryz.prog 51 #[sigV b n vw vs] w fun e w' => ∃ vw' vs', e = .returned (sigV b n vw' vs') ∧ OwnL (Value.int .i64) w' w.heap.size 3 vw' ws ∧ OwnL encT w' w.heap.size 9 vs' ms ∧ Below w.heap.size w w' := by
  have HM := Lib.hid hm; clear hm
  have HB := Lib.hid (show Below w.heap.size w ((w.alloc (sigC b n vw vs)).alloc (sigC 0 0 (.slice none 0 0) (.slice none 0 0))) from ((Below.refl _ _).alloc (Nat.le_refl _) _).alloc (by simp) _)
  have G0 := Lib.hid (show ((w.alloc (sigC b n vw vs)).alloc (sigC 0 0 (.slice none 0 0) (.slice none 0 0))).heap[w.heap.size]? = some (sigC b n vw vs) from heap_alloc2_old _ _ _)
  have R0 := Lib.hid (show ((w.alloc (sigC b n vw vs)).alloc (sigC 0 0 (.slice none 0 0) (.slice none 0 0))).heap[w.heap.size + 1]? = some (sigC 0 0 (.slice none 0 0) (.slice none 0 0)) from heap_alloc2_new _ _ _)
  have H1 := Lib.hid (h1.grow HB.out)
  have H2 := Lib.hid h2
  have C1 := Lib.hid (cloneInts_any ws vw N1 _ H1.out hl1)
  have hs0 := HB.out.size
  obtain ⟨a1, k1, rfl, _⟩ := h1
  obtain ⟨a2, k2, rfl, _⟩ := h2
  have c2 := sig_c2 G0.out
  go_enter Tryz.func51, Tryz.ntmps51
  go_wp2_with fail
  generalize hw0 : (w.alloc (.cells #[.int .i64 b, .int .i64 n, .slice a1 ws.length k1, .slice a2 ms.length k2] 58)).alloc (.cells #[.int .i64 0, .int .i64 0, .slice none 0 0, .slice none 0 0] 58) = w0 at *
  clear hw0
  refine C1.out.mono ?_
  rintro e w1 ⟨v1, rfl, ho1, hb1⟩
  obtain ⟨a3, m3, k3, rfl⟩ := own_slice ho1
  have g1 := old_of hb1 G0.out
  have r1 := old_of hb1 R0.out
  have f1 := frozen_of_row w1 w.heap.size 2 _ _ g1
  have c21 := sig_c2 g1
  have HO1 := Lib.hid (own_sig (j := 2) (u := .slice a3 m3 k3) ho1 g1 (fun cs h => by simp at h))
  have G1 := Lib.hid (sig_set2 g1 (.slice a3 m3 k3))
  have R1 := Lib.hid (show (w1.setCell ⟨w.heap.size, 2, none⟩ (.slice a3 m3 k3)).heap[w.heap.size + 1]? = _ from (Below.heap_setCell w1 ⟨w.heap.size, 2, none⟩ _ (w.heap.size + 1) (by simp)).trans r1)
  have B1 := Lib.hid ((HB.out.trans (hb1.mono hs0)).setCell (p := ⟨w.heap.size, 2, none⟩) (Nat.le_refl _) (.slice a3 m3 k3))
  have C2 := Lib.hid (cloneTexts_any ms _ N2 _ (H2.out.grow B1.out) hl2)
  clear HB G0 R0 H1 C1 H2 g1 r1 ho1 hb1 c2
  have e3 := sig_c3 G1.out
  go_upto_region 2 with fail
  generalize hw2 : w1.setCell ⟨w.heap.size, 2, none⟩ (.slice a3 m3 k3) = w2 at *
  clear hw2 c21 f1
  go_wp2_with fail
  refine C2.out.mono ?_
  rintro e w3 ⟨v3, rfl, ho3, hb3⟩
  obtain ⟨a4, m4, k4, rfl⟩ := own_slice ho3
  obtain rfl : m4 = ms.length := own_lenV ho3
  have g3 := old_of hb3 G1.out
  have r3 := old_of hb3 R1.out
  have f3 := frozen_of_row w3 w.heap.size 3 _ _ g3
  have c33 := sig_c3 g3
  have HO3 := Lib.hid (own_sig (j := 3) (u := .slice a4 ms.length k4) ho3 g3 (fun cs h => by simp at h))
  have HO1' := Lib.hid (own_sig (j := 3) (u := .slice a4 ms.length k4) (own_grow HO1.out hb3) g3 (fun cs h => by simp at h))
  have G3 := Lib.hid (sig_set3 g3 (.slice a4 ms.length k4))
  have R3 := Lib.hid (show (w3.setCell ⟨w.heap.size, 3, none⟩ (.slice a4 ms.length k4)).heap[w.heap.size + 1]? = _ from (Below.heap_setCell w3 ⟨w.heap.size, 3, none⟩ _ (w.heap.size + 1) (by simp)).trans r3)
  have B3 := Lib.hid ((B1.out.trans (hb3.mono B1.out.size)).setCell (p := ⟨w.heap.size, 3, none⟩) (Nat.le_refl _) (.slice a4 ms.length k4))
  have hs1 := B1.out.size
  clear HO1 G1 R1 B1 C2 g3 r3 ho3 hb3 e3
  go_upto_region 3 with fail
  generalize hw4 : w3.setCell ⟨w.heap.size, 3, none⟩ (.slice a4 ms.length k4) = w4 at *
  clear hw4 c33 f3
  have d3 := sig_c3 G3.out
  go_wp2
  go_loopw [16] (fun i wr => ∃ k : Nat, k ≤ ms.length ∧ i = .int .i64 k ∧ Below w4.heap.size w4 wr) (fun i _ => ms.length - (intOf i).toNat)
  case atStart => exact ⟨0, by omega, rfl, Below.refl _ _⟩
  case round =>
    obtain ⟨k, hk, rfl, hbel⟩ := hrel
    have Hbel := Lib.hid hbel; clear hbel d3
    have e3 := sig_c3 (old_of Hbel.out G3.out)
    by_cases hlt : k < ms.length
    · obtain ⟨g, c, hv, hg, hcell, hfro⟩ := own_at (own_grow HO3.out Hbel.out) k hlt
      injection hv with ha hn hc
      subst ha
      subst hc
      clear hn
      unfold encT at hcell
      have i0 : (0 : Int) ≤ (k : Int) := by omega
      have i1 : (k : Int) < (ms.length : Int) := by omega
      have SC := Lib.hid (clone_any ms[k] wr.drew (by have := HM.out ms[k] (List.getElem_mem _); omega))
      have HBw := Lib.hid (show ∀ w', Below wr.drew.heap.size wr.drew w' → w'.cell? ⟨g, k, none⟩ = some (.string ⟨ms[k].toArray⟩) ∧ w'.frozen? ⟨g, k, none⟩ = false ∧ w'.cell? ⟨w.heap.size, 3, none⟩ = some (.slice (some ⟨g, 0, none⟩) ms.length k4) from fun w' hb' => by
        have hb2 : Below wr.heap.size wr w' := Below.trans (Below_drew (Below.refl _ wr)) hb'
        have hb3 := Hbel.out.trans (hb2.mono Hbel.out.size)
        obtain ⟨g', c', hv', _, h1, h2⟩ := own_at (own_grow HO3.out hb3) k hlt
        injection hv' with ha' _ _
        injection ha' with ha'
        injection ha' with ha'
        subst ha'
        exact ⟨h1, h2, sig_c3 (old_of hb3 G3.out)⟩)
      have HBn := Lib.hid (show ∀ w', Below wr.drew.heap.size wr.drew w' → Below w4.heap.size w4 w' from fun w' hb' => Hbel.out.trans ((Below.trans (Below_drew (Below.refl _ wr)) hb').mono Hbel.out.size))
      generalize ms[k] = m at *
      go_upto_region 6 with fail
      go_region_law (first
          | (go_simp; go_at_call 13; with_reducible refine SC.out.mono ?_; rintro e w5 ⟨rfl, hb5⟩; obtain ⟨q1, q2, q3⟩ := HBw.out w5 hb5; have HB5 := Lib.hid (HBn.out w5 hb5); have HS5 := Lib.hid (setCell_self q1); clear hb5))
      all_goals
        go_wp2
        rw [HS5.out]
        go_roundw
        case rel => exact ⟨k + 1, by omega, by go_num, HB5.out⟩
        case measure => simp [intOf]; omega
    · have i1 : ¬ (k : Int) < (ms.length : Int) := by omega
      have gW := old_of Hbel.out G3.out
      have rW := old_of Hbel.out R3.out
      have e0 := sig_c0 gW
      have e1 := sig_c1 gW
      have e2 := sig_c2 gW
      obtain ⟨s0', s1', s2', s3', s4', s5'⟩ := sig_store (b' := b) (n' := n) (vw' := .slice a3 m3 k3) (vs' := .slice a4 ms.length k4) rW
      have S0 := s0'.1
      have S0f := s0'.2
      have S1 := s1'.1
      have S1f := s1'.2
      have S2 := s2'.1
      have S2f := s2'.2
      have S3 := s3'.1
      have S3f := s3'.2
      have S4 := Lib.hid s4'
      have S5 := Lib.hid s5'
      have RW := Lib.hid rW
      clear s0' s1' s2' s3' s4' s5' gW rW
      go_wp2
      refine bodyPost_ret (v := sigV b n (.slice a3 m3 k3) (.slice a4 ms.length k4)) (results_cell_row Tryz.results51 _ _ (w.heap.size + 1) _ _ _ _ rfl S4.out Tryz.underlying58 rfl sig_info) rfl ?_
      refine ⟨_, _, rfl, ?_, ?_, ?_⟩
      · refine own_back (own_off (own_grow HO1'.out Hbel.out) S5.out (fun g cur hg _ hgp => ?_)) hs0
        subst hgp
        rw [RW.out] at hg
        simp at hg
      · refine own_back (own_off (own_grow HO3.out Hbel.out) S5.out (fun g cur hg _ hgp => ?_)) hs1
        subst hgp
        rw [RW.out] at hg
        simp at hg
      · have hb := B3.out.trans (Hbel.out.mono B3.out.size)
        exact ⟨S5.out.os.trans hb.os, S5.out.tape.trans hb.tape, S5.out.output.trans hb.output, Nat.le_trans hb.size S5.out.size, fun k' hk' => (S5.out.block k' (Nat.lt_of_lt_of_le hk' hb.size) (by omega)).trans (hb.block k' hk')⟩
end Go.Proofs.YtpkgjokehgihjaaGreat

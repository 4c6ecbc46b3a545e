/- Several texts in one: SortGAW, SortGBW. -/
import Derived.Test.YtfgimhgkjodcgaaDoorFrame
import Derived.Test.YtfgimhgkjodcgaaDoorGen
import Derived.Test.YtfgimhgkjodcgaaDoorOwnL
import Derived.Test.YtfgimhgkjodcgaaDoorProg
import Derived.Test.YtfgimhgkjodcgaaDoorReadW
import Derived.Test.YtfgimhgkjodcgaaDoorRowN
import Derived.Test.YtfgimhgkjodcgaaDoorRows
import Derived.Test.YtfgimhgkjodcgaaDoorTmX
import Derived.Test.YtfgimhgkjodcgaaDoorTreeMath
import Derived.BigQuiet
import Derived.BigRegion
import Derived.ChangeAlike
import Derived.Deep.QuietTactic
import Derived.Lib.Hide
import Derived.RegionTactic
import Derived.WalkKit
import Derived.WalkLawsBesides
import Derived.WalkSpells
import Derived.Test.YtfgimhgkjodcgaaDoorQuietBelow
import Derived.Test.YtfgimhgkjodcgaaDoorReadMath
import Derived.Shelf.Abstract
/- The library's stable sort of files, walked: swapRange, rotate. -/
set_option linter.unusedVariables false
namespace Go.Proofs.YtfgimhgkjodcgaaDoor
open Go.RowKit

/-- n files in block g, which ones told by d. -/
def FR (F : Nat → FileD) (w : World) (g n : Nat) (d : Nat → Nat) : Prop := ∃ cs : Array Value, w.heap[g]? = some (.cells cs 33 (0, 0)) ∧ ∀ k, k < n → cs[k * 3]? = some (.string ⟨(F (d k)).path.toArray⟩) ∧ cs[k * 3 + 1]? = some (.int .i64 (F (d k)).mode) ∧ cs[k * 3 + 2]? = some (.string ⟨(F (d k)).data.toArray⟩)
section
variable {F : Nat → FileD} {w w' : World} {g n : Nat} {d : Nat → Nat}
theorem FR.c0 (h : FR F w g n d) {k : Nat} (hk : k < n) : w.cell? ⟨g, k * 3, none⟩ = some (.string ⟨(F (d k)).path.toArray⟩) := by
  obtain ⟨cs, h1, h2⟩ := h
  rw [cell_of_row _ _ _ _ _ _ h1]; exact (h2 k hk).1
theorem FR.c1 (h : FR F w g n d) {k : Nat} (hk : k < n) : w.cell? ⟨g, k * 3 + 1, none⟩ = some (.int .i64 (F (d k)).mode) := by
  obtain ⟨cs, h1, h2⟩ := h
  rw [cell_of_row _ _ _ _ _ _ h1]; exact (h2 k hk).2.1
theorem FR.c2 (h : FR F w g n d) {k : Nat} (hk : k < n) : w.cell? ⟨g, k * 3 + 2, none⟩ = some (.string ⟨(F (d k)).data.toArray⟩) := by
  obtain ⟨cs, h1, h2⟩ := h
  rw [cell_of_row _ _ _ _ _ _ h1]; exact (h2 k hk).2.2
theorem FR.free (h : FR F w g n d) (k : Nat) : w.frozen? ⟨g, k, none⟩ = false := by
  obtain ⟨cs, h1, h2⟩ := h
  exact frozen_of_row w g k _ _ h1
theorem FR.lt (h : FR F w g n d) : g < w.heap.size := by
  obtain ⟨cs, h1, h2⟩ := h
  exact (Array.getElem?_eq_some_iff.1 h1).1
theorem FR.drew (h : FR F w g n d) : FR F w.drew g n d := h
theorem FR.drewN (h : FR F w g n d) (m : Nat) : FR F (w.drewN m) g n d := h
theorem FR.new (h : FR F w g n d) (hb : Below w.heap.size w w') : FR F w' g n d := by
  have hlt := h.lt
  obtain ⟨cs, h1, h2⟩ := h
  exact ⟨cs, (hb.block g hlt).trans h1, h2⟩
theorem FR.congr (h : FR F w g n d) {e : Nat → Nat} (he : ∀ k, k < n → d k = e k) : FR F w g n e := by
  obtain ⟨cs, h1, h2⟩ := h
  exact ⟨cs, h1, fun k hk => by rw [← he k hk]; exact h2 k hk⟩
/-- A file stored into place k of block g. -/
def setF (w : World) (g k : Nat) (x : FileD) : World := ((w.setCell ⟨g, k * 3, none⟩ (.string ⟨x.path.toArray⟩)).setCell ⟨g, k * 3 + 1, none⟩ (.int .i64 x.mode)).setCell ⟨g, k * 3 + 2, none⟩ (.string ⟨x.data.toArray⟩)
theorem setF_kept (w : World) (g k : Nat) (x : FileD) : Kept (· = g) w (setF w g k x) :=
  (((Kept.refl (· = g) w).setCell (p := ⟨g, k * 3, none⟩) rfl _).setCell (p := ⟨g, k * 3 + 1, none⟩) rfl _).setCell (p := ⟨g, k * 3 + 2, none⟩) rfl _
theorem FR.set (h : FR F w g n d) {i : Nat} (hi : i < n) (v : Nat) : FR F (setF w g i (F v)) g n (fun k => if k = i then v else d k) := by
  obtain ⟨cs, h1, h2⟩ := h
  have s1 : (w.setCell ⟨g, i * 3, none⟩ (.string ⟨(F v).path.toArray⟩)).heap[g]? = some (.cells (cs.setIfInBounds (i * 3) (.string ⟨(F v).path.toArray⟩)) 33 (0, 0)) := heap_setCell_same w g (i * 3) _ _ _ h1
  have s2 : ((w.setCell ⟨g, i * 3, none⟩ (.string ⟨(F v).path.toArray⟩)).setCell ⟨g, i * 3 + 1, none⟩ (.int .i64 (F v).mode)).heap[g]? = some (.cells ((cs.setIfInBounds (i * 3) (.string ⟨(F v).path.toArray⟩)).setIfInBounds (i * 3 + 1) (.int .i64 (F v).mode)) 33 (0, 0)) := heap_setCell_same _ g (i * 3 + 1) _ _ _ s1
  have s3 : (setF w g i (F v)).heap[g]? = some (.cells (((cs.setIfInBounds (i * 3) (.string ⟨(F v).path.toArray⟩)).setIfInBounds (i * 3 + 1) (.int .i64 (F v).mode)).setIfInBounds (i * 3 + 2) (.string ⟨(F v).data.toArray⟩)) 33 (0, 0)) := heap_setCell_same _ g (i * 3 + 2) _ _ _ s2
  refine ⟨_, s3, fun k hk => ?_⟩
  have l2 : i * 3 + 2 < cs.size := (Array.getElem?_eq_some_iff.1 (h2 i hi).2.2).1
  obtain ⟨q0, q1, q2⟩ := h2 k hk
  simp only [Array.getElem?_setIfInBounds, Array.size_setIfInBounds]
  by_cases e : k = i
  · subst e
    simp only [if_pos]
    refine ⟨?_, ?_, ?_⟩
    · rw [if_neg (by omega), if_neg (by omega), if_pos (by omega)]
    · rw [if_neg (by omega), if_pos (by omega)]
    · rw [if_pos (by omega)]
  · simp only [if_neg e]
    refine ⟨?_, ?_, ?_⟩
    · rw [if_neg (by omega), if_neg (by omega), if_neg (by omega)]; exact q0
    · rw [if_neg (by omega), if_neg (by omega), if_neg (by omega)]; exact q1
    · rw [if_neg (by omega), if_neg (by omega), if_neg (by omega)]; exact q2
theorem FR.sw (h : FR F w g n d) {i j : Nat} (hi : i < n) (hj : j < n) (hij : i ≠ j) :
    FR F (setF (setF w g i (F (d j))) g j (F (d i))) g n (sw d i j) ∧ Kept (· = g) w (setF (setF w g i (F (d j))) g j (F (d i))) := by
  refine ⟨((h.set hi (d j)).set hj (d i)).congr (fun k hk => ?_), (setF_kept _ _ _ _).trans (setF_kept _ _ _ _)⟩
  unfold Go.Proofs.YtfgimhgkjodcgaaDoor.sw
  by_cases e1 : k = j
  · rw [if_pos e1]
    by_cases e2 : k = i
    · omega
    · rw [if_neg e2, if_pos e1]
  · rw [if_neg e1]
    by_cases e2 : k = i
    · rw [if_pos e2, if_pos e2]
    · rw [if_neg e2, if_neg e2, if_neg e1]
end
set_option maxRecDepth 100000 in
set_option maxHeartbeats 1000000 in
theorem swapRangeG_any {F : Nat → FileD} (fn : Nat) (cb : Array Value) (d : Nat → Nat) (N g a b n c : Nat) (w : World) (h : FR F w g N d) (ha : a + n ≤ b) (hb : b + n ≤ N) (hN : N ≤ 1000000) :
    Calls Tryd.prog 105 #[.slice (some ⟨g, 0, none⟩) N c, .int .i64 a, .int .i64 b, .int .i64 n, .func (.func fn) #[] cb] w fun e w' => e = .returned (.tuple #[]) ∧ FR F w' g N (swr d a b n) ∧ Kept (· = g) w w' := by
  have H0 := Lib.hid h; clear h
  go_enter Tryd.func105, Tryd.ntmps105
  go_wp2
  go_loopw [10] (fun i wr => ∃ k : Nat, k ≤ n ∧ i = .int .i64 k ∧ FR F wr g N (swr d a b k) ∧ Kept (· = g) w wr) (fun i _ => n - (intOf i).toNat)
  case atStart => exact ⟨0, by omega, rfl, by rw [swr_zero]; exact H0.out, Kept.refl _ _⟩
  case round =>
    obtain ⟨k, hk, rfl, hir, hkp⟩ := hrel
    have HI := Lib.hid hir; clear hir
    have HK := Lib.hid hkp; clear hkp
    by_cases hlt : k < n
    · have c10 := HI.out.c0 (show a + k < N by omega)
      have c11 := HI.out.c1 (show a + k < N by omega)
      have c12 := HI.out.c2 (show a + k < N by omega)
      have c20 := HI.out.c0 (show b + k < N by omega)
      have c21 := HI.out.c1 (show b + k < N by omega)
      have c22 := HI.out.c2 (show b + k < N by omega)
      have f1 := HI.out.free ((a + k) * 3)
      have f1' := HI.out.free ((a + k) * 3 + 1)
      have f1'' := HI.out.free ((a + k) * 3 + 2)
      have f2 := HI.out.free ((b + k) * 3)
      have f2' := HI.out.free ((b + k) * 3 + 1)
      have f2'' := HI.out.free ((b + k) * 3 + 2)
      have SW := Lib.hid (HI.out.sw (show a + k < N by omega) (show b + k < N by omega) (by omega))
      rw [swr_succ d hlt ha] at SW
      unfold setF at SW
      generalize F (swr d a b k (a + k)) = x at *
      generalize F (swr d a b k (b + k)) = y at *
      have hne : a + k ≠ b + k := by omega
      have i1 : (0 : Int) ≤ (a : Int) + (k : Int) := by omega
      have i2 : (a : Int) + (k : Int) < (N : Int) := by omega
      have i3 : (0 : Int) ≤ (b : Int) + (k : Int) := by omega
      have i4 : (b : Int) + (k : Int) < (N : Int) := by omega
      have W1 : IntKind.i64.wrap ((a : Int) + (k : Int)) = (a : Int) + (k : Int) := IntWalk.i64_in _ (by omega)
      have W2 : IntKind.i64.wrap ((b : Int) + (k : Int)) = (b : Int) + (k : Int) := IntWalk.i64_in _ (by omega)
      have T1 : ((a : Int) + (k : Int)).toNat = a + k := by omega
      have T2 : ((b : Int) + (k : Int)).toNat = b + k := by omega
      go_wp2
      go_region
      all_goals
        go_wp2
        go_roundw
        case rel => exact ⟨k + 1, by omega, by go_num, SW.out.1.drew, (HK.out.trans SW.out.2).drew⟩
        case measure => simp [intOf]; omega
    · obtain rfl : k = n := by omega
      go_wp2
      go_end0
      exact ⟨rfl, HI.out, HK.out⟩

set_option maxRecDepth 100000 in
set_option maxHeartbeats 1000000 in
theorem rotateG_any {F : Nat → FileD} (fn : Nat) (cb : Array Value) (d : Nat → Nat) (N g a m b c : Nat) (w : World) (h : FR F w g N d) (ha : a < m) (hm : m < b) (hb : b ≤ N) (hN : N ≤ 1000000) :
    Calls Tryd.prog 103 #[.slice (some ⟨g, 0, none⟩) N c, .int .i64 a, .int .i64 m, .int .i64 b, .func (.func fn) #[] cb] w fun e w' => e = .returned (.tuple #[]) ∧ FR F w' g N (rot d a m b) ∧ Kept (· = g) w w' := by
  have H0 := Lib.hid h; clear h
  obtain ⟨i0, hi0⟩ : ∃ i0, i0 = m - a := ⟨_, rfl⟩
  obtain ⟨j0, hj0⟩ : ∃ j0, j0 = b - m := ⟨_, rfl⟩
  have E1 : (m : Int) - (a : Int) = (i0 : Int) := by omega
  have E2 : (b : Int) - (m : Int) = (j0 : Int) := by omega
  have HA := Lib.hid (show m - i0 = a ∧ m + j0 = b ∧ 0 < i0 ∧ 0 < j0 ∧ i0 ≤ m ∧ m + j0 ≤ N by omega)
  clear hi0 hj0
  have RT := Lib.hid (show rot d (m - i0) m (m + j0) = rot d a m b by rw [HA.out.1, HA.out.2.1])
  go_enter Tryd.func103, Tryd.ntmps103
  go_wp2_with fail
  clear E1 E2
  go_loopw [10, 11] (fun i j wr => ∃ (k l : Nat) (e : Nat → Nat), 0 < k ∧ 0 < l ∧ k ≤ m ∧ m + l ≤ N ∧ i = .int .i64 k ∧ j = .int .i64 l ∧ FR F wr g N e ∧ rot e (m - k) m (m + l) = rot d a m b ∧ Kept (· = g) w wr) (fun i j _ => (intOf i).toNat + (intOf j).toNat)
  case atStart => exact ⟨i0, j0, d, HA.out.2.2.1, HA.out.2.2.2.1, HA.out.2.2.2.2.1, HA.out.2.2.2.2.2, rfl, rfl, H0.out, RT.out, Kept.refl _ _⟩
  case round =>
    obtain ⟨k, l, e, hk0, hl0, hkm, hlN, rfl, rfl, hir, hrot, hkp⟩ := hrel
    have HI := Lib.hid hir; clear hir
    have HK := Lib.hid hkp; clear hkp
    have HR := Lib.hid hrot; clear hrot
    by_cases heq : k = l
    · subst heq
      have q0 : ((k : Int) != (k : Int)) = false := by simp
      have SR := Lib.hid (fun W (h : FR F W g N e) => swapRangeG_any fn cb e N g (m - k) m k c W h (by omega) (by omega) hN)
      have HE := Lib.hid (rot_even e hkm)
      have E3 : (m : Int) - (k : Int) = ((m - k : Nat) : Int) := by omega
      go_wp2_with fail
      refine (SR.out _ HI.out).mono ?_
      rintro e1 w1 ⟨rfl, hi1, hk1⟩
      go_wp2
      go_end0
      exact ⟨rfl, by rw [← HR.out, ← HE.out]; exact hi1, HK.out.trans hk1⟩
    · have q0 : ((k : Int) != (l : Int)) = true := by simp; omega
      by_cases hlt : l < k
      · have SR := Lib.hid (fun W (h : FR F W g N e) => swapRangeG_any fn cb e N g (m - k) m l c W h (by omega) (by omega) hN)
        have HE := Lib.hid (rot_big e hkm hlt hl0)
        have E3 : (m : Int) - (k : Int) = ((m - k : Nat) : Int) := by omega
        have E4 : (k : Int) - (l : Int) = ((k - l : Nat) : Int) := by omega
        have i1 : (l : Int) < (k : Int) := by omega
        go_wp2_with fail
        refine (SR.out _ HI.out).mono ?_
        rintro e1 w1 ⟨rfl, hi1, hk1⟩
        have HI1 := Lib.hid hi1; clear hi1
        have HK1 := Lib.hid (HK.out.trans hk1); clear hk1
        go_wp2
        go_roundw
        case rel => exact ⟨k - l, l, _, by omega, hl0, by omega, hlN, rfl, rfl, HI1.out, by rw [HE.out, HR.out], HK1.out⟩
        case measure => simp [intOf]; omega
      · have SR := Lib.hid (fun W (h : FR F W g N e) => swapRangeG_any fn cb e N g (m - k) (m + l - k) k c W h (by omega) (by omega) hN)
        have HE := Lib.hid (rot_small e hkm (show k < l by omega) hk0)
        have E3 : (m : Int) - (k : Int) = ((m - k : Nat) : Int) := by omega
        have E5 : (m : Int) + (l : Int) - (k : Int) = ((m + l - k : Nat) : Int) := by omega
        have E4 : (l : Int) - (k : Int) = ((l - k : Nat) : Int) := by omega
        have i1 : ¬ (l : Int) < (k : Int) := by omega
        go_wp2_with fail
        refine (SR.out _ HI.out).mono ?_
        rintro e1 w1 ⟨rfl, hi1, hk1⟩
        have HI1 := Lib.hid hi1; clear hi1
        have HK1 := Lib.hid (HK.out.trans hk1); clear hk1
        go_wp2
        go_roundw
        case rel => exact ⟨k, l - k, _, hk0, by omega, hkm, by omega, rfl, rfl, HI1.out, by rw [HE.out, HR.out], HK1.out⟩
        case measure => simp [intOf]; omega
end Go.Proofs.YtfgimhgkjodcgaaDoor
/- The library's stable sort of files, walked: insertion sort of a piece. -/
set_option linter.unusedVariables false
namespace Go.Proofs.YtfgimhgkjodcgaaDoor
open Go.RowKit

variable {F : Nat → FileD}
def aggF (x : FileD) : Value := .agg #[.string ⟨x.path.toArray⟩, .int .i64 x.mode, .string ⟨x.data.toArray⟩]
/-- What the closure tells: cv; it makes memory alone, in whatever world in which block g alone has turned. -/
def CmpF (F : Nat → FileD) (f : Nat) (cb : Array Value) (cv : Nat → Nat → Int) (N g : Nat) (w0 : World) : Prop :=
  (∀ (args : Array Value) (w : World), (callFunc f args).run Tryd.prog w = .ok (.enter f args) w) ∧
  ∀ W, Kept (· = g) w0 W → ∀ x y : Nat, x < N → y < N → Calls Tryd.prog f (#[aggF (F x), aggF (F y)] ++ cb) W fun e w' => e = .returned (.int .i64 (cv x y)) ∧ Below W.heap.size W w'
def ltOf (cv : Nat → Nat → Int) (x y : Nat) : Bool := decide (cv x y < 0)
theorem CmpF.on {f : Nat} {cb : Array Value} {cv : Nat → Nat → Int} {N g : Nat} {w0 w : World} (h : CmpF F f cb cv N g w0) (hk : Kept (· = g) w0 w) : CmpF F f cb cv N g w := ⟨h.1, fun W k => h.2 W (hk.trans k)⟩
theorem CmpF.at {f : Nat} {cb : Array Value} {cv : Nat → Nat → Int} {N g : Nat} {w0 w : World} (h : CmpF F f cb cv N g w0) (hk : Kept (· = g) w0 w) {x y : Nat} (hx : x < N) (hy : y < N) (p : BelowOf w) :
    Calls Tryd.prog f (#[.agg #[.string ⟨(F x).path.toArray⟩, .int .i64 (F x).mode, .string ⟨(F x).data.toArray⟩], .agg #[.string ⟨(F y).path.toArray⟩, .int .i64 (F y).mode, .string ⟨(F y).data.toArray⟩]] ++ cb) p.w fun e w' => e = .returned (.int .i64 (cv x y)) ∧ Below p.w.heap.size p.w w' := h.2 _ (hk.trans (Kept.new p.h _)) x y hx hy
def SortPostG (F : Nat → FileD) (lt : Nat → Nat → Bool) (d : Nat → Nat) (a b g N : Nat) (w : World) (e : Ending) (w' : World) : Prop :=
  e = .returned (.tuple #[]) ∧ ∃ d', Merged lt d a b d' ∧ FR F w' g N d' ∧ Kept (· = g) w w'

theorem Merged.perm_wide {lt : Nat → Nat → Bool} {d e : Nat → Nat} {a k b : Nat} (h : Merged lt d a k e) (h1 : a ≤ k) (h2 : k ≤ b) : (seg e a b).Perm (seg d a b) := by
  rw [seg_append e h1 h2, seg_append d h1 h2]
  have e1 : seg e k b = seg d k b := seg_congr (fun t ht _ => h.off t (.inr ht))
  rw [e1]
  exact h.perm.append_right _
theorem Merged.next {lt : Nat → Nat → Bool} {d e e' : Nat → Nat} {a k b : Nat} (h : Merged lt d a k e) (h1 : a ≤ k) (h2 : k ≤ b) (h' : Merged lt e a b e') : Merged lt d a b e' :=
  ⟨fun t ht => (h'.off t ht).trans (h.off t (by omega)), h'.perm.trans (h.perm_wide h1 h2), h'.sorted⟩

set_option maxRecDepth 100000 in
set_option maxHeartbeats 1000000 in
theorem insertionG_any (f : Nat) (cb : Array Value) (cv : Nat → Nat → Int) (H : SWo (ltOf cv)) (d : Nat → Nat) (N g a b c : Nat) (w : World) (hc : CmpF F f cb cv N g w) (h : FR F w g N d) (hd : ∀ k, k < N → d k < N)
    (hasc : ∀ i j, a ≤ i → i < j → j < b → d i < d j) (hab : a ≤ b) (hb : b ≤ N) (hN : N ≤ 1000000) :
    Calls Tryd.prog 98 #[.slice (some ⟨g, 0, none⟩) N c, .int .i64 a, .int .i64 b, .func (.func f) #[] cb] w (SortPostG F (ltOf cv) d a b g N w) := by
  have H0 := Lib.hid h; clear h
  have CM := Lib.hid hc
  have eg := hc.1
  clear hc
  have HD := Lib.hid hd; clear hd
  have HA := Lib.hid hasc; clear hasc
  go_enter Tryd.func98, Tryd.ntmps98
  go_wp2
  by_cases hlt0 : a < b
  · go_loopw [8, 9] (fun i j wr => ∃ (k : Nat) (e : Nat → Nat), a + 1 ≤ k ∧ k ≤ b ∧ i = .int .i64 k ∧ FR F wr g N e ∧ Merged (ltOf cv) d a k e ∧ Kept (· = g) w wr) (fun i _ _ => b - (intOf i).toNat)
    case atStart => exact ⟨a + 1, d, by omega, by omega, by go_num, H0.out, Merged.self (fun i j hi hij hj => by omega), Kept.refl _ _⟩
    case round =>
      obtain ⟨k, e, hk1, hk2, rfl, hir, hm, hkp⟩ := hrel
      have HI := Lib.hid hir; clear hir
      have HM := Lib.hid hm; clear hm
      have HK := Lib.hid hkp; clear hkp
      by_cases hlt : k < b
      · have hek := Lib.hid (HM.out.off k (.inr (Nat.le_refl _)))
        have HL := Lib.hid (show Lows e a k (k + 1) by
          intro i j hi hik hj hjk
          obtain rfl : j = k := by omega
          obtain ⟨i', h1, h2, h3⟩ := HM.out.mem hi hik
          rw [← h3, hek.out]
          exact HA.out i' j h1 h2 hlt)
        have HE := Lib.hid (show ∀ t, t < N → e t < N by
          intro t ht
          by_cases c1 : t < a ∨ k ≤ t
          · rw [HM.out.off t c1]; exact HD.out t ht
          · obtain ⟨i', h1, h2, h3⟩ := HM.out.mem (show a ≤ t by omega) (show t < k by omega)
            rw [← h3]; exact HD.out i' (by omega))
        have MG := Lib.hid (fun t (h1 : a ≤ t) (h2 : t ≤ k) (hle : ∀ s, a ≤ s → s < t → ltOf cv (e k) (e s) = false) (hgt : ∀ s, t ≤ s → s < k → ltOf cv (e k) (e s) = true) => HM.out.next (by omega) (by omega) (merge_one_r H HM.out.sorted HL.out h1 h2 hle hgt))
        go_wp2
        go_loopw [9] (fun j wv => ∃ t : Nat, a ≤ t ∧ t ≤ k ∧ j = .int .i64 t ∧ FR F wv g N (rot e t k (k + 1)) ∧ (∀ s, t ≤ s → s < k → ltOf cv (e k) (e s) = true) ∧ Kept (· = g) w wv) (fun j _ => (intOf j).toNat)
        case atStart => exact ⟨k, by omega, Nat.le_refl _, rfl, by rw [rot_left]; exact HI.out, fun s h1 h2 => by omega, HK.out⟩
        case round =>
          obtain ⟨t, ht1, ht2, rfl, hir2, hgt, hkp2⟩ := hrel
          have HI2 := Lib.hid hir2; clear hir2
          have HG := Lib.hid hgt; clear hgt
          have HK2 := Lib.hid hkp2; clear hkp2
          by_cases hat : a < t
          · obtain ⟨u, rfl⟩ : ∃ u, t = u + 1 := ⟨t - 1, by omega⟩
            have e1 : rot e (u + 1) k (k + 1) (u + 1) = e k := by unfold rot; grind
            have e2 : rot e (u + 1) k (k + 1) u = e u := by unfold rot; grind
            have c1 := HI2.out.c0 (show u + 1 < N by omega)
            have c1b := HI2.out.c1 (show u + 1 < N by omega)
            have c1c := HI2.out.c2 (show u + 1 < N by omega)
            have c2 := HI2.out.c0 (show u < N by omega)
            have c2b := HI2.out.c1 (show u < N by omega)
            have c2c := HI2.out.c2 (show u < N by omega)
            rw [e1] at c1 c1b c1c
            rw [e2] at c2 c2b c2c
            have SWL := Lib.hid (sw_rot_l e ht2)
            have E1 := Lib.hid e1
            have E2 := Lib.hid e2
            clear e1 e2
            have CC := Lib.hid (fun n : BelowOf _ => CM.out.at HK2.out (HE.out k (by omega)) (HE.out u (by omega)) n)
            have MG2 := Lib.hid (fun (hl : ltOf cv (e k) (e u) = false) => MG.out (u + 1) (by omega) ht2 (fun s h1 h2 => one_r_le H HM.out.sorted HL.out hl (show u < k by omega) h1 (by omega)) HG.out)
            have i1 : (a : Int) < ((u + 1 : Nat) : Int) := by omega
            have i1' : (a : Int) < (u : Int) + 1 := by omega
            have i2 : (0 : Int) ≤ ((u + 1 : Nat) : Int) := by omega
            have i3 : ((u + 1 : Nat) : Int) < (N : Int) := by omega
            have i4 : (0 : Int) ≤ (u : Int) := by omega
            have i5 : (u : Int) < (N : Int) := by omega
            have W1 : IntKind.i64.wrap (((u + 1 : Nat) : Int) - 1) = (u : Int) := by rw [IntWalk.i64_in _ (by omega)]; omega
            have W2 : IntKind.i64.wrap ((u : Int) + 1 - 1) = (u : Int) := by rw [IntWalk.i64_in _ (by omega)]; omega
            have W3 : (u : Int) + 1 - 1 = (u : Int) := by omega
            cases hl : ltOf cv (e k) (e u) with
            | true =>
              have HG2 := Lib.hid (show ∀ s, u ≤ s → s < k → ltOf cv (e k) (e s) = true from fun s h1 h2 => by
                by_cases c : s = u
                · rw [c]; exact hl
                · exact HG.out s (by omega) h2)
              have hb1 : decide (cv (e k) (e u) < 0) = true := hl
              clear hl
              generalize e u = y at *
              generalize e k = x at *
              generalize cv x y = v at *
              go_wp2
              have A1 := below_cell c1
              have A2 := below_cell c1b
              have A3 := below_cell c1c
              have A4 := below_cell c2
              have A5 := below_cell c2b
              have A6 := below_cell c2c
              refine wp_region_below (by kernel_rfl) (by kernel_rfl) ?_
              repeat (go_big_quiet_step ((go_at_fn f; with_reducible exact below_calls (CC.out _))))
              refine wpQuiet_nil ?_
              rintro w8 ⟨⟨w8b, hb8⟩, e8⟩
              have e8' : w8 = w8b := e8
              clear e8
              subst e8'
              have HI8 := Lib.hid (HI2.out.new hb8)
              have HK8 := Lib.hid (HK2.out.trans (Kept.new hb8 (· = g)))
              clear A1 A2 A3 A4 A5 A6 hb8 c1 c1b c1c c2 c2b c2c
              have c1 := HI8.out.c0 (show u + 1 < N by omega)
              have c1b := HI8.out.c1 (show u + 1 < N by omega)
              have c1c := HI8.out.c2 (show u + 1 < N by omega)
              have c2 := HI8.out.c0 (show u < N by omega)
              have c2b := HI8.out.c1 (show u < N by omega)
              have c2c := HI8.out.c2 (show u < N by omega)
              rw [E1.out] at c1 c1b c1c
              rw [E2.out] at c2 c2b c2c
              have f1 := HI8.out.free ((u + 1) * 3)
              have f1b := HI8.out.free ((u + 1) * 3 + 1)
              have f1c := HI8.out.free ((u + 1) * 3 + 2)
              have f2 := HI8.out.free (u * 3)
              have f2b := HI8.out.free (u * 3 + 1)
              have f2c := HI8.out.free (u * 3 + 2)
              have SW := Lib.hid (HI8.out.sw (show u + 1 < N by omega) (show u < N by omega) (by omega))
              rw [SWL.out, E1.out, E2.out] at SW
              unfold setF at SW
              go_wp2
              go_region
              all_goals
                go_wp2
                go_roundw
                case rel => exact ⟨u, by omega, by omega, by go_num, SW.out.1.drew, HG2.out, (HK8.out.trans SW.out.2).drew⟩
                case measure => simp [intOf]
            | false =>
              have hb1 : decide (cv (e k) (e u) < 0) = false := hl
              have MG3 := Lib.hid (MG2.out hl)
              clear hl
              generalize e u = y at *
              generalize e k = x at *
              generalize cv x y = v at *
              go_wp2
              have A1 := below_cell c1
              have A2 := below_cell c1b
              have A3 := below_cell c1c
              have A4 := below_cell c2
              have A5 := below_cell c2b
              have A6 := below_cell c2c
              refine wp_region_below (by kernel_rfl) (by kernel_rfl) ?_
              repeat (go_big_quiet_step ((go_at_fn f; with_reducible exact below_calls (CC.out _))))
              refine wpQuiet_nil ?_
              rintro w8 ⟨⟨w8b, hb8⟩, e8⟩
              have e8' : w8 = w8b := e8
              clear e8
              subst e8'
              have HI8 := Lib.hid (HI2.out.new hb8)
              have HK8 := Lib.hid (HK2.out.trans (Kept.new hb8 (· = g)))
              clear A1 A2 A3 A4 A5 A6 hb8
              go_wp2
              go_roundw
              case rel => exact ⟨k + 1, _, by omega, by omega, by go_num, HI8.out, MG3.out, HK8.out⟩
              case measure => simp [intOf]; omega
          · obtain rfl : t = a := by omega
            have i1 : decide ((t : Int) < (t : Int)) = false := by simp
            have MG3 := Lib.hid (MG.out t (Nat.le_refl _) ht2 (fun s h1 h2 => by omega) HG.out)
            go_wp2
            go_quiet (fail)
            go_wp2
            go_roundw
            case rel => exact ⟨k + 1, _, by omega, by omega, by go_num, HI2.out, MG3.out, HK2.out.drewN _⟩
            case measure => simp [intOf]; omega
      · obtain rfl : k = b := by omega
        go_wp2
        go_end0
        exact ⟨rfl, e, HM.out, HI.out, HK.out⟩
  · obtain rfl : a = b := by omega
    go_loopw [8, 9] (fun i j wr => i = .int .i64 ((a : Int) + 1) ∧ wr = w) (fun _ _ _ => 0)
    case atStart => exact ⟨rfl, rfl⟩
    case round =>
      obtain ⟨rfl, rfl⟩ := hrel
      have i1 : ¬ (a : Int) + 1 < (a : Int) := by omega
      go_wp2
      go_end0
      exact ⟨rfl, d, Merged.self (fun i j hi hij hj => by omega), H0.out, Kept.refl _ _⟩
end Go.Proofs.YtfgimhgkjodcgaaDoor

/- Walks of twice. -/
import Derived.Test.YtjgoceebjmnjcaaDoorMapW
import Derived.BigQuiet
import Derived.Deep.QuietTactic
import Derived.Laws.Tables
import Derived.Laws.Rows
import Derived.WalkKit
import Derived.WalkSpells
import Derived.Lib.Hide
import Derived.WalkLawsBesides
import Derived.Outline
import Derived.IntWalk
set_option linter.unusedVariables false
namespace Go.Proofs.YtjgoceebjmnjcaaDoor
open Go.RowKit

/-- The cells of the map of k steps. -/
def mapC (k : Nat) : Array Value := (Array.range 32).map fun j => Value.int .u32 (stpN k (2 ^ j) : Nat)
theorem mapC_size (k : Nat) : (mapC k).size = 32 := by simp [mapC]
theorem mapC_get (k j : Nat) (h : j < 32) : (mapC k)[j]? = some (.int .u32 (stpN k (2 ^ j) : Nat)) := by simp [mapC, h]
theorem mapC_one (k : Nat) : (mapC k).all (·.oneCell') = true := by
  rw [Array.all_eq_true_iff_forall_mem]
  intro v hv
  simp only [mapC, Array.mem_map] at hv
  obtain ⟨j, _, rfl⟩ := hv
  rfl
theorem mapC_eq {cs : Array Value} {k : Nat} (hs : cs.size = 32) (h : ∀ j, j < 32 → cs[j]? = some (.int .u32 (stpN k (2 ^ j) : Nat))) : cs = mapC k := by
  apply Array.ext_getElem?
  intro j
  by_cases hj : j < 32
  · rw [h j hj, mapC_get k j hj]
  · rw [Array.getElem?_eq_none (by omega), Array.getElem?_eq_none (by rw [mapC_size]; omega)]
theorem mapC_at {w : World} {b k : Nat} {t : TypeId} {fr : Nat × Nat} (h : w.heap[b]? = some (.cells (mapC k) t fr)) : MapAt w b 0 k := by
  intro j hj
  rw [cell_of_row w b (0 + j) _ _ _ h, Nat.zero_add, mapC_get k j hj]
theorem Below_setRow {B g : Nat} {a w : World} (h : Below B a w) (hg : B ≤ g) (cs : Array Value) : Below B a (w.setRow g cs) :=
  h.trans ⟨rfl, rfl, rfl, by simp, fun k hk => setRow_other w g k cs (by omega)⟩
theorem info_map : (Tryd.prog.info? 69).map (·.size) = some 32 := by kernel_rfl

set_option maxRecDepth 100000 in
set_option maxHeartbeats 1000000 in
theorem twice_any (b off k : Nat) (w : World) (hb : b < w.heap.size) (hm : MapAt w b off k) (hT : BTab w) :
    Calls Tryd.prog 42 #[.pointer (some ⟨b, off, none⟩)] w fun e w' => e = .returned (.agg (mapC (k + k))) ∧ Below w.heap.size w w' := by
  have HM := Lib.hid hm; clear hm
  have HT := Lib.hid hT; clear hT
  obtain ⟨Z, hZ, hZs⟩ : ∃ Z : Array Value, Z = #[.int .u32 0, .int .u32 0, .int .u32 0, .int .u32 0, .int .u32 0, .int .u32 0, .int .u32 0, .int .u32 0, .int .u32 0, .int .u32 0, .int .u32 0, .int .u32 0, .int .u32 0, .int .u32 0, .int .u32 0, .int .u32 0, .int .u32 0, .int .u32 0, .int .u32 0, .int .u32 0, .int .u32 0, .int .u32 0, .int .u32 0, .int .u32 0, .int .u32 0, .int .u32 0, .int .u32 0, .int .u32 0, .int .u32 0, .int .u32 0, .int .u32 0, .int .u32 0] ∧ Z.size = 32 := ⟨_, rfl, rfl⟩
  have g1 : ((w.alloc (.cells Z 69)).alloc (.cells Z 69)).heap[w.heap.size]? = some (.cells Z 69) := heap_alloc2_old _ _ _
  have g2 : ((w.alloc (.cells Z 69)).alloc (.cells Z 69)).heap[w.heap.size + 1]? = some (.cells Z 69) := heap_alloc2_new _ _ _
  have hb0 : Below w.heap.size w ((w.alloc (.cells Z 69)).alloc (.cells Z 69)) := ((Below.refl _ _).alloc (Nat.le_refl _) _).alloc (by simp) _
  have G1 := Lib.hid g1; clear g1
  have G2 := Lib.hid g2; clear g2
  have HZ := Lib.hid hZ; clear hZ
  have HZs := Lib.hid hZs; clear hZs
  have HB := Lib.hid hb
  have L0 := Lib.hid hb0; clear hb0
  go_enter Tryd.func42, Tryd.ntmps42
  go_wp2
  rw [← HZ.out]
  generalize (w.alloc (.cells Z 69)).alloc (.cells Z 69) = W2 at *
  have hR : ∃ R, R = w.heap.size := ⟨_, rfl⟩
  obtain ⟨T, hT⟩ : ∃ T, T = w.heap.size + 1 := ⟨_, rfl⟩
  rw [← hT] at G2 ⊢
  have HTT := Lib.hid hT; clear hT hR
  go_loopw [5] (fun i wr => ∃ (j : Nat) (cs : Array Value), j ≤ 32 ∧ i = .int .i64 j ∧ cs.size = 32 ∧ wr.heap[T]? = some (.cells cs 69 (0, 0)) ∧
      (∀ x, x < j → cs[x]? = some (.int .u32 (stpN (k + k) (2 ^ x) : Nat))) ∧ wr.heap[w.heap.size]? = some (.cells Z 69 (0, 0)) ∧ Below w.heap.size w wr) (fun i _ => 32 - (intOf i).toNat)
  case atStart => exact ⟨0, Z, by omega, rfl, HZs.out, G2.out, fun x hx => absurd hx (Nat.not_lt_zero _), G1.out, L0.out⟩
  case round =>
    obtain ⟨j, cs, hj, rfl, hcs, hheap, hall, hres, hbel⟩ := hrel
    have Hcs := Lib.hid hcs; clear hcs
    have Hheap := Lib.hid hheap; clear hheap
    have Hall := Lib.hid hall; clear hall
    have Hres := Lib.hid hres; clear hres
    by_cases hlt : j < 32
    · have hc1 : wr.cell? ⟨b, off + j, none⟩ = some (.int .u32 (stpN k (2 ^ j) : Nat)) := (hbel.cell (p := ⟨b, off + j, none⟩) HB.out).trans (HM.out j hlt)
      have hl := stpN_lt k (2 ^ j) (two_pow_lt j hlt)
      have C := Lib.hid (of_any b off k (stpN k (2 ^ j)) wr hl (fun x hx => (hbel.cell (p := ⟨b, off + x, none⟩) HB.out).trans (HM.out x hx)) (HT.out.below hbel))
      rw [← stpN_add] at C
      obtain ⟨old, hold⟩ : ∃ v, wr.cell? ⟨T, j, none⟩ = some v := by
        rw [cell_of_row wr T j cs _ _ Hheap.out]
        exact ⟨cs[j]'(by rw [Hcs.out]; exact hlt), by simp [Hcs.out, hlt]⟩
      have hfr := frozen_of_row wr T j cs _ Hheap.out
      generalize stpN k (2 ^ j) = y at *
      generalize hz : stpN (k + k) (2 ^ j) = z at *
      have Hz := Lib.hid hz; clear hz
      go_wp2_with fail
      refine C.out.mono ?_
      rintro e w3 ⟨n, rfl, rfl⟩
      go_wp2
      go_roundw
      case rel =>
        refine ⟨j + 1, cs.setIfInBounds j (.int .u32 z), by omega, by go_num, by simp [Hcs.out], heap_setCell_same (wr.drewN n) T j cs _ _ Hheap.out, ?_, ?_, (Below_drewN hbel n).setCell (p := ⟨T, j, none⟩) (show w.heap.size ≤ T by rw [HTT.out]; omega) _⟩
        · intro x hx
          by_cases hxj : x = j
          · subst hxj
            rw [Hz.out, Array.getElem?_setIfInBounds_self_of_lt (by rw [Hcs.out]; exact hlt)]
          · rw [Array.getElem?_setIfInBounds_ne (fun e => hxj e.symm)]
            exact Hall.out x (by omega)
        · rw [heap_setCell_other _ _ _ _ (by rw [HTT.out]; simp)]
          exact Hres.out
      case measure => simp [intOf]; omega
    · have hj32 : j = 32 := by omega
      have h32 : 32 ≤ j := by omega
      have Hm := Lib.hid (mapC_eq (k := k + k) Hcs.out (fun x hx => Hall.out x (by omega)))
      have Hj := Lib.hid hj32; clear hj32
      have hh := Hheap.out
      rw [Hm.out] at hh
      have Hh := Lib.hid hh; clear hh
      go_wp2_with (first
        | ((with_reducible refine wpList_load_row rfl 69 (.tmp 3) rfl T rfl _ (mapC (k + k)) _ _ Hh.out Tryd.underlying69 rfl (by rw [mapC_size]; exact info_map) ?_))
        | ((with_reducible refine wpList_store_row rfl 69 (.tmp 2) (.tmp 18) rfl w.heap.size (mapC (k + k)) rfl rfl _ Z Hres.out (by rw [mapC_size]; exact info_map) (by rw [mapC_size]; exact HZs.out) (mapC_one _) ?_)))
      go_wp2
      exact bodyPost_ret (v := .agg (mapC (k + k))) (results_cell_row Tryd.results42 _ _ w.heap.size _ (mapC (k + k)) _ _ rfl (setRow_heap _ _ _ _ _ _ Hres.out) Tryd.underlying69 rfl (by rw [mapC_size]; exact info_map)) rfl ⟨rfl, Below_setRow hbel (Nat.le_refl _) _⟩
end Go.Proofs.YtjgoceebjmnjcaaDoor

/- The laws' own comparison of two lists of texts; lists behind a call. -/
import Derived.Test.YtjgoceebjmnjcaaDoorRefScanW
set_option linter.unusedVariables false
namespace Go.Proofs.YtjgoceebjmnjcaaDoor
open Go.RowKit

theorem drewN_below {B n : Nat} {w : World} : Below B w (w.drewN n) := ⟨rfl, rfl, rfl, Nat.le_refl _, fun _ _ => rfl⟩
theorem str_self (l : List UInt8) : (l == l) = true := by simp
theorem OwnL.rowlt {α : Type} {enc : α → Value} {w : World} {base : Nat} {e : TypeId} {v : Value} {xs : List α} (h : OwnL enc w base e v xs) : Row enc (· < w.heap.size) w v xs := by
  obtain ⟨a, cap, hv, hc⟩ := h.row
  refine ⟨a, cap, hv, fun i hi => ?_⟩
  obtain ⟨b, off, ha, _, hcell⟩ := hc i hi
  exact ⟨b, off, ha, World.block_lt_of_cell? w _ hcell, hcell⟩

set_option maxRecDepth 100000 in
set_option maxHeartbeats 800000 in
theorem texts_same (w : World) (u v : Value) (xs : List (List UInt8)) (hu : Row encT (· < w.heap.size) w u xs) (hv : Row encT (· < w.heap.size) w v xs) (hl : xs.length ≤ 1048576) :
    Calls Tryd.prog 22 #[u, v] w fun e w' => e = .returned (.bool true) ∧ Below w.heap.size w w' := by
  rcases hu.cases with ⟨rfl, a, cap, rfl⟩ | ⟨b, off, cap, rfl, hb, hc⟩
  · obtain ⟨a2, cap2, rfl, _⟩ := hv
    go_enter Tryd.func22, Tryd.ntmps22
    go_wp2
    refine wp_loop_rounds 1 ?_
    rw [rounds_succ]
    go_wp2
    go_ret
    exact ⟨rfl, Below.refl _ _⟩
  · rcases hv.cases with ⟨rfl, a2, cap2, rfl⟩ | ⟨b2, off2, cap2, rfl, hb2, hc2⟩
    · go_enter Tryd.func22, Tryd.ntmps22
      go_wp2
      refine wp_loop_rounds 1 ?_
      rw [rounds_succ]
      go_wp2
      go_ret
      exact ⟨rfl, Below.refl _ _⟩
    · go_enter Tryd.func22, Tryd.ntmps22
      go_wp2
      go_loopw [5] (fun i wr => ∃ k : Nat, k ≤ xs.length ∧ i = .int .i64 k ∧ Below w.heap.size w wr)
        (fun i _ => xs.length - (intOf i).toNat)
      case atStart => exact ⟨0, by omega, rfl, Below.refl _ _⟩
      case round =>
        obtain ⟨k, hk, rfl, hbel⟩ := hrel
        by_cases hlt : k < xs.length
        · have h1 : wr.cell? ⟨b, off + k, none⟩ = some (.string ⟨xs[k].toArray⟩) := (hbel.cell (p := ⟨b, off + k, none⟩) hb).trans (hc k hlt)
          have h2 : wr.cell? ⟨b2, off2 + k, none⟩ = some (.string ⟨xs[k].toArray⟩) := (hbel.cell (p := ⟨b2, off2 + k, none⟩) hb2).trans (hc2 k hlt)
          have hself := str_self xs[k]
          generalize xs[k] = x at h1 h2 hself
          go_wp2
          go_quiet (fail)
          go_wp2
          go_roundw
          case rel => exact ⟨k + 1, by omega, by go_num, hbel.trans drewN_below⟩
          case measure => simp [intOf]; omega
        · go_wp2
          go_ret
          exact ⟨rfl, hbel⟩
theorem ScanM.few_all {l : List UInt8} : ∀ (f a b : Nat) (xs : List (List UInt8)), ScanM l f a b xs → (scanS l).1.length ≤ l.length := by
  intro f
  induction f with
  | zero => intro a b xs h; have := h.fuel; omega
  | succ f ih =>
    intro a b xs h
    by_cases h3 : (oneS (l.drop a)).2.2 = 3
    · rw [h.stop h3]; have := h.few; have := h.le; simp only; omega
    · by_cases h0 : (oneS (l.drop a)).2.2 = 0
      · exact ih _ _ _ (h.ok h0)
      · exact ih _ _ _ (h.miss h0 h3)
theorem scanS_few (l : List UInt8) : (scanS l).1.length ≤ l.length := ScanM.few_all _ _ _ _ (ScanM.start l)
theorem own_after {w1 w2 : World} {base : Nat} {e : TypeId} {v : Value} {xs : List (List UInt8)} (h : OwnL encT w1 base e v xs) (hb : Below w1.heap.size w1 w2) : OwnL encT w2 base e v xs :=
  own_off h (Kept.of_below hb) (fun g cur hg _ hm => absurd (Array.getElem?_eq_some_iff.1 hg).1 (by omega))
end Go.Proofs.YtjgoceebjmnjcaaDoor

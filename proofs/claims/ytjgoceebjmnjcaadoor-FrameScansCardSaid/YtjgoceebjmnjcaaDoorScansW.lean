/- The walk of the law FrameScans. -/
import Derived.Test.YtjgoceebjmnjcaaDoorRefScanW
import Derived.Test.YtjgoceebjmnjcaaDoorSumsFW
set_option linter.unusedVariables false
namespace Go.Proofs.YtjgoceebjmnjcaaDoor
open Go.RowKit

theorem drewN_below {B n : Nat} {w : World} : Below B w (w.drewN n) := ⟨rfl, rfl, rfl, Nat.le_refl _, fun _ _ => rfl⟩
theorem str_self (l : List UInt8) : (l == l) = true := by simp
theorem OwnL.rowlt {α : Type} {enc : α → Value} {w : World} {base : Nat} {e : TypeId} {v : Value} {xs : List α} (h : OwnL enc w base e v xs) : Row enc (· < w.heap.size) w v xs := by
  obtain ⟨a, cap, hv, hc⟩ := h.row
  refine ⟨a, cap, hv, fun i hi => ?_⟩
  obtain ⟨b, off, ha, _, hcell⟩ := hc i hi
  exact ⟨b, off, ha, World.block_lt_of_cell? w _ hcell, hcell⟩

set_option maxRecDepth 100000 in
set_option maxHeartbeats 800000 in
theorem texts_same (w : World) (u v : Value) (xs : List (List UInt8)) (hu : Row encT (· < w.heap.size) w u xs) (hv : Row encT (· < w.heap.size) w v xs) (hl : xs.length ≤ 1048576) :
    Calls Tryd.prog 22 #[u, v] w fun e w' => e = .returned (.bool true) ∧ Below w.heap.size w w' := by
  rcases hu.cases with ⟨rfl, a, cap, rfl⟩ | ⟨b, off, cap, rfl, hb, hc⟩
  · obtain ⟨a2, cap2, rfl, _⟩ := hv
    go_enter Tryd.func22, Tryd.ntmps22
    go_wp2
    refine wp_loop_rounds 1 ?_
    rw [rounds_succ]
    go_wp2
    go_ret
    exact ⟨rfl, Below.refl _ _⟩
  · rcases hv.cases with ⟨rfl, a2, cap2, rfl⟩ | ⟨b2, off2, cap2, rfl, hb2, hc2⟩
    · go_enter Tryd.func22, Tryd.ntmps22
      go_wp2
      refine wp_loop_rounds 1 ?_
      rw [rounds_succ]
      go_wp2
      go_ret
      exact ⟨rfl, Below.refl _ _⟩
    · go_enter Tryd.func22, Tryd.ntmps22
      go_wp2
      go_loopw [5] (fun i wr => ∃ k : Nat, k ≤ xs.length ∧ i = .int .i64 k ∧ Below w.heap.size w wr)
        (fun i _ => xs.length - (intOf i).toNat)
      case atStart => exact ⟨0, by omega, rfl, Below.refl _ _⟩
      case round =>
        obtain ⟨k, hk, rfl, hbel⟩ := hrel
        by_cases hlt : k < xs.length
        · have h1 : wr.cell? ⟨b, off + k, none⟩ = some (.string ⟨xs[k].toArray⟩) := (hbel.cell (p := ⟨b, off + k, none⟩) hb).trans (hc k hlt)
          have h2 : wr.cell? ⟨b2, off2 + k, none⟩ = some (.string ⟨xs[k].toArray⟩) := (hbel.cell (p := ⟨b2, off2 + k, none⟩) hb2).trans (hc2 k hlt)
          have hself := str_self xs[k]
          generalize xs[k] = x at h1 h2 hself
          go_wp2
          go_quiet (fail)
          go_wp2
          go_roundw
          case rel => exact ⟨k + 1, by omega, by go_num, hbel.trans drewN_below⟩
          case measure => simp [intOf]; omega
        · go_wp2
          go_ret
          exact ⟨rfl, hbel⟩
theorem ScanM.few_all {l : List UInt8} : ∀ (f a b : Nat) (xs : List (List UInt8)), ScanM l f a b xs → (scanS l).1.length ≤ l.length := by
  intro f
  induction f with
  | zero => intro a b xs h; have := h.fuel; omega
  | succ f ih =>
    intro a b xs h
    by_cases h3 : (oneS (l.drop a)).2.2 = 3
    · rw [h.stop h3]; have := h.few; have := h.le; simp only; omega
    · by_cases h0 : (oneS (l.drop a)).2.2 = 0
      · exact ih _ _ _ (h.ok h0)
      · exact ih _ _ _ (h.miss h0 h3)
theorem scanS_few (l : List UInt8) : (scanS l).1.length ≤ l.length := ScanM.few_all _ _ _ _ (ScanM.start l)
theorem own_after {w1 w2 : World} {base : Nat} {e : TypeId} {v : Value} {xs : List (List UInt8)} (h : OwnL encT w1 base e v xs) (hb : Below w1.heap.size w1 w2) : OwnL encT w2 base e v xs :=
  own_off h (Kept.of_below hb) (fun g cur hg _ hm => absurd (Array.getElem?_eq_some_iff.1 hg).1 (by omega))

set_option maxHeartbeats 400000 in
theorem frameScans_short (l : List UInt8) (w : World) (hl : l.length ≤ 2048) (ht : Tab w) (hT : BTab w) (hw : 1 < w.heap.size) :
    Calls Tryd.prog 7 #[.string ⟨l.toArray⟩] w fun e w' => e = .returned (.bool true) ∧ Below w.heap.size w w' := by
  have L := Lib.hid (show (⟨l.toArray⟩ : ByteArray).size = l.length from rfl)
  have C1 := Lib.hid (scan_go l w first_is (by omega) ht hT hw)
  have C2 := fun w => Lib.hid (refScan_go l w (by omega))
  have hx := scanS_few l
  have TS := fun w u v hu hv => Lib.hid (texts_same w u v (scanS l).1 hu hv (by omega))
  have T := Lib.hid ht
  clear ht hT hx
  generalize (scanS l).1 = r1 at *
  generalize (scanS l).2.1 = r2 at *
  generalize (scanS l).2.2 = r3 at *
  go_enter Tryd.func7, Tryd.ntmps7
  go_wp2_with fail
  refine C1.out.mono ?_
  rintro e w1 ⟨v1, rfl, ho1, hb1⟩
  go_wp2_with fail
  refine (C2 _).out.mono ?_
  rintro e w2 ⟨v2, rfl, ho2, hb2⟩
  have hb := below2 hb1 hb2
  go_wp2_with fail
  refine (TS _ _ _ (own_after ho1 hb2).rowlt ho2.rowlt).out.mono ?_
  rintro e w3 ⟨rfl, hb3⟩
  have hb' := below2 hb hb3
  go_wp2_with fail
  refine (awake_any _ (T.out.below hb')).mono ?_
  rintro e w4 ⟨rfl, rfl⟩
  go_wp2
  go_ret
  exact ⟨rfl, hb'⟩
theorem frameScans_long (l : List UInt8) (w : World) (hl : 2048 < l.length) (hl2 : l.length ≤ 140737488351232) (ht : Tab w) (hT : BTab w) (hw : 1 < w.heap.size) :
    Calls Tryd.prog 7 #[.string ⟨l.toArray⟩] w fun e w' => e = .returned (.bool true) ∧ Below w.heap.size w w' := by
  have L := Lib.hid (show (⟨l.toArray⟩ : ByteArray).size = l.length from rfl)
  have E := take_toArray l 2048
  have hm : (l.take 2048).length ≤ 2048 := List.length_take_le _ _
  have C1 := Lib.hid (scan_go (l.take 2048) w first_is (by omega) ht hT hw)
  have C2 := fun w => Lib.hid (refScan_go (l.take 2048) w (by omega))
  have hx := scanS_few (l.take 2048)
  have TS := fun w u v hu hv => Lib.hid (texts_same w u v (scanS (l.take 2048)).1 hu hv (by omega))
  have T := Lib.hid ht
  clear ht hT hx
  generalize (scanS (l.take 2048)).1 = r1 at *
  generalize (scanS (l.take 2048)).2.1 = r2 at *
  generalize (scanS (l.take 2048)).2.2 = r3 at *
  go_enter Tryd.func7, Tryd.ntmps7
  go_wp2_with fail
  refine C1.out.mono ?_
  rintro e w1 ⟨v1, rfl, ho1, hb1⟩
  go_wp2_with fail
  refine (C2 _).out.mono ?_
  rintro e w2 ⟨v2, rfl, ho2, hb2⟩
  have hb := below2 hb1 hb2
  go_wp2_with fail
  refine (TS _ _ _ (own_after ho1 hb2).rowlt ho2.rowlt).out.mono ?_
  rintro e w3 ⟨rfl, hb3⟩
  have hb' := below2 hb hb3
  go_wp2_with fail
  refine (awake_any _ (T.out.below hb')).mono ?_
  rintro e w4 ⟨rfl, rfl⟩
  go_wp2
  go_ret
  exact ⟨rfl, hb'⟩
theorem frameScans_walk (l : List UInt8) (hl : l.length ≤ 140737488351232) (w : World) (ht : Tab w) (hT : BTab w) :
    Calls Tryd.prog 7 #[.string ⟨l.toArray⟩] w fun e w' => e = .returned (.bool true) ∧ Below w.heap.size w w' := by
  by_cases h : l.length ≤ 2048
  · exact frameScans_short l w h ht hT hT.1
  · exact frameScans_long l w (by omega) hl ht hT hT.1
end Go.Proofs.YtjgoceebjmnjcaaDoor

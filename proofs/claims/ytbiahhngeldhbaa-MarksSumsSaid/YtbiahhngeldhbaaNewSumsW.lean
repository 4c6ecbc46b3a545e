/- The walk of newSums. -/
import Derived.Test.YtbiahhngeldhbaaPrimesW
import Derived.Test.YtbiahhngeldhbaaTakeW
set_option linter.unusedVariables false
namespace Go.Proofs.Ytbiahhngeldhbaa
open Go.RowKit

/-- What SHA-256 begins with, and its constants: the roots of the first primes. -/
def HL : List Nat := (PL.take 8).map fun n => bp n 2
def KL : List Nat := PL.map fun n => bp n 3
def L72 : List Nat := HL ++ KL
theorem HL_length : HL.length = 8 := by unfold HL; rw [List.length_map, List.length_take, PL_length]; rfl
theorem KL_length : KL.length = 64 := by unfold KL; rw [List.length_map, PL_length]
theorem L72_length : L72.length = 72 := by unfold L72; rw [List.length_append, HL_length, KL_length]
theorem PL_get (i : Nat) (h : i < 64) : PL[i]? = some (pr i) := by
  unfold pr
  simp [List.getD_eq_getElem?_getD, PL_length, h]
theorem L72_h (i : Nat) (h : i < 8) : L72[i]? = some (bp (pr i) 2) := by
  unfold L72
  rw [List.getElem?_append_left (by rw [HL_length]; exact h)]
  unfold HL
  rw [List.getElem?_map, List.getElem?_take_of_lt h, PL_get i (by omega)]
  rfl
theorem L72_k (i : Nat) (h : i < 64) : L72[8 + i]? = some (bp (pr i) 3) := by
  unfold L72
  rw [List.getElem?_append_right (by rw [HL_length]; omega), HL_length, Nat.add_sub_cancel_left]
  unfold KL
  rw [List.getElem?_map, PL_get i h]
  rfl
theorem KL_lt : ∀ x ∈ KL, x < 4294967296 := by
  intro x hx
  obtain ⟨n, _, rfl⟩ := List.mem_map.1 hx
  exact bp_lt n 3
def fillS (f : Nat) : List Nat := L72.take f ++ List.replicate (72 - f) 0
theorem fillS_length (f : Nat) (h : f ≤ 72) : (fillS f).length = 72 := by unfold fillS; rw [List.length_append, List.length_take, L72_length, List.length_replicate]; omega
theorem fillS_set (f x : Nat) (h : f < 72) (hx : L72[f]? = some x) : (fillS f).set f x = fillS (f + 1) := by
  unfold fillS
  have hl : (L72.take f).length = f := by rw [List.length_take, L72_length]; omega
  rw [List.set_append_right _ _ (by rw [hl]; exact Nat.le_refl _), hl, Nat.sub_self, List.take_add_one, hx, show 72 - f = (72 - (f + 1)) + 1 by omega, List.replicate_succ]
  simp
/-- The first f of the 72, and nothing behind. -/
def KAt (w : World) (kb f : Nat) : Prop := w.heap[kb]? = some (.cells (arrW (fillS f)) 63 (0, 0))
theorem KAt.old {w : World} {kb f : Nat} (h : KAt w kb f) (hf : f < 72) : ∃ old : Nat, w.cell? ⟨kb, f, none⟩ = some (.int .u32 (old : Int)) := by
  have hk' : f < (fillS f).length := by rw [fillS_length _ (by omega)]; exact hf
  refine ⟨(fillS f)[f], ?_⟩
  rw [cell_of_row _ _ _ _ _ _ h]
  exact arrW_get _ _ _ (List.getElem?_eq_getElem hk')
theorem KAt.set {w : World} {kb f x : Nat} (h : KAt w kb f) (hf : f < 72) (hx : L72[f]? = some x) : KAt (w.setCell ⟨kb, f, none⟩ (.int .u32 (x : Int))) kb (f + 1) := by
  unfold KAt
  rw [← fillS_set f x hf hx, ← arrW_set]
  exact heap_setCell_same w kb f _ _ _ h
theorem KAt.full {w : World} {kb : Nat} (h : KAt w kb 72) : SumsAt w kb HL KL := by
  have e : fillS 72 = HL ++ KL := by
    unfold fillS
    rw [List.take_of_length_le (by rw [L72_length]; exact Nat.le_refl _)]
    simp [L72]
  unfold KAt at h
  rw [e] at h
  exact h
/-- The primes in block T. -/
def PAt (w : World) (T : Nat) : Prop := w.heap[T]? = some (.cells (arrU PL) 65 (0, 0))
theorem PAt.cell {w : World} {T : Nat} (h : PAt w T) (i : Nat) (hi : i < 64) : w.cell? ⟨T, i, none⟩ = some (.int .u64 ((pr i : Nat) : Int)) := by
  rw [cell_of_row _ _ _ _ _ _ h]
  exact arrU_get _ _ _ (PL_get i hi)

theorem KAt.frozen {w : World} {kb f : Nat} (h : KAt w kb f) (k : Nat) : w.frozen? ⟨kb, k, none⟩ = false := frozen_of_row w kb k _ _ h
theorem PAt.other {w : World} {T kb k : Nat} {v : Value} (h : PAt w T) (hT : kb < T) : PAt (w.setCell ⟨kb, k, none⟩ v) T := by
  unfold PAt
  rw [heap_setCell_other _ _ _ _ (by exact Nat.ne_of_gt hT)]
  exact h
theorem zeroSums (w : World) : (zeroValue 63).run Try.prog w = .ok (.agg (arrW (List.replicate 72 0))) w := by kernel_rfl
theorem fillS_zero : fillS 0 = List.replicate 72 0 := by simp [fillS]

set_option maxRecDepth 100000 in
set_option maxHeartbeats 1000000 in
theorem newSums_any (w : World) :
    Calls Try.prog 24 #[] w fun e w' => ∃ kb, e = .returned (.pointer (some ⟨kb, 0, none⟩)) ∧ w.heap.size ≤ kb ∧ SumsAt w' kb HL KL ∧ Below w.heap.size w w' := by
  obtain ⟨Z, hZ⟩ : ∃ Z : Array Value, Z = arrW (fillS 0) := ⟨_, rfl⟩
  have ZV : ∀ w, (zeroValue 63).run Try.prog w = .ok (.agg Z) w := fun w => by rw [hZ, fillS_zero]; exact zeroSums w
  obtain ⟨Y, hY⟩ : ∃ Y : Array Value, Y = #[.int .u64 0, .int .u64 0, .int .u64 0, .int .u64 0, .int .u64 0, .int .u64 0, .int .u64 0, .int .u64 0, .int .u64 0, .int .u64 0, .int .u64 0, .int .u64 0, .int .u64 0, .int .u64 0, .int .u64 0, .int .u64 0, .int .u64 0, .int .u64 0, .int .u64 0, .int .u64 0, .int .u64 0, .int .u64 0, .int .u64 0, .int .u64 0, .int .u64 0, .int .u64 0, .int .u64 0, .int .u64 0, .int .u64 0, .int .u64 0, .int .u64 0, .int .u64 0, .int .u64 0, .int .u64 0, .int .u64 0, .int .u64 0, .int .u64 0, .int .u64 0, .int .u64 0, .int .u64 0, .int .u64 0, .int .u64 0, .int .u64 0, .int .u64 0, .int .u64 0, .int .u64 0, .int .u64 0, .int .u64 0, .int .u64 0, .int .u64 0, .int .u64 0, .int .u64 0, .int .u64 0, .int .u64 0, .int .u64 0, .int .u64 0, .int .u64 0, .int .u64 0, .int .u64 0, .int .u64 0, .int .u64 0, .int .u64 0, .int .u64 0, .int .u64 0] := ⟨_, rfl⟩
  try dsimp only at hY
  have hYs : Y.size = 64 := by rw [hY]; rfl
  have SP := Lib.hid (primes_any (w.alloc (.cells Z 63)))
  have HY := Lib.hid hY
  have HYs := Lib.hid hYs
  have K0 : KAt (w.alloc (.cells Z 63)) w.heap.size 0 := by unfold KAt; rw [← hZ]; exact heap_alloc_new _ _
  have HK0 := Lib.hid K0
  have HB0 := Lib.hid ((Below.refl w.heap.size w).alloc (Nat.le_refl _) (.cells Z 63))
  clear hZ hY hYs K0
  go_enter Try.func24, Try.ntmps24
  go_wp2_with fail
  generalize w.alloc (.cells Z 63) = W1 at *
  refine SP.out.mono ?_
  rintro e w1 ⟨rfl, hb1⟩
  obtain ⟨C, hC⟩ : ∃ C, arrU PL = C := ⟨_, rfl⟩
  have hCs : C.size = 64 := by rw [← hC, arrU_size, PL_length]
  have hC1 := arrU_one PL
  rw [hC] at hC1
  have hnew : (w1.alloc (.cells Y 65)).heap[w1.heap.size]? = some (.cells Y 65) := heap_alloc_new _ _
  have HNEW := Lib.hid hnew
  have HCs := Lib.hid hCs
  have HC1 := Lib.hid hC1
  have hks : w.heap.size < W1.heap.size := (Array.getElem?_eq_some_iff.1 HK0.out).1
  have hq1 : w.heap.size < w1.heap.size := Nat.lt_of_lt_of_le hks hb1.size
  have hb2 : Below W1.heap.size W1 ((w1.alloc (.cells Y 65)).setRow w1.heap.size C) := Below_setRow (hb1.alloc hb1.size _) hb1.size C
  have hk2 : KAt ((w1.alloc (.cells Y 65)).setRow w1.heap.size C) w.heap.size 0 := (hb2.block _ hks).trans HK0.out
  have hp2 : PAt ((w1.alloc (.cells Y 65)).setRow w1.heap.size C) w1.heap.size := by
    unfold PAt
    rw [hC]
    exact setRow_heap _ _ _ _ _ _ hnew
  have hbw : Below w.heap.size w ((w1.alloc (.cells Y 65)).setRow w1.heap.size C) := HB0.out.trans (hb2.mono (Nat.le_of_lt hks))
  have HK2 := Lib.hid hk2
  have HP2 := Lib.hid hp2
  have HBW := Lib.hid hbw
  rw [hC]
  clear hC hCs hC1 hnew hb2 hk2 hp2 hbw hb1 SP HK0 HB0
  go_wp2_with (first
    | (rw [← HY.out]; (with_reducible refine wpList_store_row rfl 65 (.tmp 2) (.tmp 5) rfl w1.heap.size C rfl rfl _ Y HNEW.out (by rw [HCs.out]; exact info_u64) (by rw [HCs.out]; exact HYs.out) HC1.out ?_)))
  obtain ⟨T, hT⟩ : ∃ T, T = w1.heap.size := ⟨_, rfl⟩
  rw [← hT] at HK2 HP2 HBW hq1
  try go_frame
  rw [← hT]
  generalize (w1.alloc (.cells Y 65)).setRow T C = W2 at *
  clear HNEW hT hks
  go_loopw [6] (fun i wr => ∃ k : Nat, k ≤ 8 ∧ i = .int .i64 k ∧ KAt wr w.heap.size k ∧ PAt wr T ∧ Below w.heap.size w wr) (fun i _ => 8 - (intOf i).toNat)
  case atStart => exact ⟨0, by decide, rfl, HK2.out, HP2.out, HBW.out⟩
  case round =>
    obtain ⟨k, hk, rfl, hka, hpa, hbe⟩ := hrel
    by_cases hlt : k < 8
    · obtain ⟨old, hold⟩ := hka.old (by omega)
      have hfr := hka.frozen k
      have hc := hpa.cell k (by omega)
      have hpb := (pr_bound k (by omega)).2
      have hx := L72_h k hlt
      generalize pr k = p at *
      have RB := fun w' => Lib.hid (show Calls Try.prog 37 #[.int .u64 p, .int .i64 2] w' _ from behindPoint_any p 2 w' (by omega) (.inl rfl))
      generalize bp p 2 = y at *
      have ki : (k : Int) < 8 := by omega
      have k0 : (0 : Int) ≤ (k : Int) := by omega
      have k64 : (k : Int) < 64 := by omega
      have HX := Lib.hid hx
      have HK := Lib.hid hka
      have HP := Lib.hid hpa
      have HB := Lib.hid hbe
      clear hx hka hpa hbe
      go_wp2_with fail
      refine (RB _).out.mono ?_
      rintro e w' ⟨rfl, m, rfl⟩
      go_wp2_with fail
      go_roundw
      case rel => exact ⟨k + 1, by omega, rfl, KAt.set (w := wr.drewN m) HK.out (by omega) HX.out, PAt.other (w := wr.drewN m) HP.out hq1, (Below_drewN HB.out m).setCell (p := ⟨w.heap.size, k, none⟩) (Nat.le_refl _) _⟩
      case measure => simp [intOf]; omega
    · have e8 : k = 8 := by omega
      rw [e8] at hka
      have HK := Lib.hid hka
      have ki : ¬ ((k : Int) < 8) := by omega
      generalize k = k8 at *
      have HP := Lib.hid hpa
      have HB := Lib.hid hbe
      clear hka hpa hbe e8
      generalize wr = W4 at *
      go_wp2_with fail
      go_loopw [17] (fun i wr => ∃ k : Nat, k ≤ 64 ∧ i = .int .i64 k ∧ KAt wr w.heap.size (8 + k) ∧ PAt wr T ∧ Below w.heap.size w wr) (fun i _ => 64 - (intOf i).toNat)
      case atStart => exact ⟨0, by decide, rfl, HK.out, HP.out, HB.out⟩
      case round =>
        obtain ⟨k, hk, rfl, hka, hpa, hbe⟩ := hrel
        by_cases hlt : k < 64
        · obtain ⟨old, hold⟩ := hka.old (by omega)
          have hfr := hka.frozen (8 + k)
          have hc := hpa.cell k (by omega)
          have hpb := (pr_bound k (by omega)).2
          have hx := L72_k k hlt
          generalize pr k = p at *
          have RB := fun w' => Lib.hid (show Calls Try.prog 37 #[.int .u64 p, .int .i64 3] w' _ from behindPoint_any p 3 w' (by omega) (.inr rfl))
          generalize bp p 3 = y at *
          have ki : (k : Int) < 64 := by omega
          have k0 : (0 : Int) ≤ (k : Int) := by omega
          have HX := Lib.hid hx
          have HK5 := Lib.hid hka
          have HP5 := Lib.hid hpa
          have HB5 := Lib.hid hbe
          clear hx hka hpa hbe
          go_wp2_with fail
          refine (RB _).out.mono ?_
          rintro e w' ⟨rfl, m, rfl⟩
          go_wp2_with fail
          go_roundw
          case rel => exact ⟨k + 1, by omega, rfl, KAt.set (w := wr.drewN m) HK5.out (by omega) HX.out, PAt.other (w := wr.drewN m) HP5.out hq1, (Below_drewN HB5.out m).setCell (p := ⟨w.heap.size, 8 + k, none⟩) (Nat.le_refl _) _⟩
          case measure => simp [intOf]; omega
        · obtain rfl : k = 64 := by omega
          have HK5 := Lib.hid hka
          have HB5 := Lib.hid hbe
          clear hka hpa hbe
          go_wp2_with fail
          go_ret
          exact ⟨w.heap.size, rfl, Nat.le_refl _, KAt.full HK5.out, HB5.out⟩
end Go.Proofs.Ytbiahhngeldhbaa

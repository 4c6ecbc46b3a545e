/- Several texts in one: SortGCW, SortGDW, SortGEW, SortGFW. -/
import Derived.Test.YtfgimhgkjodcgaaDoorFrame
import Derived.Test.YtfgimhgkjodcgaaDoorGen
import Derived.Test.YtfgimhgkjodcgaaDoorProg
import Derived.Test.YtfgimhgkjodcgaaDoorQuietBelow
import Derived.Test.YtfgimhgkjodcgaaDoorReadW
import Derived.Test.YtfgimhgkjodcgaaDoorRowN
import Derived.Test.YtfgimhgkjodcgaaDoorRows
import Derived.Test.YtfgimhgkjodcgaaDoorSoX
import Derived.Test.YtfgimhgkjodcgaaDoorTmX
import Derived.Test.YtfgimhgkjodcgaaDoorTreeMath
import Derived.BigQuiet
import Derived.Deep.QuietTactic
import Derived.Lib.Hide
import Derived.WalkKit
import Derived.WalkLawsBesides
import Derived.WalkSpells
import Derived.Test.YtfgimhgkjodcgaaDoorOwnL
import Derived.Deep.CutBlock
import Derived.Deep.CutRange
import Derived.Deep.DeepCutAuto
/- The library's stable sort of files, walked: symMerge where one piece has one number. -/
set_option linter.unusedVariables false
namespace Go.Proofs.YtfgimhgkjodcgaaDoor
open Go.RowKit

variable {F : Nat → FileD}
/-- What symMerge asks. -/
structure SymInG (F : Nat → FileD) (f : Nat) (cb : Array Value) (cv : Nat → Nat → Int) (d : Nat → Nat) (N g a m b : Nat) (w : World) : Prop where
  cm : CmpF F f cb cv N g w
  ir : FR F w g N d
  lt : ∀ k, k < N → d k < N
  s1 : Sorted (ltOf cv) d a m
  s2 : Sorted (ltOf cv) d m b
  lo : Lows d a m b
  am : a < m
  mb : m < b
  bN : b ≤ N

set_option maxRecDepth 100000 in
set_option maxHeartbeats 2000000 in
theorem sym_leftG (f : Nat) (cb : Array Value) (cv : Nat → Nat → Int) (H : SWo (ltOf cv)) (d : Nat → Nat) (N g a b c : Nat) (w : World) (hI : SymInG F f cb cv d N g a (a + 1) b w) (hN : N ≤ 1000000) :
    Calls Tryd.prog 99 #[.slice (some ⟨g, 0, none⟩) N c, .int .i64 a, .int .i64 (a + 1 : Nat), .int .i64 b, .func (.func f) #[] cb] w (SortPostG F (ltOf cv) d a b g N w) := by
  have I := Lib.hid hI
  have eg := hI.cm.1
  have hmb := hI.mb
  have hbN := hI.bN
  clear hI
  have W0 : IntKind.i64.wrap (((a + 1 : Nat) : Int) - (a : Int)) = 1 := by rw [IntWalk.i64_in _ (by omega)]; omega
  have W1 : ((a + 1 : Nat) : Int) - (a : Int) = 1 := by omega
  have W2 : (a : Int) + 1 - (a : Int) = 1 := by omega
  go_enter Tryd.func99, Tryd.ntmps99
  go_wp2_with fail
  go_loopw [10, 11, 12] (fun u v x wr => ∃ i j : Nat, a + 1 ≤ i ∧ i ≤ j ∧ j ≤ b ∧ u = .int .i64 i ∧ v = .int .i64 j ∧ FR F wr g N d ∧ Kept (· = g) w wr ∧ Hid ((∀ k, a + 1 ≤ k → k < i → ltOf cv (d k) (d a) = true) ∧ (∀ k, j ≤ k → k < b → ltOf cv (d k) (d a) = false))) (fun u v _ _ => (intOf v).toNat - (intOf u).toNat)
  case atStart => exact ⟨a + 1, b, by omega, by omega, by omega, by go_num, rfl, I.out.ir, Kept.refl _ _, Lib.hid ⟨fun k h1 h2 => by omega, fun k h1 h2 => by omega⟩⟩
  case round =>
    obtain ⟨i, j, hi, hij, hj, rfl, rfl, hir0, hkp0, HS⟩ := hrel
    have HI0 := Lib.hid hir0; clear hir0
    have HK0 := Lib.hid hkp0; clear hkp0
    by_cases hlt : i < j
    · obtain ⟨h, hh⟩ : ∃ h, h = (i + j) / 2 := ⟨_, rfl⟩
      have E : ((i : Int) + (j : Int)) / 2 = (h : Int) := by omega
      have hih : i ≤ h := by omega
      have hhj : h < j := by omega
      clear hh
      have c1 := HI0.out.c0 (show h < N by omega)
      have c1b := HI0.out.c1 (show h < N by omega)
      have c1c := HI0.out.c2 (show h < N by omega)
      have c2 := HI0.out.c0 (show a < N by omega)
      have c2b := HI0.out.c1 (show a < N by omega)
      have c2c := HI0.out.c2 (show a < N by omega)
      have CC := Lib.hid (fun n : BelowOf _ => I.out.cm.at HK0.out (I.out.lt h (by omega)) (I.out.lt a (by omega)) n)
      have i1 : (0 : Int) ≤ (h : Int) := by omega
      have i2 : (h : Int) < (N : Int) := by omega
      have i3 : (0 : Int) ≤ (a : Int) := by omega
      have i4 : (a : Int) < (N : Int) := by omega
      cases hl : ltOf cv (d h) (d a) with
      | true =>
        have HS2 := Lib.hid (show ∀ k, a + 1 ≤ k → k < h + 1 → ltOf cv (d k) (d a) = true from fun k h1 h2 => one_l_lt H I.out.s2 I.out.lo hl (by omega) h1 (by omega))
        have hb1 : decide (cv (d h) (d a) < 0) = true := hl
        clear hl
        generalize cv (d h) (d a) = v at *
        go_wp2
        have A1 := below_cell c1
        have A2 := below_cell c1b
        have A3 := below_cell c1c
        have A4 := below_cell c2
        have A5 := below_cell c2b
        have A6 := below_cell c2c
        refine wp_region_below (by kernel_rfl) (by kernel_rfl) ?_
        repeat (go_big_quiet_step ((go_at_fn f; with_reducible exact below_calls (CC.out _))))
        refine wpQuiet_nil ?_
        rintro w8 ⟨⟨w8b, hb8⟩, e8⟩
        have e8' : w8 = w8b := e8
        clear e8
        subst e8'
        have HI8 := Lib.hid (HI0.out.new hb8)
        have HK8 := Lib.hid (HK0.out.trans (Kept.new hb8 (· = g)))
        clear A1 A2 A3 A4 A5 A6 hb8
        go_wp2
        go_roundw
        case rel => exact ⟨h + 1, j, by omega, by omega, hj, by go_num, rfl, HI8.out, HK8.out, Lib.hid ⟨HS2.out, HS.out.2⟩⟩
        case measure => simp [intOf]; omega
      | false =>
        have HS2 := Lib.hid (show ∀ k, h ≤ k → k < b → ltOf cv (d k) (d a) = false from fun k h1 h2 => one_l_ge H I.out.s2 I.out.lo hl (by omega) h2 (by omega))
        have hb1 : decide (cv (d h) (d a) < 0) = false := hl
        clear hl
        generalize cv (d h) (d a) = v at *
        go_wp2
        have A1 := below_cell c1
        have A2 := below_cell c1b
        have A3 := below_cell c1c
        have A4 := below_cell c2
        have A5 := below_cell c2b
        have A6 := below_cell c2c
        refine wp_region_below (by kernel_rfl) (by kernel_rfl) ?_
        repeat (go_big_quiet_step ((go_at_fn f; with_reducible exact below_calls (CC.out _))))
        refine wpQuiet_nil ?_
        rintro w8 ⟨⟨w8b, hb8⟩, e8⟩
        have e8' : w8 = w8b := e8
        clear e8
        subst e8'
        have HI8 := Lib.hid (HI0.out.new hb8)
        have HK8 := Lib.hid (HK0.out.trans (Kept.new hb8 (· = g)))
        clear A1 A2 A3 A4 A5 A6 hb8
        go_wp2
        go_roundw
        case rel => exact ⟨i, h, by omega, by omega, by omega, rfl, rfl, HI8.out, HK8.out, Lib.hid ⟨HS.out.1, HS2.out⟩⟩
        case measure => simp [intOf]; omega
    · obtain rfl : i = j := by omega
      have MG := Lib.hid (merge_one_l H I.out.s2 I.out.lo hi hj HS.out.1 HS.out.2)
      clear HS
      obtain ⟨u, rfl⟩ : ∃ u, i = u + 1 := ⟨i - 1, by omega⟩
      have E : ((u + 1 : Nat) : Int) - 1 = (u : Int) := by omega
      have E' : (u : Int) + 1 - 1 = (u : Int) := by omega
      obtain ⟨w0, rfl⟩ : ∃ w0, w0 = wr := ⟨_, rfl⟩
      go_wp2
      go_loopw [13] (fun v wr => ∃ k : Nat, a ≤ k ∧ k ≤ u ∧ v = .int .i64 k ∧ FR F wr g N (rot d a (a + 1) (k + 1)) ∧ Kept (· = g) w wr) (fun v _ => u - (intOf v).toNat)
      case atStart => exact ⟨a, by omega, by omega, rfl, by rw [rot_right]; exact HI0.out, HK0.out⟩
      case round =>
        obtain ⟨k, hk1, hk2, rfl, hir, hkp⟩ := hrel
        have HI := Lib.hid hir; clear hir
        have HK := Lib.hid hkp; clear hkp
        by_cases hku : k < u
        · have c1 := HI.out.c0 (show k < N by omega)
          have c1b := HI.out.c1 (show k < N by omega)
          have c1c := HI.out.c2 (show k < N by omega)
          have c2 := HI.out.c0 (show k + 1 < N by omega)
          have c2b := HI.out.c1 (show k + 1 < N by omega)
          have c2c := HI.out.c2 (show k + 1 < N by omega)
          have f1 := HI.out.free (k * 3)
          have f1b := HI.out.free (k * 3 + 1)
          have f1c := HI.out.free (k * 3 + 2)
          have f2 := HI.out.free ((k + 1) * 3)
          have f2b := HI.out.free ((k + 1) * 3 + 1)
          have f2c := HI.out.free ((k + 1) * 3 + 2)
          have SW := Lib.hid (HI.out.sw (show k < N by omega) (show k + 1 < N by omega) (by omega))
          rw [sw_rot_r d hk1] at SW
          unfold setF at SW
          generalize rot d a (a + 1) (k + 1) k = x at *
          generalize rot d a (a + 1) (k + 1) (k + 1) = y at *
          have i1 : (0 : Int) ≤ (k : Int) := by omega
          have i2 : (k : Int) < (N : Int) := by omega
          have i3 : (0 : Int) ≤ (k : Int) + 1 := by omega
          have i4 : (k : Int) + 1 < (N : Int) := by omega
          have i5 : (k : Int) < (u : Int) := by omega
          have W5 : IntKind.i64.wrap ((k : Int) + 1) = (k : Int) + 1 := IntWalk.i64_in _ (by omega)
          have T1 : ((k : Int) + 1).toNat = k + 1 := by omega
          go_wp2
          go_region
          all_goals
            go_wp2
            go_roundw
            case rel => exact ⟨k + 1, by omega, by omega, by go_num, SW.out.1.drew, (HK.out.trans SW.out.2).drew⟩
            case measure => simp [intOf]; omega
        · obtain rfl : k = u := by omega
          have i5 : ¬ (k : Int) < (k : Int) := by omega
          go_wp2
          go_end0
          exact ⟨rfl, _, MG.out, HI.out, HK.out⟩
end Go.Proofs.YtfgimhgkjodcgaaDoor
/- The library's stable sort of files, walked: symMerge where the right piece has one number. -/
set_option linter.unusedVariables false
namespace Go.Proofs.YtfgimhgkjodcgaaDoor
open Go.RowKit
variable {F : Nat → FileD}

set_option maxRecDepth 100000 in
set_option maxHeartbeats 2000000 in
theorem sym_rightG (f : Nat) (cb : Array Value) (cv : Nat → Nat → Int) (H : SWo (ltOf cv)) (d : Nat → Nat) (N g a m c : Nat) (w : World) (hI : SymInG F f cb cv d N g a m (m + 1) w) (ham : m ≠ a + 1) (hN : N ≤ 1000000) :
    Calls Tryd.prog 99 #[.slice (some ⟨g, 0, none⟩) N c, .int .i64 a, .int .i64 m, .int .i64 (m + 1 : Nat), .func (.func f) #[] cb] w (SortPostG F (ltOf cv) d a (m + 1) g N w) := by
  have I := Lib.hid hI
  have eg := hI.cm.1
  have ha := hI.am
  have hbN := hI.bN
  clear hI
  have q0 : ((m : Int) - (a : Int) == 1) = false := by simp; omega
  have W1 : ((m + 1 : Nat) : Int) - (m : Int) = 1 := by omega
  have W2 : (m : Int) + 1 - (m : Int) = 1 := by omega
  clear ham
  go_enter Tryd.func99, Tryd.ntmps99
  go_wp2_with fail
  go_loopw [14, 15, 16] (fun u v x wr => ∃ i j : Nat, a ≤ i ∧ i ≤ j ∧ j ≤ m ∧ u = .int .i64 i ∧ v = .int .i64 j ∧ FR F wr g N d ∧ Kept (· = g) w wr ∧ Hid ((∀ k, a ≤ k → k < i → ltOf cv (d m) (d k) = false) ∧ (∀ k, j ≤ k → k < m → ltOf cv (d m) (d k) = true))) (fun u v _ _ => (intOf v).toNat - (intOf u).toNat)
  case atStart => exact ⟨a, m, by omega, by omega, by omega, rfl, rfl, I.out.ir, Kept.refl _ _, Lib.hid ⟨fun k h1 h2 => by omega, fun k h1 h2 => by omega⟩⟩
  case round =>
    obtain ⟨i, j, hi, hij, hj, rfl, rfl, hir0, hkp0, HS⟩ := hrel
    have HI0 := Lib.hid hir0; clear hir0
    have HK0 := Lib.hid hkp0; clear hkp0
    by_cases hlt : i < j
    · obtain ⟨h, hh⟩ : ∃ h, h = (i + j) / 2 := ⟨_, rfl⟩
      have E : ((i : Int) + (j : Int)) / 2 = (h : Int) := by omega
      have hih : i ≤ h := by omega
      have hhj : h < j := by omega
      clear hh
      have c1 := HI0.out.c0 (show h < N by omega)
      have c1b := HI0.out.c1 (show h < N by omega)
      have c1c := HI0.out.c2 (show h < N by omega)
      have c2 := HI0.out.c0 (show m < N by omega)
      have c2b := HI0.out.c1 (show m < N by omega)
      have c2c := HI0.out.c2 (show m < N by omega)
      have CC := Lib.hid (fun n : BelowOf _ => I.out.cm.at HK0.out (I.out.lt m (by omega)) (I.out.lt h (by omega)) n)
      have i1 : (0 : Int) ≤ (h : Int) := by omega
      have i2 : (h : Int) < (N : Int) := by omega
      have i3 : (0 : Int) ≤ (m : Int) := by omega
      have i4 : (m : Int) < (N : Int) := by omega
      cases hl : ltOf cv (d m) (d h) with
      | false =>
        have HS2 := Lib.hid (show ∀ k, a ≤ k → k < h + 1 → ltOf cv (d m) (d k) = false from fun k h1 h2 => one_r_le H I.out.s1 I.out.lo hl (by omega) h1 (by omega))
        have hb1 : decide (cv (d m) (d h) < 0) = false := hl
        clear hl
        generalize cv (d m) (d h) = v at *
        go_wp2
        have A1 := below_cell c1
        have A2 := below_cell c1b
        have A3 := below_cell c1c
        have A4 := below_cell c2
        have A5 := below_cell c2b
        have A6 := below_cell c2c
        refine wp_region_below (by kernel_rfl) (by kernel_rfl) ?_
        repeat (go_big_quiet_step ((go_at_fn f; with_reducible exact below_calls (CC.out _))))
        refine wpQuiet_nil ?_
        rintro w8 ⟨⟨w8b, hb8⟩, e8⟩
        have e8' : w8 = w8b := e8
        clear e8
        subst e8'
        have HI8 := Lib.hid (HI0.out.new hb8)
        have HK8 := Lib.hid (HK0.out.trans (Kept.new hb8 (· = g)))
        clear A1 A2 A3 A4 A5 A6 hb8
        go_wp2
        go_roundw
        case rel => exact ⟨h + 1, j, by omega, by omega, hj, by go_num, rfl, HI8.out, HK8.out, Lib.hid ⟨HS2.out, HS.out.2⟩⟩
        case measure => simp [intOf]; omega
      | true =>
        have HS2 := Lib.hid (show ∀ k, h ≤ k → k < m → ltOf cv (d m) (d k) = true from fun k h1 h2 => one_r_gt H I.out.s1 I.out.lo hl (by omega) h2 (by omega))
        have hb1 : decide (cv (d m) (d h) < 0) = true := hl
        clear hl
        generalize cv (d m) (d h) = v at *
        go_wp2
        have A1 := below_cell c1
        have A2 := below_cell c1b
        have A3 := below_cell c1c
        have A4 := below_cell c2
        have A5 := below_cell c2b
        have A6 := below_cell c2c
        refine wp_region_below (by kernel_rfl) (by kernel_rfl) ?_
        repeat (go_big_quiet_step ((go_at_fn f; with_reducible exact below_calls (CC.out _))))
        refine wpQuiet_nil ?_
        rintro w8 ⟨⟨w8b, hb8⟩, e8⟩
        have e8' : w8 = w8b := e8
        clear e8
        subst e8'
        have HI8 := Lib.hid (HI0.out.new hb8)
        have HK8 := Lib.hid (HK0.out.trans (Kept.new hb8 (· = g)))
        clear A1 A2 A3 A4 A5 A6 hb8
        go_wp2
        go_roundw
        case rel => exact ⟨i, h, by omega, by omega, by omega, rfl, rfl, HI8.out, HK8.out, Lib.hid ⟨HS.out.1, HS2.out⟩⟩
        case measure => simp [intOf]; omega
    · obtain rfl : i = j := by omega
      have MG := Lib.hid (merge_one_r H I.out.s1 I.out.lo hi hj HS.out.1 HS.out.2)
      clear HS
      obtain ⟨w0, rfl⟩ : ∃ w0, w0 = wr := ⟨_, rfl⟩
      go_wp2
      go_loopw [17] (fun v wr => ∃ k : Nat, i ≤ k ∧ k ≤ m ∧ v = .int .i64 k ∧ FR F wr g N (rot d k m (m + 1)) ∧ Kept (· = g) w wr) (fun v _ => (intOf v).toNat)
      case atStart => exact ⟨m, by omega, by omega, rfl, by rw [rot_left]; exact HI0.out, HK0.out⟩
      case round =>
        obtain ⟨k, hk1, hk2, rfl, hir, hkp⟩ := hrel
        have HI := Lib.hid hir; clear hir
        have HK := Lib.hid hkp; clear hkp
        by_cases hku : i < k
        · obtain ⟨u, rfl⟩ : ∃ u, k = u + 1 := ⟨k - 1, by omega⟩
          have c1 := HI.out.c0 (show u < N by omega)
          have c1b := HI.out.c1 (show u < N by omega)
          have c1c := HI.out.c2 (show u < N by omega)
          have c2 := HI.out.c0 (show u + 1 < N by omega)
          have c2b := HI.out.c1 (show u + 1 < N by omega)
          have c2c := HI.out.c2 (show u + 1 < N by omega)
          have f1 := HI.out.free (u * 3)
          have f1b := HI.out.free (u * 3 + 1)
          have f1c := HI.out.free (u * 3 + 2)
          have f2 := HI.out.free ((u + 1) * 3)
          have f2b := HI.out.free ((u + 1) * 3 + 1)
          have f2c := HI.out.free ((u + 1) * 3 + 2)
          have SW := Lib.hid (HI.out.sw (show u + 1 < N by omega) (show u < N by omega) (by omega))
          rw [sw_rot_l d hk2] at SW
          unfold setF at SW
          generalize rot d (u + 1) m (m + 1) u = x at *
          generalize rot d (u + 1) m (m + 1) (u + 1) = y at *
          have i1 : (0 : Int) ≤ (u : Int) := by omega
          have i2 : (u : Int) < (N : Int) := by omega
          have i3 : (0 : Int) ≤ (u : Int) + 1 := by omega
          have i4 : (u : Int) + 1 < (N : Int) := by omega
          have i5 : (i : Int) < (u : Int) + 1 := by omega
          have i6 : (i : Int) < ((u + 1 : Nat) : Int) := by omega
          have W5 : IntKind.i64.wrap ((u : Int) + 1 - 1) = (u : Int) := by rw [IntWalk.i64_in _ (by omega)]; omega
          have W6 : IntKind.i64.wrap (((u + 1 : Nat) : Int) - 1) = (u : Int) := by rw [IntWalk.i64_in _ (by omega)]; omega
          have W7 : (u : Int) + 1 - 1 = (u : Int) := by omega
          go_wp2
          go_region
          all_goals
            go_wp2
            go_roundw
            case rel => exact ⟨u, by omega, by omega, by go_num, SW.out.1.drew, (HK.out.trans SW.out.2).drew⟩
            case measure => simp [intOf]
        · obtain rfl : k = i := by omega
          have i5 : ¬ (k : Int) < (k : Int) := by omega
          go_wp2
          go_end0
          exact ⟨rfl, _, MG.out, HI.out, HK.out⟩
end Go.Proofs.YtfgimhgkjodcgaaDoor
/- The library's stable sort of files, walked: symMerge. -/
set_option linter.unusedVariables false
namespace Go.Proofs.YtfgimhgkjodcgaaDoor
open Go.RowKit
variable {F : Nat → FileD}

theorem SortPostG.self {cv : Nat → Nat → Int} {d : Nat → Nat} {a b g N : Nat} {w w1 : World} (hs : Sorted (ltOf cv) d a b) (hi : FR F w1 g N d) (hk : Kept (· = g) w w1) : SortPostG F (ltOf cv) d a b g N w (.returned (.tuple #[])) w1 := ⟨rfl, d, Merged.self hs, hi, hk⟩
/-- Where the search of the middle begins and ends. -/
structure MidIn (a m b md q s r : Nat) : Prop where
  ha : a ≤ s
  hsr : s ≤ r
  hrm : r ≤ m
  hmd : r ≤ md
  hlo : ∀ c, s ≤ c → c < r → m ≤ q - c ∧ q - c < b ∧ c ≤ q
  hs : s = a ∨ md + m - s = b
  hr : r = m ∨ md + m - r = m
  ht : md + m - s ≤ b

def MidRel (cv : Nat → Nat → Int) (d : Nat → Nat) (a m b md q s r : Nat) : Prop := ∃ s0 r0, MidIn a m b md q s0 r0 ∧ s0 ≤ s ∧ s ≤ r ∧ r ≤ r0 ∧ (∀ c, s0 ≤ c → c < s → ltOf cv (d (q - c)) (d c) = false) ∧ (∀ c, r ≤ c → c < r0 → ltOf cv (d (q - c)) (d c) = true)
theorem MidRel.start {cv : Nat → Nat → Int} {d : Nat → Nat} {a m b md q s r : Nat} (h : MidIn a m b md q s r) : MidRel cv d a m b md q s r := ⟨s, r, h, Nat.le_refl _, h.hsr, Nat.le_refl _, fun c h1 h2 => by omega, fun c h1 h2 => by omega⟩
theorem MidRel.range {cv : Nat → Nat → Int} {d : Nat → Nat} {a m b md q s r : Nat} (h : MidRel cv d a m b md q s r) : a ≤ s ∧ s ≤ r ∧ r ≤ m ∧ r ≤ md := by
  obtain ⟨s0, r0, hM, h1, h2, h3, _⟩ := h
  have := hM.ha; have := hM.hrm; have := hM.hmd
  omega
theorem MidRel.at {cv : Nat → Nat → Int} {d : Nat → Nat} {a m b md q s r : Nat} (h : MidRel cv d a m b md q s r) {c : Nat} (hc : s ≤ c) (hr : c < r) : a ≤ c ∧ c < m ∧ m ≤ q - c ∧ q - c < b ∧ c ≤ q := by
  obtain ⟨s0, r0, hM, h1, h2, h3, _⟩ := h
  have := hM.hlo c (by omega) (by omega)
  have := hM.ha; have := hM.hrm
  omega
section
variable {f : Nat} {cb : Array Value} {cv : Nat → Nat → Int} {d : Nat → Nat} {N g a m b md q s r c : Nat} {w : World}
theorem MidRel.ge (H : SWo (ltOf cv)) (I : SymInG F f cb cv d N g a m b w) (h : MidRel cv d a m b md q s r) (hc : s ≤ c) (hr : c < r) (hl : ltOf cv (d (q - c)) (d c) = false) : MidRel cv d a m b md q (c + 1) r := by
  have R := h.at hc hr
  obtain ⟨s0, r0, hM, h1, h2, h3, h4, h5⟩ := h
  refine ⟨s0, r0, hM, by omega, by omega, h3, fun k k1 k2 => ?_, h5⟩
  have R2 := hM.hlo k k1 (by omega)
  have := hM.ha
  exact mid_ge H I.s1 I.s2 I.lo hl (by omega) (by omega) (by omega) (by omega) (by omega) (by omega)
theorem MidRel.lt (H : SWo (ltOf cv)) (I : SymInG F f cb cv d N g a m b w) (h : MidRel cv d a m b md q s r) (hc : s ≤ c) (hr : c < r) (hl : ltOf cv (d (q - c)) (d c) = true) : MidRel cv d a m b md q s c := by
  have R := h.at hc hr
  obtain ⟨s0, r0, hM, h1, h2, h3, h4, h5⟩ := h
  refine ⟨s0, r0, hM, by omega, by omega, by omega, h4, fun k k1 k2 => ?_⟩
  have R2 := hM.hlo k (by omega) k2
  have := hM.hrm
  exact mid_lt H I.s1 I.s2 I.lo hl (by omega) (by omega) k1 (by omega) (by omega) (by omega)
/-- The middle, found. -/
structure MidOut (cv : Nat → Nat → Int) (d : Nat → Nat) (a m b md s t : Nat) : Prop where
  has : a ≤ s
  hsm : s ≤ m
  hmt : m ≤ t
  htb : t ≤ b
  hmd : md = s + (t - m)
  ht : md + (m - s) = t
  low : a < s → t < b → ltOf cv (d t) (d (s - 1)) = false
  high : s < m → m < t → ltOf cv (d (t - 1)) (d s) = true
theorem MidRel.out (h : MidRel cv d a m b md q s s) (hq : q + 1 = md + m) (hm : 0 < m) (hmb : m < b) : MidOut cv d a m b md s (md + m - s) := by
  have R := h.range
  obtain ⟨s0, r0, hM, h1, h2, h3, h4, h5⟩ := h
  have := hM.ha; have := hM.hrm; have := hM.hmd; have h6 := hM.ht; have h7 := hM.hs; have h8 := hM.hr
  refine ⟨by omega, by omega, by omega, by omega, by omega, by omega, fun k1 k2 => ?_, fun k1 k2 => ?_⟩
  · have := h4 (s - 1) (by omega) (by omega)
    rwa [show q - (s - 1) = md + m - s by omega] at this
  · have := h5 s (by omega) (by omega)
    rwa [show q - s = md + m - s - 1 by omega] at this
theorem MidOut.all (H : SWo (ltOf cv)) (I : SymInG F f cb cv d N g a m b w) {t : Nat} (h : MidOut cv d a m b md s t) :
    Sorted (ltOf cv) (rot d s m t) a s ∧ Sorted (ltOf cv) (rot d s m t) s md ∧ Lows (rot d s m t) a s md ∧ Sorted (ltOf cv) (rot d s m t) md t ∧ Sorted (ltOf cv) (rot d s m t) t b ∧ Lows (rot d s m t) md t b ∧ (∀ i j, a ≤ i → i < md → md ≤ j → j < b → Ltn (ltOf cv) (rot d s m t i) (rot d s m t j)) :=
  merge_mid H I.s1 I.s2 I.lo h.has h.hsm h.hmt h.htb h.hmd h.ht h.low h.high
theorem rot_lt (h : ∀ k, k < N → d k < N) {t : Nat} (h1 : s ≤ m) (h2 : m ≤ t) (h3 : t ≤ N) : ∀ k, k < N → rot d s m t k < N := by
  intro k hk
  unfold rot
  split
  · exact h _ (by omega)
  · split
    · exact h _ (by omega)
    · exact h _ hk
theorem Merged.lt {lt : Nat → Nat → Bool} {e : Nat → Nat} (h : Merged lt d a b e) (hd : ∀ k, k < N → d k < N) (hb : b ≤ N) : ∀ k, k < N → e k < N := by
  intro k hk
  by_cases c1 : k < a ∨ b ≤ k
  · rw [h.off k c1]; exact hd k hk
  · obtain ⟨i', h1, h2, h3⟩ := h.mem (show a ≤ k by omega) (show k < b by omega)
    rw [← h3]; exact hd i' (by omega)
end

theorem Sorted.congr {lt : Nat → Nat → Bool} {d e : Nat → Nat} {a b : Nat} (h : Sorted lt d a b) (he : ∀ k, a ≤ k → k < b → e k = d k) : Sorted lt e a b := by
  intro i j hi hij hj
  rw [he i hi (by omega), he j (by omega) hj]
  exact h i j hi hij hj
theorem Lows.congr {d e : Nat → Nat} {a m b : Nat} (h : Lows d a m b) (he : ∀ k, a ≤ k → k < b → e k = d k) (hm : m ≤ b) (ham : a ≤ m) : Lows e a m b := by
  intro i j hi him hj hjb
  rw [he i hi (by omega), he j (by omega) hjb]
  exact h i j hi him hj hjb
/-- What the two calls of itself ask, what comes of it where it isn't called. -/
theorem half1 {f : Nat} {cb : Array Value} {cv : Nat → Nat → Int} {d : Nat → Nat} {N g a m b md s t : Nat} {w w1 : World} (H : SWo (ltOf cv)) (I : SymInG F f cb cv d N g a m b w) (MO : MidOut cv d a m b md s t) (hi : FR F w1 g N (rot d s m t)) (hk : Kept (· = g) w w1) :
    (a < s ∧ s < md → SymInG F f cb cv (rot d s m t) N g a s md w1) ∧ (¬ (a < s ∧ s < md) → Merged (ltOf cv) (rot d s m t) a md (rot d s m t)) := by
  obtain ⟨A1, A2, A3, A4, A5, A6, A7⟩ := MO.all H I
  have h1 := MO.has; have h2 := MO.hsm; have h3 := MO.hmt; have h4 := MO.htb; have h5 := MO.hmd; have h6 := I.bN
  refine ⟨fun h => ⟨I.cm.on hk, hi, rot_lt I.lt h2 h3 (by omega), A1, A2, A3, h.1, h.2, by omega⟩, fun h => Merged.self ?_⟩
  by_cases e : s = a
  · rw [← e]; exact A2
  · rw [show md = s by omega]; exact A1
theorem half2 {f : Nat} {cb : Array Value} {cv : Nat → Nat → Int} {d d2 : Nat → Nat} {N g a m b md s t : Nat} {w w1 : World} (H : SWo (ltOf cv)) (I : SymInG F f cb cv d N g a m b w) (MO : MidOut cv d a m b md s t) (hm : Merged (ltOf cv) (rot d s m t) a md d2) (hi : FR F w1 g N d2) (hk : Kept (· = g) w w1) :
    (md < t ∧ t < b → SymInG F f cb cv d2 N g md t b w1) ∧ (¬ (md < t ∧ t < b) → Merged (ltOf cv) d2 md b d2) ∧ (∀ d3, Merged (ltOf cv) d2 md b d3 → Merged (ltOf cv) d a b d3) := by
  obtain ⟨A1, A2, A3, A4, A5, A6, A7⟩ := MO.all H I
  have h1 := MO.has; have h2 := MO.hsm; have h3 := MO.hmt; have h4 := MO.htb; have h5 := MO.hmd; have h6 := I.bN; have h7 := MO.ht
  have hoff : ∀ k, md ≤ k → d2 k = rot d s m t k := fun k hk => hm.off k (.inr hk)
  have B4 : Sorted (ltOf cv) d2 md t := A4.congr (fun k hk _ => hoff k hk)
  have B5 : Sorted (ltOf cv) d2 t b := A5.congr (fun k hk _ => hoff k (by omega))
  refine ⟨fun h => ⟨I.cm.on hk, hi, hm.lt (rot_lt I.lt h2 h3 (by omega)) (by omega), B4, B5, A6.congr (fun k hk _ => hoff k hk) h4 (by omega), h.1, h.2, h6⟩, fun h => Merged.self ?_, fun d3 hd3 => ?_⟩
  · by_cases e : t = md
    · rw [← e]; exact B5
    · rw [show b = t by omega]; exact B4
  · exact merge_both (by omega) (by omega) (fun k hk => by unfold rot; grind) (rot_perm d h1 h2 h3 h4) A7 hm hd3

set_option maxRecDepth 100000 in
set_option maxHeartbeats 8000000 in
theorem sym_mid (n : Nat) (f : Nat) (cb : Array Value) (cv : Nat → Nat → Int) (H : SWo (ltOf cv)) (N g c : Nat) (hN : N ≤ 1000000)
    (ih : ∀ (d : Nat → Nat) (a m b : Nat) (w : World), b - a ≤ n → SymInG F f cb cv d N g a m b w → Calls Tryd.prog 99 #[.slice (some ⟨g, 0, none⟩) N c, .int .i64 a, .int .i64 m, .int .i64 b, .func (.func f) #[] cb] w (SortPostG F (ltOf cv) d a b g N w))
    (d : Nat → Nat) (a m b : Nat) (w : World) (hn : b - a ≤ n + 1) (hI : SymInG F f cb cv d N g a m b w) (ham : m ≠ a + 1) (hmb : b ≠ m + 1) :
    Calls Tryd.prog 99 #[.slice (some ⟨g, 0, none⟩) N c, .int .i64 a, .int .i64 m, .int .i64 b, .func (.func f) #[] cb] w (SortPostG F (ltOf cv) d a b g N w) := by
  have I := Lib.hid hI
  have IH := Lib.hid ih; clear ih
  have eg := hI.cm.1
  have ha := hI.am
  have hb := hI.mb
  have hbN := hI.bN
  clear hI
  have q0 : ((m : Int) - (a : Int) == 1) = false := by simp; omega
  have q1 : ((b : Int) - (m : Int) == 1) = false := by simp; omega
  obtain ⟨md, hmd⟩ : ∃ md, md = (a + b) / 2 := ⟨_, rfl⟩
  have E1 : ((a : Int) + (b : Int)) / 2 = (md : Int) := by omega
  obtain ⟨q, hq⟩ : ∃ q, q + 1 = md + m := ⟨md + m - 1, by omega⟩
  have E2 : (md : Int) + (m : Int) - 1 = (q : Int) := by omega
  have HQ := Lib.hid hq
  have MI1 := Lib.hid (show md < m → MidIn a m b md q (md + m - b) md from fun h => ⟨by omega, by omega, by omega, by omega, fun c h1 h2 => by omega, by omega, by omega, by omega⟩)
  have MI2 := Lib.hid (show ¬ md < m → MidIn a m b md q a m from fun h => ⟨by omega, by omega, by omega, by omega, fun c h1 h2 => by omega, by omega, by omega, by omega⟩)
  have E3 : md < m → (md : Int) + (m : Int) - (b : Int) = ((md + m - b : Nat) : Int) := by omega
  have mdb : md < b := by omega
  have HMD := Lib.hid (show a < md ∧ b - md ≤ n ∧ md - a ≤ n by omega)
  clear hmd hq
  go_enter Tryd.func99, Tryd.ntmps99
  go_upto_if 140 with fail
  go_cut [20, 21] (fun u v wx => ∃ s r : Nat, u = .int .i64 s ∧ v = .int .i64 r ∧ w = wx ∧ Hid (MidRel cv d a m b md q s r))
  case first =>
    as_aux_lemma =>
      by_cases hc : md < m
      · have E4 := E3 hc
        have MR := Lib.hid (MidRel.start (cv := cv) (d := d) (MI1.out hc))
        have i0 : (md : Int) < (m : Int) := by omega
        clear E3
        generalize md + m - b = s at *
        go_wp2
        go_meet
        case rel => exact ⟨s, md, rfl, rfl, rfl, MR⟩
      · have MR := Lib.hid (MidRel.start (cv := cv) (d := d) (MI2.out hc))
        have i0 : ¬ (md : Int) < (m : Int) := by omega
        clear E3
        go_wp2
        go_meet
        case rel => exact ⟨a, m, rfl, rfl, rfl, MR⟩
  case rest =>
    as_aux_lemma =>
      obtain ⟨s, r, rfl, rfl, rfl, MR⟩ := hcut
      clear MI1 MI2 E3
      go_wp2
      go_loopw [20, 21, 23] (fun u v x wr => ∃ s r : Nat, u = .int .i64 s ∧ v = .int .i64 r ∧ FR F wr g N d ∧ Kept (· = g) w wr ∧ Hid (MidRel cv d a m b md q s r)) (fun u v _ _ => (intOf v).toNat - (intOf u).toNat)
      case atStart => exact ⟨s, r, rfl, rfl, I.out.ir, Kept.refl _ _, MR⟩
      case round =>
        clear MR
        clear s r
        obtain ⟨s, r, rfl, rfl, hir0, hkp0, MR⟩ := hrel
        have HI0 := Lib.hid hir0; clear hir0
        have HK0 := Lib.hid hkp0; clear hkp0
        by_cases hlt : s < r
        · obtain ⟨h, hh⟩ : ∃ h, h = (s + r) / 2 := ⟨_, rfl⟩
          have RG := Lib.hid MR.out.range
          have RA := Lib.hid (MR.out.at (c := h) (by omega) (by omega))
          have E4 : ((s : Int) + (r : Int)) / 2 = (h : Int) := by omega
          have hih : s ≤ h := by omega
          have hhj : h < r := by omega
          have hhN : h < N := by have := RA.out; omega
          obtain ⟨p, hp⟩ : ∃ p, p = q - h := ⟨_, rfl⟩
          have hpN : p < N := by have := RA.out; omega
          have E5 : (q : Int) - (h : Int) = (p : Int) := by have := RA.out; omega
          have W5 : IntKind.i64.wrap ((q : Int) - (h : Int)) = (p : Int) := by rw [IntWalk.i64_in _ (by omega), E5]
          have hsr : s + r ≤ N + N := by have := RG.out; omega
          have hsN : s ≤ N := by have := RG.out; omega
          have hrN : r ≤ N := by have := RG.out; omega
          have hqN : q ≤ N + N := by have := RA.out; omega
          clear hh
          have c1 := HI0.out.c0 hhN
          have c1b := HI0.out.c1 hhN
          have c1c := HI0.out.c2 hhN
          have c2 := HI0.out.c0 hpN
          have c2b := HI0.out.c1 hpN
          have c2c := HI0.out.c2 hpN
          have CC := Lib.hid (fun n : BelowOf _ => I.out.cm.at HK0.out (I.out.lt p hpN) (I.out.lt h hhN) n)
          have i1 : (0 : Int) ≤ (h : Int) := by omega
          have i2 : (h : Int) < (N : Int) := by omega
          have i3 : (0 : Int) ≤ (p : Int) := by omega
          have i4 : (p : Int) < (N : Int) := by omega
          cases hl : ltOf cv (d p) (d h) with
          | false =>
            have MR2 := Lib.hid (MR.out.ge H I.out hih hhj (by rw [← hp]; exact hl))
            have hb1 : decide (cv (d p) (d h) < 0) = false := hl
            clear hl hp
            generalize cv (d p) (d h) = v at *
            go_wp2_with fail
            have A1 := below_cell c1
            have A2 := below_cell c1b
            have A3 := below_cell c1c
            have A4 := below_cell c2
            have A5 := below_cell c2b
            have A6 := below_cell c2c
            refine wp_region_below (by kernel_rfl) (by kernel_rfl) ?_
            repeat (go_big_quiet_step ((go_at_fn f; with_reducible exact below_calls (CC.out _))))
            refine wpQuiet_nil ?_
            rintro w8 ⟨⟨w8b, hb8⟩, e8⟩
            have e8' : w8 = w8b := e8
            clear e8
            subst e8'
            have HI8 := Lib.hid (HI0.out.new hb8)
            have HK8 := Lib.hid (HK0.out.trans (Kept.new hb8 (· = g)))
            clear A1 A2 A3 A4 A5 A6 hb8
            go_wp2_with fail
            go_roundw
            case rel => exact ⟨h + 1, r, by go_num, rfl, HI8.out, HK8.out, MR2⟩
            case measure => simp [intOf]; omega
          | true =>
            have MR2 := Lib.hid (MR.out.lt H I.out hih hhj (by rw [← hp]; exact hl))
            have hb1 : decide (cv (d p) (d h) < 0) = true := hl
            clear hl hp
            generalize cv (d p) (d h) = v at *
            go_wp2_with fail
            have A1 := below_cell c1
            have A2 := below_cell c1b
            have A3 := below_cell c1c
            have A4 := below_cell c2
            have A5 := below_cell c2b
            have A6 := below_cell c2c
            refine wp_region_below (by kernel_rfl) (by kernel_rfl) ?_
            repeat (go_big_quiet_step ((go_at_fn f; with_reducible exact below_calls (CC.out _))))
            refine wpQuiet_nil ?_
            rintro w8 ⟨⟨w8b, hb8⟩, e8⟩
            have e8' : w8 = w8b := e8
            clear e8
            subst e8'
            have HI8 := Lib.hid (HI0.out.new hb8)
            have HK8 := Lib.hid (HK0.out.trans (Kept.new hb8 (· = g)))
            clear A1 A2 A3 A4 A5 A6 hb8
            go_wp2_with fail
            go_roundw
            case rel => exact ⟨s, h, rfl, rfl, HI8.out, HK8.out, MR2⟩
            case measure => simp [intOf]; omega
        · have RG := MR.out.range
          obtain rfl : s = r := by omega
          have MO := Lib.hid (MR.out.out HQ.out (by omega) hb)
          obtain ⟨t, ht⟩ : ∃ t, t = md + m - s := ⟨_, rfl⟩
          rw [← ht] at MO
          have E6 : (md : Int) + (m : Int) - (s : Int) = (t : Int) := by omega
          have htb := MO.out.htb
          have hmt := MO.out.hmt
          clear ht MR
          obtain ⟨w0, rfl⟩ : ∃ w0, w0 = wr := ⟨_, rfl⟩
          have hsm := RG.2.2.1
          have hsN : s ≤ N := by omega
          have htN : t ≤ N := by omega
          go_upto_region 39 with fail
          clear E6
          obtain ⟨B, hB⟩ : ∃ B : Bool, B = decide (s < m ∧ m < t) := ⟨_, rfl⟩
          have HB := Lib.hid hB; clear hB
          go_cut [185] (fun v wx => v = .bool B ∧ w0 = wx)
          case first =>
            as_aux_lemma =>
              by_cases k1 : s < m
              · have j1 : (s : Int) < (m : Int) := by omega
                by_cases k2 : m < t
                · have j2 : (m : Int) < (t : Int) := by omega
                  obtain rfl : B = true := by rw [HB.out]; simp [k1, k2]
                  go_wp2_with fail
                  go_meet
                  case rel => exact ⟨rfl, rfl⟩
                · have j2 : ¬ (m : Int) < (t : Int) := by omega
                  obtain rfl : B = false := by rw [HB.out]; simp [k2]
                  go_wp2_with fail
                  go_meet
                  case rel => exact ⟨rfl, rfl⟩
              · have j1 : ¬ (s : Int) < (m : Int) := by omega
                obtain rfl : B = false := by rw [HB.out]; simp [k1]
                go_wp2_with fail
                go_meet
                case rel => exact ⟨rfl, rfl⟩
          case rest =>
            as_aux_lemma =>
              obtain ⟨rfl, rfl⟩ := hcut
              go_upto_if 185 with fail
              go_cut [] (fun wx => FR F wx g N (rot d s m t) ∧ Kept (· = g) w wx)
              case first =>
                as_aux_lemma =>
                  cases B with
                  | true =>
                    have k1 := of_decide_eq_true HB.out.symm
                    have RT := Lib.hid (rotateG_any f cb d N g s m t c w0 HI0.out k1.1 k1.2 htN hN)
                    clear k1
                    go_wp2_with fail
                    refine RT.out.mono ?_
                    rintro e1 w1 ⟨rfl, hi1, hk1⟩
                    go_wp2_with fail
                    go_meet
                    case rel => exact ⟨hi1, HK0.out.trans hk1⟩
                  | false =>
                    have HR := Lib.hid (show rot d s m t = d by
                      have k1 := of_decide_eq_false HB.out.symm
                      by_cases e : s = m
                      · rw [e, rot_left]
                      · rw [show t = m by omega, rot_right])
                    go_wp2_with fail
                    go_meet
                    case rel => exact ⟨by rw [HR.out]; exact HI0.out, HK0.out⟩
              case rest =>
                as_aux_lemma =>
                  obtain ⟨hi1, hk1⟩ := hcut
                  have HI1 := Lib.hid hi1; clear hi1
                  have HK1 := Lib.hid hk1; clear hk1
                  generalize wc = w1 at *
                  have HF := Lib.hid (half1 H I.out MO.out HI1.out HK1.out)
                  clear HI0 HK0 HB B
                  go_upto_region 41 with fail
                  obtain ⟨B, hB⟩ : ∃ B : Bool, B = decide (a < s ∧ s < md) := ⟨_, rfl⟩
                  have HB := Lib.hid hB; clear hB
                  go_cut [199] (fun v wx => v = .bool B ∧ w1 = wx)
                  case first =>
                    as_aux_lemma =>
                      by_cases k1 : a < s
                      · have j1 : (a : Int) < (s : Int) := by omega
                        by_cases k2 : s < md
                        · have j2 : (s : Int) < (md : Int) := by omega
                          obtain rfl : B = true := by rw [HB.out]; simp [k1, k2]
                          go_wp2_with fail
                          go_meet
                          case rel => exact ⟨rfl, rfl⟩
                        · have j2 : ¬ (s : Int) < (md : Int) := by omega
                          obtain rfl : B = false := by rw [HB.out]; simp [k2]
                          go_wp2_with fail
                          go_meet
                          case rel => exact ⟨rfl, rfl⟩
                      · have j1 : ¬ (a : Int) < (s : Int) := by omega
                        obtain rfl : B = false := by rw [HB.out]; simp [k1]
                        go_wp2_with fail
                        go_meet
                        case rel => exact ⟨rfl, rfl⟩
                  case rest =>
                    as_aux_lemma =>
                      obtain ⟨rfl, rfl⟩ := hcut
                      go_upto_if 199 with fail
                      go_cut [] (fun wx => ∃ d2, Hid (Merged (ltOf cv) (rot d s m t) a md d2) ∧ FR F wx g N d2 ∧ Kept (· = g) w wx)
                      case first =>
                        as_aux_lemma =>
                          cases B with
                          | true =>
                            have k1 := of_decide_eq_true HB.out.symm
                            have RT := Lib.hid (IH.out _ a s md w1 (by have := HMD.out; omega) (HF.out.1 k1))
                            clear k1
                            go_wp2_with fail
                            refine RT.out.mono ?_
                            rintro e1 w2 ⟨rfl, d2, hm2, hi2, hk2⟩
                            go_wp2_with fail
                            go_meet
                            case rel => exact ⟨d2, Lib.hid hm2, hi2, HK1.out.trans hk2⟩
                          | false =>
                            have k1 := Lib.hid (HF.out.2 (of_decide_eq_false HB.out.symm))
                            go_wp2_with fail
                            go_meet
                            case rel => exact ⟨_, k1, HI1.out, HK1.out⟩
                      case rest =>
                        as_aux_lemma =>
                          obtain ⟨d2, HM2, hi2, hk2⟩ := hcut
                          have HI2 := Lib.hid hi2; clear hi2
                          have HK2 := Lib.hid hk2; clear hk2
                          generalize wc = w2 at *
                          have HG := Lib.hid (half2 H I.out MO.out HM2.out HI2.out HK2.out)
                          clear HI1 HK1 HB HF B
                          by_cases k1 : md < t
                          · have j1 : (md : Int) < (t : Int) := by omega
                            by_cases k2 : t < b
                            · have j2 : (t : Int) < (b : Int) := by omega
                              have RT := Lib.hid (IH.out _ md t b w2 (by have := HMD.out; omega) (HG.out.1 ⟨k1, k2⟩))
                              go_wp2_with fail
                              refine RT.out.mono ?_
                              rintro e1 w3 ⟨rfl, d3, hm3, hi3, hk3⟩
                              go_wp2_with fail
                              go_end0
                              exact ⟨rfl, d3, HG.out.2.2 d3 hm3, hi3, HK2.out.trans hk3⟩
                            · have j2 : ¬ (t : Int) < (b : Int) := by omega
                              have k3 := Lib.hid (HG.out.2.2 _ (HG.out.2.1 (fun h => k2 h.2)))
                              go_wp2_with fail
                              go_end0
                              exact ⟨rfl, d2, k3.out, HI2.out, HK2.out⟩
                          · have j1 : ¬ (md : Int) < (t : Int) := by omega
                            have k3 := Lib.hid (HG.out.2.2 _ (HG.out.2.1 (fun h => k1 h.1)))
                            go_wp2_with fail
                            go_end0
                            exact ⟨rfl, d2, k3.out, HI2.out, HK2.out⟩
theorem symMergeG_any (n : Nat) (f : Nat) (cb : Array Value) (cv : Nat → Nat → Int) (H : SWo (ltOf cv)) (N g c : Nat) (hN : N ≤ 1000000) :
    ∀ (d : Nat → Nat) (a m b : Nat) (w : World), b - a ≤ n → SymInG F f cb cv d N g a m b w → Calls Tryd.prog 99 #[.slice (some ⟨g, 0, none⟩) N c, .int .i64 a, .int .i64 m, .int .i64 b, .func (.func f) #[] cb] w (SortPostG F (ltOf cv) d a b g N w) := by
  induction n with
  | zero =>
    intro d a m b w hn hI
    have := hI.am; have := hI.mb
    omega
  | succ n ih =>
    intro d a m b w hn hI
    by_cases h1 : m = a + 1
    · subst h1
      exact sym_leftG f cb cv H d N g a b c w hI hN
    · by_cases h2 : b = m + 1
      · subst h2
        exact sym_rightG f cb cv H d N g a m c w hI h1 hN
      · exact sym_mid n f cb cv H N g c hN ih d a m b w hn hI h1 h2
end Go.Proofs.YtfgimhgkjodcgaaDoor
/- The library's stable sort of files, walked: stable, SortStableFunc. -/
set_option linter.unusedVariables false
namespace Go.Proofs.YtfgimhgkjodcgaaDoor
open Go.RowKit
variable {F : Nat → FileD}

/-- A piece is sorted and holds its own numbers. -/
structure OK1 (cv : Nat → Nat → Int) (e : Nat → Nat) (x y : Nat) : Prop where
  s : Sorted (ltOf cv) e x y
  o : ∀ k, x ≤ k → k < y → x ≤ e k ∧ e k < y
/-- The pieces of z that begin below A are so. -/
def Done (cv : Nat → Nat → Int) (z A N : Nat) (e : Nat → Nat) : Prop := ∀ x, z ∣ x → x < A → OK1 cv e x (min (x + z) N)
theorem OK1.congr {cv : Nat → Nat → Int} {e e' : Nat → Nat} {x y : Nat} (h : OK1 cv e x y) (he : ∀ k, x ≤ k → k < y → e' k = e k) : OK1 cv e' x y :=
  ⟨h.s.congr he, fun k h1 h2 => by rw [he k h1 h2]; exact h.o k h1 h2⟩
theorem OK1.merged {cv : Nat → Nat → Int} {e e' : Nat → Nat} {x y : Nat} (h : Merged (ltOf cv) e x y e') (ho : ∀ k, x ≤ k → k < y → x ≤ e k ∧ e k < y) : OK1 cv e' x y := by
  refine ⟨h.sorted, fun k h1 h2 => ?_⟩
  obtain ⟨k', g1, g2, g3⟩ := h.mem h1 h2
  rw [← g3]
  exact ho k' g1 g2
theorem dvd_gap {z x A : Nat} (hz : 0 < z) (hx : z ∣ x) (hA : z ∣ A) (h : x < A) : x + z ≤ A := by
  obtain ⟨p, rfl⟩ := hx
  obtain ⟨q, rfl⟩ := hA
  have : p < q := Nat.lt_of_mul_lt_mul_left h
  have h2 : z * (p + 1) ≤ z * q := Nat.mul_le_mul_left z this
  rw [Nat.mul_succ] at h2
  exact h2
theorem Done.step {cv : Nat → Nat → Int} {e e' : Nat → Nat} {z A N : Nat} (hz : 0 < z) (hA : z ∣ A) (h : Done cv z A N e) (hoff : ∀ k, k < A → e' k = e k) (hok : A < N → OK1 cv e' A (min (A + z) N)) (B : Nat) (hB : B ≤ A + z) (hBN : B ≤ N) : Done cv z B N e' := by
  intro x hx hlt
  by_cases c : x < A
  · have := dvd_gap hz hx hA c
    exact (h x hx c).congr (fun k h1 h2 => hoff k (by omega))
  · by_cases e : x = A
    · rw [e]; exact hok (by omega)
    · have := dvd_gap hz hA hx (by omega)
      omega
theorem Done.lt {cv : Nat → Nat → Int} {e : Nat → Nat} {z N : Nat} (hz : 0 < z) (h : Done cv z N N e) : ∀ k, k < N → e k < N := by
  intro k hk
  have h1 : k / z * z ≤ k := Nat.div_mul_le_self k z
  have h2 : k < k / z * z + z := by
    have := Nat.lt_div_mul_add hz (a := k)
    omega
  have := (h (k / z * z) ⟨k / z, Nat.mul_comm _ _⟩ (by omega)).o k h1 (by omega)
  omega
theorem Merged.perm_in {lt : Nat → Nat → Bool} {d e : Nat → Nat} {x y N : Nat} (h : Merged lt d x y e) (h1 : x ≤ y) (h2 : y ≤ N) : (seg e 0 N).Perm (seg d 0 N) := by
  rw [seg_append e (Nat.zero_le x) (show x ≤ N by omega), seg_append d (Nat.zero_le x) (show x ≤ N by omega)]
  have e1 : seg e 0 x = seg d 0 x := seg_congr (fun t _ ht => h.off t (.inl ht))
  rw [e1]
  exact (h.perm_wide h1 h2).append_left _
/-- The first pieces: what is still ahead is as it was. -/
structure Fst (cv : Nat → Nat → Int) (A N : Nat) (d e : Nat → Nat) : Prop where
  done : Done cv 20 A N e
  off : ∀ k, A ≤ k → k < N → e k = k
  perm : (seg e 0 N).Perm (seg d 0 N)
  all : ∀ k, k < N → e k < N
theorem Fst.step {cv : Nat → Nat → Int} {A N B : Nat} {d e e' : Nat → Nat} (h : Fst cv A N d e) (hA : 20 ∣ A) (hAN : A ≤ N) (hB : B = min (A + 20) N) (hm : Merged (ltOf cv) e A B e') : Fst cv B N d e' := by
  have hok : OK1 cv e' A B := OK1.merged hm (fun k h1 h2 => by rw [h.off k h1 (by omega)]; omega)
  refine ⟨h.done.step (by decide) hA (fun k hk => hm.off k (.inl hk)) (fun _ => by rw [← hB]; exact hok) B (by omega) (by omega), fun k h1 h2 => by rw [hm.off k (.inr h1), h.off k (by omega) h2], (hm.perm_in (by omega) (by omega)).trans h.perm, fun k hk => ?_⟩
  by_cases c : A ≤ k ∧ k < B
  · have := hok.o k c.1 c.2; omega
  · rw [hm.off k (by omega)]; exact h.all k hk
/-- Pieces of z two by two. -/
structure Snd (cv : Nat → Nat → Int) (z A N : Nat) (d e : Nat → Nat) : Prop where
  done : Done cv (2 * z) A N e
  still : ∀ x, z ∣ x → A ≤ x → x < N → OK1 cv e x (min (x + z) N)
  perm : (seg e 0 N).Perm (seg d 0 N)
  all : ∀ k, k < N → e k < N
theorem Snd.start {cv : Nat → Nat → Int} {z N : Nat} {d e : Nat → Nat} (h : Done cv z N N e) (hz : 0 < z) (hp : (seg e 0 N).Perm (seg d 0 N)) : Snd cv z 0 N d e :=
  ⟨fun x _ h => by omega, fun x hx _ hlt => h x hx hlt, hp, h.lt hz⟩
theorem Snd.sym {f : Nat} {cb : Array Value} {cv : Nat → Nat → Int} {z A N B g : Nat} {d e : Nat → Nat} {w : World} (h : Snd cv z A N d e) (hz : 0 < z) (hA : 2 * z ∣ A) (hm : A + z < N) (hB : B = min (A + 2 * z) N) (hc : CmpF F f cb cv N g w) (hi : FR F w g N e) : SymInG F f cb cv e N g A (A + z) B w := by
  have hA' : z ∣ A := Nat.dvd_trans ⟨2, Nat.mul_comm 2 z⟩ hA
  have h1 := h.still A hA' (Nat.le_refl _) (by omega)
  have h2 := h.still (A + z) ((Nat.dvd_add_iff_right hA').1 (Nat.dvd_refl z)) (by omega) hm
  rw [show min (A + z) N = A + z by omega] at h1
  rw [show min (A + z + z) N = B by omega] at h2
  exact ⟨hc, hi, h.all, h1.s, h2.s, fun i j k1 k2 k3 k4 => by have := h1.o i k1 k2; have := h2.o j k3 k4; omega, by omega, by omega, by omega⟩
theorem Snd.step {cv : Nat → Nat → Int} {z A N B : Nat} {d e e' : Nat → Nat} (h : Snd cv z A N d e) (hz : 0 < z) (hA : 2 * z ∣ A) (hAN : A ≤ N) (hB : B = min (A + 2 * z) N) (hm : Merged (ltOf cv) e A B e') : Snd cv z B N d e' := by
  have hA' : z ∣ A := Nat.dvd_trans ⟨2, Nat.mul_comm 2 z⟩ hA
  have ho : ∀ k, A ≤ k → k < B → A ≤ e k ∧ e k < B := fun k k1 k2 => by
    by_cases c : k < A + z
    · have := (h.still A hA' (Nat.le_refl _) (by omega)).o k k1 (by omega)
      omega
    · have := (h.still (A + z) ((Nat.dvd_add_iff_right hA').1 (Nat.dvd_refl z)) (by omega) (by omega)).o k (by omega) (by omega)
      omega
  have hok : OK1 cv e' A B := OK1.merged hm ho
  refine ⟨h.done.step (by omega) hA (fun k hk => hm.off k (.inl hk)) (fun _ => by rw [← hB]; exact hok) B (by omega) (by omega), fun x hx k1 k2 => (h.still x hx (by omega) k2).congr (fun k k3 k4 => hm.off k (.inr (by omega))), (hm.perm_in (by omega) (by omega)).trans h.perm, fun k hk => ?_⟩
  by_cases c : A ≤ k ∧ k < B
  · have := hok.o k c.1 c.2; omega
  · rw [hm.off k (by omega)]; exact h.all k hk
theorem Snd.last {cv : Nat → Nat → Int} {z A N : Nat} {d e : Nat → Nat} (h : Snd cv z A N d e) (hz : 0 < z) (hA : 2 * z ∣ A) (hAN : A ≤ N) (hN : N ≤ A + z) : Done cv (2 * z) N N e := by
  have hA' : z ∣ A := Nat.dvd_trans ⟨2, Nat.mul_comm 2 z⟩ hA
  refine h.done.step (by omega) hA (fun _ _ => rfl) (fun hlt => ?_) N (by omega) (Nat.le_refl _)
  have := h.still A hA' (Nat.le_refl _) hlt
  rwa [show min (A + z) N = min (A + 2 * z) N by omega] at this
/-- What the sort leaves. -/
def StablePostG (F : Nat → FileD) (cv : Nat → Nat → Int) (d : Nat → Nat) (g N : Nat) (w : World) (e : Ending) (w' : World) : Prop :=
  e = .returned (.tuple #[]) ∧ ∃ d', Sorted (ltOf cv) d' 0 N ∧ (seg d' 0 N).Perm (seg d 0 N) ∧ FR F w' g N d' ∧ Kept (· = g) w w'

set_option maxRecDepth 100000 in
set_option maxHeartbeats 4000000 in
theorem stableG_any (f : Nat) (cb : Array Value) (cv : Nat → Nat → Int) (H : SWo (ltOf cv)) (d : Nat → Nat) (N g c : Nat) (w : World) (hc : CmpF F f cb cv N g w) (h : FR F w g N d) (hd : ∀ k, k < N → d k = k) (hN : N ≤ 1000000) :
    Calls Tryd.prog 88 #[.slice (some ⟨g, 0, none⟩) N c, .int .i64 N, .func (.func f) #[] cb] w (StablePostG F cv d g N w) := by
  have H0 := Lib.hid h; clear h
  have CM := Lib.hid hc; clear hc
  have F0 := Lib.hid (show Fst cv 0 N d d from ⟨fun x _ h => by omega, fun k _ h => hd k h, List.Perm.refl _, fun k hk => by rw [hd k hk]; exact hk⟩)
  clear hd
  have INS := Lib.hid (fun (e : Nat → Nat) (A B : Nat) (W : World) (hk : Kept (· = g) w W) (hi : FR F W g N e) (hF : Fst cv A N d e) (h1 : A ≤ B) (h2 : B ≤ N) => insertionG_any f cb cv H e N g A B c W (CM.out.on hk) hi hF.all (fun i j k1 k2 k3 => by rw [hF.off i k1 (by omega), hF.off j (by omega) (by omega)]; exact k2) h1 h2 hN)
  have SYM := Lib.hid (fun (e : Nat → Nat) (z A B : Nat) (W : World) (hk : Kept (· = g) w W) (hi : FR F W g N e) (hS : Snd cv z A N d e) (hz : 0 < z) (hA : 2 * z ∣ A) (hm : A + z < N) (hB : B = min (A + 2 * z) N) => symMergeG_any (B - A) f cb cv H N g c hN e A (A + z) B W (Nat.le_refl _) (hS.sym hz hA hm hB (CM.out.on hk) hi))
  clear H
  go_enter Tryd.func88, Tryd.ntmps88
  go_wp2_with fail
  go_loopw [7, 8] (fun u v wr => ∃ (A : Nat) (e : Nat → Nat), u = .int .i64 A ∧ v = .int .i64 (A + 20 : Nat) ∧ 20 ∣ A ∧ A ≤ N ∧ FR F wr g N e ∧ Kept (· = g) w wr ∧ Hid (Fst cv A N d e)) (fun u _ _ => N - (intOf u).toNat)
  case atStart => exact ⟨0, d, rfl, rfl, ⟨0, rfl⟩, by omega, H0.out, Kept.refl _ _, F0⟩
  case round =>
    obtain ⟨A, e, rfl, rfl, hA, hAN, hir, hkp, HF⟩ := hrel
    have HI := Lib.hid hir; clear hir
    have HK := Lib.hid hkp; clear hkp
    have HA := Lib.hid hA; clear hA
    by_cases hlt : A + 20 ≤ N
    · have IN := Lib.hid (INS.out e A (A + 20) wr HK.out HI.out HF.out (by omega) hlt)
      have i1 : ((A + 20 : Nat) : Int) ≤ (N : Int) := by omega
      have i2 : (A : Int) + 20 ≤ (N : Int) := by omega
      go_wp2_with fail
      refine IN.out.mono ?_
      rintro e1 w1 ⟨rfl, e', hm, hi, hk⟩
      have HF2 := Lib.hid (HF.out.step HA.out hAN (by omega) hm)
      have HI2 := Lib.hid hi; clear hi
      have HK2 := Lib.hid (HK.out.trans hk); clear hk hm
      go_wp2_with fail
      go_roundw
      case rel => exact ⟨A + 20, e', by go_num, by go_num, Nat.dvd_add HA.out ⟨1, rfl⟩, hlt, HI2.out, HK2.out, HF2⟩
      case measure => simp [intOf]; omega
    · have IN := Lib.hid (INS.out e A N wr HK.out HI.out HF.out hAN (Nat.le_refl _))
      have i1 : ¬ ((A + 20 : Nat) : Int) ≤ (N : Int) := by omega
      have i2 : ¬ (A : Int) + 20 ≤ (N : Int) := by omega
      go_wp2_with fail
      refine IN.out.mono ?_
      rintro e1 w1 ⟨rfl, e', hm, hi, hk⟩
      have HF2 := Lib.hid (HF.out.step HA.out hAN (by omega) hm)
      have HI2 := Lib.hid hi; clear hi
      have HK2 := Lib.hid (HK.out.trans hk); clear hk hm
      go_wp2_with fail
      have HD0 := Lib.hid HF2.out.done
      have HP0 := Lib.hid HF2.out.perm
      clear HF2 HI HK HF HA IN
      go_loopw [6, 7, 8, 9] (fun z x y m wr => ∃ (s : Nat) (e : Nat → Nat), z = .int .i64 s ∧ 0 < s ∧ s ≤ N + N + 20 ∧ FR F wr g N e ∧ Kept (· = g) w wr ∧ Hid (Done cv s N N e) ∧ Hid ((seg e 0 N).Perm (seg d 0 N))) (fun z _ _ _ _ => N - (intOf z).toNat)
      case atStart => exact ⟨20, e', rfl, by decide, by omega, HI2.out, HK2.out, HD0, HP0⟩
      case round =>
        clear HD0 HP0 HI2 HK2
        obtain ⟨s, e2, rfl, hs0, hsN, hir, hkp, HD, HP⟩ := hrel
        have HI := Lib.hid hir; clear hir
        have HK := Lib.hid hkp; clear hkp
        by_cases hlt2 : s < N
        · have HS0 := Lib.hid (Snd.start HD.out hs0 HP.out)
          clear HD HP
          have i1' : (s : Int) < (N : Int) := by omega
          obtain ⟨s2, hs2⟩ : ∃ s2, s2 = 2 * s := ⟨_, rfl⟩
          have E1 : 2 * (s : Int) = (s2 : Int) := by omega
          have E2 : (s : Int) * 2 = (s2 : Int) := by omega
          have hs3 : s2 = s + s := by omega
          have HS2 := Lib.hid hs2; clear hs2
          have HS3 := Lib.hid hs3; clear hs3
          have hs2N : s2 ≤ N + N := by have := HS3.out; omega
          have hs20 : s < s2 := by have := HS3.out; omega
          obtain ⟨w0, hw0⟩ : ∃ w0, w0 = wr := ⟨_, rfl⟩
          rw [← hw0] at HI HK ⊢
          clear hw0 wr
          go_wp2_with fail
          go_loopw [7, 8] (fun u v wr => ∃ (A : Nat) (e : Nat → Nat), u = .int .i64 A ∧ v = .int .i64 (A + s2 : Nat) ∧ Hid (2 * s ∣ A) ∧ A ≤ N ∧ FR F wr g N e ∧ Kept (· = g) w wr ∧ Hid (Snd cv s A N d e)) (fun u _ _ => N - (intOf u).toNat)
          case atStart => exact ⟨0, e2, rfl, by rw [Nat.zero_add], Lib.hid ⟨0, rfl⟩, by omega, HI.out, HK.out, HS0⟩
          case round =>
            clear HI HK HS0
            obtain ⟨A, e3, rfl, hv8, HA, hAN, hir, hkp, HF⟩ := hrel
            obtain ⟨B1, hB1⟩ : ∃ B1, B1 = A + s := ⟨_, rfl⟩
            obtain ⟨B2, hB2⟩ : ∃ B2, B2 = A + s2 := ⟨_, rfl⟩
            obtain ⟨B3, hB3⟩ : ∃ B3, B3 = B2 + s2 := ⟨_, rfl⟩
            rw [← hB2] at hv8
            subst hv8
            have HI := Lib.hid hir; clear hir
            have HK := Lib.hid hkp; clear hkp
            have F1 : (B2 : Int) + (s2 : Int) = (B3 : Int) := by omega
            have F2 : (A : Int) + (s : Int) = (B1 : Int) := by omega
            have W1 : IntKind.i64.wrap ((B2 : Int) + (s2 : Int)) = (B3 : Int) := by rw [IntWalk.i64_in _ (by omega), F1]
            have W2 : IntKind.i64.wrap ((A : Int) + (s : Int)) = (B1 : Int) := by rw [IntWalk.i64_in _ (by omega), F2]
            have HBS := Lib.hid (show B1 = A + s ∧ B2 = A + s2 ∧ B3 = B2 + s2 ∧ s2 = 2 * s from ⟨hB1, hB2, hB3, HS2.out⟩)
            have hb1 : B1 ≤ N + N := by have := HS2.out; omega
            have hb3 : B3 ≤ N + N + N + N + N := by omega
            have SY1 := Lib.hid (fun (h : B2 ≤ N) => SYM.out e3 s A B2 wr HK.out HI.out HF.out hs0 HA.out (by have := HBS.out; omega) (by have := HBS.out; omega))
            have SY2 := Lib.hid (fun (h : B1 < N) (h2 : N < B2) => SYM.out e3 s A N wr HK.out HI.out HF.out hs0 HA.out (by have := HBS.out; omega) (by have := HBS.out; omega))
            rw [← hB1] at SY1 SY2
            clear hB1 hB2 hB3
            by_cases hlt3 : B2 ≤ N
            · have SY := Lib.hid (SY1.out hlt3)
              have i2' : (B2 : Int) ≤ (N : Int) := by omega
              clear SY1 SY2
              go_wp2_with fail
              refine SY.out.mono ?_
              rintro e1 w1 ⟨rfl, e', hm, hi, hk⟩
              have HF2 := Lib.hid (HF.out.step hs0 HA.out hAN (by have := HBS.out; omega) hm)
              have HI2 := Lib.hid hi; clear hi
              have HK2 := Lib.hid (HK.out.trans hk); clear hk hm
              go_wp2_with fail
              go_roundw
              case rel => exact ⟨B2, e', rfl, by have := HBS.out; rw [show B3 = B2 + s2 by omega], Lib.hid (by have h := HBS.out; rw [h.2.1, h.2.2.2]; exact Nat.dvd_add HA.out (Nat.dvd_refl _)), hlt3, HI2.out, HK2.out, HF2⟩
              case measure => have := HBS.out; simp [intOf]; omega
            · have i2' : ¬ (B2 : Int) ≤ (N : Int) := by omega
              by_cases hlt4 : B1 < N
              · have SY := Lib.hid (SY2.out hlt4 (by omega))
                have i4' : (B1 : Int) < (N : Int) := by omega
                clear SY1 SY2
                go_wp2_with fail
                refine SY.out.mono ?_
                rintro e1 w1 ⟨rfl, e', hm, hi, hk⟩
                have HF2 := Lib.hid (HF.out.step hs0 HA.out hAN (by have := HBS.out; omega) hm)
                have HI2 := Lib.hid hi; clear hi
                have HK2 := Lib.hid (HK.out.trans hk); clear hk hm
                go_wp2_with fail
                go_roundw
                case rel => exact ⟨s2, e', rfl, by omega, by omega, HI2.out, HK2.out, Lib.hid (by rw [HBS.out.2.2.2]; exact HF2.out.done), Lib.hid HF2.out.perm⟩
                case measure => simp [intOf]; omega
              · have i4' : ¬ (B1 : Int) < (N : Int) := by omega
                have HF2 := Lib.hid (HF.out.last hs0 HA.out hAN (by have := HBS.out; omega))
                clear SY1 SY2
                go_wp2_with fail
                go_roundw
                case rel => exact ⟨s2, e3, rfl, by omega, by omega, HI.out, HK.out, Lib.hid (by rw [HBS.out.2.2.2]; exact HF2.out), Lib.hid HF.out.perm⟩
                case measure => simp [intOf]; omega
        · have i1' : ¬ (s : Int) < (N : Int) := by omega
          have HS := Lib.hid (show Sorted (ltOf cv) e2 0 N by
            by_cases c : 0 < N
            · have := (HD.out 0 ⟨0, rfl⟩ c).s
              rwa [show min (0 + s) N = N by omega] at this
            · intro i j h1 h2 h3; omega)
          go_wp2_with fail
          go_end0
          exact ⟨rfl, e2, HS.out, HP.out, HI.out, HK.out⟩

set_option maxRecDepth 100000 in
theorem sortStableG_any (f : Nat) (cb : Array Value) (cv : Nat → Nat → Int) (H : SWo (ltOf cv)) (d : Nat → Nat) (N g c : Nat) (w : World) (hc : CmpF F f cb cv N g w) (h : FR F w g N d) (hd : ∀ k, k < N → d k = k) (hN : N ≤ 1000000) :
    Calls Tryd.prog 72 #[.slice (some ⟨g, 0, none⟩) N c, .func (.func f) #[] cb] w (StablePostG F cv d g N w) := by
  have ST := Lib.hid (stableG_any f cb cv H d N g c w hc h hd hN)
  clear hc h hd H
  go_enter Tryd.func72, Tryd.ntmps72
  go_wp2_with fail
  refine ST.out.mono ?_
  rintro e w1 ⟨rfl, h⟩
  go_wp2_with fail
  go_end0
  exact ⟨rfl, h⟩
end Go.Proofs.YtfgimhgkjodcgaaDoor

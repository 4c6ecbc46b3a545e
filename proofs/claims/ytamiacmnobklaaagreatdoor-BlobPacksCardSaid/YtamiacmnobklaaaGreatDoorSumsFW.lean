/- The walk of first. -/
import Derived.Test.YtamiacmnobklaaaGreatDoorSmX
import Derived.Test.YtamiacmnobklaaaGreatDoorCrX
import Derived.Test.YtamiacmnobklaaaGreatDoorFrame
import Derived.Test.YtamiacmnobklaaaGreatDoorFrmShelf
import Derived.Test.YtamiacmnobklaaaGreatDoorGen
import Derived.Test.YtamiacmnobklaaaGreatDoorInfos
import Derived.Test.YtamiacmnobklaaaGreatDoorMpX
import Derived.Test.YtamiacmnobklaaaGreatDoorOwnL
import Derived.Test.YtamiacmnobklaaaGreatDoorQuietLaw
import Derived.Test.YtamiacmnobklaaaGreatDoorRows
import Derived.BigQuiet
import Derived.BigRegion
import Derived.Deep.AppendLies
import Derived.Deep.CutBlock
import Derived.Deep.DeepCutAuto
import Derived.Deep.QuietTactic
import Derived.Deep.RegionHeld3
import Derived.Deep.RegionLaw
import Derived.IntWalk
import Derived.Laws.BitsAllLaws
import Derived.Laws.Rows
import Derived.Laws.Tables
import Derived.Lib.Hide
import Derived.Lib.TrailingZeros
import Derived.Outline
import Derived.WalkKit
import Derived.WalkLawsBesides
import Derived.WalkSpells
set_option linter.unusedVariables false
namespace Go.Proofs.YtamiacmnobklaaaGreatDoor
open Go.RowKit

set_option maxRecDepth 100000 in
set_option maxHeartbeats 4000000 in
theorem first_any (base S n kb cap : Nat) (l : List UInt8) (zv : Value) (K : List Nat) (w : World) (hl : l.length ≤ 1000000) (hn : n ≤ l.length) (h : SumsAt w base S l kb cap zv K) (hb : 0 < base) (hbase : base ≤ w.heap.size) (ht : Tab w) :
    Calls Tryz.prog 116 #[.pointer (some ⟨S, 0, none⟩), .int .i64 n] w fun e w' => ∃ kb' cap' K', e = .returned (.int .i64 (sumS (l.take n) : Nat)) ∧
      SumsAt w' base S l kb' cap' zv K' ∧ (kb' = kb ∨ w.heap.size ≤ kb') ∧ Kept (SK S kb) w w' := by
  obtain ⟨i0, hi0, hz0, hz1, hz2⟩ := info_parts info_i64
  obtain ⟨q0, hq0⟩ : ∃ q, K.length = q + 1 := ⟨K.length - 1, by have := h.good.1; omega⟩
  have hqb : 64 * q0 ≤ l.length := by have := h.good.2.1; omega
  have H := Lib.hid h
  have HT := Lib.hid ht; clear ht
  have c1 : w.cell? ⟨S, 1, none⟩ = some (.slice (some ⟨kb, 0, none⟩) K.length cap) := by rw [cell_of_row _ _ _ _ _ _ h.heap]; rfl
  rw [hq0] at c1
  clear h
  have HQ0 := Lib.hid hq0; clear hq0
  go_enter Tryz.func116, Tryz.ntmps116
  go_wp2
  clear c1
  go_loopw [5] (fun v wr => ∃ (q kb' cap' : Nat) (K' : List Nat), v = .int .i64 q ∧ K'.length = q + 1 ∧ SumsAt wr base S l kb' cap' zv K' ∧ (kb' = kb ∨ w.heap.size ≤ kb') ∧ Kept (SK S kb) w wr) (fun v _ => n / 64 - (intOf v).toNat)
  case atStart => exact ⟨q0, kb, cap, K, rfl, HQ0.out, H.out, .inl rfl, Kept.refl _ _⟩
  case round =>
    clear hqb
    obtain ⟨q, kb', cap', K', rfl, hq, hs, hkb, hk⟩ := hrel
    have hqb : 64 * q ≤ l.length := by have := hs.good.2.1; omega
    have d0 : wr.cell? ⟨S, 0, none⟩ = some (.string ⟨l.toArray⟩) := by rw [cell_of_row _ _ _ _ _ _ hs.heap]; rfl
    have d1 : wr.cell? ⟨S, 1, none⟩ = some (.slice (some ⟨kb', 0, none⟩) K'.length cap') := by rw [cell_of_row _ _ _ _ _ _ hs.heap]; rfl
    have f1 : wr.frozen? ⟨S, 1, none⟩ = false := frozen_of_row wr S 1 _ _ hs.heap
    rw [hq] at d1
    have hkbS := hs.kb_at
    have Tr := Lib.hid (HT.out.kept hk (base := base) (by rintro k (rfl | rfl); exact hs.at'; exact H.out.kb_at.1) hb)
    have HS := Lib.hid hs; clear hs
    have HK := Lib.hid hk; clear hk
    have HQ := Lib.hid hq; clear hq
    have HKB := Lib.hid hkb; clear hkb
    by_cases hlt : q < n / 64
    · have d2 := HS.out.get q (by rw [HQ.out]; omega)
      have hlt2 : (q : Int) < (n : Int) / 64 := by omega
      obtain ⟨lo, hlo⟩ : ∃ a, a = 64 * q := ⟨_, rfl⟩
      obtain ⟨hi, hhi⟩ : ∃ a, a = 64 * (q + 1) := ⟨_, rfl⟩
      obtain ⟨q1, hq1⟩ : ∃ a, a = q + 1 := ⟨_, rfl⟩
      have B1 : (lo : Int) ≤ (hi : Int) := by omega
      have B2 : (hi : Int) ≤ (l.length : Int) := by omega
      have B3 : (0 : Int) ≤ (lo : Int) := by omega
      have B4 : (0 : Int) ≤ (q : Int) := by omega
      have B5 : (q : Int) < (q : Int) + 1 := by omega
      have W1 : IntKind.i64.wrap ((q : Int) * 64) = (lo : Int) := by rw [IntWalk.i64_in _ (by omega)]; omega
      have W2 : IntKind.i64.wrap ((q : Int) + 1) = (q1 : Int) := by rw [IntWalk.i64_in _ (by omega)]; omega
      have W3 : IntKind.i64.wrap ((q1 : Int) * 64) = (hi : Int) := by rw [IntWalk.i64_in _ (by omega)]; omega
      have E := slice_toArray l lo hi
      have hlen : ((l.take hi).drop lo).length ≤ 140737488351232 := by simp; omega
      have C := fun w' ht => Lib.hid (add_any (sumS (l.take (64 * q)) : Nat) (sumS (l.take (64 * q))) ((l.take hi).drop lo) w' (by have := sumS_lt (l.take (64 * q)); omega) (sumS_lt _) hlen ht)
      rw [← hlo] at C d2
      rw [sum_piece l lo hi (by omega)] at C
      have Hg := Lib.hid (HS.out.good.next q HQ.out (by omega))
      rw [← hhi] at Hg
      have HQ1 := Lib.hid hq1
      have hqk : q < K'.length := by rw [HQ.out]; omega
      have hKq : (K'.map encN)[q]? = some (.int .i64 (sumS (l.take lo) : Nat)) := by
        rw [List.getElem?_map, List.getElem?_eq_getElem hqk, HS.out.good.2.2 q hqk, ← hlo]; rfl
      have HKq := Lib.hid hKq; clear hKq hqk
      clear hlo hhi hq1
      generalize (l.take hi).drop lo = m at *
      generalize sumS (l.take lo) = y at *
      generalize sumS (l.take hi) = z at *
      have hown := HS.out.own
      unfold OwnL at hown
      rw [HQ.out] at hown
      have Hown := Lib.hid hown; clear hown
      have hbw : base ≤ wr.heap.size := Nat.le_trans hbase HK.out.size
      have hr1 : (some kb' : Option Nat) ≠ some S := by simp only [ne_eq, Option.some.injEq]; exact hkbS.2.2
      have hr2 : (some kb' : Option Nat) ≠ some 0 := by simp only [ne_eq, Option.some.injEq]; omega
      have Hi := Lib.hid hi0; clear hi0
      have Z0 := Lib.hid hz0; clear hz0
      have Z1 := Lib.hid hz1; clear hz1
      have Z2 := Lib.hid hz2; clear hz2
      have CW := C wr.drew (show Tab wr.drew from Tr.out)
      have AW := ((Hown.out.alloc (.cells #[.int .i64 z] 3)).drew)
      have d1a := cell_alloc d1 (.cells #[.int .i64 z] 3)
      have AN : ∀ j u, [Value.int .i64 (z : Nat)][j]? = some u → (wr.alloc (.cells #[.int .i64 z] 3)).drew.cell? ((⟨wr.heap.size, 0, none⟩ : Addr).add j) = some u := World.news_of_block (cs := #[.int .i64 z]) (t := 3) (fr := (0, 0)) (heap_alloc_new wr (.cells #[.int .i64 z] 3))
      have HAW := Lib.hid AW; clear AW
      have HAN := Lib.hid AN; clear AN C
      go_upto_block 1 with fail
      go_cut [] (fun wx => ∃ gg cap2, (K' ++ [z]).length = q + 1 + 1 ∧ SumsAt wx base S l gg cap2 zv (K' ++ [z]) ∧ (gg = kb ∨ w.heap.size ≤ gg) ∧ Kept (SK S kb) w wx)
      case first =>
        go_wp2
        go_region_law (first
            | (go_simp; go_at_call 113; refine CW.out.mono ?_; rintro e w' ⟨rfl, rfl⟩)
            | ((with_reducible refine step_append_keep (o := ⟨some 42, _, _, _, _, _⟩) (wr.alloc (.cells #[.int .i64 z] 3)).drew rfl (.tmp 22) (.tmp 41) 156 rfl base 3 i0 _ 8 Tryz.underlying156 Hi.out Z0.out Z1.out Z2.out rfl kb' (q + 1) cap' (K'.map encN) ?ev HAW.out ⟨wr.heap.size, 0, none⟩ 1 1 [.int .i64 z] ?ex rfl HAN.out ?oc (Nat.succ_pos 0) ?l1 ?l2 ?l3 (wr.heap.size + 1) ?l4 ?_)
               case ev => simp [Act.eval]
               case ex => simp [Act.eval]
               case oc => simp [Value.oneCell']
               case l1 => unfold maxLen; omega
               case l2 => omega
               case l3 => simp; omega
               case l4 => simp
               intro gg cap2 w2 hown2 hgrow hat hgl hkeep
               have e1 := cell_grown (w := (wr.alloc (.cells #[.int .i64 z] 3)).drew) (cell_drew (cell_alloc d1 _)) hgrow hr1
               have e2 := frozen_grown (w := (wr.alloc (.cells #[.int .i64 z] 3)).drew) (cell_drew (cell_alloc d1 _)) (frozen_drew (frozen_alloc d1 f1 _)) hgrow hr1
               have Hown2 := Lib.hid hown2; clear hown2
               have Hkeep := Lib.hid hkeep; clear hkeep
               have Hgrow := Lib.hid hgrow; clear hgrow))
        all_goals
          go_wp2_with fail
          go_meet
          exact ⟨gg, cap2, sums_rel HQ.out (sums_next HS.out HQ.out Hg.out Hown2.out Hgrow.out hat) hat HKB.out HK.out⟩
      case rest =>
        obtain ⟨gg, cap2, hcut⟩ := hcut
        have HC := Lib.hid hcut; clear hcut W1 W2 W3
        go_wp2
        go_roundw
        case rel => exact ⟨q + 1, gg, cap2, K' ++ [z], by go_num, HC.out⟩
        case measure => simp [intOf]; omega
    · have hnq : n / 64 ≤ q := by omega
      have hlt3 : ¬ (q : Int) < (n : Int) / 64 := by omega
      have d2 := HS.out.get (n / 64) (by rw [HQ.out]; omega)
      obtain ⟨d, hd⟩ : ∃ a, a = n / 64 := ⟨_, rfl⟩
      obtain ⟨lo, hlo⟩ : ∃ a, a = 64 * d := ⟨_, rfl⟩
      rw [← hd] at d2
      have E := slice_toArray l lo n
      have hlen : ((l.take n).drop lo).length ≤ 140737488351232 := by simp; omega
      have C := fun w' ht => Lib.hid (add_any (sumS (l.take (64 * d)) : Nat) (sumS (l.take (64 * d))) ((l.take n).drop lo) w' (by have := sumS_lt (l.take (64 * d)); omega) (sumS_lt _) hlen ht)
      rw [← hlo] at C d2
      rw [sum_piece l lo n (by omega)] at C
      have e1 : (n : Int) / 64 = (d : Int) := by omega
      have e2 : (n : Int).tdiv 64 = (d : Int) := by rw [Int.tdiv_eq_ediv_of_nonneg (by omega)]; omega
      have e3 : IntKind.i64.wrap (d : Int) = (d : Int) := IntWalk.i64_in _ (by omega)
      have e4 : IntKind.i64.wrap ((d : Int) * 64) = (lo : Int) := by rw [IntWalk.i64_in _ (by omega)]; omega
      have B1 : (0 : Int) ≤ (d : Int) := by omega
      have B2 : (d : Int) < (q : Int) + 1 := by omega
      have B3 : (lo : Int) ≤ (n : Int) := by omega
      have B4 : (n : Int) ≤ (l.length : Int) := by omega
      have B5 : (0 : Int) ≤ (lo : Int) := by omega
      have B6 : (0 : Int) ≤ (n : Int) := by omega
      have B7 : ¬ (q : Int) < (d : Int) := by omega
      have CW := fun m => C (wr.drewN m) (Tr.out.drewN m)
      clear hlo hd C
      generalize (l.take n).drop lo = m at *
      generalize sumS (l.take lo) = y at *
      go_wp2
      go_quiet ((go_at_call 113; exact quiet_left (CW _).out))
      go_wp2
      go_ret
      exact ⟨kb', cap', K', rfl, HS.out.drewN _, HKB.out, HK.out.trans ((Kept.refl _ _).drewN _)⟩

theorem first_is : FirstSpec := fun base S n kb cap l zv K w hl hn h hb hbase ht => first_any base S n kb cap l zv K w hl hn h hb hbase ht
end Go.Proofs.YtamiacmnobklaaaGreatDoor

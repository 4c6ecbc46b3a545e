/- Landed tree: Check, walked. -/
import Derived.Test.YtkfkfpfnpfpkaaaDoorArgTree
import Derived.Test.YtkfkfpfnpfpkaaaDoorFrame
import Derived.Test.YtkfkfpfnpfpkaaaDoorGen
import Derived.Test.YtkfkfpfnpfpkaaaDoorOwnL
import Derived.Test.YtkfkfpfnpfpkaaaDoorPthX
import Derived.Test.YtkfkfpfnpfpkaaaDoorProg
import Derived.Test.YtkfkfpfnpfpkaaaDoorReadW
import Derived.Test.YtkfkfpfnpfpkaaaDoorRefCheckW
import Derived.Test.YtkfkfpfnpfpkaaaDoorRowN
import Derived.Test.YtkfkfpfnpfpkaaaDoorRows
import Derived.Test.YtkfkfpfnpfpkaaaDoorShelf
import Derived.Test.YtkfkfpfnpfpkaaaDoorTogTW
import Derived.Test.YtkfkfpfnpfpkaaaDoorTreeMath
import Derived.BigQuiet
import Derived.BigRegion
import Derived.Deep.Cut
import Derived.Deep.CutRange
import Derived.Deep.DeepCutAuto
import Derived.Deep.QuietTactic
import Derived.Deep.RegionHeld
import Derived.Laws.RangeAny
import Derived.Lib.Hide
import Derived.LoopIn
import Derived.LoopNIn
import Derived.LoopTactic
import Derived.OwnWalkIn
import Derived.RangeFuncBound
import Derived.RangeFuncCalls
import Derived.RangeFuncLeaves
import Derived.RangeFuncNested
import Derived.Shelf.Abstract
import Derived.Shelf.RegionOpen
import Derived.TacticsInMore
import Derived.WalkKit
import Derived.WalkLawsBesides
import Derived.WalkSpells
set_option linter.unusedVariables false
namespace Go.Proofs.YtkfkfpfnpfpkaaaDoor
open Go.RowKit

theorem measS_file (x : FileD) : measS x.mode x.data.length = fileE x := by
  unfold measS fileE
  by_cases h : x.mode < 0 ∨ 511 < x.mode
  · rw [if_pos h, if_pos h]
  · rw [if_neg h, if_neg h]
    by_cases h2 : 65536 < x.data.length
    · rw [if_pos (by omega), if_pos h2]
    · rw [if_neg (by omega), if_neg h2]
set_option maxRecDepth 100000 in
theorem checkPath_any (bx g o n c : Nat) (x : FileD) (i : Nat) (w : World) (hb : w.cell? ⟨bx, 0, none⟩ = some (.slice (some ⟨g, o, none⟩) n c)) (hi : i < n) (hn : n ≤ 1000000) (hel : ElAt encF w g (o + i * 3) x) :
    Calls Tryd.prog 51 #[.int .i64 i, .pointer (some ⟨bx, 0, none⟩)] w fun e w' => e = .returned (.string ⟨x.path.toArray⟩) ∧ w' = w := by
  have c0 := hel.f0
  have j1 : (i : Int) < (n : Int) := by omega
  clear hel
  go_enter Tryd.func51, Tryd.ntmps51
  go_wp2_with fail
  go_ret
  exact ⟨rfl, rfl⟩
set_option maxRecDepth 100000 in
set_option maxHeartbeats 1000000 in
theorem check_any (v : Value) (xs : List FileD) (w : World) (hrow : RowN encF 3 (fun _ => True) w v xs) (hok : ∀ x ∈ xs, FileOk x) (hl : xs.length ≤ 1000000) :
    Calls Tryd.prog 19 #[v] w fun e w' => e = .returned (.int .i64 (checkS xs)) ∧ Below w.heap.size w w' := by
  obtain ⟨va, vc, hv, _⟩ := hrow.slice
  subst hv
  have HOK := Lib.hid hok
  have HCS := Lib.hid (show (if togS (xs.map (·.path)) ≠ 0 then togS (xs.map (·.path)) else firstE fileE (xs.drop 0)) = checkS xs from rfl)
  generalize checkS xs = res at *
  have B0 := Lib.hid ((Below.refl w.heap.size w).alloc (Nat.le_refl _) (.cells #[.slice va xs.length vc] 29))
  have HRO := Lib.hid (hrow.keep B0.out)
  have C0 := Lib.hid (cell1 w (.slice va xs.length vc) 29)
  have hpl : (xs.map (·.path)).length = xs.length := List.length_map _
  have TG := Lib.hid (fun w1 (hw : w1 = w.alloc (.cells #[.slice va xs.length vc] 29)) => by
    subst hw
    have h := together_any 51 #[.pointer (some ⟨w.heap.size, 0, none⟩)] (xs.map (·.path)) (w.alloc (.cells #[.slice va xs.length vc] 29)) (enters_of Tryd.func51 (by kernel_rfl) rfl)
      (fun i hi w' hb => by
        have hi' : i < xs.length := by rw [← hpl]; exact hi
        obtain ⟨g, o, hva, hel⟩ := HRO.out.el hi'
        have hc := (hb.cell (p := ⟨w.heap.size, 0, none⟩) (by simp)).trans C0.out
        rw [hva] at hc
        have := checkPath_any w.heap.size g o xs.length vc xs[i] i w' hc hi' hl ((hel i hi').new hb)
        rw [List.getElem_map]
        exact this)
      (fun x hx => by obtain ⟨y, hy, rfl⟩ := List.mem_map.1 hx; exact (HOK.out y hy).p) (by rw [hpl]; exact hl)
    rw [hpl] at h
    exact h)
  clear hrow hok hpl
  go_enter Tryd.func19, Tryd.ntmps19
  go_wp2_with fail
  have T1 := Lib.hid (TG.out _ rfl)
  refine T1.out.mono ?_
  rintro e w1 ⟨rfl, hb1⟩
  have HB1 := Lib.hid (B0.out.trans (hb1.mono (by have := B0.out.size; omega)))
  have c1 := (hb1.cell (p := ⟨w.heap.size, 0, none⟩) (by simp)).trans C0.out
  have HRN := Lib.hid (HRO.out.keep hb1)
  clear hb1 TG T1 B0 HRO C0
  by_cases ht : togS (xs.map (·.path)) = 0
  · have q1 : (togS (xs.map (·.path)) != 0) = false := by rw [ht]; rfl
    rw [if_neg (by rw [ht]; simp)] at HCS
    generalize togS (xs.map (·.path)) = te at *
    clear ht
    go_wp2_with fail
    clear c1 q1
    go_loopw [16] (fun v16 wr => ∃ k : Nat, k ≤ xs.length ∧ v16 = .int .i64 k ∧ Hid (firstE fileE (xs.drop k) = res) ∧ Below w1.heap.size w1 wr) (fun v16 _ => xs.length - (intOf v16).toNat)
    case atStart => exact ⟨0, by omega, rfl, HCS, Below.refl _ _⟩
    case round =>
      clear HCS
      obtain ⟨k, hk, rfl, HA, hbel⟩ := hrel
      have HB := Lib.hid hbel
      clear hbel
      have k0 : (0 : Int) ≤ (k : Int) := by omega
      by_cases hlk : k < xs.length
      · have m1 : (k : Int) < (xs.length : Int) := by omega
        have HT := Lib.hid (firstE_at fileE xs k hlk)
        obtain ⟨g, o, rfl, hel⟩ := HRN.out.el hlk
        have hel1 := (hel k hlk).new HB.out
        have c0 := hel1.f0
        have c1 := hel1.f1
        have c2 := hel1.f2
        have HM := Lib.hid (measS_file xs[k])
        have hdl := (HOK.out xs[k] (List.getElem_mem hlk)).d
        have ME := fun w' => Lib.hid (measures_any xs[k].mode xs[k].data.length w')
        rw [HM.out] at ME
        clear hel hel1 HM
        obtain ⟨er, her⟩ : ∃ er, er = fileE xs[k] := ⟨_, rfl⟩
        rw [← her] at HT ME
        clear her
        generalize xs[k] = x at *
        obtain ⟨p, md, dt⟩ := x
        dsimp only at c0 c1 c2 hdl ME
        have SD := Lib.hid (show (⟨dt.toArray⟩ : ByteArray).size = dt.length from rfl)
        go_wp2_with fail
        refine (ME _).out.mono ?_
        rintro e w4 ⟨rfl, rfl⟩
        have HB4 := Lib.hid (HB.out.alloc HB.out.size (.cells #[.string ⟨p.toArray⟩, .int .i64 md, .string ⟨dt.toArray⟩] 42))
        by_cases her : er = 0
        · have q1 : (er != 0) = false := by simp [her]
          have HN := Lib.hid (show firstE fileE (xs.drop (k + 1)) = res by rw [← HA.out, HT.out]; exact (if_neg (fun h => h her)).symm)
          clear HT HA her
          go_wp2_with fail
          go_roundw
          case rel => exact ⟨k + 1, hlk, by go_num, HN, HB4.out⟩
          case measure => simp [intOf]; omega
        · have q1 : (er != 0) = true := by simp [her]
          have HN := Lib.hid (show er = res by rw [← HA.out, HT.out]; exact (if_pos her).symm)
          clear HT HA her
          go_wp2_with fail
          go_ret
          exact ⟨by rw [← HN.out]; rfl, HB1.out.trans (HB4.out.mono HB1.out.size)⟩
      · obtain rfl : k = xs.length := by omega
        have HN := Lib.hid (show 0 = res by rw [← HA.out, List.drop_eq_nil_of_le (Nat.le_refl _)]; rfl)
        have m1 : ¬ (xs.length : Int) < (xs.length : Int) := by omega
        go_wp2_with fail
        go_ret
        exact ⟨by rw [← HN.out]; rfl, HB1.out.trans (HB.out.mono HB1.out.size)⟩
  · have q1 : (togS (xs.map (·.path)) != 0) = true := by simp [ht]
    have HN := Lib.hid (show togS (xs.map (·.path)) = res by rw [← HCS.out, if_pos ht])
    generalize togS (xs.map (·.path)) = te at *
    clear ht HCS
    go_wp2_with fail
    go_ret
    exact ⟨by rw [← HN.out]; rfl, HB1.out⟩
end Go.Proofs.YtkfkfpfnpfpkaaaDoor

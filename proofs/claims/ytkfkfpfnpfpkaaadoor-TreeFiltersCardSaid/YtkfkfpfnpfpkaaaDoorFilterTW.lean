/- Landed tree: fitsOne, Filter's closure, Filter, walked. -/
import Derived.Test.YtkfkfpfnpfpkaaaDoorArgTree
import Derived.Test.YtkfkfpfnpfpkaaaDoorArgs3
import Derived.Test.YtkfkfpfnpfpkaaaDoorFitX
import Derived.Test.YtkfkfpfnpfpkaaaDoorFrame
import Derived.Test.YtkfkfpfnpfpkaaaDoorGen
import Derived.Test.YtkfkfpfnpfpkaaaDoorMarkMath
import Derived.Test.YtkfkfpfnpfpkaaaDoorMatchMath
import Derived.Test.YtkfkfpfnpfpkaaaDoorMatchTW
import Derived.Test.YtkfkfpfnpfpkaaaDoorOneW
import Derived.Test.YtkfkfpfnpfpkaaaDoorOwnL
import Derived.Test.YtkfkfpfnpfpkaaaDoorPthX
import Derived.Test.YtkfkfpfnpfpkaaaDoorPickedTW
import Derived.Test.YtkfkfpfnpfpkaaaDoorProg
import Derived.Test.YtkfkfpfnpfpkaaaDoorReadW
import Derived.Test.YtkfkfpfnpfpkaaaDoorRefCheckW
import Derived.Test.YtkfkfpfnpfpkaaaDoorRefMbW
import Derived.Test.YtkfkfpfnpfpkaaaDoorRefNamesW
import Derived.Test.YtkfkfpfnpfpkaaaDoorRefPatW
import Derived.Test.YtkfkfpfnpfpkaaaDoorRefRightTW
import Derived.Test.YtkfkfpfnpfpkaaaDoorRowN
import Derived.Test.YtkfkfpfnpfpkaaaDoorRows
import Derived.Test.YtkfkfpfnpfpkaaaDoorShelf
import Derived.Test.YtkfkfpfnpfpkaaaDoorSoX
import Derived.Test.YtkfkfpfnpfpkaaaDoorSortMath
import Derived.Test.YtkfkfpfnpfpkaaaDoorTreeMath
import Derived.Test.YtkfkfpfnpfpkaaaDoorTcX
import Derived.BigQuiet
import Derived.BigRegion
import Derived.Deep.Cut
import Derived.Deep.CutRange
import Derived.Deep.DeepCutAuto
import Derived.Deep.QuietTactic
import Derived.Deep.RegionHeld
import Derived.Laws.OwnMore
import Derived.Laws.RangeAny
import Derived.Lib.Hide
import Derived.LoopIn
import Derived.LoopNIn
import Derived.LoopTactic
import Derived.OwnWalkIn
import Derived.RangeFuncBound
import Derived.RangeFuncCalls
import Derived.RangeFuncLeaves
import Derived.RangeFuncNested
import Derived.Shelf.Abstract
import Derived.Shelf.RegionOpen
import Derived.StillTail
import Derived.TacticsInMore
import Derived.WalkKit
import Derived.WalkLawsBesides
import Derived.WalkSpells
set_option linter.unusedVariables false
namespace Go.Proofs.YtkfkfpfnpfpkaaaDoor
open Go.RowKit

theorem pat_len {p : Txt} (h : patternS p = 0) : p.length ≤ 200 := by
  unfold patternS at h
  by_cases h1 : 200 < p.length
  · rw [if_pos h1] at h; exact absurd h (by decide)
  · omega
theorem check_paths {l : List FileD} (h : checkS l = 0) : ∀ x ∈ l, pathS x.path = 0 := by
  unfold checkS at h
  by_cases ht : togS (l.map (·.path)) = 0
  · unfold togS at ht
    by_cases hl : 256 < (l.map (·.path)).length
    · rw [if_pos hl] at ht; exact absurd ht (by decide)
    · rw [if_neg hl] at ht
      exact fun x hx => togF_paths _ _ ht x.path (List.mem_map.2 ⟨x, hx, rfl⟩)
  · rw [if_pos ht] at h; exact absurd h ht
set_option maxRecDepth 100000 in
theorem fitsOne_any (va : Option Addr) (vc : Nat) (l : List Txt) (p : Txt) (w : World) (hrow : EachAt w va l) (hx : ∀ x ∈ l, patternS x = 0) (hp : pathS p = 0) (hl : l.length ≤ 1000000) :
    Calls Tryd.prog 90 #[.slice va l.length vc, .string ⟨p.toArray⟩] w fun e w' => e = .returned (.bool (oneS l p)) ∧ Below w.heap.size w w' := by
  have HRO := Lib.hid hrow
  have HOK := Lib.hid hx
  have hpl := path_len hp
  have HPP := Lib.hid hp
  have HRS := Lib.hid (show (l.drop 0).any (fun q => matchS q p) = oneS l p from rfl)
  generalize oneS l p = res at *
  clear hrow hx hp
  go_enter Tryd.func90, Tryd.ntmps90
  go_wp2_with fail
  go_loopw [9] (fun v9 wr => ∃ i : Nat, i ≤ l.length ∧ v9 = .int .i64 i ∧ Hid ((l.drop i).any (fun q => matchS q p) = res) ∧ Below w.heap.size w wr) (fun v9 _ => l.length - (intOf v9).toNat)
  case atStart => exact ⟨0, by omega, rfl, HRS, Below.refl _ _⟩
  case round =>
    clear HRS
    obtain ⟨i, hi, rfl, HA, hbel⟩ := hrel
    have HB := Lib.hid hbel
    clear hbel
    have i0 : (0 : Int) ≤ (i : Int) := by omega
    by_cases hlt : i < l.length
    · have j1 : (i : Int) < (l.length : Int) := by omega
      obtain ⟨g, o, rfl, hc⟩ := (HRO.out.new HB.out) i hlt
      have hpt := HOK.out l[i] (List.getElem_mem hlt)
      have hxl := pat_len hpt
      have HT := Lib.hid (show (l.drop i).any (fun q => matchS q p) = (matF (namesS l[i]) (namesS p) || (l.drop (i + 1)).any (fun q => matchS q p)) by
        rw [List.drop_eq_getElem_cons hlt]
        show (matchS l[i] p || _) = _
        unfold matchS
        rw [decide_eq_true hpt, decide_eq_true HPP.out]; rfl)
      clear hpt
      generalize l[i] = q at *
      unfold strE at hc
      have MT := Lib.hid (fitsPath_any q p wr (by omega) (by omega))
      obtain ⟨b, hb⟩ : ∃ b, b = matF (namesS q) (namesS p) := ⟨_, rfl⟩
      rw [← hb] at MT HT
      clear hb
      cases b with
      | true =>
        go_wp2_with fail
        refine MT.out.mono ?_
        rintro e w1 ⟨rfl, hb1⟩
        have HB1 := Lib.hid (HB.out.trans (hb1.mono HB.out.size))
        clear hb1 MT
        go_wp2_with fail
        go_ret
        exact ⟨by rw [← HA.out, HT.out]; rfl, HB1.out⟩
      | false =>
        go_wp2_with fail
        refine MT.out.mono ?_
        rintro e w1 ⟨rfl, hb1⟩
        have HB1 := Lib.hid (HB.out.trans (hb1.mono HB.out.size))
        clear hb1 MT
        go_wp2_with fail
        go_roundw
        case rel => exact ⟨i + 1, hlt, by go_num, Lib.hid (by rw [← HA.out, HT.out, Bool.false_or]), HB1.out⟩
        case measure => simp [intOf]; omega
    · obtain rfl : i = l.length := by omega
      have j1 : ¬ (l.length : Int) < (l.length : Int) := by omega
      have HR := Lib.hid (show false = res by rw [← HA.out, List.drop_eq_nil_of_le (Nat.le_refl _)]; rfl)
      go_wp2_with fail
      go_ret
      exact ⟨by rw [← HR.out]; rfl, HB.out⟩
set_option maxRecDepth 100000 in
set_option maxHeartbeats 1000000 in
theorem filterC_any (b1 b2 : Nat) (a1 : Option Addr) (c1 : Nat) (ins : List Txt) (a2 : Option Addr) (c2 : Nat) (outs : List Txt) (x : FileD) (w : World) (k1 : w.cell? ⟨b1, 0, none⟩ = some (.slice a1 ins.length c1)) (k2 : w.cell? ⟨b2, 0, none⟩ = some (.slice a2 outs.length c2))
    (h1 : EachAt w a1 ins) (hx1 : ∀ x ∈ ins, patternS x = 0) (hl1 : ins.length ≤ 1000) (h2 : EachAt w a2 outs) (hx2 : ∀ x ∈ outs, patternS x = 0) (hl2 : outs.length ≤ 1000) (hp : pathS x.path = 0) :
    Calls Tryd.prog 89 #[.agg #[.string ⟨x.path.toArray⟩, .int .i64 x.mode, .string ⟨x.data.toArray⟩], .pointer (some ⟨b1, 0, none⟩), .pointer (some ⟨b2, 0, none⟩)] w fun e w' => e = .returned (.bool (fitS ins outs x.path)) ∧ Below w.heap.size w w' := by
  obtain ⟨p, m, t⟩ := x
  dsimp only at *
  have hbw : Below w.heap.size w (w.alloc (.cells #[.string ⟨p.toArray⟩, .int .i64 m, .string ⟨t.toArray⟩] 42)) := (Below.refl _ w).alloc (Nat.le_refl _) _
  have HB := Lib.hid hbw
  have FI := Lib.hid (fun w' (hb : Below w.heap.size w w') => fitsOne_any a1 c1 ins p w' (h1.new hb) hx1 hp (by omega))
  have FO := Lib.hid (fun w' (hb : Below w.heap.size w w') => fitsOne_any a2 c2 outs p w' (h2.new hb) hx2 hp (by omega))
  have hnew := heap_alloc_new w (.cells #[.string ⟨p.toArray⟩, .int .i64 m, .string ⟨t.toArray⟩] 42)
  have e0 : (w.alloc (.cells #[.string ⟨p.toArray⟩, .int .i64 m, .string ⟨t.toArray⟩] 42)).cell? ⟨w.heap.size, 0, none⟩ = some (.string ⟨p.toArray⟩) := by rw [cell_of_row _ _ _ _ _ _ hnew]; rfl
  have e1 : (w.alloc (.cells #[.string ⟨p.toArray⟩, .int .i64 m, .string ⟨t.toArray⟩] 42)).cell? ⟨b1, 0, none⟩ = some (.slice a1 ins.length c1) := cell_alloc1 k1 _
  have e2 : (w.alloc (.cells #[.string ⟨p.toArray⟩, .int .i64 m, .string ⟨t.toArray⟩] 42)).cell? ⟨b2, 0, none⟩ = some (.slice a2 outs.length c2) := cell_alloc1 k2 _
  have hsz : w.heap.size < (w.alloc (.cells #[.string ⟨p.toArray⟩, .int .i64 m, .string ⟨t.toArray⟩] 42)).heap.size := by simp
  have HR := Lib.hid (show (((ins.length == 0) || oneS ins p) && !(oneS outs p)) = fitS ins outs p from by
    unfold fitS
    cases ins <;> rfl)
  have FI1 := Lib.hid (FI.out _ HB.out)
  have HSZ := Lib.hid hsz
  clear k1 k2 hnew hbw hsz
  generalize fitS ins outs p = res at *
  have HE1 : ((ins.length : Int) == 0) = (ins.length == 0) := by
    by_cases h : ins.length = 0
    · rw [h]; rfl
    · rw [beq_eq_false_iff_ne.2 h, beq_eq_false_iff_ne.2 (by omega)]
  obtain ⟨oO, hoO⟩ : ∃ oO, oO = oneS outs p := ⟨_, rfl⟩
  obtain ⟨oI, hoI⟩ : ∃ oI, oI = oneS ins p := ⟨_, rfl⟩
  rw [← hoO] at FO HR
  rw [← hoI] at FI1 HR
  clear hoO hoI FI
  obtain ⟨z, hz⟩ : ∃ z, z = (ins.length == 0) := ⟨_, rfl⟩
  rw [← hz] at HR HE1
  clear hz h1 hx1 hl1
  generalize ins.length = n1 at *
  cases z with
  | true =>
    have FO1 := Lib.hid (FO.out _ HB.out)
    clear FI1
    go_enter Tryd.func89, Tryd.ntmps89
    go_wp2_with fail
    refine FO1.out.mono ?_
    rintro e w5 ⟨rfl, hb5⟩
    have HB5 := Lib.hid (HB.out.trans (hb5.mono (Nat.le_of_lt HSZ.out)))
    clear hb5
    go_wp2_with fail
    go_ret
    exact ⟨by rw [← HR.out]; simp, HB5.out⟩
  | false =>
    cases oI with
    | true =>
      go_enter Tryd.func89, Tryd.ntmps89
      go_wp2_with fail
      refine FI1.out.mono ?_
      rintro e w5 ⟨rfl, hb5⟩
      have HB5 := Lib.hid (HB.out.trans (hb5.mono (Nat.le_of_lt HSZ.out)))
      have FO1 := Lib.hid (FO.out _ HB5.out)
      have e0 := (hb5.cell (p := ⟨w.heap.size, 0, none⟩) HSZ.out).trans e0
      have e2 := (hb5.cell (World.block_lt_of_cell? _ _ e2)).trans e2
      clear hb5 FI1
      go_wp2_with fail
      refine FO1.out.mono ?_
      rintro e w6 ⟨rfl, hb6⟩
      have HB6 := Lib.hid (HB5.out.trans (hb6.mono HB5.out.size))
      clear hb6
      go_wp2_with fail
      go_ret
      exact ⟨by rw [← HR.out]; simp, HB6.out⟩
    | false =>
      go_enter Tryd.func89, Tryd.ntmps89
      go_wp2_with fail
      refine FI1.out.mono ?_
      rintro e w5 ⟨rfl, hb5⟩
      have HB5 := Lib.hid (HB.out.trans (hb5.mono (Nat.le_of_lt HSZ.out)))
      clear hb5 FI1
      go_wp2_with fail
      go_ret
      exact ⟨by rw [← HR.out]; simp, HB5.out⟩
set_option maxRecDepth 100000 in
set_option maxHeartbeats 2000000 in
theorem tFilter_any (v : Value) (xs : List FileD) (a1 : Option Addr) (c1 : Nat) (ins : List Txt) (a2 : Option Addr) (c2 : Nat) (outs : List Txt) (w : World) (hrow : RowN encF 3 (fun _ => True) w v xs) (hok : ∀ x ∈ xs, FileOk x) (hl : xs.length ≤ 10000)
    (h1 : EachAt w a1 ins) (hx1 : ∀ x ∈ ins, x.length ≤ 140737488351232) (hl1 : ins.length ≤ 1000) (h2 : EachAt w a2 outs) (hx2 : ∀ x ∈ outs, x.length ≤ 140737488351232) (hl2 : outs.length ≤ 1000) :
    Calls Tryd.prog 42 #[v, .slice a1 ins.length c1, .slice a2 outs.length c2] w fun e w' => ∃ v', e = .returned (.tuple #[v', .int .i64 (filterE xs ins outs)]) ∧ RowN encF 3 (fun _ => True) w' v' (filterS xs ins outs) ∧ Below w.heap.size w w' := by
  obtain ⟨va, vc, hv, _⟩ := hrow.slice
  subst hv
  have HOK := Lib.hid hok
  have B0 := Lib.hid (((Below.refl w.heap.size w).alloc (Nat.le_refl _) (.cells #[.slice a1 ins.length c1] 57)).alloc (by simp) (.cells #[.slice a2 outs.length c2] 57))
  have CK := Lib.hid (fun w1 (hb : Below w.heap.size w w1) => tCheck_any _ xs w1 (hrow.keep hb) hok hl)
  have e1 := cell_alloc1 (cell1 w (.slice a1 ins.length c1) 57) (.cells #[.slice a2 outs.length c2] 57)
  have e2 := cell1 (w.alloc (.cells #[.slice a1 ins.length c1] 57)) (.slice a2 outs.length c2) 57
  rw [World.size_alloc] at e2
  have HR0 := Lib.hid hrow
  have HI := Lib.hid h1
  have HO := Lib.hid h2
  have HXI := Lib.hid hx1
  have HXO := Lib.hid hx2
  clear hrow hok h1 h2 hx1 hx2
  by_cases hc : checkS xs = 0
  · have HC := Lib.hid (check_paths hc)
    have CK1 := Lib.hid (CK.out _ B0.out)
    rw [hc] at CK1
    have HF := Lib.hid (show filterE xs ins outs = if firstE patternS ins ≠ 0 then firstE patternS ins else firstE patternS outs by unfold filterE; rw [if_neg (fun h => h hc)])
    have HS := Lib.hid (show filterS xs ins outs = if filterE xs ins outs ≠ 0 then [] else xs.filter (fun x => fitS ins outs x.path) from rfl)
    generalize filterE xs ins outs = fe at *
    generalize filterS xs ins outs = fs at *
    clear hc CK
    go_enter Tryd.func42, Tryd.ntmps42
    go_wp2_with fail
    refine CK1.out.mono ?_
    rintro e w1 ⟨rfl, hb1⟩
    have HB1 := Lib.hid (B0.out.trans (hb1.mono B0.out.size))
    have e1 := (hb1.cell (World.block_lt_of_cell? _ _ e1)).trans e1
    have e2 := (hb1.cell (World.block_lt_of_cell? _ _ e2)).trans e2
    clear hb1 CK1 B0
    have hnew := heap_alloc_new w1 (.cells #[.slice a1 ins.length c1, .slice a2 outs.length c2] 57)
    have HB2 := Lib.hid (HB1.out.alloc HB1.out.size (.cells #[.slice a1 ins.length c1, .slice a2 outs.length c2] 57))
    have g1 := cell_alloc1 e1 (.cells #[.slice a1 ins.length c1, .slice a2 outs.length c2] 57)
    have g2 := cell_alloc1 e2 (.cells #[.slice a1 ins.length c1, .slice a2 outs.length c2] 57)
    have k1 : (w1.alloc (.cells #[.slice a1 ins.length c1, .slice a2 outs.length c2] 57)).cell? ⟨w1.heap.size, 0, none⟩ = some (.slice a1 ins.length c1) := by rw [cell_of_row _ _ _ _ _ _ hnew]; rfl
    have k2 : (w1.alloc (.cells #[.slice a1 ins.length c1, .slice a2 outs.length c2] 57)).cell? ⟨w1.heap.size, 1, none⟩ = some (.slice a2 outs.length c2) := by rw [cell_of_row _ _ _ _ _ _ hnew]; rfl
    clear hnew
    go_wp2_with fail
    generalize w1.alloc (.cells #[.slice a1 ins.length c1, .slice a2 outs.length c2] 57) = w2 at *
    clear e1 e2
    generalize w1.heap.size = bx at *
    have HG1 := Lib.hid g1
    have HG2 := Lib.hid g2
    have HK := Lib.hid (show ∀ r : Nat, r < 2 → ((0 < r → firstE patternS ins = 0)) → ∃ (la : List Txt) (aa : Option Addr) (cc : Nat), w2.cell? ⟨bx, r, none⟩ = some (.slice aa la.length cc) ∧ EachAt w aa la ∧ (∀ x ∈ la, x.length ≤ 140737488351232) ∧ la.length ≤ 1000 ∧ (firstE patternS la ≠ 0 → fe = firstE patternS la) ∧ (firstE patternS la = 0 → firstE patternS ins = 0 ∧ (1 ≤ r → firstE patternS outs = 0)) from fun r hr hpre => by
      match r, hr with
      | 0, _ => exact ⟨ins, a1, c1, k1, HI.out, HXI.out, hl1, fun h => by rw [HF.out, if_pos h], fun h => ⟨h, fun h => by omega⟩⟩
      | 1, _ => exact ⟨outs, a2, c2, k2, HO.out, HXO.out, hl2, fun h => by rw [HF.out, if_neg (fun e => e (hpre (by decide)))], fun h => ⟨hpre (by decide), fun _ => h⟩⟩)
    clear k1 k2 g1 g2
    go_loopw [10, 23] (fun v10 v23 wr => ∃ r : Nat, r ≤ 2 ∧ v23 = .int .i64 r ∧ Hid ((0 < r → firstE patternS ins = 0) ∧ (2 ≤ r → firstE patternS outs = 0)) ∧ Below w2.heap.size w2 wr) (fun _ v23 _ => 2 - (intOf v23).toNat)
    case atStart => exact ⟨0, by omega, rfl, Lib.hid ⟨fun h => by omega, fun h => by omega⟩, Below.refl _ _⟩
    case round =>
      obtain ⟨r, hr, rfl, HP, hbel⟩ := hrel
      have HB := Lib.hid hbel
      clear hbel
      have r0 : (0 : Int) ≤ (r : Int) := by omega
      by_cases hlt : r < 2
      · have j1 : (r : Int) < 2 := by omega
        obtain ⟨la, aa, cc, hcell, heach, hlx, hll, hfe, hz⟩ := HK.out r hlt HP.out.1
        have hcr := (HB.out.cell (World.block_lt_of_cell? _ _ hcell)).trans hcell
        have HEA := Lib.hid heach
        have HLX := Lib.hid hlx
        have HFE := Lib.hid hfe
        have HZ := Lib.hid hz
        clear hcell heach hlx hfe hz
        have HL0 := Lib.hid (show firstE patternS (la.drop 0) = firstE patternS la from rfl)
        obtain ⟨f0, hf0⟩ : ∃ f0, f0 = firstE patternS la := ⟨_, rfl⟩
        rw [← hf0] at HFE HZ HL0
        clear hf0
        go_wp2_with fail
        clear hcr
        go_loopw [12, 29] (fun v12 v29 w5 => ∃ k : Nat, k ≤ la.length ∧ v29 = .int .i64 k ∧ Hid (firstE patternS (la.drop k) = f0) ∧ Below w2.heap.size w2 w5) (fun _ v29 _ => la.length - (intOf v29).toNat)
        case atStart => exact ⟨0, by omega, rfl, HL0, HB.out⟩
        case round =>
          clear HL0 HB
          obtain ⟨k, hk, rfl, HA, hbel⟩ := hrel
          have HB := Lib.hid hbel
          clear hbel
          have k0 : (0 : Int) ≤ (k : Int) := by omega
          by_cases hkl : k < la.length
          · have j2 : (k : Int) < (la.length : Int) := by omega
            obtain ⟨g, o, rfl, hc⟩ := (HEA.out.new (HB2.out.trans (HB.out.mono HB2.out.size))) k hkl
            have hxl := HLX.out la[k] (List.getElem_mem hkl)
            have HT := Lib.hid (firstE_at patternS la k hkl)
            generalize la[k] = q at *
            unfold strE at hc
            have PT := fun w' => Lib.hid (pattern_any q w' hxl)
            by_cases hq : patternS q = 0
            · have HN := Lib.hid (show firstE patternS (la.drop (k + 1)) = f0 by rw [← HA.out, HT.out]; exact (if_neg (fun h => h hq)).symm)
              rw [hq] at PT
              clear HT HA hq
              go_wp2_with fail
              refine (PT _).out.mono ?_
              rintro e w6 ⟨rfl, hb6⟩
              have HB6 := Lib.hid (HB.out.trans (hb6.mono HB.out.size))
              clear hb6
              go_wp2_with fail
              go_roundw
              case rel => exact ⟨k + 1, hkl, by go_num, HN, HB6.out⟩
              case measure => simp [intOf]; omega
            · have HN := Lib.hid (show patternS q = f0 by rw [← HA.out, HT.out]; exact (if_pos hq).symm)
              have q1 : (patternS q != 0) = true := by simp [hq]
              have HFF := Lib.hid (show fe = patternS q ∧ fs = [] by
                have h1 := HFE.out (by rw [← HN.out]; exact hq)
                have h2 : fe = patternS q := by rw [h1, HN.out]
                exact ⟨h2, by rw [HS.out, if_pos (by rw [h2]; exact hq)]⟩)
              generalize patternS q = pe at *
              clear HT HA hq
              go_wp2_with fail
              refine (PT _).out.mono ?_
              rintro e w6 ⟨rfl, hb6⟩
              have HB6 := Lib.hid (HB.out.trans (hb6.mono HB.out.size))
              clear hb6
              go_wp2_with fail
              go_ret2
              exact ⟨_, by rw [HFF.out.1]; rfl, by rw [HFF.out.2]; exact RowN.nil _ _ _ _, HB2.out.trans (HB6.out.mono HB2.out.size)⟩
          · obtain rfl : k = la.length := by omega
            have j2 : ¬ (la.length : Int) < (la.length : Int) := by omega
            have HN := Lib.hid (HZ.out (by rw [← HA.out, List.drop_eq_nil_of_le (Nat.le_refl _)]; rfl))
            clear HA
            go_wp2_with fail
            go_roundw
            case rel => exact ⟨r + 1, hlt, by go_num, Lib.hid ⟨fun _ => HN.out.1, fun h => HN.out.2 (by omega)⟩, HB.out⟩
            case measure => simp [intOf]; omega
      · obtain rfl : r = 2 := by omega
        have j1 : ¬ (2 : Int) < 2 := by omega
        have h1 := HP.out.1 (by decide)
        have h2 := HP.out.2 (by decide)
        have HFE := Lib.hid (show fe = 0 by rw [HF.out, if_neg (fun h => h h1), h2])
        have HFS := Lib.hid (show fs = xs.filter (fun x => fitS ins outs x.path) by rw [HS.out, if_neg (fun h => h HFE.out)])
        have HB5 := Lib.hid (HB2.out.trans (HB.out.mono HB2.out.size))
        have PK := Lib.hid (picked_any 89 #[.pointer (some ⟨w.heap.size, 0, none⟩), .pointer (some ⟨w.heap.size + 1, 0, none⟩)] (fun x => fitS ins outs x.path) _ xs wr (enters_of Tryd.func89 (by kernel_rfl) rfl)
          (fun x hx w' hb => filterC_any w.heap.size (w.heap.size + 1) a1 c1 ins a2 c2 outs x w' ((hb.cell (World.block_lt_of_cell? _ _ ((HB.out.cell (World.block_lt_of_cell? _ _ HG1.out)).trans HG1.out))).trans ((HB.out.cell (World.block_lt_of_cell? _ _ HG1.out)).trans HG1.out)) ((hb.cell (World.block_lt_of_cell? _ _ ((HB.out.cell (World.block_lt_of_cell? _ _ HG2.out)).trans HG2.out))).trans ((HB.out.cell (World.block_lt_of_cell? _ _ HG2.out)).trans HG2.out))
            (HI.out.new (HB5.out.trans (hb.mono HB5.out.size))) (firstE_all _ _ h1) hl1 (HO.out.new (HB5.out.trans (hb.mono HB5.out.size))) (firstE_all _ _ h2) hl2 (HC.out x hx))
          (HR0.out.keep HB5.out) HOK.out (by omega))
        clear h1 h2
        go_wp2_with fail
        refine PK.out.mono ?_
        rintro e w6 ⟨v6, rfl, hown, hb6⟩
        obtain ⟨oa, om, oc, rfl⟩ := own_slice hown
        have HO6 := Lib.hid hown
        have HB6 := Lib.hid (HB5.out.trans (hb6.mono HB5.out.size))
        clear hown hb6 PK
        go_wp2_with fail
        go_ret2
        exact ⟨_, by rw [HFE.out]; rfl, by rw [HFS.out]; exact (OwnN.row encF_ok HO6.out).mono (fun _ _ => trivial), HB6.out⟩
  · have HE := Lib.hid (show filterE xs ins outs = checkS xs by unfold filterE; rw [if_pos hc])
    have HS := Lib.hid (show filterS xs ins outs = [] by unfold filterS; rw [if_pos (by rw [HE.out]; exact hc)])
    have CK1 := Lib.hid (CK.out _ B0.out)
    have q1 : (checkS xs != 0) = true := by simp [hc]
    generalize checkS xs = ce at *
    generalize filterE xs ins outs = fe at *
    generalize filterS xs ins outs = fs at *
    clear hc CK
    go_enter Tryd.func42, Tryd.ntmps42
    go_wp2_with fail
    refine CK1.out.mono ?_
    rintro e w1 ⟨rfl, hb1⟩
    have HB1 := Lib.hid (B0.out.trans (hb1.mono B0.out.size))
    clear hb1 CK1 B0
    go_wp2_with fail
    go_ret2
    exact ⟨_, by rw [HE.out]; rfl, by rw [HS.out]; exact RowN.nil _ _ _ _, HB1.out⟩
end Go.Proofs.YtkfkfpfnpfpkaaaDoor

/- KeepNeeds: the walk (gen/keeplaws.py). -/
import Derived.Test.YtgejocceegadhaaFrame
import Derived.Test.YtgejocceegadhaaGen
import Derived.Test.YtgejocceegadhaaKeepAwakeW
import Derived.Test.YtgejocceegadhaaKeepHoldMath
import Derived.Test.YtgejocceegadhaaKeepMath
import Derived.Test.YtgejocceegadhaaLandK6W
import Derived.Test.YtgejocceegadhaaOwnL
import Derived.Test.YtgejocceegadhaaRefKeep2W
import Derived.Test.YtgejocceegadhaaRefKeep5W
import Derived.Test.YtgejocceegadhaaRowN
import Derived.Test.YtgejocceegadhaaRows
import Derived.Test.YtgejocceegadhaaShelf
import Derived.BigQuiet
import Derived.BigRegion
import Derived.ChangeAlike
import Derived.Deep.QuietTactic
import Derived.Deep.RegionHeld3
import Derived.Lib.Hide
import Derived.LoopIn
import Derived.LoopNIn
import Derived.Maps.OwnIn
import Derived.Maps.OwnOps
import Derived.Maps.OwnSet
import Derived.Maps.RangeWalk
import Derived.Outline
import Derived.OwnWalkIn
import Derived.RangeFuncBound
import Derived.RangeFuncCalls
import Derived.RangeFuncLeaves
import Derived.RangeFuncNested
import Derived.RegionTactic
import Derived.Shelf.Abstract
import Derived.Shelf.RegionOpen
import Derived.TacticsInMore
import Derived.WalkKit
import Derived.WalkLawsBesides
import Derived.WalkSpells
set_option linter.unusedVariables false
namespace Go.Proofs.Ytgejocceegadhaa
open Go.RowKit

theorem needG_len (l : List GenD) (wt : List Int) : (needG l wt).length ≤ l.length := by
  unfold needG
  split
  · exact Nat.zero_le _
  · exact needL_len l wt
set_option maxRecDepth 100000 in
set_option maxHeartbeats 4000000 in
theorem keepNeeds_walk (v : Value) (l : List GenD) (u : Value) (wt : List Int) (w : World) (hrow : RowN encGn 4 (· < w.heap.size) w v l) (hl : l.length ≤ 140737488351232) (hok : ∀ x ∈ l, GenOk x)
    (hu : RowN encI1 1 (· < w.heap.size) w u wt) (hul : wt.length ≤ 140737488351232) (huo : ∀ x ∈ wt, -9223372036854775808 ≤ x ∧ x ≤ 9223372036854775807) :
    Calls Try.prog 7 #[v, u] w fun e w' => e = .returned (.bool true) ∧ Below w.heap.size w w' := by
  have HR := Lib.hid hrow
  have Hu := Lib.hid hu
  have HOK := Lib.hid hok
  obtain ⟨va, vc, hv, hvc⟩ := hrow.slice
  subst hv
  obtain ⟨ua, uc, hv, huc⟩ := hu.slice
  subst hv
  have FW := Lib.hid (few12_any _ l w HR.out hl)
  have HUO := Lib.hid huo
  clear hrow hu hok huo
  go_enter Try.func7, Try.ntmps7
  go_wp2_with fail
  refine FW.out.mono ?_
  rintro e w1 ⟨v1, rfl, hr1, rfl⟩
  have HOK1 := Lib.hid (fun x (hx : x ∈ l.take 60) => HOK.out x (List.mem_of_mem_take hx))
  obtain ⟨l1, hl1⟩ : ∃ l1, l1 = l.take 60 := ⟨_, rfl⟩
  rw [← hl1] at HOK1 hr1
  have hl60 : l1.length ≤ 60 := by rw [hl1, List.length_take]; omega
  have HR1 := Lib.hid hr1
  clear hl1
  obtain ⟨va1, vc1, hv, _⟩ := hr1.slice
  subst hv
  clear hr1 FW HR
  by_cases hcu : 60 < wt.length
  · have h1u : (60 : Int) < (wt.length : Int) := by omega
    have h2u : (60 : Int) ≤ (uc : Int) := by omega
    have Hu1 := Lib.hid (Hu.out.take 60 (by omega))
    clear hcu
    obtain ⟨wt1, hwt1⟩ : ∃ wt1, wt1 = wt.take 60 := ⟨_, rfl⟩
    rw [← hwt1] at Hu1
    have hw1 : wt1.length ≤ 60 := by rw [hwt1, List.length_take]; omega
    have HUO1 := Lib.hid (fun x (hx : x ∈ wt1) => HUO.out x (List.mem_of_mem_take (by rw [← hwt1]; exact hx)))
    clear hwt1
    go_wp2_with fail
    have ND := Lib.hid (keepNeed_any _ _ l1 wt1 _ HR1.out (by omega) HOK1.out Hu1.out (by omega) HUO1.out)
    refine ND.out.mono ?_
    rintro e w2 ⟨v2, rfl, ho2, hb2⟩
    have HO2 := Lib.hid (OwnN.row encI1_ok ho2)
    obtain ⟨va2, vc2, hv2, _⟩ := HO2.out.slice
    subst hv2
    have HB2 := Lib.hid hb2
    have HRa := Lib.hid (HR1.out.keep hb2)
    have HUa := Lib.hid (Hu1.out.keep hb2)
    clear ND ho2 hb2
    go_wp2_with fail
    have NE := Lib.hid (refNeed12_any _ _ l1 wt1 _ HRa.out (by omega) HOK1.out HUa.out (by omega))
    refine NE.out.mono ?_
    rintro e w3 ⟨v3, rfl, ho3, hb3⟩
    have HO3 := Lib.hid (OwnN.row encI1_ok ho3)
    obtain ⟨va3, vc3, hv3, _⟩ := HO3.out.slice
    subst hv3
    have HB3 := Lib.hid (HB2.out.trans (hb3.mono HB2.out.size))
    have HO23 := Lib.hid (HO2.out.keep hb3)
    clear NE ho3 hb3 HB2 HO2 HRa HUa
    go_wp2_with fail
    have SM := Lib.hid (refInts12_same _ _ (needG l1 wt1) _ HO23.out HO3.out (by have := needG_len l1 wt1; omega))
    refine SM.out.mono ?_
    rintro e w4 ⟨rfl, hb4⟩
    have HB4 := Lib.hid (HB3.out.trans (hb4.mono HB3.out.size))
    clear SM hb4 HB3 HO23 HO3
    have q1 : (needE l1 wt1 == needE l1 wt1) = true := by simp
    go_wp2_with fail
    refine (awake12_any _).mono ?_
    rintro e w5 ⟨rfl, hb5⟩
    have HB5 := Lib.hid (HB4.out.trans (hb5.mono HB4.out.size))
    clear HB4 hb5
    go_wp2_with fail
    go_ret
    exact ⟨rfl, HB5.out⟩
  · have h1u : ¬ (60 : Int) < (wt.length : Int) := by omega
    have Hu1 := Lib.hid (show RowN encI1 1 _ _ (.slice ua wt.length uc) (wt.take 60) by rw [List.take_of_length_le (by omega)]; exact Hu.out)
    clear hcu
    obtain ⟨wt1, hwt1⟩ : ∃ wt1, wt1 = wt.take 60 := ⟨_, rfl⟩
    rw [← hwt1] at Hu1
    have hw1 : wt1.length ≤ 60 := by rw [hwt1, List.length_take]; omega
    have HUO1 := Lib.hid (fun x (hx : x ∈ wt1) => HUO.out x (List.mem_of_mem_take (by rw [← hwt1]; exact hx)))
    clear hwt1
    go_wp2_with fail
    have ND := Lib.hid (keepNeed_any _ _ l1 wt1 _ HR1.out (by omega) HOK1.out Hu1.out (by omega) HUO1.out)
    refine ND.out.mono ?_
    rintro e w2 ⟨v2, rfl, ho2, hb2⟩
    have HO2 := Lib.hid (OwnN.row encI1_ok ho2)
    obtain ⟨va2, vc2, hv2, _⟩ := HO2.out.slice
    subst hv2
    have HB2 := Lib.hid hb2
    have HRa := Lib.hid (HR1.out.keep hb2)
    have HUa := Lib.hid (Hu1.out.keep hb2)
    clear ND ho2 hb2
    go_wp2_with fail
    have NE := Lib.hid (refNeed12_any _ _ l1 wt1 _ HRa.out (by omega) HOK1.out HUa.out (by omega))
    refine NE.out.mono ?_
    rintro e w3 ⟨v3, rfl, ho3, hb3⟩
    have HO3 := Lib.hid (OwnN.row encI1_ok ho3)
    obtain ⟨va3, vc3, hv3, _⟩ := HO3.out.slice
    subst hv3
    have HB3 := Lib.hid (HB2.out.trans (hb3.mono HB2.out.size))
    have HO23 := Lib.hid (HO2.out.keep hb3)
    clear NE ho3 hb3 HB2 HO2 HRa HUa
    go_wp2_with fail
    have SM := Lib.hid (refInts12_same _ _ (needG l1 wt1) _ HO23.out HO3.out (by have := needG_len l1 wt1; omega))
    refine SM.out.mono ?_
    rintro e w4 ⟨rfl, hb4⟩
    have HB4 := Lib.hid (HB3.out.trans (hb4.mono HB3.out.size))
    clear SM hb4 HB3 HO23 HO3
    have q1 : (needE l1 wt1 == needE l1 wt1) = true := by simp
    go_wp2_with fail
    refine (awake12_any _).mono ?_
    rintro e w5 ⟨rfl, hb5⟩
    have HB5 := Lib.hid (HB4.out.trans (hb5.mono HB4.out.size))
    clear HB4 hb5
    go_wp2_with fail
    go_ret
    exact ⟨rfl, HB5.out⟩
end Go.Proofs.Ytgejocceegadhaa

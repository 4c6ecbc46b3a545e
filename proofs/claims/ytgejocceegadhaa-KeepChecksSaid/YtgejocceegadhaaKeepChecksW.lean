/- KeepChecks: the walk, told what Deepest answers. -/
import Derived.Test.YtgejocceegadhaaFrame
import Derived.Test.YtgejocceegadhaaGen
import Derived.Test.YtgejocceegadhaaKeepAwakeW
import Derived.Test.YtgejocceegadhaaKeepHoldMath
import Derived.Test.YtgejocceegadhaaKeepMath
import Derived.Test.YtgejocceegadhaaLandK4W
import Derived.Test.YtgejocceegadhaaOwnL
import Derived.Test.YtgejocceegadhaaRefKeep2W
import Derived.Test.YtgejocceegadhaaRefKeep3W
import Derived.Test.YtgejocceegadhaaRefKeep4W
import Derived.Test.YtgejocceegadhaaRowN
import Derived.Test.YtgejocceegadhaaRows
import Derived.Test.YtgejocceegadhaaShelf
import Derived.BigQuiet
import Derived.BigRegion
import Derived.ChangeAlike
import Derived.Deep.QuietTactic
import Derived.Lib.Hide
import Derived.LoopIn
import Derived.LoopNIn
import Derived.Maps.OwnIn
import Derived.Maps.OwnOps
import Derived.Maps.OwnSet
import Derived.Maps.RangeWalk
import Derived.Outline
import Derived.OwnWalkIn
import Derived.RangeFuncBound
import Derived.RangeFuncCalls
import Derived.RangeFuncLeaves
import Derived.RangeFuncNested
import Derived.RegionTactic
import Derived.Shelf.Abstract
import Derived.Shelf.RegionOpen
import Derived.TacticsInMore
import Derived.WalkKit
import Derived.WalkLawsBesides
import Derived.WalkSpells
set_option linter.unusedVariables false
namespace Go.Proofs.Ytgejocceegadhaa
open Go.RowKit

def mostG (l : List GenD) (i : Nat) : Nat := ((l.take i).map (fun x => (roadG l x.gen).length)).foldl max 0
theorem mostG_succ {l : List GenD} {i : Nat} (hi : i < l.length) : mostG l (i + 1) = max (mostG l i) (roadG l l[i].gen).length := by
  unfold mostG
  rw [List.take_succ_eq_append_getElem hi, List.map_append, List.foldl_append]
  rfl
theorem roadG_in {l : List GenD} (hc : checkG l = 0) {x : GenD} (hx : x ∈ l) : roadE l x.gen = 0 ∧ roadG l x.gen = roadL l x.gen := by
  have ha : atN l x.gen < l.length := atN_lt.2 (List.mem_map.2 ⟨x, hx, rfl⟩)
  have he : roadE l x.gen = 0 := by unfold roadE; rw [if_neg (by omega), if_pos ha]
  exact ⟨he, by unfold roadG; rw [if_neg (by omega)]⟩
theorem mostG_all {l : List GenD} (hc : checkG l = 0) : mostG l l.length = deepG l := by
  unfold mostG deepG
  rw [if_neg (by omega), List.take_length, List.map_congr_left (fun x hx => by rw [(roadG_in hc hx).2])]
set_option maxRecDepth 100000 in
set_option maxHeartbeats 4000000 in
theorem keepChecks_walk_of (KD : ∀ (v : Value) (l : List GenD) (w : World) {N : Nat → Prop}, RowN encGn 4 N w v l → l.length ≤ 140737488351232 → (∀ x ∈ l, GenOk x) → Calls Try.prog 18 #[v] w fun e w' => e = .returned (.tuple #[.int .i64 (deepG l : Nat), .int .i64 (checkG l)]) ∧ Below w.heap.size w w')
    (v : Value) (l : List GenD) (w : World) (hrow : RowN encGn 4 (· < w.heap.size) w v l) (hl : l.length ≤ 140737488351232) (hok : ∀ x ∈ l, GenOk x) :
    Calls Try.prog 5 #[v] w fun e w' => e = .returned (.bool true) ∧ Below w.heap.size w w' := by
  have HR := Lib.hid hrow
  have HOK := Lib.hid hok
  obtain ⟨va, vc, hv, hvc⟩ := hrow.slice
  subst hv
  have FW := Lib.hid (few12_any _ l w HR.out hl)
  clear hrow hok
  go_enter Try.func5, Try.ntmps5
  go_wp2_with fail
  refine FW.out.mono ?_
  rintro e w1 ⟨v1, rfl, hr1, rfl⟩
  have HOK1 := Lib.hid (fun x (hx : x ∈ l.take 60) => HOK.out x (List.mem_of_mem_take hx))
  obtain ⟨l1, hl1⟩ : ∃ l1, l1 = l.take 60 := ⟨_, rfl⟩
  rw [← hl1] at HOK1 hr1
  have hl60 : l1.length ≤ 60 := by rw [hl1, List.length_take]; omega
  have HR1 := Lib.hid hr1
  clear hl1
  obtain ⟨va1, vc1, hv, _⟩ := hr1.slice
  subst hv
  clear hr1 FW HR
  have K1 := Lib.hid (refCheck12_any _ l1 _ HR1.out (by omega) HOK1.out)
  go_wp2_with fail
  refine K1.out.mono ?_
  rintro e w2 ⟨rfl, hb2⟩
  have HB2 := Lib.hid hb2
  have HR2 := Lib.hid (HR1.out.keep hb2)
  clear K1 hb2
  have K2 := Lib.hid (KD _ l1 _ HR2.out (by omega) HOK1.out)
  go_wp2_with fail
  refine K2.out.mono ?_
  rintro e w3 ⟨rfl, hb3⟩
  have HB3 := Lib.hid (HB2.out.trans (hb3.mono HB2.out.size))
  have HR3 := Lib.hid (HR2.out.keep hb3)
  clear K2 hb3 HB2 HR2 HR1
  have K3 := Lib.hid (keepCheck_any _ l1 _ HR3.out (by omega) HOK1.out)
  go_wp2_with fail
  refine K3.out.mono ?_
  rintro e w4 ⟨rfl, hb4⟩
  have HB4 := Lib.hid (HB3.out.trans (hb4.mono HB3.out.size))
  have HR4 := Lib.hid (HR3.out.keep hb4)
  clear K3 hb4 HB3 HR3
  have q1 : (checkG l1 != checkG l1) = false := by simp
  by_cases hc : checkG l1 = 0
  case neg =>
    have hd : deepG l1 = 0 := by unfold deepG; rw [if_pos hc]
    rw [hd]
    have q2 : (checkG l1 == 0) = false := by simp [hc]
    generalize checkG l1 = ck at *
    go_wp2_with fail
    go_loopw [6, 7] (fun v6 v7 wr => v6 = .int .i64 0 ∧ v7 = .int .i64 0 ∧ wr = w4) (fun _ _ _ => 0)
    case atStart => exact ⟨rfl, rfl, rfl⟩
    case round =>
      obtain ⟨rfl, rfl, rfl⟩ := hrel
      by_cases h0 : (0 : Int) < (l1.length : Int)
      · go_wp2_with fail
        refine (awake12_any _).mono ?_
        rintro e w7 ⟨rfl, hb7⟩
        have HB7 := Lib.hid (HB4.out.trans (hb7.mono HB4.out.size))
        go_wp2_with fail
        go_ret
        exact ⟨rfl, HB7.out⟩
      · go_wp2_with fail
        refine (awake12_any _).mono ?_
        rintro e w7 ⟨rfl, hb7⟩
        have HB7 := Lib.hid (HB4.out.trans (hb7.mono HB4.out.size))
        go_wp2_with fail
        go_ret
        exact ⟨rfl, HB7.out⟩
  have HD := Lib.hid (mostG_all hc)
  have HIN := Lib.hid (fun x (hx : x ∈ l1) => (roadG_in hc hx).1)
  rw [hc] at q1 ⊢
  clear hc
  go_wp2_with fail
  go_loopw [6, 7] (fun v6 v7 wr => ∃ i : Nat, i ≤ l1.length ∧ v7 = .int .i64 (i : Nat) ∧ v6 = .int .i64 (mostG l1 i : Nat) ∧ Below w4.heap.size w4 wr) (fun _ v7 _ => l1.length - (intOf v7).toNat)
  case atStart => exact ⟨0, Nat.zero_le _, rfl, rfl, Below.refl _ _⟩
  case round =>
    obtain ⟨i, hi, rfl, rfl, hb⟩ := hrel
    have HB := Lib.hid hb
    clear hb
    have i0 : (0 : Int) ≤ (i : Int) := by omega
    by_cases hlt : i < l1.length
    · have j1 : (i : Int) < (l1.length : Int) := by omega
      obtain ⟨b, o, c', hv, hn, hel⟩ := (HR4.out.keep HB.out).at hlt
      injection hv with ea eb ec
      subst ea; subst ec
      clear eb
      have HM := Lib.hid (mostG_succ hlt)
      have HG := Lib.hid (HIN.out _ (List.getElem_mem hlt))
      generalize l1[i] = x at *
      have d0 := hel 0 _ rfl
      rw [Nat.add_zero] at d0
      clear hel
      have R1 := Lib.hid (refRoad12_any _ _ l1 x.gen wr (Nat.le_refl _) (HR4.out.keep HB.out) (by omega) HOK1.out)
      rw [HG.out] at R1
      go_wp2_with fail
      refine R1.out.mono ?_
      rintro e w7 ⟨v7, rfl, ho7, hb7⟩
      obtain ⟨va7, vc7, hv7, _⟩ := (OwnN.row encI1_ok ho7).slice
      subst hv7
      have HB7 := Lib.hid (HB.out.trans (hb7.mono HB.out.size))
      clear hb7 ho7 R1 HB
      by_cases hm : mostG l1 i < (roadG l1 x.gen).length
      · have j2 : ((mostG l1 i : Nat) : Int) < ((roadG l1 x.gen).length : Int) := by omega
        have HS := Lib.hid (HM.out.trans (show max (mostG l1 i) (roadG l1 x.gen).length = (roadG l1 x.gen).length by omega))
        clear hm
        go_wp2_with fail
        go_roundw
        case rel => exact ⟨i + 1, by omega, by go_num, by rw [HS.out], HB7.out⟩
        case measure => simp [intOf]; omega
      · have j2 : ¬ ((mostG l1 i : Nat) : Int) < ((roadG l1 x.gen).length : Int) := by omega
        have HS := Lib.hid (HM.out.trans (show max (mostG l1 i) (roadG l1 x.gen).length = mostG l1 i by omega))
        clear hm
        go_wp2_with fail
        go_roundw
        case rel => exact ⟨i + 1, by omega, by go_num, by rw [HS.out], HB7.out⟩
        case measure => simp [intOf]; omega
    · have j1 : ¬ (i : Int) < (l1.length : Int) := by omega
      have hm : mostG l1 i = deepG l1 := by rw [← HD.out]; congr 1; omega
      rw [hm]
      have q3 : ((deepG l1 : Int) == (deepG l1 : Int)) = true := by simp
      clear hm
      go_wp2_with fail
      refine (awake12_any _).mono ?_
      rintro e w7 ⟨rfl, hb7⟩
      have HB7 := Lib.hid (HB4.out.trans ((HB.out.trans (hb7.mono HB.out.size)).mono HB4.out.size))
      go_wp2_with fail
      go_ret
      exact ⟨rfl, HB7.out⟩
theorem keepChecks_walk (v : Value) (l : List GenD) (w : World) (hrow : RowN encGn 4 (· < w.heap.size) w v l) (hl : l.length ≤ 140737488351232) (hok : ∀ x ∈ l, GenOk x) :
    Calls Try.prog 5 #[v] w fun e w' => e = .returned (.bool true) ∧ Below w.heap.size w w' :=
  keepChecks_walk_of (fun v l w N h1 h2 h3 => keepDeepest_any v l w h1 h2 h3) v l w hrow hl hok
end Go.Proofs.Ytgejocceegadhaa

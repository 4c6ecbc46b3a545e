/- KeepRoads: the walk, told what Cost answers. -/
import Derived.Test.YtgejocceegadhaaFrame
import Derived.Test.YtgejocceegadhaaGen
import Derived.Test.YtgejocceegadhaaKeepAwakeW
import Derived.Test.YtgejocceegadhaaKeepHoldMath
import Derived.Test.YtgejocceegadhaaKeepMath
import Derived.Test.YtgejocceegadhaaLandKAW
import Derived.Test.YtgejocceegadhaaOwnL
import Derived.Test.YtgejocceegadhaaRefKeep2W
import Derived.Test.YtgejocceegadhaaRefKeep4W
import Derived.Test.YtgejocceegadhaaRefKeepW
import Derived.Test.YtgejocceegadhaaRowN
import Derived.Test.YtgejocceegadhaaRows
import Derived.Test.YtgejocceegadhaaShelf
import Derived.BigQuiet
import Derived.BigRegion
import Derived.ChangeAlike
import Derived.Deep.QuietTactic
import Derived.LoopIn
import Derived.LoopNIn
import Derived.Maps.OwnIn
import Derived.Maps.OwnOps
import Derived.Maps.OwnSet
import Derived.Maps.RangeWalk
import Derived.OwnWalkIn
import Derived.RangeFuncBound
import Derived.RangeFuncCalls
import Derived.RangeFuncLeaves
import Derived.RangeFuncNested
import Derived.RegionTactic
import Derived.Shelf.Abstract
import Derived.Shelf.RegionOpen
import Derived.TacticsInMore
import Derived.WalkKit
set_option linter.unusedVariables false
namespace Go.Proofs.Ytgejocceegadhaa
open Go.RowKit

def byG (l : List GenD) (q : Int) : Int := match l[atN l q]? with | some x => x.bytes | none => 0
def costI (l : List GenD) (g : Int) (i : Nat) : Int := (((roadG l g).take i).map (byG l)).sum
theorem costI_all (l : List GenD) (g : Int) : costI l g (roadG l g).length = costG l g := by
  unfold costI costG
  rw [List.take_length]
  rfl
theorem costI_succ {l : List GenD} {g : Int} {i : Nat} (hi : i < (roadG l g).length) : costI l g (i + 1) = costI l g i + byG l (roadG l g)[i] := by
  unfold costI
  rw [List.take_succ_eq_append_getElem hi, List.map_append, List.sum_append]
  simp
theorem roadL_mem : ∀ (n : Nat) (l : List GenD) (g : Int), l.length ≤ n → ∀ q ∈ roadL l g, atN l q < l.length := by
  intro n
  induction n with
  | zero =>
    intro l g hl q hq
    have := roadL_len 0 l g hl
    have h0 : l.length = 0 := by omega
    rw [h0] at this
    rw [List.eq_nil_of_length_eq_zero (by omega : (roadL l g).length = 0)] at hq
    simp at hq
  | succ n ih =>
    intro l g hl q hq
    by_cases ha : atN l g < l.length
    · rw [roadL_step ha] at hq
      have hg : ∀ q, q = g → atN l q < l.length := fun q e => by rw [e]; exact ha
      split at hq
      · exact hg q (by simpa using hq)
      · rcases List.mem_append.1 hq with h | h
        · have h2 := ih (l.take (atN l g)) _ (by rw [List.length_take]; omega) q h
          obtain ⟨x, hx, e⟩ := List.mem_map.1 (atN_lt.1 h2)
          exact atN_lt.2 (List.mem_map.2 ⟨x, List.mem_of_mem_take hx, e⟩)
        · exact hg q (by simpa using h)
    · exfalso
      unfold roadL roadF at hq
      rw [List.getElem?_eq_none (by omega)] at hq
      simp at hq
theorem roadG_at {l : List GenD} {g : Int} {i : Nat} (hi : i < (roadG l g).length) : checkG l = 0 ∧ ∃ h : atN l (roadG l g)[i] < l.length, byG l (roadG l g)[i] = l[atN l (roadG l g)[i]].bytes := by
  have hc : checkG l = 0 := by
    by_cases c : checkG l = 0
    · exact c
    · exfalso
      have : roadG l g = [] := by unfold roadG; rw [if_pos (by unfold roadE; rw [if_pos c]; exact c)]
      rw [this] at hi
      simp at hi
  have hm : ∀ q ∈ roadG l g, atN l q < l.length := by
    intro q hq
    unfold roadG at hq
    split at hq
    · simp at hq
    · exact roadL_mem _ l g (Nat.le_refl _) q hq
  have ha := hm _ (List.getElem_mem hi)
  exact ⟨hc, ha, by unfold byG; rw [List.getElem?_eq_getElem ha]⟩
theorem costI_bound {l : List GenD} {g : Int} : ∀ i, i ≤ (roadG l g).length → 0 ≤ costI l g i ∧ costI l g i ≤ 524288 * (i : Int)
  | 0, _ => by unfold costI; simp
  | i + 1, h => by
    have ih := costI_bound (l := l) (g := g) i (by omega)
    obtain ⟨hc, ha, e⟩ := roadG_at (l := l) (g := g) (i := i) (by omega)
    have := (checkG_wf hc).1.good _ ha
    rw [costI_succ (by omega), e]
    omega
theorem roadG_len (l : List GenD) (g : Int) : (roadG l g).length ≤ l.length := by
  unfold roadG
  split
  · exact Nat.zero_le _
  · exact roadL_len _ l g (Nat.le_refl _)
set_option maxRecDepth 100000 in
set_option maxHeartbeats 4000000 in
theorem keepRoads_walk_of (KC : ∀ (v : Value) (l : List GenD) (g : Int) (w : World) {N : Nat → Prop}, RowN encGn 4 N w v l → l.length ≤ 140737488351232 → (∀ x ∈ l, GenOk x) → Calls Try.prog 22 #[v, .int .i64 g] w fun e w' => e = .returned (.tuple #[.int .i64 (costG l g), .int .i64 (roadE l g)]) ∧ Below w.heap.size w w')
    (v : Value) (l : List GenD) (g : Int) (g1 : -9223372036854775808 ≤ g) (g2 : g ≤ 9223372036854775807) (w : World) (hrow : RowN encGn 4 (· < w.heap.size) w v l) (hl : l.length ≤ 140737488351232) (hok : ∀ x ∈ l, GenOk x) :
    Calls Try.prog 6 #[v, .int .i64 g] w fun e w' => e = .returned (.bool true) ∧ Below w.heap.size w w' := by
  have HR := Lib.hid hrow
  have HOK := Lib.hid hok
  obtain ⟨va, vc, hv, hvc⟩ := hrow.slice
  subst hv
  have FW := Lib.hid (few12_any _ l w HR.out hl)
  clear hrow hok
  go_enter Try.func6, Try.ntmps6
  go_wp2_with fail
  refine FW.out.mono ?_
  rintro e w1 ⟨v1, rfl, hr1, rfl⟩
  have HOK1 := Lib.hid (fun x (hx : x ∈ l.take 60) => HOK.out x (List.mem_of_mem_take hx))
  obtain ⟨l1, hl1⟩ : ∃ l1, l1 = l.take 60 := ⟨_, rfl⟩
  rw [← hl1] at HOK1 hr1
  have hl60 : l1.length ≤ 60 := by rw [hl1, List.length_take]; omega
  have HR1 := Lib.hid hr1
  clear hl1
  obtain ⟨va1, vc1, hv, _⟩ := hr1.slice
  subst hv
  clear hr1 FW HR
  have K1 := Lib.hid (keepRoad_any _ l1 g _ HR1.out (by omega) HOK1.out)
  go_wp2_with fail
  refine K1.out.mono ?_
  rintro e w2 ⟨v2, rfl, ho2, hb2⟩
  have HO2 := Lib.hid (OwnN.row encI1_ok ho2)
  obtain ⟨va2, vc2, hv2, _⟩ := HO2.out.slice
  subst hv2
  have HB2 := Lib.hid hb2
  have HR2 := Lib.hid (HR1.out.keep hb2)
  clear K1 hb2 ho2
  have K2 := Lib.hid (refRoad12_any _ _ l1 g _ (Nat.le_refl _) HR2.out (by omega) HOK1.out)
  go_wp2_with fail
  refine K2.out.mono ?_
  rintro e w3 ⟨v3, rfl, ho3, hb3⟩
  have HO3 := Lib.hid (OwnN.row encI1_ok ho3)
  obtain ⟨va3, vc3, hv3, _⟩ := HO3.out.slice
  subst hv3
  have HB3 := Lib.hid (HB2.out.trans (hb3.mono HB2.out.size))
  have HR3 := Lib.hid (HR2.out.keep hb3)
  have HO23 := Lib.hid (HO2.out.keep hb3)
  clear K2 hb3 ho3 HB2 HR2 HO2 HR1
  have K3 := Lib.hid (KC _ l1 g _ HR3.out (by omega) HOK1.out)
  go_wp2_with fail
  refine K3.out.mono ?_
  rintro e w4 ⟨rfl, hb4⟩
  have HB4 := Lib.hid (HB3.out.trans (hb4.mono HB3.out.size))
  have HR4 := Lib.hid (HR3.out.keep hb4)
  have HO24 := Lib.hid (HO23.out.keep hb4)
  have HO34 := Lib.hid (HO3.out.keep hb4)
  clear K3 hb4 HB3 HR3 HO23 HO3
  have HRL := roadG_len l1 g
  have HCA := Lib.hid (costI_all l1 g)
  have HCB := Lib.hid (fun i => costI_bound (l := l1) (g := g) i)
  have HCS := Lib.hid (fun i => costI_succ (l := l1) (g := g) (i := i))
  have HRA := Lib.hid (fun i => roadG_at (l := l1) (g := g) (i := i))
  have HC0 := Lib.hid (show costI l1 g 0 = 0 from rfl)
  generalize roadE l1 g = re at *
  generalize costG l1 g = cg at *
  generalize roadG l1 g = rg at *
  generalize costI l1 g = ci at *
  go_wp2_with fail
  go_loopw [11, 12] (fun v11 v12 wr => ∃ i : Nat, i ≤ rg.length ∧ v12 = .int .i64 (i : Nat) ∧ v11 = .int .i64 (ci i) ∧ Below w4.heap.size w4 wr) (fun _ v12 _ => rg.length - (intOf v12).toNat)
  case atStart => exact ⟨0, Nat.zero_le _, rfl, by rw [HC0.out], Below.refl _ _⟩
  case round =>
    obtain ⟨i, hi, rfl, rfl, hb⟩ := hrel
    have HB := Lib.hid hb
    clear hb
    have i0 : (0 : Int) ≤ (i : Int) := by omega
    by_cases hlt : i < rg.length
    · have j1 : (i : Int) < (rg.length : Int) := by omega
      obtain ⟨b, o, c', hv, hn, hel⟩ := (HO34.out.keep HB.out).at hlt
      injection hv with ea eb ec
      subst ea; subst ec
      clear eb
      have HS := Lib.hid (HCS.out i hlt)
      have HB1 := HCB.out i hi
      have HB2 := HCB.out (i + 1) hlt
      have HA := Lib.hid (HRA.out i hlt)
      generalize rg[i] = q at *
      have d4 : wr.cell? ⟨b, o + i * 1 + 0, none⟩ = some (.int .i64 q) := hel 0 _ rfl
      rw [Nat.mul_one, Nat.add_zero] at d4
      clear hel
      obtain ⟨hc, ha, he⟩ := HA.out
      have AT := Lib.hid (refAt12_any _ l1 q wr (HR4.out.keep HB.out) (by omega))
      have hz : atZ l1 q = (atN l1 q : Int) := by unfold atZ; rw [if_pos ha]
      rw [hz] at AT
      obtain ⟨b2, o2, c2', hv, hn2, hel2⟩ := (HR4.out.keep HB.out).at ha
      injection hv with ea eb ec
      subst ea; subst ec
      clear eb
      have HSS := Lib.hid (show ci (i + 1) = ci i + l1[atN l1 q].bytes by rw [HS.out, he])
      have d5 := hel2 2 _ rfl
      have m0 : (0 : Int) ≤ (atN l1 q : Int) := by omega
      have m1 : (atN l1 q : Int) < (l1.length : Int) := by omega
      rw [HSS.out] at HB2
      generalize l1[atN l1 q] = x at *
      generalize atN l1 q = k at *
      have u1 : wrap64 (ci i + x.bytes) = ci i + x.bytes := IntWalk.wrap64_in _ (by omega)
      clear hel2 hz he ha hc HA HS HB1 HB2
      go_wp2_with fail
      refine AT.out.mono ?_
      rintro e w7 ⟨rfl, rfl⟩
      go_wp2_with fail
      go_roundw
      case rel => exact ⟨i + 1, by omega, by go_num, by rw [HSS.out]; exact congrArg (Value.int .i64) u1, HB.out⟩
      case measure => simp [intOf]; omega
    · have j1 : ¬ (i : Int) < (rg.length : Int) := by omega
      have hm : ci i = cg := by rw [← HCA.out]; congr 1; omega
      rw [hm]
      have q3 : (cg == cg) = true := by simp
      have q4 : (re == re) = true := by simp
      clear hm
      have SM := Lib.hid (refInts12_same _ _ rg wr (HO24.out.keep HB.out) (HO34.out.keep HB.out) (by omega))
      go_wp2_with fail
      refine SM.out.mono ?_
      rintro e w6 ⟨rfl, hb6⟩
      have HB6 := Lib.hid (HB.out.trans (hb6.mono HB.out.size))
      clear SM hb6 HB
      go_wp2_with fail
      refine (awake12_any _).mono ?_
      rintro e w7 ⟨rfl, hb7⟩
      have HB7 := Lib.hid (HB4.out.trans ((HB6.out.trans (hb7.mono HB6.out.size)).mono HB4.out.size))
      go_wp2_with fail
      go_ret
      exact ⟨rfl, HB7.out⟩
theorem keepRoads_walk (v : Value) (l : List GenD) (g : Int) (g1 : -9223372036854775808 ≤ g) (g2 : g ≤ 9223372036854775807) (w : World) (hrow : RowN encGn 4 (· < w.heap.size) w v l) (hl : l.length ≤ 140737488351232) (hok : ∀ x ∈ l, GenOk x) :
    Calls Try.prog 6 #[v, .int .i64 g] w fun e w' => e = .returned (.bool true) ∧ Below w.heap.size w w' :=
  keepRoads_walk_of (fun v l g w N h1 h2 h3 => keepCost_any v l g w h1 h2 h3) v l g g1 g2 w hrow hl hok
end Go.Proofs.Ytgejocceegadhaa

/- Landed keep: Road, Cost. -/
import Derived.Test.YtgejocceegadhaaFrame
import Derived.Test.YtgejocceegadhaaGen
import Derived.Test.YtgejocceegadhaaKeepHoldMath
import Derived.Test.YtgejocceegadhaaKeepMath
import Derived.Test.YtgejocceegadhaaLandK3W
import Derived.Test.YtgejocceegadhaaLandK9W
import Derived.Test.YtgejocceegadhaaLandKMath
import Derived.Test.YtgejocceegadhaaOwnL
import Derived.Test.YtgejocceegadhaaRefKeep2W
import Derived.Test.YtgejocceegadhaaRefKeep4W
import Derived.Test.YtgejocceegadhaaRowN
import Derived.Test.YtgejocceegadhaaRows
import Derived.Test.YtgejocceegadhaaShelf
import Derived.BigQuiet
import Derived.BigRegion
import Derived.ChangeAlike
import Derived.Deep.QuietTactic
import Derived.Lib.Hide
import Derived.LoopIn
import Derived.LoopNIn
import Derived.Maps.OwnIn
import Derived.Outline
import Derived.OwnWalkIn
import Derived.RangeFuncBound
import Derived.RangeFuncCalls
import Derived.RangeFuncLeaves
import Derived.RangeFuncNested
import Derived.RegionTactic
import Derived.Shelf.Abstract
import Derived.Shelf.RegionOpen
import Derived.TacticsInMore
import Derived.WalkKit
import Derived.WalkLawsBesides
import Derived.WalkSpells
set_option linter.unusedVariables false
namespace Go.Proofs.Ytgejocceegadhaa
open Go.RowKit

theorem roadE_zero {l : List GenD} {g : Int} (h : roadE l g = 0) : GWf l ∧ l.length ≤ 4096 := by
  unfold roadE at h
  split at h
  · rename_i k; exact absurd h k
  · rename_i k; exact checkG_wf (Classical.byContradiction k)
theorem wayX_len (l : List GenD) (g : Int) : (wayX l g).length ≤ l.length := by
  unfold wayX
  split
  · exact Nat.zero_le _
  · unfold wayL
    rw [List.length_reverse]
    have := wayR_len l.reverse g
    rwa [List.length_reverse] at this
set_option maxRecDepth 100000 in
set_option maxHeartbeats 2000000 in
theorem keepRoad_any (v : Value) (l : List GenD) (g : Int) (w : World) {N : Nat → Prop} (hrow : RowN encGn 4 N w v l) (hl : l.length ≤ 140737488351232) (hok : ∀ x ∈ l, GenOk x) : Calls Try.prog 21 #[v, .int .i64 g] w fun e w' => ∃ v', e = .returned (.tuple #[v', .int .i64 (roadE l g)]) ∧ OwnN encI1 1 w' w.heap.size 3 v' (roadG l g) ∧ Below w.heap.size w w' := by
  have AL := Lib.hid (along_any v l g w hrow hl hok)
  obtain ⟨va, vc, hv, _⟩ := hrow.slice
  subst hv
  clear hrow
  by_cases hc : roadE l g = 0
  · obtain ⟨hwf, hlen⟩ := roadE_zero hc
    have HG := Lib.hid (show roadG l g = (wayX l g).map (·.gen) by
      unfold roadG wayX
      rw [if_neg (by rw [hc]; simp), if_neg (by rw [hc]; simp), wayL_road _ l g rfl hwf])
    have hwl := wayX_len l g
    rw [hc] at AL ⊢
    clear hc hwf
    generalize wayX l g = s at *
    have hsl : s.length ≤ 4096 := by omega
    go_enter Try.func21, Try.ntmps21
    go_wp2_with fail
    refine AL.out.mono ?_
    rintro e w1 ⟨v1, rfl, ho1, hb1⟩
    have HS1 := Lib.hid (OwnN.row encGn_ok ho1)
    obtain ⟨sa, sc, hv1, _⟩ := HS1.out.slice
    subst hv1
    have HB1 := Lib.hid hb1
    clear ho1 hb1 AL
    go_wp2_with fail
    go_loopw [8, 22] (fun v8 v22 wr => ∃ k : Nat, k ≤ s.length ∧ v22 = .int .i64 (k : Nat) ∧ OwnN encI1 1 wr w1.heap.size 3 v8 ((s.take k).map (·.gen)) ∧ Below w1.heap.size w1 wr) (fun _ v22 _ => s.length - (intOf v22).toNat)
    case atStart => exact ⟨0, Nat.zero_le _, rfl, OwnN.nil _ _ _ _ _, Below.refl _ _⟩
    case round =>
      obtain ⟨k, hk, rfl, hown, hb⟩ := hrel
      have HO := Lib.hid hown
      have HB := Lib.hid hb
      clear hown hb
      have k0 : (0 : Int) ≤ (k : Int) := by omega
      by_cases hkl : k < s.length
      · have j2 : (k : Int) < (s.length : Int) := by omega
        obtain ⟨b, o, c', hv, hn, hel⟩ := (HS1.out.keep HB.out).at hkl
        injection hv with ea eb ec
        subst ea; subst ec
        clear eb
        have HT := Lib.hid (show (s.take (k + 1)).map (·.gen) = (s.take k).map (·.gen) ++ [s[k].gen] from by rw [List.take_succ_eq_append_getElem hkl, List.map_append]; rfl)
        have hol : ((s.take k).map (·.gen)).length ≤ 4096 := by rw [List.length_map, List.length_take]; omega
        generalize (s.take k).map (·.gen) = out at *
        generalize s[k] = x at *
        obtain ⟨xg, xb, xn, xm⟩ := x
        have d0 := hel 0 _ rfl
        have d1 := hel 1 _ rfl
        have d2 := hel 2 _ rfl
        have d3 := hel 3 _ rfl
        rw [Nat.add_zero] at d0
        dsimp only at d0 d1 d2 d3 HT
        clear hel
        have hbA : Below wr.heap.size wr (wr.alloc (.cells #[.int .i64 xg, .int .i64 xb, .int .i64 xn, .string ⟨xm.toArray⟩] 38)) := (Below.refl _ wr).alloc (Nat.le_refl _) _
        have HBA := Lib.hid (HB.out.trans (hbA.mono HB.out.size))
        have HOA := Lib.hid (HO.out.new hbA)
        have hsz := HBA.out.size
        have HSZ := Lib.hid (show (wr.alloc (.cells #[.int .i64 xg, .int .i64 xb, .int .i64 xn, .string ⟨xm.toArray⟩] 38)).heap.size = wr.heap.size + 1 by simp)
        clear hbA
        go_wp2_with (at_builtin; go_loud (refine append_new (enc := encI1) (k := 1) (w := _) (by rfl) (.tmp 26) (.tmp 29) 34 3 (.int .i64 0) 8 (by rfl) Try.underlying34 info_int12 (by rfl) (by decide) encI1_ok w1.heap.size _ out xg (by rfl) HOA.out (by rw [HSZ.out]; rfl) (by omega) (by unfold maxLen; omega) hsz _ (by rfl) ?_; intro v7 w7 hown7 ht7; have HO7 := Lib.hid hown7; have HB7 := Lib.hid (HBA.out.trans ht7.bel); clear hown7 ht7))
        go_roundw
        case rel => exact ⟨k + 1, hkl, by go_num, by rw [HT.out]; exact HO7.out, HB7.out⟩
        case measure => simp [intOf]; omega
      · have j2 : ¬ (k : Int) < (s.length : Int) := by omega
        rw [List.take_of_length_le (by omega)] at HO
        have HBF := Lib.hid (HB1.out.trans (HB.out.mono HB1.out.size))
        have HOF := Lib.hid (HO.out.mono HB1.out.size)
        go_wp2_with fail
        go_ret2
        exact ⟨_, rfl, by rw [HG.out]; exact HOF.out, HBF.out⟩
  · have HG := Lib.hid (show roadG l g = [] by unfold roadG; rw [if_pos hc])
    have q1 : (roadE l g != 0) = true := by simp [hc]
    generalize roadE l g = ce at *
    clear hc
    go_enter Try.func21, Try.ntmps21
    go_wp2_with fail
    refine AL.out.mono ?_
    rintro e w1 ⟨v1, rfl, ho1, hb1⟩
    obtain ⟨sa, sc, hv1, _⟩ := (OwnN.row encGn_ok ho1).slice
    subst hv1
    have HB1 := Lib.hid hb1
    clear hb1 ho1 AL
    go_wp2_with fail
    go_ret2
    exact ⟨_, rfl, by rw [HG.out]; exact OwnN.nil _ _ _ _ _, HB1.out⟩
/-- A sum of so many small ones. -/
theorem sum_in {l : List Int} (h : ∀ x ∈ l, 0 ≤ x ∧ x ≤ 524288) : 0 ≤ l.sum ∧ l.sum ≤ 524288 * l.length := by
  induction l with
  | nil => simp
  | cons x r ih =>
    have h1 := h x List.mem_cons_self
    have h2 := ih (fun y hy => h y (List.mem_cons_of_mem _ hy))
    rw [List.sum_cons, List.length_cons]
    omega
set_option maxRecDepth 100000 in
set_option maxHeartbeats 2000000 in
theorem keepCost_any (v : Value) (l : List GenD) (g : Int) (w : World) {N : Nat → Prop} (hrow : RowN encGn 4 N w v l) (hl : l.length ≤ 140737488351232) (hok : ∀ x ∈ l, GenOk x) : Calls Try.prog 22 #[v, .int .i64 g] w fun e w' => e = .returned (.tuple #[.int .i64 (costG l g), .int .i64 (roadE l g)]) ∧ Below w.heap.size w w' := by
  have AL := Lib.hid (along_any v l g w hrow hl hok)
  obtain ⟨va, vc, hv, _⟩ := hrow.slice
  subst hv
  clear hrow
  by_cases hc : roadE l g = 0
  · obtain ⟨hwf, hlen⟩ := roadE_zero hc
    have HX := Lib.hid (show wayX l g = wayL l g by unfold wayX; rw [if_neg (by rw [hc]; simp)])
    have HG := Lib.hid (show costG l g = ((wayX l g).map (·.bytes)).sum by rw [HX.out]; exact cost_way hc)
    have HIN := Lib.hid (show ∀ y ∈ wayX l g, 0 ≤ y.bytes ∧ y.bytes ≤ 524288 from fun y hy => by
      rw [HX.out] at hy
      have := hwf.mem.good y (wayL_mem hy)
      exact ⟨this.2.1, this.2.2⟩)
    have hwl := wayX_len l g
    rw [hc] at AL ⊢
    clear hc hwf HX
    generalize wayX l g = s at *
    have hsl : s.length ≤ 4096 := by omega
    go_enter Try.func22, Try.ntmps22
    go_wp2_with fail
    refine AL.out.mono ?_
    rintro e w1 ⟨v1, rfl, ho1, hb1⟩
    have HS1 := Lib.hid (OwnN.row encGn_ok ho1)
    obtain ⟨sa, sc, hv1, _⟩ := HS1.out.slice
    subst hv1
    have HB1 := Lib.hid hb1
    clear ho1 hb1 AL
    go_wp2_with fail
    go_loopw [8, 22] (fun v8 v22 wr => ∃ k : Nat, k ≤ s.length ∧ v22 = .int .i64 (k : Nat) ∧ v8 = .int .i64 (((s.take k).map (·.bytes)).sum) ∧ Below w1.heap.size w1 wr) (fun _ v22 _ => s.length - (intOf v22).toNat)
    case atStart => exact ⟨0, Nat.zero_le _, rfl, rfl, Below.refl _ _⟩
    case round =>
      obtain ⟨k, hk, rfl, rfl, hb⟩ := hrel
      have HB := Lib.hid hb
      clear hb
      have k0 : (0 : Int) ≤ (k : Int) := by omega
      by_cases hkl : k < s.length
      · have j2 : (k : Int) < (s.length : Int) := by omega
        obtain ⟨b, o, c', hv, hn, hel⟩ := (HS1.out.keep HB.out).at hkl
        injection hv with ea eb ec
        subst ea; subst ec
        clear eb
        have HT := Lib.hid (show ((s.take (k + 1)).map (·.bytes)).sum = ((s.take k).map (·.bytes)).sum + s[k].bytes from by rw [List.take_succ_eq_append_getElem hkl, List.map_append, List.sum_append]; simp)
        have hs0 := sum_in (l := (s.take k).map (·.bytes)) (fun x hx => by
          obtain ⟨y, hy, rfl⟩ := List.mem_map.1 hx
          exact HIN.out y (List.mem_of_mem_take hy))
        rw [List.length_map, List.length_take] at hs0
        have hx0 := HIN.out _ (List.getElem_mem hkl)
        generalize ((s.take k).map (·.bytes)).sum = z at *
        generalize s[k] = x at *
        obtain ⟨xg, xb, xn, xm⟩ := x
        have d0 := hel 0 _ rfl
        have d1 := hel 1 _ rfl
        have d2 := hel 2 _ rfl
        have d3 := hel 3 _ rfl
        rw [Nat.add_zero] at d0
        dsimp only at d0 d1 d2 d3 HT hx0
        clear hel
        obtain ⟨z0, z1⟩ := hs0
        obtain ⟨x0, x1⟩ := hx0
        have z2 : z ≤ 2147483648 := by omega
        have u1 : wrap64 (z + xn) = z + xn := IntWalk.wrap64_in _ (by omega)
        clear z1
        have HBA := Lib.hid (HB.out.trans (((Below.refl _ wr).alloc (Nat.le_refl _) (.cells #[.int .i64 xg, .int .i64 xb, .int .i64 xn, .string ⟨xm.toArray⟩] 38)).mono HB.out.size))
        go_wp2_with fail
        go_roundw
        case rel => exact ⟨k + 1, hkl, by go_num, by rw [HT.out], HBA.out⟩
        case measure => simp [intOf]; omega
      · have j2 : ¬ (k : Int) < (s.length : Int) := by omega
        have HZ := Lib.hid (show ((s.take k).map (·.bytes)).sum = costG l g by rw [HG.out, List.take_of_length_le (by omega)])
        have HBF := Lib.hid (HB1.out.trans (HB.out.mono HB1.out.size))
        generalize ((s.take k).map (·.bytes)).sum = z at *
        go_wp2_with fail
        go_ret2
        exact ⟨by rw [← HZ.out]; rfl, HBF.out⟩
  · have HG := Lib.hid (show costG l g = 0 by unfold costG roadG; rw [if_pos hc]; rfl)
    have q1 : (roadE l g != 0) = true := by simp [hc]
    rw [HG.out]
    generalize roadE l g = ce at *
    clear hc
    go_enter Try.func22, Try.ntmps22
    go_wp2_with fail
    refine AL.out.mono ?_
    rintro e w1 ⟨v1, rfl, ho1, hb1⟩
    obtain ⟨sa, sc, hv1, _⟩ := (OwnN.row encGn_ok ho1).slice
    subst hv1
    have HB1 := Lib.hid hb1
    clear hb1 ho1 AL
    go_wp2_with fail
    go_ret2
    exact ⟨rfl, HB1.out⟩
end Go.Proofs.Ytgejocceegadhaa

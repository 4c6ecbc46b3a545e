/- Landed keep: Need. -/
import Derived.Test.YtgejocceegadhaaFrame
import Derived.Test.YtgejocceegadhaaGen
import Derived.Test.YtgejocceegadhaaKeepHoldMath
import Derived.Test.YtgejocceegadhaaKeepMath
import Derived.Test.YtgejocceegadhaaLandK2W
import Derived.Test.YtgejocceegadhaaLandK5W
import Derived.Test.YtgejocceegadhaaLandKMath
import Derived.Test.YtgejocceegadhaaOwnL
import Derived.Test.YtgejocceegadhaaRefKeep2W
import Derived.Test.YtgejocceegadhaaRefKeep4W
import Derived.Test.YtgejocceegadhaaRowN
import Derived.Test.YtgejocceegadhaaRows
import Derived.Test.YtgejocceegadhaaShelf
import Derived.BigQuiet
import Derived.Deep.QuietTactic
import Derived.Lib.Hide
import Derived.Outline
import Derived.WalkKit
import Derived.WalkLawsBesides
import Derived.WalkSpells
set_option linter.unusedVariables false
namespace Go.Proofs.Ytgejocceegadhaa
open Go.RowKit

theorem needE_zero {l : List GenD} {wt : List Int} (h : needE l wt = 0) : checkG l = 0 ∧ GWf l ∧ l.length ≤ 4096 := by
  have hc : checkG l = 0 := by
    unfold needE at h
    split at h
    · rename_i k; exact absurd h k
    · rename_i k; exact Classical.byContradiction k
  exact ⟨hc, checkG_wf hc⟩
set_option maxRecDepth 100000 in
set_option maxHeartbeats 4000000 in
theorem keepNeed_any (v u : Value) (l : List GenD) (wt : List Int) (w : World) {N M : Nat → Prop} (hrow : RowN encGn 4 N w v l) (hl : l.length ≤ 140737488351232) (hok : ∀ x ∈ l, GenOk x) (hwt : RowN encI1 1 M w u wt) (hwl : wt.length ≤ 140737488351232) (hwi : ∀ x ∈ wt, -9223372036854775808 ≤ x ∧ x ≤ 9223372036854775807) :
    Calls Try.prog 25 #[v, u] w fun e w' => ∃ v', e = .returned (.tuple #[v', .int .i64 (needE l wt)]) ∧ OwnN encI1 1 w' w.heap.size 3 v' (needG l wt) ∧ Below w.heap.size w w' := by
  have ST := Lib.hid (staying_any v u l wt w hrow hl hok hwt hwl hwi)
  obtain ⟨va, vc, hv, hvc⟩ := hrow.slice
  subst hv
  obtain ⟨ua, uc, hu, _⟩ := hwt.slice
  subst hu
  clear hrow hwt hwi
  by_cases hc : needE l wt = 0
  · obtain ⟨hck, hwf, hlen⟩ := needE_zero hc
    have HUP := Lib.hid (stayG_up hwf wt)
    have HPN := Lib.hid (places_need hwf wt)
    have hsl : (stayG l wt).length ≤ 4096 := by have := stayG_len l wt; omega
    have HG := Lib.hid (show needG l wt = needL l wt by unfold needG; rw [if_neg (by rw [hc]; simp)])
    have HSX := Lib.hid (show stayX l wt = stayG l wt by unfold stayX; rw [if_neg (by rw [hc]; simp)])
    rw [HSX.out, hc] at ST
    rw [hc]
    clear hc hck hwf HSX
    generalize stayG l wt = s at *
    go_enter Try.func25, Try.ntmps25
    go_wp2_with fail
    refine ST.out.mono ?_
    rintro e w1 ⟨v1, rfl, ho1, hb1⟩
    have HS1 := Lib.hid (OwnN.row encGn_ok ho1)
    obtain ⟨sa, sc, hv1, _⟩ := HS1.out.slice
    subst hv1
    have HB1 := Lib.hid hb1
    have ND := Lib.hid (needing_any _ s w1 HS1.out hsl HUP.out)
    clear ho1 hb1 ST HUP
    go_wp2_with fail
    refine ND.out.mono ?_
    rintro e w2 ⟨v2, rfl, ho2, hb2⟩
    have HP2 := Lib.hid (OwnN.row encPl_ok ho2)
    obtain ⟨pa, pc, hv2, _⟩ := HP2.out.slice
    subst hv2
    have HS2 := Lib.hid (HS1.out.keep hb2)
    have HB2 := Lib.hid (HB1.out.trans (hb2.mono HB1.out.size))
    have hpl : (placesG s).length ≤ 4096 := Nat.le_trans (placesTo_len s s.length) hsl
    have HPL := Lib.hid (fun i (hi : i ∈ placesG s) => placesG_lt hi)
    clear ho2 hb2 ND HS1 HB1
    generalize placesG s = P at *
    go_wp2_with fail
    go_loopw [8, 23] (fun v8 v23 wr => ∃ k : Nat, k ≤ P.length ∧ v23 = .int .i64 (k : Nat) ∧ OwnN encI1 1 wr w2.heap.size 3 v8 ((P.take k).map (genAt s)) ∧ Below w2.heap.size w2 wr) (fun _ v23 _ => P.length - (intOf v23).toNat)
    case atStart => exact ⟨0, Nat.zero_le _, rfl, OwnN.nil _ _ _ _ _, Below.refl _ _⟩
    case round =>
      obtain ⟨k, hk, rfl, hown, hb⟩ := hrel
      have HO := Lib.hid hown
      have HB := Lib.hid hb
      clear hown hb
      have k0 : (0 : Int) ≤ (k : Int) := by omega
      by_cases hkl : k < P.length
      · have j2 : (k : Int) < (P.length : Int) := by omega
        obtain ⟨b, o, c', hv, hn, hel⟩ := (HP2.out.keep HB.out).at hkl
        injection hv with ea eb ec
        subst ea; subst ec
        clear eb
        have HT := Lib.hid (show (P.take (k + 1)).map (genAt s) = (P.take k).map (genAt s) ++ [genAt s P[k]] from by rw [List.take_succ_eq_append_getElem hkl, List.map_append]; rfl)
        have hps := HPL.out P[k] (List.getElem_mem hkl)
        have hol : ((P.take k).map (genAt s)).length ≤ 4096 := by rw [List.length_map, List.length_take]; omega
        generalize P[k] = i at *
        have p0 : wr.cell? ⟨b, o + k * 1 + 0, none⟩ = some (.int .i64 (i : Int)) := hel 0 _ rfl
        rw [Nat.mul_one, Nat.add_zero] at p0
        clear hel
        have HGA := Lib.hid (genAt_get hps)
        obtain ⟨b2, o2, c2, hv, hn2, hel⟩ := (HS2.out.keep HB.out).at hps
        injection hv with ea eb ec
        subst ea; subst ec
        clear eb
        have i0 : (0 : Int) ≤ (i : Int) := by omega
        have i1 : (i : Int) < (s.length : Int) := by omega
        generalize (P.take k).map (genAt s) = out at *
        generalize s[i] = x at *
        obtain ⟨xg, xb, xn, xm⟩ := x
        have d0 := hel 0 _ rfl
        rw [Nat.add_zero] at d0
        dsimp only at d0 HGA
        rw [HGA.out] at HT
        clear hel HGA hps
        have hsz := HB.out.size
        go_wp2_with (at_builtin; go_loud (refine append_new (enc := encI1) (k := 1) (w := wr) (by rfl) (.tmp 27) (.tmp 33) 34 3 (.int .i64 0) 8 (by rfl) Try.underlying34 info_int12 (by rfl) (by decide) encI1_ok w2.heap.size _ out xg (by rfl) HO.out (by rfl) (by omega) (by unfold maxLen; omega) hsz _ (by rfl) ?_; intro v7 w7 hown7 ht7; have HO7 := Lib.hid hown7; have HB7 := Lib.hid (HB.out.trans ht7.bel); clear hown7 ht7))
        go_roundw
        case rel => exact ⟨k + 1, hkl, by go_num, by rw [HT.out]; exact HO7.out, HB7.out⟩
        case measure => simp [intOf]; omega
      · have j2 : ¬ (k : Int) < (P.length : Int) := by omega
        rw [List.take_of_length_le (by omega)] at HO
        have HBF := Lib.hid (HB2.out.trans (HB.out.mono HB2.out.size))
        have HOF := Lib.hid (HO.out.mono HB2.out.size)
        go_wp2_with fail
        go_ret2
        exact ⟨_, rfl, by rw [HG.out, ← HPN.out]; exact HOF.out, HBF.out⟩
  · have HG := Lib.hid (show needG l wt = [] by unfold needG; rw [if_pos hc])
    have q1 : (needE l wt != 0) = true := by simp [hc]
    generalize needE l wt = ce at *
    clear hc
    go_enter Try.func25, Try.ntmps25
    go_wp2_with fail
    refine ST.out.mono ?_
    rintro e w1 ⟨v1, rfl, ho1, hb1⟩
    obtain ⟨sa, sc, hv1, _⟩ := (OwnN.row encGn_ok ho1).slice
    subst hv1
    have HB1 := Lib.hid hb1
    clear hb1 ho1 ST
    go_wp2_with fail
    go_ret2
    exact ⟨_, rfl, by rw [HG.out]; exact OwnN.nil _ _ _ _ _, HB1.out⟩
end Go.Proofs.Ytgejocceegadhaa

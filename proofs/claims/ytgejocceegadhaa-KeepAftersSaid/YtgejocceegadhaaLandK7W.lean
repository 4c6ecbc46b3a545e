/- Landed keep: After. -/
import Derived.Test.YtgejocceegadhaaFrame
import Derived.Test.YtgejocceegadhaaGen
import Derived.Test.YtgejocceegadhaaKeepHoldMath
import Derived.Test.YtgejocceegadhaaKeepMath
import Derived.Test.YtgejocceegadhaaLandK1W
import Derived.Test.YtgejocceegadhaaLandK2W
import Derived.Test.YtgejocceegadhaaLandK3W
import Derived.Test.YtgejocceegadhaaLandK5W
import Derived.Test.YtgejocceegadhaaLandK6W
import Derived.Test.YtgejocceegadhaaLandKMath
import Derived.Test.YtgejocceegadhaaOwnL
import Derived.Test.YtgejocceegadhaaOwnPut
import Derived.Test.YtgejocceegadhaaRefKeep2W
import Derived.Test.YtgejocceegadhaaRowN
import Derived.Test.YtgejocceegadhaaRows
import Derived.Test.YtgejocceegadhaaShelf
import Derived.BigQuiet
import Derived.BigRegion
import Derived.Deep.QuietTactic
import Derived.Deep.RegionHeld3
import Derived.Lib.Hide
import Derived.Outline
import Derived.WalkKit
import Derived.WalkLawsBesides
import Derived.WalkSpells
set_option linter.unusedVariables false
namespace Go.Proofs.Ytgejocceegadhaa
open Go.RowKit

set_option maxRecDepth 100000 in
set_option maxHeartbeats 4000000 in
theorem keepAfter_any (v u z : Value) (l : List GenD) (wt wh : List Int) (w : World) {N M L : Nat → Prop} (hrow : RowN encGn 4 N w v l) (hl : l.length ≤ 140737488351232) (hok : ∀ x ∈ l, GenOk x) (hwt : RowN encI1 1 M w u wt) (hwl : wt.length ≤ 140737488351232) (hwi : ∀ x ∈ wt, -9223372036854775808 ≤ x ∧ x ≤ 9223372036854775807) (hwh : RowN encI1 1 L w z wh) (hzl : wh.length ≤ 140737488351232) :
    Calls Try.prog 27 #[v, u, z] w fun e w' => ∃ v', e = .returned (.tuple #[v', .int .i64 (afterE l wt wh)]) ∧ OwnN encGn 4 w' w.heap.size 38 v' (afterG l wt wh) ∧ Below w.heap.size w w' := by
  have ST := Lib.hid (staying_any v u l wt w hrow hl hok hwt hwl hwi)
  have HH := Lib.hid hwh
  have HOK := Lib.hid hok
  obtain ⟨va, vc, hv, hvc⟩ := hrow.slice
  subst hv
  obtain ⟨ua, uc, hu, _⟩ := hwt.slice
  subst hu
  obtain ⟨za, zc, hz, _⟩ := hwh.slice
  subst hz
  clear hrow hwt hwi hwh hok
  by_cases hc : needE l wt = 0
  · obtain ⟨hck, hwf, hlen⟩ := needE_zero hc
    have HUP := Lib.hid (stayG_up hwf wt)
    have HPN := Lib.hid (places_need hwf wt)
    have hsl : (stayG l wt).length ≤ 4096 := by have := stayG_len l wt; omega
    have HSX := Lib.hid (show stayX l wt = stayG l wt by unfold stayX; rw [if_neg (by rw [hc]; simp)])
    have HAE := Lib.hid (show afterE l wt wh = if (needL l wt).length = wh.length then 0 else 1 by unfold afterE; rw [if_neg (by rw [hc]; simp)])
    have HAL := Lib.hid (show afterL l wt wh = (stayG l wt).map (afterX (needL l wt) wh) from rfl)
    have HML := Lib.hid (fun x (hx : x ∈ stayG l wt) => (HOK.out x (List.mem_filter.1 hx).1).m)
    rw [HSX.out, hc] at ST
    clear hc hck hwf HSX HOK
    generalize stayG l wt = s at *
    go_enter Try.func27, Try.ntmps27
    go_wp2_with fail
    refine ST.out.mono ?_
    rintro e w1 ⟨v1, rfl, ho1, hb1⟩
    have HS1 := Lib.hid (OwnN.row encGn_ok ho1)
    obtain ⟨sa, sc, hv1, _⟩ := HS1.out.slice
    subst hv1
    have HO1 := Lib.hid ho1
    have HB1 := Lib.hid hb1
    have ND := Lib.hid (needing_any _ s w1 HS1.out hsl HUP.out)
    clear ho1 hb1 ST
    go_wp2_with fail
    refine ND.out.mono ?_
    rintro e w2 ⟨v2, rfl, ho2, hb2⟩
    have HP2 := Lib.hid (OwnN.row encPl_ok ho2)
    obtain ⟨pa, pc, hv2, _⟩ := HP2.out.slice
    subst hv2
    have HO2 := Lib.hid (HO1.out.new hb2)
    have HLT := Lib.hid (fun g hg => (HO1.out.lt (g := g) hg).2.1)
    have HB2 := Lib.hid (HB1.out.trans (hb2.mono HB1.out.size))
    have hpl : (placesG s).length ≤ 4096 := Nat.le_trans (placesTo_len s s.length) hsl
    have HPL := Lib.hid (fun i (hi : i ∈ placesG s) => placesG_lt hi)
    have hndl : (needL l wt).length = (placesG s).length := by rw [← HPN.out, List.length_map]
    clear ho2 hb2 ND HS1 HO1
    generalize placesG s = P at *
    generalize needL l wt = nd at *
    by_cases hq : P.length = wh.length
    · have HQ := Lib.hid hq
      have HND := Lib.hid (show nd.length = wh.length by omega)
      have HE := Lib.hid (HAE.out.trans (if_pos HND.out))
      have HG := Lib.hid (show afterG l wt wh = afterL l wt wh by unfold afterG; rw [if_neg (by rw [HE.out]; simp)])
      have q0 : ((wh.length : Int) != (P.length : Int)) = false := by simp [hq]
      have HPK := Lib.hid (fun (k : Nat) (hk : k < nd.length) (hk2 : k < P.length) => show nd[k] = genAt s P[k] from by
        have := HPN.out
        simp only [← this, List.getElem_map])
      clear hq HAE hndl HPN
      go_wp2_with fail
      go_loopw [33] (fun v33 wr => ∃ k : Nat, k ≤ P.length ∧ v33 = .int .i64 (k : Nat) ∧ OwnN encGn 4 wr w.heap.size 38 (.slice sa s.length sc) (s.map (afterX (nd.take k) (wh.take k))) ∧ Kept (fun b => (Value.slice sa s.length sc).ownBlock = some b) w2 wr) (fun v33 _ => P.length - (intOf v33).toNat)
      case atStart => exact ⟨0, Nat.zero_le _, rfl, by rw [show s.map (afterX (nd.take 0) (wh.take 0)) = s from (List.map_congr_left (fun x _ => rfl)).trans (List.map_id s)]; exact HO2.out, Kept.refl _ _⟩
      case round =>
        obtain ⟨k, hk, rfl, hown, hkp⟩ := hrel
        have HO := Lib.hid hown
        have HK := Lib.hid hkp
        have HB := Lib.hid (HB2.out.trans (hkp.below HB2.out.size (fun b hb => (HO2.out.lt hb).1)))
        clear hown hkp
        have k0 : (0 : Int) ≤ (k : Int) := by omega
        by_cases hkl : k < P.length
        · have j2 : (k : Int) < (P.length : Int) := by omega
          have hkz : k < wh.length := by have := HQ.out; omega
          have j3 : (k : Int) < (wh.length : Int) := by omega
          have hnk : k < nd.length := by have := HND.out; omega
          obtain ⟨b1, o1, c1', hv, hn1, hel⟩ := ((HP2.out.kept HK.out (fun g hg e => by have := HLT.out g e; omega)).at hkl)
          injection hv with ea eb ec
          subst ea; subst ec
          clear eb
          have hps := HPL.out P[k] (List.getElem_mem hkl)
          have HPK1 := Lib.hid (HPK.out k hnk hkl)
          generalize P[k] = q at *
          have p0 : wr.cell? ⟨b1, o1 + k * 1 + 0, none⟩ = some (.int .i64 (q : Int)) := hel 0 _ rfl
          rw [Nat.mul_one, Nat.add_zero] at p0
          clear hel
          obtain ⟨b2, o2, c2', hv, hn2, hel2⟩ := (HH.out.keep HB.out).at hkz
          injection hv with ea eb ec
          subst ea; subst ec
          clear eb
          have HSET := Lib.hid (after_set HUP.out HND.out (k := k) (p := q) hnk hkz hps (by rw [HPK1.out, genAt_get hps]))
          generalize wh[k] = vk at *
          have p1 : wr.cell? ⟨b2, o2 + k * 1 + 0, none⟩ = some (.int .i64 vk) := hel2 0 _ rfl
          rw [Nat.mul_one, Nat.add_zero] at p1
          clear hel2
          have HCU := Lib.hid (fun (i : Nat) (hi : i < s.length) (hi' : i < (s.map (afterX (nd.take k) (wh.take k))).length) => show (s.map (afterX (nd.take k) (wh.take k)))[i].gen = s[i].gen ∧ (s.map (afterX (nd.take k) (wh.take k)))[i].mark = s[i].mark from by
            rw [List.getElem_map]
            exact ⟨afterX_gen _ _ _, afterX_mark _ _ _⟩)
          have hcl : (s.map (afterX (nd.take k) (wh.take k))).length = s.length := List.length_map _
          generalize s.map (afterX (nd.take k) (wh.take k)) = cur at *
          obtain ⟨cur1, hcur1⟩ : ∃ cur1, cur1 = s.map (afterX (nd.take (k + 1)) (wh.take (k + 1))) := ⟨_, rfl⟩
          rw [← hcur1] at HSET
          have HC1 := Lib.hid hcur1
          clear hcur1
          have hqc : q < cur.length := by omega
          obtain ⟨g, c, hv, _, hgb, hgl, hel, hfz⟩ := HO.out.atB encGn_ok (by intro e; subst e; simp at hqc)
          injection hv with ea eb ec
          subst ea; subst ec
          clear eb
          obtain ⟨hg1, hg2⟩ := HCU.out q hps hqc
          have hel1 := hel q hqc
          have HPUT := Lib.hid (fun (W : World) (hO : OwnN encGn 4 W w.heap.size 38 (.slice (some ⟨g, 0, none⟩) s.length sc) cur) => OwnN.putB encGn_ok hO q 1 (.int .i64 cur[q].gen) ⟨cur[q].gen, cur[q].gen, cur[q].bytes, cur[q].mark⟩ hqc (by decide) rfl)
          have HPUT2 := Lib.hid (fun (W : World) (hO : OwnN encGn 4 W w.heap.size 38 (.slice (some ⟨g, 0, none⟩) s.length sc) (cur.set q ⟨cur[q].gen, cur[q].gen, cur[q].bytes, cur[q].mark⟩)) => OwnN.putB encGn_ok hO q 2 (.int .i64 vk) ⟨cur[q].gen, cur[q].gen, vk, cur[q].mark⟩ (by rw [List.length_set]; exact hqc) (by decide) (by rw [List.getElem_set, if_pos rfl]; rfl))
          rw [hg1, hg2] at HPUT HPUT2
          have i0 : (0 : Int) ≤ (q : Int) := by omega
          have i1 : (q : Int) < (s.length : Int) := by omega
          obtain ⟨xg, hxg⟩ : ∃ xg, xg = s[q].gen := ⟨_, rfl⟩
          obtain ⟨xm, hxm⟩ : ∃ xm, xm = s[q].mark := ⟨_, rfl⟩
          have e0 : wr.cell? ⟨g, q * 4 + 0, none⟩ = some (.int .i64 xg) := by rw [hxg, ← hg1]; exact hel1 0 _ rfl
          have e1 : wr.cell? ⟨g, q * 4 + 1, none⟩ = some (.int .i64 cur[q].basis) := hel1 1 _ rfl
          have e2 : wr.cell? ⟨g, q * 4 + 2, none⟩ = some (.int .i64 cur[q].bytes) := hel1 2 _ rfl
          rw [Nat.add_zero] at e0
          rw [← hxg] at HPUT HPUT2 HSET
          rw [← hxm] at HPUT HPUT2 HSET
          clear hxg hxm hg1 hg2 hel hel1 HCU hgl
          have f1 : wr.frozen? ⟨g, q * 4 + 1, none⟩ = false := hfz _
          have f2 : wr.frozen? ⟨g, q * 4 + 2, none⟩ = false := hfz _
          clear hfz
          generalize cur[q].basis = xb at *
          generalize cur[q].bytes = xn at *
          have HO1 := Lib.hid (HPUT.out wr HO.out)
          have e2a : (wr.setCell ⟨g, q * 4 + 1, none⟩ (.int .i64 xg)).cell? ⟨g, q * 4 + 2, none⟩ = some (.int .i64 xn) := by
            rw [World.cell?_setCell_other _ _ _ _ (by simp)]
            exact e2
          have f2a : (wr.setCell ⟨g, q * 4 + 1, none⟩ (.int .i64 xg)).frozen? ⟨g, q * 4 + 2, none⟩ = false := by rw [World.frozen?_setCell]; exact f2
          have HO2 := Lib.hid (HPUT2.out _ HO1.out.1)
          have HK2 := Lib.hid (show Kept (fun b => (Value.slice (some ⟨g, 0, none⟩) s.length sc).ownBlock = some b) w2 _ from HK.out.trans ((HO1.out.2.trans HO2.out.2).mono (fun j _ e => by rw [e]; rfl)))
          have HOX := Lib.hid (show OwnN encGn 4 _ w.heap.size 38 _ cur1 from by rw [HSET.out, ← List.set_set]; exact HO2.out.1)
          go_wp2_with fail
          go_region
          generalize (wr.setCell ⟨g, q * 4 + 1, none⟩ (.int .i64 xg)).setCell ⟨g, q * 4 + 2, none⟩ (.int .i64 vk) = w7 at *
          have hbd : Below w7.heap.size w7 w7.drew := Below_drew (Below.refl w7.heap.size w7)
          have HOY := Lib.hid (HOX.out.new hbd)
          have HKY := Lib.hid (HK2.out.trans (Kept.new hbd _))
          clear hbd
          go_wp2_with fail
          go_roundw
          case rel => exact ⟨k + 1, hkl, by go_num, by rw [← HC1.out]; exact HOY.out, HKY.out⟩
          case measure => simp [intOf]; omega
        · have j2 : ¬ (k : Int) < (P.length : Int) := by omega
          have hkk : s.map (afterX (nd.take k) (wh.take k)) = afterL l wt wh := by
            have e1 := HND.out
            have e2 := HQ.out
            rw [List.take_of_length_le (by omega), List.take_of_length_le (by omega)]
            exact HAL.out.symm
          rw [hkk] at HO
          have hll : (afterL l wt wh).length = s.length := by rw [← hkk, List.length_map]
          have HMA := Lib.hid (fun (x : GenD) (hx : x ∈ afterL l wt wh) => show x.mark.length ≤ 140737488351232 from by
            rw [← hkk] at hx
            obtain ⟨y, hy, rfl⟩ := List.mem_map.1 hx
            rw [afterX_mark]
            exact HML.out y hy)
          have HGA := Lib.hid HG.out
          clear hkk HAL HPK HPL HUP HML HP2 HK HG HLT HO2 HB2
          generalize afterL l wt wh = cur at *
          go_wp2_with fail
          obtain ⟨w5, hw5⟩ : ∃ w5, w5 = wr := ⟨_, rfl⟩
          rw [← hw5] at HO HB ⊢
          clear hw5
          go_loopw [58] (fun v58 wr => ∃ i : Nat, i ≤ s.length ∧ v58 = .int .i64 (i : Nat) ∧ OwnN encGn 4 wr w.heap.size 38 (.slice sa s.length sc) cur ∧ Below w.heap.size w wr) (fun v58 _ => s.length - (intOf v58).toNat)
          case atStart => exact ⟨0, Nat.zero_le _, rfl, HO.out, HB.out⟩
          case round =>
            clear HO HB
            obtain ⟨i, hi, rfl, hown, hb⟩ := hrel
            have HO := Lib.hid hown
            have HB := Lib.hid hb
            clear hown hb
            have i0 : (0 : Int) ≤ (i : Int) := by omega
            by_cases hlt : i < s.length
            · have j1 : (i : Int) < (s.length : Int) := by omega
              have hic : i < cur.length := by omega
              obtain ⟨g, c, hv, _, hgb, hgl, hel, hfz⟩ := HO.out.atB encGn_ok (by intro e; subst e; simp at hic)
              injection hv with ea eb ec
              subst ea; subst ec
              clear eb
              have hel1 := hel i hic
              have hml := HMA.out _ (List.getElem_mem hic)
              have HPUT := Lib.hid (fun (W : World) (hO : OwnN encGn 4 W w.heap.size 38 (.slice (some ⟨g, 0, none⟩) s.length sc) cur) => OwnN.putB encGn_ok hO i 3 (.string ⟨cur[i].mark.toArray⟩) cur[i] hic (by decide) rfl)
              have HSS := Lib.hid (show cur.set i cur[i] = cur from List.set_getElem_self hic)
              rw [HSS.out] at HPUT
              clear HSS
              generalize cur[i] = x at *
              obtain ⟨xg, xb, xn, xm⟩ := x
              have d0 : wr.cell? ⟨g, i * 4 + 0, none⟩ = some (.int .i64 xg) := hel1 0 _ rfl
              have d1 : wr.cell? ⟨g, i * 4 + 1, none⟩ = some (.int .i64 xb) := hel1 1 _ rfl
              have d2 : wr.cell? ⟨g, i * 4 + 2, none⟩ = some (.int .i64 xn) := hel1 2 _ rfl
              have d3 : wr.cell? ⟨g, i * 4 + 3, none⟩ = some (.string ⟨xm.toArray⟩) := hel1 3 _ rfl
              rw [Nat.add_zero] at d0
              have f3 : wr.frozen? ⟨g, i * 4 + 3, none⟩ = false := hfz _
              dsimp only at hml HPUT
              clear hel hel1 hfz
              have hbA : Below wr.heap.size wr (wr.alloc (.cells #[.int .i64 xg, .int .i64 xb, .int .i64 xn, .string ⟨xm.toArray⟩] 38)) := (Below.refl _ wr).alloc (Nat.le_refl _) _
              have HBA := Lib.hid (HB.out.trans (hbA.mono HB.out.size))
              have HOA := Lib.hid (HO.out.new hbA)
              have CL := fun X => Lib.hid (stClone_any xm X hml)
              clear hbA
              go_wp2_with fail
              generalize wr.alloc (.cells #[.int .i64 xg, .int .i64 xb, .int .i64 xn, .string ⟨xm.toArray⟩] 38) = wA at *
              refine (CL _).out.mono ?_
              rintro e w6 ⟨rfl, hb6⟩
              have HB6 := Lib.hid (HBA.out.trans (hb6.mono HBA.out.size))
              have HO6 := Lib.hid (HOA.out.new hb6)
              clear hb6 CL HOA HBA HO HB d0 d1 d2 d3 f3 hgl
              have hic : i < cur.length := by omega
              obtain ⟨g', c', hv, _, hgb, hgl, hel, hfz⟩ := HO6.out.atB encGn_ok (by intro e; subst e; simp at hic)
              injection hv with ea eb ec
              injection ea with ea
              injection ea with ea1 _ _
              subst ea1
              obtain ⟨u3, hu3⟩ : ∃ u, w6.cell? ⟨g, i * 4 + 3, none⟩ = some u := ⟨_, hel i hic 3 _ rfl⟩
              have f3 : w6.frozen? ⟨g, i * 4 + 3, none⟩ = false := hfz _
              obtain ⟨hp1, hp2⟩ := HPUT.out w6 HO6.out
              have HP1 := Lib.hid hp1
              have HBZ := Lib.hid (HB6.out.trans (hp2.below HB6.out.size (fun b e => by rw [e]; exact hgb)))
              clear hel hfz ec eb hp1 hp2 hgl
              go_wp2_with fail
              go_roundw
              case rel => exact ⟨i + 1, hlt, by go_num, HP1.out, HBZ.out⟩
              case measure => simp [intOf]; omega
            · have j1 : ¬ (i : Int) < (s.length : Int) := by omega
              go_wp2_with fail
              go_ret2
              exact ⟨_, by rw [HE.out]; rfl, by rw [HGA.out]; exact HO.out, HB.out⟩
    · have HE := Lib.hid (HAE.out.trans (if_neg (by omega)))
      have HG := Lib.hid (show afterG l wt wh = [] by unfold afterG; rw [if_pos (by rw [HE.out]; decide)])
      have q0 : ((wh.length : Int) != (P.length : Int)) = true := by simp; omega
      clear hq HAE hndl HPN
      go_wp2_with fail
      go_ret2
      exact ⟨_, by rw [HE.out]; rfl, by rw [HG.out]; exact OwnN.nil _ _ _ _ _, HB2.out⟩
  · have HE := Lib.hid (show afterE l wt wh = needE l wt by unfold afterE; rw [if_pos hc])
    have HG := Lib.hid (show afterG l wt wh = [] by unfold afterG; rw [if_pos (by rw [HE.out]; exact hc)])
    have q1 : (needE l wt != 0) = true := by simp [hc]
    rw [HE.out]
    generalize needE l wt = ce at *
    clear hc HE
    go_enter Try.func27, Try.ntmps27
    go_wp2_with fail
    refine ST.out.mono ?_
    rintro e w1 ⟨v1, rfl, ho1, hb1⟩
    obtain ⟨sa, sc, hv1, _⟩ := (OwnN.row encGn_ok ho1).slice
    subst hv1
    have HB1 := Lib.hid hb1
    clear hb1 ho1 ST
    go_wp2_with fail
    go_ret2
    exact ⟨_, rfl, by rw [HG.out]; exact OwnN.nil _ _ _ _ _, HB1.out⟩
end Go.Proofs.Ytgejocceegadhaa

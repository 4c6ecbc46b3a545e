/- Landed keep: how deep each generation lies; Check. -/
import Derived.Test.YtgejocceegadhaaFrame
import Derived.Test.YtgejocceegadhaaGen
import Derived.Test.YtgejocceegadhaaKeepHoldMath
import Derived.Test.YtgejocceegadhaaKeepMath
import Derived.Test.YtgejocceegadhaaLandK1W
import Derived.Test.YtgejocceegadhaaLandKMath
import Derived.Test.YtgejocceegadhaaOwnL
import Derived.Test.YtgejocceegadhaaRefKeep3W
import Derived.Test.YtgejocceegadhaaRowN
import Derived.Test.YtgejocceegadhaaRows
import Derived.Test.YtgejocceegadhaaShelf
import Derived.BigQuiet
import Derived.Deep.QuietTactic
import Derived.Deep.RegionHeld3
import Derived.Lib.Hide
import Derived.Outline
import Derived.WalkKit
import Derived.WalkLawsBesides
import Derived.WalkSpells
set_option linter.unusedVariables false
namespace Go.Proofs.Ytgejocceegadhaa
open Go.RowKit

theorem intLaw : Maps.Keyed Try.prog 3 := Maps.int_keyed Try.underlying3
theorem zeroI (w : World) : (zeroValue 3).run Try.prog w = .ok (.int .i64 0) w := by kernel_rfl
theorem wfI {g : Int} (h : -9223372036854775808 ≤ g ∧ g ≤ 9223372036854775807) : (Lit.int .i64 g).wf = true := WalkArith.wf_i64 h
theorem keyI {g : Int} (h : -9223372036854775808 ≤ g ∧ g ≤ 9223372036854775807) : keyOf Try.prog 3 (.int .i64 g) = some (.int .i64 g) := Maps.keyOf_int_mk Try.underlying3 (wfI h)
/-- The map of depths in memory. -/
def DepAt (w : World) (b n : Nat) (l : List GenD) : Prop := ∃ D, w.ownsMap Try.prog 3 (plainElem (H := Unit) Try.prog 3) b n D ∧ DepIs D l
theorem DepAt.new {w w' : World} {b n : Nat} {l : List GenD} (h : DepAt w b n l) (hb : Below w.heap.size w w') : DepAt w' b n l := by
  obtain ⟨D, ⟨es, cl, hm, rest⟩, hd⟩ := h
  exact ⟨D, ⟨es, cl, (hb.block b (Array.getElem?_eq_some_iff.1 hm).1).trans hm, rest⟩, hd⟩
theorem DepAt.look {w : World} {b n : Nat} {l : List GenD} (h : DepAt w b n l) {g : Int} (hg : -9223372036854775808 ≤ g ∧ g ≤ 9223372036854775807) :
    (Instr.lookup 52 (.map (some b)) (.int .i64 g) false).run Try.prog w = .ok (.int .i64 (depG l g : Nat)) w := by
  obtain ⟨D, hown, hd⟩ := h
  obtain ⟨c, hrun, hat, _⟩ := hown.lookup_int intLaw Try.underlying52 Try.underlying3 (zeroI _) (keyI hg)
  rw [hd.at' g] at hat
  injection hat with e
  injection e with e1 e2
  rw [hrun, e2]
set_option maxRecDepth 100000 in
set_option maxHeartbeats 4000000 in
theorem depths_any (v : Value) (l : List GenD) (w : World) {N : Nat → Prop} (hrow : RowN encGn 4 N w v l) (hl : l.length ≤ 140737488351232) (hok : ∀ x ∈ l, GenOk x) :
    Calls Try.prog 31 #[v] w fun e w' => Below w.heap.size w w' ∧ ((checkG l ≠ 0 ∧ e = .returned (.tuple #[.map none, .int .i64 (checkG l)])) ∨ (checkG l = 0 ∧ e = .returned (.tuple #[.map (some w.heap.size), .int .i64 0]) ∧ DepAt w' w.heap.size l.length l)) := by
  have HR := Lib.hid hrow
  have HOK := Lib.hid hok
  obtain ⟨va, vc, hv, hvc⟩ := hrow.slice
  subst hv
  clear hrow hok
  by_cases h4 : 4096 < l.length
  · have HZ := Lib.hid (show checkG l = 4 by unfold checkG; rw [if_pos h4])
    have h4' : (4096 : Int) < (l.length : Int) := by omega
    go_enter Try.func31, Try.ntmps31
    go_wp2_with fail
    go_ret2
    exact ⟨Below.refl _ _, .inl ⟨by rw [HZ.out]; decide, by rw [HZ.out]; rfl⟩⟩
  · have HC := Lib.hid (show checkG l = chkG [] l by unfold checkG; rw [if_neg h4])
    have h4' : ¬ (4096 : Int) < (l.length : Int) := by omega
    have hmm := @run_makeMap Try.prog
    have HM0 := Lib.hid (show DepAt (w.alloc (.map #[] 0)) w.heap.size 0 [] from ⟨_, World.ownsMap_made _ _ _ _, DepIs.start⟩)
    have HB0 := Lib.hid ((Below.refl w.heap.size w).alloc (Nat.le_refl _) (.map #[] 0))
    go_enter Try.func31, Try.ntmps31
    go_wp2_with fail
    go_loopw [13] (fun v13 wr => ∃ i : Nat, i ≤ l.length ∧ v13 = .int .i64 (i : Nat) ∧ Below w.heap.size w wr ∧ DepAt wr w.heap.size i (l.take i) ∧ chkG [] (l.take i) = 0) (fun v13 _ => l.length - (intOf v13).toNat)
    case atStart => exact ⟨0, Nat.zero_le _, rfl, HB0.out, HM0.out, rfl⟩
    case round =>
      obtain ⟨i, hi, rfl, hb, hd, hch⟩ := hrel
      have HB := Lib.hid hb
      have HD := Lib.hid hd
      have HCH := Lib.hid hch
      clear hb hd hch HM0 HB0 hmm
      have i0 : (0 : Int) ≤ (i : Int) := by omega
      by_cases hlt : i < l.length
      · have j1 : (i : Int) < (l.length : Int) := by omega
        obtain ⟨b, o, c', hv, hn, hel⟩ := HR.out.at hlt
        injection hv with ea eb ec
        subst ea; subst ec
        clear eb
        have HS := Lib.hid (chk_step hlt HCH.out)
        have HGO := Lib.hid (HOK.out _ (List.getElem_mem hlt))
        have HPV := Lib.hid (show 0 < i → ∃ (y : GenD) (j : Nat), j + 1 = i ∧ (l.take i).getLast? = some y ∧ w.cell? ⟨b, o + j * 4, none⟩ = some (.int .i64 y.gen) from fun h => by
          refine ⟨l[i - 1], i - 1, by omega, ?_, ?_⟩
          · have := last_take (l := l) (i := i - 1) (by omega)
            rwa [show i - 1 + 1 = i by omega] at this
          obtain ⟨b2, o2, c2, hv2, _, hel2⟩ := HR.out.at (show i - 1 < l.length by omega)
          injection hv2 with ea _ _
          injection ea with ea
          injection ea with ea1 ea2 _
          have := hel2 0 _ rfl
          rw [Nat.add_zero, ← ea1, ← ea2] at this
          exact this)
        have HT := Lib.hid (show l.take (i + 1) = l.take i ++ [l[i]] from by rw [List.take_succ_eq_append_getElem hlt])
        generalize hx : l[i] = x at *
        obtain ⟨xg, xb, xn, xm⟩ := x
        have CX := fun (q : Addr) (y : Value) (hq : w.cell? q = some y) => (HB.out.cell (p := q) (World.block_lt_of_cell? w _ hq)).trans hq
        have d0 := CX _ _ (hel 0 _ rfl)
        have d1 := CX _ _ (hel 1 _ rfl)
        have d2 := CX _ _ (hel 2 _ rfl)
        have d3 := CX _ _ (hel 3 _ rfl)
        rw [Nat.add_zero] at d0
        dsimp only at d0 d1 d2 d3 HS
        clear hel CX
        have HBZ := Lib.hid (fun (z : Int) (hz : badG (l.take i) ⟨xg, xb, xn, xm⟩ = z) (h0 : z ≠ 0) => show checkG l = z from by rw [HC.out, HS.out.1 (by rw [hz]; exact h0), hz])
        have hbA : Below wr.heap.size wr (wr.alloc (.cells #[.int .i64 xg, .int .i64 xb, .int .i64 xn, .string ⟨xm.toArray⟩] 38)) := (Below.refl _ wr).alloc (Nat.le_refl _) _
        have HBA := Lib.hid (HB.out.trans (hbA.mono HB.out.size))
        have HDA := Lib.hid (HD.out.new hbA)
        have hbx := heap_alloc_new wr (.cells #[.int .i64 xg, .int .i64 xb, .int .i64 xn, .string ⟨xm.toArray⟩] 38)
        have HBX := Lib.hid hbx
        clear hbA
        have WI := fun X => Lib.hid (within_any xn 0 524288 X)
        by_cases c1 : xg < 0
        · have HZ := Lib.hid (HBZ.out 2 (by unfold badG; rw [if_pos (.inl c1)]) (by decide))
          clear WI
          go_wp2_with fail
          go_ret2
          exact ⟨HBA.out, .inl ⟨by rw [HZ.out]; decide, by rw [HZ.out]; rfl⟩⟩
        · obtain ⟨bw, hbw⟩ : ∃ bw, bw = withinB xn 0 524288 := ⟨_, rfl⟩
          rw [← hbw] at WI
          cases bw with
          | false =>
            have HZ := Lib.hid (HBZ.out 2 (by
              unfold badG
              rw [if_pos]
              refine .inr ?_
              rcases Int.lt_or_le xn 0 with k | k
              · exact .inl k
              · refine .inr (Int.not_le.1 fun k2 => ?_)
                unfold withinB at hbw
                rw [decide_eq_true k, decide_eq_true k2] at hbw
                cases hbw) (by decide))
            clear hbw
            go_wp2_with fail
            refine (WI _).out.mono ?_
            rintro e w2 ⟨rfl, ew⟩
            subst ew
            clear WI
            go_wp2_with fail
            go_ret2
            exact ⟨HBA.out, .inl ⟨by rw [HZ.out]; decide, by rw [HZ.out]; rfl⟩⟩
          | true =>
            have HB1 := Lib.hid (show ¬ (xg < 0 ∨ xn < 0 ∨ 524288 < xn) by
              unfold withinB at hbw
              have := hbw.symm
              rw [Bool.and_eq_true] at this
              have h1 := of_decide_eq_true this.1
              have h2 := of_decide_eq_true this.2
              omega)
            clear hbw
            go_wp2_with fail
            refine (WI _).out.mono ?_
            rintro e w2 ⟨rfl, ew⟩
            subst ew
            clear WI
            go_wp2_with fail
            generalize wr.alloc (.cells #[.int .i64 xg, .int .i64 xb, .int .i64 xn, .string ⟨xm.toArray⟩] 38) = wA at *
            obtain ⟨nb, hnb⟩ : ∃ nb, nb = wr.heap.size := ⟨_, rfl⟩
            rw [← hnb] at hbx ⊢
            have hnd : w.heap.size ≤ nb := by rw [hnb]; exact HB.out.size
            clear hnb HBX HB HD d0 d1 d2 d3
            have HBX := Lib.hid hbx
            clear hbx
            have k0 : wA.cell? ⟨nb, 0, none⟩ = some (.int .i64 xg) := by rw [cell_of_row _ _ _ _ _ _ HBX.out]; rfl
            have k1 : wA.cell? ⟨nb, 1, none⟩ = some (.int .i64 xb) := by rw [cell_of_row _ _ _ _ _ _ HBX.out]; rfl
            by_cases hbad : ∃ y, (l.take i).getLast? = some y ∧ xg ≤ y.gen
            · obtain ⟨y0, hy0, hle⟩ := hbad
              have hip : 0 < i := by
                rcases Nat.eq_zero_or_pos i with c | c
                · subst c; simp at hy0
                · exact c
              have HZ := Lib.hid (HBZ.out 12 (by unfold badG; rw [if_neg HB1.out, if_pos ⟨y0, hy0, hle⟩]) (by decide))
              obtain ⟨y, j, hj, hy, dy⟩ := HPV.out hip
              rw [hy0] at hy
              injection hy with hy
              subst hy
              have dyr := (HBA.out.cell (p := ⟨b, o + j * 4, none⟩) (World.block_lt_of_cell? w _ dy)).trans dy
              have m1 : decide ((0 : Int) < (i : Int)) = true := decide_eq_true (by omega)
              have m0 : decide (0 < i) = true := decide_eq_true hip
              have m2 : decide (xg ≤ y0.gen) = true := decide_eq_true hle
              have m3 : wrap64 ((i : Int) - 1) = (j : Int) := by rw [IntWalk.wrap64_in _ (by omega)]; omega
              have m4 : IntKind.i64.wrap ((i : Int) - 1) = (j : Int) := by rw [IntWalk.i64_in _ (by omega)]; omega
              have m5 : (0 : Int) ≤ (j : Int) := by omega
              have m6 : (j : Int) < (l.length : Int) := by omega
              generalize y0.gen = yg at *
              clear dy hj hy0 hle hip
              go_quiet (fail)
              have HBQ := Lib.hid (HBA.out.trans ((Below_drewN (Below.refl wA.heap.size wA) nq).mono HBA.out.size))
              go_wp2_with fail
              go_ret2
              exact ⟨HBQ.out, .inl ⟨by rw [HZ.out]; decide, by rw [HZ.out]; rfl⟩⟩
            · have HNB := Lib.hid hbad
              clear hbad
              rcases Nat.eq_zero_or_pos i with hip | hip
              · have m1 : decide ((0 : Int) < (i : Int)) = false := decide_eq_false (by omega)
                have m0 : decide (0 < i) = false := decide_eq_false (by omega)
                clear hip
                go_quiet (fail)
                have HBQ := Lib.hid (HBA.out.trans ((Below_drewN (Below.refl wA.heap.size wA) nq).mono HBA.out.size))
                have HDQ := Lib.hid (HDA.out.new (Below_drewN (Below.refl wA.heap.size wA) nq))
                have e0 : (wA.drewN nq).cell? ⟨nb, 0, none⟩ = some (.int .i64 xg) := k0
                have e1 : (wA.drewN nq).cell? ⟨nb, 1, none⟩ = some (.int .i64 xb) := k1
                clear k0 k1 HBX
                generalize wA.drewN nq = w9 at *
                have L1 := HDQ.out.look (g := xb) HGO.out.b
                have hkey := keyI (g := xg) HGO.out.g
                have HDP := Lib.hid (depG_zero (l := l.take i) (g := xb))
                have hdl := depG_le (l.take i) xb
                have htk : (l.take i).length ≤ 4096 := by rw [List.length_take]; omega
                have HNX := Lib.hid (show xg ∉ (l.take i).map (·.gen) from fun c => by
                  have hw := (gwf_iff _).1 HCH.out
                  obtain ⟨a, ha, ea⟩ := mem_take_gen.1 c
                  have h0 := fun d => hw.up a (i - 1) (by rw [List.length_take]; omega) d
                  simp only [List.getElem_take] at h0
                  apply HNB.out
                  refine ⟨l[i - 1], by have := last_take (l := l) (i := i - 1) (by omega); rwa [show i - 1 + 1 = i by omega] at this, ?_⟩
                  rcases Nat.lt_or_ge a (i - 1) with d | d
                  · have := h0 d; omega
                  · have : a = i - 1 := by omega
                    subst this; omega)
                have HSN := Lib.hid (fun D (hD : DepIs D (l.take i)) => hD.put ⟨xg, xb, xn, xm⟩ HNX.out)
                have HZ13 := Lib.hid (fun (k1 : xb ≠ xg) (k2 : depG (l.take i) xb = 0) => HBZ.out 13 (by unfold badG; rw [if_neg HB1.out, if_neg HNB.out, if_pos ⟨k1, HDP.out.1 k2⟩]) (by decide))
                have HGO0 := Lib.hid (fun (k : xb = xg ∨ depG (l.take i) xb ≠ 0) => HS.out.2 (show badG (l.take i) ⟨xg, xb, xn, xm⟩ = 0 by
                  unfold badG
                  rw [if_neg HB1.out, if_neg HNB.out, if_neg]
                  rintro ⟨c1, c2⟩
                  rcases k with k | k
                  · exact c1 k
                  · exact k (HDP.out.2 c2)))
                dsimp only at HSN
                generalize depG (l.take i) xb = dp at *
                by_cases hq : xb = xg
                · have q1 : (xb != xg) = false := by simp [hq]
                  have HOK2 := Lib.hid (HGO0.out (.inl hq))
                  clear hq
                  obtain ⟨D, hown, hdep⟩ := HDQ.out
                  have HOW := Lib.hid hown
                  have HDE := Lib.hid (HSN.out D hdep)
                  have HVL := Lib.hid (show plainElem (H := Unit) Try.prog 3 (.int .i64 ((dp : Int) + 1)) = some (.lit (.int .i64 ((dp : Int) + 1)), []) from plainElem_int Try.underlying3 (WalkArith.wf_i64 (by omega)))
                  clear hown hdep
                  go_wp2_with (at_mapUpdate; go_loud (refine wpList_mapUpdate_own _ rfl _ _ _ 52 rfl 3 3 intLaw Try.underlying52 _ w.heap.size i D rfl HOW.out (by unfold maxLen; omega) _ _ _ rfl rfl hkey _ [] HVL.out ?_; intro w2 hown2 hg2; have HO2 := Lib.hid hown2; have HB2 := Lib.hid (HBQ.out.grown hg2 HBQ.out.size (fun j hj => by cases hj; exact Nat.le_refl _)); clear hown2 hg2))
                  go_roundw
                  case rel => exact ⟨i + 1, hlt, by go_num, HB2.out, by rw [HT.out]; exact ⟨_, HO2.out, HDE.out⟩, HOK2.out⟩
                  case measure => simp [intOf]; omega
                · have q1 : (xb != xg) = true := by simp [hq]
                  rcases Nat.eq_zero_or_pos dp with hz | hz
                  · have HZ := Lib.hid (HZ13.out hq hz)
                    have q2 : ((dp : Int) == 0) = true := by simp [hz]
                    clear hq hz
                    go_wp2_with fail
                    go_ret2
                    exact ⟨HBQ.out, .inl ⟨by rw [HZ.out]; decide, by rw [HZ.out]; rfl⟩⟩
                  · have q2 : ((dp : Int) == 0) = false := by simp; omega
                    have HOK2 := Lib.hid (HGO0.out (.inr (by omega)))
                    clear hq hz
                    obtain ⟨D, hown, hdep⟩ := HDQ.out
                    have HOW := Lib.hid hown
                    have HDE := Lib.hid (HSN.out D hdep)
                    have HVL := Lib.hid (show plainElem (H := Unit) Try.prog 3 (.int .i64 ((dp : Int) + 1)) = some (.lit (.int .i64 ((dp : Int) + 1)), []) from plainElem_int Try.underlying3 (WalkArith.wf_i64 (by omega)))
                    clear hown hdep
                    go_wp2_with (at_mapUpdate; go_loud (refine wpList_mapUpdate_own _ rfl _ _ _ 52 rfl 3 3 intLaw Try.underlying52 _ w.heap.size i D rfl HOW.out (by unfold maxLen; omega) _ _ _ rfl rfl hkey _ [] HVL.out ?_; intro w2 hown2 hg2; have HO2 := Lib.hid hown2; have HB2 := Lib.hid (HBQ.out.grown hg2 HBQ.out.size (fun j hj => by cases hj; exact Nat.le_refl _)); clear hown2 hg2))
                    go_roundw
                    case rel => exact ⟨i + 1, hlt, by go_num, HB2.out, by rw [HT.out]; exact ⟨_, HO2.out, HDE.out⟩, HOK2.out⟩
                    case measure => simp [intOf]; omega
              · obtain ⟨y, j, hj, hy, dy⟩ := HPV.out hip
                have dyr := (HBA.out.cell (p := ⟨b, o + j * 4, none⟩) (World.block_lt_of_cell? w _ dy)).trans dy
                have hle : ¬ xg ≤ y.gen := fun c => HNB.out ⟨y, hy, c⟩
                have m1 : decide ((0 : Int) < (i : Int)) = true := decide_eq_true (by omega)
                have m0 : decide (0 < i) = true := decide_eq_true hip
                have m2 : decide (xg ≤ y.gen) = false := decide_eq_false hle
                have m3 : wrap64 ((i : Int) - 1) = (j : Int) := by rw [IntWalk.wrap64_in _ (by omega)]; omega
                have m4 : IntKind.i64.wrap ((i : Int) - 1) = (j : Int) := by rw [IntWalk.i64_in _ (by omega)]; omega
                have m5 : (0 : Int) ≤ (j : Int) := by omega
                have m6 : (j : Int) < (l.length : Int) := by omega
                generalize y.gen = yg at *
                clear dy hj hy hle hip
                go_quiet (fail)
                have HBQ := Lib.hid (HBA.out.trans ((Below_drewN (Below.refl wA.heap.size wA) nq).mono HBA.out.size))
                have HDQ := Lib.hid (HDA.out.new (Below_drewN (Below.refl wA.heap.size wA) nq))
                have e0 : (wA.drewN nq).cell? ⟨nb, 0, none⟩ = some (.int .i64 xg) := k0
                have e1 : (wA.drewN nq).cell? ⟨nb, 1, none⟩ = some (.int .i64 xb) := k1
                clear k0 k1 HBX
                generalize wA.drewN nq = w9 at *
                have L1 := HDQ.out.look (g := xb) HGO.out.b
                have hkey := keyI (g := xg) HGO.out.g
                have HDP := Lib.hid (depG_zero (l := l.take i) (g := xb))
                have hdl := depG_le (l.take i) xb
                have htk : (l.take i).length ≤ 4096 := by rw [List.length_take]; omega
                have HNX := Lib.hid (show xg ∉ (l.take i).map (·.gen) from fun c => by
                  have hw := (gwf_iff _).1 HCH.out
                  obtain ⟨a, ha, ea⟩ := mem_take_gen.1 c
                  have h0 := fun d => hw.up a (i - 1) (by rw [List.length_take]; omega) d
                  simp only [List.getElem_take] at h0
                  apply HNB.out
                  refine ⟨l[i - 1], by have := last_take (l := l) (i := i - 1) (by omega); rwa [show i - 1 + 1 = i by omega] at this, ?_⟩
                  rcases Nat.lt_or_ge a (i - 1) with d | d
                  · have := h0 d; omega
                  · have : a = i - 1 := by omega
                    subst this; omega)
                have HSN := Lib.hid (fun D (hD : DepIs D (l.take i)) => hD.put ⟨xg, xb, xn, xm⟩ HNX.out)
                have HZ13 := Lib.hid (fun (k1 : xb ≠ xg) (k2 : depG (l.take i) xb = 0) => HBZ.out 13 (by unfold badG; rw [if_neg HB1.out, if_neg HNB.out, if_pos ⟨k1, HDP.out.1 k2⟩]) (by decide))
                have HGO0 := Lib.hid (fun (k : xb = xg ∨ depG (l.take i) xb ≠ 0) => HS.out.2 (show badG (l.take i) ⟨xg, xb, xn, xm⟩ = 0 by
                  unfold badG
                  rw [if_neg HB1.out, if_neg HNB.out, if_neg]
                  rintro ⟨c1, c2⟩
                  rcases k with k | k
                  · exact c1 k
                  · exact k (HDP.out.2 c2)))
                dsimp only at HSN
                generalize depG (l.take i) xb = dp at *
                by_cases hq : xb = xg
                · have q1 : (xb != xg) = false := by simp [hq]
                  have HOK2 := Lib.hid (HGO0.out (.inl hq))
                  clear hq
                  obtain ⟨D, hown, hdep⟩ := HDQ.out
                  have HOW := Lib.hid hown
                  have HDE := Lib.hid (HSN.out D hdep)
                  have HVL := Lib.hid (show plainElem (H := Unit) Try.prog 3 (.int .i64 ((dp : Int) + 1)) = some (.lit (.int .i64 ((dp : Int) + 1)), []) from plainElem_int Try.underlying3 (WalkArith.wf_i64 (by omega)))
                  clear hown hdep
                  go_wp2_with (at_mapUpdate; go_loud (refine wpList_mapUpdate_own _ rfl _ _ _ 52 rfl 3 3 intLaw Try.underlying52 _ w.heap.size i D rfl HOW.out (by unfold maxLen; omega) _ _ _ rfl rfl hkey _ [] HVL.out ?_; intro w2 hown2 hg2; have HO2 := Lib.hid hown2; have HB2 := Lib.hid (HBQ.out.grown hg2 HBQ.out.size (fun j hj => by cases hj; exact Nat.le_refl _)); clear hown2 hg2))
                  go_roundw
                  case rel => exact ⟨i + 1, hlt, by go_num, HB2.out, by rw [HT.out]; exact ⟨_, HO2.out, HDE.out⟩, HOK2.out⟩
                  case measure => simp [intOf]; omega
                · have q1 : (xb != xg) = true := by simp [hq]
                  rcases Nat.eq_zero_or_pos dp with hz | hz
                  · have HZ := Lib.hid (HZ13.out hq hz)
                    have q2 : ((dp : Int) == 0) = true := by simp [hz]
                    clear hq hz
                    go_wp2_with fail
                    go_ret2
                    exact ⟨HBQ.out, .inl ⟨by rw [HZ.out]; decide, by rw [HZ.out]; rfl⟩⟩
                  · have q2 : ((dp : Int) == 0) = false := by simp; omega
                    have HOK2 := Lib.hid (HGO0.out (.inr (by omega)))
                    clear hq hz
                    obtain ⟨D, hown, hdep⟩ := HDQ.out
                    have HOW := Lib.hid hown
                    have HDE := Lib.hid (HSN.out D hdep)
                    have HVL := Lib.hid (show plainElem (H := Unit) Try.prog 3 (.int .i64 ((dp : Int) + 1)) = some (.lit (.int .i64 ((dp : Int) + 1)), []) from plainElem_int Try.underlying3 (WalkArith.wf_i64 (by omega)))
                    clear hown hdep
                    go_wp2_with (at_mapUpdate; go_loud (refine wpList_mapUpdate_own _ rfl _ _ _ 52 rfl 3 3 intLaw Try.underlying52 _ w.heap.size i D rfl HOW.out (by unfold maxLen; omega) _ _ _ rfl rfl hkey _ [] HVL.out ?_; intro w2 hown2 hg2; have HO2 := Lib.hid hown2; have HB2 := Lib.hid (HBQ.out.grown hg2 HBQ.out.size (fun j hj => by cases hj; exact Nat.le_refl _)); clear hown2 hg2))
                    go_roundw
                    case rel => exact ⟨i + 1, hlt, by go_num, HB2.out, by rw [HT.out]; exact ⟨_, HO2.out, HDE.out⟩, HOK2.out⟩
                    case measure => simp [intOf]; omega
      · have j1 : ¬ (i : Int) < (l.length : Int) := by omega
        have hii : i = l.length := by omega
        have HZ := Lib.hid (show checkG l = 0 by
          have := HCH.out
          rw [List.take_of_length_le (by omega)] at this
          rw [HC.out, this])
        have HDF := Lib.hid (show DepAt wr w.heap.size l.length l by
          have := HD.out
          rw [List.take_of_length_le (by omega)] at this
          rwa [hii] at this)
        clear hii
        go_wp2_with fail
        go_ret2
        exact ⟨HB.out, .inr ⟨HZ.out, rfl, HDF.out⟩⟩
end Go.Proofs.Ytgejocceegadhaa

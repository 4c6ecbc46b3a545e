/- The document's keep: After. -/
import Derived.Test.YtgejocceegadhaaFrame
import Derived.Test.YtgejocceegadhaaGen
import Derived.Test.YtgejocceegadhaaKeepMath
import Derived.Test.YtgejocceegadhaaOwnL
import Derived.Test.YtgejocceegadhaaRefKeep2W
import Derived.Test.YtgejocceegadhaaRefKeep5W
import Derived.Test.YtgejocceegadhaaRowN
import Derived.Test.YtgejocceegadhaaRows
import Derived.BigQuiet
import Derived.Deep.QuietTactic
import Derived.Deep.RegionHeld3
import Derived.Lib.Hide
import Derived.Outline
import Derived.WalkKit
import Derived.WalkLawsBesides
import Derived.WalkSpells
set_option linter.unusedVariables false
namespace Go.Proofs.Ytgejocceegadhaa
open Go.RowKit

theorem info_gen12 : (Try.prog.info? 38).map (fun i => (i.zero, i.size, i.bytes)) = some (some (.agg #[.int .i64 0, .int .i64 0, .int .i64 0, .string ByteArray.empty]), 4, 40) := by kernel_rfl
theorem wholeAt_snoc : ∀ (a b : List Int) (n v g : Int), a.length = b.length → wholeAt (a ++ [n]) (b ++ [v]) g = if n = g then some v else wholeAt a b g
  | [], [], n, v, g, _ => by
    show (match wholeAt [] [] g with | some u => some u | none => if n = g then some v else none) = _
    rfl
  | [], y :: b, n, v, g, h => by simp at h
  | x :: a, [], n, v, g, h => by simp at h
  | x :: a, y :: b, n, v, g, h => by
    have ih := wholeAt_snoc a b n v g (by simpa using h)
    show (match wholeAt (a ++ [n]) (b ++ [v]) g with | some u => some u | none => if x = g then some y else none) = _
    rw [ih]
    by_cases c : n = g
    · rw [if_pos c, if_pos c]
    · rw [if_neg c, if_neg c]
      rfl
theorem afterX_snoc (a b : List Int) (n v : Int) (x : GenD) (h : a.length = b.length) : afterX (a ++ [n]) (b ++ [v]) x = if n = x.gen then ⟨x.gen, x.gen, v, x.mark⟩ else afterX a b x := by
  unfold afterX
  rw [wholeAt_snoc a b n v x.gen h]
  by_cases c : n = x.gen
  · rw [if_pos c, if_pos c]
  · rw [if_neg c, if_neg c]
theorem afterX_form (a b : List Int) (x : GenD) : ∃ bk nk, afterX a b x = ⟨x.gen, bk, nk, x.mark⟩ := by
  unfold afterX
  split
  · exact ⟨_, _, rfl⟩
  · exact ⟨_, _, rfl⟩
theorem afterL_snoc (l : List GenD) (x : GenD) (wt nd wh : List Int) : ((l ++ [x]).filter (fun x => decide (x.gen ∈ wt))).map (afterX nd wh) = (l.filter (fun x => decide (x.gen ∈ wt))).map (afterX nd wh) ++ if x.gen ∈ wt then [afterX nd wh x] else [] := by
  rw [List.filter_append, List.map_append]
  by_cases c : x.gen ∈ wt
  · rw [if_pos c]; simp [c]
  · rw [if_neg c]; simp [c]
theorem sameG (w w' : World) (nb : Nat) (h : Kept (· = nb) w w') {base : Nat} (hb : base ≤ w.heap.size) (hn : base ≤ nb) : Below base w w' := h.below hb (fun k e => by rw [e]; exact hn)
set_option maxRecDepth 100000 in
set_option maxHeartbeats 4000000 in
theorem refAfter12_any (v u z : Value) (l : List GenD) (wt wh : List Int) (w : World) {N M L : Nat → Prop} (hrow : RowN encGn 4 N w v l) (hl : l.length ≤ 140737488351232) (hok : ∀ x ∈ l, GenOk x) (hwt : RowN encI1 1 M w u wt) (hwl : wt.length ≤ 140737488351232) (hwh : RowN encI1 1 L w z wh) (hzl : wh.length ≤ 140737488351232) :
    Calls Try.prog 28 #[v, u, z] w fun e w' => ∃ v', e = .returned (.tuple #[v', .int .i64 (afterE l wt wh)]) ∧ OwnN encGn 4 w' w.heap.size 38 v' (afterG l wt wh) ∧ Below w.heap.size w w' := by
  have HR := Lib.hid hrow
  have HW := Lib.hid hwt
  have HH := Lib.hid hwh
  have ND := Lib.hid (refNeed12_any v u l wt w hrow hl hok hwt hwl)
  obtain ⟨va, vc, hv, hvc⟩ := hrow.slice
  subst hv
  obtain ⟨ua, uc, hu, _⟩ := hwt.slice
  subst hu
  obtain ⟨za, zc, hz, _⟩ := hwh.slice
  subst hz
  clear hrow hwt hok hwh
  by_cases hc : needE l wt = 0
  · have HNG := Lib.hid (show needG l wt = needL l wt by unfold needG; rw [if_neg (by rw [hc]; simp)])
    have hlen : l.length ≤ 4096 := by
      unfold needE at hc
      split at hc
      · rename_i k; exact absurd hc k
      · rename_i k
        have k : checkG l = 0 := Classical.byContradiction k
        unfold checkG at k
        split at k
        · cases k
        · omega
    have hnl := needL_len l wt
    have HAE := Lib.hid (show afterE l wt wh = if (needL l wt).length = wh.length then 0 else 1 by unfold afterE; rw [if_neg (by rw [hc]; simp)])
    rw [hc, HNG.out] at ND
    have HAL := Lib.hid (show afterL l wt wh = (l.filter (fun x => decide (x.gen ∈ wt))).map (afterX (needL l wt) wh) from rfl)
    generalize needL l wt = nd at *
    clear hc HNG
    by_cases hq : nd.length = wh.length
    · have HE := Lib.hid (HAE.out.trans (if_pos hq))
      have HG := Lib.hid (show afterG l wt wh = afterL l wt wh by unfold afterG; rw [if_neg (by rw [HE.out]; simp)])
      have HQ := Lib.hid hq
      have q0 : ((nd.length : Int) != (wh.length : Int)) = false := by simp [hq]
      clear hq HAE
      go_enter Try.func28, Try.ntmps28
      go_wp2_with fail
      refine ND.out.mono ?_
      rintro e w1 ⟨v1, rfl, ho1, hb1⟩
      obtain ⟨na, nc, hv1, _⟩ := (OwnN.row encI1_ok ho1).slice
      subst hv1
      have HB1 := Lib.hid hb1
      have HR1 := Lib.hid (HR.out.keep hb1)
      have HW1 := Lib.hid (HW.out.keep hb1)
      have HH1 := Lib.hid (HH.out.keep hb1)
      have HN1 := Lib.hid (OwnN.row encI1_ok ho1)
      clear hb1 ho1 ND HR HW HH
      go_wp2_with fail
      go_loopw [10, 11] (fun v10 v11 wr => ∃ i : Nat, i ≤ l.length ∧ v11 = .int .i64 (i : Nat) ∧ OwnN encGn 4 wr w1.heap.size 38 v10 (((l.take i).filter (fun x => decide (x.gen ∈ wt))).map (afterX nd wh)) ∧ Below w1.heap.size w1 wr) (fun _ v11 _ => l.length - (intOf v11).toNat)
      case atStart => exact ⟨0, Nat.zero_le _, rfl, OwnN.nil _ _ _ _ _, Below.refl _ _⟩
      case round =>
        obtain ⟨i, hi, rfl, hown, hb⟩ := hrel
        have HO := Lib.hid hown
        have HB := Lib.hid hb
        clear hown hb
        have i0 : (0 : Int) ≤ (i : Int) := by omega
        by_cases hlt : i < l.length
        · have j1 : (i : Int) < (l.length : Int) := by omega
          obtain ⟨b, o, c', hv, hn, hel⟩ := HR1.out.at hlt
          injection hv with ea eb ec
          subst ea; subst ec
          clear eb
          have HT := Lib.hid (show ((l.take (i + 1)).filter (fun x => decide (x.gen ∈ wt))).map (afterX nd wh) = ((l.take i).filter (fun x => decide (x.gen ∈ wt))).map (afterX nd wh) ++ if l[i].gen ∈ wt then [afterX nd wh l[i]] else [] from by rw [List.take_succ_eq_append_getElem hlt, afterL_snoc])
          have hol : (((l.take i).filter (fun x => decide (x.gen ∈ wt))).map (afterX nd wh)).length ≤ 4096 := by
            rw [List.length_map]
            have := List.length_filter_le (fun x : GenD => decide (x.gen ∈ wt)) (l.take i)
            rw [List.length_take] at this
            omega
          have CX := fun (q : Addr) (y : Value) (hq : w1.cell? q = some y) => (HB.out.cell (p := q) (World.block_lt_of_cell? w1 _ hq)).trans hq
          generalize l[i] = x at *
          have HXX := Lib.hid (fun k => afterX_form (nd.take k) (wh.take k) x)
          have HXS := Lib.hid (fun (k : Nat) (h1 : k < nd.length) (h2 : k < wh.length) => show afterX (nd.take (k + 1)) (wh.take (k + 1)) x = if nd[k] = x.gen then ⟨x.gen, x.gen, wh[k], x.mark⟩ else afterX (nd.take k) (wh.take k) x from by
            rw [List.take_succ_eq_append_getElem h1, List.take_succ_eq_append_getElem h2, afterX_snoc _ _ _ _ _ (by rw [List.length_take, List.length_take]; omega)])
          have HX0 := Lib.hid (show afterX (nd.take 0) (wh.take 0) x = x from rfl)
          have HXN := Lib.hid (show ∀ k, nd.length ≤ k → afterX (nd.take k) (wh.take k) x = afterX nd wh x from fun k hk => by rw [List.take_of_length_le hk, List.take_of_length_le (by have := HQ.out; omega)])
          generalize ((l.take i).filter (fun x => decide (x.gen ∈ wt))).map (afterX nd wh) = out at *
          obtain ⟨xg, xb, xn, xm⟩ := x
          have d0 := CX _ _ (hel 0 _ rfl)
          have d1 := CX _ _ (hel 1 _ rfl)
          have d2 := CX _ _ (hel 2 _ rfl)
          have d3 := CX _ _ (hel 3 _ rfl)
          rw [Nat.add_zero] at d0
          dsimp only at d0 d1 d2 d3 HT HXX HXS HX0
          clear hel CX
          have J1 := Lib.hid (refIn12_any (.slice ua wt.length uc) wt xg wr (HW1.out.keep HB.out) hwl)
          by_cases c1 : xg ∈ wt
          · rw [decide_eq_true c1] at J1
            have HT1 := Lib.hid (HT.out.trans (by rw [if_pos c1]))
            clear HT c1
            go_wp2_with fail
            refine J1.out.mono ?_
            rintro e w5 ⟨rfl, ew⟩
            subst ew
            have hbx := heap_alloc_new wr (.cells #[.int .i64 xg, .int .i64 xb, .int .i64 xn, .string ⟨xm.toArray⟩] 38)
            have hbA : Below wr.heap.size wr (wr.alloc (.cells #[.int .i64 xg, .int .i64 xb, .int .i64 xn, .string ⟨xm.toArray⟩] 38)) := (Below.refl _ wr).alloc (Nat.le_refl _) _
            have HBA := Lib.hid hbA
            go_wp2_with fail
            generalize wr.alloc (.cells #[.int .i64 xg, .int .i64 xb, .int .i64 xn, .string ⟨xm.toArray⟩] 38) = wA at *
            have HOA := Lib.hid (HO.out.new hbA)
            have HLT := Lib.hid (fun g' hg' => (HO.out.lt (g := g') hg').2.1)
            obtain ⟨nb, hnb⟩ : ∃ nb, nb = wr.heap.size := ⟨_, rfl⟩
            have hnw : w1.heap.size ≤ nb := by rw [hnb]; exact HB.out.size
            have hnA : w1.heap.size ≤ wA.heap.size := Nat.le_trans HB.out.size HBA.out.size
            have HB1A := Lib.hid (HB.out.trans (HBA.out.mono HB.out.size))
            rw [← hnb] at hbx HLT ⊢
            have HBX := Lib.hid hbx
            clear hbA hbx HO HB HBA J1 hnb
            go_loopw [13] (fun v13 wq => ∃ (k : Nat) (bk nk : Int), k ≤ nd.length ∧ v13 = .int .i64 (k : Nat) ∧ Kept (· = nb) wA wq ∧ wq.heap[nb]? = some (.cells #[.int .i64 xg, .int .i64 bk, .int .i64 nk, .string ⟨xm.toArray⟩] 38 (0, 0)) ∧ afterX (nd.take k) (wh.take k) ⟨xg, xb, xn, xm⟩ = ⟨xg, bk, nk, xm⟩) (fun v13 _ => nd.length - (intOf v13).toNat)
            case atStart => exact ⟨0, xb, xn, Nat.zero_le _, rfl, Kept.refl _ _, HBX.out, HX0.out⟩
            case round =>
              clear HBX
              obtain ⟨k, bk, nk, hk, rfl, hkq, hbx, hax⟩ := hrel
              have HKQ := Lib.hid hkq
              have HBX := Lib.hid hbx
              have HAX := Lib.hid hax
              clear hkq hbx hax
              have HBQ := Lib.hid (HB1A.out.trans (sameG wA wr nb HKQ.out hnA hnw))
              have k0 : (0 : Int) ≤ (k : Int) := by omega
              have f0 : wr.cell? ⟨nb, 0, none⟩ = some (.int .i64 xg) := by rw [cell_of_row _ _ _ _ _ _ HBX.out]; rfl
              by_cases hkl : k < nd.length
              · have j2 : (k : Int) < (nd.length : Int) := by omega
                have hkz : k < wh.length := by have := HQ.out; omega
                have j3 : (k : Int) < (wh.length : Int) := by omega
                obtain ⟨b1, o1, c1', hv, hn1, hel⟩ := (HN1.out.keep HBQ.out).at hkl
                injection hv with ea eb ec
                subst ea; subst ec
                clear eb
                obtain ⟨b2, o2, c2', hv, hn2, hel2⟩ := (HH1.out.keep HBQ.out).at hkz
                injection hv with ea eb ec
                subst ea; subst ec
                clear eb
                have HS := Lib.hid (HXS.out k hkl hkz)
                have HB2 := Lib.hid (fun nq => (HH1.out.keep (HBQ.out.trans ((Below_drewN (Below.refl wr.heap.size wr) nq).mono HBQ.out.size))))
                generalize nd[k] = n at *
                generalize hwk : wh[k] = vk at *
                have d4 : wr.cell? ⟨b1, o1 + k * 1 + 0, none⟩ = some (.int .i64 n) := hel 0 _ rfl
                have d5 : wr.cell? ⟨b2, o2 + k * 1 + 0, none⟩ = some (.int .i64 vk) := by first | exact hel2 0 _ rfl | (rw [← hwk]; exact hel2 0 _ rfl)
                rw [Nat.mul_one, Nat.add_zero] at d4 d5
                have hb2 : b2 < w1.heap.size := by
                  obtain ⟨b3, o3, c3, hv3, _, hel3⟩ := HH1.out.at hkz
                  injection hv3 with ea _ _
                  injection ea with ea
                  injection ea with ea1 _ _
                  rw [ea1]
                  exact World.block_lt_of_cell? w1 _ (hel3 0 _ rfl)
                clear hel hel2 hwk
                by_cases hn : n = xg
                · have q1 : (n == xg) = true := by simp [hn]
                  have HS1 := Lib.hid (HS.out.trans (if_pos hn))
                  clear hn HS
                  go_wp2_with fail
                  go_quiet (fail)
                  have HK7 := Lib.hid (HKQ.out.trans (Kept.new (Below_drewN (Below.refl wr.heap.size wr) nq) _))
                  have hx7 : (wr.drewN nq).heap[nb]? = _ := HBX.out
                  have g5 : (wr.drewN nq).cell? ⟨b2, o2 + k, none⟩ = some (.int .i64 vk) := d5
                  generalize wr.drewN nq = w7 at *
                  have HX7 := Lib.hid hx7
                  clear hx7
                  have g0 : w7.cell? ⟨nb, 0, none⟩ = some (.int .i64 xg) := by rw [cell_of_row _ _ _ _ _ _ HX7.out]; rfl
                  have g1 : w7.cell? ⟨nb, 1, none⟩ = some (.int .i64 bk) := by rw [cell_of_row _ _ _ _ _ _ HX7.out]; rfl
                  have g1f : w7.frozen? ⟨nb, 1, none⟩ = false := frozen_of_row w7 nb 1 _ _ HX7.out
                  have HX8 := Lib.hid (show (w7.setCell ⟨nb, 1, none⟩ (.int .i64 xg)).heap[nb]? = some (.cells #[.int .i64 xg, .int .i64 xg, .int .i64 nk, .string ⟨xm.toArray⟩] 38 (0, 0)) by
                    rw [heap_setCell_same w7 nb 1 _ _ _ HX7.out]; rfl)
                  have HK8 := Lib.hid (HK7.out.setCell (p := ⟨nb, 1, none⟩) rfl (.int .i64 xg))
                  have g28 : (w7.setCell ⟨nb, 1, none⟩ (.int .i64 xg)).cell? ⟨nb, 2, none⟩ = some (.int .i64 nk) := by rw [cell_of_row _ _ _ _ _ _ HX8.out]; rfl
                  have g2f : (w7.setCell ⟨nb, 1, none⟩ (.int .i64 xg)).frozen? ⟨nb, 2, none⟩ = false := frozen_of_row _ nb 2 _ _ HX8.out
                  have g58 : (w7.setCell ⟨nb, 1, none⟩ (.int .i64 xg)).cell? ⟨b2, o2 + k, none⟩ = some (.int .i64 vk) := by
                    have hkk : Kept (· = nb) w7 (w7.setCell ⟨nb, 1, none⟩ (.int .i64 xg)) := (Kept.refl (· = nb) w7).setCell rfl _
                    exact (World.cell?_of_block (w := w7) (hkk.block b2 (World.block_lt_of_cell? _ _ g5) (by omega))).trans g5
                  have HX9 := Lib.hid (show ((w7.setCell ⟨nb, 1, none⟩ (.int .i64 xg)).setCell ⟨nb, 2, none⟩ (.int .i64 vk)).heap[nb]? = some (.cells #[.int .i64 xg, .int .i64 xg, .int .i64 vk, .string ⟨xm.toArray⟩] 38 (0, 0)) by
                    rw [heap_setCell_same _ nb 2 _ _ _ HX8.out]; rfl)
                  have HK9 := Lib.hid (HK8.out.setCell (p := ⟨nb, 2, none⟩) rfl (.int .i64 vk))
                  go_wp2_with fail
                  go_roundw
                  case rel => exact ⟨k + 1, xg, vk, hkl, by go_num, HK9.out, HX9.out, HS1.out⟩
                  case measure => simp [intOf]; omega
                · have q1 : (n == xg) = false := by simp [hn]
                  have HS1 := Lib.hid (HS.out.trans ((if_neg hn).trans HAX.out))
                  clear hn HS
                  go_wp2_with fail
                  go_quiet (fail)
                  have HK7 := Lib.hid (HKQ.out.trans (Kept.new (Below_drewN (Below.refl wr.heap.size wr) nq) _))
                  go_wp2_with fail
                  go_roundw
                  case rel => exact ⟨k + 1, bk, nk, hkl, by go_num, HK7.out, HBX.out, HS1.out⟩
                  case measure => simp [intOf]; omega
              · have j2 : ¬ (k : Int) < (nd.length : Int) := by omega
                have HY := Lib.hid ((HXN.out k (by omega)).symm.trans HAX.out)
                have HOQ := Lib.hid (HOA.out.kept HKQ.out (fun g' hg' e => by have := HLT.out g' hg'; omega))
                have g1 : wr.cell? ⟨nb, 1, none⟩ = some (.int .i64 bk) := by rw [cell_of_row _ _ _ _ _ _ HBX.out]; rfl
                have g2 : wr.cell? ⟨nb, 2, none⟩ = some (.int .i64 nk) := by rw [cell_of_row _ _ _ _ _ _ HBX.out]; rfl
                have g3 : wr.cell? ⟨nb, 3, none⟩ = some (.string ⟨xm.toArray⟩) := by rw [cell_of_row _ _ _ _ _ _ HBX.out]; rfl
                have hsz := HBQ.out.size
                go_wp2_with (at_builtin; go_loud (refine append_new (enc := encGn) (k := 4) (w := wr) (by rfl) (.tmp 67) (.tmp 69) 28 38 (.agg #[.int .i64 0, .int .i64 0, .int .i64 0, .string ByteArray.empty]) 40 (by rfl) Try.underlying28 info_gen12 (by rfl) (by decide) encGn_ok w1.heap.size _ out ⟨xg, bk, nk, xm⟩ (by rfl) HOQ.out (by rfl) (by omega) (by unfold maxLen; omega) hsz _ (by rfl) ?_; intro v7 w7 hown7 ht7; have HO7 := Lib.hid hown7; have HB7 := Lib.hid (HBQ.out.trans ht7.bel); clear hown7 ht7))
                go_roundw
                case rel => exact ⟨i + 1, hlt, by go_num, by rw [HT1.out, HY.out]; exact HO7.out, HB7.out⟩
                case measure => simp [intOf]; omega
          · rw [decide_eq_false c1] at J1
            have HT1 := Lib.hid (HT.out.trans (by rw [if_neg c1, List.append_nil]))
            clear HT c1
            go_wp2_with fail
            refine J1.out.mono ?_
            rintro e w5 ⟨rfl, ew⟩
            subst ew
            go_wp2_with fail
            go_roundw
            case rel => exact ⟨i + 1, hlt, by go_num, by rw [HT1.out]; exact HO.out, HB.out⟩
            case measure => simp [intOf]; omega
        · have j1 : ¬ (i : Int) < (l.length : Int) := by omega
          rw [List.take_of_length_le (by omega)] at HO
          have HBF := Lib.hid (HB1.out.trans (HB.out.mono HB1.out.size))
          have HOF := Lib.hid (HO.out.mono HB1.out.size)
          go_wp2_with fail
          go_ret2
          exact ⟨_, by rw [HE.out]; rfl, by rw [HG.out, HAL.out]; exact HOF.out, HBF.out⟩
    · have HE := Lib.hid (HAE.out.trans (if_neg hq))
      have HG := Lib.hid (show afterG l wt wh = [] by unfold afterG; rw [if_pos (by rw [HE.out]; decide)])
      have q0 : ((nd.length : Int) != (wh.length : Int)) = true := by simp; omega
      clear hq HAE
      go_enter Try.func28, Try.ntmps28
      go_wp2_with fail
      refine ND.out.mono ?_
      rintro e w1 ⟨v1, rfl, ho1, hb1⟩
      obtain ⟨na, nc, hv1, _⟩ := (OwnN.row encI1_ok ho1).slice
      subst hv1
      have HB1 := Lib.hid hb1
      clear hb1 ho1 ND
      go_wp2_with fail
      go_ret2
      exact ⟨_, by rw [HE.out]; rfl, by rw [HG.out]; exact OwnN.nil _ _ _ _ _, HB1.out⟩
  · have HE := Lib.hid (show afterE l wt wh = needE l wt by unfold afterE; rw [if_pos hc])
    have HG := Lib.hid (show afterG l wt wh = [] by unfold afterG; rw [if_pos (by rw [HE.out]; exact hc)])
    have q1 : (needE l wt != 0) = true := by simp [hc]
    rw [HE.out]
    generalize needE l wt = ce at *
    clear hc HE
    go_enter Try.func28, Try.ntmps28
    go_wp2_with fail
    refine ND.out.mono ?_
    rintro e w1 ⟨v1, rfl, ho1, hb1⟩
    obtain ⟨na, nc, hv1, _⟩ := (OwnN.row encI1_ok ho1).slice
    subst hv1
    have HB1 := Lib.hid hb1
    clear hb1 ho1 ND
    go_wp2_with fail
    go_ret2
    exact ⟨_, rfl, by rw [HG.out]; exact OwnN.nil _ _ _ _ _, HB1.out⟩
end Go.Proofs.Ytgejocceegadhaa

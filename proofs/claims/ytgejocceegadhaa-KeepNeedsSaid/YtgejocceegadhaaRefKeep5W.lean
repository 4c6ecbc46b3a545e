/- The document's keep: Need. -/
import Derived.Test.YtgejocceegadhaaFrame
import Derived.Test.YtgejocceegadhaaGen
import Derived.Test.YtgejocceegadhaaKeepMath
import Derived.Test.YtgejocceegadhaaOwnL
import Derived.Test.YtgejocceegadhaaQuietBelow
import Derived.Test.YtgejocceegadhaaRefKeep2W
import Derived.Test.YtgejocceegadhaaRefKeep3W
import Derived.Test.YtgejocceegadhaaRefKeep4W
import Derived.Test.YtgejocceegadhaaRefKeepW
import Derived.Test.YtgejocceegadhaaRowN
import Derived.Test.YtgejocceegadhaaRows
import Derived.Deep.QuietTactic
set_option linter.unusedVariables false
namespace Go.Proofs.Ytgejocceegadhaa
open Go.RowKit

theorem needL_snoc (l : List GenD) (x : GenD) (wt : List Int) : needL (l ++ [x]) wt = needL l wt ++ if x.gen ∈ wt ∧ x.basis ∉ wt then [x.gen] else [] := by
  unfold needL
  rw [List.filter_append, List.map_append]
  by_cases c : x.gen ∈ wt ∧ x.basis ∉ wt
  · rw [if_pos c]; simp [c.1, c.2]
  · rw [if_neg c]
    by_cases c1 : x.gen ∈ wt
    · have c2 : x.basis ∈ wt := Classical.byContradiction fun k => c ⟨c1, k⟩
      simp [c1, c2]
    · simp [c1]
theorem needL_len (l : List GenD) (wt : List Int) : (needL l wt).length ≤ l.length := by
  unfold needL
  rw [List.length_map]
  exact List.length_filter_le _ _
theorem atZ_lt {l : List GenD} {g : Int} : atZ l g < 0 ↔ ¬ atN l g < l.length := by
  unfold atZ
  by_cases c : atN l g < l.length
  · rw [if_pos c]; omega
  · rw [if_neg c]; omega
set_option maxRecDepth 100000 in
set_option maxHeartbeats 4000000 in
theorem refNeed12_any (v u : Value) (l : List GenD) (wt : List Int) (w : World) {N M : Nat → Prop} (hrow : RowN encGn 4 N w v l) (hl : l.length ≤ 140737488351232) (hok : ∀ x ∈ l, GenOk x) (hwt : RowN encI1 1 M w u wt) (hwl : wt.length ≤ 140737488351232) :
    Calls Try.prog 26 #[v, u] w fun e w' => ∃ v', e = .returned (.tuple #[v', .int .i64 (needE l wt)]) ∧ OwnN encI1 1 w' w.heap.size 3 v' (needG l wt) ∧ Below w.heap.size w w' := by
  have HR := Lib.hid hrow
  have HW := Lib.hid hwt
  have CH := Lib.hid (refCheck12_any v l w hrow hl hok)
  obtain ⟨va, vc, hv, hvc⟩ := hrow.slice
  subst hv
  obtain ⟨ua, uc, hu, _⟩ := hwt.slice
  subst hu
  clear hrow hwt hok
  by_cases hc : checkG l = 0
  · have hlen : l.length ≤ 4096 := by
      unfold checkG at hc
      split at hc
      · cases hc
      · omega
    have HNE := Lib.hid (show needE l wt = if ∀ g ∈ wt, atN l g < l.length then 0 else 8 by unfold needE; rw [if_neg (by rw [hc]; simp)])
    rw [hc] at CH
    clear hc
    go_enter Try.func26, Try.ntmps26
    go_wp2_with fail
    refine CH.out.mono ?_
    rintro e w1 ⟨rfl, hb1⟩
    have HB1 := Lib.hid hb1
    have HR1 := Lib.hid (HR.out.keep hb1)
    have HW1 := Lib.hid (HW.out.keep hb1)
    clear hb1 CH HR HW
    go_wp2_with fail
    go_loopw [7] (fun v7 wr => ∃ i : Nat, i ≤ wt.length ∧ v7 = .int .i64 (i : Nat) ∧ w1 = wr ∧ ∀ g ∈ wt.take i, atN l g < l.length) (fun v7 _ => wt.length - (intOf v7).toNat)
    case atStart => exact ⟨0, Nat.zero_le _, rfl, rfl, fun g hg => by simp at hg⟩
    case round =>
      obtain ⟨i, hi, rfl, rfl, hal⟩ := hrel
      have HAL := Lib.hid hal
      clear hal
      have i0 : (0 : Int) ≤ (i : Int) := by omega
      by_cases hlt : i < wt.length
      · have j1 : (i : Int) < (wt.length : Int) := by omega
        obtain ⟨b, o, c', hv, hn, hel⟩ := HW1.out.at hlt
        injection hv with ea eb ec
        subst ea; subst ec
        clear eb
        have HT := Lib.hid (show wt.take (i + 1) = wt.take i ++ [wt[i]] from by rw [List.take_succ_eq_append_getElem hlt])
        have HM := Lib.hid (List.getElem_mem hlt)
        generalize wt[i] = g at *
        have d0 : w1.cell? ⟨b, o + i * 1 + 0, none⟩ = some (.int .i64 g) := hel 0 _ rfl
        rw [Nat.mul_one, Nat.add_zero] at d0
        clear hel
        have AT := Lib.hid (refAt12_any (.slice va l.length vc) l g w1 HR1.out hl)
        have HZL := Lib.hid (atZ_lt (l := l) (g := g))
        generalize atZ l g = z at *
        go_wp2_with fail
        refine AT.out.mono ?_
        rintro e w2 ⟨rfl, ew⟩
        subst ew
        by_cases hz : z < 0
        · have HE := Lib.hid (HNE.out.trans (if_neg (fun k => HZL.out.1 hz (k g HM.out))))
          have HG := Lib.hid (show needG l wt = [] by unfold needG; rw [if_pos (by rw [HE.out]; decide)])
          clear AT
          go_wp2_with fail
          go_ret2
          exact ⟨_, by rw [HE.out]; rfl, by rw [HG.out]; exact OwnN.nil _ _ _ _ _, HB1.out⟩
        · have HAG := Lib.hid (show atN l g < l.length from Classical.byContradiction fun k => hz (HZL.out.2 k))
          clear AT
          go_wp2_with fail
          go_roundw
          case rel =>
            refine ⟨i + 1, hlt, by go_num, trivial, fun y hy => ?_⟩
            rw [HT.out] at hy
            rcases List.mem_append.1 hy with c | c
            · exact HAL.out y c
            · rw [List.mem_singleton.1 c]; exact HAG.out
          case measure => simp [intOf]; omega
      · have j1 : ¬ (i : Int) < (wt.length : Int) := by omega
        have HE := Lib.hid (HNE.out.trans (if_pos (fun g hg => HAL.out g (by rw [List.take_of_length_le (by omega)]; exact hg))))
        have HG := Lib.hid (show needG l wt = needL l wt by unfold needG; rw [if_neg (by rw [HE.out]; simp)])
        clear HAL HNE
        go_wp2_with fail
        go_loopw [8, 9] (fun v8 v9 wr => ∃ k : Nat, k ≤ l.length ∧ v9 = .int .i64 (k : Nat) ∧ OwnN encI1 1 wr w1.heap.size 3 v8 (needL (l.take k) wt) ∧ Below w1.heap.size w1 wr) (fun _ v9 _ => l.length - (intOf v9).toNat)
        case atStart => exact ⟨0, Nat.zero_le _, rfl, OwnN.nil _ _ _ _ _, Below.refl _ _⟩
        case round =>
          obtain ⟨k, hk, rfl, hown, hb⟩ := hrel
          have HO := Lib.hid hown
          have HB := Lib.hid hb
          clear hown hb
          have k0 : (0 : Int) ≤ (k : Int) := by omega
          by_cases hkl : k < l.length
          · have j2 : (k : Int) < (l.length : Int) := by omega
            obtain ⟨b, o, c', hv, hn, hel⟩ := HR1.out.at hkl
            injection hv with ea eb ec
            subst ea; subst ec
            clear eb
            have HT := Lib.hid (show needL (l.take (k + 1)) wt = needL (l.take k) wt ++ if l[k].gen ∈ wt ∧ l[k].basis ∉ wt then [l[k].gen] else [] from by rw [List.take_succ_eq_append_getElem hkl, needL_snoc])
            have hnl := needL_len (l.take k) wt
            have htk : (l.take k).length ≤ 4096 := by rw [List.length_take]; omega
            have CX := fun (q : Addr) (y : Value) (hq : w1.cell? q = some y) => (HB.out.cell (p := q) (World.block_lt_of_cell? w1 _ hq)).trans hq
            generalize l[k] = x at *
            obtain ⟨xg, xb, xn, xm⟩ := x
            have d0 := CX _ _ (hel 0 _ rfl)
            have d1 := CX _ _ (hel 1 _ rfl)
            rw [Nat.add_zero] at d0
            dsimp only at d0 d1 HT
            clear hel CX
            have IN := Lib.hid (fun (q : BelowOf wr) (g : Int) => refIn12_any (.slice ua wt.length uc) wt g q.w ((HW1.out.keep HB.out).keep q.h) hwl)
            have I1 := fun (q : BelowOf wr) => Lib.hid (IN.out q xg)
            have I2 := fun (q : BelowOf wr) => Lib.hid (IN.out q xb)
            have J1 := Lib.hid (IN.out ⟨wr, Below.refl _ _⟩ xg)
            have J2 := Lib.hid (IN.out ⟨wr, Below.refl _ _⟩ xb)
            dsimp only at J1 J2
            generalize needL (l.take k) wt = out at *
            by_cases c1 : xg ∈ wt
            · rw [decide_eq_true c1] at J1
              by_cases c2 : xb ∈ wt
              · rw [decide_eq_true c2] at J2
                have HT1 := Lib.hid (HT.out.trans (by rw [if_neg (fun c => c.2 c2), List.append_nil]))
                clear HT c1 c2 I1 I2 IN
                go_wp2_with fail
                refine J1.out.mono ?_
                rintro e w5 ⟨rfl, ew⟩
                subst ew
                go_wp2_with fail
                refine J2.out.mono ?_
                rintro e w5 ⟨rfl, ew⟩
                subst ew
                go_wp2_with fail
                go_roundw
                case rel => exact ⟨k + 1, hkl, by go_num, by rw [HT1.out]; exact HO.out, HB.out⟩
                case measure => simp [intOf]; omega
              · rw [decide_eq_false c2] at J2
                have HT1 := Lib.hid (HT.out.trans (by rw [if_pos (⟨c1, c2⟩ : xg ∈ wt ∧ xb ∉ wt)]))
                clear HT c1 c2 I1 I2 IN
                have hsz := HB.out.size
                go_wp2_with fail
                refine J1.out.mono ?_
                rintro e w5 ⟨rfl, ew⟩
                subst ew
                go_wp2_with fail
                refine J2.out.mono ?_
                rintro e w5 ⟨rfl, ew⟩
                subst ew
                go_wp2_with (at_builtin; go_loud (refine append_new (enc := encI1) (k := 1) (w := wr) (by rfl) (.tmp 51) (.tmp 57) 34 3 (.int .i64 0) 8 (by rfl) Try.underlying34 info_int12 (by rfl) (by decide) encI1_ok w1.heap.size _ out xg (by rfl) HO.out (by rfl) (by omega) (by unfold maxLen; omega) hsz _ (by rfl) ?_; intro v7 w7 hown7 ht7; have HO7 := Lib.hid hown7; have HB7 := Lib.hid (HB.out.trans ht7.bel); clear hown7 ht7))
                go_roundw
                case rel => exact ⟨k + 1, hkl, by go_num, by rw [HT1.out]; exact HO7.out, HB7.out⟩
                case measure => simp [intOf]; omega
            · rw [decide_eq_false c1] at J1
              have HT1 := Lib.hid (HT.out.trans (by rw [if_neg (fun c => c1 c.1), List.append_nil]))
              clear HT c1 I1 I2 IN
              go_wp2_with fail
              refine J1.out.mono ?_
              rintro e w5 ⟨rfl, ew⟩
              subst ew
              go_wp2_with fail
              go_roundw
              case rel => exact ⟨k + 1, hkl, by go_num, by rw [HT1.out]; exact HO.out, HB.out⟩
              case measure => simp [intOf]; omega
          · have j2 : ¬ (k : Int) < (l.length : Int) := by omega
            rw [List.take_of_length_le (by omega)] at HO
            have HBF := Lib.hid (HB1.out.trans (HB.out.mono HB1.out.size))
            have HOF := Lib.hid (HO.out.mono HB1.out.size)
            go_wp2_with fail
            go_ret2
            exact ⟨_, by rw [HE.out]; rfl, by rw [HG.out]; exact HOF.out, HBF.out⟩
  · have HE := Lib.hid (show needE l wt = checkG l by unfold needE; rw [if_pos hc])
    have HG := Lib.hid (show needG l wt = [] by unfold needG; rw [if_pos (by rw [HE.out]; exact hc)])
    have q1 : (checkG l != 0) = true := by simp [hc]
    rw [HE.out]
    generalize checkG l = ce at *
    clear hc HE
    go_enter Try.func26, Try.ntmps26
    go_wp2_with fail
    refine CH.out.mono ?_
    rintro e w1 ⟨rfl, hb1⟩
    have HB1 := Lib.hid hb1
    clear hb1 CH
    go_wp2_with fail
    go_ret2
    exact ⟨_, rfl, by rw [HG.out]; exact OwnN.nil _ _ _ _ _, HB1.out⟩
end Go.Proofs.Ytgejocceegadhaa

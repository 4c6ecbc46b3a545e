/- Landed tree: fits over names, walked (printed by wip/gen/fits.py). -/
import Derived.Test.YtkfkfpfnpfpkaaaDoorFitsMath
import Derived.Test.YtkfkfpfnpfpkaaaDoorFitsNW
import Derived.Test.YtkfkfpfnpfpkaaaDoorFrame
import Derived.Test.YtkfkfpfnpfpkaaaDoorGen
import Derived.Test.YtkfkfpfnpfpkaaaDoorGreedyMath
import Derived.Test.YtkfkfpfnpfpkaaaDoorMarkMath
import Derived.Test.YtkfkfpfnpfpkaaaDoorMatchMath
import Derived.Test.YtkfkfpfnpfpkaaaDoorOwnL
import Derived.Test.YtkfkfpfnpfpkaaaDoorProg
import Derived.Test.YtkfkfpfnpfpkaaaDoorQuietBelow
import Derived.Test.YtkfkfpfnpfpkaaaDoorReadW
import Derived.Test.YtkfkfpfnpfpkaaaDoorRowN
import Derived.Test.YtkfkfpfnpfpkaaaDoorRows
import Derived.BigQuiet
import Derived.Deep.QuietTactic
import Derived.Laws.IdiomStrings
import Derived.Lib.Hide
import Derived.WalkKit
import Derived.WalkLawsBesides
import Derived.WalkSpells
set_option linter.unusedVariables false
namespace Go.Proofs.YtkfkfpfnpfpkaaaDoor
open Go.RowKit

set_option maxRecDepth 100000 in
theorem anyT_any (c : Txt) (w : World) : Calls Tryd.prog 113 #[encS c] w fun e w' => e = .returned (.bool (anyT c)) ∧ w' = w := by
  unfold encS anyT
  go_enter Tryd.func113, Tryd.ntmps113
  go_wp2_with fail
  go_ret
  exact ⟨by simp, rfl⟩
set_option maxRecDepth 100000 in
set_option maxHeartbeats 2000000 in
theorem fitsT_any (va vb : Option Addr) (ca cb : Nat) (p s : List Txt) (w : World) (h1 : EachG encS w va p) (h2 : EachG encS w vb s) (hp : p.length ≤ 1000000) (hs : s.length ≤ 1000000) (hxp : ∀ x ∈ p, x.length ≤ 100000) (hxs : ∀ x ∈ s, x.length ≤ 100000) :
    Calls Tryd.prog 114 #[.slice va p.length ca, .slice vb s.length cb, .func (.func 113) #[] #[], .func (.func 116) #[] #[]] w fun e w' => e = .returned (.bool (fitG anyT inS p s)) ∧ Below w.heap.size w w' := by
  have H1 := Lib.hid h1
  have H2 := Lib.hid h2
  clear h1 h2
  have HXP := Lib.hid hxp
  have HXS := Lib.hid hxs
  clear hxp hxs
  obtain ⟨res, hres⟩ : ∃ res, res = fitG anyT inS p s := ⟨_, rfl⟩
  have HRES := Lib.hid hres.symm
  rw [← hres]
  clear hres
  have G0 := Lib.hid (Greedy.start (anyM := anyT) (one := inS) p s)
  go_enter Tryd.func114, Tryd.ntmps114
  go_wp2_with fail
  go_loopw [9, 10, 11, 12] (fun v9 v10 v11 v12 wr => ∃ (i k t : Nat) (ag : Int), v9 = .int .i64 i ∧ v10 = .int .i64 ag ∧ v11 = .int .i64 t ∧ v12 = .int .i64 k ∧ i ≤ p.length ∧ k ≤ s.length ∧ t ≤ k ∧ -1 ≤ ag ∧ ag ≤ i ∧ Hid (Greedy anyT inS p s i k ag t) ∧ Below w.heap.size w wr) (fun v9 v10 v11 v12 _ => msr p.length s.length (intOf v10 + 1).toNat (intOf v11).toNat (intOf v12).toNat)
  case atStart => exact ⟨0, 0, 0, -1, rfl, rfl, rfl, rfl, by omega, by omega, by omega, by omega, by omega, G0, Below.refl _ _⟩
  case round =>
    clear G0
    obtain ⟨i, k, t, ag, rfl, rfl, rfl, rfl, hip, hks, htk, hag0, hag1, HG, hbel⟩ := hrel
    have HB := Lib.hid hbel
    clear hbel
    have i0 : (0 : Int) ≤ (i : Int) := by omega
    have k0 : (0 : Int) ≤ (k : Int) := by omega
    by_cases hk : k < s.length
    · have kk : (k : Int) < (s.length : Int) := by omega
      obtain ⟨g2, o2, rfl, c2⟩ := (H2.out.new HB.out) k hk
      by_cases hi : i < p.length
      · have ii : (i : Int) < (p.length : Int) := by omega
        have d1 : decide ((i : Int) < (p.length : Int)) = true := decide_eq_true ii
        have d2 : decide (i < p.length) = true := decide_eq_true hi
        obtain ⟨g1, o1, rfl, c1⟩ := (H1.out.new HB.out) i hi
        have AN := fun w' => Lib.hid (anyT_any p[i] w')
        have ON := fun w' => Lib.hid (fitsName_any p[i] s[k] w' (HXP.out _ (List.getElem_mem hi)) (HXS.out _ (List.getElem_mem hk)))
        have HNG := Lib.hid (fun (ha : anyT p[i] = false) (ho : inS p[i] s[k] = false) => not_F (anyM := anyT) (one := inS) (i := i) hk (fun _ => ⟨ha, ho⟩) hip)
        have HGM := Lib.hid (fun ha => HG.out.many hi ha)
        have HGS := Lib.hid (fun ha ho => HG.out.step hi ha hk ho)
        obtain ⟨ba, hba⟩ : ∃ ba, ba = anyT p[i] := ⟨_, rfl⟩
        obtain ⟨bo, hbo⟩ : ∃ bo, bo = inS p[i] s[k] := ⟨_, rfl⟩
        rw [← hba] at AN HNG HGM HGS
        rw [← hbo] at ON HNG HGS
        clear hba hbo
        generalize encS p[i] = x at *
        generalize encS s[k] = y at *
        cases ba with
        | true =>
          have HG2 := Lib.hid (HGM.out rfl)
          clear HGM HGS HNG HG
          go_wp2_with fail
          refine (AN _).out.mono ?_
          rintro e w1 ⟨rfl, rfl⟩
          go_wp2_with fail
          go_roundw
          case rel => exact ⟨i + 1, k, k, ((i + 1 : Nat) : Int), by go_num, by go_num, rfl, rfl, hi, hks, Nat.le_refl _, by omega, by omega, HG2, HB.out⟩
          case measure =>
            have e1 : (intOf (.int .i64 ag) + 1).toNat < (intOf (.int .i64 ((i : Int) + 1)) + 1).toNat := by simp [intOf]; omega
            exact msr_star e1 (by simp [intOf]; omega) hks htk
        | false =>
          cases bo with
          | true =>
            have HG2 := Lib.hid (HGS.out rfl rfl)
            clear HGM HGS HNG HG
            go_wp2_with fail
            refine (AN _).out.mono ?_
            rintro e w1 ⟨rfl, rfl⟩
            go_wp2_with fail
            have C1 := below_cell c1
            have C2 := below_cell c2
            refine wp_region_below (by kernel_rfl) (by kernel_rfl) ?_
            repeat (go_big_quiet_step ((go_at_call 116; with_reducible exact below_calls (ON _).out)))
            refine wpQuiet_nil ?_
            rintro w8 ⟨⟨w8b, hb8⟩, e8⟩
            have e8' : w8 = w8b := e8
            clear e8
            subst e8'
            have HB8 := Lib.hid (HB.out.trans (hb8.mono HB.out.size))
            clear C1 C2 hb8
            go_wp2_with fail
            go_roundw
            case rel => exact ⟨i + 1, k + 1, t, ag, by go_num, rfl, rfl, by go_num, hi, hk, by omega, hag0, by omega, HG2, HB8.out⟩
            case measure => exact msr_one (show (intOf (.int .i64 (k : Int))).toNat < s.length by simpa [intOf] using hk)
          | false =>
            have HNF := Lib.hid (HNG.out rfl rfl)
            clear HGM HGS HNG
            go_wp2_with fail
            refine (AN _).out.mono ?_
            rintro e w1 ⟨rfl, rfl⟩
            go_wp2_with fail
            have C1 := below_cell c1
            have C2 := below_cell c2
            refine wp_region_below (by kernel_rfl) (by kernel_rfl) ?_
            repeat (go_big_quiet_step ((go_at_call 116; with_reducible exact below_calls (ON _).out)))
            refine wpQuiet_nil ?_
            rintro w8 ⟨⟨w8b, hb8⟩, e8⟩
            have e8' : w8 = w8b := e8
            clear e8
            subst e8'
            have HB8 := Lib.hid (HB.out.trans (hb8.mono HB.out.size))
            clear C1 C2 hb8
            by_cases hag : ag = -1
            · have HR := Lib.hid (show false = res by rw [← HRES.out]; exact (HG.out.no HNF.out hag).symm)
              subst hag
              go_wp2_with fail
              go_ret
              exact ⟨by rw [← HR.out]; rfl, HB8.out⟩
            · have HGB := Lib.hid (HG.out.back hk HNF.out hag)
              obtain ⟨b, rfl⟩ : ∃ b : Nat, ag = (b : Int) := ⟨ag.toNat, by omega⟩
              have hb0 : (b : Int) ≥ 0 := by omega
              have hb1 : ¬ (b : Int) < 0 := by omega
              go_wp2_with fail
              go_roundw
              case rel => exact ⟨b, t + 1, t + 1, (b : Int), rfl, rfl, by go_num, by go_num, by omega, by omega, Nat.le_refl _, by omega, by omega, Lib.hid (by have h := HGB.out; simpa using h), HB8.out⟩
              case measure => exact msr_back (show t < s.length by omega) (by simp [intOf])
      · have ii : ¬ (i : Int) < (p.length : Int) := by omega
        have d1 : decide ((i : Int) < (p.length : Int)) = false := decide_eq_false ii
        have d2 : decide (i < p.length) = false := decide_eq_false hi
        have HNF := Lib.hid (not_F (anyM := anyT) (one := inS) (i := i) hk (fun h => absurd h hi) hip)
        go_wp2_with fail
        go_quiet (fail)
        have HB8 := Lib.hid (Below_drewN HB.out nq)
        generalize wr.drewN nq = w8 at *
        by_cases hag : ag = -1
        · have HR := Lib.hid (show false = res by rw [← HRES.out]; exact (HG.out.no HNF.out hag).symm)
          subst hag
          go_wp2_with fail
          go_ret
          exact ⟨by rw [← HR.out]; rfl, HB8.out⟩
        · have HGB := Lib.hid (HG.out.back hk HNF.out hag)
          obtain ⟨b, rfl⟩ : ∃ b : Nat, ag = (b : Int) := ⟨ag.toNat, by omega⟩
          have hb0 : (b : Int) ≥ 0 := by omega
          have hb1 : ¬ (b : Int) < 0 := by omega
          go_wp2_with fail
          go_roundw
          case rel => exact ⟨b, t + 1, t + 1, (b : Int), rfl, rfl, by go_num, by go_num, by omega, by omega, Nat.le_refl _, by omega, by omega, Lib.hid (by have h := HGB.out; simpa using h), HB8.out⟩
          case measure => exact msr_back (show t < s.length by omega) (by simp [intOf])
    · have kk : ¬ (k : Int) < (s.length : Int) := by omega
      obtain rfl : k = s.length := by omega
      have HE := Lib.hid (show (p.drop i).all anyT = res by rw [← HG.out.ends]; exact HRES.out)
      clear HG HRES
      go_wp2_with fail
      go_loopw [9] (fun v9 w5 => ∃ i : Nat, v9 = .int .i64 i ∧ i ≤ p.length ∧ Hid ((p.drop i).all anyT = res) ∧ Below w.heap.size w w5) (fun v9 _ => p.length - (intOf v9).toNat)
      case atStart => exact ⟨i, rfl, hip, HE, HB.out⟩
      case round =>
        clear HE HB
        obtain ⟨j, rfl, hjp, HE, hbel⟩ := hrel
        have HB := Lib.hid hbel
        clear hbel
        have j0 : (0 : Int) ≤ (j : Int) := by omega
        by_cases hj : j < p.length
        · have jj : (j : Int) < (p.length : Int) := by omega
          obtain ⟨g1, o1, rfl, c1⟩ := (H1.out.new HB.out) j hj
          have AN := fun w' => Lib.hid (anyT_any p[j] w')
          have HD := Lib.hid (show (p.drop j).all anyT = (anyT p[j] && (p.drop (j + 1)).all anyT) by rw [List.drop_eq_getElem_cons hj]; rfl)
          obtain ⟨ba, hba⟩ : ∃ ba, ba = anyT p[j] := ⟨_, rfl⟩
          rw [← hba] at AN HD
          clear hba
          generalize encS p[j] = x at *
          cases ba with
          | true =>
            have HE2 := Lib.hid (show (p.drop (j + 1)).all anyT = res by rw [← HE.out, HD.out, Bool.true_and])
            clear HE HD
            go_wp2_with fail
            refine (AN _).out.mono ?_
            rintro e w1 ⟨rfl, rfl⟩
            go_wp2_with fail
            go_roundw
            case rel => exact ⟨j + 1, by go_num, hj, HE2, HB.out⟩
            case measure => simp [intOf]; omega
          | false =>
            have HE2 := Lib.hid (show false = res by rw [← HE.out, HD.out, Bool.false_and])
            have qe : ((j : Int) == (p.length : Int)) = false := by rw [beq_eq_false_iff_ne]; omega
            clear HE HD
            go_wp2_with fail
            refine (AN _).out.mono ?_
            rintro e w1 ⟨rfl, rfl⟩
            go_wp2_with fail
            go_ret
            exact ⟨by rw [← HE2.out]; rfl, HB.out⟩
        · have jj : ¬ (j : Int) < (p.length : Int) := by omega
          obtain rfl : j = p.length := by omega
          have HE2 := Lib.hid (show true = res by rw [← HE.out, List.drop_eq_nil_of_le (Nat.le_refl _)]; rfl)
          have qe : ((p.length : Int) == (p.length : Int)) = true := by simp
          clear HE
          go_wp2_with fail
          go_ret
          exact ⟨by rw [← HE2.out]; rfl, HB.out⟩
end Go.Proofs.YtkfkfpfnpfpkaaaDoor

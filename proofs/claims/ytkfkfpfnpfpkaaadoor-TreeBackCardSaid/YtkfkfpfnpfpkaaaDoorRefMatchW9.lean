/- The document's Match: a path and a pattern, by a table; a name and a pattern in it. -/
import Derived.Test.YtkfkfpfnpfpkaaaDoorFrame
import Derived.Test.YtkfkfpfnpfpkaaaDoorGen
import Derived.Test.YtkfkfpfnpfpkaaaDoorMarkMath
import Derived.Test.YtkfkfpfnpfpkaaaDoorMatchMath
import Derived.Test.YtkfkfpfnpfpkaaaDoorOwnL
import Derived.Test.YtkfkfpfnpfpkaaaDoorQuietBelow
import Derived.Test.YtkfkfpfnpfpkaaaDoorReadW
import Derived.Test.YtkfkfpfnpfpkaaaDoorRefInNameW
import Derived.Test.YtkfkfpfnpfpkaaaDoorRefNamesW
import Derived.Test.YtkfkfpfnpfpkaaaDoorRefPatW
import Derived.Test.YtkfkfpfnpfpkaaaDoorRowN
import Derived.Test.YtkfkfpfnpfpkaaaDoorRows
import Derived.Test.YtkfkfpfnpfpkaaaDoorTreeMath
import Derived.BigQuiet
import Derived.Deep.QuietTactic
import Derived.Lib.Hide
import Derived.WalkKit
import Derived.WalkLawsBesides
import Derived.WalkSpells
set_option linter.unusedVariables false
namespace Go.Proofs.YtkfkfpfnpfpkaaaDoor
open Go.RowKit

theorem OwnL.each {w : World} {base n c : Nat} {a : Option Addr} {e : TypeId} {l : List Txt} (h : OwnL strE w base e (.slice a n c) l) (i : Nat) (hi : i < l.length) : ∃ g o, a = some ⟨g, o, none⟩ ∧ w.cell? ⟨g, o + i, none⟩ = some (strE l[i]) := by
  obtain ⟨a', c', hv, hc⟩ := OwnL.row h
  injection hv with e1 _ _
  obtain ⟨g, o, e4, _, h'⟩ := hc i hi
  exact ⟨g, o, e1.trans e4, h'⟩
set_option maxRecDepth 100000 in
set_option maxHeartbeats 4000000 in
theorem refMatch9_any (ps qs : Txt) (w : World) (hps : ps.length ≤ 140737488351232) (hqs : qs.length ≤ 140737488351232) :
    Calls Tryd.prog 41 #[.string ⟨ps.toArray⟩, .string ⟨qs.toArray⟩] w fun e w' => e = .returned (.bool (matchS ps qs)) ∧ Below w.heap.size w w' := by
  have PT := Lib.hid (refPattern_any ps w hps)
  by_cases hp0 : patternS ps = 0
  · by_cases hq0 : pathS qs = 0
    · have HMS := Lib.hid (show matchS ps qs = matF (namesS ps) (namesS qs) by unfold matchS; rw [decide_eq_true hp0, decide_eq_true hq0]; rfl)
      have hpl2 : ps.length ≤ 200 := by
        unfold patternS at hp0
        by_cases h1 : 200 < ps.length
        · rw [if_pos h1] at hp0; exact absurd hp0 (by decide)
        · omega
      have hql2 : qs.length ≤ 200 := by
        unfold pathS at hq0
        by_cases h1 : 200 < qs.length
        · rw [if_pos h1] at hq0; exact absurd hq0 (by decide)
        · omega
      have QT := fun w' => Lib.hid (refPath_any qs w' hqs)
      rw [hp0] at PT
      rw [hq0] at QT
      have N1 := fun w' => Lib.hid (refNames_any ps w' (by omega))
      have N2 := fun w' => Lib.hid (refNames_any qs w' (by omega))
      have HPX := Lib.hid (fun x (hx : x ∈ namesS ps) => show x.length ≤ 300 by have := namesG_le ps [] x hx; simp at this; omega)
      have HLX := Lib.hid (fun x (hx : x ∈ namesS qs) => show x.length ≤ 300 by have := namesG_le qs [] x hx; simp at this; omega)
      have hp := namesG_len ps []
      have hs := namesG_len qs []
      have e1 : namesS ps = namesG [] ps := rfl
      have e2 : namesS qs = namesG [] qs := rfl
      rw [← e1] at hp
      rw [← e2] at hs
      clear e1 e2
      generalize namesS ps = p at *
      generalize namesS qs = s at *
      have hp : p.length ≤ 201 := by omega
      have hs : s.length ≤ 201 := by omega
      generalize matchS ps qs = mres at *
      clear hp0 hq0
      go_enter Tryd.func41, Tryd.ntmps41
      go_wp2_with fail
      refine PT.out.mono ?_
      rintro e w1 ⟨rfl, hb1⟩
      have HW1 := Lib.hid hb1
      clear hb1 PT
      go_wp2_with fail
      refine (QT _).out.mono ?_
      rintro e w2 ⟨rfl, hb2⟩
      have HW2 := Lib.hid (HW1.out.trans (hb2.mono HW1.out.size))
      clear hb2 QT HW1
      go_wp2_with fail
      refine (N1 _).out.mono ?_
      rintro e w3 ⟨v5, rfl, hown5, hb3⟩
      have HW3 := Lib.hid (HW2.out.trans (hb3.mono HW2.out.size))
      have HO5 := Lib.hid hown5
      clear hb3 N1 HW2 hown5
      go_wp2_with fail
      refine (N2 _).out.mono ?_
      rintro e w4 ⟨v6, rfl, hown6, hb4⟩
      have HW4 := Lib.hid (HW3.out.trans (hb4.mono HW3.out.size))
      have HO6 := Lib.hid hown6
      have HO5b := Lib.hid (show OwnL strE w4 w2.heap.size 9 v5 p from own_none HO5.out (Kept.new hb4 (fun _ => False)) (fun _ _ h => h))
      clear hb4 N2 HW3 hown6 HO5
      obtain ⟨va, vm, vc, hv⟩ := own_slice HO5b.out
      subst hv
      have hvm : vm = p.length := own_lenV HO5b.out
      subst hvm
      obtain ⟨va6, vm6, vc6, hv6⟩ := own_slice HO6.out
      subst hv6
      have hvm6 : vm6 = s.length := own_lenV HO6.out
      subst hvm6
      have HRP := Lib.hid (fun i hi => HO5b.out.each i hi)
      have HRL := Lib.hid (fun i hi => HO6.out.each i hi)
      clear HO5b HO6
      obtain ⟨Wn, hWn⟩ : ∃ Wn, Wn = s.length + 1 := ⟨_, rfl⟩
      obtain ⟨N, hN⟩ : ∃ N, N = (p.length + 1) * Wn := ⟨_, rfl⟩
      have E0 : (s.length : Int) + 1 = (Wn : Int) := by omega
      have E1 : ((p.length : Int) + 1) * (Wn : Int) = (N : Int) := by rw [hN]; simp
      have hNb : N ≤ 40804 := by
        rw [hN, hWn]
        have := Nat.mul_le_mul (show p.length + 1 ≤ 202 by omega) (show s.length + 1 ≤ 202 by omega)
        omega
      obtain ⟨g, w1, hr, ho, hb1⟩ := make_bools w4 w4.heap.size N (N : Int) rfl (by omega) (Nat.le_refl _)
      have HO1 := Lib.hid ho
      have HB1 := Lib.hid hb1
      have HZ : (List.replicate N false).length = N := List.length_replicate
      have HNE := Lib.hid hN
      have HWE := Lib.hid hWn
      have HRES := Lib.hid (show matF p s = matF (p.drop 0) (s.drop 0) from rfl)
      generalize List.replicate N false = T0 at *
      generalize matF p s = res at *
      have hWb : Wn ≤ 202 := by omega
      have hW0 : 0 < Wn := by omega
      clear ho hb1 hN hWn
      go_wp2_with fail
      clear hr
      go_loopw [9] (fun v7 wr => ∃ (a : Nat) (ii : Int) (T : List Bool), a ≤ p.length + 1 ∧ v7 = .int .i64 ii ∧ Hid (ii = (a : Int) - 1) ∧ OwnL Value.bool wr w4.heap.size 4 (.slice (some ⟨g, 0, none⟩) N N) T ∧ T.length = N ∧ TabB (fun i k => matF (p.drop i) (s.drop k)) Wn (a * Wn) T ∧ Below w4.heap.size w4 wr) (fun v7 _ => (intOf v7 + 1).toNat)
      case atStart => exact ⟨p.length + 1, _, T0, by omega, rfl, Lib.hid (by omega), HO1.out, HZ, fun i k h1 h2 h3 => by rw [HZ, HNE.out] at h3; omega, HB1.out⟩
      case round =>
        clear HO1 HB1 HZ
        obtain ⟨a, ii, T, ha, rfl, HII, hown, hTl, hT, hbel⟩ := hrel
        have HO := Lib.hid hown
        have HT := Lib.hid hT
        have HB := Lib.hid hbel
        clear hown hT hbel
        obtain ⟨wq, rfl⟩ : ∃ wq, wq = wr := ⟨_, rfl⟩
        by_cases ha0 : a = 0
        · have j1 : ¬ (0 : Int) ≤ ii := by have := HII.out; omega
          have hN0 : 0 < T.length := by rw [hTl, HNE.out]; exact Nat.mul_pos (by omega) hW0
          have c0 := HO.out.cellB 0 hN0
          have HV := Lib.hid (show T[0] = matF (p.drop 0) (s.drop 0) by
            have := HT.out 0 0 hW0 (by rw [ha0]; omega) (by omega)
            rw [show 0 * Wn + 0 = 0 by omega, List.getElem?_eq_getElem hN0] at this
            exact Option.some.inj this)
          generalize T[0] = t0 at *
          have j2 : (0 : Int) < (N : Int) := by omega
          clear ha0 HT
          go_wp2_with fail
          go_ret
          refine ⟨?_, HW4.out.trans (HB.out.mono HW4.out.size)⟩
          rw [HMS.out, HRES.out, ← HV.out]
          rfl
        · obtain ⟨i, hi⟩ : ∃ i, a = i + 1 := ⟨a - 1, by omega⟩
          obtain rfl : ii = (i : Int) := by have := HII.out; omega
          subst hi
          have i0 : (0 : Int) ≤ (i : Int) := by omega
          obtain ⟨m0, hm0⟩ : ∃ m0, m0 = i * Wn := ⟨_, rfl⟩
          obtain ⟨m1, hm1⟩ : ∃ m1, m1 = (i + 1) * Wn := ⟨_, rfl⟩
          have hm10 : m1 = m0 + Wn := by rw [hm0, hm1, Nat.add_mul]; omega
          have E2 : (i : Int) * (Wn : Int) = (m0 : Int) := by rw [hm0]; simp
          have E3 : ((i : Int) + 1) * (Wn : Int) = (m1 : Int) := by rw [hm1]; simp
          have hm1N : m1 ≤ N := by rw [hm1, HNE.out]; exact Nat.mul_le_mul_right _ (by omega)
          have hmN2 : i < p.length → m1 + Wn ≤ N := fun h => by
            rw [hm1, HNE.out, show (i + 1) * Wn + Wn = (i + 2) * Wn by rw [Nat.add_mul, Nat.add_mul]; omega]
            exact Nat.mul_le_mul_right _ (by omega)
          have HM0 := Lib.hid hm0
          have HM1 := Lib.hid hm1
          rw [← hm1] at HT
          have E4 : ∀ (T : List Bool) (k : Nat), TabB (fun i k => matF (p.drop i) (s.drop k)) Wn (m0 + k + 1) T → k < Wn → m0 + k < T.length → TabB (fun i k => matF (p.drop i) (s.drop k)) Wn (m0 + k) (T.set (m0 + k) (matF (p.drop i) (s.drop k))) := by
            intro T k h1 h2 h3
            rw [hm0] at h1 h3 ⊢
            exact h1.set h2 h3
          have HST := Lib.hid E4
          have E5 : ∀ (T : List Bool) (c i' k' : Nat), TabB (fun i k => matF (p.drop i) (s.drop k)) Wn c T → k' < Wn → c ≤ i' * Wn + k' → ∀ h : i' * Wn + k' < T.length, T[i' * Wn + k'] = matF (p.drop i') (s.drop k') := by
            intro T c i' k' h1 h2 h3 h
            have := h1 i' k' h2 h3 h
            rw [List.getElem?_eq_getElem h] at this
            exact Option.some.inj this
          have HGET := Lib.hid E5
          have HM10 := Lib.hid hm10
          clear E4 E5 hm0 hm1 ha0 hm10
          go_wp2_with fail
          go_loopw [10, 11] (fun v8 v9 wr => ∃ (bb : Nat) (kk : Int) (T : List Bool), bb ≤ Wn ∧ v8 = .int .i64 kk ∧ Hid (kk = (bb : Int) - 1) ∧ OwnL Value.bool wr w4.heap.size 4 (.slice (some ⟨g, 0, none⟩) N N) T ∧ T.length = N ∧ TabB (fun i k => matF (p.drop i) (s.drop k)) Wn (m0 + bb) T ∧ Below w4.heap.size w4 wr) (fun v8 _ _ => (intOf v8 + 1).toNat)
          case atStart => exact ⟨Wn, _, T, by omega, rfl, Lib.hid (by omega), HO.out, hTl, by rw [← HM10.out]; exact HT.out, HB.out⟩
          case round =>
            clear HO HT HB hTl
            obtain ⟨bb, kk, T, hbb, rfl, HKK, hown, hTl, hT, hbel⟩ := hrel
            have HO := Lib.hid hown
            have HT := Lib.hid hT
            have HB := Lib.hid hbel
            clear hown hT hbel
            by_cases hb0 : bb = 0
            · have j1 : ¬ (0 : Int) ≤ kk := by have := HKK.out; omega
              have HTN := Lib.hid (show TabB (fun i k => matF (p.drop i) (s.drop k)) Wn (i * Wn) T by have := HT.out; rw [hb0, Nat.add_zero, HM0.out] at this; exact this)
              clear hb0 HT
              go_wp2_with fail
              go_roundw
              case rel => exact ⟨i, _, T, by omega, rfl, Lib.hid rfl, HO.out, hTl, HTN.out, HB.out⟩
              case measure => first | (simp [intOf]; done) | (simp [intOf]; omega)
            · obtain ⟨k, hk⟩ : ∃ k, bb = k + 1 := ⟨bb - 1, by omega⟩
              obtain rfl : kk = (k : Int) := by have := HKK.out; omega
              subst hk
              have k0 : (0 : Int) ≤ (k : Int) := by omega
              have hkW : k < Wn := by omega
              have hks : k ≤ s.length := by omega
              have hmk : m0 + k < T.length := by have := HM10.out; omega
              have HTS := Lib.hid (HST.out T k HT.out hkW hmk)
              have s1 : (m0 : Int) + (k : Int) < (N : Int) := by omega
              have s0 : (0 : Int) ≤ (m0 : Int) + (k : Int) := by omega
              have st : ((m0 : Int) + (k : Int)).toNat = m0 + k := by omega
              by_cases hiP : i = p.length
              · have q1 : ((i : Int) == (p.length : Int)) = true := by simp [hiP]
                have HV := Lib.hid (show matF (p.drop i) (s.drop k) = ((k : Int) == (s.length : Int)) by
                  rw [hiP, matF_end p s k hks]
                  by_cases h : k = s.length
                  · rw [decide_eq_true h, h]; simp
                  · rw [decide_eq_false h]; symm; simp; omega)
                generalize matF (p.drop i) (s.drop k) = vv at *
                generalize hbo : ((k : Int) == (s.length : Int)) = bo at *
                clear hiP hb0
                have ST := HO.out.setB hTl (m0 + k) (bo)
                have sc := HO.out.cellB (m0 + k) hmk
                have sf := ST.2.1
                have HS := Lib.hid ST.1
                have HSB := Lib.hid (HB.out.setCell (p := ⟨g, m0 + k, none⟩) ST.2.2 (.bool (bo)))
                clear ST
                go_wp2_with fail
                go_roundw
                case rel => exact ⟨k, _, T.set (m0 + k) (bo), by omega, rfl, Lib.hid rfl, HS.out, by rw [List.length_set]; exact hTl, by rw [← HV.out]; exact HTS.out, HSB.out⟩
                case measure => have := HKK.out; first | (simp [intOf]; done) | (simp [intOf]; omega)
              · have q1 : ((i : Int) == (p.length : Int)) = false := by rw [beq_eq_false_iff_ne]; omega
                have hip : i < p.length := by omega
                have i1 : (i : Int) < (p.length : Int) := by omega
                have hmN := hmN2 hip
                obtain ⟨gp, op', rfl, hcp⟩ := HRP.out i hip
                have cp := (HB.out.cell (p := ⟨gp, op' + i, none⟩) (World.block_lt_of_cell? w4 _ hcp)).trans hcp
                unfold strE at cp
                have hpl := HPX.out p[i] (List.getElem_mem hip)
                clear hcp
                have A1 : m1 + k < T.length := by omega
                have c1 := HO.out.cellB (m1 + k) A1
                have HV1 := Lib.hid (show T[m1 + k] = matF (p.drop (i + 1)) (s.drop k) by
                  have := HGET.out T _ (i + 1) k HT.out hkW (by rw [← HM1.out]; have := HM10.out; omega) (by rw [← HM1.out]; exact A1)
                  simp only [← HM1.out] at this
                  exact this)
                have x1 : (m1 : Int) + (k : Int) < (N : Int) := by omega
                have x0 : (0 : Int) ≤ (m1 : Int) + (k : Int) := by omega
                have xt : ((m1 : Int) + (k : Int)).toNat = m1 + k := by omega
                by_cases hstar : p[i] = [42, 42]
                · have q2 : (p[i] == [42, 42]) = true := by rw [hstar]; rfl
                  have HV := Lib.hid (matF_star p s i k hip hstar)
                  rw [← HV1.out] at HV
                  generalize matF (p.drop i) (s.drop k) = vv at *
                  clear hb0 hstar
                  generalize p[i] = x at *
                  have c1' := c1
                  clear c1
                  by_cases hv1 : T[m1 + k] = true
                  · rw [hv1] at c1' HV
                    rw [Bool.true_or] at HV
                    have c1 := c1'
                    clear c1' hv1
                    have ST := HO.out.setB hTl (m0 + k) true
                    have sc := HO.out.cellB (m0 + k) hmk
                    have sf := ST.2.1
                    have HS := Lib.hid ST.1
                    have HSB := Lib.hid (HB.out.setCell (p := ⟨g, m0 + k, none⟩) ST.2.2 (.bool true))
                    clear ST
                    go_wp2_with fail
                    go_roundw
                    case rel => exact ⟨k, _, T.set (m0 + k) true, by omega, rfl, Lib.hid rfl, HS.out, by rw [List.length_set]; exact hTl, by rw [← HV.out]; exact HTS.out, HSB.out⟩
                    case measure => have := HKK.out; first | (simp [intOf]; done) | (simp [intOf]; omega)
                  · have hv1 : T[m1 + k] = false := by simpa using hv1
                    rw [hv1] at c1' HV
                    rw [Bool.false_or] at HV
                    have c1 := c1'
                    clear c1' hv1
                    by_cases hks2 : k < s.length
                    · have l1 : (k : Int) < (s.length : Int) := by omega
                      have A2 : m0 + k + 1 < T.length := by have := HM10.out; omega
                      have c2 := HO.out.cellB (m0 + k + 1) A2
                      have HV2 := Lib.hid (show T[m0 + k + 1] = matF (p.drop i) (s.drop (k + 1)) by
                        have := HGET.out T _ i (k + 1) HT.out (by omega) (by rw [← HM0.out]; omega) (by rw [← HM0.out]; omega)
                        simp only [← HM0.out] at this
                        exact this)
                      rw [decide_eq_true hks2, Bool.true_and, ← HV2.out] at HV
                      generalize T[m0 + k + 1] = v2 at *
                      have y1 : (m0 : Int) + (k : Int) + 1 < (N : Int) := by omega
                      have y0 : (0 : Int) ≤ (m0 : Int) + (k : Int) + 1 := by omega
                      have yt : ((m0 : Int) + (k : Int) + 1).toNat = m0 + k + 1 := by omega
                      clear HV2
                      have ST := HO.out.setB hTl (m0 + k) v2
                      have sc := HO.out.cellB (m0 + k) hmk
                      have sf := ST.2.1
                      have HS := Lib.hid ST.1
                      have HSB := Lib.hid (HB.out.setCell (p := ⟨g, m0 + k, none⟩) ST.2.2 (.bool v2))
                      clear ST
                      go_wp2_with fail
                      go_roundw
                      case rel => exact ⟨k, _, T.set (m0 + k) v2, by omega, rfl, Lib.hid rfl, HS.out, by rw [List.length_set]; exact hTl, by rw [← HV.out]; exact HTS.out, HSB.out⟩
                      case measure => have := HKK.out; first | (simp [intOf]; done) | (simp [intOf]; omega)
                    · have l1 : ¬ (k : Int) < (s.length : Int) := by omega
                      rw [decide_eq_false hks2, Bool.false_and] at HV
                      have ST := HO.out.setB hTl (m0 + k) false
                      have sc := HO.out.cellB (m0 + k) hmk
                      have sf := ST.2.1
                      have HS := Lib.hid ST.1
                      have HSB := Lib.hid (HB.out.setCell (p := ⟨g, m0 + k, none⟩) ST.2.2 (.bool false))
                      clear ST
                      go_wp2_with fail
                      go_roundw
                      case rel => exact ⟨k, _, T.set (m0 + k) false, by omega, rfl, Lib.hid rfl, HS.out, by rw [List.length_set]; exact hTl, by rw [← HV.out]; exact HTS.out, HSB.out⟩
                      case measure => have := HKK.out; first | (simp [intOf]; done) | (simp [intOf]; omega)
                · have q2 : (p[i] == [42, 42]) = false := by simp [hstar]
                  clear c1 HV1 hb0
                  have Wa : IntKind.i64.wrap ((i : Int) + 1) = (i : Int) + 1 := by rw [IntKind.wrap_i64]; omega
                  have Wb : IntKind.i64.wrap (m1 : Int) = (m1 : Int) := by rw [IntKind.wrap_i64]; omega
                  obtain ⟨r1, hr1⟩ : ∃ r1, r1 = m1 + k := ⟨_, rfl⟩
                  obtain ⟨r2, hr2⟩ : ∃ r2, r2 = r1 + 1 := ⟨_, rfl⟩
                  have E6 : (m1 : Int) + (k : Int) = (r1 : Int) := by omega
                  have E7 : (r1 : Int) + 1 = (r2 : Int) := by omega
                  have Wc : IntKind.i64.wrap (r1 : Int) = (r1 : Int) := by rw [IntKind.wrap_i64]; omega
                  have Wd : IntKind.i64.wrap (r2 : Int) = (r2 : Int) := by rw [IntKind.wrap_i64]; omega
                  clear x1 x0 xt
                  by_cases hks2 : k < s.length
                  · have l1 : (k : Int) < (s.length : Int) := by omega
                    have lb1 : decide ((k : Int) < (s.length : Int)) = true := decide_eq_true l1
                    have lb2 : decide (k < s.length) = true := decide_eq_true hks2
                    have HV := Lib.hid (matF_one p s i k hip hstar hks2)
                    have A2 : m1 + k + 1 < T.length := by omega
                    have c2 := HO.out.cellB (m1 + k + 1) A2
                    have HV2 := Lib.hid (show T[m1 + k + 1] = matF (p.drop (i + 1)) (s.drop (k + 1)) by
                      have := HGET.out T _ (i + 1) (k + 1) HT.out (by omega) (by rw [← HM1.out]; have := HM10.out; omega) (by rw [← HM1.out]; omega)
                      simp only [← HM1.out] at this
                      exact this)
                    rw [← HV2.out] at HV
                    generalize T[m1 + k + 1] = v3 at *
                    have y1 : (r2 : Int) < (N : Int) := by omega
                    have y0 : (0 : Int) ≤ (r2 : Int) := by omega
                    rw [show m1 + k + 1 = r2 by omega] at c2
                    clear hr1 hr2 HV2
                    obtain ⟨gl, ol, hva, hcl⟩ := HRL.out k hks2
                    have cl := (HB.out.cell (p := ⟨gl, ol + k, none⟩) (World.block_lt_of_cell? w4 _ hcl)).trans hcl
                    unfold strE at cl
                    have hll := HLX.out s[k] (List.getElem_mem hks2)
                    subst hva
                    generalize matF (p.drop i) (s.drop k) = vv at *
                    clear hcl hstar
                    generalize p[i] = x at *
                    generalize s[k] = y at *
                    have IN := fun w' => Lib.hid (refInName_any x y w' hpl hll)
                    by_cases hin : inS x y = true
                    · rw [hin] at HV IN
                      rw [Bool.true_and] at HV
                      clear hin
                      go_wp2_with fail
                      have F1 := below_cell cp
                      have F2 := below_cell cl
                      have F3 := below_cell c2
                      refine wp_region_below (by kernel_rfl) (by kernel_rfl) ?_
                      repeat (go_big_quiet_step ((go_at_call 88; with_reducible exact below_calls (IN _).out)))
                      refine wpQuiet_nil ?_
                      rintro w8 ⟨⟨w8b, hb8⟩, e8⟩
                      have e8' : w8 = w8b := e8
                      clear e8
                      subst e8'
                      have HB8 := Lib.hid (HB.out.trans (hb8.mono HB.out.size))
                      have HO8 := Lib.hid (show OwnL Value.bool w8 w4.heap.size 4 (.slice (some ⟨g, 0, none⟩) N N) T from own_none HO.out (Kept.new hb8 (fun _ => False)) (fun _ _ h => h))
                      clear F1 F2 F3 hb8 cp cl c2
                      have ST := HO8.out.setB hTl (m0 + k) v3
                      have sc := HO8.out.cellB (m0 + k) hmk
                      have sf := ST.2.1
                      have HS := Lib.hid ST.1
                      have HSB := Lib.hid (HB8.out.setCell (p := ⟨g, m0 + k, none⟩) ST.2.2 (.bool v3))
                      clear ST
                      go_wp2_with fail
                      go_roundw
                      case rel => exact ⟨k, _, T.set (m0 + k) v3, by omega, rfl, Lib.hid rfl, HS.out, by rw [List.length_set]; exact hTl, by rw [← HV.out]; exact HTS.out, HSB.out⟩
                      case measure => have := HKK.out; first | (simp [intOf]; done) | (simp [intOf]; omega)
                    · have hin' : inS x y = false := by simpa using hin
                      rw [hin'] at HV IN
                      rw [Bool.false_and] at HV
                      clear hin hin'
                      go_wp2_with fail
                      have F1 := below_cell cp
                      have F2 := below_cell cl
                      have F3 := below_cell c2
                      refine wp_region_below (by kernel_rfl) (by kernel_rfl) ?_
                      repeat (go_big_quiet_step ((go_at_call 88; with_reducible exact below_calls (IN _).out)))
                      refine wpQuiet_nil ?_
                      rintro w8 ⟨⟨w8b, hb8⟩, e8⟩
                      have e8' : w8 = w8b := e8
                      clear e8
                      subst e8'
                      have HB8 := Lib.hid (HB.out.trans (hb8.mono HB.out.size))
                      have HO8 := Lib.hid (show OwnL Value.bool w8 w4.heap.size 4 (.slice (some ⟨g, 0, none⟩) N N) T from own_none HO.out (Kept.new hb8 (fun _ => False)) (fun _ _ h => h))
                      clear F1 F2 F3 hb8 cp cl c2
                      have ST := HO8.out.setB hTl (m0 + k) false
                      have sc := HO8.out.cellB (m0 + k) hmk
                      have sf := ST.2.1
                      have HS := Lib.hid ST.1
                      have HSB := Lib.hid (HB8.out.setCell (p := ⟨g, m0 + k, none⟩) ST.2.2 (.bool false))
                      clear ST
                      go_wp2_with fail
                      go_roundw
                      case rel => exact ⟨k, _, T.set (m0 + k) false, by omega, rfl, Lib.hid rfl, HS.out, by rw [List.length_set]; exact hTl, by rw [← HV.out]; exact HTS.out, HSB.out⟩
                      case measure => have := HKK.out; first | (simp [intOf]; done) | (simp [intOf]; omega)
                  · have l1 : ¬ (k : Int) < (s.length : Int) := by omega
                    have lb1 : decide ((k : Int) < (s.length : Int)) = false := decide_eq_false l1
                    have lb2 : decide (k < s.length) = false := decide_eq_false hks2
                    have HV := Lib.hid (matF_none p s i k hip hstar hks2)
                    generalize matF (p.drop i) (s.drop k) = vv at *
                    clear hstar
                    generalize p[i] = x at *
                    go_wp2_with fail
                    go_quiet (fail)
                    have HB8 := Lib.hid (Below_drewN HB.out nq)
                    have HO8 := Lib.hid (show OwnL Value.bool (wr.drewN nq) w4.heap.size 4 (.slice (some ⟨g, 0, none⟩) N N) T from own_none HO.out (Kept.of_drewN (M := fun _ => False) wr nq) (fun _ _ h => h))
                    generalize wr.drewN nq = w8 at *
                    have ST := HO8.out.setB hTl (m0 + k) false
                    have sc := HO8.out.cellB (m0 + k) hmk
                    have sf := ST.2.1
                    have HS := Lib.hid ST.1
                    have HSB := Lib.hid (HB8.out.setCell (p := ⟨g, m0 + k, none⟩) ST.2.2 (.bool false))
                    clear ST
                    go_wp2_with fail
                    go_roundw
                    case rel => exact ⟨k, _, T.set (m0 + k) false, by omega, rfl, Lib.hid rfl, HS.out, by rw [List.length_set]; exact hTl, by rw [← HV.out]; exact HTS.out, HSB.out⟩
                    case measure => have := HKK.out; first | (simp [intOf]; done) | (simp [intOf]; omega)
    · have HR := Lib.hid (show matchS ps qs = false by unfold matchS; rw [decide_eq_true hp0, decide_eq_false hq0]; rfl)
      have QT := fun w' => Lib.hid (refPath_any qs w' hqs)
      rw [hp0] at PT
      have q : (pathS qs != 0) = true := by simp [hq0]
      generalize pathS qs = qe at *
      generalize matchS ps qs = mres at *
      clear hp0 hq0
      go_enter Tryd.func41, Tryd.ntmps41
      go_wp2_with fail
      refine PT.out.mono ?_
      rintro e w1 ⟨rfl, hb1⟩
      have HW1 := Lib.hid hb1
      clear hb1 PT
      go_wp2_with fail
      refine (QT _).out.mono ?_
      rintro e w2 ⟨rfl, hb2⟩
      have HW2 := Lib.hid (HW1.out.trans (hb2.mono HW1.out.size))
      clear hb2 QT
      go_wp2_with fail
      go_ret
      exact ⟨by rw [HR.out]; rfl, HW2.out⟩
  · have HR := Lib.hid (show matchS ps qs = false by unfold matchS; rw [decide_eq_false hp0]; rfl)
    have q : (patternS ps != 0) = true := by simp [hp0]
    generalize patternS ps = pe at *
    generalize matchS ps qs = mres at *
    clear hp0
    go_enter Tryd.func41, Tryd.ntmps41
    go_wp2_with fail
    refine PT.out.mono ?_
    rintro e w1 ⟨rfl, hb1⟩
    go_wp2_with fail
    go_ret
    exact ⟨by rw [HR.out]; rfl, hb1⟩
end Go.Proofs.YtkfkfpfnpfpkaaaDoor

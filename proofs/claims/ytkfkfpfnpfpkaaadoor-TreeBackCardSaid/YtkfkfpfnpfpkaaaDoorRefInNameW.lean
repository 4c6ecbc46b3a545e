/- The document's inName: a name and a pattern, by a table. -/
import Derived.Test.YtkfkfpfnpfpkaaaDoorFrame
import Derived.Test.YtkfkfpfnpfpkaaaDoorGen
import Derived.Test.YtkfkfpfnpfpkaaaDoorMarkMath
import Derived.Test.YtkfkfpfnpfpkaaaDoorMatchMath
import Derived.Test.YtkfkfpfnpfpkaaaDoorOwnL
import Derived.Test.YtkfkfpfnpfpkaaaDoorReadMath
import Derived.Test.YtkfkfpfnpfpkaaaDoorReadW
import Derived.Test.YtkfkfpfnpfpkaaaDoorRowN
import Derived.Test.YtkfkfpfnpfpkaaaDoorRows
import Derived.BigQuiet
import Derived.Deep.Cut
import Derived.Deep.CutRange
import Derived.Deep.DeepCutAuto
import Derived.Deep.QuietTactic
import Derived.Laws.OwnMore
import Derived.Lib.Hide
import Derived.WalkKit
import Derived.WalkLawsBesides
import Derived.WalkSpells
set_option linter.unusedVariables false
namespace Go.Proofs.YtkfkfpfnpfpkaaaDoor
open Go.RowKit

theorem info_bool : (Tryd.prog.info? 4).map (fun i => (i.zero, i.size, i.bytes)) = some (some (.bool false), 1, 1) := by kernel_rfl
theorem make_bools (w : World) (base n : Nat) (N : Int) (hN : N = n) (hn : n ≤ 1000000) (hbase : base ≤ w.heap.size) :
    ∃ g w', (Instr.makeSlice 104 (.int .i64 N) (.int .i64 N)).run Tryd.prog w = .ok (.slice (some ⟨g, 0, none⟩) n n) w' ∧ OwnL Value.bool w' base 4 (.slice (some ⟨g, 0, none⟩) n n) (List.replicate n false) ∧ Below base w w' := by
  subst hN
  obtain ⟨i0, hi, hz0, hz1, hz2⟩ := info_parts info_bool
  obtain ⟨w', hr, hown, hg⟩ := run_make_full (P := Tryd.prog) w base 104 4 i0 (.bool false) 1 Tryd.underlying104 hi hz0 hz1 .i64 .i64 n (by rw [hz2]; omega) (by unfold maxLen; omega) hbase
  refine ⟨_, w', hr, ?_, (Below.refl base w).grown hg hbase (fun k hk => by cases hk)⟩
  unfold OwnL
  rw [List.length_replicate, List.map_replicate]
  have e1 : (madeCells (Value.bool false).cells (n * 1)).toList = List.replicate n (Value.bool false) := by
    rw [Nat.mul_one]; exact toList_madeCells_one _ _
  rw [e1] at hown
  exact hown
theorem OwnL.cellB {w : World} {base g n c : Nat} {T : List Bool} {e : TypeId} (h : OwnL Value.bool w base e (.slice (some ⟨g, 0, none⟩) n c) T) (j : Nat) (hj : j < T.length) : w.cell? ⟨g, j, none⟩ = some (.bool T[j]) := by
  have := World.ownsRow.cells h (g := g) rfl j (.bool T[j]) (by simp [hj])
  rw [addr_add0] at this
  exact this
theorem OwnL.setB {w : World} {base g n c : Nat} {T : List Bool} {e : TypeId} (h : OwnL Value.bool w base e (.slice (some ⟨g, 0, none⟩) n c) T) (hn : T.length = n) (j : Nat) (b : Bool) : OwnL Value.bool (w.setCell ⟨g, j, none⟩ (.bool b)) base e (.slice (some ⟨g, 0, none⟩) n c) (T.set j b) ∧ w.frozen? ⟨g, j, none⟩ = false ∧ base ≤ g := by
  subst hn
  refine ⟨?_, World.ownsRow.frozenAt h _, (World.ownsRow.lt h g rfl).1⟩
  have s1 := (World.ownsRow.stored h j (.bool b)).1
  unfold OwnL
  rw [List.length_set, List.map_set]
  exact s1
set_option maxRecDepth 100000 in
set_option maxHeartbeats 4000000 in
theorem refInName_any (p s : Txt) (w : World) (hp : p.length ≤ 300) (hs : s.length ≤ 300) :
    Calls Tryd.prog 88 #[.string ⟨p.toArray⟩, .string ⟨s.toArray⟩] w fun e w' => e = .returned (.bool (inS p s)) ∧ Below w.heap.size w w' := by
  have SP := Lib.hid (show (⟨p.toArray⟩ : ByteArray).size = p.length from rfl)
  have SS := Lib.hid (show (⟨s.toArray⟩ : ByteArray).size = s.length from rfl)
  obtain ⟨Wn, hWn⟩ : ∃ Wn, Wn = s.length + 1 := ⟨_, rfl⟩
  obtain ⟨N, hN⟩ : ∃ N, N = (p.length + 1) * Wn := ⟨_, rfl⟩
  have E0 : (s.length : Int) + 1 = (Wn : Int) := by omega
  have E1 : ((p.length : Int) + 1) * (Wn : Int) = (N : Int) := by rw [hN]; simp
  have hNb : N ≤ 90601 := by
    rw [hN, hWn]
    have := Nat.mul_le_mul (show p.length + 1 ≤ 301 by omega) (show s.length + 1 ≤ 301 by omega)
    omega
  obtain ⟨g, w1, hr, ho, hb1⟩ := make_bools w w.heap.size N (N : Int) rfl (by omega) (Nat.le_refl _)
  have HO1 := Lib.hid ho
  have HB1 := Lib.hid hb1
  have HZ : (List.replicate N false).length = N := List.length_replicate
  have HNE := Lib.hid hN
  have HWE := Lib.hid hWn
  have HRES := Lib.hid (show inS p s = inS (p.drop 0) (s.drop 0) from rfl)
  generalize List.replicate N false = T0 at *
  generalize inS p s = res at *
  have hWb : Wn ≤ 301 := by omega
  have hW0 : 0 < Wn := by omega
  clear ho hb1 hN hWn
  go_enter Tryd.func88, Tryd.ntmps88
  go_wp2_with fail
  clear hr
  go_loopw [7] (fun v7 wr => ∃ (a : Nat) (ii : Int) (T : List Bool), a ≤ p.length + 1 ∧ v7 = .int .i64 ii ∧ Hid (ii = (a : Int) - 1) ∧ OwnL Value.bool wr w.heap.size 4 (.slice (some ⟨g, 0, none⟩) N N) T ∧ T.length = N ∧ TabB (fun i k => inS (p.drop i) (s.drop k)) Wn (a * Wn) T ∧ Below w.heap.size w wr) (fun v7 _ => (intOf v7 + 1).toNat)
  case atStart => exact ⟨p.length + 1, _, T0, by omega, rfl, Lib.hid (by omega), HO1.out, HZ, fun i k h1 h2 h3 => by rw [HZ, HNE.out] at h3; omega, HB1.out⟩
  case round =>
    clear HO1 HB1 HZ
    obtain ⟨a, ii, T, ha, rfl, HII, hown, hTl, hT, hbel⟩ := hrel
    have HO := Lib.hid hown
    have HT := Lib.hid hT
    have HB := Lib.hid hbel
    clear hown hT hbel
    obtain ⟨wq, rfl⟩ : ∃ wq, wq = wr := ⟨_, rfl⟩
    by_cases ha0 : a = 0
    · have j1 : ¬ (0 : Int) ≤ ii := by have := HII.out; omega
      have hN0 : 0 < T.length := by rw [hTl, HNE.out]; exact Nat.mul_pos (by omega) hW0
      have c0 := HO.out.cellB 0 hN0
      have HV := Lib.hid (show T[0] = inS (p.drop 0) (s.drop 0) by
        have := HT.out 0 0 hW0 (by rw [ha0]; omega) (by omega)
        rw [show 0 * Wn + 0 = 0 by omega, List.getElem?_eq_getElem hN0] at this
        exact Option.some.inj this)
      generalize T[0] = t0 at *
      have j2 : (0 : Int) < (N : Int) := by omega
      clear ha0 HT
      go_wp2_with fail
      go_ret
      refine ⟨?_, HB.out⟩
      rw [HRES.out, ← HV.out]
      rfl
    · obtain ⟨i, hi⟩ : ∃ i, a = i + 1 := ⟨a - 1, by omega⟩
      obtain rfl : ii = (i : Int) := by have := HII.out; omega
      subst hi
      have i0 : (0 : Int) ≤ (i : Int) := by omega
      obtain ⟨m0, hm0⟩ : ∃ m0, m0 = i * Wn := ⟨_, rfl⟩
      obtain ⟨m1, hm1⟩ : ∃ m1, m1 = (i + 1) * Wn := ⟨_, rfl⟩
      have hm10 : m1 = m0 + Wn := by rw [hm0, hm1, Nat.add_mul]; omega
      have E2 : (i : Int) * (Wn : Int) = (m0 : Int) := by rw [hm0]; simp
      have E3 : ((i : Int) + 1) * (Wn : Int) = (m1 : Int) := by rw [hm1]; simp
      have hm1N : m1 ≤ N := by rw [hm1, HNE.out]; exact Nat.mul_le_mul_right _ (by omega)
      have hmN2 : i < p.length → m1 + Wn ≤ N := fun h => by
        rw [hm1, HNE.out, show (i + 1) * Wn + Wn = (i + 2) * Wn by rw [Nat.add_mul, Nat.add_mul]; omega]
        exact Nat.mul_le_mul_right _ (by omega)
      have HM0 := Lib.hid hm0
      have HM1 := Lib.hid hm1
      rw [← hm1] at HT
      have E4 : ∀ (T : List Bool) (k : Nat), TabB (fun i k => inS (p.drop i) (s.drop k)) Wn (m0 + k + 1) T → k < Wn → m0 + k < T.length → TabB (fun i k => inS (p.drop i) (s.drop k)) Wn (m0 + k) (T.set (m0 + k) (inS (p.drop i) (s.drop k))) := by
        intro T k h1 h2 h3
        rw [hm0] at h1 h3 ⊢
        exact h1.set h2 h3
      have HST := Lib.hid E4
      have E5 : ∀ (T : List Bool) (c i' k' : Nat), TabB (fun i k => inS (p.drop i) (s.drop k)) Wn c T → k' < Wn → c ≤ i' * Wn + k' → ∀ h : i' * Wn + k' < T.length, T[i' * Wn + k'] = inS (p.drop i') (s.drop k') := by
        intro T c i' k' h1 h2 h3 h
        have := h1 i' k' h2 h3 h
        rw [List.getElem?_eq_getElem h] at this
        exact Option.some.inj this
      have HGET := Lib.hid E5
      have HM10 := Lib.hid hm10
      clear E4 E5 hm0 hm1 ha0 hm10
      go_wp2_with fail
      go_loopw [8, 9] (fun v8 v9 wr => ∃ (bb : Nat) (kk : Int) (T : List Bool), bb ≤ Wn ∧ v8 = .int .i64 kk ∧ Hid (kk = (bb : Int) - 1) ∧ OwnL Value.bool wr w.heap.size 4 (.slice (some ⟨g, 0, none⟩) N N) T ∧ T.length = N ∧ TabB (fun i k => inS (p.drop i) (s.drop k)) Wn (m0 + bb) T ∧ Below w.heap.size w wr) (fun v8 _ _ => (intOf v8 + 1).toNat)
      case atStart => exact ⟨Wn, _, T, by omega, rfl, Lib.hid (by omega), HO.out, hTl, by rw [← HM10.out]; exact HT.out, HB.out⟩
      case round =>
        clear HO HT HB hTl
        obtain ⟨bb, kk, T, hbb, rfl, HKK, hown, hTl, hT, hbel⟩ := hrel
        have HO := Lib.hid hown
        have HT := Lib.hid hT
        have HB := Lib.hid hbel
        clear hown hT hbel
        by_cases hb0 : bb = 0
        · have j1 : ¬ (0 : Int) ≤ kk := by have := HKK.out; omega
          have HTN := Lib.hid (show TabB (fun i k => inS (p.drop i) (s.drop k)) Wn (i * Wn) T by have := HT.out; rw [hb0, Nat.add_zero, HM0.out] at this; exact this)
          clear hb0 HT
          go_wp2_with fail
          go_roundw
          case rel => exact ⟨i, _, T, by omega, rfl, Lib.hid rfl, HO.out, hTl, HTN.out, HB.out⟩
          case measure => first | (simp [intOf]; done) | (simp [intOf]; omega)
        · obtain ⟨k, hk⟩ : ∃ k, bb = k + 1 := ⟨bb - 1, by omega⟩
          obtain rfl : kk = (k : Int) := by have := HKK.out; omega
          subst hk
          have k0 : (0 : Int) ≤ (k : Int) := by omega
          have hkW : k < Wn := by omega
          have hks : k ≤ s.length := by omega
          have hmk : m0 + k < T.length := by have := HM10.out; omega
          have HTS := Lib.hid (HST.out T k HT.out hkW hmk)
          have s1 : (m0 : Int) + (k : Int) < (N : Int) := by omega
          have s0 : (0 : Int) ≤ (m0 : Int) + (k : Int) := by omega
          have st : ((m0 : Int) + (k : Int)).toNat = m0 + k := by omega
          by_cases hiP : i = p.length
          · have q1 : ((i : Int) == (p.length : Int)) = true := by simp [hiP]
            have HV := Lib.hid (show inS (p.drop i) (s.drop k) = ((k : Int) == (s.length : Int)) by
              rw [hiP, inS_end p s k hks]
              by_cases h : k = s.length
              · rw [decide_eq_true h, h]; simp
              · rw [decide_eq_false h]; symm; simp; omega)
            generalize inS (p.drop i) (s.drop k) = vv at *
            generalize hbo : ((k : Int) == (s.length : Int)) = bo at *
            clear hiP hb0
            have ST := HO.out.setB hTl (m0 + k) (bo)
            have sc := HO.out.cellB (m0 + k) hmk
            have sf := ST.2.1
            have HS := Lib.hid ST.1
            have HSB := Lib.hid (HB.out.setCell (p := ⟨g, m0 + k, none⟩) ST.2.2 (.bool (bo)))
            clear ST
            go_wp2_with fail
            go_roundw
            case rel => exact ⟨k, _, T.set (m0 + k) (bo), by omega, rfl, Lib.hid rfl, HS.out, by rw [List.length_set]; exact hTl, by rw [← HV.out]; exact HTS.out, HSB.out⟩
            case measure => have := HKK.out; first | (simp [intOf]; done) | (simp [intOf]; omega)
          · have q1 : ((i : Int) == (p.length : Int)) = false := by rw [beq_eq_false_iff_ne]; omega
            have hip : i < p.length := by omega
            have i1 : (i : Int) < (p.length : Int) := by omega
            have hmN := hmN2 hip
            have ec : (⟨p.toArray⟩ : ByteArray)[i]'hip = p[i] := rfl
            have A1 : m1 + k < T.length := by omega
            have c1 := HO.out.cellB (m1 + k) A1
            have HV1 := Lib.hid (show T[m1 + k] = inS (p.drop (i + 1)) (s.drop k) by
              have := HGET.out T _ (i + 1) k HT.out hkW (by rw [← HM1.out]; have := HM10.out; omega) (by rw [← HM1.out]; exact A1)
              simp only [← HM1.out] at this
              exact this)
            have x1 : (m1 : Int) + (k : Int) < (N : Int) := by omega
            have x0 : (0 : Int) ≤ (m1 : Int) + (k : Int) := by omega
            have xt : ((m1 : Int) + (k : Int)).toNat = m1 + k := by omega
            by_cases hstar : p[i] = 42
            · have q2 : (((((⟨p.toArray⟩ : ByteArray)[i]'hip).toNat : Nat) : Int) == 42) = true := by rw [ec, hstar]; rfl
              have HV := Lib.hid (inS_star p s i k hip hstar)
              rw [← HV1.out] at HV
              generalize inS (p.drop i) (s.drop k) = vv at *
              clear hb0 hstar ec
              have c1' := c1
              clear c1
              by_cases hv1 : T[m1 + k] = true
              · rw [hv1] at c1' HV
                rw [Bool.true_or] at HV
                have c1 := c1'
                clear c1' hv1
                have ST := HO.out.setB hTl (m0 + k) true
                have sc := HO.out.cellB (m0 + k) hmk
                have sf := ST.2.1
                have HS := Lib.hid ST.1
                have HSB := Lib.hid (HB.out.setCell (p := ⟨g, m0 + k, none⟩) ST.2.2 (.bool true))
                clear ST
                go_wp2_with fail
                go_roundw
                case rel => exact ⟨k, _, T.set (m0 + k) true, by omega, rfl, Lib.hid rfl, HS.out, by rw [List.length_set]; exact hTl, by rw [← HV.out]; exact HTS.out, HSB.out⟩
                case measure => have := HKK.out; first | (simp [intOf]; done) | (simp [intOf]; omega)
              · have hv1 : T[m1 + k] = false := by simpa using hv1
                rw [hv1] at c1' HV
                rw [Bool.false_or] at HV
                have c1 := c1'
                clear c1' hv1
                by_cases hks2 : k < s.length
                · have l1 : (k : Int) < (s.length : Int) := by omega
                  have A2 : m0 + k + 1 < T.length := by have := HM10.out; omega
                  have c2 := HO.out.cellB (m0 + k + 1) A2
                  have HV2 := Lib.hid (show T[m0 + k + 1] = inS (p.drop i) (s.drop (k + 1)) by
                    have := HGET.out T _ i (k + 1) HT.out (by omega) (by rw [← HM0.out]; omega) (by rw [← HM0.out]; omega)
                    simp only [← HM0.out] at this
                    exact this)
                  rw [decide_eq_true hks2, Bool.true_and, ← HV2.out] at HV
                  generalize T[m0 + k + 1] = v2 at *
                  have y1 : (m0 : Int) + (k : Int) + 1 < (N : Int) := by omega
                  have y0 : (0 : Int) ≤ (m0 : Int) + (k : Int) + 1 := by omega
                  have yt : ((m0 : Int) + (k : Int) + 1).toNat = m0 + k + 1 := by omega
                  clear HV2
                  have ST := HO.out.setB hTl (m0 + k) v2
                  have sc := HO.out.cellB (m0 + k) hmk
                  have sf := ST.2.1
                  have HS := Lib.hid ST.1
                  have HSB := Lib.hid (HB.out.setCell (p := ⟨g, m0 + k, none⟩) ST.2.2 (.bool v2))
                  clear ST
                  go_wp2_with fail
                  go_roundw
                  case rel => exact ⟨k, _, T.set (m0 + k) v2, by omega, rfl, Lib.hid rfl, HS.out, by rw [List.length_set]; exact hTl, by rw [← HV.out]; exact HTS.out, HSB.out⟩
                  case measure => have := HKK.out; first | (simp [intOf]; done) | (simp [intOf]; omega)
                · have l1 : ¬ (k : Int) < (s.length : Int) := by omega
                  rw [decide_eq_false hks2, Bool.false_and] at HV
                  have ST := HO.out.setB hTl (m0 + k) false
                  have sc := HO.out.cellB (m0 + k) hmk
                  have sf := ST.2.1
                  have HS := Lib.hid ST.1
                  have HSB := Lib.hid (HB.out.setCell (p := ⟨g, m0 + k, none⟩) ST.2.2 (.bool false))
                  clear ST
                  go_wp2_with fail
                  go_roundw
                  case rel => exact ⟨k, _, T.set (m0 + k) false, by omega, rfl, Lib.hid rfl, HS.out, by rw [List.length_set]; exact hTl, by rw [← HV.out]; exact HTS.out, HSB.out⟩
                  case measure => have := HKK.out; first | (simp [intOf]; done) | (simp [intOf]; omega)
            · have q2 : (((((⟨p.toArray⟩ : ByteArray)[i]'hip).toNat : Nat) : Int) == 42) = false := by
                rw [ec, beq_eq_false_iff_ne]
                intro h
                exact hstar (UInt8.toNat_inj.1 (by show p[i].toNat = 42; omega))
              clear c1 HV1 hb0
              have Wa : IntKind.i64.wrap ((i : Int) + 1) = (i : Int) + 1 := by rw [IntKind.wrap_i64]; omega
              have Wb : IntKind.i64.wrap (m1 : Int) = (m1 : Int) := by rw [IntKind.wrap_i64]; omega
              obtain ⟨r1, hr1⟩ : ∃ r1, r1 = m1 + k := ⟨_, rfl⟩
              obtain ⟨r2, hr2⟩ : ∃ r2, r2 = r1 + 1 := ⟨_, rfl⟩
              have E6 : (m1 : Int) + (k : Int) = (r1 : Int) := by omega
              have E7 : (r1 : Int) + 1 = (r2 : Int) := by omega
              have Wc : IntKind.i64.wrap (r1 : Int) = (r1 : Int) := by rw [IntKind.wrap_i64]; omega
              have Wd : IntKind.i64.wrap (r2 : Int) = (r2 : Int) := by rw [IntKind.wrap_i64]; omega
              clear x1 x0 xt
              by_cases hks2 : k < s.length
              · have l1 : (k : Int) < (s.length : Int) := by omega
                have HV := Lib.hid (inS_one p s i k hip hstar hks2)
                have A2 : m1 + k + 1 < T.length := by omega
                have c2 := HO.out.cellB (m1 + k + 1) A2
                have HV2 := Lib.hid (show T[m1 + k + 1] = inS (p.drop (i + 1)) (s.drop (k + 1)) by
                  have := HGET.out T _ (i + 1) (k + 1) HT.out (by omega) (by rw [← HM1.out]; have := HM10.out; omega) (by rw [← HM1.out]; omega)
                  simp only [← HM1.out] at this
                  exact this)
                rw [← HV2.out] at HV
                generalize T[m1 + k + 1] = v3 at *
                have y1 : (r2 : Int) < (N : Int) := by omega
                have y0 : (0 : Int) ≤ (r2 : Int) := by omega
                rw [show m1 + k + 1 = r2 by omega] at c2
                clear hr1 hr2
                have ed : (⟨s.toArray⟩ : ByteArray)[k]'hks2 = s[k] := rfl
                clear HV2
                by_cases h63 : p[i] = 63
                · have q3 : (((((⟨p.toArray⟩ : ByteArray)[i]'hip).toNat : Nat) : Int) == 63) = true := by rw [ec, h63]; rfl
                  rw [show (p[i] == 63) = true by simp [h63], Bool.true_or, Bool.true_and] at HV
                  generalize inS (p.drop i) (s.drop k) = vv at *
                  clear h63 ec ed hstar
                  go_wp2_with fail
                  go_quiet (fail)
                  have HB8 := Lib.hid (Below_drewN HB.out nq)
                  have HO8 := Lib.hid (show OwnL Value.bool (wr.drewN nq) w.heap.size 4 (.slice (some ⟨g, 0, none⟩) N N) T from own_none HO.out (Kept.of_drewN (M := fun _ => False) wr nq) (fun _ _ h => h))
                  generalize wr.drewN nq = w8 at *
                  have ST := HO8.out.setB hTl (m0 + k) v3
                  have sc := HO8.out.cellB (m0 + k) hmk
                  have sf := ST.2.1
                  have HS := Lib.hid ST.1
                  have HSB := Lib.hid (HB8.out.setCell (p := ⟨g, m0 + k, none⟩) ST.2.2 (.bool v3))
                  clear ST
                  go_wp2_with fail
                  go_roundw
                  case rel => exact ⟨k, _, T.set (m0 + k) v3, by omega, rfl, Lib.hid rfl, HS.out, by rw [List.length_set]; exact hTl, by rw [← HV.out]; exact HTS.out, HSB.out⟩
                  case measure => have := HKK.out; first | (simp [intOf]; done) | (simp [intOf]; omega)
                · have q3 : (((((⟨p.toArray⟩ : ByteArray)[i]'hip).toNat : Nat) : Int) == 63) = false := by
                    rw [ec, beq_eq_false_iff_ne]
                    intro h
                    exact h63 (UInt8.toNat_inj.1 (by show p[i].toNat = 63; omega))
                  rw [show (p[i] == 63) = false by simp [h63], Bool.false_or] at HV
                  by_cases hpe : p[i] = s[k]
                  · have q4 : (((((⟨p.toArray⟩ : ByteArray)[i]'hip).toNat : Nat) : Int) == ((((⟨s.toArray⟩ : ByteArray)[k]'hks2).toNat : Nat) : Int)) = true := by rw [ec, ed, hpe]; simp
                    rw [show (p[i] == s[k]) = true by simp [hpe], Bool.true_and] at HV
                    generalize inS (p.drop i) (s.drop k) = vv at *
                    clear h63 ec ed hstar hpe
                    go_wp2_with fail
                    go_quiet (fail)
                    have HB8 := Lib.hid (Below_drewN HB.out nq)
                    have HO8 := Lib.hid (show OwnL Value.bool (wr.drewN nq) w.heap.size 4 (.slice (some ⟨g, 0, none⟩) N N) T from own_none HO.out (Kept.of_drewN (M := fun _ => False) wr nq) (fun _ _ h => h))
                    generalize wr.drewN nq = w8 at *
                    have ST := HO8.out.setB hTl (m0 + k) v3
                    have sc := HO8.out.cellB (m0 + k) hmk
                    have sf := ST.2.1
                    have HS := Lib.hid ST.1
                    have HSB := Lib.hid (HB8.out.setCell (p := ⟨g, m0 + k, none⟩) ST.2.2 (.bool v3))
                    clear ST
                    go_wp2_with fail
                    go_roundw
                    case rel => exact ⟨k, _, T.set (m0 + k) v3, by omega, rfl, Lib.hid rfl, HS.out, by rw [List.length_set]; exact hTl, by rw [← HV.out]; exact HTS.out, HSB.out⟩
                    case measure => have := HKK.out; first | (simp [intOf]; done) | (simp [intOf]; omega)
                  · have q4 : (((((⟨p.toArray⟩ : ByteArray)[i]'hip).toNat : Nat) : Int) == ((((⟨s.toArray⟩ : ByteArray)[k]'hks2).toNat : Nat) : Int)) = false := by
                      rw [ec, ed, beq_eq_false_iff_ne]
                      exact fun e => hpe (UInt8.toNat_inj.1 (Int.ofNat_inj.1 e))
                    rw [show (p[i] == s[k]) = false by simp [hpe], Bool.false_and] at HV
                    generalize inS (p.drop i) (s.drop k) = vv at *
                    clear h63 ec ed hstar hpe
                    go_wp2_with fail
                    go_quiet (fail)
                    have HB8 := Lib.hid (Below_drewN HB.out nq)
                    have HO8 := Lib.hid (show OwnL Value.bool (wr.drewN nq) w.heap.size 4 (.slice (some ⟨g, 0, none⟩) N N) T from own_none HO.out (Kept.of_drewN (M := fun _ => False) wr nq) (fun _ _ h => h))
                    generalize wr.drewN nq = w8 at *
                    have ST := HO8.out.setB hTl (m0 + k) false
                    have sc := HO8.out.cellB (m0 + k) hmk
                    have sf := ST.2.1
                    have HS := Lib.hid ST.1
                    have HSB := Lib.hid (HB8.out.setCell (p := ⟨g, m0 + k, none⟩) ST.2.2 (.bool false))
                    clear ST
                    go_wp2_with fail
                    go_roundw
                    case rel => exact ⟨k, _, T.set (m0 + k) false, by omega, rfl, Lib.hid rfl, HS.out, by rw [List.length_set]; exact hTl, by rw [← HV.out]; exact HTS.out, HSB.out⟩
                    case measure => have := HKK.out; first | (simp [intOf]; done) | (simp [intOf]; omega)
              · have l1 : ¬ (k : Int) < (s.length : Int) := by omega
                have HV := Lib.hid (inS_none p s i k hip hstar hks2)
                generalize inS (p.drop i) (s.drop k) = vv at *
                clear ec hstar
                go_wp2_with fail
                go_quiet (fail)
                have HB8 := Lib.hid (Below_drewN HB.out nq)
                have HO8 := Lib.hid (show OwnL Value.bool (wr.drewN nq) w.heap.size 4 (.slice (some ⟨g, 0, none⟩) N N) T from own_none HO.out (Kept.of_drewN (M := fun _ => False) wr nq) (fun _ _ h => h))
                generalize wr.drewN nq = w8 at *
                have ST := HO8.out.setB hTl (m0 + k) false
                have sc := HO8.out.cellB (m0 + k) hmk
                have sf := ST.2.1
                have HS := Lib.hid ST.1
                have HSB := Lib.hid (HB8.out.setCell (p := ⟨g, m0 + k, none⟩) ST.2.2 (.bool false))
                clear ST
                go_wp2_with fail
                go_roundw
                case rel => exact ⟨k, _, T.set (m0 + k) false, by omega, rfl, Lib.hid rfl, HS.out, by rw [List.length_set]; exact hTl, by rw [← HV.out]; exact HTS.out, HSB.out⟩
                case measure => have := HKK.out; first | (simp [intOf]; done) | (simp [intOf]; omega)
end Go.Proofs.YtkfkfpfnpfpkaaaDoor

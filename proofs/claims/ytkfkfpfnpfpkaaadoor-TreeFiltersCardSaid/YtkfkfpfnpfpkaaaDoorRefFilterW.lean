/- The document's Filter. -/
import Derived.Test.YtkfkfpfnpfpkaaaDoorArgTree
import Derived.Test.YtkfkfpfnpfpkaaaDoorArgs3
import Derived.Test.YtkfkfpfnpfpkaaaDoorFrame
import Derived.Test.YtkfkfpfnpfpkaaaDoorGen
import Derived.Test.YtkfkfpfnpfpkaaaDoorMarkMath
import Derived.Test.YtkfkfpfnpfpkaaaDoorMatchMath
import Derived.Test.YtkfkfpfnpfpkaaaDoorOneW
import Derived.Test.YtkfkfpfnpfpkaaaDoorOwnL
import Derived.Test.YtkfkfpfnpfpkaaaDoorReadW
import Derived.Test.YtkfkfpfnpfpkaaaDoorRefCheckW
import Derived.Test.YtkfkfpfnpfpkaaaDoorRefNamesW
import Derived.Test.YtkfkfpfnpfpkaaaDoorRefPatW
import Derived.Test.YtkfkfpfnpfpkaaaDoorRefRightTW
import Derived.Test.YtkfkfpfnpfpkaaaDoorRefSortW
import Derived.Test.YtkfkfpfnpfpkaaaDoorRowN
import Derived.Test.YtkfkfpfnpfpkaaaDoorRows
import Derived.Test.YtkfkfpfnpfpkaaaDoorTreeMath
import Derived.BigQuiet
import Derived.Deep.Cut
import Derived.Deep.CutBlock
import Derived.Deep.CutRange
import Derived.Deep.DeepCutAuto
import Derived.Deep.QuietTactic
import Derived.Laws.OwnMore
import Derived.Lib.Hide
import Derived.WalkKit
import Derived.WalkLawsBesides
import Derived.WalkSpells
set_option linter.unusedVariables false
namespace Go.Proofs.YtkfkfpfnpfpkaaaDoor
open Go.RowKit

theorem filter_succ (f : FileD → Bool) (l : List FileD) (i : Nat) (h : i < l.length) : (l.take (i + 1)).filter f = (l.take i).filter f ++ (if f l[i] = true then [l[i]] else []) := by
  rw [List.take_succ_eq_append_getElem h, List.filter_append]
  congr 1
  by_cases c : f l[i] = true
  · rw [if_pos c, List.filter_cons_of_pos c]; rfl
  · rw [if_neg c, List.filter_cons_of_neg c]; rfl
set_option maxRecDepth 100000 in
set_option maxHeartbeats 2000000 in
theorem refFilter_any (v : Value) (xs : List FileD) (a1 : Option Addr) (c1 : Nat) (ins : List Txt) (a2 : Option Addr) (c2 : Nat) (outs : List Txt) (w : World) (hrow : RowN encF 3 (fun _ => True) w v xs) (hok : ∀ x ∈ xs, FileOk x) (hl : xs.length ≤ 10000)
    (h1 : EachAt w a1 ins) (hx1 : ∀ x ∈ ins, x.length ≤ 140737488351232) (hl1 : ins.length ≤ 1000) (h2 : EachAt w a2 outs) (hx2 : ∀ x ∈ outs, x.length ≤ 140737488351232) (hl2 : outs.length ≤ 1000) :
    Calls Tryd.prog 43 #[v, .slice a1 ins.length c1, .slice a2 outs.length c2] w fun e w' => ∃ v', e = .returned (.tuple #[v', .int .i64 (filterE xs ins outs)]) ∧ RowN encF 3 (fun _ => True) w' v' (filterS xs ins outs) ∧ Below w.heap.size w w' := by
  have CK := Lib.hid (refCheck_any v xs w hrow hok (by omega))
  obtain ⟨va, vc, hv, _⟩ := hrow.slice
  subst hv
  have HRO := Lib.hid hrow
  have HOK := Lib.hid hok
  have HR1 := Lib.hid h1
  have HR2 := Lib.hid h2
  have HX1 := Lib.hid hx1
  have HX2 := Lib.hid hx2
  obtain ⟨res1, hres1⟩ : ∃ r, r = (if checkS xs ≠ 0 then checkS xs else firstE patternS ins) := ⟨_, rfl⟩
  have HFE0 : filterE xs ins outs = if res1 ≠ 0 then res1 else firstE patternS outs := by
    rw [hres1]; unfold filterE
    by_cases h : checkS xs ≠ 0
    · simp only [if_pos h]
    · simp only [if_neg h]
  have HFS := Lib.hid (show filterS xs ins outs = if filterE xs ins outs ≠ 0 then [] else xs.filter (fun x => fitS ins outs x.path) from rfl)
  have HE1 := Lib.hid (show (if checkS xs ≠ 0 then checkS xs else firstE patternS (ins.drop 0)) = res1 from hres1.symm)
  generalize filterE xs ins outs = res at *
  generalize filterS xs ins outs = fl at *
  generalize checkS xs = ck at *
  clear hrow hok h1 h2 hx1 hx2 hres1
  have HFE := Lib.hid HFE0.symm
  clear HFE0
  go_enter Tryd.func43, Tryd.ntmps43
  go_wp2_with fail
  refine CK.out.mono ?_
  rintro e w1 ⟨rfl, hb1⟩
  have HB1 := Lib.hid hb1
  clear hb1 CK
  go_upto_block 0 with fail
  go_cut [8] (fun v8 wx => v8 = .int .i64 res1 ∧ Below w.heap.size w wx)
  case first =>
    go_wp2_with fail
    go_loopw [8, 9] (fun v8 v9 wr => ∃ (i : Nat) (ee : Int), i ≤ ins.length ∧ v9 = .int .i64 i ∧ v8 = .int .i64 ee ∧ Hid ((if ee ≠ 0 then ee else firstE patternS (ins.drop i)) = res1) ∧ Below w.heap.size w wr) (fun _ v9 _ => ins.length - (intOf v9).toNat)
    case atStart => exact ⟨0, _, by omega, rfl, rfl, HE1, HB1.out⟩
    case round =>
      clear HE1
      obtain ⟨i, ee, hi, rfl, rfl, HA, hbel⟩ := hrel
      have HB := Lib.hid hbel
      clear hbel HB1
      have i0 : (0 : Int) ≤ (i : Int) := by omega
      by_cases hlt : i < ins.length ∧ ee = 0
      · obtain ⟨hlt, rfl⟩ := hlt
        have j1 : (i : Int) < (ins.length : Int) := by omega
        obtain ⟨g, o, rfl, hc⟩ := (HR1.out.new HB.out) i hlt
        have hxl := HX1.out ins[i] (List.getElem_mem hlt)
        have HT := Lib.hid (firstE_at patternS ins i hlt)
        generalize ins[i] = q at *
        unfold strE at hc
        have PT := Lib.hid (refPattern_any q wr hxl)
        generalize patternS q = pq at *
        go_wp2_with fail
        refine PT.out.mono ?_
        rintro e w2 ⟨rfl, hb2⟩
        have HB2 := Lib.hid (HB.out.trans (hb2.mono HB.out.size))
        clear hb2 PT
        go_wp2_with fail
        go_roundw
        case rel => exact ⟨i + 1, pq, by omega, by go_num, rfl, Lib.hid (by rw [← HA.out, HT.out]; rfl), HB2.out⟩
        case measure => simp [intOf]; omega
      · have HR := Lib.hid (show ee = res1 by
          rw [← HA.out]
          by_cases h0 : ee = 0
          · have hi2 : ¬ i < ins.length := fun h => hlt ⟨h, h0⟩
            rw [if_neg (by simp [h0]), List.drop_eq_nil_of_le (by omega), h0]; rfl
          · rw [if_pos h0])
        have HS : ¬ (i : Int) < (ins.length : Int) ∨ ((i : Int) < (ins.length : Int) ∧ ee ≠ 0) := by
          by_cases h : i < ins.length
          · exact .inr ⟨by omega, fun h0 => hlt ⟨h, h0⟩⟩
          · exact .inl (by omega)
        clear hlt HA
        rcases HS with h | ⟨h, h0⟩
        · go_wp2_with fail
          go_meet
          exact ⟨by rw [HR.out], HB.out⟩
        · have k1 : (ee == 0) = false := by simp [h0]
          go_wp2_with fail
          go_meet
          exact ⟨by rw [HR.out], HB.out⟩
  obtain ⟨rfl, hbc⟩ := hcut
  have HBC := Lib.hid hbc
  have HE2 := Lib.hid (show (if res1 ≠ 0 then res1 else firstE patternS (outs.drop 0)) = res from HFE.out)
  clear hbc HE1 HB1 HFE
  go_upto_block 2 with fail
  go_cut [8] (fun v8 wx => v8 = .int .i64 res ∧ Below w.heap.size w wx)
  case first =>
    go_wp2_with fail
    go_loopw [8, 10] (fun v8 v10 wr => ∃ (i : Nat) (ee : Int), i ≤ outs.length ∧ v10 = .int .i64 i ∧ v8 = .int .i64 ee ∧ Hid ((if ee ≠ 0 then ee else firstE patternS (outs.drop i)) = res) ∧ Below w.heap.size w wr) (fun _ v10 _ => outs.length - (intOf v10).toNat)
    case atStart => exact ⟨0, _, by omega, rfl, rfl, HE2, HBC.out⟩
    case round =>
      clear HE2
      obtain ⟨i, ee, hi, rfl, rfl, HA, hbel⟩ := hrel
      have HB := Lib.hid hbel
      clear hbel HBC
      have i0 : (0 : Int) ≤ (i : Int) := by omega
      by_cases hlt : i < outs.length ∧ ee = 0
      · obtain ⟨hlt, rfl⟩ := hlt
        have j1 : (i : Int) < (outs.length : Int) := by omega
        obtain ⟨g, o, rfl, hc⟩ := (HR2.out.new HB.out) i hlt
        have hxl := HX2.out outs[i] (List.getElem_mem hlt)
        have HT := Lib.hid (firstE_at patternS outs i hlt)
        generalize outs[i] = q at *
        unfold strE at hc
        have PT := Lib.hid (refPattern_any q wr hxl)
        generalize patternS q = pq at *
        go_wp2_with fail
        refine PT.out.mono ?_
        rintro e w3 ⟨rfl, hb3⟩
        have HB3 := Lib.hid (HB.out.trans (hb3.mono HB.out.size))
        clear hb3 PT
        go_wp2_with fail
        go_roundw
        case rel => exact ⟨i + 1, pq, by omega, by go_num, rfl, Lib.hid (by rw [← HA.out, HT.out]; rfl), HB3.out⟩
        case measure => simp [intOf]; omega
      · have HR := Lib.hid (show ee = res by
          rw [← HA.out]
          by_cases h0 : ee = 0
          · have hi2 : ¬ i < outs.length := fun h => hlt ⟨h, h0⟩
            rw [if_neg (by simp [h0]), List.drop_eq_nil_of_le (by omega), h0]; rfl
          · rw [if_pos h0])
        have HS : ¬ (i : Int) < (outs.length : Int) ∨ ((i : Int) < (outs.length : Int) ∧ ee ≠ 0) := by
          by_cases h : i < outs.length
          · exact .inr ⟨by omega, fun h0 => hlt ⟨h, h0⟩⟩
          · exact .inl (by omega)
        clear hlt HA
        rcases HS with h | ⟨h, h0⟩
        · go_wp2_with fail
          go_meet
          exact ⟨by rw [HR.out], HB.out⟩
        · have k1 : (ee == 0) = false := by simp [h0]
          go_wp2_with fail
          go_meet
          exact ⟨by rw [HR.out], HB.out⟩
  obtain ⟨rfl, hbc⟩ := hcut
  have HBD := Lib.hid hbc
  clear hbc HE2 HBC
  obtain ⟨wB, rfl⟩ : ∃ wB, wB = wc := ⟨_, rfl⟩
  by_cases hr0 : res = 0
  · have hne : (res != 0) = false := by simp [hr0]
    have HFL := Lib.hid (show fl = xs.filter (fun x => fitS ins outs x.path) by rw [HFS.out, if_neg (by simp [hr0])])
    have HR0 := Lib.hid hr0
    clear hr0 HFS
    have HFF := Lib.hid (show ∀ x : FileD, fitS ins outs x.path = ((ins.isEmpty || oneS ins x.path) && !oneS outs x.path) from fun _ => rfl)
    obtain ⟨F, hF⟩ : ∃ F : FileD → Bool, F = fun x => fitS ins outs x.path := ⟨_, rfl⟩
    have HFX := Lib.hid (show ∀ x : FileD, F x = ((ins.isEmpty || oneS ins x.path) && !oneS outs x.path) from fun x => by rw [hF]; rfl)
    rw [← hF] at HFL
    clear hF HFF
    go_wp2_with fail
    go_loopw [11, 12] (fun v11 v12 wr => ∃ i : Nat, i ≤ xs.length ∧ v12 = .int .i64 i ∧ OwnN encF 3 wr wB.heap.size 42 v11 ((xs.take i).filter F) ∧ Below wB.heap.size wB wr) (fun _ v12 _ => xs.length - (intOf v12).toNat)
    case atStart => exact ⟨0, by omega, rfl, OwnN.nil _ _ _ _ _, Below.refl _ _⟩
    case round =>
      obtain ⟨i, hi, rfl, hown, hbel⟩ := hrel
      have HO := Lib.hid hown
      have HBl := Lib.hid hbel
      have HBw := Lib.hid (HBD.out.trans (hbel.mono HBD.out.size))
      clear hown hbel
      obtain ⟨w0, rfl⟩ : ∃ w0, w0 = wr := ⟨_, rfl⟩
      have i0 : (0 : Int) ≤ (i : Int) := by omega
      obtain ⟨wa, wm, wc', hv⟩ := own_slice HO.out
      subst hv
      by_cases hlt : i < xs.length
      · have j1 : (i : Int) < (xs.length : Int) := by omega
        obtain ⟨g, o, rfl, hel⟩ := HRO.out.el hlt
        have HX := Lib.hid ((hel i hlt).new HBw.out)
        have hxok := HOK.out xs[i] (List.getElem_mem hlt)
        have HT := Lib.hid (filter_succ F xs i hlt)
        have hol : ((xs.take i).filter F).length ≤ 10000 := by
          have := List.length_filter_le F (xs.take i)
          rw [List.length_take] at this; omega
        generalize (xs.take i).filter F = out at *
        generalize xs[i] = x at *
        obtain ⟨fx, hfx⟩ : ∃ fx, fx = F x := ⟨_, rfl⟩
        have HFx := Lib.hid (hfx.trans (HFX.out x))
        rw [← hfx] at HT
        clear hfx
        clear hel
        go_upto_region 16 with fail
        go_cut [75] (fun v75 wx => v75 = .bool fx ∧ Below w0.heap.size w0 wx)
        case first =>
          have c0 := HX.out.f0
          have O2 := fun w' (hb : Below w.heap.size w w') => Lib.hid (refOne_any a2 c2 outs x.path w' (HR2.out.new hb) HX2.out hxok.p (by omega))
          have O1 := Lib.hid (refOne_any a1 c1 ins x.path w0 (HR1.out.new HBw.out) HX1.out hxok.p (by omega))
          have HO2 := Lib.hid O2
          have HXw := Lib.hid (fun w' (hb : Below w0.heap.size w0 w') => (HX.out.new hb).f0)
          generalize oneS outs x.path = b2 at *
          generalize oneS ins x.path = b1 at *
          clear O2
          by_cases hz : ins.length = 0
          · have m1 : ((ins.length : Int) == 0) = true := by simp [hz]
            have HE := Lib.hid (show ins.isEmpty = true by rw [List.isEmpty_iff]; exact List.eq_nil_of_length_eq_zero hz)
            clear hz
            cases b2 with
            | true =>
              go_wp2_with fail
              refine (HO2.out _ HBw.out).out.mono ?_
              rintro e w7 ⟨rfl, hb7⟩
              have HB7 := Lib.hid hb7
              clear hb7
              go_wp2_with fail
              go_meet
              exact ⟨by rw [HFx.out]; simp, HB7.out⟩
            | false =>
              go_wp2_with fail
              refine (HO2.out _ HBw.out).out.mono ?_
              rintro e w7 ⟨rfl, hb7⟩
              have HB7 := Lib.hid hb7
              clear hb7
              go_wp2_with fail
              go_meet
              exact ⟨by rw [HFx.out, HE.out]; rfl, HB7.out⟩
          · have m1 : ((ins.length : Int) == 0) = false := by simp [hz]
            have HE := Lib.hid (show ins.isEmpty = false by rw [Bool.eq_false_iff]; intro h; rw [List.isEmpty_iff] at h; rw [h] at hz; exact hz rfl)
            clear hz
            cases b1 with
            | false =>
              go_wp2_with fail
              refine O1.out.mono ?_
              rintro e w7 ⟨rfl, hb7⟩
              have HB7 := Lib.hid hb7
              clear hb7
              go_wp2_with fail
              go_meet
              exact ⟨by rw [HFx.out, HE.out]; rfl, HB7.out⟩
            | true =>
              go_wp2_with fail
              refine O1.out.mono ?_
              rintro e w7 ⟨rfl, hb7⟩
              have c1 := HXw.out w7 hb7
              have HB7 := Lib.hid hb7
              clear hb7
              cases b2 with
              | true =>
                go_wp2_with fail
                refine (HO2.out _ (HBw.out.trans (HB7.out.mono HBw.out.size))).out.mono ?_
                rintro e w8 ⟨rfl, hb8⟩
                have HB8 := Lib.hid (HB7.out.trans (hb8.mono HB7.out.size))
                clear hb8
                go_wp2_with fail
                go_meet
                exact ⟨by rw [HFx.out]; simp, HB8.out⟩
              | false =>
                go_wp2_with fail
                refine (HO2.out _ (HBw.out.trans (HB7.out.mono HBw.out.size))).out.mono ?_
                rintro e w8 ⟨rfl, hb8⟩
                have HB8 := Lib.hid (HB7.out.trans (hb8.mono HB7.out.size))
                clear hb8
                go_wp2_with fail
                go_meet
                exact ⟨by rw [HFx.out, HE.out]; rfl, HB8.out⟩
        obtain ⟨rfl, hbc⟩ := hcut
        have hvm : wm = out.length := own_lenV HO.out
        subst hvm
        have HO6 := Lib.hid (HO.out.new hbc)
        have HB6 := Lib.hid (HBl.out.trans (hbc.mono HBl.out.size))
        have hx1 := HX.out.new hbc
        have x0 := hx1.f0
        have x1 := hx1.f1
        have x2 := hx1.f2
        clear hx1 hbc HO
        cases fx with
        | true =>
          go_wp2_with (at_builtin; refine append_new (enc := encF) (k := 3) (w := wc) (by rfl) (.tmp 76) (.tmp 81) 29 42 (.agg #[.string ByteArray.empty, .int .i64 0, .string ByteArray.empty]) 40 (by rfl) Tryd.underlying29 info_file (by rfl) (by decide) encF_ok wB.heap.size _ out x (by rfl) HO6.out (by rfl) (by omega) (by unfold maxLen; omega) HB6.out.size _ (by rfl) ?_; intro v7 w7 hown7 ht7; obtain ⟨va7, vm7, vc7, rfl⟩ := own_slice hown7; have HO7 := Lib.hid hown7; have HB7 := Lib.hid (HB6.out.trans ht7.bel); clear hown7 ht7)
          go_roundw
          case rel => exact ⟨i + 1, by omega, by go_num, by rw [HT.out]; exact HO7.out, HB7.out⟩
          case measure => simp [intOf]; omega
        | false =>
          go_wp2_with fail
          go_roundw
          case rel => exact ⟨i + 1, by omega, by go_num, by rw [HT.out, if_neg (by decide), List.append_nil]; exact HO6.out, HB6.out⟩
          case measure => simp [intOf]; omega
      · have j1 : ¬ (i : Int) < (xs.length : Int) := by omega
        have HPL := Lib.hid (show (xs.take i).filter F = xs.filter F by rw [List.take_of_length_le (by omega)])
        go_wp2_with fail
        go_ret2
        exact ⟨_, by rw [HR0.out]; rfl, by rw [HFL.out, ← HPL.out]; exact (OwnN.row encF_ok HO.out).mono (fun _ _ => trivial), HBw.out⟩
  · have hne : (res != 0) = true := by simp [hr0]
    have HFL := Lib.hid (show fl = [] by rw [HFS.out, if_pos hr0])
    go_wp2_with fail
    go_ret2
    exact ⟨_, rfl, by rw [HFL.out]; exact RowN.nil _ _ _ _, HBD.out⟩
end Go.Proofs.YtkfkfpfnpfpkaaaDoor

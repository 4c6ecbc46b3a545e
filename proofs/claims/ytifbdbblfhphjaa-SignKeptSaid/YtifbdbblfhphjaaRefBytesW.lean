/- The walk of the document's Bytes of a signature that may be. -/
import Derived.Test.YtifbdbblfhphjaaBytesW
import Derived.Test.YtifbdbblfhphjaaCodeMath
import Derived.Test.YtifbdbblfhphjaaFrame
import Derived.Test.YtifbdbblfhphjaaGen
import Derived.Test.YtifbdbblfhphjaaInfos
import Derived.Test.YtifbdbblfhphjaaMarkMath
import Derived.Test.YtifbdbblfhphjaaOwnL
import Derived.Test.YtifbdbblfhphjaaReadW
import Derived.Test.YtifbdbblfhphjaaRefRightW
import Derived.Test.YtifbdbblfhphjaaRightW
import Derived.Test.YtifbdbblfhphjaaRows
import Derived.Test.YtifbdbblfhphjaaSameW
import Derived.Test.YtifbdbblfhphjaaSignAW
import Derived.Test.YtifbdbblfhphjaaSignMath
import Derived.Test.YtifbdbblfhphjaaSignW
import Derived.Test.YtifbdbblfhphjaaText
import Derived.BigQuiet
import Derived.Deep.AppendLies
import Derived.Deep.QuietTactic
import Derived.IntWalk
import Derived.Laws.BitsAllLaws
import Derived.Laws.Rows
import Derived.Lib.Hide
import Derived.Outline
import Derived.StillTailTactics
import Derived.WalkKit
import Derived.WalkLawsBesides
import Derived.WalkSpells
set_option linter.unusedVariables false
namespace Go.Proofs.Ytifbdbblfhphjaa
open Go.RowKit

theorem joinT (a b : List UInt8) : (ByteArray.mk a.toArray) ++ (ByteArray.mk b.toArray) = ⟨(a ++ b).toArray⟩ := by
  rw [ByteArray.mk_append_mk]
set_option maxRecDepth 100000 in
set_option maxHeartbeats 2000000 in
theorem refBytesS_ok (B M : Nat) (ws : List Int) (ms : List Txt) (vw vs : Value) (N1 N2 : Nat → Prop) (w : World) (h1 : Row (Value.int .i64) N1 w vw ws) (h2 : Row encT N2 w vs ms) (hr : rightS B M ws ms = true) (hR : RightIs B M ws ms B M) :
    Calls Try.prog 29 #[sigV B M vw vs] w fun e w' => e = .returned (.tuple #[.string ⟨(bytesS B M ws ms).toArray⟩, .int .i64 0]) ∧ Below w.heap.size w w' := by
  have hl1 : ws.length ≤ 40000 := by rw [hR.lw]; exact hR.q
  have hl2 : ms.length ≤ 40000 := by rw [hR.lm]; exact hR.q
  have hB : B ≤ 1024 := hR.b2
  have hM : M ≤ 524288 := hR.n2
  have HB := Lib.hid ((Below.refl w.heap.size w).alloc (Nat.le_refl _) (sigC B M vw vs))
  have G0 := Lib.hid (heap_alloc_new w (sigC B M vw vs))
  have H1 := Lib.hid (h1.grow ((Below.refl _ _).alloc (Nat.le_refl _) (sigC B M vw vs)))
  have H2 := Lib.hid (h2.grow ((Below.refl _ _).alloc (Nat.le_refl _) (sigC B M vw vs)))
  have RG := Lib.hid (refRight_any B M ws ms vw vs N1 N2 _ H1.out H2.out (by omega) (by omega))
  rw [hr] at RG
  have HRI := Lib.hid hR; clear hr hR
  have RB1 := fun w' => Lib.hid (refBytes_ok B w' (by omega))
  have RB2 := fun w' => Lib.hid (refBytes_ok M w' (by omega))
  obtain ⟨a1, k1, rfl, _⟩ := h1
  obtain ⟨a2, k2, rfl, _⟩ := h2
  go_enter Try.func29, Try.ntmps29
  go_wp2_with fail
  generalize w.alloc (.cells #[.int .i64 B, .int .i64 M, .slice a1 ws.length k1, .slice a2 ms.length k2] 31) = w0 at *
  refine RG.out.mono ?_
  rintro e w1 ⟨rfl, hb1⟩
  have g1 := old_of hb1 G0.out
  have HG1 := Lib.hid g1
  have H11 := Lib.hid (H1.out.grow hb1)
  have H21 := Lib.hid (H2.out.grow hb1)
  have B1 := Lib.hid (HB.out.trans (hb1.mono HB.out.size))
  have c0 := sig_c0 g1
  have c1 := sig_c1 g1
  clear H1 H2 RG g1 hb1 G0 HB
  obtain ⟨x1, hx1⟩ : ∃ x, x = nb B := ⟨_, rfl⟩
  obtain ⟨x2, hx2⟩ : ∃ x, x = nb M := ⟨_, rfl⟩
  rw [← hx1] at RB1
  rw [← hx2] at RB2
  have P0 := Lib.hid (show x1 ++ x2 = preS B M ws 0 by rw [hx1, hx2]; unfold preS; simp)
  have XL1 : x1.length ≤ 10 := by rw [hx1]; exact (nb_length B).2
  have XL2 : x2.length ≤ 10 := by rw [hx2]; exact (nb_length M).2
  have hs12 : ¬ 9223372036854775807 < x1.length + x2.length := by omega
  clear hx1 hx2
  go_upto_region 3 with fail
  go_cut [4] (fun v wx => v = .string ⟨(x1 ++ x2).toArray⟩ ∧ Below w1.heap.size w1 wx)
  case first =>
    go_region_law (first
      | (go_simp; go_at_call 57; with_reducible refine (RB2 _).out.mono ?_; rintro e w3 ⟨rfl, hb3⟩; have HB3 := Lib.hid (HB2.out.trans (hb3.mono HB2.out.size)); clear hb3)
      | (go_simp; go_at_call 57; with_reducible refine (RB1 _).out.mono ?_; rintro e w2 ⟨rfl, hb2⟩; have HB2 := Lib.hid ((Below_drew (Below.refl w1.heap.size w1)).trans (hb2.mono (Below_drew (Below.refl w1.heap.size w1)).size)); have d1 := sig_c1 (old_of HB2.out HG1.out); clear hb2))
    all_goals
      go_wp2_with fail
      go_meet
      refine ⟨?_, HB3.out⟩
      rw [joinT]
  case rest =>
    obtain ⟨rfl, hbel⟩ := hcut
    rw [P0.out]
    have BC := Lib.hid hbel
    clear hbel c0 c1 RB1 RB2 P0
    obtain ⟨_, _, hv1, hc1⟩ := H11.out
    injection hv1 with ea1 en1 ec1
    clear en1 ec1
    subst ea1
    have HC1 := Lib.hid hc1; clear hc1
    obtain ⟨_, _, hv2, hc2⟩ := H21.out
    injection hv2 with ea2 en2 ec2
    clear en2 ec2
    subst ea2
    have HC2 := Lib.hid hc2; clear hc2
    go_wp2
    go_loopw [4, 5] (fun v i wr => ∃ k : Nat, k ≤ ws.length ∧ i = .int .i64 k ∧ v = .string ⟨(preS B M ws k).toArray⟩ ∧ Below w1.heap.size w1 wr) (fun _ i _ => ws.length - (intOf i).toNat)
    case atStart => exact ⟨0, by omega, rfl, rfl, BC.out⟩
    case round =>
      obtain ⟨k, hk, rfl, rfl, hbel⟩ := hrel
      have Hbel := Lib.hid hbel; clear hbel
      have c2 := sig_c2 (old_of Hbel.out HG1.out)
      by_cases hlt : k < ws.length
      · obtain ⟨b1, o1, rfl, _, cc1⟩ := HC1.out k hlt
        have cc2 := (Hbel.out.cell (p := ⟨b1, o1 + k, none⟩) (World.block_lt_of_cell? w1 _ cc1)).trans cc1
        have hx := HRI.out.w ws[k] (List.getElem_mem _)
        have NX := Lib.hid (preS_next B M ws k hlt)
        obtain ⟨x, hx2⟩ : ∃ x : Nat, ws[k] = (x : Int) := ⟨ws[k].toNat, by omega⟩
        rw [hx2] at cc2 NX hx
        have NX2 := Lib.hid (show preS B M ws (k + 1) = preS B M ws k ++ nb x by rw [NX.out]; rfl)
        have AD := Lib.hid (refBytes_ok x wr (by omega))
        have JT := Lib.hid (joinT (preS B M ws k) (nb x))
        rw [← NX2.out] at JT
        have PL := preS_le B M ws k
        have XL := (nb_length x).2
        generalize nb x = xx at *
        have HPN := Lib.hid (show ∀ z, z = preS B M ws (k + 1) → z = preS B M ws (k + 1) from fun z h => h)
        obtain ⟨pn, hpn⟩ : ∃ pn, pn = preS B M ws (k + 1) := ⟨_, rfl⟩
        rw [← hpn] at JT
        have HPN2 := Lib.hid hpn; clear hpn HPN
        generalize preS B M ws k = pk at *
        have i0 : (0 : Int) ≤ (k : Int) := by omega
        have i1 : (k : Int) < (ws.length : Int) := by omega
        clear cc1 hx hx2 NX NX2
        go_wp2_with fail
        refine AD.out.mono ?_
        rintro e w3 ⟨rfl, hb3⟩
        go_wp2
        go_roundw
        case rel => exact ⟨k + 1, by omega, by go_num, by rw [JT.out, HPN2.out], Hbel.out.trans (hb3.mono Hbel.out.size)⟩
        case measure => simp [intOf]; omega
      · have i1 : ¬ (k : Int) < (ws.length : Int) := by omega
        obtain ⟨pp, hpp⟩ : ∃ pp, pp = preS B M ws k := ⟨_, rfl⟩
        have PPL := Lib.hid (preS_le B M ws k)
        rw [← hpp] at PPL ⊢
        have HPP := Lib.hid (show pp = nb B ++ nb M ++ (ws.map nbZ).flatten by rw [hpp]; unfold preS; rw [List.take_of_length_le (by omega)]); clear hpp
        go_wp2
        obtain ⟨wy, rfl⟩ : ∃ wy : World, wy = wr := ⟨_, rfl⟩
        go_loopw [4, 6] (fun v i wr => ∃ j : Nat, j ≤ ms.length ∧ i = .int .i64 j ∧ v = .string ⟨(pp ++ (ms.take j).flatten).toArray⟩ ∧ Below w1.heap.size w1 wr) (fun _ i _ => ms.length - (intOf i).toNat)
        case atStart => exact ⟨0, by omega, rfl, by simp, Hbel.out⟩
        case round =>
          obtain ⟨j, hj, rfl, rfl, hbel⟩ := hrel
          have Hbel2 := Lib.hid hbel; clear hbel
          have c3 := sig_c3 (old_of Hbel2.out HG1.out)
          by_cases hlt2 : j < ms.length
          · obtain ⟨b1, o1, rfl, _, cc1⟩ := HC2.out j hlt2
            have cc2 := (Hbel2.out.cell (p := ⟨b1, o1 + j, none⟩) (World.block_lt_of_cell? w1 _ cc1)).trans cc1
            unfold encT at cc2
            have NX := flat_next ms j hlt2
            have JT := Lib.hid (joinT (pp ++ (ms.take j).flatten) ms[j])
            rw [List.append_assoc, ← NX] at JT
            have ML := mks_le ms j HRI.out.m
            have XL : ms[j].length ≤ 32 := Nat.le_of_eq (HRI.out.m ms[j] (List.getElem_mem _))
            have PL : (pp ++ (ms.take j).flatten).length ≤ 20000000 := by rw [List.length_append]; have := PPL.out; omega
            generalize ms[j] = m at *
            obtain ⟨pn, hpn⟩ : ∃ pn, pn = pp ++ (ms.take (j + 1)).flatten := ⟨_, rfl⟩
            rw [← hpn] at JT
            have HPN2 := Lib.hid hpn; clear hpn
            generalize pp ++ (ms.take j).flatten = pk at *
            have i2 : (0 : Int) ≤ (j : Int) := by omega
            have i3 : (j : Int) < (ms.length : Int) := by omega
            clear cc1 NX ML
            go_wp2
            go_roundw
            case rel => exact ⟨j + 1, by omega, by go_num, by rw [JT.out, HPN2.out], Hbel2.out⟩
            case measure => simp [intOf]; omega
          · have i3 : ¬ (j : Int) < (ms.length : Int) := by omega
            have HS := Lib.hid (show bytesS B M ws ms = pp ++ (ms.take j).flatten by rw [HPP.out, List.take_of_length_le (by omega)]; rfl)
            have HF := Lib.hid (B1.out.trans (Hbel2.out.mono B1.out.size))
            go_wp2
            go_ret2
            exact ⟨by rw [HS.out]; rfl, HF.out⟩
end Go.Proofs.Ytifbdbblfhphjaa

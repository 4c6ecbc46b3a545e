/- The walks of Bytes and of the document's Bytes. -/
import Derived.Test.YtifbdbblfhphjaaCodeMath
import Derived.Test.YtifbdbblfhphjaaCodeNumW
import Derived.Test.YtifbdbblfhphjaaFrame
import Derived.Test.YtifbdbblfhphjaaGen
import Derived.Test.YtifbdbblfhphjaaInfos
import Derived.Test.YtifbdbblfhphjaaMarkMath
import Derived.Test.YtifbdbblfhphjaaOwnL
import Derived.Test.YtifbdbblfhphjaaReadW
import Derived.Test.YtifbdbblfhphjaaRefRightW
import Derived.Test.YtifbdbblfhphjaaRightW
import Derived.Test.YtifbdbblfhphjaaRows
import Derived.Test.YtifbdbblfhphjaaSameW
import Derived.Test.YtifbdbblfhphjaaSigAt
import Derived.Test.YtifbdbblfhphjaaSignAW
import Derived.Test.YtifbdbblfhphjaaSignMath
import Derived.Test.YtifbdbblfhphjaaSignW
import Derived.BigQuiet
import Derived.Deep.QuietTactic
import Derived.Deep.RegionHeld3
import Derived.IntWalk
import Derived.Laws.BitsAllLaws
import Derived.Laws.Rows
import Derived.Lib.Hide
import Derived.Outline
import Derived.StillTailTactics
import Derived.WalkKit
import Derived.WalkLawsBesides
import Derived.WalkSpells
set_option linter.unusedVariables false
namespace Go.Proofs.Ytifbdbblfhphjaa
open Go.RowKit

/-- A signature's bytes. -/
def nbZ (x : Int) : Txt := nb x.toNat
def preS (b n : Nat) (ws : List Int) (k : Nat) : Txt := nb b ++ nb n ++ ((ws.take k).map nbZ).flatten
def bytesS (b n : Nat) (ws : List Int) (ms : List Txt) : Txt := nb b ++ nb n ++ (ws.map nbZ).flatten ++ ms.flatten
theorem preS_next (b n : Nat) (ws : List Int) (k : Nat) (hk : k < ws.length) : preS b n ws (k + 1) = preS b n ws k ++ nbZ ws[k] := by
  unfold preS
  rw [List.take_succ_eq_append_getElem hk, List.map_append, List.flatten_append, List.append_assoc, List.append_assoc, List.append_assoc]
  simp
theorem flat_next (ms : List Txt) (k : Nat) (hk : k < ms.length) : (ms.take (k + 1)).flatten = (ms.take k).flatten ++ ms[k] := by
  rw [List.take_succ_eq_append_getElem hk, List.flatten_append]; simp
theorem flat_le (ls : List Txt) (c : Nat) (h : ∀ l ∈ ls, l.length ≤ c) : ls.flatten.length ≤ c * ls.length := by
  induction ls with
  | nil => simp
  | cons x l ih =>
    have h1 := h x (by simp)
    have h2 := ih (fun y hy => h y (by simp [hy]))
    rw [List.flatten_cons, List.length_append, List.length_cons, Nat.mul_succ]
    omega
theorem preS_le (b n : Nat) (ws : List Int) (k : Nat) : (preS b n ws k).length ≤ 20 + 10 * k := by
  unfold preS
  have h1 := (nb_length b).2
  have h2 := (nb_length n).2
  have h3 := flat_le ((ws.take k).map nbZ) 10 (by intro l hl; obtain ⟨x, _, rfl⟩ := List.mem_map.1 hl; exact (nb_length _).2)
  rw [List.length_map, List.length_take] at h3
  have h4 : min k ws.length ≤ k := Nat.min_le_left _ _
  have h5 : 10 * min k ws.length ≤ 10 * k := Nat.mul_le_mul_left _ h4
  rw [List.length_append, List.length_append]
  omega
theorem mks_le (ms : List Txt) (k : Nat) (h : ∀ m ∈ ms, m.length = 32) : ((ms.take k).flatten).length ≤ 32 * k := by
  have h3 := flat_le (ms.take k) 32 (fun l hl => Nat.le_of_eq (h l (List.mem_of_mem_take hl)))
  rw [List.length_take] at h3
  have h5 : 32 * min k ms.length ≤ 32 * k := Nat.mul_le_mul_left _ (Nat.min_le_left _ _)
  omega
/-- What is known of a signature that may be. -/
structure RightIs (b n : Int) (ws : List Int) (ms : List Txt) (B M : Nat) : Prop where
  b : b = (B : Int)
  n : n = (M : Int)
  b1 : 16 ≤ B
  b2 : B ≤ 1024
  n2 : M ≤ 524288
  w : ∀ x ∈ ws, 0 ≤ x ∧ x ≤ 4294967295
  m : ∀ x ∈ ms, x.length = 32
  lw : ws.length = nBlk M B
  lm : ms.length = nBlk M B
  q : nBlk M B ≤ 40000
theorem right_is {b n : Int} {ws : List Int} {ms : List Txt} (h : rightS b n ws ms = true) : ∃ B M, RightIs b n ws ms B M := by
  unfold rightS at h
  simp only [Bool.and_eq_true, decide_eq_true_eq, List.all_eq_true, okB_iff, okN_iff] at h
  obtain ⟨⟨⟨⟨⟨hb, hn⟩, h1⟩, h2⟩, h3⟩, h4⟩ := h
  refine ⟨b.toNat, n.toNat, by omega, by omega, by omega, by omega, by omega, fun x hx => ?_, fun x hx => ?_, h1, h2, (nBlk_num n.toNat b.toNat (by omega) (by omega) (by omega)).2.2⟩
  · simpa [sumOk] using h3 x hx
  · simpa [markOk] using h4 x hx
set_option maxRecDepth 100000 in
theorem addNumS_any (base : Nat) (n : Nat) (v : Value) (l : List UInt8) (w : World) (hn : n ≤ 4611686018427387903) (hl : l.length < 70368744177600) (hown : Own w base 5 v l) (hbase : base ≤ w.heap.size) :
    Calls Try.prog 56 #[v, .int .i64 n] w fun e w' => ∃ v', e = .returned v' ∧ Own w' base 5 v' (l ++ nb n) ∧ Below base w w' := by
  have C := fun w' => Lib.hid (num_ok n w' hn)
  have hlen := (nb_length n).2
  have Hown := Lib.hid hown; clear hown
  obtain ⟨l2, hl2⟩ : ∃ l2, l2 = nb n := ⟨_, rfl⟩
  rw [← hl2] at C hlen ⊢
  clear hl2
  go_enter Try.func56, Try.ntmps56
  go_wp2_with fail
  refine (C _).out.mono ?_
  rintro e w1 ⟨rfl, hb1⟩
  have Hown1 := Lib.hid (Hown.out.below hb1 (Nat.le_refl _))
  have B1 := Lib.hid (hb1.mono hbase)
  have hbase1 : base ≤ w1.heap.size := Nat.le_trans hbase hb1.size
  clear hb1 Hown
  go_wp2_with (at_builtin; refine append_text rfl _ _ 63 9 5 (by rfl) Try.underlying63 Try.underlying9 info_u8 base _ _ _ (by rfl) Hown1.out (by rfl) (by show l.length + l2.length < _; omega) hbase1 ?_; intro v' w2 hown2 hb2; have HO := Lib.hid hown2; have HB2 := Lib.hid hb2; clear hown2 hb2)
  go_wp2
  go_ret
  exact ⟨_, rfl, HO.out, B1.out.trans HB2.out⟩

set_option maxRecDepth 100000 in
set_option maxHeartbeats 2000000 in
theorem bytes_no (b n : Int) (ws : List Int) (ms : List Txt) (vw vs : Value) (N1 N2 : Nat → Prop) (w : World) (h1 : Row (Value.int .i64) N1 w vw ws) (h2 : Row encT N2 w vs ms) (hl1 : ws.length ≤ 1000000) (hl2 : ms.length ≤ 1000000) (hr : rightS b n ws ms = false) :
    Calls Try.prog 28 #[sigV b n vw vs] w fun e w' => e = .returned (.tuple #[.string ⟨#[]⟩, .int .i64 1]) ∧ Below w.heap.size w w' := by
  have HB := Lib.hid ((Below.refl w.heap.size w).alloc (Nat.le_refl _) (sigC b n vw vs))
  have RG := Lib.hid (sigRight_any b n ws ms vw vs N1 N2 _ (h1.grow ((Below.refl _ _).alloc (Nat.le_refl _) (sigC b n vw vs))) (h2.grow ((Below.refl _ _).alloc (Nat.le_refl _) (sigC b n vw vs))) hl1 hl2)
  rw [hr] at RG
  clear hr
  obtain ⟨_, _, rfl, _⟩ := h1
  obtain ⟨_, _, rfl, _⟩ := h2
  go_enter Try.func28, Try.ntmps28
  go_wp2_with fail
  refine RG.out.mono ?_
  rintro e w1 ⟨rfl, hb1⟩
  go_wp2
  go_ret2
  exact ⟨rfl, HB.out.trans (hb1.mono HB.out.size)⟩
set_option maxRecDepth 100000 in
set_option maxHeartbeats 2000000 in
theorem refBytes_no (b n : Int) (ws : List Int) (ms : List Txt) (vw vs : Value) (N1 N2 : Nat → Prop) (w : World) (h1 : Row (Value.int .i64) N1 w vw ws) (h2 : Row encT N2 w vs ms) (hl1 : ws.length ≤ 1000000) (hl2 : ms.length ≤ 1000000) (hr : rightS b n ws ms = false) :
    Calls Try.prog 29 #[sigV b n vw vs] w fun e w' => e = .returned (.tuple #[.string ⟨#[]⟩, .int .i64 1]) ∧ Below w.heap.size w w' := by
  have HB := Lib.hid ((Below.refl w.heap.size w).alloc (Nat.le_refl _) (sigC b n vw vs))
  have RG := Lib.hid (refRight_any b n ws ms vw vs N1 N2 _ (h1.grow ((Below.refl _ _).alloc (Nat.le_refl _) (sigC b n vw vs))) (h2.grow ((Below.refl _ _).alloc (Nat.le_refl _) (sigC b n vw vs))) hl1 hl2)
  rw [hr] at RG
  clear hr
  obtain ⟨_, _, rfl, _⟩ := h1
  obtain ⟨_, _, rfl, _⟩ := h2
  go_enter Try.func29, Try.ntmps29
  go_wp2_with fail
  refine RG.out.mono ?_
  rintro e w1 ⟨rfl, hb1⟩
  go_wp2
  go_ret2
  exact ⟨rfl, HB.out.trans (hb1.mono HB.out.size)⟩

set_option maxRecDepth 100000 in
set_option maxHeartbeats 2000000 in
theorem bytes_ok (B M : Nat) (ws : List Int) (ms : List Txt) (vw vs : Value) (N1 N2 : Nat → Prop) (w : World) (h1 : Row (Value.int .i64) N1 w vw ws) (h2 : Row encT N2 w vs ms) (hr : rightS B M ws ms = true) (hR : RightIs B M ws ms B M) :
    Calls Try.prog 28 #[sigV B M vw vs] w fun e w' => e = .returned (.tuple #[.string ⟨(bytesS B M ws ms).toArray⟩, .int .i64 0]) ∧ Below w.heap.size w w' := by
  have hl1 : ws.length ≤ 40000 := by rw [hR.lw]; exact hR.q
  have hl2 : ms.length ≤ 40000 := by rw [hR.lm]; exact hR.q
  have hB : B ≤ 1024 := hR.b2
  have hM : M ≤ 524288 := hR.n2
  have HB := Lib.hid ((Below.refl w.heap.size w).alloc (Nat.le_refl _) (sigC B M vw vs))
  have G0 := Lib.hid (heap_alloc_new w (sigC B M vw vs))
  have H1 := Lib.hid (h1.grow ((Below.refl _ _).alloc (Nat.le_refl _) (sigC B M vw vs)))
  have H2 := Lib.hid (h2.grow ((Below.refl _ _).alloc (Nat.le_refl _) (sigC B M vw vs)))
  have RG := Lib.hid (sigRight_any B M ws ms vw vs N1 N2 _ H1.out H2.out (by omega) (by omega))
  rw [hr] at RG
  have HRI := Lib.hid hR; clear hr hR
  obtain ⟨a1, k1, rfl, _⟩ := h1
  obtain ⟨a2, k2, rfl, _⟩ := h2
  go_enter Try.func28, Try.ntmps28
  go_wp2_with fail
  generalize w.alloc (.cells #[.int .i64 B, .int .i64 M, .slice a1 ws.length k1, .slice a2 ms.length k2] 31) = w0 at *
  refine RG.out.mono ?_
  rintro e w1 ⟨rfl, hb1⟩
  have g1 := old_of hb1 G0.out
  have HG1 := Lib.hid g1
  have H11 := Lib.hid (H1.out.grow hb1)
  have H21 := Lib.hid (H2.out.grow hb1)
  have B1 := Lib.hid (HB.out.trans (hb1.mono HB.out.size))
  have c0 := sig_c0 g1
  have c1 := sig_c1 g1
  clear H1 H2 RG g1 hb1 G0 HB
  have A1 := fun w' (h : w1.heap.size ≤ w'.heap.size) => Lib.hid (addNumS_any w1.heap.size B (.slice none 0 0) [] w' (by omega) (by simp) (Own.nil _ _ _) h)
  go_upto_region 3 with fail
  go_cut [4] (fun v wx => Own wx w1.heap.size 5 v (nb B ++ nb M) ∧ Below w1.heap.size w1 wx)
  case first =>
    go_region_law (first
      | (go_simp; go_at_call 56; with_reducible refine A2.out.mono ?_; rintro e w3 ⟨v3, rfl, ho3, hb3⟩; have HO3 := Lib.hid ho3; have HB3 := Lib.hid (HB2.out.trans hb3); clear ho3 hb3)
      | (go_simp; go_at_call 56; with_reducible refine (A1 w1.drew (Nat.le_refl _)).out.mono ?_; rintro e w2 ⟨v2, rfl, ho2, hb2⟩; have HO2 := Lib.hid ho2; have HB2 := Lib.hid (Below.trans (Below_drew (Below.refl _ w1)) hb2); have d1 := sig_c1 (old_of HB2.out HG1.out); have A2 := Lib.hid (addNumS_any w1.heap.size M v2 ([] ++ nb B) w2 (by omega) (by have := (nb_length B).2; simp; omega) ho2 HB2.out.size); clear ho2 hb2))
    all_goals
      go_wp2_with fail
      go_meet
      exact ⟨HO3.out, HB3.out⟩
  case rest =>
    obtain ⟨hown, hbel⟩ := hcut
    have HO := Lib.hid hown
    have BC := Lib.hid hbel
    have c2 := sig_c2 (old_of hbel HG1.out)
    clear hown hbel c0 c1 A1
    obtain ⟨_, _, hv1, hc1⟩ := H11.out
    injection hv1 with ea1 en1 ec1
    clear en1 ec1
    subst ea1
    have HC1 := Lib.hid hc1; clear hc1
    have hwB := B1.out.size
    go_wp2
    go_loopw [4, 21] (fun v i wr => ∃ k : Nat, k ≤ ws.length ∧ i = .int .i64 k ∧ Own wr w1.heap.size 5 v (preS B M ws k) ∧ Below w1.heap.size w1 wr) (fun _ i _ => ws.length - (intOf i).toNat)
    case atStart => exact ⟨0, by omega, rfl, by unfold preS; simpa using HO.out, BC.out⟩
    case round =>
      obtain ⟨k, hk, rfl, hown, hbel⟩ := hrel
      have Hown := Lib.hid hown; clear hown
      have Hbel := Lib.hid hbel; clear hbel
      by_cases hlt : k < ws.length
      · obtain ⟨b1, o1, rfl, _, cc1⟩ := HC1.out k hlt
        have cc2 := (Hbel.out.cell (p := ⟨b1, o1 + k, none⟩) (World.block_lt_of_cell? w1 _ cc1)).trans cc1
        have hx := HRI.out.w ws[k] (List.getElem_mem _)
        have NX := Lib.hid (preS_next B M ws k hlt)
        have PL := preS_le B M ws k
        obtain ⟨x, hx2⟩ : ∃ x : Nat, ws[k] = (x : Int) := ⟨ws[k].toNat, by omega⟩
        rw [hx2] at cc2 NX hx
        have NX2 := Lib.hid (show preS B M ws (k + 1) = preS B M ws k ++ nb x by rw [NX.out]; rfl)
        have AD := Lib.hid (addNumS_any w1.heap.size x _ _ wr (by omega) (by omega) Hown.out Hbel.out.size)
        rw [← NX2.out] at AD
        have i0 : (0 : Int) ≤ (k : Int) := by omega
        have i1 : (k : Int) < (ws.length : Int) := by omega
        clear cc1 hx hx2 NX NX2 PL
        go_wp2_with fail
        refine AD.out.mono ?_
        rintro e w3 ⟨v3, rfl, ho3, hb3⟩
        go_wp2
        go_roundw
        case rel => exact ⟨k + 1, by omega, by go_num, ho3, Hbel.out.trans hb3⟩
        case measure => simp [intOf]; omega
      · have i1 : ¬ (k : Int) < (ws.length : Int) := by omega
        have HO2 := Lib.hid (show Own wr w1.heap.size 5 _ (nb B ++ nb M ++ (ws.map nbZ).flatten) by have := Hown.out; unfold preS at this; rwa [List.take_of_length_le (by omega)] at this)
        have PL := preS_le B M ws ws.length
        unfold preS at PL
        rw [List.take_length] at PL
        have HPL := Lib.hid PL
        generalize hpp : nb B ++ nb M ++ (ws.map nbZ).flatten = pp at *
        have c3 := sig_c3 (old_of Hbel.out HG1.out)
        obtain ⟨_, _, hv2, hc2⟩ := H21.out
        injection hv2 with ea2 en2 ec2
        clear en2 ec2
        subst ea2
        have HC2 := Lib.hid hc2; clear hc2
        have HPP := Lib.hid hpp; clear hpp PL Hown
        go_wp2
        obtain ⟨wy, rfl⟩ : ∃ wy : World, wy = wr := ⟨_, rfl⟩
        go_loopw [4, 32] (fun v i wr => ∃ j : Nat, j ≤ ms.length ∧ i = .int .i64 j ∧ Own wr w1.heap.size 5 v (pp ++ (ms.take j).flatten) ∧ Below w1.heap.size w1 wr) (fun _ i _ => ms.length - (intOf i).toNat)
        case atStart => exact ⟨0, by omega, rfl, by simpa using HO2.out, Hbel.out⟩
        case round =>
          obtain ⟨j, hj, rfl, hown, hbel⟩ := hrel
          have Hown := Lib.hid hown; clear hown
          have Hbel2 := Lib.hid hbel; clear hbel
          by_cases hlt2 : j < ms.length
          · obtain ⟨b1, o1, rfl, _, cc1⟩ := HC2.out j hlt2
            have cc2 := (Hbel2.out.cell (p := ⟨b1, o1 + j, none⟩) (World.block_lt_of_cell? w1 _ cc1)).trans cc1
            unfold encT at cc2
            have h32 := HRI.out.m ms[j] (List.getElem_mem _)
            have NX := Lib.hid (flat_next ms j hlt2)
            have ML := mks_le ms j HRI.out.m
            have hlen : (pp ++ (ms.take j).flatten).length + ms[j].length < 70368744177664 := by rw [List.length_append]; have := HPL.out; omega
            have hb1 : w1.heap.size ≤ wr.heap.size := Hbel2.out.size
            generalize ms[j] = m at *
            have i2 : (0 : Int) ≤ (j : Int) := by omega
            have i3 : (j : Int) < (ms.length : Int) := by omega
            clear cc1 ML h32
            obtain ⟨wo, rfl⟩ : ∃ wo : World, wo = wr := ⟨_, rfl⟩
            go_wp2_with (at_builtin; refine append_text rfl _ _ 63 9 5 (by rfl) Try.underlying63 Try.underlying9 info_u8 w1.heap.size _ _ _ (by rfl) Hown.out (by rfl) (by show (pp ++ (ms.take j).flatten).length + m.length < _; exact hlen) hb1 ?_; intro v' w4 hown4 hb4; have HO4 := Lib.hid hown4; have HB4 := Lib.hid hb4; clear hown4 hb4)
            go_wp2
            go_roundw
            case rel => exact ⟨j + 1, by omega, by go_num, by rw [NX.out, ← List.append_assoc]; exact HO4.out, Hbel2.out.trans HB4.out⟩
            case measure => simp [intOf]; omega
          · have i3 : ¬ (j : Int) < (ms.length : Int) := by omega
            have hcv := own_string wr w1.heap.size 63 9 5 _ _ Try.underlying63 Try.underlying5 Try.underlying9 Hown.out
            rw [show pp ++ (ms.take j).flatten = bytesS B M ws ms by rw [← HPP.out, List.take_of_length_le (by omega)]; rfl] at hcv
            have HF := Lib.hid (B1.out.trans (Hbel2.out.mono B1.out.size))
            clear HPP
            go_wp2
            go_ret2
            exact ⟨rfl, HF.out⟩
end Go.Proofs.Ytifbdbblfhphjaa

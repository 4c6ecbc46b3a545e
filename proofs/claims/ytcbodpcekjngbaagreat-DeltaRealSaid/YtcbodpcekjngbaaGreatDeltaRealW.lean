/- The walk of the law DeltaReal. -/
import Derived.Test.YtcbodpcekjngbaaGreatRnX
import Derived.Test.YtcbodpcekjngbaaGreatMkX
import Derived.Test.YtcbodpcekjngbaaGreatTabX
import Derived.Test.YtcbodpcekjngbaaGreatBldShelf
import Derived.Test.YtcbodpcekjngbaaGreatRmX
import Derived.Test.YtcbodpcekjngbaaGreatBookW
import Derived.Test.YtcbodpcekjngbaaGreatRshX
import Derived.Test.YtcbodpcekjngbaaGreatDelX
import Derived.Test.YtcbodpcekjngbaaGreatFrame
import Derived.Test.YtcbodpcekjngbaaGreatGen
import Derived.Test.YtcbodpcekjngbaaGreatInfos
import Derived.Test.YtcbodpcekjngbaaGreatMakeDW
import Derived.Test.YtcbodpcekjngbaaGreatMarkMath
import Derived.Test.YtcbodpcekjngbaaGreatGaX
import Derived.Test.YtcbodpcekjngbaaGreatRollX
import Derived.Test.YtcbodpcekjngbaaGreatShaX
import Derived.Test.YtcbodpcekjngbaaGreatOdX
import Derived.Test.YtcbodpcekjngbaaGreatOwnL
import Derived.Test.YtcbodpcekjngbaaGreatProg
import Derived.Test.YtcbodpcekjngbaaGreatRealBookW
import Derived.Test.YtcbodpcekjngbaaGreatBkX
import Derived.Test.YtcbodpcekjngbaaGreatRefX
import Derived.Test.YtcbodpcekjngbaaGreatRightDW
import Derived.Test.YtcbodpcekjngbaaGreatRollMath
import Derived.Test.YtcbodpcekjngbaaGreatRowKeep
import Derived.Test.YtcbodpcekjngbaaGreatRows
import Derived.Test.YtcbodpcekjngbaaGreatShelf
import Derived.Test.YtcbodpcekjngbaaGreatSigAt
import Derived.Test.YtcbodpcekjngbaaGreatSignAW
import Derived.Test.YtcbodpcekjngbaaGreatSignMath
import Derived.Test.YtcbodpcekjngbaaGreatSignedW
import Derived.Test.YtcbodpcekjngbaaGreatSortX
import Derived.Test.YtcbodpcekjngbaaGreatSortEW
import Derived.Test.YtcbodpcekjngbaaGreatStepW
import Derived.BigQuiet
import Derived.BigRegion
import Derived.Deep.CutBlock
import Derived.Deep.DeepCutAuto
import Derived.Deep.LoopGhost
import Derived.Deep.QuietTactic
import Derived.Deep.RegionHeld3
import Derived.Deep.RegionLaw
import Derived.Deep.Slices
import Derived.IntWalk
import Derived.Laws.BitsAllLaws
import Derived.Laws.CopyRow
import Derived.Laws.Externs
import Derived.Laws.IdiomCopy
import Derived.Laws.MakeOwn
import Derived.Laws.Rows
import Derived.Laws.Tables
import Derived.Lib.AppendStr
import Derived.Lib.Builder
import Derived.Lib.Hide
import Derived.Lib.SliceRun
import Derived.Lib.SmallJoins
import Derived.Lib.Strings
import Derived.Lib.Walk
import Derived.Outline
import Derived.Sort.Walk0
import Derived.StillTail
import Derived.StillTailTactics
import Derived.WalkKit
import Derived.WalkLawsBesides
import Derived.WalkSpells
set_option linter.unusedVariables false
namespace Go.Proofs.YtcbodpcekjngbaaGreat
open Go.RowKit

theorem st_okR {x : DSt} (h : stS x = true) : StOk x := by
  unfold stS at h
  split at h
  · have := of_decide_eq_true h; exact ⟨by omega, by omega, by omega, by omega, by omega⟩
  · rename_i c; have := of_decide_eq_true h; simp at c; exact ⟨by omega, by omega, by omega, by omega, by rw [c]; simp⟩
theorem srch_good {mt : Txt → Int → Int} {B M : Nat} {s : Txt} (hB : 0 < B) (hM : M ≤ 524288) (hm : ∀ t wanted, ¬ mt t wanted < 0 → ∃ i : Nat, mt t wanted = i ∧ i * B + B ≤ M) : ∀ (f at' fr : Nat) (wanted : Int) (l : List DSt), goodS M l → goodS M (srchS mt B s f at' fr wanted l).1 := by
  intro f
  induction f with
  | zero => intro at' fr wanted l h; exact h
  | succ f ih =>
    intro at' fr wanted l h
    by_cases hin : at' + B ≤ s.length
    · by_cases hneg : mt (win s B at') wanted < 0
      · rw [srch_no _ _ _ _ _ _ _ _ hin hneg]; exact ih _ _ _ _ h
      · obtain ⟨i, hi, hle⟩ := hm _ _ hneg
        rw [srch_yes _ _ _ _ _ _ _ (i : Int) _ hin hi (by omega)]
        have e : (i : Int) * (B : Int) = ((i * B : Nat) : Int) := by simp
        rw [e]
        exact ih _ _ _ _ (take_good (gather_good h _) _ _ hB hle hM)
    · rw [srch_end _ _ _ _ _ _ _ _ hin]; exact h
theorem make_good (is : Txt → Txt → Bool) (ws : List Int) (ms : List Txt) {B M : Nat} (hB : 16 ≤ B) (hM : M ≤ 524288) (hlw : ws.length = nBlk M B) (s : Txt) : goodS M (makeS is ws ms B M s) := by
  have h1 := srch_good (mt := mtP is ws ms (M / B) B) (s := s) (B := B) (by omega) hM (fun t wanted hn => by
    obtain ⟨i, h1, h2, _⟩ := matchP_spec (P := pOf (is t) ws ms (wk t : Nat)) (N := M / B) (B := B) (t := t) (wanted := wanted) hn
    refine ⟨i, h1, ?_⟩
    have h := Nat.le_trans (Nat.mul_le_mul_right B h2) (Nat.div_mul_le_self M B)
    rw [Nat.succ_mul] at h; exact h) (s.length + 1) 0 0 0 [] (good_nil _)
  unfold makeS stepsS restS
  split
  · rename_i hc
    have hlt := Nat.mod_le M B
    have hr : 0 < M % B := by
      rcases Nat.eq_zero_or_pos (M % B) with c | c
      · have h2 := hc.2
        unfold tlP tailZ at h2
        simp only [Bool.and_eq_true, decide_eq_true_eq] at h2
        refine absurd ?_ h2.1
        rw [hlw]; unfold nBlk
        have e1 := Nat.div_add_mod M B
        generalize hq : M / B = q at *
        have hcm : B * q = q * B := Nat.mul_comm _ _
        have e2 : M + B - 1 = (B - 1) + B * q := by omega
        rw [e2, Nat.add_mul_div_left _ _ (show 0 < B by omega), Nat.div_eq_of_lt (show B - 1 < B by omega)]; omega
      · exact c
    exact take_good (gather_good h1 _) _ _ hr (by omega) hM
  · exact gather_good h1 _

set_option maxRecDepth 100000 in
set_option maxHeartbeats 4000000 in
theorem deltaReal_bad (l0 : Txt) (hl0 : l0.length ≤ 140737488351232) (s0 : Txt) (hs0 : s0.length ≤ 140737488351232) (z : Int) (hz : z < 16 ∨ 1024 < z) (w : World) :
    Calls Tryz.prog 4 #[.string ⟨l0.toArray⟩, .string ⟨s0.toArray⟩, .int .i64 z] w fun e w' => e = .returned (.bool true) ∧ Below w.heap.size w w' := by
  have CT := fun w' => Lib.hid (cutD_any l0 150 w' (by decide) hl0)
  have CT2 := fun w' => Lib.hid (cutD_any s0 150 w' (by decide) hs0)
  have hl : (l0.take 150).length ≤ 150 := List.length_take_le _ _
  have hs : (s0.take 150).length ≤ 150 := List.length_take_le _ _
  generalize l0.take 150 = l at *
  generalize s0.take 150 = s at *
  have OF := fun bp w' => Lib.hid (ofD_arg bp l s z w' hz (by omega))
  rcases hz with hz | hz
  case' inl => have i1 : z < 16 := hz
  case' inr =>
    have i0 : ¬ z < 16 := by omega
    have i1 : 1024 < z := hz
  all_goals
    go_enter Tryz.func4, Tryz.ntmps4
    go_wp2_with fail
    refine (CT _).out.mono ?_
    rintro e w' ⟨rfl, rfl⟩
    go_wp2_with fail
    refine (CT2 _).out.mono ?_
    rintro e w' ⟨rfl, rfl⟩
    go_wp2_with fail
    refine (real_any _).mono ?_
    rintro e w1 ⟨p, kb, rfl, hA1, hp, hkb, hb1⟩
    have HB1 := Lib.hid hb1; clear hb1 hA1 hp hkb
    go_wp2_with fail
    refine (OF _ _).out.mono ?_
    rintro e w2 ⟨rfl, hb2⟩
    have hbb := below_self_alloc w2 (delC [] [] 0 (.slice none 0 0))
    have HB2 := Lib.hid ((HB1.out.trans (hb2.mono HB1.out.size)).trans (hbb.mono (Nat.le_trans HB1.out.size hb2.size)))
    clear hb2 hbb
    go_wp2_with fail
    refine (awake_any _).mono ?_
    rintro e w7 ⟨rfl, hb7⟩
    go_wp2_with fail
    go_ret
    exact ⟨rfl, HB2.out.trans (hb7.mono HB2.out.size)⟩

set_option maxRecDepth 100000 in
set_option maxHeartbeats 8000000 in
theorem deltaReal_good (l0 : Txt) (hl0 : l0.length ≤ 140737488351232) (s0 : Txt) (hs0 : s0.length ≤ 140737488351232) (B : Nat) (hb16 : 16 ≤ B) (hb24 : B ≤ 1024) (w : World) :
    Calls Tryz.prog 4 #[.string ⟨l0.toArray⟩, .string ⟨s0.toArray⟩, .int .i64 B] w fun e w' => e = .returned (.bool true) ∧ Below w.heap.size w w' := by
  have CT := fun w' => Lib.hid (cutD_any l0 150 w' (by decide) hl0)
  have CT2 := fun w' => Lib.hid (cutD_any s0 150 w' (by decide) hs0)
  have hl : (l0.take 150).length ≤ 150 := List.length_take_le _ _
  have hs : (s0.take 150).length ≤ 150 := List.length_take_le _ _
  generalize l0.take 150 = l at *
  generalize s0.take 150 = s at *
  have i16 : ¬ (B : Int) < 16 := by omega
  have i24 : ¬ (1024 : Int) < (B : Int) := by omega
  have hcl := cutS_le B (by omega) l
  have OF := Lib.hid (fun p kb w' (hA : RealAt w' p kb) (hW : Below w.heap.size w w') (hp : w.heap.size ≤ p) (hk : w.heap.size ≤ kb) => ofD_ok (is := fun _ => isRl) (n := 1000000) (book_realD p kb) (⟨fun w s t n hat hok ht => (mark_real w p kb t hat (by omega)).mono fun e w' ⟨h1, h2⟩ => ⟨(), h1, trivial, trivial, hat.new h2, Kept.new h2 _, fun k h => .inl h⟩⟩) (fun _ _ => ask_real p kb) (by decide) (by decide) (fun _ => one_real) (fun ts ms s0 s hmk m hm => by
    rw [marked_real hmk] at hm
    obtain ⟨t, _, rfl⟩ := List.mem_map.1 hm
    exact realM_length t) (fun _ _ _ _ _ _ _ => trivial) B l s w' w () hb16 hb24 (by omega) (by omega) hA trivial trivial hW (fun k h => by rcases h with rfl | rfl; exact hp; exact hk))
  have BL := Lib.hid (fun w' => blocksD_any l s B w' hb16 hb24 (by omega) (by omega))
  have HBK := Lib.hid (fun h => real_back hb16 l s (by omega) h)
  have HGD := Lib.hid (make_good isRl (((cutS B l).map wk).map (fun n : Nat => (n : Int))) ((cutS B l).map realM) (B := B) (M := l.length) hb16 (by omega) (by rw [List.length_map, List.length_map, cutS_length B (by omega)]; rfl) s)
  have HLN := Lib.hid (show (makeS isRl (((cutS B l).map wk).map (fun n : Nat => (n : Int))) ((cutS B l).map realM) B l.length s).length ≤ s.length + 1 from steps_len _ _ _ _ (by omega) s)
  have HMR := Lib.hid (fun ms s1 (mk1 : Marked (fun (_ : Unit) (_ : Txt) (_ : Unit) => True) (fun _ => realM) () (cutS B l) ms s1) => marked_real mk1)
  have hbll : (blocksS l s B).length ≤ 1000 := by
    unfold blocksS
    have := wins_len s B
    rw [List.length_append, List.length_append]
    split <;> simp <;> omega
  have HBLM := Lib.hid (show ∀ x ∈ blocksS l s B, x.length ≤ 1000000 by
    intro x hx
    unfold blocksS at hx
    rcases List.mem_append.1 hx with hx | hx
    · rcases List.mem_append.1 hx with hx | hx
      · have := (cutS_mem B (by omega) l x hx).1; omega
      · unfold winsS at hx
        obtain ⟨k, _, rfl⟩ := List.mem_map.1 hx
        unfold win; rw [List.length_drop, List.length_take]; omega
    · split at hx
      · simp at hx; subst hx; rw [List.length_drop]; omega
      · simp at hx)
  generalize hst : makeS isRl (((cutS B l).map wk).map (fun n : Nat => (n : Int))) ((cutS B l).map realM) B l.length s = st at *
  have HST := Lib.hid hst; clear hst
  generalize blocksS l s B = bl at *
  go_enter Tryz.func4, Tryz.ntmps4
  go_wp2_with fail
  refine (CT _).out.mono ?_
  rintro e w' ⟨rfl, rfl⟩
  go_wp2_with fail
  refine (CT2 _).out.mono ?_
  rintro e w' ⟨rfl, rfl⟩
  go_wp2_with fail
  refine (real_any _).mono ?_
  rintro e w1 ⟨p, kb, rfl, hA1, hp, hkb, hb1⟩
  have OF1 := Lib.hid (OF.out p kb w1 hA1 hb1 hp hkb)
  clear OF hA1 hp hkb hb1
  go_wp2_with fail
  refine OF1.out.mono ?_
  rintro e w2 ⟨v, ms, s1, s2, s3, rfl, ho, mk1, _, _, hA2, hbel⟩
  have hms := HMR.out ms s1 mk1
  subst hms
  rw [HST.out] at ho
  have hbb := below_self_alloc w2 (delC (realM l) (realM s) s.length v)
  have R3 := Lib.hid (ho.row.keep hbb)
  have HA3 := Lib.hid (RealAt.new hA2 hbb)
  obtain ⟨c0, c1, c2, c3⟩ := delO_cells (heap_alloc_new w2 (delO (realM l) (realM s) s.length v))
  have HB3 := Lib.hid (hbel.trans (hbb.mono hbel.size))
  have hlen := HLN.out
  have HOK := Lib.hid (show ∀ x ∈ st, StOk x from fun x hx => st_okR (HGD.out x hx).1)
  have RN := Lib.hid (runD_any _ l v st _ R3.out HOK.out (by omega) (by omega))
  have AP := Lib.hid (fun w' (hr : RowS (w.heap.size ≤ ·) w' v st) (hA : RealAt w' p kb) => applyD_any (ask_real p kb) (Nat.le_refl _) (by decide) _ l (realM l) (realM s) s.length v st w' hr HOK.out (by omega) (by rw [realM_length]; decide) (by rw [realM_length]; decide) (by omega) (by omega) hA (by omega) (fun _ => by omega))
  have HRA := Lib.hid (fun h => real_apply (l := l) (s := s) (st := st) (by omega) h)
  have HCO := Lib.hid (show runG l st [] ≠ (0, s) → CollS bl from fun h => Classical.byContradiction fun hn => h ((HBK.out hn).run (by omega)))
  obtain ⟨rr, hrr⟩ : ∃ rr : Int × Txt, rr = runG l st [] := ⟨_, rfl⟩
  rw [← hrr] at RN HRA HCO
  clear hrr
  obtain ⟨re, rt⟩ := rr
  obtain ⟨av, cv, hv⟩ := R3.out.slice
  clear hbb ho hA2 hbel OF1 hlen HBK HGD HLN HMR HST mk1
  dsimp only
  generalize realM l = ml at R3 HA3 HB3 c0 c1 c2 c3 RN AP HRA ⊢
  generalize realM s = mS at R3 HA3 HB3 c0 c1 c2 c3 RN AP HRA ⊢
  subst hv
  have q0 : ((0 : Int) != 0) = false := rfl
  by_cases hgood : re = 0 ∧ rt = s
  · obtain ⟨hre, hrt⟩ := hgood
    subst hre; subst hrt
    have qs : (rt == rt) = true := by simp
    rw [HRA.out rfl] at AP
    clear HCO HRA
    go_wp2_with fail
    generalize w2.alloc (.cells #[.string ⟨ml.toArray⟩, .string ⟨mS.toArray⟩, .int .i64 rt.length, .slice av st.length cv] 41) = w3 at *
    refine RN.out.mono ?_
    rintro e w4 ⟨rfl, hb4⟩
    have E0 := (hb4.cell (World.block_lt_of_cell? w3 _ c0)).trans c0
    have E1 := (hb4.cell (World.block_lt_of_cell? w3 _ c1)).trans c1
    have E2 := (hb4.cell (World.block_lt_of_cell? w3 _ c2)).trans c2
    have E3 := (hb4.cell (World.block_lt_of_cell? w3 _ c3)).trans c3
    have AP4 := Lib.hid (AP.out w4 (R3.out.keep hb4) (RealAt.new HA3.out hb4))
    have HB4 := Lib.hid (HB3.out.trans (hb4.mono HB3.out.size))
    clear hb4 c0 c1 c2 c3 AP RN
    go_wp2_with fail
    refine AP4.out.mono ?_
    rintro e w5 ⟨rfl, hb5⟩
    have HB5 := Lib.hid (HB4.out.trans (hb5.mono HB4.out.size))
    clear hb5 E0 E1 E2 E3 AP4
    go_wp2_with fail
    refine (awake_any _).mono ?_
    rintro e w7 ⟨rfl, hb7⟩
    go_wp2_with fail
    go_ret
    exact ⟨rfl, HB5.out.trans (hb7.mono HB5.out.size)⟩
  · have HCOLL := Lib.hid (HCO.out (fun h => hgood (by injection h with h1 h2; exact ⟨h1, h2⟩)))
    have HQ := Lib.hid (show ((re == 0) = false) ∨ ((re == 0) = true ∧ (rt == s) = false) by
      by_cases h0 : re = 0
      · right
        exact ⟨by simp [h0], by simp; exact fun e => hgood ⟨h0, e⟩⟩
      · left; simpa using h0)
    clear HCO HRA AP hgood
    rcases HQ.out with q1 | ⟨q1, q2⟩
    all_goals
      go_wp2_with fail
      generalize w2.alloc (.cells #[.string ⟨ml.toArray⟩, .string ⟨mS.toArray⟩, .int .i64 s.length, .slice av st.length cv] 41) = w3 at *
      refine RN.out.mono ?_
      rintro e w4 ⟨rfl, hb4⟩
      have HB4 := Lib.hid (HB3.out.trans (hb4.mono HB3.out.size))
      clear hb4 c0 c1 c2 c3 RN
      go_wp2_with fail
      refine (BL.out w4).mono ?_
      rintro e w5 ⟨vb, rfl, ob, hb5⟩
      have HB5 := Lib.hid (HB4.out.trans (hb5.mono HB4.out.size))
      obtain ⟨ab, cb, rfl, hcb⟩ := ob.row
      have HCB := Lib.hid (show ∀ i (h : i < bl.length), ∃ g o, ab = some ⟨g, o, none⟩ ∧ w4.heap.size ≤ g ∧ w5.cell? ⟨g, o + i, none⟩ = some (encT bl[i]) from hcb)
      clear hb5 ob hcb BL HQ
      go_wp2_with fail
      go_loopw [15] (fun a wr => ∃ i : Nat, i ≤ bl.length ∧ a = .int .i64 i ∧ Below w5.heap.size w5 wr ∧ Hid (∀ i' k (hi : i' < bl.length) (hk : k < i'), i' < i → ¬ (bl[i'] ≠ bl[k] ∧ realM bl[i'] = realM bl[k]))) (fun a _ => bl.length - (intOf a).toNat)
      case atStart => exact ⟨0, Nat.zero_le _, rfl, Below.refl _ _, Lib.hid (fun i' k hi hk h => by omega)⟩
      case round =>
        obtain ⟨i, hi, rfl, hbr, hno⟩ := hrel
        have HBR := Lib.hid hbr; clear hbr
        by_cases hlt : i < bl.length
        · have i1 : (i : Int) < (bl.length : Int) := by omega
          go_wp2_with fail
          obtain ⟨wo, hwo⟩ : ∃ wo : World, wo = wr := ⟨_, rfl⟩
          rw [← hwo] at HBR ⊢
          clear hwo
          go_loopw [16] (fun b wi => ∃ k : Nat, k ≤ i ∧ b = .int .i64 k ∧ Below w5.heap.size w5 wi ∧ Hid (∀ k' (hk : k' < i), k' < k → ¬ (bl[i] ≠ bl[k'] ∧ realM bl[i] = realM bl[k']))) (fun b _ => i - (intOf b).toNat)
          case atStart => exact ⟨0, Nat.zero_le _, rfl, HBR.out, Lib.hid (fun k' hk h => by omega)⟩
          case round =>
            obtain ⟨k, hk, rfl, hbi, hno2⟩ := hrel
            have HBI := Lib.hid hbi
            by_cases hki : k < i
            · have i2 : (k : Int) < (i : Int) := by omega
              have hkl : k < bl.length := by omega
              obtain ⟨g, o, rfl, _, x1⟩ := HCB.out i hlt
              obtain ⟨g', o', he, _, x2⟩ := HCB.out k hkl
              simp only [Option.some.injEq, Addr.mk.injEq, and_true] at he
              obtain ⟨rfl, rfl⟩ := he
              have X1 := (hbi.cell (World.block_lt_of_cell? w5 _ x1)).trans x1
              have X2 := (hbi.cell (World.block_lt_of_cell? w5 _ x2)).trans x2
              unfold encT at X1 X2
              have SX := Lib.hid (fun w' => refSum_any bl[i] w' (HBLM.out _ (List.getElem_mem hlt)))
              have SY := Lib.hid (fun w' => refSum_any bl[k] w' (HBLM.out _ (List.getElem_mem hkl)))
              have HN := Lib.hid (show ¬ (bl[i] ≠ bl[k] ∧ realM bl[i] = realM bl[k]) → ∀ k' (hk : k' < i), k' < k + 1 → ¬ (bl[i] ≠ bl[k'] ∧ realM bl[i] = realM bl[k']) from fun hn k' hk' hlt' => by
                rcases Nat.lt_or_ge k' k with c | c
                · exact hno2.out k' hk' c
                · have : k' = k := by omega
                  subst this; exact hn)
              have HX := Lib.hid (show realM bl[i] = shaS KL H0 bl[i] from rfl)
              have HY := Lib.hid (show realM bl[k] = shaS KL H0 bl[k] from rfl)
              obtain ⟨sx, hsx⟩ : ∃ sx, sx = shaS KL H0 bl[i] := ⟨_, rfl⟩
              obtain ⟨sy, hsy⟩ : ∃ sy, sy = shaS KL H0 bl[k] := ⟨_, rfl⟩
              rw [← hsx] at SX HX
              rw [← hsy] at SY HY
              obtain ⟨P, hP⟩ : ∃ P : Prop, P = (∀ k' (hk : k' < i), k' < k + 1 → ¬ (bl[i] ≠ bl[k'] ∧ realM bl[i] = realM bl[k'])) := ⟨_, rfl⟩
              have HP := Lib.hid hP
              have HCASE := Lib.hid (show ((bl[i] == bl[k]) = true ∧ (bl[i] != bl[k]) = false ∧ P) ∨ ((bl[i] == bl[k]) = false ∧ (bl[i] != bl[k]) = true ∧ (sx == sy) = true) ∨ ((bl[i] == bl[k]) = false ∧ (bl[i] != bl[k]) = true ∧ (sx == sy) = false ∧ P) by
                rw [hP]
                by_cases c1 : bl[i] = bl[k]
                · exact .inl ⟨by simp [c1], by simp [c1], HN.out (fun c => c.1 c1)⟩
                · by_cases c2 : sx = sy
                  · exact .inr (.inl ⟨by simpa using c1, by simpa using c1, by simp [c2]⟩)
                  · exact .inr (.inr ⟨by simpa using c1, by simpa using c1, by simpa using c2, HN.out (fun c => c2 (HX.out.symm.trans (c.2.trans HY.out)))⟩))
              clear hsx hsy HX HY hno2 x1 x2 hbi hP HN
              generalize bl[i] = tx at X1 SX HCASE HP
              generalize bl[k] = ty at X2 SY HCASE
              have i3 : (0 : Int) ≤ (i : Int) := by omega
              have i4 : (0 : Int) ≤ (k : Int) := by omega
              have i5 : (k : Int) < (bl.length : Int) := by omega
              go_wp2_with fail
              have C1 := below_cell X1
              have C2 := below_cell X2
              rcases HCASE.out with ⟨qe, qa, hn⟩ | ⟨qe, qa, qb⟩ | ⟨qe, qa, qb, hn⟩
              case' inl => have HNN := Lib.hid hn; clear hn
              case' inr.inr => have HNN := Lib.hid hn; clear hn
              all_goals
                refine wp_region_below (by kernel_rfl) (by kernel_rfl) ?_
                repeat (go_big_quiet_step ((first | (go_at_call 16; first | (with_reducible exact below_calls (SX.out _)) | (with_reducible exact below_calls (SY.out _))))))
                refine wpQuiet_nil ?_
                rintro w6 ⟨⟨w6b, hb6⟩, hw6⟩
                have hw6b : w6 = w6b := hw6
                clear hw6
                subst hw6b
                have HB6 := Lib.hid (HBI.out.trans (hb6.mono HBI.out.size))
                clear hb6 C1 C2
              case inr.inl =>
                go_wp2_with fail
                refine (awake_any _).mono ?_
                rintro e w7 ⟨rfl, hb7⟩
                go_wp2_with fail
                go_ret
                exact ⟨rfl, (HB5.out.trans (HB6.out.mono HB5.out.size)).trans (hb7.mono (Nat.le_trans HB5.out.size HB6.out.size))⟩
              all_goals
                go_wp2_with fail
                go_roundw
                case rel => exact ⟨k + 1, by omega, by go_num, HB6.out, Lib.hid (HP.out.mp HNN.out)⟩
                case measure => simp [intOf]; omega
            · obtain rfl : k = i := by omega
              have i2 : ¬ (k : Int) < (k : Int) := by omega
              have HNX := Lib.hid (show ∀ i' k' (hi : i' < bl.length) (hk : k' < i'), i' < k + 1 → ¬ (bl[i'] ≠ bl[k'] ∧ realM bl[i'] = realM bl[k']) from fun i' k' hi' hk' hlt' => by
                rcases Nat.lt_or_ge i' k with c | c
                · exact hno.out i' k' hi' hk' c
                · have : i' = k := by omega
                  subst this; exact hno2.out k' hk' hk')
              go_wp2_with fail
              go_roundw
              case rel => exact ⟨k + 1, by omega, by go_num, HBI.out, HNX⟩
              case measure => simp [intOf]; omega
        · exfalso
          obtain ⟨i', k', hi', hk', h1, h2⟩ := HCOLL.out
          exact hno.out i' k' hi' hk' (by omega) ⟨h1, h2⟩
theorem deltaReal_walk (l0 : Txt) (hl0 : l0.length ≤ 140737488351232) (s0 : Txt) (hs0 : s0.length ≤ 140737488351232) (z : Int) (hz1 : -9223372036854775808 ≤ z) (hz2 : z ≤ 9223372036854775807) (w : World) :
    Calls Tryz.prog 4 #[.string ⟨l0.toArray⟩, .string ⟨s0.toArray⟩, .int .i64 z] w fun e w' => e = .returned (.bool true) ∧ Below w.heap.size w w' := by
  by_cases hz : z < 16 ∨ 1024 < z
  · exact deltaReal_bad l0 hl0 s0 hs0 z hz w
  · obtain ⟨B, rfl⟩ : ∃ B : Nat, z = (B : Int) := ⟨z.toNat, by omega⟩
    exact deltaReal_good l0 hl0 s0 hs0 B (by omega) (by omega) w
end Go.Proofs.YtcbodpcekjngbaaGreat

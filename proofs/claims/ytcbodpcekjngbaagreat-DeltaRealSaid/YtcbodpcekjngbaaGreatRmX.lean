/- Several texts in one: RealMath, BlocksDW. -/
import Derived.Test.YtcbodpcekjngbaaGreatRnX
import Derived.Test.YtcbodpcekjngbaaGreatTabX
import Derived.Test.YtcbodpcekjngbaaGreatBldShelf
import Derived.Test.YtcbodpcekjngbaaGreatDelX
import Derived.Test.YtcbodpcekjngbaaGreatFrame
import Derived.Test.YtcbodpcekjngbaaGreatGen
import Derived.Test.YtcbodpcekjngbaaGreatRshX
import Derived.Test.YtcbodpcekjngbaaGreatMakeDW
import Derived.Test.YtcbodpcekjngbaaGreatMarkMath
import Derived.Test.YtcbodpcekjngbaaGreatGaX
import Derived.Test.YtcbodpcekjngbaaGreatOwnL
import Derived.Test.YtcbodpcekjngbaaGreatShaX
import Derived.Test.YtcbodpcekjngbaaGreatProg
import Derived.Test.YtcbodpcekjngbaaGreatRealBookW
import Derived.Test.YtcbodpcekjngbaaGreatRollMath
import Derived.Test.YtcbodpcekjngbaaGreatRows
import Derived.Test.YtcbodpcekjngbaaGreatShelf
import Derived.Test.YtcbodpcekjngbaaGreatSigAt
import Derived.Test.YtcbodpcekjngbaaGreatSignMath
import Derived.Test.YtcbodpcekjngbaaGreatSortX
import Derived.Test.YtcbodpcekjngbaaGreatSortEW
import Derived.ArgAppend
import Derived.BigQuiet
import Derived.BigRegion
import Derived.ChangeAlike
import Derived.Deep.CutBlock
import Derived.Deep.DeepCutAuto
import Derived.Deep.LoopGhost
import Derived.Deep.OwnRows
import Derived.Deep.QuietTactic
import Derived.Deep.RegionHeld3
import Derived.Deep.RegionLaw
import Derived.Deep.Slices
import Derived.IntWalk
import Derived.Laws.BitsAllLaws
import Derived.Laws.CopyRow
import Derived.Laws.Externs
import Derived.Laws.IdiomCopy
import Derived.Laws.MakeOwn
import Derived.Laws.OwnMore
import Derived.Laws.Rows
import Derived.Laws.Tables
import Derived.Lib.AppendStr
import Derived.Lib.Builder
import Derived.Lib.Hide
import Derived.Lib.SliceRun
import Derived.Lib.SmallJoins
import Derived.Lib.Strings
import Derived.Lib.Walk
import Derived.Maps.AppendAt
import Derived.Maps.OwnSet
import Derived.Maps.Views
import Derived.Outline
import Derived.RegionTactic
import Derived.Sort.Walk0
import Derived.StillTail
import Derived.StillTailTactics
import Derived.WalkKit
import Derived.WalkLawsBesides
import Derived.WalkSpells
import Derived.Test.YtcbodpcekjngbaaGreatInfos
import Derived.Test.YtcbodpcekjngbaaGreatRefBlocksW
import Derived.Deep.AppendLies
/- Plain mathematics of deltas by a real book: a delta makes its text, or two texts have one sum. -/
set_option linter.unusedVariables false
namespace Go.Proofs.YtcbodpcekjngbaaGreat
open Go.RowKit

theorem realM_length (t : Txt) : (realM t).length = 32 := by
  unfold realM shaS bytesOfL St.toL
  simp [wordBytes]
/-- The texts of a block's length in two texts. -/
def winsS (s : Txt) (B : Nat) : List Txt := (List.range (s.length + 1 - B)).map (win s B)
def blocksS (l s : Txt) (B : Nat) : List Txt := cutS B l ++ winsS s B ++ (if l.length % B ≤ s.length then [s.drop (s.length - l.length % B)] else [])
def CollS (L : List Txt) : Prop := ∃ i k, ∃ (hi : i < L.length) (hk : k < i), L[i] ≠ L[k] ∧ realM L[i] = realM L[k]
theorem coll_of {L : List Txt} {x y : Txt} (hx : x ∈ L) (hy : y ∈ L) (hne : x ≠ y) (he : realM x = realM y) : CollS L := by
  obtain ⟨i, hi, rfl⟩ := List.getElem_of_mem hx
  obtain ⟨k, hk, rfl⟩ := List.getElem_of_mem hy
  rcases Nat.lt_trichotomy i k with c | c | c
  · exact ⟨k, i, hk, c, fun e => hne e.symm, he.symm⟩
  · subst c; exact absurd rfl hne
  · exact ⟨i, k, hi, c, hne, he⟩
theorem real_back {B : Nat} (hb : 16 ≤ B) (l s : Txt) (hl : l.length ≤ 524288) (hno : ¬ CollS (blocksS l s B)) :
    BackS l s (makeS isRl (((cutS B l).map wk).map (fun n : Nat => (n : Int))) ((cutS B l).map realM) B l.length s) := by
  have same : ∀ x y, x ∈ blocksS l s B → y ∈ blocksS l s B → realM x = realM y → x = y := fun x y hx hy h => by
    by_cases e : x = y
    · exact e
    · exact absurd (coll_of hx hy e h) hno
  have hcl := cutS_length B (by omega) l
  have hm : ∀ i (hi : i < (cutS B l).length), mOf ((cutS B l).map realM) i = realM (cutS B l)[i] := fun i hi => by
    rw [mOf_get (by rw [List.length_map]; exact hi), List.getElem_map]
  unfold makeS
  refine steps_back (by omega) hl (fun a wanted ha hn => ?_) (fun hle hT => ?_)
  · obtain ⟨i, h1, h2, h3, _⟩ := matchP_spec (P := pOf (isRl (win s B a)) (((cutS B l).map wk).map (fun n : Nat => (n : Int))) ((cutS B l).map realM) (wk (win s B a) : Nat)) (N := l.length / B) (B := B) (t := win s B a) (wanted := wanted) hn
    have hi : i < (cutS B l).length := by rw [hcl]; exact Nat.lt_of_lt_of_le h2 (Nat.div_le_div_right (by omega))
    have hi2 : i * B + B ≤ l.length := by
      have h := Nat.le_trans (Nat.mul_le_mul_right B h2) (Nat.div_mul_le_self l.length B)
      rw [Nat.succ_mul] at h; exact h
    refine ⟨i, h1, hi2, ?_⟩
    unfold pOf at h3
    rw [Bool.and_eq_true] at h3
    have h4 := of_decide_eq_true h3.2
    rw [hm i hi] at h4
    rw [← (cutS_get B (by omega) l i hi).1]
    refine same _ _ ?_ ?_ h4
    · unfold blocksS winsS
      refine List.mem_append_left _ (List.mem_append_right _ (List.mem_map.2 ⟨a, List.mem_range.2 (by omega), rfl⟩))
    · unfold blocksS
      exact List.mem_append_left _ (List.mem_append_left _ (List.getElem_mem hi))
  · unfold tlP tailZ at hT
    simp only [Bool.and_eq_true, decide_eq_true_eq] at hT
    obtain ⟨h1, h2, _, h4⟩ := hT
    rw [List.length_map, List.length_map] at h1
    have e1 := Nat.div_add_mod l.length B
    have hmod := Nat.mod_lt l.length (show 0 < B by omega)
    have hcm : B * (l.length / B) = l.length / B * B := Nat.mul_comm _ _
    have hr : 0 < l.length % B := by
      rcases Nat.eq_zero_or_pos (l.length % B) with c | c
      · refine absurd ?_ h1
        rw [hcl]
        generalize hq : l.length / B = q at *
        have e2 : l.length + B - 1 = (B - 1) + B * q := by omega
        rw [e2, Nat.add_mul_div_left _ _ (show 0 < B by omega), Nat.div_eq_of_lt (show B - 1 < B by omega)]; omega
      · exact c
    have hN : l.length / B < (cutS B l).length := by
      rw [hcl]
      generalize hq : l.length / B = q at *
      generalize hrr : l.length % B = r at *
      have e2 : l.length + B - 1 = (r - 1 + B) + B * q := by omega
      rw [e2, Nat.add_mul_div_left _ _ (show 0 < B by omega), Nat.add_div_right _ (by omega), Nat.div_eq_of_lt (show r - 1 < B by omega)]; omega
    refine ⟨hr, rfl, ?_⟩
    unfold isRl at h4
    have h5 := of_decide_eq_true h4
    rw [hm _ hN] at h5
    have h6 : (cutS B l)[l.length / B] = l.drop (l.length - l.length % B) := by
      rw [(cutS_get B (by omega) l _ hN).1, show l.length - l.length % B = l.length / B * B by omega, List.take_of_length_le]
      rw [List.length_drop]; omega
    rw [← h6]
    refine same _ _ ?_ ?_ h5
    · unfold blocksS
      rw [if_pos hle]
      exact List.mem_append_right _ (by simp)
    · unfold blocksS
      exact List.mem_append_left _ (List.mem_append_left _ (List.getElem_mem hN))
/-- Steps that run are steps of a delta. -/
theorem run_right {basis : Txt} : ∀ (l : List DSt) (out r : Txt), runG basis l out = (0, r) → (∀ x ∈ l, stS x = true) ∧ (r.length : Int) = out.length + (l.map mkS).sum ∧ (out.length ≤ 524288 → r.length ≤ 524288) := by
  intro l
  induction l with
  | nil => intro out r h; unfold runG at h; injection h with _ h; subst h; exact ⟨by simp, by simp, fun h => h⟩
  | cons x l ih =>
    intro out r h
    unfold runG at h
    split at h
    · rename_i hx
      split at h
      · rename_i h2
        obtain ⟨i1, i2, i3⟩ := ih _ _ h
        have hp := piece_len hx.1 hx.2
        rw [List.length_append] at i2 i3
        refine ⟨fun y hy => ?_, by rw [List.map_cons, List.sum_cons]; omega, fun _ => i3 (by omega)⟩
        rcases List.mem_cons.1 hy with rfl | hy
        · exact hx.1
        · exact i1 y hy
      · injection h with h _; omega
    · injection h with h _; omega
theorem real_apply {l s : Txt} {st : List DSt} (hs : s.length ≤ 524288) (h : runG l st [] = (0, s)) : applyS isRl l (realM l) (realM s) s.length st = (0, s) := by
  obtain ⟨h1, h2, _⟩ := run_right st [] s h
  have hr : rightD (realM l) (realM s) s.length st = true := by
    unfold rightD
    have h3 : st.all stS = true := List.all_eq_true.2 h1
    rw [h3, realM_length, realM_length]
    simp at h2 ⊢; omega
  unfold applyS
  rw [hr, if_neg (by simp), if_neg (by unfold isRl; simp), h, if_neg (by simp), if_pos (by unfold isRl; simp)]
end Go.Proofs.YtcbodpcekjngbaaGreat
/- The walk of the law's blocks. -/
set_option linter.unusedVariables false
namespace Go.Proofs.YtcbodpcekjngbaaGreat
open Go.RowKit

theorem wins_len (s : Txt) (B : Nat) : (winsS s B).length = s.length + 1 - B := by unfold winsS; simp
theorem wins_take (s : Txt) (B k : Nat) (hk : k < s.length + 1 - B) : (winsS s B).take (k + 1) = (winsS s B).take k ++ [win s B k] := by
  rw [List.take_add_one, List.getElem?_eq_getElem (by rw [wins_len]; exact hk)]
  unfold winsS
  simp
set_option maxRecDepth 100000 in
set_option maxHeartbeats 2000000 in
theorem blocksD_any (l s : Txt) (B : Nat) (w : World) (hb : 16 ≤ B) (hb2 : B ≤ 1024) (hl : l.length ≤ 3000) (hs : s.length ≤ 3000) :
    Calls Tryz.prog 15 #[.string ⟨l.toArray⟩, .string ⟨s.toArray⟩, .int .i64 B] w fun e w' => ∃ v, e = .returned v ∧ OwnL encT w' w.heap.size 9 v (blocksS l s B) ∧ Below w.heap.size w w' := by
  have LL := Lib.hid (show (⟨l.toArray⟩ : ByteArray).size = l.length from rfl)
  have SL := Lib.hid (show (⟨s.toArray⟩ : ByteArray).size = s.length from rfl)
  have BL := Lib.hid (refBlocks_any B l w hb hb2 (by omega))
  have hcl := cutS_le B (by omega) l
  have hwl := wins_len s B
  have HWT := Lib.hid (fun k hk => wins_take s B k hk)
  have HBS := Lib.hid (show blocksS l s B = cutS B l ++ winsS s B ++ (if l.length % B ≤ s.length then [s.drop (s.length - l.length % B)] else []) from rfl)
  generalize blocksS l s B = OUT at *
  generalize cutS B l = cs at *
  have HWL := Lib.hid hwl
  obtain ⟨ww, hww⟩ : ∃ ww, ww = winsS s B := ⟨_, rfl⟩
  rw [← hww] at HWT HBS HWL
  clear hww hwl
  go_enter Tryz.func15, Tryz.ntmps15
  go_wp2_with fail
  refine BL.out.mono ?_
  rintro e w1 ⟨v1, rfl, ho1, hb1⟩
  have HO1 := Lib.hid ho1
  have HB1 := Lib.hid hb1
  clear ho1 hb1 BL
  go_wp2_with fail
  go_loopw [7, 8] (fun v i wr => ∃ k : Nat, k ≤ s.length + 1 - B ∧ i = .int .i64 k ∧ OwnL encT wr w.heap.size 9 v (cs ++ ww.take k) ∧ Below w.heap.size w wr) (fun _ i _ => s.length + 1 - (intOf i).toNat)
  case atStart => exact ⟨0, by omega, rfl, by simpa using HO1.out, HB1.out⟩
  case round =>
    clear HO1 HB1
    obtain ⟨k, hk, rfl, ho, hbel⟩ := hrel
    have Hown := Lib.hid ho; clear ho
    have HB := Lib.hid hbel; clear hbel
    have hlen : (cs ++ ww.take k).length ≤ 7000 := by rw [List.length_append, List.length_take]; omega
    have hbw := HB.out.size
    by_cases hin : k + B ≤ s.length
    · obtain ⟨kb, hkb⟩ : ∃ kb, kb = k + B := ⟨_, rfl⟩
      have W1 : (k : Int) + (B : Int) = (kb : Int) := by omega
      have i1 : (kb : Int) ≤ (s.length : Int) := by omega
      have i2 : (k : Int) ≤ (kb : Int) := by omega
      have HE := Lib.hid (show (⟨s.toArray⟩ : ByteArray).extract k kb = ⟨(win s B k).toArray⟩ by rw [hkb]; exact slice_toArray s k (k + B))
      have HT := Lib.hid (show cs ++ ww.take (k + 1) = cs ++ ww.take k ++ [win s B k] by rw [HWT.out k (by omega), List.append_assoc])
      clear hkb
      generalize win s B k = t at *
      generalize cs ++ ww.take k = L at *
      go_upto_region 5 with fail
      go_wp2_with (at_builtin; (try rw [HE.out]); refine append_elem (enc := encT) (y := t) rfl _ _ 23 9 (.string ByteArray.empty) 16 (by rfl) Tryz.underlying23 info_str rfl w.heap.size _ _ rfl (by rfl) Hown.out (by rfl) (by omega) (by unfold maxLen; omega) (by omega) ?_; intro v' w3 hown3 hb3 hk3)
      have HO3 := Lib.hid hown3
      have HB3 := Lib.hid (HB.out.trans hb3)
      clear hown3 hb3 hk3
      go_wp2_with fail
      go_roundw
      case rel => exact ⟨k + 1, by omega, by go_num, by rw [HT.out]; exact HO3.out, HB3.out⟩
      case measure => simp [intOf]; omega
    · have i1 : ¬ (k : Int) + (B : Int) ≤ (s.length : Int) := by omega
      have HT := Lib.hid (show ww.take k = ww from List.take_of_length_le (by rw [HWL.out]; omega))
      rw [HT.out] at Hown hlen
      obtain ⟨r, hr⟩ : ∃ r, r = l.length % B := ⟨_, rfl⟩
      have TM : Int.tmod (l.length : Int) (B : Int) = (r : Int) := by rw [hr]; rfl
      have qb0 : ((B : Int) == 0) = false := by simp; omega
      have hrB : r < B := by rw [hr]; exact Nat.mod_lt _ (by omega)
      rw [← hr] at HBS
      clear hr
      generalize cs ++ ww = L at *
      by_cases hrs : r ≤ s.length
      · obtain ⟨q, hq⟩ : ∃ q, q = s.length - r := ⟨_, rfl⟩
        have WQ : (s.length : Int) - (r : Int) = (q : Int) := by omega
        have i3 : (r : Int) ≤ (s.length : Int) := by omega
        have i4 : (q : Int) ≤ (s.length : Int) := by omega
        have HOUT := Lib.hid (show OUT = L ++ [s.drop q] by rw [HBS.out, if_pos hrs, hq])
        have HE := Lib.hid (show (⟨s.toArray⟩ : ByteArray).extract q s.length = ⟨(s.drop q).toArray⟩ from drop_toArray s q s.length (Nat.le_refl _))
        clear hq HBS
        generalize s.drop q = t at *
        go_upto_region 8 with fail
        go_wp2_with (at_builtin; (try rw [HE.out]); refine append_elem (enc := encT) (y := t) rfl _ _ 23 9 (.string ByteArray.empty) 16 (by rfl) Tryz.underlying23 info_str rfl w.heap.size _ _ rfl (by rfl) Hown.out (by rfl) (by omega) (by unfold maxLen; omega) (by omega) ?_; intro v' w3 hown3 hb3 hk3)
        go_ret
        exact ⟨_, rfl, by rw [HOUT.out]; exact hown3, HB.out.trans hb3⟩
      · have i3 : ¬ (r : Int) ≤ (s.length : Int) := by omega
        have HOUT := Lib.hid (show OUT = L by rw [HBS.out, if_neg hrs, List.append_nil])
        clear HBS
        go_wp2_with fail
        go_ret
        exact ⟨_, rfl, by rw [HOUT.out]; exact Hown.out, HB.out⟩
end Go.Proofs.YtcbodpcekjngbaaGreat

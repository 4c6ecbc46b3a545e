/- Landed tree: strings.Split at a slash, fitsPath, Pattern, Match, walked. -/
import Derived.Test.YtkfkfpfnpfpkaaaDoorFitX
import Derived.Test.YtkfkfpfnpfpkaaaDoorFrame
import Derived.Test.YtkfkfpfnpfpkaaaDoorGen
import Derived.Test.YtkfkfpfnpfpkaaaDoorMarkMath
import Derived.Test.YtkfkfpfnpfpkaaaDoorMatchMath
import Derived.Test.YtkfkfpfnpfpkaaaDoorOwnL
import Derived.Test.YtkfkfpfnpfpkaaaDoorPthX
import Derived.Test.YtkfkfpfnpfpkaaaDoorProg
import Derived.Test.YtkfkfpfnpfpkaaaDoorReadW
import Derived.Test.YtkfkfpfnpfpkaaaDoorRowN
import Derived.Test.YtkfkfpfnpfpkaaaDoorRows
import Derived.Test.YtkfkfpfnpfpkaaaDoorShelf
import Derived.Test.YtkfkfpfnpfpkaaaDoorTreeMath
import Derived.BigQuiet
import Derived.Deep.QuietTactic
import Derived.Laws.IdiomStrings
import Derived.Laws.RangeAny
import Derived.Lib.Hide
import Derived.LoopTactic
import Derived.Shelf.Strings.SplitCore
import Derived.WalkKit
import Derived.WalkLawsBesides
import Derived.WalkSpells
set_option linter.unusedVariables false
namespace Go.Proofs.YtkfkfpfnpfpkaaaDoor
open Go.RowKit

theorem splitK_names : ∀ n (u : Txt), u.length ≤ n → Lib.splitK [47] 0 (u.count 47) u = namesS u := by
  intro n
  induction n with
  | zero => intro u h; rw [List.eq_nil_of_length_eq_zero (Nat.le_zero.1 h)]; rfl
  | succ n ih =>
    intro u hu
    rcases slash_cases u with h | ⟨a, r, rfl, h⟩
    · rw [show u.count 47 = 0 from List.count_eq_zero.2 (fun hm => h 47 hm rfl), names_none u h]; rfl
    · have hc : (a ++ 47 :: r).count 47 = r.count 47 + 1 := by
        rw [List.count_append, List.count_cons_self, show a.count 47 = 0 from List.count_eq_zero.2 (fun hm => h 47 hm rfl)]; omega
      have hi : Lib.index (a ++ 47 :: r) [47] = (a.length : Int) := by rw [Lib.index_one]; exact idx_some a r h
      have hl : r.length ≤ n := by simp at hu; omega
      rw [hc, names_some a r h]
      show (if Lib.index (a ++ 47 :: r) [47] == -1 then _ else _) = _
      rw [hi, if_neg (by rw [beq_iff_eq]; omega)]
      have e1 : ((a.length : Int)).toNat = a.length := by omega
      rw [e1, Nat.add_zero, List.take_left]
      congr 1
      rw [← ih r hl]
      congr 1
      rw [show a ++ 47 :: r = (a ++ [47]) ++ r by simp, show a.length + [(47 : UInt8)].length = (a ++ [47]).length by simp, List.drop_left]
theorem countB_names (s : Txt) : Lib.countB ⟨s.toArray⟩ ⟨#[47]⟩ = s.count 47 := Lib.count_one 47 s
theorem pieces_names (s : Txt) : (Lib.splitB ⟨#[47]⟩ 0 (s.count 47) ⟨s.toArray⟩).map (·.data.toList) = namesS s := by
  rw [Lib.splitB_data]
  exact splitK_names _ s (Nat.le_refl _)
theorem pieces_len (s : Txt) : (Lib.splitB ⟨#[47]⟩ 0 (s.count 47) ⟨s.toArray⟩).length = (namesS s).length := by
  rw [← pieces_names, List.length_map]
theorem pieces_get (s : Txt) (i : Nat) (hi : i < (namesS s).length) : (Lib.splitB ⟨#[47]⟩ 0 (s.count 47) ⟨s.toArray⟩)[i]? = some ⟨(namesS s)[i].toArray⟩ := by
  have h := pieces_names s
  have hl := pieces_len s
  generalize Lib.splitB ⟨#[47]⟩ 0 (s.count 47) ⟨s.toArray⟩ = L at *
  rw [List.getElem?_eq_getElem (by omega)]
  have h2 : (L.map (·.data.toList))[i]? = some (namesS s)[i] := by rw [h, List.getElem?_eq_getElem hi]
  rw [List.getElem?_map, List.getElem?_eq_getElem (by omega)] at h2
  simp at h2
  rw [← h2]
set_option maxRecDepth 100000 in
theorem split_any (s : Txt) (w : World) (hs : s.length ≤ 1000000) :
    Calls Tryd.prog 115 #[.string ⟨s.toArray⟩, .string ⟨#[47]⟩] w fun e w' => ∃ g c, e = .returned (.slice (some ⟨g, 0, none⟩) (namesS s).length c) ∧ EachG encS w' (some ⟨g, 0, none⟩) (namesS s) ∧ Below w.heap.size w w' := by
  have hN : (((namesS s).length : Nat) : Int) = min (if (-1 : Int) < 0 then (Lib.countB ⟨s.toArray⟩ ⟨#[47]⟩ : Int) + 1 else -1) (((⟨s.toArray⟩ : ByteArray).size : Int) + 1) := by
    have h1 := Lib.splitB_all ⟨#[47]⟩ (by decide) 0 (s.count 47) ⟨s.toArray⟩ (countB_names s)
    rw [pieces_len] at h1
    have h2 : s.count 47 ≤ s.length := List.count_le_length
    rw [if_pos (by decide), countB_names, show (⟨s.toArray⟩ : ByteArray).size = s.length from rfl, h1]
    omega
  have hcnt : (namesS s).length - 1 = s.count 47 := by
    have h1 := Lib.splitB_all ⟨#[47]⟩ (by decide) 0 (s.count 47) ⟨s.toArray⟩ (countB_names s)
    rw [pieces_len] at h1
    omega
  have GS := Any.strings_genSplit_core Tryd.lays221 (by kernel_rfl) ⟨s.toArray⟩ ⟨#[47]⟩ 0 (-1) (namesS s).length w (by show s.length < _; omega) (by decide) (Nat.zero_le _)
    (fun x c hx => (Tryd.strings_Index_one x 47 _).mono fun e w' ⟨h1, h2⟩ => ⟨by rw [h1]; show _ = Ending.returned (Value.int .i64 (Lib.index x.data.toList [47])); rw [Lib.index_one], h2⟩)
    ((Tryd.strings_Count_one ⟨s.toArray⟩ 47 w).mono fun e w' ⟨h1, h2⟩ => ⟨by rw [h1, countB_names]; rfl, h2⟩)
    (by decide) (by decide) hN
  rw [hcnt, pieces_len] at GS
  change Calls Tryd.prog 129 _ _ _ at GS
  have HG := Lib.hid GS
  clear GS hN
  have HE := Lib.hid (show ∀ w', w' = w.alloc (.cells (Lib.cellsOf (Lib.splitB ⟨#[47]⟩ 0 (s.count 47) ⟨s.toArray⟩) (namesS s).length) 9) → EachG encS w' (some ⟨w.heap.size, 0, none⟩) (namesS s) ∧ Below w.heap.size w w' from fun w' hw => by
    refine ⟨fun i hi => ⟨w.heap.size, 0, rfl, ?_⟩, ?_⟩
    · rw [hw, cell_of_row _ _ _ _ _ _ (heap_alloc_new _ _), Nat.zero_add]
      unfold Lib.cellsOf
      rw [List.getElem?_toArray, List.getElem?_append_left (by rw [List.length_map, pieces_len]; exact hi), List.getElem?_map, pieces_get s i hi]
      rfl
    · rw [hw]; exact (Below.refl _ _).alloc (Nat.le_refl _) _)
  go_enter Tryd.func115, Tryd.ntmps115
  go_wp2_with fail
  refine HG.out.mono ?_
  rintro e w1 ⟨rfl, hw⟩
  obtain ⟨h1, h2⟩ := HE.out w1 hw
  have H1 := Lib.hid h1
  have H2 := Lib.hid h2
  clear hw h1 h2
  go_wp2_with fail
  go_ret
  exact ⟨_, _, rfl, H1.out, H2.out⟩
set_option maxRecDepth 100000 in
theorem fitsPath_any (p s : Txt) (w : World) (hp : p.length ≤ 100000) (hs : s.length ≤ 100000) :
    Calls Tryd.prog 87 #[.string ⟨p.toArray⟩, .string ⟨s.toArray⟩] w fun e w' => e = .returned (.bool (matF (namesS p) (namesS s))) ∧ Below w.heap.size w w' := by
  have SP := Lib.hid (split_any p w (by omega))
  have SS := fun w' => Lib.hid (split_any s w' (by omega))
  have n1 : (namesS p).length ≤ 1000000 := by have := namesG_len p []; show (namesG [] p).length ≤ _; omega
  have n2 : (namesS s).length ≤ 1000000 := by have := namesG_len s []; show (namesG [] s).length ≤ _; omega
  have FT := Lib.hid (fun va vb ca cb w' h1 h2 => fitsT_any va vb ca cb (namesS p) (namesS s) w' h1 h2 n1 n2 (fun x hx => by have := names_len p x hx; omega) (fun x hx => by have := names_len s x hx; omega))
  rw [← fitG_matF]
  obtain ⟨res, hres⟩ : ∃ res, res = fitG anyT inS (namesS p) (namesS s) := ⟨_, rfl⟩
  rw [← hres] at FT ⊢
  clear n1 n2 hres
  generalize namesS p = np at *
  generalize namesS s = ns at *
  go_enter Tryd.func87, Tryd.ntmps87
  go_wp2_with fail
  refine SP.out.mono ?_
  rintro e w1 ⟨g1, c1, rfl, he1, hb1⟩
  have HB1 := Lib.hid hb1
  have HE1 := Lib.hid he1
  clear hb1 he1
  go_wp2_with fail
  refine (SS _).out.mono ?_
  rintro e w2 ⟨g2, c2, rfl, he2, hb2⟩
  have HB2 := Lib.hid (HB1.out.trans (hb2.mono HB1.out.size))
  have FT2 := Lib.hid (FT.out _ _ c1 c2 w2 (HE1.out.new hb2) he2)
  clear hb2 he2 HE1 HB1
  go_wp2_with fail
  refine FT2.out.mono ?_
  rintro e w3 ⟨rfl, hb3⟩
  go_wp2_with fail
  go_ret
  exact ⟨rfl, HB2.out.trans (hb3.mono HB2.out.size)⟩
set_option maxRecDepth 100000 in
theorem pattern_any (s : Txt) (w : World) (hs : s.length ≤ 140737488351232) :
    Calls Tryd.prog 38 #[.string ⟨s.toArray⟩] w fun e w' => e = .returned (.int .i64 (patternS s)) ∧ Below w.heap.size w w' := by
  rw [patternS_path]
  have RP := Lib.hid (path_any s w hs)
  go_enter Tryd.func38, Tryd.ntmps38
  go_wp2_with fail
  refine RP.out.mono ?_
  rintro e w1 ⟨rfl, hb⟩
  go_wp2_with fail
  go_ret
  exact ⟨rfl, hb⟩
set_option maxRecDepth 100000 in
theorem match_any (p s : Txt) (w : World) (hp : p.length ≤ 140737488351232) (hs : s.length ≤ 140737488351232) :
    Calls Tryd.prog 40 #[.string ⟨p.toArray⟩, .string ⟨s.toArray⟩] w fun e w' => e = .returned (.bool (matchS p s)) ∧ Below w.heap.size w w' := by
  have PA := Lib.hid (pattern_any p w hp)
  have PS := fun w' => Lib.hid (path_any s w' hs)
  by_cases h1 : patternS p = 0
  · have hp2 : p.length ≤ 200 := by unfold patternS at h1; by_cases h : 200 < p.length; rw [if_pos h] at h1; cases h1; omega
    rw [h1] at PA
    by_cases h2 : pathS s = 0
    · have hs2 : s.length ≤ 200 := by unfold pathS at h2; by_cases h : 200 < s.length; rw [if_pos h] at h2; cases h2; omega
      have FP := fun w' => Lib.hid (fitsPath_any p s w' (by omega) (by omega))
      have HR := Lib.hid (show matchS p s = matF (namesS p) (namesS s) by unfold matchS; rw [decide_eq_true h1, decide_eq_true h2]; simp)
      rw [HR.out]
      rw [h2] at PS
      generalize matF (namesS p) (namesS s) = res at *
      clear HR h1 h2
      go_enter Tryd.func40, Tryd.ntmps40
      go_wp2_with fail
      refine PA.out.mono ?_
      rintro e w1 ⟨rfl, hb1⟩
      have HB1 := Lib.hid hb1
      clear hb1 PA
      go_wp2_with fail
      refine (PS _).out.mono ?_
      rintro e w2 ⟨rfl, hb2⟩
      have HB2 := Lib.hid (HB1.out.trans (hb2.mono HB1.out.size))
      clear hb2 HB1
      go_wp2_with fail
      refine (FP _).out.mono ?_
      rintro e w3 ⟨rfl, hb3⟩
      go_wp2_with fail
      go_ret
      exact ⟨rfl, HB2.out.trans (hb3.mono HB2.out.size)⟩
    · have HR := Lib.hid (show matchS p s = false by unfold matchS; rw [decide_eq_false h2]; simp)
      rw [HR.out]
      generalize pathS s = e2 at *
      have q2 : (e2 == 0) = false := by simp [h2]
      clear HR h1 h2
      go_enter Tryd.func40, Tryd.ntmps40
      go_wp2_with fail
      refine PA.out.mono ?_
      rintro e w1 ⟨rfl, hb1⟩
      have HB1 := Lib.hid hb1
      clear hb1 PA
      go_wp2_with fail
      refine (PS _).out.mono ?_
      rintro e w2 ⟨rfl, hb2⟩
      have HB2 := Lib.hid (HB1.out.trans (hb2.mono HB1.out.size))
      clear hb2 HB1
      go_wp2_with fail
      go_ret
      exact ⟨rfl, HB2.out⟩
  · have HR := Lib.hid (show matchS p s = false by unfold matchS; rw [decide_eq_false h1]; simp)
    rw [HR.out]
    generalize patternS p = e1 at *
    have q1 : (e1 == 0) = false := by simp [h1]
    clear HR h1 PS
    go_enter Tryd.func40, Tryd.ntmps40
    go_wp2_with fail
    refine PA.out.mono ?_
    rintro e w1 ⟨rfl, hb1⟩
    have HB1 := Lib.hid hb1
    clear hb1 PA
    go_wp2_with fail
    go_ret
    exact ⟨rfl, HB1.out⟩
end Go.Proofs.YtkfkfpfnpfpkaaaDoor

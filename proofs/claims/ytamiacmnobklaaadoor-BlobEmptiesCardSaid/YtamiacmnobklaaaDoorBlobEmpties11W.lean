/- The walk of BlobEmpties: when all is forgotten that was saved, and all is dropped that was put, nothing is kept. -/
import Derived.Test.YtamiacmnobklaaaDoorArgOpB
import Derived.Test.YtamiacmnobklaaaDoorArgTree
import Derived.Test.YtamiacmnobklaaaDoorArgs3
import Derived.Test.YtamiacmnobklaaaDoorBldShelf
import Derived.Test.YtamiacmnobklaaaDoorB1X
import Derived.Test.YtamiacmnobklaaaDoorLwX
import Derived.Test.YtamiacmnobklaaaDoorB2X
import Derived.Test.YtamiacmnobklaaaDoorBlobEmMath
import Derived.Test.YtamiacmnobklaaaDoorBookW
import Derived.Test.YtamiacmnobklaaaDoorFtX
import Derived.Test.YtamiacmnobklaaaDoorFrame
import Derived.Test.YtamiacmnobklaaaDoorGen
import Derived.Test.YtamiacmnobklaaaDoorItX
import Derived.Test.YtamiacmnobklaaaDoorPtX
import Derived.Test.YtamiacmnobklaaaDoorMarkMath
import Derived.Test.YtamiacmnobklaaaDoorOwnL
import Derived.Test.YtamiacmnobklaaaDoorPthX
import Derived.Test.YtamiacmnobklaaaDoorProg
import Derived.Test.YtamiacmnobklaaaDoorReadItW
import Derived.Test.YtamiacmnobklaaaDoorCdX
import Derived.Test.YtamiacmnobklaaaDoorRefRightTW
import Derived.Test.YtamiacmnobklaaaDoorRowN
import Derived.Test.YtamiacmnobklaaaDoorRows
import Derived.Test.YtamiacmnobklaaaDoorShelf
import Derived.Test.YtamiacmnobklaaaDoorSoX
import Derived.Test.YtamiacmnobklaaaDoorSortMath
import Derived.Test.YtamiacmnobklaaaDoorText
import Derived.Test.YtamiacmnobklaaaDoorTreeMath
import Derived.BigQuiet
import Derived.BigRegion
import Derived.Deep.Cut
import Derived.Deep.CutBlock
import Derived.Deep.CutRange
import Derived.Deep.DeepCutAuto
import Derived.Deep.QuietTactic
import Derived.IntWalk
import Derived.Laws.BitsAllLaws
import Derived.Laws.Externs
import Derived.Laws.IdiomStrings
import Derived.Laws.OwnMore
import Derived.Laws.RangeAny
import Derived.Laws.Rows
import Derived.Laws.Tables
import Derived.Lib.AppendStr
import Derived.Lib.Builder
import Derived.Lib.Hide
import Derived.Lib.SlicesS
import Derived.Lib.Strings
import Derived.Lib.Walk
import Derived.LoopTactic
import Derived.Outline
import Derived.Shelf.Strings.SplitCore
import Derived.Sort.OwnSorted
import Derived.StillTail
import Derived.StillTailTactics
import Derived.WalkKit
import Derived.WalkLawsBesides
import Derived.WalkSpells
set_option linter.unusedVariables false
namespace Go.Proofs.YtamiacmnobklaaaDoor
open Go.RowKit

set_option maxRecDepth 100000 in
set_option maxHeartbeats 4000000 in
theorem blobEmpties_walk (v v' : Value) (ts : List Txt) (w : World) (h : ObIn w v) (htx : Texts w v' ts) :
    Calls Tryd.prog 3 #[v, v'] w fun e w' => e = .returned (.bool true) ∧ Below w.heap.size w w' := by
  obtain ⟨xs, hrow0, hin0, hlen0⟩ := h
  obtain ⟨hrt0, htl0, htn⟩ := texts_row htx
  have HRX := Lib.hid hrow0
  have HIN := Lib.hid hin0
  have HRT := Lib.hid hrt0
  have HTL := Lib.hid htl0
  obtain ⟨va, vc, hv, _⟩ := hrow0.slice
  subst hv
  obtain ⟨ta, tc, hv, _⟩ := hrt0.slice
  subst hv
  clear hrow0 hin0 hrt0 htl0 htx
  go_enter Tryd.func3, Tryd.ntmps3
  go_wp2_with fail
  refine (fresh_any _).mono ?_
  rintro e w1 ⟨pw, pb, p, bm, pp, N0, rfl, hf⟩
  have HE1 := Lib.hid (EW.start hf)
  clear hf
  go_wp2_with fail
  go_loopw [6, 8] (fun v6 v8 wr => ∃ (i : Nat) (N : Nat → Prop) (S : List Txt) (T : List Ent) (Ls : List (List FileD)), i ≤ xs.length ∧ i ≤ 12 ∧ v8 = .int .i64 (i : Nat) ∧ EW w wr pw pb p bm pp N S T Ls (Ls.map (mkT S)) [] v6 (.slice none 0 0) (14 * i) ∧ (∀ u, cntE S T u = (needS S Ls).count u)) (fun _ v8 _ => 12 - (intOf v8).toNat)
  case atStart => exact ⟨0, N0, [], [], [], by omega, by omega, rfl, HE1.out, fun u => by rw [cnt_nil]; rfl⟩
  case round =>
    clear HE1
    obtain ⟨i, N, S, T, Ls, hi, hi12, rfl, hew, hcn⟩ := hrel
    have HE := Lib.hid hew
    have HC := Lib.hid hcn
    clear hew hcn
    have i0 : (0 : Int) ≤ (i : Int) := by omega
    by_cases hlt : i < xs.length ∧ i < 12
    · obtain ⟨hlt1, hlt2⟩ := hlt
      have j1 : (i : Int) < (xs.length : Int) := by omega
      have j2 : (i : Int) < 12 := by omega
      obtain ⟨g, o, c', hv, hn, hel⟩ := HRX.out.at hlt1
      injection hv with ea eb ec
      subst ea; subst ec
      clear eb
      have hel1 := hel.below HE.out.bel hn
      have d3 := hel1 3 _ rfl
      have hf := (HIN.out _ (List.getElem_mem hlt1)).f
      clear hel hel1
      generalize xs[i] = x at *
      obtain ⟨xk, xn, xt, xa, xc, xf⟩ := x
      have hff : FilesIn w (.slice xa xf.length xc) xf := hf
      dsimp only at d3
      have HFR := Lib.hid hff.row
      have HFO := Lib.hid (fewB_ok hff.ok)
      have hfl := hff.len
      have hyl := fewB_len xf
      have FW := Lib.hid (fun X (hb : Below w.heap.size w X) => fewB_any (.slice xa xf.length xc) xf X (HFR.out.keep hb) hff.ok (by omega))
      clear hf hff
      have c0 := HE.out.wb.c0
      have hbd : Below wr.heap.size wr wr.drew := Below_drew (Below.refl _ _)
      have HED := Lib.hid (HE.out.new hbd)
      have d3d : wr.drew.cell? ⟨g, o + i * 4 + 3, none⟩ = some (.slice xa xf.length xc) := d3
      have FWD := Lib.hid (FW.out wr.drew HED.out.bel)
      clear FW HFR hbd
      have AFT := Lib.hid (fun (w2 : World) (va2 : Option Addr) (vm2 vc2 : Nat) (ho : OwnN encF 3 w2 wr.drew.heap.size 49 (.slice va2 vm2 vc2) (fewB xf)) (hb : Below wr.drew.heap.size wr.drew w2) => show EW w w2 pw pb p bm pp N S T Ls (Ls.map (mkT S)) [] _ (.slice none 0 0) (14 * i) ∧ RowN encF 3 (fun g => wr.drew.heap.size ≤ g ∧ g < w2.heap.size) w2 (.slice va2 vm2 vc2) (fewB xf) ∧ (∀ g, (wr.drew.heap.size ≤ g ∧ g < w2.heap.size) → ¬ N g ∧ g ≠ bm) by
        have hew := HED.out.new hb
        refine ⟨hew, RowN.inB encF_ok (by decide) (OwnN.row encF_ok ho), fun g hg => ⟨fun c => by have := HED.out.bl.bw.blob.lt.2 g c; omega, fun e => by have := HED.out.bl.bw.id.lt.2; omega⟩⟩)
      go_wp2_with fail
      by_cases hck : checkS (fewB xf) = 0
      · have HSL := Lib.hid (show Ls.map (mkT (saveS S (fewB xf))) = Ls.map (mkT S) ∧ needS (saveS S (fewB xf)) Ls = needS S Ls from saveS_roots HED.out.bl.ts HED.out.bl.live (fewB xf) (by have := HED.out.bl.sl; omega))
        have HLL := HED.out.bl.ll
        go_region_with (first
          | (go_at_call 8; refine FWD.out.mono ?_; rintro e w2 ⟨v2, rfl, ho2, hb2⟩; obtain ⟨va2, vm2, vc2, rfl⟩ := own_slice ho2; obtain ⟨he2, hr2, hn2⟩ := AFT.out w2 va2 vm2 vc2 ho2 hb2; have c2 := he2.wb.c0; clear ho2)
          | (go_at_call 7; refine (blSave_any w2 pb p bm N _ S T Ls (14 * i) _ (fewB xf) he2.bl (by omega) hn2 hr2 hyl hck).mono ?_; rintro e w3 ⟨rfl, N3, T3, h3, t3, k3⟩))
        all_goals
          have HE3 := Lib.hid (he2.turn h3 t3)
          have HK3 := Lib.hid k3
          clear h3 t3 k3 he2 hr2 hn2 c2 HED FWD AFT HE d3 d3d c0 hb2
          have hml := mkS_len (saveS S (fewB xf)) (mfS (saveS S (fewB xf)) (fewB xf))
          have hrl : (mkT (saveS S (fewB xf)) (fewB xf)).length = 32 := hml
          generalize hrm : mkT (saveS S (fewB xf)) (fewB xf) = rm at *
          have HRM := Lib.hid hrm
          have hll2 : (Ls.map (mkT S)).length ≤ 14 * i := by rw [List.length_map]; exact HLL
          clear hrm hml
          obtain ⟨oa, om, oc, hv6⟩ := own_slice HE3.out.o6
          subst hv6
          go_wp2_with (at_builtin; go_loud (refine append_new (enc := encZB) (k := 1) (w := w3) (by rfl) (.tmp 43) (.tmp 45) 23 9 (.string ByteArray.empty) 16 (by rfl) Tryd.underlying23 info_strB (by rfl) (by decide) encZB_ok w.heap.size _ (Ls.map (mkT S)) rm (by rfl) HE3.out.o6 (by rfl) (by omega) (by unfold maxLen; omega) HE3.out.bel.size _ (by rfl) ?_; intro v7 w7 hown7 ht7; have HE7 := Lib.hid (HE3.out.push6 hown7 ht7); clear hown7 ht7))
          go_roundw
          case rel =>
            refine ⟨i + 1, N3, saveS S (fewB xf), T3, Ls ++ [fewB xf], by omega, by omega, by go_num, ?_, fun u => ?_⟩
            · rw [List.map_append, HSL.out.1, show 14 * (i + 1) = 14 * i + 14 by omega]
              show EW w w7 pw pb p bm pp N3 _ T3 _ (Ls.map (mkT S) ++ [mkT (saveS S (fewB xf)) (fewB xf)]) [] _ _ _
              rw [HRM.out]
              exact HE7.out
            · rw [HK3.out, HC.out, need_snoc, HSL.out.2]
          case measure => simp [intOf]; omega
      · have q1 : (checkS (fewB xf) == 0) = false := by simp [hck]
        go_region_with (first
          | (go_at_call 8; refine FWD.out.mono ?_; rintro e w2 ⟨v2, rfl, ho2, hb2⟩; obtain ⟨va2, vm2, vc2, rfl⟩ := own_slice ho2; obtain ⟨he2, hr2, hn2⟩ := AFT.out w2 va2 vm2 vc2 ho2 hb2; have c2 := he2.wb.c0; clear ho2)
          | (go_at_call 7; refine (bSave_no w2 pb p bm N _ S T _ _ (fewB xf) he2.bl.bw hn2 hr2 HFO.out (by omega) (by have := he2.bl.sl; omega) hck).mono ?_; rintro e w3 ⟨rfl, h3, hb3⟩))
        all_goals
          have HE3 := Lib.hid (he2.new hb3)
          clear h3 hb3 he2 hr2 hn2 c2 HED FWD AFT HE d3 d3d c0 hb2
          generalize checkS (fewB xf) = ce at *
          clear hck
          go_wp2_with fail
          go_roundw
          case rel => exact ⟨i + 1, N, S, T, Ls, by omega, by omega, by go_num, ⟨HE3.out.bl.mono (by omega), HE3.out.wb, HE3.out.o6, HE3.out.o7, HE3.out.d6, HE3.out.d7, HE3.out.nn, HE3.out.nw, HE3.out.bmw, HE3.out.lo, HE3.out.bel⟩, HC.out⟩
          case measure => simp [intOf]; omega
    · have hx : ¬ (i : Int) < (xs.length : Int) ∨ (i : Int) < (xs.length : Int) ∧ ¬ (i : Int) < 12 := by omega
      have h14 : 14 * i ≤ 168 := by omega
      clear hlt hi hi12 HRX HIN
      have HE2 := Lib.hid (show EW w wr pw pb p bm pp N S T Ls (Ls.map (mkT S)) [] _ (.slice none 0 0) 168 from ⟨HE.out.bl.mono h14, HE.out.wb, HE.out.o6, HE.out.o7, HE.out.d6, HE.out.d7, HE.out.nn, HE.out.nw, HE.out.bmw, HE.out.lo, HE.out.bel⟩)
      clear HE h14
      obtain ⟨RL, hRL⟩ : ∃ x, x = Ls.map (mkT S) := ⟨_, rfl⟩
      rw [← hRL] at HE2
      obtain ⟨oa, oc, hv6, _⟩ := (OwnN.row encZB_ok HE2.out.o6).slice
      subst hv6
      have HRL := Lib.hid hRL.symm
      clear hRL
      rcases hx with j1 | ⟨j1, j2⟩
      all_goals
        go_wp2_with fail
        go_loopw [7, 11] (fun v7 v11 wr => ∃ (i : Nat) (N : Nat → Prop) (S : List Txt) (T : List Ent) (Pt : List Txt), i ≤ ts.length ∧ i ≤ 20 ∧ v11 = .int .i64 (i : Nat) ∧ EW w wr pw pb p bm pp N S T Ls RL (Pt.map (mkS S)) (.slice oa RL.length oc) v7 (168 + i) ∧ Ls.map (mkT S) = RL ∧ (∀ u, cntE S T u = (needS S Ls).count u + Pt.count u) ∧ (∀ s ∈ Pt, s ∈ S) ∧ Pt.length = i) (fun _ v11 _ => 20 - (intOf v11).toNat)
        case atStart => exact ⟨0, N, S, T, [], by omega, by omega, rfl, HE2.out, HRL.out, fun u => by rw [HC.out]; simp, fun s hs => (by cases hs), rfl⟩
        case round =>
          clear HE2 HC HRL
          obtain ⟨i, N, S, T, Pt, hi, hi20, rfl, hew, hrl, hcn, hpt, hpn⟩ := hrel
          have HE := Lib.hid hew
          have HC := Lib.hid hcn
          have HRL := Lib.hid hrl
          have HPT := Lib.hid hpt
          clear hew hcn hrl hpt
          have i0 : (0 : Int) ≤ (i : Int) := by omega
          by_cases hlt : i < ts.length ∧ i < 20
          · obtain ⟨hlt1, hlt2⟩ := hlt
            have j1 : (i : Int) < (ts.length : Int) := by omega
            have j2 : (i : Int) < 20 := by omega
            obtain ⟨g, o, c', hv, hn, hel⟩ := HRT.out.at hlt1
            injection hv with ea eb ec
            subst ea; subst ec
            clear eb
            have hel1 := hel.below HE.out.bel hn
            have hxl := HTL.out _ (List.getElem_mem hlt1)
            generalize ts[i] = x at *
            have d0 : wr.cell? ⟨g, o + i * 1 + 0, none⟩ = some (.string ⟨x.toArray⟩) := hel1 0 _ rfl
            rw [Nat.mul_one, Nat.add_zero] at d0
            clear hel hel1
            have hbd : Below wr.heap.size wr wr.drew := Below_drew (Below.refl _ _)
            have HED := Lib.hid (HE.out.new hbd)
            have c0 := HED.out.wb.c0
            have c0' := HE.out.wb.c0
            have d0d : wr.drew.cell? ⟨g, o + i, none⟩ = some (.string ⟨x.toArray⟩) := d0
            have hcl := cutT_len x
            have CT := Lib.hid (fun X => cutB_any x X hxl)
            obtain ⟨y, hy⟩ : ∃ y, y = cutT x := ⟨_, rfl⟩
            rw [← hy] at CT hcl
            clear hy hxl HE
            have HLV := HED.out.bl.live
            go_wp2_with fail
            go_region_with (first
              | (go_at_call 10; refine (CT.out _).mono ?_; rintro e w2 ⟨rfl, rfl⟩)
              | (go_at_call 9; refine (blPut_any _ pb p bm N S T Ls (168 + i) y HED.out.bl (by omega) (by omega)).mono ?_; rintro e w3 ⟨rfl, N3, T3, h3, t3, k3⟩))
            all_goals
              have HE3 := Lib.hid (HED.out.turn h3 t3)
              have HK3 := Lib.hid k3
              clear h3 t3 k3 HED c0 c0' d0 d0d
              have hml : (mkS S y).length = 32 := mkS_len S y
              have HRM := Lib.hid (show Pt.map (mkS S) ++ [mkS S y] = (Pt ++ [y]).map (mkS (markS S y)) by
                rw [List.map_append, List.map_congr_left (fun t ht => mkS_mark y (.inl (HPT.out t ht)))]
                show _ = _ ++ [mkS (markS S y) y]
                rw [mkS_mark y (.inr rfl)])
              have HNM := Lib.hid (show needS (markS S y) Ls = needS S Ls ∧ Ls.map (mkT (markS S y)) = RL from ⟨needS_mark y HLV, (roots_mark y HLV).trans HRL.out⟩)
              have HPL := Lib.hid (show (Pt.map (mkS S)).length = Pt.length from List.length_map ..)
              generalize mkS S y = rm at *
              generalize hpl : Pt.map (mkS S) = PL at *
              have hpl2 : PL.length ≤ 20 := by rw [HPL.out]; omega
              obtain ⟨oa7, om7, oc7, hv7⟩ := own_slice HE3.out.o7
              subst hv7
              go_wp2_with (at_builtin; go_loud (refine append_new (enc := encZB) (k := 1) (w := w3) (by rfl) (.tmp 72) (.tmp 74) 23 9 (.string ByteArray.empty) 16 (by rfl) Tryd.underlying23 info_strB (by rfl) (by decide) encZB_ok w.heap.size _ PL rm (by rfl) HE3.out.o7 (by rfl) (by omega) (by unfold maxLen; omega) HE3.out.bel.size _ (by rfl) ?_; intro v7 w7 hown7 ht7; have HE7 := Lib.hid (HE3.out.push7 hown7 ht7); clear hown7 ht7))
              go_roundw
              case rel =>
                refine ⟨i + 1, N3, markS S y, T3, Pt ++ [y], by omega, by omega, by go_num, ?_, HNM.out.2, fun u => ?_, fun t ht => ?_, by rw [List.length_append, hpn]; rfl⟩
                · rw [← HRM.out, show 168 + (i + 1) = 168 + i + 1 by omega]
                  exact HE7.out
                · rw [HK3.out, HC.out, HNM.out.1, List.count_append, List.count_singleton]
                  by_cases eu : u = y
                  · subst eu; simp <;> omega
                  · have hb : (y == u) = false := by rw [beq_eq_false_iff_ne]; exact fun c => eu c.symm
                    rw [if_neg eu, hb]; simp <;> omega
                · rcases List.mem_append.1 ht with c | c
                  · exact in_mark _ (HPT.out t c)
                  · rw [List.mem_singleton.1 c]; exact new_mark _ _
              case measure => simp [intOf]; omega
          · have hx : ¬ (i : Int) < (ts.length : Int) ∨ (i : Int) < (ts.length : Int) ∧ ¬ (i : Int) < 20 := by omega
            have h14 : 168 + i ≤ 188 := by omega
            have hpn2 : Pt.length ≤ 20 := by omega
            clear hlt hi hi20 hpn HRT HTL
            have HE2 := Lib.hid (show EW w wr pw pb p bm pp N S T Ls RL (Pt.map (mkS S)) (.slice oa RL.length oc) _ 188 from ⟨HE.out.bl.mono h14, HE.out.wb, HE.out.o6, HE.out.o7, HE.out.d6, HE.out.d7, HE.out.nn, HE.out.nw, HE.out.bmw, HE.out.lo, HE.out.bel⟩)
            clear HE h14
            have HPL := Lib.hid (show (Pt.map (mkS S)).length = Pt.length from List.length_map ..)
            obtain ⟨PL, hPL⟩ : ∃ x, x = Pt.map (mkS S) := ⟨_, rfl⟩
            rw [← hPL] at HE2 HPL
            obtain ⟨oa7, oc7, hv7, _⟩ := (OwnN.row encZB_ok HE2.out.o7).slice
            subst hv7
            have HML := Lib.hid hPL.symm
            clear hPL
            have hll : Ls.length ≤ 188 := HE2.out.bl.ll
            have HRN := Lib.hid (show RL.length = Ls.length by rw [← HRL.out, List.length_map])
            rcases hx with j1 | ⟨j1, j2⟩
            all_goals
              go_wp2_with fail
              go_loopw [14] (fun v14 wr => ∃ (k : Nat) (N : Nat → Prop) (T : List Ent) (Lc : List (List FileD)), k ≤ Ls.length ∧ v14 = .int .i64 ((k : Int) - 1) ∧ EW w wr pw pb p bm pp N S T Lc RL PL (.slice oa RL.length oc) (.slice oa7 PL.length oc7) 188 ∧ Lc.Perm (Ls.take k) ∧ (∀ u, cntE S T u = (needS S Lc).count u + Pt.count u)) (fun v14 _ => (intOf v14 + 1).toNat)
              case atStart =>
                have h9 := HRN.out
                have h8 : RL.length ≤ 188 := by omega
                refine ⟨Ls.length, N, T, Ls, Nat.le_refl _, ?_, HE2.out, by rw [List.take_length], HC.out⟩
                rw [← h9, IntWalk.wrap64_in _ (by omega)]
              case round =>
                clear HE2 HC
                obtain ⟨k, N, T, Lc, hk, rfl, hew, hpm, hcn⟩ := hrel
                have HE := Lib.hid hew
                have HC := Lib.hid hcn
                have HP := Lib.hid hpm
                clear hew hcn hpm
                by_cases hz : k = 0
                · subst hz
                  have e0 : Lc = [] := List.Perm.eq_nil (by simpa using HP.out)
                  subst e0
                  rw [show ((0 : Nat) : Int) - 1 = -1 from rfl]
                  go_wp2_with fail
                  go_loopw [15] (fun v15 wr => ∃ (i : Nat) (N : Nat → Prop) (T : List Ent), i ≤ Pt.length ∧ v15 = .int .i64 (i : Nat) ∧ EW w wr pw pb p bm pp N S T [] RL PL (.slice oa RL.length oc) (.slice oa7 PL.length oc7) 188 ∧ (∀ u, cntE S T u = (Pt.drop i).count u)) (fun v15 _ => Pt.length - (intOf v15).toNat)
                  case atStart => exact ⟨0, N, T, Nat.zero_le _, rfl, HE.out, fun u => by rw [HC.out]; simp [needS]⟩
                  case round =>
                    clear HE HC HP
                    obtain ⟨i, N, T, hi, rfl, hew, hcn⟩ := hrel
                    have HE := Lib.hid hew
                    have HC := Lib.hid hcn
                    clear hew hcn
                    by_cases hlt : i < Pt.length
                    · have j1 : (i : Int) < (PL.length : Int) := by rw [HPL.out]; omega
                      have hpl : i < PL.length := by rw [HPL.out]; exact hlt
                      have hel : PL[i] = mkS S Pt[i] := by
                        have := HML.out
                        subst this
                        rw [List.getElem_map]
                      have hdp : Pt.drop i = Pt[i] :: Pt.drop (i + 1) := by rw [List.drop_eq_getElem_cons hlt]
                      have hps := HPT.out _ (List.getElem_mem hlt)
                      generalize Pt[i] = x at *
                      have ht7 := (OwnN.row encZB_ok HE.out.o7).at hpl
                      obtain ⟨g, o, c', hv, hn, hx⟩ := ht7
                      injection hv with ea eb ec
                      subst ea; subst ec
                      clear eb
                      have d0 : wr.cell? ⟨g, o + i * 1 + 0, none⟩ = some (.string ⟨(PL[i]).toArray⟩) := hx 0 _ rfl
                      rw [Nat.mul_one, Nat.add_zero, hel] at d0
                      clear hx hn hel
                      have hbd : Below wr.heap.size wr wr.drew := Below_drew (Below.refl _ _)
                      have HED := Lib.hid (HE.out.new hbd)
                      have c0 := HE.out.wb.c0
                      have c0' := HED.out.wb.c0
                      have d0d : wr.drew.cell? ⟨g, o + i, none⟩ = some (.string ⟨(mkS S x).toArray⟩) := d0
                      have h1 : 1 ≤ cntE S T x := by rw [HC.out, hdp, List.count_cons_self]; omega
                      have DR := blDrop_any wr.drew pb p bm N S T [] 188 x HED.out.bl (by omega) hps (.inl (by simpa [needS] using h1))
                      rw [if_pos h1] at DR
                      have DR := Lib.hid DR
                      have HDP := Lib.hid hdp
                      clear hbd HE hps hdp h1
                      generalize mkS S x = mk at *
                      have i0 : (0 : Int) ≤ (i : Int) := by omega
                      go_wp2_with fail
                      go_region_with (go_at_call 12; refine DR.out.mono ?_; rintro e w3 ⟨rfl, N3, T3, h3, t3, k3⟩)
                      all_goals
                        have HE3 := Lib.hid (HED.out.turn h3 t3)
                        have HK3 := Lib.hid k3
                        clear h3 t3 k3 HED DR c0 c0' d0 d0d
                        go_wp2_with fail
                        go_roundw
                        case rel =>
                          refine ⟨i + 1, N3, T3, by omega, by go_num, HE3.out, fun u => ?_⟩
                          rw [HK3.out, HC.out, HDP.out, List.count_cons]
                          by_cases eu : u = x
                          · subst eu; simp
                          · have hb : (x == u) = false := by rw [beq_eq_false_iff_ne]; exact fun c => eu c.symm
                            rw [if_neg eu, hb]; simp
                        case measure => simp [intOf]; omega
                    · have j1 : ¬ (i : Int) < (PL.length : Int) := by rw [HPL.out]; omega
                      have hT := none_left HE.out.bl.bw.blob.tok HE.out.bl.ts (fun u => by rw [HC.out, List.drop_of_length_le (by omega)]; rfl)
                      subst hT
                      have c0 := HE.out.wb.c0
                      have hw0 := HE.out.bl.bw
                      have BC := Lib.hid (bCount_any wr pb p bm N S [] _ hw0)
                      have BB := Lib.hid (fun X (hb : BW X pb p bm N S [] (List.map (mkT S) [])) => bBytes_any X pb p bm N S [] _ hb (k := 188) HE.out.bl.tb (by omega))
                      have BR := Lib.hid (fun X (hb : BW X pb p bm N S [] (List.map (mkT S) [])) => bRoots_any X pb p bm N S [] _ hb (by simp))
                      clear hw0 hlt HC
                      go_wp2_with fail
                      refine BC.out.mono ?_
                      rintro e w2 ⟨rfl, rfl⟩
                      go_wp2_with fail
                      refine (BB.out _ HE.out.bl.bw).mono ?_
                      rintro e w2 ⟨rfl, hb2⟩
                      have HE3 := Lib.hid (HE.out.new hb2)
                      have c2 := HE3.out.wb.c0
                      clear hb2
                      go_wp2_with fail
                      refine (BR.out _ HE3.out.bl.bw).mono ?_
                      rintro e w3 ⟨v3, rfl, ho3, hb3⟩
                      obtain ⟨a3, c3, hv3, _⟩ := (OwnN.row encZB_ok ho3).slice
                      subst hv3
                      have HE4 := Lib.hid (HE3.out.new hb3)
                      have c4 := HE4.out.wb.c0
                      clear hb3 ho3
                      go_wp2_with fail
                      refine (blCheck_any w3 pb p bm N S [] [] 188 HE4.out.bl (by omega)).mono ?_
                      rintro e w5 ⟨rfl, hb5⟩
                      have HE5 := Lib.hid (HE4.out.new hb5)
                      clear hb5
                      go_wp2_with fail
                      refine (awake11_any _).mono ?_
                      rintro e w6 ⟨rfl, hb6⟩
                      have HB := Lib.hid (HE5.out.bel.trans (hb6.mono HE5.out.bel.size))
                      go_wp2_with fail
                      go_ret
                      exact ⟨rfl, HB.out⟩
                · obtain ⟨j, rfl⟩ : ∃ j, k = j + 1 := ⟨k - 1, by omega⟩
                  have ej : ((j + 1 : Nat) : Int) - 1 = (j : Int) := by omega
                  rw [ej]
                  have i0 : (0 : Int) ≤ (j : Int) := by omega
                  have hjl : j < Ls.length := by omega
                  have hjr : j < RL.length := by rw [HRN.out]; omega
                  have j1 : (j : Int) < (RL.length : Int) := by omega
                  have hlm : Ls[j] ∈ Lc := by rw [HP.out.mem_iff]; exact List.mem_take_iff_getElem.2 ⟨j, by omega, rfl⟩
                  have hel : RL[j] = mkT S Ls[j] := by
                    have := HRL.out
                    subst this
                    rw [List.getElem_map]
                  have htk : Ls.take (j + 1) = Ls.take j ++ [Ls[j]] := by rw [List.take_succ_eq_append_getElem hjl]
                  generalize Ls[j] = l at *
                  have ht6 := (OwnN.row encZB_ok HE.out.o6).at hjr
                  obtain ⟨g, o, c', hv, hn, hx⟩ := ht6
                  injection hv with ea eb ec
                  subst ea; subst ec
                  clear eb
                  have d0 : wr.cell? ⟨g, o + j * 1 + 0, none⟩ = some (.string ⟨(RL[j]).toArray⟩) := hx 0 _ rfl
                  rw [Nat.mul_one, Nat.add_zero, hel] at d0
                  clear hx hn
                  have c0 := HE.out.wb.c0
                  have hbd : Below wr.heap.size wr wr.drew := Below_drew (Below.refl _ _)
                  have HED := Lib.hid (HE.out.new hbd)
                  have c0' := HED.out.wb.c0
                  have d0d : wr.drew.cell? ⟨g, o + j, none⟩ = some (.string ⟨(mkT S l).toArray⟩) := d0
                  have FG := Lib.hid (blForget_any wr.drew pb p bm N S T Lc 188 l HED.out.bl (by omega) hlm)
                  have HTK := Lib.hid htk
                  have HLV := Lib.hid HED.out.bl.live
                  clear hbd HE hlm htk hel
                  obtain ⟨mk, hmk⟩ : ∃ m, m = mkT S l := ⟨_, rfl⟩
                  rw [← hmk] at FG d0 d0d
                  clear hmk
                  go_wp2_with fail
                  go_region_with (go_at_call 11; refine FG.out.mono ?_; rintro e w3 ⟨rfl, N3, T3, A, B, e1, e2, h3, t3, k3⟩)
                  all_goals
                    have HE3 := Lib.hid (HED.out.turn h3 t3)
                    have HK3 := Lib.hid k3
                    have HE1 := Lib.hid e1
                    clear h3 t3 k3 HED FG c0 c0' d0 d0d e1 e2
                    go_wp2_with fail
                    go_roundw
                    case rel =>
                      refine ⟨j, N3, T3, A ++ B, by omega, by go_num, HE3.out, ?_, fun u => ?_⟩
                      · have h1 := HP.out
                        rw [HE1.out, HTK.out] at h1
                        exact ((List.perm_middle.symm.trans h1).trans (List.perm_append_singleton _ _)).cons_inv
                      · rw [HK3.out, HC.out, HE1.out, need_split]
                        omega
                    case measure => simp [intOf]
end Go.Proofs.YtamiacmnobklaaaDoor

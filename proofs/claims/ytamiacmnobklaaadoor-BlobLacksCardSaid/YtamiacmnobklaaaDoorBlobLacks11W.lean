/- The walk of BlobLacks: a tree of which something was dropped is not loaded. -/
import Derived.Test.YtamiacmnobklaaaDoorArgTree
import Derived.Test.YtamiacmnobklaaaDoorArgs3
import Derived.Test.YtamiacmnobklaaaDoorBldShelf
import Derived.Test.YtamiacmnobklaaaDoorB1X
import Derived.Test.YtamiacmnobklaaaDoorLwX
import Derived.Test.YtamiacmnobklaaaDoorB2X
import Derived.Test.YtamiacmnobklaaaDoorBookW
import Derived.Test.YtamiacmnobklaaaDoorFtX
import Derived.Test.YtamiacmnobklaaaDoorFrame
import Derived.Test.YtamiacmnobklaaaDoorGen
import Derived.Test.YtamiacmnobklaaaDoorItX
import Derived.Test.YtamiacmnobklaaaDoorPtX
import Derived.Test.YtamiacmnobklaaaDoorMarkMath
import Derived.Test.YtamiacmnobklaaaDoorOwnL
import Derived.Test.YtamiacmnobklaaaDoorPthX
import Derived.Test.YtamiacmnobklaaaDoorProg
import Derived.Test.YtamiacmnobklaaaDoorReadItW
import Derived.Test.YtamiacmnobklaaaDoorCdX
import Derived.Test.YtamiacmnobklaaaDoorRowN
import Derived.Test.YtamiacmnobklaaaDoorRows
import Derived.Test.YtamiacmnobklaaaDoorShelf
import Derived.Test.YtamiacmnobklaaaDoorSoX
import Derived.Test.YtamiacmnobklaaaDoorSortMath
import Derived.Test.YtamiacmnobklaaaDoorText
import Derived.Test.YtamiacmnobklaaaDoorTreeMath
import Derived.BigQuiet
import Derived.BigRegion
import Derived.Deep.Cut
import Derived.Deep.CutBlock
import Derived.Deep.CutRange
import Derived.Deep.DeepCutAuto
import Derived.Deep.QuietTactic
import Derived.IntWalk
import Derived.Laws.BitsAllLaws
import Derived.Laws.Externs
import Derived.Laws.IdiomStrings
import Derived.Laws.OwnMore
import Derived.Laws.RangeAny
import Derived.Laws.Rows
import Derived.Laws.Tables
import Derived.Lib.AppendStr
import Derived.Lib.Builder
import Derived.Lib.Hide
import Derived.Lib.SlicesS
import Derived.Lib.Strings
import Derived.Lib.Walk
import Derived.LoopTactic
import Derived.Outline
import Derived.Shelf.Strings.SplitCore
import Derived.Sort.OwnSorted
import Derived.StillTail
import Derived.StillTailTactics
import Derived.WalkKit
import Derived.WalkLawsBesides
import Derived.WalkSpells
set_option linter.unusedVariables false
namespace Go.Proofs.YtamiacmnobklaaaDoor
open Go.RowKit

theorem RowN.inW {α : Type} {enc : α → List Value} {k : Nat} {N : Nat → Prop} {w : World} {v : Value} {xs : List α} (hE : EncN enc k) (hk : 0 < k) (h : RowN enc k N w v xs) : RowN enc k (fun g => N g ∧ g < w.heap.size) w v xs := by
  obtain ⟨a, c, rfl, hl, hc⟩ := h
  refine ⟨a, c, rfl, hl, fun i hi => ?_⟩
  obtain ⟨g, o, rfl, hn, hx⟩ := hc i hi
  refine ⟨g, o, rfl, ⟨hn, ?_⟩, hx⟩
  have hlen : 0 < (enc xs[i]).length := by rw [hE.len]; exact hk
  exact World.block_lt_of_cell? w _ (hx 0 _ (List.getElem?_eq_getElem hlen))
theorem lacks_load {S : List Txt} {T : List Ent} (hT : TOk T) (h : TS S T) (hS : S.length ≤ 1000000) {l : List FileD} (hl : LiveS S l) {x : FileD} (hx : x ∈ l) (hc : cntE S T x.data = 0) : loadE T (mkT S l) = ([], 8) := by
  unfold loadE
  by_cases c : 1 ≤ cntE S T (mfS S l)
  · rw [man_live h hS hl c]
    dsimp only
    rw [if_neg (by simp), if_neg (fun hall => ?_)]
    have := (key_iff hT (hl.dat x hx)).1 (hall (itB S x) (List.mem_map.2 ⟨x, hx, rfl⟩))
    omega
  · have hm : manE T (mkT S l) = ([], 8) := by
      unfold manE mkT
      rw [gotE_no (fun k => c ((key_iff hT hl.man).1 k))]
      rfl
    rw [hm]
    rfl
theorem lacks_check {S : List Txt} {T : List Ent} (hT : TOk T) (h : TS S T) (hS : S.length ≤ 1000000) {l : List FileD} (hl : LiveS S l) {x : FileD} (hx : x ∈ l) (hc : cntE S T x.data = 0) : checkE T [mkT S l] = false := by
  unfold checkE
  by_cases c : 1 ≤ cntE S T (mfS S l)
  · have hm := man_live h hS hl c
    have hin : mkS S x.data ∈ leadL T [mkT S l] := by
      unfold leadL
      rw [List.flatMap_cons, hm]
      dsimp only
      rw [items_marks]
      simp only [List.cons_append, List.mem_cons, List.mem_append]
      exact .inr (.inl (List.mem_map.2 ⟨x.data, List.mem_map.2 ⟨x, hx, rfl⟩, rfl⟩))
    rw [Bool.and_eq_false_iff]
    right
    refine decide_eq_false (fun hall => ?_)
    have h1 := hall _ hin
    have h2 := List.one_le_count_iff.2 hin
    rw [← cnt_in (hl.dat x hx), hc] at h1
    omega
  · have hm : manE T (mkT S l) = ([], 8) := by
      unfold manE mkT
      rw [gotE_no (fun k => c ((key_iff hT hl.man).1 k))]
      rfl
    rw [Bool.and_eq_false_iff]
    left
    refine decide_eq_false (fun hall => ?_)
    have := hall _ (List.mem_singleton.2 rfl)
    rw [hm] at this
    cases this

set_option maxRecDepth 100000 in
set_option maxHeartbeats 2000000 in
theorem blobLacks_walk (v : Value) (which : Int) (h0 : -9223372036854775808 ≤ which) (h1 : which ≤ 9223372036854775807) (w : World) (h : FsIn w v) :
    Calls Tryd.prog 5 #[v, .int .i64 which] w fun e w' => e = .returned (.bool true) ∧ Below w.heap.size w w' := by
  obtain ⟨xs, hrow0, hok, hlen⟩ := h
  have FW := Lib.hid (fewB_any v xs w hrow0 hok (by omega))
  have HOK := Lib.hid (fewB_ok hok)
  have hyl := fewB_len xs
  clear hrow0 hok hlen
  generalize fewB xs = ys at *
  go_enter Tryd.func5, Tryd.ntmps5
  go_wp2_with fail
  refine FW.out.mono ?_
  rintro e w1 ⟨v1, rfl, hown, hb1⟩
  have HR1 := Lib.hid (RowN.inW encF_ok (by decide) (OwnN.row encF_ok hown))
  obtain ⟨oa, om, oc, hv1⟩ := own_slice hown
  have hom := own_lenV hown
  subst hv1
  have hom' : om = ys.length := hom
  subst hom'
  have HB1 := Lib.hid hb1
  have hs1 := hb1.size
  clear hown hb1 FW hom
  go_wp2_with fail
  refine (fresh_any _).mono ?_
  rintro e w2 ⟨pw, pb, p, bm, pp, N, rfl, hf⟩
  have c0 := hf.wb.c0
  have HF := Lib.hid hf
  have HB2 := Lib.hid (HB1.out.trans (hf.bel.mono hs1))
  have HR2 := Lib.hid (HR1.out.keep hf.bel)
  have hNF : ∀ g, (w.heap.size ≤ g ∧ g < w1.heap.size) → ¬ N g ∧ g ≠ bm := fun g hg => ⟨fun c => by have := hf.nn g c; omega, fun e => by have := hf.lo.1; omega⟩
  have HNF := Lib.hid hNF
  clear hf HR1 hNF
  by_cases hc : checkS ys = 0
  · have SV := Lib.hid (blSave_any w2 pb p bm N _ [] [] [] 0 _ ys HF.out.bl (by omega) HNF.out HR2.out hyl hc)
    have HLV := Lib.hid (saveS_live [] hc hyl).1
    generalize saveS [] ys = S at *
    go_wp2_with fail
    refine SV.out.mono ?_
    rintro e w3 ⟨rfl, N3, T3, h3, t3, k3⟩
    have HR3 := Lib.hid (HR2.out.kept t3.kp (fun g hg c => by rcases c with c | c; exact (HNF.out g hg).1 c; exact (HNF.out g hg).2 c))
    have hlo := HF.out.lo
    have HB3 := Lib.hid (HB2.out.trans (t3.below HB2.out.size (fun k hk => Nat.le_trans hs1 (HF.out.nn k hk)) (Nat.le_trans hs1 hlo.1)))
    have HW3 := Lib.hid (show WBox w3 pw pb p pp from t3.kp.old HF.out.wb (fun c => by rcases c with c | c; exact HF.out.nw c; exact HF.out.bmw c.symm))
    have HNN3 := Lib.hid (t3.from HF.out.bel.size HF.out.nn)
    have HNW3 := Lib.hid (t3.off HF.out.nw (Array.getElem?_eq_some_iff.1 HF.out.wb).1)
    have HBMW := Lib.hid HF.out.bmw
    have H3 := Lib.hid h3
    have HC3 := Lib.hid k3
    clear h3 t3 k3 SV HR2 c0 HF
    by_cases hw : which < 0 ∨ (ys.length : Int) ≤ which
    · have hcs : which < 0 ∨ (¬ which < 0 ∧ (ys.length : Int) ≤ which) := by omega
      clear hw
      rcases hcs with q1 | ⟨q1, q2⟩
      all_goals
        go_wp2_with fail
        refine (awake11_any _).mono ?_
        rintro e w4 ⟨rfl, hb4⟩
        go_wp2_with fail
        go_ret
        exact ⟨rfl, HB3.out.trans (hb4.mono HB3.out.size)⟩
    · have q1 : ¬ which < 0 := fun c => hw (.inl c)
      have q2 : ¬ (ys.length : Int) ≤ which := fun c => hw (.inr c)
      clear hw
      obtain ⟨i, hi⟩ : ∃ i : Nat, which = (i : Int) := ⟨which.toNat, by omega⟩
      subst hi
      have hlt : i < ys.length := by omega
      have hii : (i : Int) < (ys.length : Int) := by omega
      have hi0 : (0 : Int) ≤ (i : Int) := by omega
      obtain ⟨g, o, c', hv, hn, hel⟩ := HR3.out.at hlt
      injection hv with ea eb ec
      subst ea; subst ec
      clear eb
      have d2 := hel 2 _ rfl
      have hxm := List.getElem_mem hlt
      have HXM := Lib.hid hxm
      have hdl := (HOK.out _ hxm).d
      have HDS := Lib.hid (HLV.out.dat _ hxm)
      clear hel hxm
      have c1 := HW3.out.c1
      have hbd : Below w3.heap.size w3 w3.drew := Below_drew (Below.refl _ _)
      have H3D := Lib.hid (H3.out.new hbd)
      have HB3D := Lib.hid (HB3.out.trans (hbd.mono HB3.out.size))
      have HW3D := Lib.hid (show WBox w3.drew pw pb p pp from (Kept.new hbd (fun _ => False)).old HW3.out id)
      clear hbd HR3 HNF H3 HW3 HB3 HOK
      go_wp2_with fail
      go_still_tail 9, (by kernel_rfl)
      change wpList _ _ _ _ _ w3.drew
      generalize hdt : ys[i].data = dt at *
      have HDT := Lib.hid hdt
      clear d2 c1 hdt
      obtain ⟨w4, hw4⟩ : ∃ w4, w4 = w3.drew := ⟨_, rfl⟩
      rw [← hw4] at H3D HB3D HW3D ⊢
      clear hw4
      have MK := Lib.hid (blMark_any w4 pb p bm N3 S T3 [ys] 14 dt H3D.out (by omega) (by omega))
      have hSS : markS S dt = S := markS_in HDS.out
      rw [hSS] at MK
      go_wp2_with fail
      refine MK.out.mono ?_
      rintro e w5 ⟨rfl, h5, t5, k5⟩
      have HW5 := Lib.hid (show WBox w5 pw pb p pp from t5.kp.old HW3D.out (fun c => by rcases c with c | c; exact HNW3.out c; exact HBMW.out c.symm))
      have HB5 := Lib.hid (HB3D.out.trans (t5.below HB3D.out.size (fun k hk => Nat.le_trans hs1 (HNN3.out k hk)) (Nat.le_trans hs1 hlo.1)))
      have HX5 := Lib.hid h5.bw
      have HTS := Lib.hid h5.ts
      have HTB := Lib.hid h5.tb
      have hSL := h5.sl
      have RF5 := Lib.hid (blRefs_any w5 pb p bm N3 S T3 [ys] 15 dt h5 HDS.out)
      clear h5 t5 k5 MK H3D HB3D HW3D hSS
      have hn15 := HTB.out.refs (mkS S dt)
      rw [← cnt_in HDS.out] at hn15
      have HMT := Lib.hid (show [ys].map (mkT S) = [mkT S ys] from rfl)
      rw [HMT.out] at HX5
      obtain ⟨mk, hmk⟩ : ∃ mk, mk = mkS S dt := ⟨_, rfl⟩
      have HMK := Lib.hid hmk
      rw [← hmk] at RF5 ⊢
      have hml : mk.length = 32 := by rw [hmk]; exact mkS_len _ _
      clear hmk
      obtain ⟨rm, hrm⟩ : ∃ rm, rm = mkT S ys := ⟨_, rfl⟩
      have HRM := Lib.hid hrm
      rw [← hrm] at HX5 ⊢
      have hrl : rm.length = 32 := by rw [hrm]; exact mkS_len _ _
      clear hrm HMT
      have c0 := HW5.out.c0
      go_wp2_with fail
      refine RF5.out.mono ?_
      rintro e w' ⟨rfl, rfl⟩
      clear c0 RF5
      go_wp2_with fail
      go_loopw [9] (fun v9 wr => ∃ (n : Nat) (N' : Nat → Prop) (T' : List Ent), n ≤ 15 ∧ v9 = .int .i64 (n : Nat) ∧ BW wr pb p bm N' S T' [rm] ∧ TS S T' ∧ TB 15 T' ∧ cntE S T' dt = n ∧ WBox wr pw pb p pp ∧ (∀ k, N' k → w1.heap.size ≤ k) ∧ ¬ N' pw ∧ Below w.heap.size w wr) (fun v9 _ => (intOf v9).toNat)
      case atStart => exact ⟨_, N3, T3, hn15, rfl, HX5.out, HTS.out, HTB.out, rfl, HW5.out, HNN3.out, HNW3.out, HB5.out⟩
      case round =>
        clear HX5 HTS HTB HW5 HB5 HNN3 HNW3 hn15 HC3
        obtain ⟨n, N', T', hn15, rfl, hbw, hts, htb, hcn, hwb, hnn, hnw, hbel⟩ := hrel
        have HX := Lib.hid hbw
        have HTS := Lib.hid hts
        have HTB := Lib.hid htb
        have HCN := Lib.hid hcn
        have HW := Lib.hid hwb
        have HNN := Lib.hid hnn
        have HNW := Lib.hid hnw
        have HB := Lib.hid hbel
        clear hbw hts htb hcn hwb hnn hnw hbel
        have c0 := HW.out.c0
        by_cases hpos : 0 < n
        · have j1 : (0 : Int) < (n : Int) := by omega
          have j2 : (n : Int) < 100 := by omega
          have hin : mk ∈ keysE T' := by rw [HMK.out]; exact (key_iff HX.out.blob.tok HDS.out).2 (by rw [HCN.out]; exact hpos)
          have DR := Lib.hid (bDrop_any wr pb p bm N' S T' [rm] mk HX.out (by omega) HTB.out (by omega))
          rw [if_pos hin] at DR
          clear hin
          go_wp2_with fail
          refine DR.out.mono ?_
          rintro e w7 ⟨rfl, N7, h7, t7⟩
          have HW7 := Lib.hid (show WBox w7 pw pb p pp from t7.kp.old HW.out (fun c => by rcases c with c | c; exact HNW.out c; exact HBMW.out c.symm))
          have HB7 := Lib.hid (HB.out.trans (t7.below HB.out.size (fun k hk => Nat.le_trans hs1 (HNN.out k hk)) (Nat.le_trans hs1 hlo.1)))
          have HN7 := Lib.hid (show ∀ k, N7 k → w1.heap.size ≤ k from fun k hk => by
            rcases t7.mov k hk with c | c
            · exact HNN.out k c
            · have := HX.out.id.lt.2; omega)
          have HO7 := Lib.hid (t7.off HNW.out (Array.getElem?_eq_some_iff.1 HW.out).1)
          have HCD := Lib.hid (show cntE S (dropE T' mk) dt = n - 1 by rw [HMK.out, cnt_drop (by omega) HDS.out, HCN.out, if_pos rfl])
          have HX7 := Lib.hid h7
          have HT7 := Lib.hid (HTS.out.drop mk)
          have HK7 := Lib.hid (HTB.out.drop mk)
          have RF := Lib.hid (bRefs_any w7 pb p bm N7 S _ [rm] mk h7 (by omega))
          have HRE := Lib.hid (show refsE (dropE T' mk) mk = n - 1 by
            have := HCD.out
            rwa [cnt_in HDS.out, ← HMK.out] at this)
          rw [HRE.out] at RF
          have c7 := HW7.out.c0
          clear h7 t7 DR HX HTS HTB HW HNN HNW HB HCN c0
          go_wp2_with fail
          refine RF.out.mono ?_
          rintro e w8 ⟨rfl, rfl⟩
          go_wp2_with fail
          go_roundw
          case rel => exact ⟨n - 1, N7, _, by omega, rfl, HX7.out, HT7.out, HK7.out, HCD.out, HW7.out, HN7.out, HO7.out, HB7.out⟩
          case measure => simp [intOf]; omega
        · obtain rfl : n = 0 := by omega
          have LD := Lib.hid (bLoad_any wr pb p bm N' S T' [rm] rm HX.out (by omega))
          have CK := Lib.hid (fun w' (hb : Below wr.heap.size wr w') => bCheck_any w' pb p bm N' S T' [rm] (HX.out.new hb) (by simp))
          have hz : cntE S T' ys[i].data = 0 := by rw [HDT.out]; exact HCN.out
          have E1 := lacks_load HX.out.blob.tok HTS.out (by omega) HLV.out HXM.out hz
          have E2 := lacks_check HX.out.blob.tok HTS.out (by omega) HLV.out HXM.out hz
          rw [← HRM.out] at E1 E2
          rw [E1] at LD
          rw [E2] at CK
          clear E1 E2 hz
          go_wp2_with fail
          refine LD.out.mono ?_
          rintro e w7 ⟨v7, rfl, hr7, hb7⟩
          obtain ⟨ra, rc, hv7, _⟩ := hr7.slice
          subst hv7
          have CK7 := Lib.hid (CK.out w7 hb7)
          have hw7 : WBox w7 pw pb p pp := (Kept.new hb7 (fun _ => False)).old HW.out id
          have c7 := hw7.c0
          have HB7 := Lib.hid (HB.out.trans (hb7.mono HB.out.size))
          clear hr7 hb7 hw7 CK LD c0
          go_wp2_with fail
          refine CK7.out.mono ?_
          rintro e w8 ⟨rfl, hb8⟩
          have HB8 := Lib.hid (HB7.out.trans (hb8.mono HB7.out.size))
          go_wp2_with fail
          refine (awake11_any _).mono ?_
          rintro e w9 ⟨rfl, hb9⟩
          go_wp2_with fail
          go_ret
          exact ⟨rfl, HB8.out.trans (hb9.mono HB8.out.size)⟩
  · have SV := Lib.hid (bSave_no w2 pb p bm N _ [] [] [] _ ys HF.out.bl.bw HNF.out HR2.out HOK.out (by omega) (by simp) hc)
    have q1 : (checkS ys != 0) = true := by simp [hc]
    generalize checkS ys = ce at *
    clear hc
    go_wp2_with fail
    refine SV.out.mono ?_
    rintro e w3 ⟨rfl, h3, hb3⟩
    have HB3 := Lib.hid (HB2.out.trans (hb3.mono HB2.out.size))
    clear h3 hb3
    go_wp2_with fail
    refine (awake11_any _).mono ?_
    rintro e w4 ⟨rfl, hb4⟩
    go_wp2_with fail
    go_ret
    exact ⟨rfl, HB3.out.trans (hb4.mono HB3.out.size)⟩
end Go.Proofs.YtamiacmnobklaaaDoor

/- Stage 11's laws: world.save. -/
import Derived.Test.YtamiacmnobklaaaGreatDoorArX
import Derived.Test.YtamiacmnobklaaaGreatDoorBldShelf
import Derived.Test.YtamiacmnobklaaaGreatDoorP2X
import Derived.Test.YtamiacmnobklaaaGreatDoorB1X
import Derived.Test.YtamiacmnobklaaaGreatDoorLwX
import Derived.Test.YtamiacmnobklaaaGreatDoorP1X
import Derived.Test.YtamiacmnobklaaaGreatDoorB2X
import Derived.Test.YtamiacmnobklaaaGreatDoorBookW
import Derived.Test.YtamiacmnobklaaaGreatDoorFtX
import Derived.Test.YtamiacmnobklaaaGreatDoorFrame
import Derived.Test.YtamiacmnobklaaaGreatDoorGen
import Derived.Test.YtamiacmnobklaaaGreatDoorItX
import Derived.Test.YtamiacmnobklaaaGreatDoorMarkMath
import Derived.Test.YtamiacmnobklaaaGreatDoorOwnL
import Derived.Test.YtamiacmnobklaaaGreatDoorProg
import Derived.Test.YtamiacmnobklaaaGreatDoorRiX
import Derived.Test.YtamiacmnobklaaaGreatDoorCdX
import Derived.Test.YtamiacmnobklaaaGreatDoorRfX
import Derived.Test.YtamiacmnobklaaaGreatDoorRefNumW
import Derived.Test.YtamiacmnobklaaaGreatDoorRefOfTW
import Derived.Test.YtamiacmnobklaaaGreatDoorRefReadW
import Derived.Test.YtamiacmnobklaaaGreatDoorRowN
import Derived.Test.YtamiacmnobklaaaGreatDoorRows
import Derived.Test.YtamiacmnobklaaaGreatDoorShelf
import Derived.Test.YtamiacmnobklaaaGreatDoorSoX
import Derived.Test.YtamiacmnobklaaaGreatDoorTmX
import Derived.Test.YtamiacmnobklaaaGreatDoorTreeMath
import Derived.BigQuiet
import Derived.BigRegion
import Derived.Deep.Cut
import Derived.Deep.CutRange
import Derived.Deep.DeepCutAuto
import Derived.Deep.QuietTactic
import Derived.Deep.RegionHeld
import Derived.Deep.RegionHeld3
import Derived.IntWalk
import Derived.Laws.BitsAllLaws
import Derived.Laws.Externs
import Derived.Laws.IdiomStrings
import Derived.Laws.OwnMore
import Derived.Laws.RangeAny
import Derived.Laws.Rows
import Derived.Laws.Tables
import Derived.Lib.AppendStr
import Derived.Lib.Builder
import Derived.Lib.Hide
import Derived.Lib.SlicesS
import Derived.Lib.Strings
import Derived.Lib.Walk
import Derived.LoopIn
import Derived.LoopNIn
import Derived.LoopTactic
import Derived.Outline
import Derived.OwnWalkIn
import Derived.RangeFuncBound
import Derived.RangeFuncCalls
import Derived.RangeFuncLeaves
import Derived.RangeFuncNested
import Derived.Shelf.Abstract
import Derived.Shelf.RegionOpen
import Derived.Shelf.Strings.SplitCore
import Derived.Sort.OwnSorted
import Derived.StillTail
import Derived.TacticsInMore
import Derived.WalkKit
import Derived.WalkLawsBesides
import Derived.WalkSpells
set_option linter.unusedVariables false
namespace Go.Proofs.YtamiacmnobklaaaGreatDoor
open Go.RowKit

/-- What stands between two calls. -/
structure Stand (S : List Txt) (T : List Ent) (Lc : List (List FileD)) (P : List (Txt × Int)) (Rs : List RootD) (J : Int) : Prop where
  rel : Rel P S T
  inj : InJ J P
  nd : (P.map (·.1)).Nodup
  ln : ∀ u ∈ P.map (·.1), u.length ≤ 65536
  lv : liveR Rs = Lc
set_option maxRecDepth 100000 in
set_option maxHeartbeats 8000000 in
theorem save11_any (w0 w : World) (pw pb p bm pp : Nat) (N F : Nat → Prop) (S : List Txt) (T : List Ent) (Lc : List (List FileD)) (P : List (Txt × Int)) (Rs : List RootD) (vt vr : Value) (K : Nat) (J : Int) (o : OpB) (NF : Nat → Prop) (h : PW w0 w pw pb p bm pp N F S T Lc P Rs vt vr K) (hst : Stand S T Lc P Rs J) (hJ : 0 ≤ J ∧ J ≤ 100000) (hK : K ≤ 40000) (hP : P.length ≤ 40000) (hR : Rs.length ≤ 40000) (hrow : RowN encF 3 NF w o.fv o.files) (hok : ∀ x ∈ o.files, FileOk x) (hlen : o.files.length ≤ 140737488351232) :
    Calls Tryz.prog 35 #[.pointer (some ⟨pw, 0, none⟩), o.agg] w fun e w' => e = .returned (.bool true) ∧ ∃ N' F' S' T' Lc' P' Rs' vt' vr', PW w0 w' pw pb p bm pp N' F' S' T' Lc' P' Rs' vt' vr' (K + 14) ∧ Stand S' T' Lc' P' Rs' (J + 13) ∧ Rs'.length ≤ Rs.length + 1 ∧ P'.length ≤ P.length + 13 := by
  obtain ⟨ok, on, ot, oa, oc, of⟩ := o
  unfold OpB.agg
  dsimp only [OpB.fv] at hrow hok hlen ⊢
  go_enter Tryz.func35, Tryz.ntmps35
  have hbA : Below w.heap.size w (w.alloc (.cells #[.int .i64 ok, .int .i64 on, .string ⟨ot.toArray⟩, .slice oa of.length oc] 28)) := (Below.refl _ w).alloc (Nat.le_refl _) _
  have hbx := heap_alloc_new w (.cells #[.int .i64 ok, .int .i64 on, .string ⟨ot.toArray⟩, .slice oa of.length oc] 28)
  have HE := Lib.hid (h.new hbA)
  have HST := Lib.hid hst
  have FW := Lib.hid (fewB_any (.slice oa of.length oc) of _ (hrow.keep hbA) hok (by omega))
  have HFO := Lib.hid (fewB_ok hok)
  have hyl := fewB_len of
  generalize hyf : fewB of = yf at *
  clear h hbA hst hrow hok hlen hyf hbx
  go_wp2_with fail
  generalize w.alloc (.cells #[.int .i64 ok, .int .i64 on, .string ⟨ot.toArray⟩, .slice oa of.length oc] 28) = wA at *
  refine FW.out.mono ?_
  rintro e w2 ⟨v2, rfl, ho2, hb2⟩
  obtain ⟨hr2, hF2, he2⟩ := HE.out.fewRow hb2 ho2
  obtain ⟨ya, yc, hv2, _⟩ := hr2.slice
  subst hv2
  have HR2 := Lib.hid hr2
  have HF2 := Lib.hid hF2
  have HE2 := Lib.hid (he2.addF hF2)
  have c0 := HE2.out.wb.c0
  clear hr2 hF2 he2 ho2 hb2 FW HE
  by_cases hck : checkS yf = 0
  · have SV := Lib.hid (blSave_any w2 pb p bm N _ S T Lc K _ yf HE2.out.bl (by omega) (fun g hg => ⟨(HF2.out g hg).n, (HF2.out g hg).bm⟩) HR2.out hyl hck)
    have HLV := Lib.hid (saveS_live S hck hyl).1
    have MKS := Lib.hid (HE2.out.mks_save yf)
    go_wp2_with fail
    refine SV.out.mono ?_
    rintro e w3 ⟨rfl, N3, T3, h3, t3, k3⟩
    have HE3 := Lib.hid (HE2.out.turn h3 t3 MKS.out)
    have HK3 := Lib.hid k3
    have HR3 := Lib.hid (HR2.out.kept t3.kp (fun g hg c => by rcases c with c | c; exact (HF2.out g hg).n c; exact (HF2.out g hg).bm c))
    have hrml : (mkT (saveS S yf) yf).length = 32 := mkS_len _ _
    obtain ⟨rm2, hrm2⟩ : ∃ rm2, rm2 = mkT (saveS S yf) yf := ⟨_, rfl⟩
    rw [← hrm2] at hrml ⊢
    have HRM := Lib.hid hrm2
    generalize saveS S yf = S2 at *
    have RC := Lib.hid (refCheck_any (.slice ya yf.length yc) yf w3 (HR3.out.mono (fun _ _ => trivial)) HFO.out (by omega))
    rw [hck] at RC
    clear SV h3 t3 k3 hrm2 c0 HE2 HR2
    go_wp2_with fail
    refine RC.out.mono ?_
    rintro e w4 ⟨rfl, hb4⟩
    have HE4 := Lib.hid (HE3.out.new hb4)
    have HR4 := Lib.hid (HR3.out.keep hb4)
    clear hb4 RC HE3 HR3
    go_wp2_with fail
    go_loopw [9] (fun v9 wr => ∃ (i : Nat) (vt' : Value), i ≤ yf.length ∧ v9 = .int .i64 (i : Nat) ∧ PW w0 wr pw pb p bm pp N3 (fun g => F g ∨ (wA.heap.size ≤ g ∧ g < w2.heap.size)) S2 T3 (Lc ++ [yf]) (addAllL P (yf.take i) 1) Rs vt' vr (K + 14) ∧ RowN encF 3 (fun g => wA.heap.size ≤ g ∧ g < w2.heap.size) wr (.slice ya yf.length yc) yf) (fun v9 _ => yf.length - (intOf v9).toNat)
    case atStart => exact ⟨0, vt, Nat.zero_le _, rfl, HE4.out, HR4.out⟩
    case round =>
      clear HE4 HR4
      obtain ⟨i, vt', hi, rfl, hew, hro⟩ := hrel
      have HE := Lib.hid hew
      have HRO := Lib.hid hro
      clear hew hro
      have i0 : (0 : Int) ≤ (i : Int) := by omega
      have hpl := addAllL_len 1 (yf.take i) P
      have htl : (yf.take i).length ≤ 12 := by rw [List.length_take]; omega
      by_cases hlt : i < yf.length
      · have j1 : (i : Int) < (yf.length : Int) := by omega
        obtain ⟨g, o, c', hv, hn, hel⟩ := HRO.out.at hlt
        injection hv with ea eb ec
        subst ea; subst ec
        clear eb
        have HIJ := Lib.hid (InJ.addAll (n := 1) (by omega) (yf.take i) HST.out.inj hJ.1)
        have HSN := Lib.hid (show addAllL P (yf.take (i + 1)) 1 = addL (addAllL P (yf.take i) 1) yf[i].data 1 from by rw [List.take_succ_eq_append_getElem hlt, addAllL_snoc])
        generalize yf[i] = x at *
        obtain ⟨xp, xm, xd⟩ := x
        have f2 := hel 2 _ rfl
        dsimp only at f2 HSN
        have HOF := Lib.hid (HE.out.ff g (.inr hn))
        have c2 := HE.out.wb.c2
        have HED := Lib.hid (HE.out.new (Below_drew (Below.refl _ _)))
        generalize addAllL P (yf.take i) 1 = Q at *
        have AD := Lib.hid (pAdd_any w0 wr.drew pw pb p bm pp N3 _ S2 T3 (Lc ++ [yf]) Q Rs vt' vr (K + 14) xd 1 HED.out (by omega) (by omega) (HIJ.out.wide (by omega)))
        have f2d : wr.drew.cell? ⟨g, o + i * 3 + 2, none⟩ = some (.string ⟨xd.toArray⟩) := f2
        have HF2D := Lib.hid f2d
        have HROD := Lib.hid (HRO.out.keep (Below_drew (Below.refl _ _)))
        have HFF := Lib.hid (fun g' (hg : wA.heap.size ≤ g' ∧ g' < w2.heap.size) => HED.out.ff g' (.inr hg))
        clear hel f2d hn
        go_wp2_with fail
        go_region_held3 (fun w' => w'.cell? ⟨pw, 2, none⟩ = some (.pointer (some ⟨pp, 0, none⟩)) ∧ w'.cell? ⟨g, o + i * 3 + 2, none⟩ = some (.string ⟨xd.toArray⟩))
          (first | with_reducible exact ⟨by assumption, by assumption⟩ | go_keep)
          (first
            | (go_at_call 58; go_split_ands; refine AD.out.mono ?_; rintro e w5 ⟨rfl, vt5, h5, k5⟩; have HE5 := Lib.hid h5; have c25 := HE5.out.wb.c2; have f25 := (World.cell?_of_block (w := wr.drew) (k5.block g (World.block_lt_of_cell? _ _ HF2D.out) (fun c => by rcases c with c | c; exact HOF.out.t c; exact HOF.out.pp c))).trans HF2D.out; have HRO5 := Lib.hid (HROD.out.kept k5 (fun g' hg c => by rcases c with c | c; exact (HFF.out g' hg).t c; exact (HFF.out g' hg).pp c)); clear h5 k5))
        go_split_ands
        go_wp2_with fail
        go_roundw
        case rel => exact ⟨i + 1, vt5, hlt, by go_num, by rw [HSN.out]; exact HE5.out, HRO5.out⟩
        case measure => simp [intOf]; omega
      · have j1 : ¬ (i : Int) < (yf.length : Int) := by omega
        rw [List.take_of_length_le (by omega)] at HE hpl
        have HIJ := Lib.hid (InJ.addAll (n := 1) (by omega) yf HST.out.inj hJ.1)
        have HED := Lib.hid (HE.out.new (Below_drew (Below.refl _ _)))
        have c2 := HE.out.wb.c2
        have hc1 : 1 ≤ cntE S2 T3 (mfS S2 yf) := Nat.le_trans (List.one_le_count_iff.2 (needS_in (S := S2) (Ls := Lc ++ [yf]) (l := yf) (by simp) (by simp [occS]))) (HE.out.bl.need _)
        have MT := Lib.hid (fun X (hX : PW w0 X pw pb p bm pp N3 (fun g => F g ∨ (wA.heap.size ≤ g ∧ g < w2.heap.size)) S2 T3 (Lc ++ [yf]) (addAllL P yf 1) Rs vt' vr (K + 14)) => manifest11_any X pw pb p bm pp N3 S2 T3 (Lc ++ [yf]) (K + 14) yf hX.wb hX.bl (by omega) HLV.out)
        have MT2 := Lib.hid (fun X (hw : WBox X pw pb p pp) (hX : BL X pb p bm N3 S2 T3 (Lc ++ [yf]) (K + 14)) => manifest11_any X pw pb p bm pp N3 S2 T3 (Lc ++ [yf]) (K + 14) yf hw hX (by omega) HLV.out)
        rw [if_pos hc1, ← HRM.out] at MT MT2
        have hml := mf_len S2 hck (by omega)
        have HBK := Lib.hid (mf_back S2 hck)
        have HIS := Lib.hid (isS_self S2 (mfS S2 yf) HLV.out.man)
        rw [show mkS S2 (mfS S2 yf) = rm2 from HRM.out.symm] at HIS
        obtain ⟨mf, hmf⟩ : ∃ mf, mf = mfS S2 yf := ⟨_, rfl⟩
        rw [← hmf] at MT MT2 hml HBK HIS
        have HMF := Lib.hid hmf
        clear hmf hc1
        have AD := Lib.hid (fun X (hX : PW w0 X pw pb p bm pp N3 (fun g => F g ∨ (wA.heap.size ≤ g ∧ g < w2.heap.size)) S2 T3 (Lc ++ [yf]) (addAllL P yf 1) Rs vt' vr (K + 14)) => pAdd_any w0 X pw pb p bm pp N3 _ S2 T3 (Lc ++ [yf]) (addAllL P yf 1) Rs vt' vr (K + 14) mf 1 hX (by omega) (by omega) (HIJ.out.wide (by omega)))
        have HFF := Lib.hid (fun g' (hg : wA.heap.size ≤ g' ∧ g' < w2.heap.size) => HED.out.ff g' (.inr hg))
        have HROD := Lib.hid (HRO.out.keep (Below_drew (Below.refl _ _)))
        clear HE HRO
        go_wp2_with fail
        go_region_held3 (fun w' => w'.cell? ⟨pw, 2, none⟩ = some (.pointer (some ⟨pp, 0, none⟩)))
          (first | assumption | go_keep)
          (first
            | (go_at_call 44; refine (MT.out _ HED.out).mono ?_; rintro e w5 ⟨g5, hg5, rfl, hb5⟩; rw [hg5]; have HE5 := Lib.hid (HED.out.new hb5); have c25 := HE5.out.wb.c2; have HRO5 := Lib.hid (HROD.out.keep hb5); clear hb5 hg5 g5)
            | (go_at_call 58; refine (AD.out _ HE5.out).mono ?_; rintro e w6 ⟨rfl, vt6, h6, k6⟩; have HE6 := Lib.hid h6; have c26 := HE6.out.wb.c2; have HRO6 := Lib.hid (HRO5.out.kept k6 (fun g' hg c => by rcases c with c | c; exact (HFF.out g' hg).t c; exact (HFF.out g' hg).pp c)); clear h6 k6))
        obtain ⟨ra, rc, hvr, _⟩ := (OwnN.row encR_ok HE6.out.orr).slice
        subst hvr
        have NX := Lib.hid (HE6.out.next (r := ⟨ya, yc, yf, rm2, true⟩) (Below_drew (Below.refl _ _)) (HRO6.out.keep (Below_drew (Below.refl _ _))) (fun g' hg => (HE6.out.new (Below_drew (Below.refl _ _))).ff g' (.inr hg)) ⟨HRM.out, HLV.out⟩)
        have HE7 := Lib.hid (HE6.out.new (Below_drew (Below.refl _ _)))
        have HN13 := Lib.hid (show (addL (addAllL P yf 1) mf 1).length ≤ P.length + 13 by have := addL_len (addAllL P yf 1) mf 1; omega)
        obtain ⟨p2, x1, p2a, x1a, hoa, hea, hsa, hna⟩ := NX.out
        clear NX MT AD HE5 HRO5 HED HROD c2 c25 c26 HE6 HRO6 HFF
        have AD : ∀ o, w6.drew.alloc o = (w6.alloc o).drew := fun _ => rfl
        have AH : w6.drew.heap = w6.heap := rfl
        simp only [AD] at p2a x1a hoa hea hsa hna
        rw [AH] at hea
        clear AD AH
        go_wp2_with fail
        apply region_once (F := fun (g1 cc : Nat) w' => ∃ G, Hid (PW w0 w' pw pb p bm pp N3 G S2 T3 (Lc ++ [yf]) (addL (addAllL P yf 1) mf 1) (Rs ++ [(⟨ya, yc, yf, rm2, true⟩ : RootD)]) vt6 (.slice (some ⟨g1, 0, none⟩) (Rs.length + 1) cc) (K + 14)))
        case h =>
          go_region_law (
            ((with_reducible refine step_newB (enc := encR) (k := 3) (o := ⟨some 76, _, _, _, _, _⟩) rfl (.tmp 71) (.tmp 75) 41 46 _ 48 rfl Tryz.underlying41 info_root rfl (Nat.succ_pos 2) encR_ok w0.heap.size (.slice ra Rs.length rc) Rs ⟨ya, yc, yf, rm2, true⟩ w6.heap.size ?ev hoa.out ?ex hea.out ?hl ?hm hsa.out ?_)
             case ev => simp [Act.eval]
             case ex => simp [Act.eval]
             case hl => omega
             case hm => unfold maxLen; omega
             intro g1 cc w7 ho7 ht7
             obtain ⟨p7, f7, ⟨u7, c7⟩, h7⟩ := hna.out _ w7 ho7 ht7
             clear ho7 ht7))
          all_goals exact ⟨g1, cc, ⟨_, h7⟩, rfl⟩
        case hk =>
          rintro g1 cc w8 ⟨G, he8⟩
          simp only [Exit.inBlock, Exit.then]
          have HE8 := Lib.hid he8.out
          clear he8 p2 x1 p2a x1a hoa hea hsa hna HE7
          have OF := Lib.hid (fun X => refOf9_any mf X (by omega))
          rw [HBK.out] at OF
          have MT8 := Lib.hid (MT2.out w8 HE8.out.wb HE8.out.bl)
          go_wp2_with fail
          refine MT8.out.mono ?_
          rintro e w9 ⟨g9, hg9, rfl, hb9⟩
          rw [hg9]
          have HE9 := Lib.hid (HE8.out.new hb9)
          clear hg9 hb9 MT8 HE8
          go_wp2_with fail
          refine (OF.out w9).mono ?_
          rintro e w10 ⟨v10, rfl, hr10, hb10⟩
          obtain ⟨ia, ic, hv10, _⟩ := hr10.slice
          subst hv10
          have HE10 := Lib.hid (HE9.out.new hb10)
          rw [show (itemsB S2 yf).length = yf.length from by unfold itemsB; rw [List.length_map]]
          clear hr10 hb10 OF HE9
          have HED := Lib.hid (HE10.out.new (Below_drew (Below.refl _ _)))
          have c1 := HE10.out.wb.c1
          have MT10 := Lib.hid (MT2.out w10.drew HED.out.wb HED.out.bl)
          have IS := Lib.hid (fun X (h : IdealAt X p bm S2) => by
            have h5 := is_ideal X p bm S2 mf rm2 h (by omega) (by have := HED.out.bl.sl; omega)
            rw [HIS.out] at h5
            exact h5)
          have HSTN := Lib.hid (show Stand S2 T3 (Lc ++ [yf]) (addL (addAllL P yf 1) mf 1) (Rs ++ [(⟨ya, yc, yf, rm2, true⟩ : RootD)]) (J + 13) from by
            obtain ⟨n1, n2⟩ := addAllL_keys 1 yf P HST.out.nd
            obtain ⟨n3, n4⟩ := addL_keys (addAllL P yf 1) mf 1 n1
            refine ⟨fun u => ?_, (HIJ.out.add (by omega) (s := mf) (n := 1) (by omega)).mono (by omega), n3, fun u hu => ?_, ?_⟩
            · rw [refsL_add, refsL_addAll, HST.out.rel u, HK3.out]
              unfold occS
              rw [← HMF.out, List.count_cons]
              by_cases e : u = mf
              · subst e; simp; omega
              · have hb : (mf == u) = false := by rw [beq_eq_false_iff_ne]; exact fun c => e c.symm
                rw [if_neg e, hb]; simp
            · rcases (n4 u).1 hu with c | c
              · rcases (n2 u).1 c with d | d
                · exact HST.out.ln u d
                · obtain ⟨x, hx, rfl⟩ := List.mem_map.1 d
                  exact ((files_good hck).2 x hx).d
              · rw [c]; exact hml
            · unfold liveR
              rw [List.filter_append, List.map_append]
              have := HST.out.lv
              unfold liveR at this
              rw [this]
              rfl)
          clear HIJ HST HK3 HBK MT2 HLV
          go_wp2_with fail
          go_region_held3 (fun w' => w'.cell? ⟨pw, 1, none⟩ = some (.pointer (some ⟨p, 0, none⟩)))
            (first | assumption | go_keep)
            (first
              | (go_at_call 44; refine MT10.out.mono ?_; rintro e w11 ⟨g11, hg11, rfl, hb11⟩; rw [hg11]; have HE11 := Lib.hid (HED.out.new hb11); have c111 := HE11.out.wb.c1; clear hb11 hg11 g11)
              | (go_at_call 59; refine (IS.out _ HE11.out.bl.bw.id).mono ?_; rintro e w12 ⟨rfl, hb12⟩; have HE12 := Lib.hid (HE11.out.new hb12); have c112 := HE12.out.wb.c1; clear hb12))
          all_goals
            have hn13 := HN13.out
            go_wp2_with fail
            go_ret
            exact ⟨rfl, _, _, _, _, _, _, _, _, _, HE12.out, HSTN.out, by rw [List.length_append]; simp, hn13⟩
  · have SV := Lib.hid (bSave_no w2 pb p bm N _ S T _ _ yf HE2.out.bl.bw (fun g hg => ⟨(HF2.out g hg).n, (HF2.out g hg).bm⟩) HR2.out HFO.out (by omega) (by have := HE2.out.bl.sl; omega) hck)
    have RC := Lib.hid (fun X (hb : Below w2.heap.size w2 X) => refCheck_any (.slice ya yf.length yc) yf X ((HR2.out.keep hb).mono (fun _ _ => trivial)) HFO.out (by omega))
    have q1 : (checkS yf != 0) = true := by simp [hck]
    generalize checkS yf = ce at *
    clear hck
    go_wp2_with fail
    refine SV.out.mono ?_
    rintro e w3 ⟨rfl, _, hb3⟩
    have HE3 := Lib.hid (HE2.out.new hb3)
    have RC3 := Lib.hid (RC.out w3 hb3)
    clear hb3 SV RC
    go_wp2_with fail
    refine RC3.out.mono ?_
    rintro e w4 ⟨rfl, hb4⟩
    have HE4 := Lib.hid (HE3.out.new hb4)
    clear hb4 RC3 HE3 HE2 c0
    go_wp2_with fail
    go_ret
    exact ⟨rfl, _, _, _, _, _, _, _, _, _, HE4.out.mono (by omega), ⟨HST.out.rel, HST.out.inj.mono (by omega), HST.out.nd, HST.out.ln, HST.out.lv⟩, by omega, by omega⟩
end Go.Proofs.YtamiacmnobklaaaGreatDoor

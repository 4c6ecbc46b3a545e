/- The walk of BlobKeeps: a tree that is saved is loaded as it was. -/
import Derived.Test.YtamiacmnobklaaaGreatDoorArX
import Derived.Test.YtamiacmnobklaaaGreatDoorBldShelf
import Derived.Test.YtamiacmnobklaaaGreatDoorB1X
import Derived.Test.YtamiacmnobklaaaGreatDoorLwX
import Derived.Test.YtamiacmnobklaaaGreatDoorB2X
import Derived.Test.YtamiacmnobklaaaGreatDoorP1X
import Derived.Test.YtamiacmnobklaaaGreatDoorBlobKeeps14W
import Derived.Test.YtamiacmnobklaaaGreatDoorBookW
import Derived.Test.YtamiacmnobklaaaGreatDoorCdX
import Derived.Test.YtamiacmnobklaaaGreatDoorFtX
import Derived.Test.YtamiacmnobklaaaGreatDoorFrame
import Derived.Test.YtamiacmnobklaaaGreatDoorGen
import Derived.Test.YtamiacmnobklaaaGreatDoorItX
import Derived.Test.YtamiacmnobklaaaGreatDoorPtX
import Derived.Test.YtamiacmnobklaaaGreatDoorMarkMath
import Derived.Test.YtamiacmnobklaaaGreatDoorOwnL
import Derived.Test.YtamiacmnobklaaaGreatDoorPthX
import Derived.Test.YtamiacmnobklaaaGreatDoorProg
import Derived.Test.YtamiacmnobklaaaGreatDoorRiX
import Derived.Test.YtamiacmnobklaaaGreatDoorRfX
import Derived.Test.YtamiacmnobklaaaGreatDoorRefNumW
import Derived.Test.YtamiacmnobklaaaGreatDoorRefOfTW
import Derived.Test.YtamiacmnobklaaaGreatDoorRefReadW
import Derived.Test.YtamiacmnobklaaaGreatDoorRowN
import Derived.Test.YtamiacmnobklaaaGreatDoorRows
import Derived.Test.YtamiacmnobklaaaGreatDoorShelf
import Derived.Test.YtamiacmnobklaaaGreatDoorSoX
import Derived.Test.YtamiacmnobklaaaGreatDoorTmX
import Derived.Test.YtamiacmnobklaaaGreatDoorTreeMath
import Derived.BigQuiet
import Derived.BigRegion
import Derived.Deep.Cut
import Derived.Deep.CutRange
import Derived.Deep.DeepCutAuto
import Derived.Deep.QuietTactic
import Derived.Deep.RegionHeld3
import Derived.IntWalk
import Derived.Laws.BitsAllLaws
import Derived.Laws.Externs
import Derived.Laws.OwnMore
import Derived.Laws.RangeAny
import Derived.Laws.Rows
import Derived.Laws.Tables
import Derived.Lib.AppendStr
import Derived.Lib.Builder
import Derived.Lib.Hide
import Derived.Lib.SlicesS
import Derived.Lib.Strings
import Derived.Lib.Walk
import Derived.LoopTactic
import Derived.OrdersHeld
import Derived.Outline
import Derived.RegionTactic
import Derived.Shelf.Strings.SplitCore
import Derived.Sort.OwnSorted
import Derived.StillTail
import Derived.WalkKit
import Derived.WalkLawsBesides
import Derived.WalkSpells
set_option linter.unusedVariables false
namespace Go.Proofs.YtamiacmnobklaaaGreatDoor
open Go.RowKit

set_option maxRecDepth 100000 in
set_option maxHeartbeats 16000000 in
theorem blobKeeps_walkL (v v' : Value) (w : World) (h : FsIn w v) (h' : ObIn w v') :
    Calls Tryz.prog 4 #[v, v'] w fun e w' => e = .returned (.bool true) ∧ Below w.heap.size w w' := by
  obtain ⟨xf, hrf0, hokf, hlenf⟩ := h
  obtain ⟨xs, hrow0, hin0, hlen0⟩ := h'
  have HRX := Lib.hid hrow0
  have HIN := Lib.hid hin0
  have FW := Lib.hid (fun X (hb : Below w.heap.size w X) => fewB_any v xf X (hrf0.below hb (fun _ h => h)) hokf (by omega))
  have HOK := Lib.hid (fewB_ok hokf)
  have hyl := fewB_len xf
  generalize fewB xf = ys at *
  obtain ⟨va, vc, hv, _⟩ := hrow0.slice
  subst hv
  clear hrow0 hin0 hrf0 hokf hlenf xf
  go_enter Tryz.func4, Tryz.ntmps4
  go_wp2_with fail
  refine (fresh_any _).mono ?_
  rintro e w1 ⟨pw, pb, p, bm, pp, N0, rfl, hf⟩
  have HE1 := Lib.hid (PW.start hf)
  clear hf
  go_wp2_with fail
  refine (FW.out w1 HE1.out.bel).mono ?_
  rintro e w2 ⟨v2, rfl, ho2, hb2⟩
  obtain ⟨hr2, hF2, he2⟩ := HE1.out.fewRow hb2 ho2
  obtain ⟨oa, oc, hv2, _⟩ := hr2.slice
  subst hv2
  have HR2 := Lib.hid hr2
  have HE2 := Lib.hid (he2.addF hF2)
  have HF2 := Lib.hid hF2
  clear hr2 hF2 he2 ho2 hb2 HE1 FW
  have c0 := HE2.out.wb.c0
  by_cases hck : checkS ys = 0
  · have SV := Lib.hid (blSave_any w2 pb p bm N0 _ [] [] [] 0 _ ys HE2.out.bl (by omega) (fun g hg => ⟨(HF2.out g hg).n, (HF2.out g hg).bm⟩) HR2.out hyl hck)
    have HLV := Lib.hid (saveS_live [] hck hyl).1
    generalize saveS [] ys = S0 at *
    go_wp2_with fail
    refine SV.out.mono ?_
    rintro e w3 ⟨rfl, N3, T3, h3, t3, k3⟩
    have HE3 := Lib.hid (HE2.out.turn (Lc' := [ys]) (K' := 14) h3 t3 (fun r hr => by cases hr))
    have HR3 := Lib.hid (HR2.out.kept t3.kp (fun g hg c => by rcases c with c | c; exact (HF2.out g hg).n c; exact (HF2.out g hg).bm c))
    have hrml : (mkT S0 ys).length = 32 := mkS_len S0 (mfS S0 ys)
    obtain ⟨rm, hrm⟩ : ∃ rm, rm = mkT S0 ys := ⟨_, rfl⟩
    rw [← hrm] at hrml ⊢
    have HRM := Lib.hid hrm
    have NX := Lib.hid (HE3.out.next (r := ⟨oa, oc, ys, rm, true⟩) (Below_drew (Below.refl _ _)) (HR3.out.keep (Below_drew (Below.refl _ _))) (fun g hg => (HE3.out.new (Below_drew (Below.refl _ _))).ff g (.inr hg)) ⟨hrm, HLV.out⟩)
    clear SV h3 t3 k3 HE2 HF2 HR2 c0 HE3 HR3 hrm
    go_wp2_with fail
    obtain ⟨c2, x1, c2a, x1a, ho6, he6, hs6, hn6⟩ := NX.out
    clear NX
    have AD : ∀ o, w3.drew.alloc o = (w3.alloc o).drew := fun _ => rfl
    have AH : w3.drew.heap = w3.heap := rfl
    simp only [AD] at c2a x1a ho6 he6 hs6 hn6
    rw [AH] at he6
    apply region_once (F := fun g cc w' => Hid (PW w w' pw pb p bm pp N3 (fun k => ((fun _ => False) k ∨ (w1.heap.size ≤ k ∧ k < w2.heap.size)) ∨ (w1.heap.size ≤ k ∧ k < w2.heap.size)) S0 T3 [ys] [] [⟨oa, oc, ys, rm, true⟩] (.slice none 0 0) (.slice (some ⟨g, 0, none⟩) 1 cc) 14))
    case h =>
      go_region_law (
        ((with_reducible refine step_newB (enc := encR) (k := 3) (o := ⟨some 54, _, _, _, _, _⟩) rfl (.tmp 49) (.tmp 53) 41 46 _ 48 rfl Tryz.underlying41 info_root rfl (Nat.succ_pos 2) encR_ok w.heap.size (.slice none 0 0) [] ⟨oa, oc, ys, rm, true⟩ w3.heap.size ?ev ho6.out ?ex he6.out ?hl ?hm hs6.out ?_)
         case ev => simp [Act.eval]
         case ex => simp [Act.eval]
         case hl => decide
         case hm => decide
         intro g1 cc w7 ho7 ht7
         obtain ⟨p7, f7, ⟨u7, c7⟩, h7⟩ := hn6.out _ w7 ho7 ht7
         clear ho7 ht7))
      all_goals exact ⟨g1, cc, h7, rfl⟩
    case hk =>
      intro g0 cc w4 he4
      simp only [Exit.inBlock, Exit.then]
      obtain ⟨R0, hR0⟩ : ∃ R0 : RootD, R0 = ⟨oa, oc, ys, rm, true⟩ := ⟨_, rfl⟩
      rw [← hR0] at he4
      have HR0 := Lib.hid hR0
      clear c2 x1 c2a x1a ho6 he6 hs6 hn6 AD AH HRM HLV hR0
      go_wp2_with fail
      go_loopw [8] (fun v8 wr => ∃ (i : Nat) (N F : Nat → Prop) (S : List Txt) (T : List Ent) (Rs : List RootD) (vr : Value), i ≤ xs.length ∧ i ≤ 20 ∧ v8 = .int .i64 (i : Nat) ∧ PW w wr pw pb p bm pp N F S T ((R0 :: Rs).map (·.l)) [] (R0 :: Rs) (.slice none 0 0) vr (14 * (i + 1)) ∧ (∀ r ∈ Rs, r.is = true ∧ r.l.length ≤ 12) ∧ Rs.length ≤ i) (fun v8 _ => 20 - (intOf v8).toNat)
      case atStart => exact ⟨0, N3, _, S0, T3, [], _, by omega, by omega, rfl, by rw [List.map_singleton, show R0.l = ys by rw [HR0.out]]; exact he4.out, fun r hr => (by cases hr), by simp⟩
      case round =>
        clear he4
        obtain ⟨i, N, F, S, T, Rs, vr, hi, hi20, rfl, hew, hrs, hrl⟩ := hrel
        have HE := Lib.hid hew
        have HS := Lib.hid hrs
        clear hew hrs
        have i0 : (0 : Int) ≤ (i : Int) := by omega
        by_cases hlt : i < xs.length ∧ i < 20
        · obtain ⟨hlt1, hlt2⟩ := hlt
          have j1 : (i : Int) < (xs.length : Int) := by omega
          have j2 : (i : Int) < 20 := by omega
          obtain ⟨g, o, c', hv, hn, hel⟩ := HRX.out.at hlt1
          injection hv with ea eb ec
          subst ea; subst ec
          clear eb
          have hel1 := hel.below HE.out.bel hn
          have HX := Lib.hid (HIN.out _ (List.getElem_mem hlt1))
          clear hel
          generalize xs[i] = x at *
          have d0 := hel1 0 _ rfl
          have d1 := hel1 1 _ rfl
          have d2 := hel1 2 _ rfl
          have d3 := hel1 3 _ rfl
          rw [Nat.add_zero] at d0
          clear hel1
          obtain ⟨xk, xn, xt, xa, xc, xf⟩ := x
          dsimp only at d0 d1 d2 d3
          have hbx := heap_alloc_new wr (.cells #[.int .i64 xk, .int .i64 xn, .string ⟨xt.toArray⟩, .slice xa xf.length xc] 28)
          have hbA : Below wr.heap.size wr (wr.alloc (.cells #[.int .i64 xk, .int .i64 xn, .string ⟨xt.toArray⟩, .slice xa xf.length xc] 28)) := (Below.refl _ wr).alloc (Nat.le_refl _) _
          have HEB := Lib.hid (HE.out.new hbA)
          have FW := Lib.hid (fun X (hb : Below w.heap.size w X) => fewB_any (.slice xa xf.length xc) xf X ((show FilesIn w (.slice xa xf.length xc) xf from HX.out.f).row.keep (hb.mono (Nat.le_refl _))) (show FilesIn w (.slice xa xf.length xc) xf from HX.out.f).ok (by have := (show FilesIn w (.slice xa xf.length xc) xf from HX.out.f).len; omega))
          have HFO := Lib.hid (fewB_ok (show FilesIn w (.slice xa xf.length xc) xf from HX.out.f).ok)
          have hyl' := fewB_len xf
          have HNB := Lib.hid (show ¬ N wr.heap.size ∧ wr.heap.size ≠ bm from ⟨fun c => by have := HE.out.bl.bw.blob.lt.2 _ c; omega, fun e => by have := HE.out.bl.bw.id.lt.2; omega⟩)
          obtain ⟨ra, rc, hvr, _⟩ := (OwnN.row encR_ok HEB.out.orr).slice
          subst hvr
          have HNV := Lib.hid (show ¬ (Value.slice ra (R0 :: Rs).length rc).ownBlock = some wr.heap.size ∧ wr.heap.size ≠ pp ∧ pw ≠ pp from ⟨fun e => by have := (HE.out.orr.lt e).2.1; omega, fun e => by have := (Array.getElem?_eq_some_iff.1 HE.out.px).1; omega, by
            have h1 := HE.out.wb
            have h2 := HE.out.px
            unfold WBox at h1
            unfold PBox at h2
            exact block_ne h1 h2 (by decide)⟩)
          obtain ⟨L, hL⟩ : ∃ L, L = R0 :: Rs := ⟨_, rfl⟩
          obtain ⟨Lc, hLc⟩ : ∃ Lc, Lc = L.map (·.l) := ⟨_, rfl⟩
          rw [← hL] at HEB HNV
          rw [← hLc] at HEB
          have HL := Lib.hid hL
          have HLC := Lib.hid hLc
          have hll : L.length ≤ i + 1 := by rw [hL, List.length_cons]; omega
          obtain ⟨K, hK⟩ : ∃ K, K = 14 * (i + 1) := ⟨_, rfl⟩
          have HKK := Lib.hid hK
          have hK2 : K ≤ 280 := by omega
          rw [← hK] at HEB
          clear hbA HE hL hLc hK
          by_cases h3 : xk = 3
          · subst h3
            go_wp2_with fail
            generalize wr.alloc (.cells #[.int .i64 3, .int .i64 xn, .string ⟨xt.toArray⟩, .slice xa xf.length xc] 28) = wB at *
            obtain ⟨nb, hnb⟩ : ∃ nb, nb = wr.heap.size := ⟨_, rfl⟩
            rw [← hnb] at hbx HNB HNV ⊢
            clear hnb d0 d1 d2 d3
            have HBX := Lib.hid hbx
            have HED := Lib.hid (HEB.out.new (Below_drew (Below.refl _ _)))
            have c0 := HED.out.wb.c0
            have b3 : wB.drew.cell? ⟨nb, 3, none⟩ = some (.slice xa xf.length xc) := by
              have : wB.cell? ⟨nb, 3, none⟩ = some (.slice xa xf.length xc) := by rw [cell_of_row _ _ _ _ _ _ hbx]; rfl
              exact this
            have FWD := Lib.hid (FW.out wB.drew HED.out.bel)
            generalize fewB xf = yf at *
            clear hbx HEB
            by_cases hck : checkS yf = 0
            · have SVO := Lib.hid (fun X Y v (h : BL X pb p bm N S T Lc K) (hF : ∀ g, Y g → ¬ N g ∧ g ≠ bm) (hr : RowN encF 3 Y X v yf) => blSave_any X pb p bm N Y S T Lc K v yf h (by omega) hF hr hyl' hck)
              go_region_held3 (fun w' => w'.cell? ⟨pw, 0, none⟩ = some (.pointer (some ⟨pb, 0, none⟩)) ∧ w'.cell? ⟨nb, 3, none⟩ = some (.slice xa xf.length xc))
                (first | with_reducible exact ⟨by assumption, by assumption⟩ | go_keep)
                (first
                  | (go_at_call 13; go_split_ands; refine FWD.out.mono ?_; rintro e w2 ⟨v2, rfl, ho2, hb2⟩; obtain ⟨hr2, hF2, he2⟩ := HED.out.fewRow hb2 ho2; obtain ⟨a2, c2, hv2, _⟩ := hr2.slice; subst hv2; have c20 := he2.wb.c0; have b32 := (hb2.cell (p := ⟨nb, 3, none⟩) (World.block_lt_of_cell? wB.drew _ b3)).trans b3; have HR2' := Lib.hid hr2; have HF2' := Lib.hid hF2; have HE2' := Lib.hid he2; have HX2 := Lib.hid ((Kept.new hb2 (fun _ => False)).old (show wB.drew.heap[nb]? = _ from HBX.out) id); clear ho2 hr2 hF2 he2 hb2)
                  | (go_at_call 14; go_split_ands; refine (SVO.out _ _ _ HE2'.out.bl (fun g hg => ⟨(HF2'.out g hg).n, (HF2'.out g hg).bm⟩) HR2'.out).mono ?_; rintro e w3 ⟨rfl, N3, T3, h3, t3, k3⟩; have he3 := Lib.hid (HE2'.out.turn h3 t3 (HE2'.out.mks_save yf)); have c03 := he3.out.wb.c0; have hb3 := Lib.hid (t3.kp.old HX2.out (fun c => by rcases c with c | c; exact HNB.out.1 c; exact HNB.out.2 c)); have b33 : w3.cell? ⟨nb, 3, none⟩ = some (.slice xa xf.length xc) := by (rw [cell_of_row _ _ _ _ _ _ hb3.out]; rfl)))
              · go_split_ands
                clear c03 b33 HE2' HF2' HR2' HX2 SVO t3 k3 h3
                have HLV := Lib.hid (saveS_live S hck hyl').1
                have hrml : (mkT (saveS S yf) yf).length = 32 := mkS_len _ _
                obtain ⟨rm2, hrm2⟩ : ∃ rm2, rm2 = mkT (saveS S yf) yf := ⟨_, rfl⟩
                rw [← hrm2] at hrml ⊢
                have HRM := Lib.hid hrm2
                generalize saveS S yf = S2 at *
                clear hrm2 c0 b3 FWD HED HBX hck c20 b32
                have b3 : w3.drew.cell? ⟨nb, 3, none⟩ = some (.slice xa xf.length xc) := by
                  have : w3.cell? ⟨nb, 3, none⟩ = some (.slice xa xf.length xc) := by rw [cell_of_row _ _ _ _ _ _ hb3.out]; rfl
                  exact this
                have HE3 := Lib.hid (he3.out.new (Below_drew (Below.refl _ _)))
                have p2 := HE3.out.wb.c2
                have x1 := HE3.out.px.c1
                have FW3 := Lib.hid (FW.out w3.drew HE3.out.bel)
                clear he3 hb3
                go_wp2_with fail
                have hL30 : L.length ≤ 1000 := by omega
                refine wp_then (keeps14 _ _ _ _ _ _ _ _ _ _ _ _ _ _ _ _ _ _ _ _ _ _ _ _ _ _ _ _ _ _ _ _ _ _ _ _ _ _ _ _ _ _ _ _ _ _ _ _ _ _ _ _ _ _ _ _ _ _ _ _ _ _ _ _ _ _ _ _ _ _ _ _ _ _ _ _ _ _ _ _ _ _ _ _ _ _ _ _ _ _ _ _ _ _ _ _ _ _ _ _ _ _ _ _ _ _ _ _ _ _ _ _ _ _ _ _ _ _ _ _ _ _ _ _ _ _ _ _ _ _ _ _ _ _ _ _ _ _ _ _ _ _ _ _ _ _ _ _ _ _ _ _ _ _ _ _ _ _ _ _ _ _ w w3 pw pb p bm pp nb N3 _ S2 T3 (Lc ++ [yf]) L ra rc (K + 14) xa xf.length xc yf rm2 HE3 b3 HNV.out.1 FW3 (Lib.hid ⟨HRM.out, HLV.out⟩) hL30) ?_
                · rintro _ w4 ⟨a6, c6, g1, cc, G, he4, u87, u88, u89, u90, u91, u92, u93, u94, u95, u96, u97, u98, u99, u100, u101, u102, u103, u104, u105, u106, rfl⟩
                  simp only [Exit.inBlock, Exit.then]
                  go_wp2_with fail
                  go_roundw
                  case rel =>
                    refine ⟨i + 1, N3, G, S2, T3, Rs ++ [⟨a6, c6, yf, rm2, true⟩], .slice (some ⟨g1, 0, none⟩) ((R0 :: Rs).length + 1) cc, by omega, by omega, by go_num, ?_, fun r hr => ?_, by rw [List.length_append]; simp; omega⟩
                    · have h9 := he4.out
                      rw [HLC.out, HL.out, HKK.out] at h9
                      rw [show 14 * (i + 1 + 1) = 14 * (i + 1) + 14 by omega]
                      rw [← List.cons_append, List.map_append]
                      exact h9
                    · rcases List.mem_append.1 hr with c | c
                      · exact HS.out r c
                      · rw [List.mem_singleton.1 c]; exact ⟨rfl, hyl'⟩
                  case measure => simp [intOf]; omega
            · have SVN := Lib.hid (fun X Y v (h : BL X pb p bm N S T Lc K) (hF : ∀ g, Y g → ¬ N g ∧ g ≠ bm) (hr : RowN encF 3 Y X v yf) => bSave_no X pb p bm N Y S T _ v yf h.bw hF hr HFO.out (by omega) (by have := h.sl; omega) hck)
              go_region_held3 (fun w' => w'.cell? ⟨pw, 0, none⟩ = some (.pointer (some ⟨pb, 0, none⟩)) ∧ w'.cell? ⟨nb, 3, none⟩ = some (.slice xa xf.length xc))
                (first | with_reducible exact ⟨by assumption, by assumption⟩ | go_keep)
                (first
                  | (go_at_call 13; go_split_ands; refine FWD.out.mono ?_; rintro e w2 ⟨v2, rfl, ho2, hb2⟩; obtain ⟨hr2, hF2, he2⟩ := HED.out.fewRow hb2 ho2; obtain ⟨a2, c2, hv2, _⟩ := hr2.slice; subst hv2; have c20 := he2.wb.c0; have b32 := (hb2.cell (p := ⟨nb, 3, none⟩) (World.block_lt_of_cell? wB.drew _ b3)).trans b3; have HR2' := Lib.hid hr2; have HF2' := Lib.hid hF2; have HE2' := Lib.hid he2; clear ho2 hr2 hF2 he2 hb2)
                  | (go_at_call 14; go_split_ands; refine (SVN.out _ _ _ HE2'.out.bl (fun g hg => ⟨(HF2'.out g hg).n, (HF2'.out g hg).bm⟩) HR2'.out).mono ?_; rintro e w3 ⟨rfl, h3, hb3⟩; have he3 := Lib.hid (HE2'.out.new hb3); have c03 := he3.out.wb.c0; have b33 := (hb3.cell (p := ⟨nb, 3, none⟩) (World.block_lt_of_cell? w2 _ b32)).trans b32))
              · go_split_ands
                clear c03 b33 HE2' HF2' HR2' SVN h3 hb3 c20 b32
                have q1 : (checkS yf == 0) = false := by simp [hck]
                generalize checkS yf = ce at *
                clear hck
                go_wp2_with fail
                go_roundw
                case rel =>
                  refine ⟨i + 1, N, F, S, T, Rs, .slice ra (R0 :: Rs).length rc, by omega, by omega, by go_num, ?_, HS.out, by omega⟩
                  have h9 := he3.out.mono (show K ≤ 14 * (i + 1 + 1) by have := HKK.out; omega)
                  rw [HLC.out, HL.out] at h9
                  exact h9
                case measure => simp [intOf]; omega
          · by_cases h0 : xk = 0
            · subst h0
              go_wp2_with fail
              generalize wr.alloc (.cells #[.int .i64 0, .int .i64 xn, .string ⟨xt.toArray⟩, .slice xa xf.length xc] 28) = wB at *
              obtain ⟨nb, hnb⟩ : ∃ nb, nb = wr.heap.size := ⟨_, rfl⟩
              rw [← hnb] at hbx HNB HNV ⊢
              clear hnb d0 d1 d2 d3
              have HBX := Lib.hid hbx
              have HED := Lib.hid (HEB.out.new (Below_drew (Below.refl _ _)))
              have c0 := HED.out.wb.c0
              have b2 : wB.drew.cell? ⟨nb, 2, none⟩ = some (.string ⟨xt.toArray⟩) := by
                have : wB.cell? ⟨nb, 2, none⟩ = some (.string ⟨xt.toArray⟩) := by rw [cell_of_row _ _ _ _ _ _ hbx]; rfl
                exact this
              have CT := Lib.hid (fun X => cutB_any xt X HX.out.t)
              have hcl := cutT_len xt
              generalize cutT xt = y at *
              clear hbx HEB FW
              have PTO := Lib.hid (fun X (h : BL X pb p bm N S T Lc K) => blPut_any X pb p bm N S T Lc K y h (by omega) (by omega))
              go_region_held3 (fun w' => w'.cell? ⟨pw, 0, none⟩ = some (.pointer (some ⟨pb, 0, none⟩)) ∧ w'.cell? ⟨nb, 2, none⟩ = some (.string ⟨xt.toArray⟩))
                (first | with_reducible exact ⟨by assumption, by assumption⟩ | go_keep)
                (first
                  | (go_at_call 17; go_split_ands; refine (CT.out _).mono ?_; rintro e w2 ⟨rfl, ew⟩; subst ew)
                  | (go_at_call 16; go_split_ands; refine (PTO.out _ HED.out.bl).mono ?_; rintro e w3 ⟨rfl, N3, T3, h3, t3, k3⟩; have he3 := Lib.hid (HED.out.turn h3 t3 (HED.out.mks_mark y)); have c03 := he3.out.wb.c0; have b23 : w3.cell? ⟨nb, 2, none⟩ = some (.string ⟨xt.toArray⟩) := by (rw [cell_of_row _ _ _ _ _ _ (t3.kp.old (show wB.drew.heap[nb]? = _ from HBX.out) (fun c => by rcases c with c | c; exact HNB.out.1 c; exact HNB.out.2 c))]; rfl)))
              · go_split_ands
                clear c03 b23 h3 t3 k3 PTO
                clear HED c0 b2 CT
                go_wp2_with fail
                go_roundw
                case rel =>
                  refine ⟨i + 1, N3, F, markS S y, T3, Rs, .slice ra (R0 :: Rs).length rc, by omega, by omega, by go_num, ?_, HS.out, by omega⟩
                  have h9 := he3.out.mono (show K + 1 ≤ 14 * (i + 1 + 1) by have := HKK.out; omega)
                  rw [HLC.out, HL.out] at h9
                  exact h9
                case measure => simp [intOf]; omega
            · by_cases h1 : xk = 1
              · subst h1
                go_wp2_with fail
                generalize wr.alloc (.cells #[.int .i64 1, .int .i64 xn, .string ⟨xt.toArray⟩, .slice xa xf.length xc] 28) = wB at *
                obtain ⟨nb, hnb⟩ : ∃ nb, nb = wr.heap.size := ⟨_, rfl⟩
                rw [← hnb] at hbx HNB HNV ⊢
                clear hnb d0 d1 d2 d3
                have HBX := Lib.hid hbx
                have b2 : wB.cell? ⟨nb, 2, none⟩ = some (.string ⟨xt.toArray⟩) := by rw [cell_of_row _ _ _ _ _ _ hbx]; rfl
                have FR := Lib.hid (free_any w wB pw pb p bm pp N F S T Lc [] L _ _ K ⟨1, xn, xt, xa, xc, xf⟩ HEB.out (by omega) (fun r hr _ => by rw [HLC.out]; exact List.mem_map.2 ⟨r, hr, rfl⟩) (by omega) HX.out.t HX.out.k (fun r hr => (HEB.out.mks r hr).2.len))
                clear hbx FW
                refine FR.out.mono ?_
                rintro e w2 ⟨_, rfl, ⟨b, rfl, hb⟩, hb2⟩
                have HE2 := Lib.hid (HEB.out.new hb2)
                have b2' := (hb2.cell (p := ⟨nb, 2, none⟩) (World.block_lt_of_cell? wB _ b2)).trans b2
                have HBW := Lib.hid ((Kept.new hb2 (fun _ => False)).old HBX.out id)
                clear FR hb2 b2 HEB HBX
                cases b with
                | false =>
                  clear hb
                  go_wp2_with fail
                  go_roundw
                  case rel =>
                    refine ⟨i + 1, N, F, S, T, Rs, .slice ra (R0 :: Rs).length rc, by omega, by omega, by go_num, ?_, HS.out, by omega⟩
                    have h9 := HE2.out.mono (show K ≤ 14 * (i + 1 + 1) by have := HKK.out; omega)
                    rw [HLC.out, HL.out] at h9
                    exact h9
                  case measure => simp [intOf]; omega
                | true =>
                  have hfr := hb.1 rfl
                  have hct : (needS S Lc).count (cutT xt) = 0 := by
                    rw [List.count_eq_zero, HLC.out]
                    intro hm
                    obtain ⟨l, hl, hs⟩ := List.mem_flatMap.1 hm
                    obtain ⟨r, hr, rfl⟩ := List.mem_map.1 hl
                    refine hfr rfl r hr ?_ hs
                    rw [HL.out] at hr
                    rcases List.mem_cons.1 hr with c | c
                    · rw [c, HR0.out]
                    · exact (HS.out r c).1
                  clear hb hfr
                  have HED := Lib.hid (HE2.out.new (Below_drew (Below.refl _ _)))
                  have c0 := HED.out.wb.c0
                  have c1 := HED.out.wb.c1
                  have HBD := Lib.hid (show w2.drew.heap[nb]? = _ from HBW.out)
                  have b2d : w2.drew.cell? ⟨nb, 2, none⟩ = some (.string ⟨xt.toArray⟩) := b2'
                  have CT := Lib.hid (fun X => cutB_any xt X HX.out.t)
                  have hcl := cutT_len xt
                  generalize cutT xt = y at *
                  have HCT := Lib.hid (show (needS (markS S y) Lc).count y = 0 by rw [needS_mark y HED.out.bl.live]; exact hct)
                  clear hct b2' HE2
                  go_wp2_with fail
                  have MKO := Lib.hid (fun X (h : BL X pb p bm N S T Lc K) => blMark_any X pb p bm N S T Lc K y h (by omega) (by omega))
                  have DRO := Lib.hid (fun X (h : BL X pb p bm N (markS S y) T Lc (K + 1)) => by
                    have h5 := blDrop_any X pb p bm N (markS S y) T Lc (K + 1) y h (by omega) (new_mark _ _) (by have := HCT.out; omega)
                    rw [mkS_mark y (.inr rfl)] at h5
                    exact h5)
                  generalize (if 1 ≤ cntE (markS S y) T y then (0 : Int) else 8) = z at *
                  generalize mkS S y = mk at *
                  go_region_held3 (fun w' => w'.cell? ⟨pw, 0, none⟩ = some (.pointer (some ⟨pb, 0, none⟩)) ∧ w'.cell? ⟨pw, 1, none⟩ = some (.pointer (some ⟨p, 0, none⟩)) ∧ w'.cell? ⟨nb, 2, none⟩ = some (.string ⟨xt.toArray⟩))
                    (first | with_reducible exact ⟨by assumption, by assumption, by assumption⟩ | go_keep)
                    (first
                      | (go_at_call 17; go_split_ands; refine (CT.out _).mono ?_; rintro e w4 ⟨rfl, ew⟩; subst ew)
                      | (go_at_call 20; go_split_ands; refine (MKO.out _ HED.out.bl).mono ?_; rintro e w3 ⟨rfl, h3, t3, k3⟩; have HE3 := Lib.hid (HED.out.turn h3 t3 (HED.out.mks_mark y)); have c03 := HE3.out.wb.c0; have c13 := HE3.out.wb.c1; have HB3 := Lib.hid (t3.kp.old HBD.out (fun c => by rcases c with c | c; exact HNB.out.1 c; exact HNB.out.2 c)); have b23 : w3.cell? ⟨nb, 2, none⟩ = some (.string ⟨xt.toArray⟩) := (by rw [cell_of_row _ _ _ _ _ _ HB3.out]; rfl); clear h3 t3 k3)
                      | (go_at_call 19; go_split_ands; refine (DRO.out _ HE3.out.bl).mono ?_; rintro e w4 ⟨rfl, N4, T4, h4, t4, k4⟩; have HE4 := Lib.hid (HE3.out.turn h4 t4 HE3.out.mks); have c04 := HE4.out.wb.c0; have c14 := HE4.out.wb.c1; have b24 : w4.cell? ⟨nb, 2, none⟩ = some (.string ⟨xt.toArray⟩) := (by rw [cell_of_row _ _ _ _ _ _ (t4.kp.old HB3.out (fun c => by rcases c with c | c; exact HNB.out.1 c; exact HNB.out.2 c))]; rfl); clear h4 t4 k4))
                  · go_split_ands
                    clear HED c0 c1 b2d CT c03 c13 b23 c04 c14 b24 HE3 HB3 MKO DRO
                    go_wp2_with fail
                    go_roundw
                    case rel =>
                      refine ⟨i + 1, N4, F, markS S y, T4, Rs, .slice ra (R0 :: Rs).length rc, by omega, by omega, by go_num, ?_, HS.out, by omega⟩
                      have h9 := HE4.out.mono (show K + 1 ≤ 14 * (i + 1 + 1) by have := HKK.out; omega)
                      rw [HLC.out, HL.out] at h9
                      exact h9
                    case measure => simp [intOf]; omega
              · have q3 : (xk == 3) = false := by simp [h3]
                have q0 : (xk == 0) = false := by simp [h0]
                have q1 : (xk == 1) = false := by simp [h1]
                go_wp2_with fail
                go_roundw
                case rel =>
                  refine ⟨i + 1, N, F, S, T, Rs, .slice ra (R0 :: Rs).length rc, by omega, by omega, by go_num, ?_, HS.out, by omega⟩
                  have h9 := HEB.out.mono (show K ≤ 14 * (i + 1 + 1) by have := HKK.out; omega)
                  rw [HLC.out, HL.out] at h9
                  exact h9
                case measure => simp [intOf]; omega
        · have hx : ¬ (i : Int) < (xs.length : Int) ∨ (i : Int) < (xs.length : Int) ∧ ¬ (i : Int) < 20 := by omega
          have hK : 14 * (i + 1) ≤ 294 := by omega
          clear hlt hi hi20 HRX HIN
          have c0 := HE.out.wb.c0
          have HE2 := Lib.hid (HE.out.mono hK)
          have LD := Lib.hid (blLoad_any wr pb p bm N S T _ 294 ys HE2.out.bl (by omega) (by rw [HR0.out]; simp))
          have hm0 := (HE2.out.mks R0 (by simp)).1
          rw [HR0.out] at hm0
          dsimp only at hm0
          rw [← hm0] at LD
          have HRW := Lib.hid (HE2.out.rows R0 (by simp))
          rw [HR0.out] at HRW
          dsimp only [RootD.fv] at HRW
          clear hm0 HE hK hrl HS
          rcases hx with j1 | ⟨j1, j2⟩
          all_goals
            go_wp2_with fail
            refine LD.out.mono ?_
            rintro e w5 ⟨v5, rfl, hr5, hb5⟩
            obtain ⟨a5, c5, hv5, _⟩ := hr5.slice
            subst hv5
            have HE5 := Lib.hid (HE2.out.new hb5)
            have c5' := HE5.out.wb.c0
            have FE := Lib.hid (filesEq_any _ _ _ _ ys w5 hr5 (HRW.out.keep hb5) (by omega))
            clear hr5 hb5 c0
            go_wp2_with fail
            refine FE.out.mono ?_
            rintro e w6 ⟨rfl, hb6⟩
            have HE6 := Lib.hid (HE5.out.new hb6)
            have c6' := HE6.out.wb.c0
            clear hb6 c5' FE HE5
            go_wp2_with fail
            refine (blCheck_any w6 pb p bm N S T _ 294 HE6.out.bl (by omega)).mono ?_
            rintro e w7 ⟨rfl, hb7⟩
            have HE7 := Lib.hid (HE6.out.new hb7)
            clear hb7 c6' HE6
            go_wp2_with fail
            refine (awake11_any _).mono ?_
            rintro e w8 ⟨rfl, hb8⟩
            have HB := Lib.hid (HE7.out.bel.trans (hb8.mono HE7.out.bel.size))
            go_wp2_with fail
            go_ret
            exact ⟨rfl, HB.out⟩
  · have RC := Lib.hid (fun X (hb : Below w2.heap.size w2 X) => refCheck_any (.slice oa ys.length oc) ys X ((HR2.out.keep hb).mono (fun _ _ => trivial)) HOK.out (by omega))
    have SV := Lib.hid (bSave_no w2 pb p bm N0 _ [] [] [] _ ys HE2.out.bl.bw (fun g hg => ⟨(HF2.out g hg).n, (HF2.out g hg).bm⟩) HR2.out HOK.out (by omega) (by simp) hck)
    have q1 : (checkS ys != 0) = true := by simp [hck]
    generalize checkS ys = ce at *
    clear hck
    go_wp2_with fail
    refine SV.out.mono ?_
    rintro e w3 ⟨rfl, _, hb3⟩
    have HE3 := Lib.hid (HE2.out.new hb3)
    have RC3 := Lib.hid (RC.out w3 hb3)
    clear hb3 SV
    go_wp2_with fail
    refine RC3.out.mono ?_
    rintro e w4 ⟨rfl, hb4⟩
    have HE4 := Lib.hid (HE3.out.new hb4)
    clear hb4
    go_wp2_with fail
    refine (awake11_any _).mono ?_
    rintro e w8 ⟨rfl, hb8⟩
    have HB := Lib.hid (HE4.out.bel.trans (hb8.mono HE4.out.bel.size))
    go_wp2_with fail
    go_ret
    exact ⟨rfl, HB.out⟩
end Go.Proofs.YtamiacmnobklaaaGreatDoor

/- The walk of BlobPlays: what is kept and told is what a plain model has. -/
import Derived.Test.YtamiacmnobklaaaGreatDoorArX
import Derived.Test.YtamiacmnobklaaaGreatDoorBldShelf
import Derived.Test.YtamiacmnobklaaaGreatDoorB1X
import Derived.Test.YtamiacmnobklaaaGreatDoorLwX
import Derived.Test.YtamiacmnobklaaaGreatDoorB2X
import Derived.Test.YtamiacmnobklaaaGreatDoorP1X
import Derived.Test.YtamiacmnobklaaaGreatDoorBlobPSaveW
import Derived.Test.YtamiacmnobklaaaGreatDoorBlobSavedW
import Derived.Test.YtamiacmnobklaaaGreatDoorP2X
import Derived.Test.YtamiacmnobklaaaGreatDoorBlobStepW
import Derived.Test.YtamiacmnobklaaaGreatDoorBookW
import Derived.Test.YtamiacmnobklaaaGreatDoorFtX
import Derived.Test.YtamiacmnobklaaaGreatDoorFrame
import Derived.Test.YtamiacmnobklaaaGreatDoorGen
import Derived.Test.YtamiacmnobklaaaGreatDoorItX
import Derived.Test.YtamiacmnobklaaaGreatDoorPtX
import Derived.Test.YtamiacmnobklaaaGreatDoorMarkMath
import Derived.Test.YtamiacmnobklaaaGreatDoorOwnL
import Derived.Test.YtamiacmnobklaaaGreatDoorPthX
import Derived.Test.YtamiacmnobklaaaGreatDoorProg
import Derived.Test.YtamiacmnobklaaaGreatDoorRiX
import Derived.Test.YtamiacmnobklaaaGreatDoorCdX
import Derived.Test.YtamiacmnobklaaaGreatDoorRefNumW
import Derived.Test.YtamiacmnobklaaaGreatDoorRefOfTW
import Derived.Test.YtamiacmnobklaaaGreatDoorRefReadW
import Derived.Test.YtamiacmnobklaaaGreatDoorRfX
import Derived.Test.YtamiacmnobklaaaGreatDoorRowN
import Derived.Test.YtamiacmnobklaaaGreatDoorRows
import Derived.Test.YtamiacmnobklaaaGreatDoorShelf
import Derived.Test.YtamiacmnobklaaaGreatDoorSoX
import Derived.Test.YtamiacmnobklaaaGreatDoorTmX
import Derived.Test.YtamiacmnobklaaaGreatDoorTreeMath
import Derived.BigQuiet
import Derived.BigRegion
import Derived.Deep.AppendLies
import Derived.Deep.Cut
import Derived.Deep.CutRange
import Derived.Deep.DeepCutAuto
import Derived.Deep.QuietTactic
import Derived.Deep.RegionLaw
import Derived.IntWalk
import Derived.Laws.BitsAllLaws
import Derived.Laws.Externs
import Derived.Laws.IdiomStrings
import Derived.Laws.OwnMore
import Derived.Laws.RangeAny
import Derived.Laws.Rows
import Derived.Laws.Tables
import Derived.Lib.AppendStr
import Derived.Lib.Builder
import Derived.Lib.Hide
import Derived.Lib.SlicesS
import Derived.Lib.Strings
import Derived.Lib.Walk
import Derived.LoopTactic
import Derived.Outline
import Derived.Shelf.Strings.SplitCore
import Derived.Sort.OwnSorted
import Derived.StillTail
import Derived.StillTailTactics
import Derived.WalkKit
import Derived.WalkLawsBesides
import Derived.WalkSpells
set_option linter.unusedVariables false
namespace Go.Proofs.YtamiacmnobklaaaGreatDoor
open Go.RowKit

set_option maxRecDepth 100000 in
set_option maxHeartbeats 8000000 in
theorem blobPlays_walk (v : Value) (w : World) (h : ObIn w v) :
    Calls Tryz.prog 3 #[v] w fun e w' => e = .returned (.bool true) ∧ Below w.heap.size w w' := by
  obtain ⟨xs, hrow0, hin0, hlen0⟩ := h
  have HRX := Lib.hid hrow0
  have HIN := Lib.hid hin0
  obtain ⟨va, vc, hv, _⟩ := hrow0.slice
  subst hv
  clear hrow0 hin0
  go_enter Tryz.func3, Tryz.ntmps3
  go_wp2_with fail
  refine (fresh_any _).mono ?_
  rintro e w1 ⟨pw, pb, p, bm, pp, N0, rfl, hf⟩
  have HE1 := Lib.hid (PW.start hf)
  clear hf
  go_wp2_with fail
  go_loopw [4] (fun v4 wr => ∃ (i : Nat) (N F : Nat → Prop) (S : List Txt) (T : List Ent) (Lc : List (List FileD)) (P : List (Txt × Int)) (Rs : List RootD) (vt vr : Value), i ≤ xs.length ∧ i ≤ 40 ∧ v4 = .int .i64 (i : Nat) ∧ PW w wr pw pb p bm pp N F S T Lc P Rs vt vr (14 * i) ∧ Stand S T Lc P Rs (13 * (i : Int)) ∧ Rs.length ≤ i ∧ P.length ≤ 13 * i) (fun v4 _ => 40 - (intOf v4).toNat)
  case atStart => exact ⟨0, _, _, _, _, _, _, _, _, _, by omega, by omega, rfl, HE1.out, ⟨fun u => (by rw [cnt_nil]; rfl), fun x hx => (by cases hx), List.nodup_nil, fun u hu => (by cases hu), rfl⟩, by simp, by simp⟩
  case round =>
    clear HE1
    obtain ⟨i, N, F, S, T, Lc, P, Rs, vt, vr, hi, hi40, rfl, hew, hst, hrl, hpl⟩ := hrel
    have HE := Lib.hid hew
    have HST := Lib.hid hst
    clear hew hst
    have i0 : (0 : Int) ≤ (i : Int) := by omega
    by_cases hlt : i < xs.length ∧ i < 40
    · obtain ⟨hlt1, hlt2⟩ := hlt
      have j1 : (i : Int) < (xs.length : Int) := by omega
      have j2 : (i : Int) < 40 := by omega
      obtain ⟨g, o, c', hv, hn, hel⟩ := HRX.out.at hlt1
      injection hv with ea eb ec
      subst ea; subst ec
      clear eb
      have hel1 := hel.below HE.out.bel hn
      have HX := Lib.hid (HIN.out _ (List.getElem_mem hlt1))
      clear hel
      generalize xs[i] = x at *
      have d0 := hel1 0 _ rfl
      have d1 := hel1 1 _ rfl
      have d2 := hel1 2 _ rfl
      have d3 := hel1 3 _ rfl
      rw [Nat.add_zero] at d0
      clear hel1
      obtain ⟨xk, xn, xt, xa, xc, xf⟩ := x
      dsimp only at d0 d1 d2 d3
      have HF := Lib.hid (show FilesIn w (.slice xa xf.length xc) xf from HX.out.f)
      have ST := Lib.hid (step11_any w wr pw pb p bm pp N F S T Lc P Rs vt vr (14 * i) (13 * (i : Int)) ⟨xk, xn, xt, xa, xc, xf⟩ _ HE.out HST.out (by omega) (by omega) (by omega) (by omega) HX.out.k HX.out.n HX.out.t (HF.out.row.below HE.out.bel (fun _ h => h)) HF.out.ok (by have := HF.out.len; dsimp only; omega))
      unfold OpB.agg at ST
      dsimp only at ST
      clear HE HST
      go_wp2_with fail
      refine ST.out.mono ?_
      rintro e w2 ⟨rfl, N', F', S', T', Lc', P', Rs', vt', vr', h1, h2, h3, h4⟩
      have HE2 := Lib.hid h1
      have HST2 := Lib.hid h2
      have SD := Lib.hid (stands_any w w2 pw pb p bm pp N' F' S' T' Lc' P' Rs' vt' vr' (14 * i + 14) h1 h2.rel h2.nd (fun x hx => h2.ln _ (List.mem_map.2 ⟨x, hx, rfl⟩)) (by omega) (by omega) (by omega) (by
        have := h2.lv
        unfold liveR at this
        rw [← this, List.length_map]))
      clear h1 h2 ST
      go_wp2_with fail
      refine SD.out.mono ?_
      rintro e w3 ⟨rfl, hb3⟩
      have HE3 := Lib.hid (HE2.out.new hb3)
      clear hb3 SD HE2
      go_wp2_with fail
      go_roundw
      case rel => exact ⟨i + 1, N', F', S', T', Lc', P', Rs', vt', vr', by omega, by omega, by go_num, HE3.out.mono (by omega), HST2.out.mono (by omega), by omega, by omega⟩
      case measure => simp [intOf]; omega
    · have hx : ¬ (i : Int) < (xs.length : Int) ∨ (i : Int) < (xs.length : Int) ∧ ¬ (i : Int) < 40 := by omega
      clear hlt hi
      have c0 := HE.out.wb.c0
      have CK := Lib.hid (blCheck_any wr pb p bm N S T Lc (14 * i) HE.out.bl (by omega))
      rcases hx with j1 | ⟨j1, j2⟩
      all_goals
        go_wp2_with fail
        refine CK.out.mono ?_
        rintro e w7 ⟨rfl, hb7⟩
        have HE7 := Lib.hid (HE.out.new hb7)
        clear hb7
        go_wp2_with fail
        refine (awake11_any _).mono ?_
        rintro e w8 ⟨rfl, hb8⟩
        have HB := Lib.hid (HE7.out.bel.trans (hb8.mono HE7.out.bel.size))
        go_wp2_with fail
        go_ret
        exact ⟨rfl, HB.out⟩
end Go.Proofs.YtamiacmnobklaaaGreatDoor

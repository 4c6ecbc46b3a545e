/- Stage 11's laws: world.step. -/
import Derived.Test.YtamiacmnobklaaaGreatDoorArX
import Derived.Test.YtamiacmnobklaaaGreatDoorBldShelf
import Derived.Test.YtamiacmnobklaaaGreatDoorB1X
import Derived.Test.YtamiacmnobklaaaGreatDoorP3X
import Derived.Test.YtamiacmnobklaaaGreatDoorP1X
import Derived.Test.YtamiacmnobklaaaGreatDoorB2X
import Derived.Test.YtamiacmnobklaaaGreatDoorBlobPSaveW
import Derived.Test.YtamiacmnobklaaaGreatDoorBlobSavedW
import Derived.Test.YtamiacmnobklaaaGreatDoorP2X
import Derived.Test.YtamiacmnobklaaaGreatDoorBookW
import Derived.Test.YtamiacmnobklaaaGreatDoorCdX
import Derived.Test.YtamiacmnobklaaaGreatDoorFtX
import Derived.Test.YtamiacmnobklaaaGreatDoorFrame
import Derived.Test.YtamiacmnobklaaaGreatDoorGen
import Derived.Test.YtamiacmnobklaaaGreatDoorItX
import Derived.Test.YtamiacmnobklaaaGreatDoorMarkMath
import Derived.Test.YtamiacmnobklaaaGreatDoorOwnL
import Derived.Test.YtamiacmnobklaaaGreatDoorProg
import Derived.Test.YtamiacmnobklaaaGreatDoorRiX
import Derived.Test.YtamiacmnobklaaaGreatDoorRefNumW
import Derived.Test.YtamiacmnobklaaaGreatDoorRefOfTW
import Derived.Test.YtamiacmnobklaaaGreatDoorRowN
import Derived.Test.YtamiacmnobklaaaGreatDoorRows
import Derived.Test.YtamiacmnobklaaaGreatDoorShelf
import Derived.Test.YtamiacmnobklaaaGreatDoorSoX
import Derived.Test.YtamiacmnobklaaaGreatDoorTreeMath
import Derived.BigQuiet
import Derived.BigRegion
import Derived.Deep.AppendLies
import Derived.Deep.Cut
import Derived.Deep.CutBlock
import Derived.Deep.CutRange
import Derived.Deep.DeepCutAuto
import Derived.Deep.QuietTactic
import Derived.Deep.RegionHeld
import Derived.Deep.RegionLaw
import Derived.IntWalk
import Derived.Laws.BitsAllLaws
import Derived.Laws.Externs
import Derived.Laws.IdiomStrings
import Derived.Laws.OwnMore
import Derived.Laws.RangeAny
import Derived.Laws.Rows
import Derived.Laws.Tables
import Derived.Lib.AppendStr
import Derived.Lib.Builder
import Derived.Lib.Hide
import Derived.Lib.SlicesS
import Derived.Lib.Strings
import Derived.Lib.Walk
import Derived.LoopIn
import Derived.LoopNIn
import Derived.LoopTactic
import Derived.Outline
import Derived.OwnWalkIn
import Derived.RangeFuncBound
import Derived.RangeFuncCalls
import Derived.RangeFuncLeaves
import Derived.RangeFuncNested
import Derived.Shelf.Abstract
import Derived.Shelf.RegionOpen
import Derived.Shelf.Strings.SplitCore
import Derived.Sort.OwnSorted
import Derived.StillTail
import Derived.StillTailTactics
import Derived.TacticsInMore
import Derived.WalkKit
import Derived.WalkLawsBesides
import Derived.WalkSpells
set_option linter.unusedVariables false
namespace Go.Proofs.YtamiacmnobklaaaGreatDoor
open Go.RowKit

theorem SvP.wide {w0 w : World} {pw pb p bm pp : Nat} {N F : Nat → Prop} {S : List Txt} {T : List Ent} {Lc : List (List FileD)} {P : List (Txt × Int)} {Rs : List RootD} {vt vr : Value} {K K' : Nat} {J J' : Int} {nr np : Nat} (h : PW w0 w pw pb p bm pp N F S T Lc P Rs vt vr K') (hst : Stand S T Lc P Rs J') (hK : K' ≤ K + 14) (hJ : J' ≤ J + 13) (hr : Rs.length ≤ nr + 1) (hp : P.length ≤ np + 13) : SvP w0 w pw pb p bm pp K J nr np :=
  ⟨_, _, _, _, _, _, _, _, _, h.mono hK, hst.mono hJ, hr, hp⟩
set_option maxRecDepth 100000 in
set_option maxHeartbeats 8000000 in
theorem step11_any (w0 w : World) (pw pb p bm pp : Nat) (N F : Nat → Prop) (S : List Txt) (T : List Ent) (Lc : List (List FileD)) (P : List (Txt × Int)) (Rs : List RootD) (vt vr : Value) (K : Nat) (J : Int) (o : OpB) (NF : Nat → Prop) (h : PW w0 w pw pb p bm pp N F S T Lc P Rs vt vr K) (hst : Stand S T Lc P Rs J) (hJ : 0 ≤ J ∧ J ≤ 100000) (hK : K ≤ 40000) (hP : P.length ≤ 40000) (hR : Rs.length ≤ 40000) (hk : -9223372036854775808 ≤ o.kind ∧ o.kind ≤ 9223372036854775807) (hn : -9223372036854775808 ≤ o.n ∧ o.n ≤ 9223372036854775807) (ht : o.text.length ≤ 140737488351232) (hrow : RowN encF 3 NF w o.fv o.files) (hok : ∀ x ∈ o.files, FileOk x) (hlen : o.files.length ≤ 140737488351232) :
    Calls Tryz.prog 9 #[.pointer (some ⟨pw, 0, none⟩), o.agg] w fun e w' => e = .returned (.bool true) ∧ SvP w0 w' pw pb p bm pp K J Rs.length P.length := by
  obtain ⟨ok, on, ot, oa, oc, of⟩ := o
  unfold OpB.agg
  dsimp only [OpB.fv] at hk hn ht hrow hok hlen ⊢
  go_enter Tryz.func9, Tryz.ntmps9
  have hbA : Below w.heap.size w (w.alloc (.cells #[.int .i64 ok, .int .i64 on, .string ⟨ot.toArray⟩, .slice oa of.length oc] 28)) := (Below.refl _ w).alloc (Nat.le_refl _) _
  have hbx := heap_alloc_new w (.cells #[.int .i64 ok, .int .i64 on, .string ⟨ot.toArray⟩, .slice oa of.length oc] 28)
  have HE := Lib.hid (h.new hbA)
  have HST := Lib.hid hst
  have HJ := Lib.hid hJ
  have HRW := Lib.hid (hrow.keep hbA)
  have HOK := Lib.hid hok
  have HKK := Lib.hid hk
  have HNN := Lib.hid hn
  clear h hbA hst hrow hok hJ hk hn
  go_wp2_with fail
  generalize w.alloc (.cells #[.int .i64 ok, .int .i64 on, .string ⟨ot.toArray⟩, .slice oa of.length oc] 28) = wA at *
  obtain ⟨nb, hnb⟩ : ∃ nb, nb = w.heap.size := ⟨_, rfl⟩
  rw [← hnb] at hbx ⊢
  clear hnb
  have HBX := Lib.hid hbx
  clear hbx
  have FR := Lib.hid (free_any w0 wA pw pb p bm pp N F S T Lc P Rs vt vr K ⟨ok, on, ot, oa, oc, of⟩ HE.out (by omega) (fun r hr hi => by
    rw [← HST.out.lv, liveR_mem]
    exact ⟨r, hr, hi, rfl⟩) (by omega) ht HKK.out (fun r hr => (HE.out.mks r hr).2.len))
  unfold OpB.agg at FR
  refine FR.out.mono ?_
  rintro e w2 ⟨_, rfl, ⟨b, rfl, hb⟩, hb2⟩
  have HE2 := Lib.hid (HE.out.new hb2)
  have HBW := Lib.hid ((Kept.new hb2 (fun _ => False)).old HBX.out id)
  have HRW2 := Lib.hid (HRW.out.keep hb2)
  clear FR hb2 HE HBX HRW
  cases b with
  | false =>
    clear hb
    go_wp2_with fail
    go_ret
    exact ⟨rfl, SvP.same HE2.out HST.out⟩
  | true =>
    have HFR := Lib.hid (free_count HST.out (hb.1 rfl))
    clear hb
    have b0 : w2.cell? ⟨nb, 0, none⟩ = some (.int .i64 ok) := by rw [cell_of_row _ _ _ _ _ _ HBW.out]; rfl
    have b1 : w2.cell? ⟨nb, 1, none⟩ = some (.int .i64 on) := by rw [cell_of_row _ _ _ _ _ _ HBW.out]; rfl
    have b2 : w2.cell? ⟨nb, 2, none⟩ = some (.string ⟨ot.toArray⟩) := by rw [cell_of_row _ _ _ _ _ _ HBW.out]; rfl
    have b3 : w2.cell? ⟨nb, 3, none⟩ = some (.slice oa of.length oc) := by rw [cell_of_row _ _ _ _ _ _ HBW.out]; rfl
    by_cases h012 : ok = 0 ∨ ok = 1 ∨ ok = 2
    · have TX := Lib.hid (textS_any w0 w2 pw pb p bm pp N F S T Lc P Rs vt vr K J ⟨ok, on, ot, oa, oc, of⟩ HE2.out HST.out HJ.out hK hP ht HFR.out)
      unfold OpB.agg at TX
      dsimp only at TX
      rcases h012 with rfl | rfl | rfl
      all_goals
        go_wp2_with fail
        refine TX.out.mono ?_
        rintro e w3 ⟨rfl, N', S', T', P', vt', h1, h2, h3⟩
        have HX := Lib.hid (SvP.wide (K := K) (J := J) (nr := Rs.length) (np := P.length) h1 h2 (by omega) (by omega) (by omega) (by omega))
        clear h1 h2 h3
        go_wp2_with fail
        go_ret
        exact ⟨rfl, HX.out⟩
    · have q0 : (ok == 0) = false := by simp; omega
      have q1 : (ok == 1) = false := by simp; omega
      have q2 : (ok == 2) = false := by simp; omega
      by_cases h3 : ok = 3
      · subst h3
        have SX := Lib.hid (save11_any w0 w2 pw pb p bm pp N F S T Lc P Rs vt vr K J ⟨3, on, ot, oa, oc, of⟩ NF HE2.out HST.out HJ.out hK hP hR HRW2.out HOK.out hlen)
        unfold OpB.agg at SX
        dsimp only at SX
        go_wp2_with fail
        refine SX.out.mono ?_
        rintro e w3 ⟨rfl, N', F', S', T', Lc', P', Rs', vt', vr', h1, h2, h3, h4⟩
        have HX := Lib.hid (SvP.wide (K := K) (J := J) (nr := Rs.length) (np := P.length) h1 h2 (by omega) (by omega) (by omega) (by omega))
        clear h1 h2 h3 h4
        go_wp2_with fail
        go_ret
        exact ⟨rfl, HX.out⟩
      · have q3 : (ok == 3) = false := by simp; omega
        by_cases h45 : ok = 4 ∨ ok = 5
        · have VX := Lib.hid (saved11_any w0 w2 pw pb p bm pp N F S T Lc P Rs vt vr K J ⟨ok, on, ot, oa, oc, of⟩ HE2.out HST.out HJ.out hK hP hR HKK.out HNN.out)
          unfold OpB.agg at VX
          dsimp only at VX
          rcases h45 with rfl | rfl
          all_goals
            go_wp2_with fail
            refine VX.out.mono ?_
            rintro e w3 ⟨rfl, h1⟩
            have HX := Lib.hid h1
            clear h1
            go_wp2_with fail
            go_ret
            exact ⟨rfl, HX.out⟩
        · have q4 : (ok == 4) = false := by simp; omega
          have q5 : (ok == 5) = false := by simp; omega
          go_wp2_with fail
          go_ret
          exact ⟨rfl, SvP.same HE2.out HST.out⟩
end Go.Proofs.YtamiacmnobklaaaGreatDoor

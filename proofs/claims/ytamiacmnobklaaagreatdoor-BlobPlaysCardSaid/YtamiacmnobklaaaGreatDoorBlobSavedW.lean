/- Stage 11's laws: world.saved. -/
import Derived.Test.YtamiacmnobklaaaGreatDoorArX
import Derived.Test.YtamiacmnobklaaaGreatDoorBldShelf
import Derived.Test.YtamiacmnobklaaaGreatDoorP2X
import Derived.Test.YtamiacmnobklaaaGreatDoorB1X
import Derived.Test.YtamiacmnobklaaaGreatDoorLwX
import Derived.Test.YtamiacmnobklaaaGreatDoorP3X
import Derived.Test.YtamiacmnobklaaaGreatDoorP1X
import Derived.Test.YtamiacmnobklaaaGreatDoorB2X
import Derived.Test.YtamiacmnobklaaaGreatDoorBlobPSaveW
import Derived.Test.YtamiacmnobklaaaGreatDoorBookW
import Derived.Test.YtamiacmnobklaaaGreatDoorCdX
import Derived.Test.YtamiacmnobklaaaGreatDoorFtX
import Derived.Test.YtamiacmnobklaaaGreatDoorFrame
import Derived.Test.YtamiacmnobklaaaGreatDoorGen
import Derived.Test.YtamiacmnobklaaaGreatDoorItX
import Derived.Test.YtamiacmnobklaaaGreatDoorMarkMath
import Derived.Test.YtamiacmnobklaaaGreatDoorOwnL
import Derived.Test.YtamiacmnobklaaaGreatDoorProg
import Derived.Test.YtamiacmnobklaaaGreatDoorRiX
import Derived.Test.YtamiacmnobklaaaGreatDoorRfX
import Derived.Test.YtamiacmnobklaaaGreatDoorRefNumW
import Derived.Test.YtamiacmnobklaaaGreatDoorRefOfTW
import Derived.Test.YtamiacmnobklaaaGreatDoorRefReadW
import Derived.Test.YtamiacmnobklaaaGreatDoorRowN
import Derived.Test.YtamiacmnobklaaaGreatDoorRows
import Derived.Test.YtamiacmnobklaaaGreatDoorShelf
import Derived.Test.YtamiacmnobklaaaGreatDoorSoX
import Derived.Test.YtamiacmnobklaaaGreatDoorTmX
import Derived.Test.YtamiacmnobklaaaGreatDoorTreeMath
import Derived.BigQuiet
import Derived.BigRegion
import Derived.Deep.AppendLies
import Derived.Deep.Cut
import Derived.Deep.CutRange
import Derived.Deep.DeepCutAuto
import Derived.Deep.QuietTactic
import Derived.Deep.RegionHeld
import Derived.Deep.RegionHeld3
import Derived.Deep.RegionLaw
import Derived.Deep.Slices
import Derived.Deep.Strs
import Derived.IntWalk
import Derived.Laws.BitsAllLaws
import Derived.Laws.Externs
import Derived.Laws.OwnMore
import Derived.Laws.RangeAny
import Derived.Laws.Rows
import Derived.Laws.Tables
import Derived.Lib.AppendStr
import Derived.Lib.Builder
import Derived.Lib.Hide
import Derived.Lib.SlicesS
import Derived.Lib.SmallJoins
import Derived.Lib.Strings
import Derived.Lib.Walk
import Derived.LoopIn
import Derived.LoopNIn
import Derived.LoopTactic
import Derived.Outline
import Derived.OwnWalkIn
import Derived.RangeFuncBound
import Derived.RangeFuncCalls
import Derived.RangeFuncLeaves
import Derived.RangeFuncNested
import Derived.Shelf.Abstract
import Derived.Shelf.RegionOpen
import Derived.Shelf.Strings.SplitCore
import Derived.Sort.OwnSorted
import Derived.StillTail
import Derived.StillTailTactics
import Derived.TacticsInMore
import Derived.WalkKit
import Derived.WalkLawsBesides
import Derived.WalkSpells
set_option linter.unusedVariables false
namespace Go.Proofs.YtamiacmnobklaaaGreatDoor
open Go.RowKit

/-- What stands behind a call of the law's world. -/
def SvP (w0 w' : World) (pw pb p bm pp : Nat) (K : Nat) (J : Int) (nr np : Nat) : Prop := ∃ N' F' S' T' Lc' P' Rs' vt' vr', PW w0 w' pw pb p bm pp N' F' S' T' Lc' P' Rs' vt' vr' (K + 14) ∧ Stand S' T' Lc' P' Rs' (J + 13) ∧ Rs'.length ≤ nr + 1 ∧ P'.length ≤ np + 13
theorem Stand.mono {S : List Txt} {T : List Ent} {Lc : List (List FileD)} {P : List (Txt × Int)} {Rs : List RootD} {J M : Int} (h : Stand S T Lc P Rs J) (hJ : J ≤ M) : Stand S T Lc P Rs M := ⟨h.rel, h.inj.mono hJ, h.nd, h.ln, h.lv⟩
theorem SvP.same {w0 w : World} {pw pb p bm pp : Nat} {N F : Nat → Prop} {S : List Txt} {T : List Ent} {Lc : List (List FileD)} {P : List (Txt × Int)} {Rs : List RootD} {vt vr : Value} {K : Nat} {J : Int} (h : PW w0 w pw pb p bm pp N F S T Lc P Rs vt vr K) (hst : Stand S T Lc P Rs J) : SvP w0 w pw pb p bm pp K J Rs.length P.length :=
  ⟨_, _, _, _, _, _, _, _, _, h.mono (by omega), hst.mono (by omega), by omega, by omega⟩
set_option maxRecDepth 100000 in
set_option maxHeartbeats 8000000 in
theorem saved11_any (w0 w : World) (pw pb p bm pp : Nat) (N F : Nat → Prop) (S : List Txt) (T : List Ent) (Lc : List (List FileD)) (P : List (Txt × Int)) (Rs : List RootD) (vt vr : Value) (K : Nat) (J : Int) (o : OpB) (h : PW w0 w pw pb p bm pp N F S T Lc P Rs vt vr K) (hst : Stand S T Lc P Rs J) (hJ : 0 ≤ J ∧ J ≤ 100000) (hK : K ≤ 40000) (hP : P.length ≤ 40000) (hR : Rs.length ≤ 40000) (hk : -9223372036854775808 ≤ o.kind ∧ o.kind ≤ 9223372036854775807) (hn : -9223372036854775808 ≤ o.n ∧ o.n ≤ 9223372036854775807) :
    Calls Tryz.prog 36 #[.pointer (some ⟨pw, 0, none⟩), o.agg] w fun e w' => e = .returned (.bool true) ∧ SvP w0 w' pw pb p bm pp K J Rs.length P.length := by
  obtain ⟨ok, on, ot, oa, oc, of⟩ := o
  unfold OpB.agg
  dsimp only at hk hn ⊢
  go_enter Tryz.func36, Tryz.ntmps36
  have hbA : Below w.heap.size w (w.alloc (.cells #[.int .i64 ok, .int .i64 on, .string ⟨ot.toArray⟩, .slice oa of.length oc] 28)) := (Below.refl _ w).alloc (Nat.le_refl _) _
  have hbx := heap_alloc_new w (.cells #[.int .i64 ok, .int .i64 on, .string ⟨ot.toArray⟩, .slice oa of.length oc] 28)
  have HE := Lib.hid (h.new hbA)
  have HST := Lib.hid hst
  have HJ := Lib.hid hJ
  clear h hbA hst
  go_wp2_with fail
  generalize w.alloc (.cells #[.int .i64 ok, .int .i64 on, .string ⟨ot.toArray⟩, .slice oa of.length oc] 28) = wA at *
  obtain ⟨nb, hnb⟩ : ∃ nb, nb = w.heap.size := ⟨_, rfl⟩
  rw [← hnb] at hbx ⊢
  clear hnb
  have b0 : wA.cell? ⟨nb, 0, none⟩ = some (.int .i64 ok) := by rw [cell_of_row _ _ _ _ _ _ hbx]; rfl
  have b1 : wA.cell? ⟨nb, 1, none⟩ = some (.int .i64 on) := by rw [cell_of_row _ _ _ _ _ _ hbx]; rfl
  have c2 := HE.out.wb.c2
  have x1 := HE.out.px.c1
  obtain ⟨ra, rc, hvr, _⟩ := (OwnN.row encR_ok HE.out.orr).slice
  subst hvr
  by_cases hlt : 0 ≤ on ∧ on < Rs.length
  · obtain ⟨i0', j1'⟩ := hlt
    have d1 : decide (on < 0) = false := decide_eq_false (by omega)
    have d2 : decide ((Rs.length : Int) ≤ on) = false := decide_eq_false (by omega)
    obtain ⟨i, hi⟩ : ∃ i : Nat, on = (i : Int) := ⟨on.toNat, by omega⟩
    subst hi
    have i0 : (0 : Int) ≤ (i : Int) := by omega
    have j1 : (i : Int) < (Rs.length : Int) := j1'
    have hlt : i < Rs.length := by omega
    clear i0' j1'
    go_quiet (fail)
    obtain ⟨w3, hw3⟩ : ∃ w3, w3 = wA.drewN nq := ⟨_, rfl⟩
    have HE3 := Lib.hid (HE.out.new (Below_drewN (Below.refl _ _) nq))
    have hbx3 : (wA.drewN nq).heap[nb]? = _ := hbx
    rw [← hw3] at HE3 hbx3 ⊢
    have HBX3 := Lib.hid hbx3
    clear hw3 hbx b0 b1 c2 x1 HE hbx3 d1 d2
    have c2 := HE3.out.wb.c2
    have x1 := HE3.out.px.c1
    have b1 : w3.cell? ⟨nb, 1, none⟩ = some (.int .i64 (i : Int)) := by rw [cell_of_row _ _ _ _ _ _ HBX3.out]; rfl
    have HRO := Lib.hid (OwnN.row encR_ok HE3.out.orr)
    obtain ⟨g, o, c', hv, hn', hel⟩ := HRO.out.at hlt
    injection hv with ea eb ec
    subst ea; subst ec
    clear eb
    have hrm := List.getElem_mem hlt
    have HMK := Lib.hid (HE3.out.mks _ hrm)
    have HRW := Lib.hid (HE3.out.rows _ hrm)
    have HRM := Lib.hid hrm
    clear hrm
    generalize Rs[i] = r at *
    obtain ⟨a, c, l, m, is⟩ := r
    dsimp only [RootD.fv] at HMK HRW
    have e0 := hel 0 _ rfl
    have e1 := hel 1 _ rfl
    have e2 := hel 2 _ rfl
    rw [Nat.add_zero] at e0
    dsimp only at e0 e1 e2
    clear hel
    have c2d : w3.drew.cell? ⟨pw, 2, none⟩ = some (.pointer (some ⟨pp, 0, none⟩)) := c2
    have x1d : w3.drew.cell? ⟨pp, 1, none⟩ = some (.slice (some ⟨g, o, none⟩) Rs.length rc) := x1
    have b1d : w3.drew.cell? ⟨nb, 1, none⟩ = some (.int .i64 (i : Int)) := b1
    have e0d : w3.drew.cell? ⟨g, o + i * 3, none⟩ = some (.slice a l.length c) := e0
    have e1d : w3.drew.cell? ⟨g, o + i * 3 + 1, none⟩ = some (.string ⟨m.toArray⟩) := e1
    have e2d : w3.drew.cell? ⟨g, o + i * 3 + 2, none⟩ = some (.bool is) := e2
    have hal : Below w3.heap.size w3 (w3.alloc (.cells #[.slice none 0 0, .string ⟨#[]⟩, .bool false] 46)).drew := (Below_drew (Below.alloc (Below.refl _ w3) (Nat.le_refl _) _))
    have AC : ∀ {q : Addr} {u : Value}, w3.cell? q = some u → (w3.alloc (.cells #[.slice none 0 0, .string ⟨#[]⟩, .bool false] 46)).drew.cell? q = some u := fun {q u} hq => (hal.cell (p := q) (World.block_lt_of_cell? w3 _ hq)).trans hq
    have c2a := AC c2
    have x1a := AC x1
    have b1a := AC b1
    have e0a := AC e0
    have e1a := AC e1
    have e2a := AC e2
    clear hal AC
    go_wp2_with fail
    apply region_once0 (F := fun w' => Hid (Below w3.heap.size w3 w') ∧ Hid (w'.heap[w3.heap.size]? = some (.cells #[.slice a l.length c, .string ⟨m.toArray⟩, .bool is] 46 (0, 0))))
    case h =>
      go_region
      exact ⟨⟨Lib.hid (Below_drew (Below.alloc (Below.refl _ w3) (Nat.le_refl _) _)), Lib.hid (heap_alloc_new w3 _)⟩, rfl⟩
    case hk =>
      rintro w4 ⟨hb4, hbx4⟩
      simp only [Exit.inBlock, Exit.then]
      have HE4 := Lib.hid (HE3.out.new hb4.out)
      have b0 : w4.cell? ⟨nb, 0, none⟩ = some (.int .i64 ok) := by
        have := (Kept.new hb4.out (fun _ => False)).old HBX3.out id
        rw [cell_of_row _ _ _ _ _ _ this]; rfl
      have HRW4 := Lib.hid (HRW.out.keep hb4.out)
      obtain ⟨rb, hrb⟩ : ∃ rb, rb = w3.heap.size := ⟨_, rfl⟩
      rw [← hrb] at hbx4 ⊢
      have hrl : rb < w4.heap.size := (Array.getElem?_eq_some_iff.1 hbx4.out).1
      have hgb : ∀ g', (Value.slice (some ⟨g, o, none⟩) Rs.length rc).ownBlock = some g' → g' ≠ rb := fun g' e => by have := (HE3.out.orr.lt e).2.1; omega
      have hnr : ¬ N rb := fun e => by have := HE3.out.bl.bw.blob.lt.2 rb e; omega
      have hbr : rb ≠ bm := fun e => by have := HE3.out.bl.bw.id.lt.2; omega
      have hpr : rb ≠ pp := fun e => by have := (Array.getElem?_eq_some_iff.1 HE3.out.px).1; omega
      have htr : ∀ g', vt.ownBlock = some g' → g' ≠ rb := fun g' e => by have := (HE3.out.ot.lt e).2.1; omega
      have HO := Lib.hid (show (∀ g', (Value.slice (some ⟨g, o, none⟩) Rs.length rc).ownBlock = some g' → g' ≠ rb) ∧ ¬ N rb ∧ rb ≠ bm ∧ rb ≠ pp ∧ (∀ g', vt.ownBlock = some g' → g' ≠ rb) from ⟨hgb, hnr, hbr, hpr, htr⟩)
      clear HE3 HRW HBX3 hb4 c2 x1 b1 e0 e1 e2 c2d x1d b1d e0d e1d e2d c2a x1a b1a e0a e1a e2a hrb hgb hnr hbr hpr htr HRO
      have r1 : w4.cell? ⟨rb, 1, none⟩ = some (.string ⟨m.toArray⟩) := by rw [cell_of_row _ _ _ _ _ _ hbx4.out]; rfl
      have c0 := HE4.out.wb.c0
      have hll := HMK.out.2.len
      have hml : m.length = 32 := by rw [HMK.out.1]; unfold mkT; exact mkS_len _ _
      have HMIN := Lib.hid (show is = true → l ∈ Lc from fun e => by
        rw [← HST.out.lv, liveR_mem]
        exact ⟨_, HRM.out, e, rfl⟩)
      by_cases hk5 : ok = 5
      · subst hk5
        have HED := Lib.hid (HE4.out.new (Below_drew (Below.refl _ _)))
        have hbxd : w4.drew.heap[rb]? = _ := hbx4.out
        have HBD := Lib.hid hbxd
        clear hbxd
        have c0d := HED.out.wb.c0
        have r1d : w4.drew.cell? ⟨rb, 1, none⟩ = some (.string ⟨m.toArray⟩) := r1
        have HRWD := Lib.hid (HRW4.out.keep (Below_drew (Below.refl _ _)))
        have LDX := Lib.hid (fun X (h : PW w0 X pw pb p bm pp N F S T Lc P Rs vt (.slice (some ⟨g, o, none⟩) Rs.length rc) K) => show Calls Tryz.prog 21 #[.pointer (some ⟨pb, 0, none⟩), .string ⟨m.toArray⟩] X fun e w' => ∃ v' z l', e = .returned (.tuple #[v', .int .i64 z]) ∧ RowN encF 3 (X.heap.size ≤ ·) w' v' l' ∧ Below X.heap.size X w' ∧ (is = true → z = 0 ∧ l' = l) from by
          by_cases hi : is = true
          · rw [HMK.out.1]
            refine (blLoad_any X pb p bm N S T Lc K l h.bl (by omega) (HMIN.out hi)).mono ?_
            rintro e w' ⟨v', rfl, h1, h2⟩
            exact ⟨v', 0, l, rfl, h1, h2, fun _ => ⟨rfl, rfl⟩⟩
          · refine (bLoad_any X pb p bm N S T _ m h.bl.bw (by omega)).mono ?_
            rintro e w' ⟨v', rfl, h1, h2⟩
            exact ⟨v', _, _, rfl, h1, h2, fun c => absurd c hi⟩)
        go_wp2_with fail
        go_region_held3 (fun w' => w'.cell? ⟨pw, 0, none⟩ = some (.pointer (some ⟨pb, 0, none⟩)) ∧ w'.cell? ⟨rb, 1, none⟩ = some (.string ⟨m.toArray⟩))
          (first | with_reducible exact ⟨by assumption, by assumption⟩ | go_keep)
          (first
            | (go_at_call 21; go_split_ands; refine (LDX.out _ HED.out).mono ?_; rintro e w5 ⟨v5, z5, l5, rfl, hr5, hb5, hz5⟩; obtain ⟨a5, cc5, hv5, _⟩ := hr5.slice; subst hv5; have HE5 := Lib.hid (HED.out.new hb5); have c05 := HE5.out.wb.c0; have HBX5 := Lib.hid ((Kept.new hb5 (fun _ => False)).old HBD.out id); have r15 : w5.cell? ⟨rb, 1, none⟩ = some (.string ⟨m.toArray⟩) := (by rw [cell_of_row _ _ _ _ _ _ HBX5.out]; rfl); have HR5 := Lib.hid hr5; have HRW5 := Lib.hid (HRWD.out.keep hb5); have HZ5 := Lib.hid hz5; clear hr5 hb5 hz5))
        go_split_ands
        have f0 : w5.cell? ⟨rb, 0, none⟩ = some (.slice a l.length c) := by rw [cell_of_row _ _ _ _ _ _ HBX5.out]; rfl
        have f2 : w5.cell? ⟨rb, 2, none⟩ = some (.bool is) := by rw [cell_of_row _ _ _ _ _ _ HBX5.out]; rfl
        clear LDX HED c0d r1d c05 r15
        cases is with
        | true =>
          obtain ⟨ez, el⟩ := HZ5.out rfl
          subst ez; subst el
          have FE := Lib.hid (filesEq_any _ _ _ _ l5 w5 HR5.out HRW5.out (by omega))
          go_wp2_with fail
          refine FE.out.mono ?_
          rintro e w6 ⟨rfl, hb6⟩
          have HE6 := Lib.hid (HE5.out.new hb6)
          clear hb6 FE
          go_wp2_with fail
          go_ret
          exact ⟨rfl, SvP.same HE6.out HST.out⟩
        | false =>
          go_wp2_with fail
          go_ret
          exact ⟨rfl, SvP.same HE5.out HST.out⟩
      · have q5 : (ok == 5) = false := by simp [hk5]
        have MT := Lib.hid (manifest11_any w4 pw pb p bm pp N S T Lc K l HE4.out.wb HE4.out.bl (by omega) HMK.out.2)
        rw [← HMK.out.1] at MT
        have FG := Lib.hid (fun X (h : PW w0 X pw pb p bm pp N F S T Lc P Rs vt (.slice (some ⟨g, o, none⟩) Rs.length rc) K) => by
          have h5 := forget_roots X pb p bm N S T Lc Rs K l h.bl (by omega) HMK.out.2 h.mks HST.out.lv
          rw [← HMK.out.1] at h5
          exact h5)
        go_wp2_with fail
        refine MT.out.mono ?_
        rintro e w5 ⟨sg, hsg, rfl, hb5⟩
        have HSG := Lib.hid hsg
        have HE5 := Lib.hid (HE4.out.new hb5)
        have HBX5 := Lib.hid ((Kept.new hb5 (fun _ => False)).old hbx4.out id)
        have HRW5 := Lib.hid (HRW4.out.keep hb5)
        clear hsg hb5 MT b0 r1 c0 HE4 hbx4 HRW4 hrl
        have HED := Lib.hid (HE5.out.new (Below_drew (Below.refl _ _)))
        have hbxd : w5.drew.heap[rb]? = _ := HBX5.out
        have HBD := Lib.hid hbxd
        clear hbxd
        have HRWD := Lib.hid (HRW5.out.keep (Below_drew (Below.refl _ _)))
        have c0d := HED.out.wb.c0
        have r1d : w5.drew.cell? ⟨rb, 1, none⟩ = some (.string ⟨m.toArray⟩) := by rw [cell_of_row _ _ _ _ _ _ HBD.out]; rfl
        have HFF := Lib.hid (fun g' (hg : F g') => HED.out.ff g' hg)
        go_wp2_with fail
        go_region_held3 (fun w' => w'.cell? ⟨pw, 0, none⟩ = some (.pointer (some ⟨pb, 0, none⟩)) ∧ w'.cell? ⟨rb, 1, none⟩ = some (.string ⟨m.toArray⟩))
          (first | with_reducible exact ⟨by assumption, by assumption⟩ | go_keep)
          (first
            | (go_at_call 31; go_split_ands; refine (FG.out _ HED.out).mono ?_; rintro e w6 ⟨z, N6, T6, Lc6, rfl, hz, hfg⟩; have HE6 := Lib.hid (HED.out.turn hfg.bl hfg.bt HED.out.mks); have c06 := HE6.out.wb.c0; have HBX6 := Lib.hid (hfg.bt.kp.old HBD.out (fun c => by rcases c with c | c; exact HO.out.2.1 c; exact HO.out.2.2.1 c)); have r16 : w6.cell? ⟨rb, 1, none⟩ = some (.string ⟨m.toArray⟩) := (by rw [cell_of_row _ _ _ _ _ _ HBX6.out]; rfl); have HRW6 := Lib.hid (HRWD.out.kept hfg.bt.kp (fun g' hg c => by rcases c with c | c; exact (HFF.out g' hg).n c; exact (HFF.out g' hg).bm c)); have HFG := Lib.hid (And.intro hfg.yes hfg.no); clear hfg))
        go_split_ands
        clear FG HED HBD HRWD c0d r1d HE5 HBX5 HRW5 HFF c06 r16
        rw [← HMK.out.1] at HFG
        have hne : Rs ≠ [] := fun e => by rw [e] at hlt; simp at hlt
        obtain ⟨g2, rc2, hv2, _⟩ := OwnN.atB encR_ok HE6.out.orr hne
        have ho0 : o = 0 := by
          injection hv2 with ea _ _
          injection ea with ea
          injection ea with _ ea _
        subst ho0
        clear hne hv2
        simp only [Nat.zero_add]
        go_wp2_with fail
        go_loopw [10, 11] (fun v10 v11 wr => ∃ (k : Nat) (b : Bool) (Rk : List RootD), k ≤ Rs.length ∧ v10 = .bool b ∧ v11 = .int .i64 (k : Nat) ∧ PW w0 wr pw pb p bm pp N6 F S T6 Lc6 P Rk vt (.slice (some ⟨g, 0, none⟩) Rs.length rc) K ∧ wr.heap[rb]? = some (.cells #[.slice a l.length c, .string ⟨m.toArray⟩, .bool is] 46 (0, 0)) ∧ RowN encF 3 F wr (.slice a l.length c) l ∧ Rk.length = Rs.length ∧ (b = false → Rk = Rs ∧ ∀ r ∈ Rs.take k, ¬ (r.is = true ∧ r.m = m)) ∧ (b = true → Found Rs m ∧ Rk = unRoot Rs m)) (fun _ v11 _ => Rs.length - (intOf v11).toNat)
        case atStart => exact ⟨0, false, Rs, Nat.zero_le _, rfl, rfl, HE6.out, HBX6.out, HRW6.out, rfl, fun _ => ⟨rfl, fun r hr => by simp at hr⟩, fun e => by cases e⟩
        case round =>
          clear HE6 HBX6 HRW6
          obtain ⟨k, b, Rk, hk', rfl, rfl, hew, hbx, hrw, hrkl, hbf, hbt⟩ := hrel
          have HE := Lib.hid hew
          have HBX := Lib.hid hbx
          have HRW := Lib.hid hrw
          have HBF := Lib.hid hbf
          have HBT := Lib.hid hbt
          have HRL := Lib.hid hrkl
          clear hew hbx hrw hbf hbt hrkl
          have c2 := HE.out.wb.c2
          have x1 := HE.out.px.c1
          have k0 : (0 : Int) ≤ (k : Int) := by omega
          by_cases hkl : k < Rs.length
          · have j2 : (k : Int) < (Rs.length : Int) := by omega
            cases b with
            | true =>
              go_wp2_with fail
              go_quiet (fail)
              have HEQ := Lib.hid (HE.out.new (Below_drewN (Below.refl wr.heap.size wr) nq))
              have HRQ := Lib.hid (HRW.out.keep (Below_drewN (Below.refl wr.heap.size wr) nq))
              go_wp2_with fail
              go_roundw
              case rel => exact ⟨k + 1, true, Rk, hkl, rfl, by go_num, HEQ.out, HBX.out, HRQ.out, HRL.out, fun e => (by cases e), fun _ => HBT.out (by trivial)⟩
              case measure => simp [intOf]; omega
            | false =>
              obtain ⟨hrk, hno⟩ := HBF.out rfl
              subst hrk
              have HNO := Lib.hid hno
              clear hno HBF HBT HRL
              obtain ⟨g4, c4, hv4, _, hbg, hgl, hel, hfz⟩ := OwnN.atB encR_ok HE.out.orr (fun e => by rw [e] at hkl; simp at hkl)
              have hg4 : g = g4 := by
                injection hv4 with ea _ _
                injection ea with ea
                injection ea with ea _ _
                try exact ea
              subst hg4
              clear hv4
              have hel1 := hel k hkl
              have hfz1 := hfz (k * 3 + 2)
              have HTK := Lib.hid (show Rk.take (k + 1) = Rk.take k ++ [Rk[k]] from by rw [List.take_succ_eq_append_getElem hkl])
              have HUN := Lib.hid (fun (hy : Rk[k].is = true ∧ Rk[k].m = m) => unRoot_at hkl HNO.out hy)
              have HMM := Lib.hid (show Rk[k] ∈ Rk from List.getElem_mem hkl)
              have HQP := Lib.hid (fun nq => OwnN.putB encR_ok (HE.out.new (Below_drewN (Below.refl wr.heap.size wr) nq)).orr k 2 (.bool false) Rk[k].gone hkl (by decide) (by simp [encR, RootD.gone]))
              clear hel hfz hbg hgl
              generalize Rk[k] = r' at *
              obtain ⟨a', c', l', m', is'⟩ := r'
              have e1 := hel1 1 _ rfl
              have e2 := hel1 2 _ rfl
              dsimp only at e1 e2
              clear hel1
              have HNX := Lib.hid (fun (hx : ¬ (is' = true ∧ m' = m)) => show ∀ r ∈ Rk.take (k + 1), ¬ (r.is = true ∧ r.m = m) from fun r hr => by
                rw [HTK.out] at hr
                rcases List.mem_append.1 hr with cc | cc
                · exact HNO.out r cc
                · rw [List.mem_singleton.1 cc]; exact hx)
              have r1 : wr.cell? ⟨rb, 1, none⟩ = some (.string ⟨m.toArray⟩) := by rw [cell_of_row _ _ _ _ _ _ HBX.out]; rfl
              cases is' with
              | false =>
                go_wp2_with fail
                go_quiet (fail)
                have HEQ := Lib.hid (HE.out.new (Below_drewN (Below.refl wr.heap.size wr) nq))
                have HRQ := Lib.hid (HRW.out.keep (Below_drewN (Below.refl wr.heap.size wr) nq))
                go_wp2_with fail
                go_roundw
                case rel => exact ⟨k + 1, false, Rk, hkl, rfl, by go_num, HEQ.out, HBX.out, HRQ.out, rfl, fun _ => ⟨rfl, HNX.out (fun c => by cases c.1)⟩, fun e => (by cases e)⟩
                case measure => simp [intOf]; omega
              | true =>
                by_cases hmm : m' = m
                · have q1 : (m' == m) = true := by simp [hmm]
                  have HMQ := Lib.hid hmm
                  clear hmm
                  go_wp2_with fail
                  go_quiet (fail)
                  have HEQ := Lib.hid (HE.out.new (Below_drewN (Below.refl wr.heap.size wr) nq))
                  have HRQ := Lib.hid (HRW.out.keep (Below_drewN (Below.refl wr.heap.size wr) nq))
                  have hbq : (wr.drewN nq).heap[rb]? = _ := HBX.out
                  have HP := Lib.hid (HQP.out nq)
                  have hf7 : (wr.drewN nq).frozen? ⟨g, k * 3 + 2, none⟩ = false := hfz1
                  have e27 : (wr.drewN nq).cell? ⟨g, k * 3 + 2, none⟩ = some (.bool true) := e2
                  have c27 : (wr.drewN nq).cell? ⟨pw, 2, none⟩ = some (.pointer (some ⟨pp, 0, none⟩)) := c2
                  have x17 : (wr.drewN nq).cell? ⟨pp, 1, none⟩ = some (.slice (some ⟨g, 0, none⟩) Rk.length rc) := x1
                  generalize wr.drewN nq = w7 at *
                  have HBQ := Lib.hid hbq
                  have hk7 : Kept (fun k' => (Value.slice (some ⟨g, 0, none⟩) Rk.length rc).ownBlock = some k') w7 _ := HP.out.2.mono (fun k' _ e => by rw [e]; rfl)
                  have HE8 := Lib.hid (HEQ.out.putR hk7 HP.out.1 (fun r hr => by
                    rw [← HUN.out ⟨by trivial, HMQ.out⟩] at hr
                    exact unRoot_mem hr))
                  rw [← HUN.out ⟨by trivial, HMQ.out⟩] at HE8
                  have HB8 := Lib.hid (hk7.old HBQ.out (fun e => HO.out.1 _ e rfl))
                  have HR8 := Lib.hid (HRQ.out.kept hk7 (fun g' hg => (HEQ.out.ff g' hg).r))
                  clear hbq HP HQP hfz1 hk7
                  go_wp2_with fail
                  go_roundw
                  case rel => exact ⟨k + 1, true, unRoot Rk m, hkl, rfl, by go_num, HE8.out, HB8.out, HR8.out, unRoot_len _ _, fun e => (by cases e), fun _ => ⟨⟨_, HMM.out, rfl, HMQ.out⟩, rfl⟩⟩
                  case measure => simp [intOf]; omega
                · have q1 : (m' == m) = false := by simp [hmm]
                  have HMQ := Lib.hid hmm
                  clear hmm
                  go_wp2_with fail
                  go_quiet (fail)
                  have HEQ := Lib.hid (HE.out.new (Below_drewN (Below.refl wr.heap.size wr) nq))
                  have HRQ := Lib.hid (HRW.out.keep (Below_drewN (Below.refl wr.heap.size wr) nq))
                  go_wp2_with fail
                  go_roundw
                  case rel => exact ⟨k + 1, false, Rk, hkl, rfl, by go_num, HEQ.out, HBX.out, HRQ.out, rfl, fun _ => ⟨rfl, HNX.out (fun c => HMQ.out c.2)⟩, fun e => (by cases e)⟩
                  case measure => simp [intOf]; omega
          · have j2 : ¬ (k : Int) < (Rs.length : Int) := by omega
            cases b with
            | false =>
              obtain ⟨hrk, hno⟩ := HBF.out rfl
              subst hrk
              rw [List.take_of_length_le (by omega)] at hno
              obtain ⟨ez, el, et⟩ := HFG.out.2 (fun ⟨r, hr, hc⟩ => hno r hr hc)
              subst ez; subst el; subst et
              clear hno HBF HBT
              go_wp2_with fail
              go_ret
              exact ⟨rfl, SvP.same HE.out HST.out⟩
            | true =>
              obtain ⟨hfd, hrk⟩ := HBT.out rfl
              obtain ⟨ez, el, hct⟩ := HFG.out.1 hfd
              subst ez
              have HCT := Lib.hid hct
              have HLC := Lib.hid (show liveR Rk = Lc6 by rw [hrk]; exact el)
              clear hrk
              clear hfd hct el HBF HBT HFG
              have hc1 : 1 ≤ cntE S T (mfS S l) := Nat.le_trans (List.one_le_count_iff.2 (by simp [occS])) (HCT.out (mfS S l)).2
              have HSM := Lib.hid (HSG.out.trans (if_pos hc1))
              have hmfl := mf_len S HMK.out.2.ck (by omega)
              rw [← HSM.out] at hmfl
              clear hc1 HSG
              go_wp2_with fail
              go_loopw [12] (fun v12 wr => ∃ (j : Nat) (vt' : Value), j ≤ l.length ∧ v12 = .int .i64 (j : Nat) ∧ PW w0 wr pw pb p bm pp N6 F S T6 Lc6 (addAllL P (l.take j) (-1)) Rk vt' (.slice (some ⟨g, 0, none⟩) Rs.length rc) K ∧ wr.heap[rb]? = some (.cells #[.slice a l.length c, .string ⟨m.toArray⟩, .bool is] 46 (0, 0)) ∧ RowN encF 3 F wr (.slice a l.length c) l ∧ (∀ g', vt'.ownBlock = some g' → g' ≠ rb)) (fun v12 _ => l.length - (intOf v12).toNat)
              case atStart => exact ⟨0, vt, Nat.zero_le _, rfl, HE.out, HBX.out, HRW.out, HO.out.2.2.2.2⟩
              case round =>
                clear HE HBX HRW
                obtain ⟨j, vt', hj, rfl, hew, hbx, hrw, hvt'⟩ := hrel
                have HE := Lib.hid hew
                have HBX := Lib.hid hbx
                have HRW := Lib.hid hrw
                have HVT := Lib.hid hvt'
                clear hew hbx hrw hvt'
                have j0 : (0 : Int) ≤ (j : Int) := by omega
                have hpl := addAllL_len (-1) (l.take j) P
                have htl : (l.take j).length ≤ 12 := by rw [List.length_take]; omega
                have r0 : wr.cell? ⟨rb, 0, none⟩ = some (.slice a l.length c) := by rw [cell_of_row _ _ _ _ _ _ HBX.out]; rfl
                by_cases hjl : j < l.length
                · have j3 : (j : Int) < (l.length : Int) := by omega
                  obtain ⟨ga, oa', c', hv, hn4, hel⟩ := HRW.out.at hjl
                  injection hv with ea eb ec
                  subst ea; subst ec
                  clear eb
                  have HIJ := Lib.hid (InJ.addAll (n := -1) (by omega) (l.take j) HST.out.inj HJ.out.1)
                  have HSN := Lib.hid (show addAllL P (l.take (j + 1)) (-1) = addL (addAllL P (l.take j) (-1)) l[j].data (-1) from by rw [List.take_succ_eq_append_getElem hjl, addAllL_snoc])
                  generalize l[j] = x at *
                  obtain ⟨xp, xm, xd⟩ := x
                  have f2 := hel 2 _ rfl
                  dsimp only at f2 HSN
                  have HOF := Lib.hid (HE.out.ff ga hn4)
                  have c2 := HE.out.wb.c2
                  have HED := Lib.hid (HE.out.new (Below_drew (Below.refl _ _)))
                  generalize addAllL P (l.take j) (-1) = Q at *
                  have AD := Lib.hid (pAdd_any w0 wr.drew pw pb p bm pp N6 F S T6 Lc6 Q Rk vt' (.slice (some ⟨g, 0, none⟩) Rs.length rc) K xd (-1) HED.out (by omega) (by omega) (HIJ.out.wide (by omega)))
                  have f2d : wr.drew.cell? ⟨ga, oa' + j * 3 + 2, none⟩ = some (.string ⟨xd.toArray⟩) := f2
                  have HF2D := Lib.hid f2d
                  have r0d : wr.drew.cell? ⟨rb, 0, none⟩ = some (.slice (some ⟨ga, oa', none⟩) l.length c) := r0
                  have hbd : wr.drew.heap[rb]? = _ := HBX.out
                  have HBD := Lib.hid hbd
                  clear hbd
                  have HROD := Lib.hid (HRW.out.keep (Below_drew (Below.refl _ _)))
                  have HFF := Lib.hid (fun g' (hg : F g') => HED.out.ff g' hg)
                  clear hel f2d hn4
                  go_wp2_with fail
                  go_region_held3 (fun w' => w'.cell? ⟨pw, 2, none⟩ = some (.pointer (some ⟨pp, 0, none⟩)) ∧ w'.cell? ⟨rb, 0, none⟩ = some (.slice (some ⟨ga, oa', none⟩) l.length c) ∧ w'.cell? ⟨ga, oa' + j * 3 + 2, none⟩ = some (.string ⟨xd.toArray⟩))
                    (first | with_reducible exact ⟨by assumption, by assumption, by assumption⟩ | go_keep)
                    (first
                      | (go_at_call 58; go_split_ands; refine AD.out.mono ?_; rintro e w5 ⟨rfl, vt5, h5, k5⟩; have HE5 := Lib.hid h5; have c25 := HE5.out.wb.c2; have HBX5 := Lib.hid (k5.old HBD.out (fun c => by rcases c with c | c; exact HVT.out _ c rfl; exact HO.out.2.2.2.1 c)); have r05 : w5.cell? ⟨rb, 0, none⟩ = some (.slice (some ⟨ga, oa', none⟩) l.length c) := (by rw [cell_of_row _ _ _ _ _ _ HBX5.out]; rfl); have f25 := (World.cell?_of_block (w := wr.drew) (k5.block ga (World.block_lt_of_cell? _ _ HF2D.out) (fun c => by rcases c with c | c; exact HOF.out.t c; exact HOF.out.pp c))).trans HF2D.out; have HRO5 := Lib.hid (HROD.out.kept k5 (fun g' hg c => by rcases c with c | c; exact (HFF.out g' hg).t c; exact (HFF.out g' hg).pp c)); clear h5 k5))
                  go_split_ands
                  have HV5 := Lib.hid (show ∀ g', vt5.ownBlock = some g' → g' ≠ rb from fun g' e ee => by
                    have h1 := (HE5.out.ot.lt e).2.2
                    obtain ⟨cur, h1⟩ := h1
                    rw [ee] at h1
                    exact block_ne h1 HBX5.out (by decide) rfl)
                  go_wp2_with fail
                  go_roundw
                  case rel => exact ⟨j + 1, vt5, hjl, by go_num, by rw [HSN.out]; exact HE5.out, HBX5.out, HRO5.out, HV5.out⟩
                  case measure => simp [intOf]; omega
                · have j3 : ¬ (j : Int) < (l.length : Int) := by omega
                  rw [List.take_of_length_le (by omega)] at HE hpl
                  have HIJ := Lib.hid (InJ.addAll (n := -1) (by omega) l HST.out.inj HJ.out.1)
                  have c2 := HE.out.wb.c2
                  have HGN := Lib.hid (HST.out.gone (Rs' := Rk) (l := l) HJ.out.1 (by omega) HCT.out HLC.out (fun x hx => ((files_good HMK.out.2.ck).2 x hx).d) (by rw [← HSM.out]; exact hmfl))
                  rw [← HSM.out] at HGN
                  have AD := Lib.hid (pAdd_any w0 wr pw pb p bm pp N6 F S T6 Lc6 (addAllL P l (-1)) Rk vt' (.slice (some ⟨g, 0, none⟩) Rs.length rc) K sg (-1) HE.out (by omega) (by omega) (HIJ.out.wide (by omega)))
                  have HN13 := Lib.hid (show (addL (addAllL P l (-1)) sg (-1)).length ≤ P.length + 13 by have := addL_len (addAllL P l (-1)) sg (-1); omega)
                  have HRL2 := Lib.hid (show Rk.length ≤ Rs.length + 1 by have := HRL.out; omega)
                  clear hpl htl HIJ
                  go_wp2_with fail
                  refine AD.out.mono ?_
                  rintro e w8 ⟨rfl, vt8, h8, k8⟩
                  have HE8 := Lib.hid h8
                  clear h8 k8 AD
                  go_wp2_with fail
                  go_ret
                  exact ⟨rfl, _, _, _, _, _, _, _, _, _, HE8.out.mono (by omega), HGN.out, HRL2.out, HN13.out⟩
  · by_cases hneg : on < 0
    · have d1 : decide (on < 0) = true := decide_eq_true (by omega)
      clear hlt
      go_quiet (fail)
      go_wp2_with fail
      go_ret
      exact ⟨rfl, SvP.same (HE.out.new (Below_drewN (Below.refl _ _) nq)) HST.out⟩
    · have d1 : decide (on < 0) = false := decide_eq_false (by omega)
      have d2 : decide ((Rs.length : Int) ≤ on) = true := decide_eq_true (by omega)
      clear hlt
      go_quiet (fail)
      go_wp2_with fail
      go_ret
      exact ⟨rfl, SvP.same (HE.out.new (Below_drewN (Below.refl _ _) nq)) HST.out⟩
end Go.Proofs.YtamiacmnobklaaaGreatDoor

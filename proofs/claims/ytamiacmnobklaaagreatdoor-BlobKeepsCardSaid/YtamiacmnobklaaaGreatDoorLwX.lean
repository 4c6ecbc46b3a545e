/- Several texts in one: BlobFewW, BlobAwakeW, BlobFreshW. -/
import Derived.Test.YtamiacmnobklaaaGreatDoorArX
import Derived.Test.YtamiacmnobklaaaGreatDoorBldShelf
import Derived.Test.YtamiacmnobklaaaGreatDoorB1X
import Derived.Test.YtamiacmnobklaaaGreatDoorB2X
import Derived.Test.YtamiacmnobklaaaGreatDoorBookW
import Derived.Test.YtamiacmnobklaaaGreatDoorFtX
import Derived.Test.YtamiacmnobklaaaGreatDoorFrame
import Derived.Test.YtamiacmnobklaaaGreatDoorGen
import Derived.Test.YtamiacmnobklaaaGreatDoorItX
import Derived.Test.YtamiacmnobklaaaGreatDoorMarkMath
import Derived.Test.YtamiacmnobklaaaGreatDoorOwnL
import Derived.Test.YtamiacmnobklaaaGreatDoorProg
import Derived.Test.YtamiacmnobklaaaGreatDoorRiX
import Derived.Test.YtamiacmnobklaaaGreatDoorCdX
import Derived.Test.YtamiacmnobklaaaGreatDoorRefOfTW
import Derived.Test.YtamiacmnobklaaaGreatDoorRfX
import Derived.Test.YtamiacmnobklaaaGreatDoorRowN
import Derived.Test.YtamiacmnobklaaaGreatDoorRows
import Derived.Test.YtamiacmnobklaaaGreatDoorShelf
import Derived.Test.YtamiacmnobklaaaGreatDoorSoX
import Derived.Test.YtamiacmnobklaaaGreatDoorTmX
import Derived.Test.YtamiacmnobklaaaGreatDoorTreeMath
import Derived.BigQuiet
import Derived.BigRegion
import Derived.Deep.AppendLies
import Derived.Deep.Cut
import Derived.Deep.CutBlock
import Derived.Deep.CutRange
import Derived.Deep.DeepCutAuto
import Derived.Deep.QuietTactic
import Derived.Deep.RegionHeld
import Derived.Deep.RegionLaw
import Derived.IntWalk
import Derived.Laws.BitsAllLaws
import Derived.Laws.Externs
import Derived.Laws.IdiomStrings
import Derived.Laws.OwnMore
import Derived.Laws.RangeAny
import Derived.Laws.Rows
import Derived.Laws.Tables
import Derived.Lib.AppendStr
import Derived.Lib.Builder
import Derived.Lib.Hide
import Derived.Lib.SlicesS
import Derived.Lib.Strings
import Derived.Lib.Walk
import Derived.LoopIn
import Derived.LoopNIn
import Derived.LoopTactic
import Derived.Outline
import Derived.OwnWalkIn
import Derived.RangeFuncBound
import Derived.RangeFuncCalls
import Derived.RangeFuncLeaves
import Derived.RangeFuncNested
import Derived.Shelf.Abstract
import Derived.Shelf.RegionOpen
import Derived.Shelf.Strings.SplitCore
import Derived.Sort.OwnSorted
import Derived.StillTail
import Derived.StillTailTactics
import Derived.TacticsInMore
import Derived.WalkKit
import Derived.WalkLawsBesides
import Derived.WalkSpells
import Derived.Test.YtamiacmnobklaaaGreatDoorPtX
import Derived.Test.YtamiacmnobklaaaGreatDoorPthX
import Derived.Test.YtamiacmnobklaaaGreatDoorRefReadW
import Derived.Deep.Slices
import Derived.Deep.Strs
import Derived.Lib.SmallJoins
/- Stage 11's laws: cut, few. -/
set_option linter.unusedVariables false
namespace Go.Proofs.YtamiacmnobklaaaGreatDoor
open Go.RowKit

def cutX (x : FileD) : FileD := ⟨x.path, x.mode, x.data.take 300⟩
def fewB (l : List FileD) : List FileD := (l.take 12).map cutX
theorem fewB_len (l : List FileD) : (fewB l).length ≤ 12 := by unfold fewB; rw [List.length_map, List.length_take]; omega
theorem fewB_ok {l : List FileD} (h : ∀ x ∈ l, FileOk x) : ∀ x ∈ fewB l, FileOk x := by
  intro x hx
  obtain ⟨y, hy, rfl⟩ := List.mem_map.1 hx
  have := h y (List.mem_of_mem_take hy)
  exact ⟨this.p, this.m, by show (y.data.take 300).length ≤ _; have := this.d; rw [List.length_take]; omega⟩
def cutT (s : Txt) : Txt := s.take 500
theorem cutT_len (s : Txt) : (cutT s).length ≤ 500 := by unfold cutT; rw [List.length_take]; omega
set_option maxRecDepth 100000 in
theorem cutB_any (s : Txt) (w : World) (hs : s.length ≤ 140737488351232) :
    Calls Tryz.prog 17 #[.string ⟨s.toArray⟩] w fun e w' => e = .returned (.string ⟨(cutT s).toArray⟩) ∧ w = w' := by
  have SL := Lib.hid (show (⟨s.toArray⟩ : ByteArray).size = s.length from rfl)
  by_cases h : 500 < s.length
  · have j : (500 : Int) < (s.length : Int) := by omega
    have HT := Lib.hid (show (⟨s.toArray⟩ : ByteArray).extract 0 500 = ⟨(cutT s).toArray⟩ from take_toArray s 500)
    clear h
    go_enter Tryz.func17, Tryz.ntmps17
    go_wp2_with fail
    go_ret
    exact ⟨by first | rfl | (rw [HT.out]; rfl), rfl⟩
  · have j : ¬ (500 : Int) < (s.length : Int) := by omega
    have HT := Lib.hid (show cutT s = s from List.take_of_length_le (by omega))
    clear h
    go_enter Tryz.func17, Tryz.ntmps17
    go_wp2_with fail
    go_ret
    rw [HT.out]
    exact ⟨rfl, rfl⟩
set_option maxRecDepth 100000 in
set_option maxHeartbeats 2000000 in
theorem fewB_any (v : Value) (l : List FileD) (w : World) {N : Nat → Prop} (hrow : RowN encF 3 N w v l) (hok : ∀ x ∈ l, FileOk x) (hl : l.length ≤ 9223372036854775807) :
    Calls Tryz.prog 13 #[v] w fun e w' => ∃ v', e = .returned v' ∧ OwnN encF 3 w' w.heap.size 80 v' (fewB l) ∧ Below w.heap.size w w' := by
  obtain ⟨va, vc, hv, _⟩ := hrow.slice
  subst hv
  have HRO := Lib.hid hrow
  have HOK := Lib.hid hok
  clear hrow hok
  go_enter Tryz.func13, Tryz.ntmps13
  go_wp2_with fail
  go_loopw [3, 4] (fun v3 v4 wr => ∃ i : Nat, i ≤ l.length ∧ i ≤ 12 ∧ v4 = .int .i64 i ∧ OwnN encF 3 wr w.heap.size 80 v3 ((l.take i).map cutX) ∧ Below w.heap.size w wr) (fun _ v4 _ => 12 - (intOf v4).toNat)
  case atStart => exact ⟨0, by omega, by omega, rfl, OwnN.nil _ _ _ _ _, Below.refl _ _⟩
  case round =>
    obtain ⟨i, hi, hi12, rfl, hown, hbel⟩ := hrel
    have HO := Lib.hid hown
    have HB := Lib.hid hbel
    clear hown hbel
    have hws := HB.out.size
    have i0 : (0 : Int) ≤ (i : Int) := by omega
    by_cases hlt : i < l.length
    · have j1 : (i : Int) < (l.length : Int) := by omega
      by_cases h12 : i < 12
      · have j2 : (i : Int) < 12 := by omega
        obtain ⟨g, o, c', hv, hn, hel⟩ := HRO.out.at hlt
        injection hv with ea eb ec
        subst ea; subst ec
        clear eb
        have hel1 := hel.new HB.out
        have HT := Lib.hid (show (l.take (i + 1)).map cutX = (l.take i).map cutX ++ [cutX l[i]] by rw [List.take_succ_eq_append_getElem hlt, List.map_append]; rfl)
        have hll : ((l.take i).map cutX).length ≤ 12 := by rw [List.length_map, List.length_take]; omega
        have hdl := (HOK.out l[i] (List.getElem_mem hlt)).d
        clear hel
        generalize (l.take i).map cutX = out at *
        generalize l[i] = x at *
        obtain ⟨p, m, d⟩ := x
        have c0 := hel1 0 _ rfl
        have c1 := hel1 1 _ rfl
        have c2 := hel1 2 _ rfl
        rw [Nat.add_zero] at c0
        dsimp only at c0 c1 c2 hdl
        obtain ⟨oa, om, oc, hv3⟩ := own_slice HO.out
        subst hv3
        have SD := Lib.hid (show (⟨d.toArray⟩ : ByteArray).size = d.length from rfl)
        have HCX := Lib.hid (show cutX ⟨p, m, d⟩ = ⟨p, m, d.take 300⟩ from rfl)
        rw [HCX.out] at HT
        clear hel1 HCX
        have hbw : Below wr.heap.size wr (wr.alloc (.cells #[.string ⟨p.toArray⟩, .int .i64 m, .string ⟨(d.take 300).toArray⟩] 80)) := (Below.refl _ wr).alloc (Nat.le_refl _) _
        have HO3 := Lib.hid (HO.out.new hbw)
        have HB3 := Lib.hid (HB.out.trans (hbw.mono HB.out.size))
        have HSZ := Lib.hid (show (wr.alloc (.cells #[.string ⟨p.toArray⟩, .int .i64 m, .string ⟨(d.take 300).toArray⟩] 80)).heap.size = wr.heap.size + 1 by simp)
        clear hbw HO HB
        by_cases hbig : 300 < d.length
        · have j3 : (300 : Int) < (d.length : Int) := by omega
          have HE := Lib.hid (show (⟨d.toArray⟩ : ByteArray).extract 0 300 = ⟨(d.take 300).toArray⟩ from take_toArray d 300)
          clear hbig
          go_wp2_with (at_builtin; (try rw [HE.out]); go_loud (refine append_new (enc := encF) (k := 3) (w := wr.alloc (.cells #[.string ⟨p.toArray⟩, .int .i64 m, .string ⟨(d.take 300).toArray⟩] 80)) (by rfl) (.tmp 28) (.tmp 30) 26 80 (.agg #[.string ByteArray.empty, .int .i64 0, .string ByteArray.empty]) 40 (by rfl) Tryz.underlying26 info_file (by rfl) (by decide) encF_ok w.heap.size _ out ⟨p, m, d.take 300⟩ (by rfl) HO3.out (by rw [HSZ.out]; rfl) (by omega) (by unfold maxLen; omega) (by rw [HSZ.out]; omega) _ (by rfl) ?_; intro v7 w7 hown7 ht7; have HB7 := Lib.hid (HB3.out.trans ht7.bel); have HO7 := Lib.hid hown7; clear hown7 ht7))
          go_roundw
          case rel => exact ⟨i + 1, hlt, by omega, by go_num, by rw [HT.out]; exact HO7.out, HB7.out⟩
          case measure => simp [intOf]; omega
        · have j3 : ¬ (300 : Int) < (d.length : Int) := by omega
          have HE := Lib.hid (show d.take 300 = d from List.take_of_length_le (by omega))
          rw [HE.out] at HO3 HB3 HSZ HT
          clear hbig
          go_wp2_with (at_builtin; go_loud (refine append_new (enc := encF) (k := 3) (w := wr.alloc (.cells #[.string ⟨p.toArray⟩, .int .i64 m, .string ⟨d.toArray⟩] 80)) (by rfl) (.tmp 28) (.tmp 30) 26 80 (.agg #[.string ByteArray.empty, .int .i64 0, .string ByteArray.empty]) 40 (by rfl) Tryz.underlying26 info_file (by rfl) (by decide) encF_ok w.heap.size _ out ⟨p, m, d⟩ (by rfl) HO3.out (by rw [HSZ.out]; rfl) (by omega) (by unfold maxLen; omega) (by rw [HSZ.out]; omega) _ (by rfl) ?_; intro v7 w7 hown7 ht7; have HB7 := Lib.hid (HB3.out.trans ht7.bel); have HO7 := Lib.hid hown7; clear hown7 ht7))
          go_roundw
          case rel => exact ⟨i + 1, hlt, by omega, by go_num, by rw [HT.out]; exact HO7.out, HB7.out⟩
          case measure => simp [intOf]; omega
      · have j2 : ¬ (i : Int) < 12 := by omega
        have HR := Lib.hid (show fewB l = (l.take i).map cutX by unfold fewB; rw [show i = 12 by omega])
        go_wp2_with fail
        go_ret
        exact ⟨_, rfl, by rw [HR.out]; exact HO.out, HB.out⟩
    · have j1 : ¬ (i : Int) < (l.length : Int) := by omega
      have HR := Lib.hid (show fewB l = (l.take i).map cutX by unfold fewB; rw [List.take_of_length_le (by omega), List.take_of_length_le (by omega)])
      go_wp2_with fail
      go_ret
      exact ⟨_, rfl, by rw [HR.out]; exact HO.out, HB.out⟩
end Go.Proofs.YtamiacmnobklaaaGreatDoor
/- Stage 11's laws: awake, fresh. -/
set_option linter.unusedVariables false
namespace Go.Proofs.YtamiacmnobklaaaGreatDoor
open Go.RowKit

/-- A law's world: blobs, their book, the plain model. -/
def WBox (w : World) (pw pb p pp : Nat) : Prop := w.heap[pw]? = some (.cells #[.pointer (some ⟨pb, 0, none⟩), .pointer (some ⟨p, 0, none⟩), .pointer (some ⟨pp, 0, none⟩)] 34 (0, 0))
def PBox (w : World) (pp : Nat) (vt vr : Value) : Prop := w.heap[pp]? = some (.cells #[vt, vr] 44 (0, 0))
theorem WBox.c0 {w : World} {pw pb p pp : Nat} (h : WBox w pw pb p pp) : w.cell? ⟨pw, 0, none⟩ = some (.pointer (some ⟨pb, 0, none⟩)) := by rw [cell_of_row _ _ _ _ _ _ h]; rfl
theorem WBox.c1 {w : World} {pw pb p pp : Nat} (h : WBox w pw pb p pp) : w.cell? ⟨pw, 1, none⟩ = some (.pointer (some ⟨p, 0, none⟩)) := by rw [cell_of_row _ _ _ _ _ _ h]; rfl
theorem WBox.c2 {w : World} {pw pb p pp : Nat} (h : WBox w pw pb p pp) : w.cell? ⟨pw, 2, none⟩ = some (.pointer (some ⟨pp, 0, none⟩)) := by rw [cell_of_row _ _ _ _ _ _ h]; rfl
theorem PBox.c0 {w : World} {pp : Nat} {vt vr : Value} (h : PBox w pp vt vr) : w.cell? ⟨pp, 0, none⟩ = some vt := by rw [cell_of_row _ _ _ _ _ _ h]; rfl
theorem PBox.c1 {w : World} {pp : Nat} {vt vr : Value} (h : PBox w pp vt vr) : w.cell? ⟨pp, 1, none⟩ = some vr := by rw [cell_of_row _ _ _ _ _ _ h]; rfl
theorem perm_nodup {α : Type} [DecidableEq α] {l k : List α} (hl : l.Nodup) (hk : k.Nodup) (h : ∀ a, a ∈ l ↔ a ∈ k) : l.Perm k := by
  rw [List.perm_iff_count]
  intro a
  rw [hl.count, hk.count]
  by_cases c : a ∈ l
  · rw [if_pos c, if_pos ((h a).1 c)]
  · rw [if_neg c, if_neg (fun d => c ((h a).2 d))]
/-- How many texts are kept, and how many bytes they have, told by which have leads. -/
theorem tab_size {S : List Txt} {T : List Ent} (hT : TOk T) (hts : TS S T) (hS : S.length ≤ 1000000) {U : List Txt} (hU : U.Nodup) (h : ∀ s, s ∈ U ↔ 1 ≤ cntE S T s) : T.length = U.length ∧ sumE T = (U.map (·.length)).sum := by
  have hp : (T.map (·.s)).Perm U := perm_nodup (ts_nodup hT hts) hU (fun s => by rw [← cnt_mem hT hts hS s, h])
  refine ⟨by have := hp.length_eq; rwa [List.length_map] at this, ?_⟩
  have h2 := (hp.map (·.length)).sum_nat
  rw [List.map_map] at h2
  exact h2
def two : List FileD := [⟨[97], 0, [120]⟩, ⟨[98], 0, [120]⟩]
theorem two_man : mfS (saveS [] two) two ≠ [120] := by decide +kernel
theorem two_size {T : List Ent} (hT : TOk T) (hts : TS (saveS [] two) T) (hS : (saveS [] two).length ≤ 1000000) (hc : ∀ u, cntE (saveS [] two) T u = (occS (saveS [] two) two).count u) : T.length = 2 := by
  have hn := two_man
  refine (tab_size hT hts hS (U := [mfS (saveS [] two) two, [120]]) (by simp [hn]) (fun s => ?_)).1
  rw [hc]
  unfold occS
  show _ ↔ 1 ≤ List.count s [mfS (saveS [] two) two, [120], [120]]
  rw [List.one_le_count_iff]
  simp
set_option maxRecDepth 100000 in
set_option maxHeartbeats 1000000 in
theorem awake11_any (w : World) : Calls Tryz.prog 12 #[] w fun e w' => e = .returned (.bool true) ∧ Below w.heap.size w w' := by
  have NB := fun w' p bm h => Lib.hid (blNew_any w' p bm h)
  go_enter Tryz.func12, Tryz.ntmps12
  go_wp2_with fail
  refine (ideal_any _).mono ?_
  rintro e w1 ⟨p, bm, rfl, hid1, hp, hbm, hb1⟩
  have HI := Lib.hid hid1
  have HB1 := Lib.hid hb1
  clear hid1 hb1
  go_wp2_with fail
  refine (NB _ _ _ HI.out).out.mono ?_
  rintro e w2 ⟨pb, N, rfl, h2, hN, hb2⟩
  have H2 := Lib.hid h2
  have HB2 := Lib.hid (HB1.out.trans (hb2.mono HB1.out.size))
  have hs1 := HB1.out.size
  have hs2 := hb2.size
  have HNN := Lib.hid (show ∀ k, N k → w.heap.size ≤ k from fun k hk => Nat.le_trans hs1 (hN k hk))
  clear h2 hb2 NB HI HB1 hN
  go_wp2_with fail
  have hbA : Below w2.heap.size w2 (w2.alloc (.cells #[.string ⟨#[97]⟩, .int .i64 0, .string ⟨#[120]⟩, .string ⟨#[98]⟩, .int .i64 0, .string ⟨#[120]⟩] 80)) := (Below.refl _ w2).alloc (Nat.le_refl _) _
  have hrow : RowN encF 3 (· = w2.heap.size) (w2.alloc (.cells #[.string ⟨#[97]⟩, .int .i64 0, .string ⟨#[120]⟩, .string ⟨#[98]⟩, .int .i64 0, .string ⟨#[120]⟩] 80)) (.slice (some ⟨w2.heap.size, 0, none⟩) 2 2) two := by
    refine ⟨_, 2, rfl, Nat.le_refl _, fun i hi => ⟨_, 0, rfl, rfl, fun r u hu => ?_⟩⟩
    rw [cell_of_row _ _ _ _ _ _ (heap_alloc_new _ _)]
    match i, hi with
    | 0, _ => match r, hu with
      | 0, hu => exact hu
      | 1, hu => exact hu
      | 2, hu => exact hu
    | 1, _ => match r, hu with
      | 0, hu => exact hu
      | 1, hu => exact hu
      | 2, hu => exact hu
  have HA := Lib.hid (H2.out.new hbA)
  have HBA := Lib.hid (HB2.out.trans (hbA.mono HB2.out.size))
  have hN2 := H2.out.bw.blob.lt.2
  have hbm2 := H2.out.bw.id.lt.2
  have SV := Lib.hid (blSave_any _ pb p bm N (· = w2.heap.size) [] [] [] 0 _ two HA.out (by omega) (fun g hg => ⟨fun c => by have := hN2 g c; omega, fun e => by omega⟩) hrow (by decide) (by decide +kernel))
  generalize hwA : w2.alloc (.cells #[.string ⟨#[97]⟩, .int .i64 0, .string ⟨#[120]⟩, .string ⟨#[98]⟩, .int .i64 0, .string ⟨#[120]⟩] 80) = wA at *
  clear hwA hrow hbA hN2 hbm2 H2 HB2
  refine SV.out.mono ?_
  rintro e w3 ⟨rfl, N3, T3, h3, ht3, hc3⟩
  have hlen := two_size h3.bw.blob.tok h3.ts (by have := h3.sl; omega) (fun u => by rw [hc3, cnt_nil, Nat.zero_add])
  have hs := HBA.out.size
  have HB3 := Lib.hid (HBA.out.trans (ht3.below hs HNN.out hbm))
  have CT := Lib.hid (bCount_any w3 pb p bm N3 _ T3 _ h3.bw)
  rw [hlen] at CT
  have CK := Lib.hid (blCheck_any w3 pb p bm N3 _ T3 _ _ h3 (by omega))
  clear h3 ht3 hc3 hlen SV HA HBA
  generalize mkT (saveS [] two) two = mk at *
  go_wp2_with fail
  refine CT.out.mono ?_
  rintro e w4 ⟨rfl, rfl⟩
  go_wp2_with fail
  refine CK.out.mono ?_
  rintro e w5 ⟨rfl, hb5⟩
  go_wp2_with fail
  go_ret
  exact ⟨rfl, HB3.out.trans (hb5.mono HB3.out.size)⟩
end Go.Proofs.YtamiacmnobklaaaGreatDoor
/- Stage 11's laws: fresh. -/
set_option linter.unusedVariables false
namespace Go.Proofs.YtamiacmnobklaaaGreatDoor
open Go.RowKit

/-- What a law has at its start: all of it is new. -/
structure FreshW (w0 w : World) (pw pb p bm pp : Nat) (N : Nat → Prop) : Prop where
  wb : WBox w pw pb p pp
  pbx : PBox w pp (.slice none 0 0) (.slice none 0 0)
  bl : BL w pb p bm N [] [] [] 0
  nn : ∀ k, N k → w0.heap.size ≤ k
  nw : ¬ N pw
  np : ¬ N pp
  bmw : bm ≠ pw
  bmp : bm ≠ pp
  lo : w0.heap.size ≤ bm ∧ w0.heap.size ≤ pw ∧ w0.heap.size ≤ pp
  bel : Below w0.heap.size w0 w
set_option maxRecDepth 100000 in
set_option maxHeartbeats 1000000 in
theorem fresh_any (w : World) : Calls Tryz.prog 8 #[] w fun e w' => ∃ pw pb p bm pp N, e = .returned (.pointer (some ⟨pw, 0, none⟩)) ∧ FreshW w w' pw pb p bm pp N := by
  have NB := fun w' p bm h => Lib.hid (blNew_any w' p bm h)
  go_enter Tryz.func8, Tryz.ntmps8
  go_wp2_with fail
  refine (ideal_any _).mono ?_
  rintro e w1 ⟨p, bm, rfl, hid1, hp, hbm, hb1⟩
  have HI := Lib.hid hid1
  have HB1 := Lib.hid hb1
  clear hid1 hb1
  go_wp2_with fail
  refine (NB _ _ _ HI.out).out.mono ?_
  rintro e w2 ⟨pb, N, rfl, h2, hN, hb2⟩
  have hs1 := HB1.out.size
  have hbm2 := h2.bw.id.lt.2
  have hN2 := h2.bw.blob.lt.2
  have HB2 := HB1.out.trans (hb2.mono HB1.out.size)
  have hs2 := HB2.size
  have hbA : Below w2.heap.size w2 (w2.alloc (.cells #[.slice none 0 0, .slice none 0 0] 44)) := (Below.refl _ w2).alloc (Nat.le_refl _) _
  have hbB : Below w2.heap.size w2 ((w2.alloc (.cells #[.slice none 0 0, .slice none 0 0] 44)).alloc (.cells #[.pointer (some ⟨pb, 0, none⟩), .pointer (some ⟨p, 0, none⟩), .pointer (some ⟨w2.heap.size, 0, none⟩)] 34)) := hbA.alloc (by simp) _
  have hn1 := heap_alloc_new w2 (.cells #[.slice none 0 0, .slice none 0 0] 44)
  have hn2 := heap_alloc_new (w2.alloc (.cells #[.slice none 0 0, .slice none 0 0] 44)) (.cells #[.pointer (some ⟨pb, 0, none⟩), .pointer (some ⟨p, 0, none⟩), .pointer (some ⟨w2.heap.size, 0, none⟩)] 34)
  have hsz : (w2.alloc (.cells #[.slice none 0 0, .slice none 0 0] 44)).heap.size = w2.heap.size + 1 := by simp
  rw [hsz] at hn2
  have hpb : ((w2.alloc (.cells #[.slice none 0 0, .slice none 0 0] 44)).alloc (.cells #[.pointer (some ⟨pb, 0, none⟩), .pointer (some ⟨p, 0, none⟩), .pointer (some ⟨w2.heap.size, 0, none⟩)] 34)).heap[w2.heap.size]? = some (.cells #[.slice none 0 0, .slice none 0 0] 44 (0, 0)) := by
    rw [Below.heap_alloc _ _ _ (by rw [hsz]; omega)]; exact hn1
  have HF := Lib.hid (show FreshW w ((w2.alloc (.cells #[.slice none 0 0, .slice none 0 0] 44)).alloc (.cells #[.pointer (some ⟨pb, 0, none⟩), .pointer (some ⟨p, 0, none⟩), .pointer (some ⟨w2.heap.size, 0, none⟩)] 34)) (w2.heap.size + 1) pb p bm w2.heap.size N from
    ⟨hn2, hpb, h2.new hbB, fun k hk => Nat.le_trans hs1 (hN k hk), fun c => by have := hN2 _ c; omega, fun c => by have := hN2 _ c; omega, by omega, by omega, ⟨hbm, by omega, by omega⟩, HB2.trans (hbB.mono hs2)⟩)
  clear hbA hbB hn1 hn2 hsz hpb h2 hb2 NB HI HB1 HB2 hN hN2
  go_wp2_with fail
  go_ret
  exact ⟨_, pb, p, bm, _, N, rfl, HF.out⟩
end Go.Proofs.YtamiacmnobklaaaGreatDoor

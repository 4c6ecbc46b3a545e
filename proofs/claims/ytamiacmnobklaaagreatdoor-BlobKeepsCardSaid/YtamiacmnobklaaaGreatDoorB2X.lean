/- Several texts in one: BlobManW, BlobLoadW, BlobSetW, BlobForW, BlobBytesW, BlobCheckW, BlobRootsW, BlobItems, BlobLaw, BlobSaveW, BlobLiveW. -/
import Derived.Test.YtamiacmnobklaaaGreatDoorArX
import Derived.Test.YtamiacmnobklaaaGreatDoorBldShelf
import Derived.Test.YtamiacmnobklaaaGreatDoorB1X
import Derived.Test.YtamiacmnobklaaaGreatDoorFrame
import Derived.Test.YtamiacmnobklaaaGreatDoorGen
import Derived.Test.YtamiacmnobklaaaGreatDoorMarkMath
import Derived.Test.YtamiacmnobklaaaGreatDoorOmX
import Derived.Test.YtamiacmnobklaaaGreatDoorRiX
import Derived.Test.YtamiacmnobklaaaGreatDoorOwnL
import Derived.Test.YtamiacmnobklaaaGreatDoorProg
import Derived.Test.YtamiacmnobklaaaGreatDoorCdX
import Derived.Test.YtamiacmnobklaaaGreatDoorRowN
import Derived.Test.YtamiacmnobklaaaGreatDoorRows
import Derived.Test.YtamiacmnobklaaaGreatDoorShelf
import Derived.Test.YtamiacmnobklaaaGreatDoorSoX
import Derived.Test.YtamiacmnobklaaaGreatDoorTmX
import Derived.Test.YtamiacmnobklaaaGreatDoorTreeMath
import Derived.BigQuiet
import Derived.BigRegion
import Derived.ChangeAlike
import Derived.Deep.Cut
import Derived.Deep.CutBlock
import Derived.Deep.CutRange
import Derived.Deep.DeepCutAuto
import Derived.Deep.QuietTactic
import Derived.Deep.RegionHeld
import Derived.Deep.RegionLaw
import Derived.Deep.Slices
import Derived.Deep.Strs
import Derived.IntWalk
import Derived.Laws.BitsAllLaws
import Derived.Laws.Externs
import Derived.Laws.IdiomStrings
import Derived.Laws.OwnMore
import Derived.Laws.RangeAny
import Derived.Laws.Rows
import Derived.Laws.Tables
import Derived.Lib.AppendStr
import Derived.Lib.Builder
import Derived.Lib.Hide
import Derived.Lib.SmallJoins
import Derived.Lib.Strings
import Derived.Lib.Walk
import Derived.LoopIn
import Derived.LoopNIn
import Derived.LoopTactic
import Derived.Maps.OwnSet
import Derived.Maps.Views
import Derived.Outline
import Derived.OwnWalkIn
import Derived.RangeFuncBound
import Derived.RangeFuncCalls
import Derived.RangeFuncLeaves
import Derived.RangeFuncNested
import Derived.RegionTactic
import Derived.Shelf.Abstract
import Derived.Shelf.RegionOpen
import Derived.Shelf.Strings.SplitCore
import Derived.StillTail
import Derived.TacticsInMore
import Derived.WalkKit
import Derived.WalkLawsBesides
import Derived.WalkSpells
import Derived.Test.YtamiacmnobklaaaGreatDoorBookW
import Derived.Test.YtamiacmnobklaaaGreatDoorFtX
import Derived.Test.YtamiacmnobklaaaGreatDoorRfX
import Derived.Test.YtamiacmnobklaaaGreatDoorRefOfTW
import Derived.Test.YtamiacmnobklaaaGreatDoorRefNumW
import Derived.Test.YtamiacmnobklaaaGreatDoorRefReadW
import Derived.Lib.SlicesS
import Derived.Sort.OwnSorted
import Derived.Test.YtamiacmnobklaaaGreatDoorPthX
import Derived.Test.YtamiacmnobklaaaGreatDoorItX
import Derived.Test.YtamiacmnobklaaaGreatDoorAwX
import Derived.Test.YtamiacmnobklaaaGreatDoorRefMatchW9
import Derived.Test.YtamiacmnobklaaaGreatDoorTBytesW
import Derived.Deep.AppendLies
import Derived.StillTailTactics
/- Landed blob: manifest, walked. -/
set_option linter.unusedVariables false
namespace Go.Proofs.YtamiacmnobklaaaGreatDoor
open Go.RowKit

/-- What manifest tells. -/
def manE (T : List Ent) (m : Txt) : List ItemD × Int := if (gotE T m).2 = 0 then ofS (gotE T m).1 else ([], (gotE T m).2)
theorem gotE_len {T : List Ent} (hT : TOk T) (m : Txt) : (gotE T m).1.length ≤ 65536 := by
  unfold gotE
  cases h : getE T m with
  | none => simp
  | some x => exact hT.sm x (getE_some h).1
set_option maxRecDepth 100000 in
theorem bMan_any (w : World) (pb p bm : Nat) (N : Nat → Prop) (S : List Txt) (T : List Ent) (R : List Txt) (m : Txt) (h : BW w pb p bm N S T R) (hl : m.length ≤ 140737488351232) :
    Calls Tryz.prog 38 #[.pointer (some ⟨pb, 0, none⟩), .string ⟨m.toArray⟩] w fun e w' => ∃ v', e = .returned (.tuple #[v', .int .i64 (manE T m).2]) ∧ RowN encI 4 (w.heap.size ≤ ·) w' v' (manE T m).1 ∧ Below w.heap.size w w' := by
  have GT := Lib.hid (bGet_any w pb p bm N S T R m h hl)
  have OF := fun w' => Lib.hid (tOf_at (gotE T m).1 w' (by have := gotE_len h.blob.tok m; omega))
  have HM := Lib.hid (show manE T m = if (gotE T m).2 = 0 then ofS (gotE T m).1 else ([], (gotE T m).2) from rfl)
  clear h
  generalize manE T m = res at *
  generalize gotE T m = g at *
  obtain ⟨gs, ge⟩ := g
  dsimp only at *
  generalize ofS gs = of at *
  by_cases hz : ge = 0
  · have m1 : (ge != 0) = false := by simp [hz]
    rw [if_pos hz] at HM
    clear hz
    go_enter Tryz.func38, Tryz.ntmps38
    go_wp2_with fail
    refine GT.out.mono ?_
    rintro e w1 ⟨rfl, hb1⟩
    have HB1 := Lib.hid hb1
    clear hb1
    go_wp2_with fail
    refine (OF _).out.mono ?_
    rintro e w2 ⟨v', rfl, hrow, hb2⟩
    have HRW := Lib.hid (hrow.mono (M := (w.heap.size ≤ ·)) (fun g hg => Nat.le_trans HB1.out.size hg))
    have HB2 := Lib.hid (HB1.out.trans (hb2.mono HB1.out.size))
    clear hrow hb2 HB1
    go_wp2_with fail
    go_ret2
    exact ⟨_, by rw [HM.out]; rfl, by rw [HM.out]; exact HRW.out, HB2.out⟩
  · have m1 : (ge != 0) = true := by simp [hz]
    rw [if_neg hz] at HM
    go_enter Tryz.func38, Tryz.ntmps38
    go_wp2_with fail
    refine GT.out.mono ?_
    rintro e w1 ⟨rfl, hb1⟩
    go_wp2_with fail
    go_ret2
    exact ⟨_, by rw [HM.out]; rfl, by rw [HM.out]; exact RowN.nil _ _ _ _, hb1⟩
end Go.Proofs.YtamiacmnobklaaaGreatDoor
/- Landed blob: Load, walked. -/
set_option linter.unusedVariables false
namespace Go.Proofs.YtamiacmnobklaaaGreatDoor
open Go.RowKit

theorem info_fileB : (Tryz.prog.info? 80).map (fun i => (i.zero, i.size, i.bytes)) = some (some (.agg #[.string ByteArray.empty, .int .i64 0, .string ByteArray.empty]), 3, 40) := by kernel_rfl
theorem ofS_good (s : Txt) : (ofS s).1.length ≤ 256 ∧ ∀ x ∈ (ofS s).1, ItGood x := by
  unfold ofS ofEnd
  split
  · exact ⟨by simp, fun x hx => by cases hx⟩
  · split
    · exact ⟨by simp, fun x hx => by cases hx⟩
    · split
      · exact ⟨by simp, fun x hx => by cases hx⟩
      · rename_i h
        exact right_good (Classical.not_not.1 h)
theorem manE_good (T : List Ent) (m : Txt) : (manE T m).1.length ≤ 256 ∧ ∀ x ∈ (manE T m).1, ItGood x := by
  unfold manE
  split
  · exact ofS_good _
  · exact ⟨by simp, fun x hx => by cases hx⟩
/-- A file of an item. -/
def fileB (T : List Ent) (x : ItemD) : FileD := ⟨x.path, x.mode, (gotE T x.mark).1⟩
def loadE (T : List Ent) (m : Txt) : List FileD × Int :=
  if (manE T m).2 ≠ 0 then ([], (manE T m).2)
  else if ∀ x ∈ (manE T m).1, x.mark ∈ keysE T then (if ∀ x ∈ (manE T m).1, ((gotE T x.mark).1.length : Int) = x.size then ((manE T m).1.map (fileB T), 0) else ([], 19))
  else ([], 8)
theorem gotE_two (T : List Ent) (m : Txt) : ((gotE T m).2 = 0 ∧ m ∈ keysE T) ∨ ((gotE T m).2 = 8 ∧ m ∉ keysE T) := by
  by_cases h : m ∈ keysE T
  · obtain ⟨x, hx, _⟩ := getE_in h
    rw [gotE_in hx]
    exact .inl ⟨rfl, h⟩
  · rw [gotE_no h]
    exact .inr ⟨rfl, h⟩
set_option maxRecDepth 100000 in
set_option maxHeartbeats 2000000 in
theorem bLoad_any (w : World) (pb p bm : Nat) (N : Nat → Prop) (S : List Txt) (T : List Ent) (R : List Txt) (m : Txt) (h : BW w pb p bm N S T R) (hl : m.length ≤ 140737488351232) :
    Calls Tryz.prog 21 #[.pointer (some ⟨pb, 0, none⟩), .string ⟨m.toArray⟩] w fun e w' => ∃ v', e = .returned (.tuple #[v', .int .i64 (loadE T m).2]) ∧ RowN encF 3 (w.heap.size ≤ ·) w' v' (loadE T m).1 ∧ Below w.heap.size w w' := by
  have MN := Lib.hid (bMan_any w pb p bm N S T R m h hl)
  have HH := Lib.hid h
  have hsz := h.lens.1
  obtain ⟨hg1, hg2⟩ := manE_good T m
  have HG := Lib.hid hg2
  have HL := Lib.hid (show loadE T m = (if (manE T m).2 ≠ 0 then ([], (manE T m).2) else if ∀ x ∈ (manE T m).1, x.mark ∈ keysE T then (if ∀ x ∈ (manE T m).1, ((gotE T x.mark).1.length : Int) = x.size then ((manE T m).1.map (fileB T), 0) else ([], 19)) else ([], 8)) from rfl)
  have HTK := Lib.hid h.blob.tok
  clear h hg2
  generalize loadE T m = res at *
  generalize manE T m = mn at *
  obtain ⟨l, me⟩ := mn
  dsimp only at hg1 HG HL MN
  go_enter Tryz.func21, Tryz.ntmps21
  go_wp2_with fail
  refine MN.out.mono ?_
  rintro e w1 ⟨v1, rfl, hrow, hb1⟩
  obtain ⟨va, vc, hv, _⟩ := hrow.slice
  subst hv
  have HRO := Lib.hid hrow
  have HB1 := Lib.hid hb1
  clear hrow hb1 MN
  by_cases hz : me = 0
  · have m1 : (me != 0) = false := by simp [hz]
    rw [if_neg (fun k => k hz)] at HL
    clear hz
    go_wp2_with fail
    go_loopw [8, 26] (fun v8 v26 wr => ∃ i : Nat, i ≤ l.length ∧ v26 = .int .i64 i ∧ OwnN encF 3 wr w1.heap.size 80 v8 ((l.take i).map (fileB T)) ∧ (∀ x ∈ l.take i, x.mark ∈ keysE T) ∧ Below w.heap.size w wr ∧ Below w1.heap.size w1 wr) (fun _ v26 _ => l.length - (intOf v26).toNat)
    case atStart => exact ⟨0, by omega, rfl, OwnN.nil _ _ _ _ _, by simp, HB1.out, Below.refl _ _⟩
    case round =>
      obtain ⟨i, hi, rfl, hown, hin, hbel, hbel1⟩ := hrel
      have HO := Lib.hid hown
      have HIN := Lib.hid hin
      have HB := Lib.hid hbel
      have HBB := Lib.hid hbel1
      clear hown hin hbel hbel1
      have i0 : (0 : Int) ≤ (i : Int) := by omega
      by_cases hlt : i < l.length
      · have j1 : (i : Int) < (l.length : Int) := by omega
        obtain ⟨g, o, c', hv, hn, hel⟩ := HRO.out.at hlt
        injection hv with ea eb ec
        subst ea; subst ec
        clear eb
        have hel1 := hel.new HBB.out
        have d0 := hel1 0 _ rfl
        have d1 := hel1 1 _ rfl
        have d2 := hel1 2 _ rfl
        have d3 := hel1 3 _ rfl
        rw [Nat.add_zero] at d0
        have hxg := HG.out l[i] (List.getElem_mem hlt)
        have hT1 := List.take_succ_eq_append_getElem hlt
        have HT := Lib.hid (show (l.take (i + 1)).map (fileB T) = (l.take i).map (fileB T) ++ [fileB T l[i]] by rw [hT1, List.map_append]; rfl)
        have HT2 := Lib.hid (show l[i].mark ∈ keysE T → ∀ x ∈ l.take (i + 1), x.mark ∈ keysE T by
          intro hk x hx
          rw [hT1] at hx
          rcases List.mem_append.1 hx with c | c
          · exact HIN.out x c
          · rw [List.mem_singleton.1 c]; exact hk)
        have HNO := Lib.hid (show l[i].mark ∉ keysE T → ¬ ∀ x ∈ l, x.mark ∈ keysE T from fun hno hall => hno (hall _ (List.getElem_mem hlt)))
        have hll : ((l.take i).map (fileB T)).length ≤ 256 := by rw [List.length_map, List.length_take]; omega
        have hgl := gotE_len HTK.out l[i].mark
        have htwo := gotE_two T l[i].mark
        have hfb : fileB T l[i] = ⟨l[i].path, l[i].mode, (gotE T l[i].mark).1⟩ := rfl
        clear hel hel1 hT1
        generalize l[i] = x at *
        obtain ⟨pt, md, sz, mk⟩ := x
        dsimp only at d0 d1 d2 d3 HT HT2 HNO htwo hfb hgl hxg
        rw [hfb] at HT
        clear hfb
        have hmk := hxg.k
        dsimp only at hmk
        have GT := Lib.hid (fun w' (hb : Below w.heap.size w w') => bGet_any w' pb p bm N S T R mk (HH.out.new hb) (by omega))
        generalize (l.take i).map (fileB T) = out at *
        generalize gotE T mk = gt at *
        obtain ⟨gs, ge⟩ := gt
        dsimp only at HT htwo hgl GT
        obtain ⟨oa, om, oc, hv5⟩ := own_slice HO.out
        subst hv5
        have hbA : Below w.heap.size w (wr.alloc (.cells #[.string ⟨pt.toArray⟩, .int .i64 md, .int .i64 sz, .string ⟨mk.toArray⟩] 78)) := HB.out.alloc HB.out.size _
        have GT2 := Lib.hid (GT.out _ hbA)
        have HBA := Lib.hid hbA
        have HB1A := Lib.hid (HBB.out.alloc HBB.out.size (.cells #[.string ⟨pt.toArray⟩, .int .i64 md, .int .i64 sz, .string ⟨mk.toArray⟩] 78))
        have HOA := Lib.hid (HO.out.new ((Below.refl _ wr).alloc (Nat.le_refl _) (.cells #[.string ⟨pt.toArray⟩, .int .i64 md, .int .i64 sz, .string ⟨mk.toArray⟩] 78)))
        have hbx := heap_alloc_new wr (.cells #[.string ⟨pt.toArray⟩, .int .i64 md, .int .i64 sz, .string ⟨mk.toArray⟩] 78)
        clear hbA hxg GT HO HB HBB
        go_wp2_with fail
        generalize hwA : wr.alloc (.cells #[.string ⟨pt.toArray⟩, .int .i64 md, .int .i64 sz, .string ⟨mk.toArray⟩] 78) = wA at *
        obtain ⟨nb, hnb⟩ : ∃ nb, nb = wr.heap.size := ⟨_, rfl⟩
        rw [← hnb] at hbx ⊢
        clear hwA hnb d0 d1 d2 d3
        refine GT2.out.mono ?_
        rintro e w2 ⟨rfl, hb2⟩
        have hbx2 := hbx
        have k0 : w2.cell? ⟨nb, 0, none⟩ = some (.string ⟨pt.toArray⟩) := by rw [cell_of_row _ _ _ _ _ _ ((Kept.new hb2 (fun _ => False)).old hbx id)]; rfl
        have k1 : w2.cell? ⟨nb, 1, none⟩ = some (.int .i64 md) := by rw [cell_of_row _ _ _ _ _ _ ((Kept.new hb2 (fun _ => False)).old hbx id)]; rfl
        have HB2 := Lib.hid (HBA.out.trans (hb2.mono HBA.out.size))
        have HB12 := Lib.hid (HB1A.out.trans (hb2.mono HB1A.out.size))
        have HO2 := Lib.hid (HOA.out.new hb2)
        clear hb2 GT2 HBA HB1A HOA hbx hbx2
        rcases htwo with ⟨rfl, hk⟩ | ⟨rfl, hno⟩
        · have HK := Lib.hid hk
          clear hk HNO
          go_wp2_with (at_builtin; go_loud (refine append_new (enc := encF) (k := 3) (w := w2) (by rfl) (.tmp 40) (.tmp 47) 26 80 (.agg #[.string ByteArray.empty, .int .i64 0, .string ByteArray.empty]) 40 (by rfl) Tryz.underlying26 info_fileB (by rfl) (by decide) encF_ok w1.heap.size _ out ⟨pt, md, gs⟩ (by rfl) HO2.out (by rfl) (by omega) (by unfold maxLen; omega) HB12.out.size _ (by rfl) ?_; intro v7 w7 hown7 ht7; have HB7 := Lib.hid (HB2.out.trans (ht7.bel.mono HB1.out.size)); have HB17 := Lib.hid (HB12.out.trans ht7.bel); have HO7 := Lib.hid hown7; clear hown7 ht7))
          go_roundw
          case rel => exact ⟨i + 1, hlt, by go_num, by rw [HT.out]; exact HO7.out, HT2.out HK.out, HB7.out, HB17.out⟩
          case measure => simp [intOf]; omega
        · have HN := Lib.hid (HNO.out hno)
          rw [if_neg HN.out] at HL
          go_wp2_with fail
          go_ret2
          exact ⟨_, by rw [HL.out]; rfl, by rw [HL.out]; exact RowN.nil _ _ _ _, HB2.out⟩
      · obtain rfl : i = l.length := by omega
        have j1 : ¬ (l.length : Int) < (l.length : Int) := by omega
        rw [List.take_of_length_le (Nat.le_refl _)] at HO HIN
        rw [if_pos HIN.out] at HL
        obtain ⟨oa, om, oc, hv5⟩ := own_slice HO.out
        have hom := own_lenV HO.out
        subst hv5
        have hom' : om = l.length := by rw [List.length_map] at hom; exact hom
        subst hom'
        have HROW := Lib.hid ((OwnN.row encF_ok HO.out).mono (M := (w.heap.size ≤ ·)) (fun g hg => Nat.le_trans HB1.out.size hg))
        obtain ⟨w3, hw3⟩ : ∃ w3, w3 = wr := ⟨_, rfl⟩
        rw [← hw3] at HROW HB HBB ⊢
        have HRO3 := Lib.hid (HRO.out.keep HBB.out)
        have HB3 := Lib.hid HB.out
        clear hw3 HO HB HBB hom HRO wr
        go_wp2_with fail
        go_loopw [52] (fun v52 wr => ∃ i : Nat, i ≤ l.length ∧ v52 = .int .i64 i ∧ (∀ x ∈ l.take i, ((gotE T x.mark).1.length : Int) = x.size) ∧ Below w3.heap.size w3 wr) (fun v52 _ => l.length - (intOf v52).toNat)
        case atStart => exact ⟨0, by omega, rfl, by simp, Below.refl _ _⟩
        case round =>
          obtain ⟨i, hi, rfl, hal, hbel⟩ := hrel
          have HA := Lib.hid hal
          have HB := Lib.hid hbel
          clear hal hbel
          have i0 : (0 : Int) ≤ (i : Int) := by omega
          by_cases hlt : i < l.length
          · have j2 : (i : Int) < (l.length : Int) := by omega
            obtain ⟨g, o, c', hv, hn, hel⟩ := HRO3.out.at hlt
            injection hv with ea eb ec
            subst ea; subst ec
            clear eb
            have hel1 := hel.new HB.out
            have d0 := hel1 0 _ rfl
            have d1 := hel1 1 _ rfl
            have d2 := hel1 2 _ rfl
            have d3 := hel1 3 _ rfl
            rw [Nat.add_zero] at d0
            have hlm : i < (l.map (fileB T)).length := by rw [List.length_map]; exact hlt
            obtain ⟨g2, o2, c2, hv2, hn2, hel2⟩ := HROW.out.at hlm
            have hel3 := hel2.new HB.out
            have f2 := hel3 2 _ rfl
            rw [List.getElem_map] at f2
            injection hv2 with ea2 eb2 ec2
            subst ea2; subst ec2
            clear eb2
            have hT1 := List.take_succ_eq_append_getElem hlt
            have HT2 := Lib.hid (show ((gotE T l[i].mark).1.length : Int) = l[i].size → ∀ x ∈ l.take (i + 1), ((gotE T x.mark).1.length : Int) = x.size by
              intro hk x hx
              rw [hT1] at hx
              rcases List.mem_append.1 hx with c | c
              · exact HA.out x c
              · rw [List.mem_singleton.1 c]; exact hk)
            have HNO := Lib.hid (show ((gotE T l[i].mark).1.length : Int) ≠ l[i].size → ¬ ∀ x ∈ l, ((gotE T x.mark).1.length : Int) = x.size from fun hno hall => hno (hall _ (List.getElem_mem hlt)))
            have hgl := gotE_len HTK.out l[i].mark
            have hfb : (fileB T l[i]).data = (gotE T l[i].mark).1 := rfl
            rw [hfb] at f2
            clear hel hel1 hel2 hel3 hT1 hfb
            generalize l[i] = x at *
            obtain ⟨pt, md, sz, mk⟩ := x
            dsimp only at d0 d1 d2 d3 HT2 HNO f2 hgl
            generalize (gotE T mk).1 = gs at *
            have SG := Lib.hid (show (⟨gs.toArray⟩ : ByteArray).size = gs.length from rfl)
            have hbx := heap_alloc_new wr (.cells #[.string ⟨pt.toArray⟩, .int .i64 md, .int .i64 sz, .string ⟨mk.toArray⟩] 78)
            have HBA := Lib.hid (HB.out.alloc HB.out.size (.cells #[.string ⟨pt.toArray⟩, .int .i64 md, .int .i64 sz, .string ⟨mk.toArray⟩] 78))
            have f2' := cell_alloc1 f2 (.cells #[.string ⟨pt.toArray⟩, .int .i64 md, .int .i64 sz, .string ⟨mk.toArray⟩] 78)
            go_wp2_with fail
            generalize hwA : wr.alloc (.cells #[.string ⟨pt.toArray⟩, .int .i64 md, .int .i64 sz, .string ⟨mk.toArray⟩] 78) = wA at *
            obtain ⟨nb, hnb⟩ : ∃ nb, nb = wr.heap.size := ⟨_, rfl⟩
            rw [← hnb] at hbx ⊢
            clear hwA hnb d0 d1 d2 d3 f2 HB
            have k2 : wA.cell? ⟨nb, 2, none⟩ = some (.int .i64 sz) := by rw [cell_of_row _ _ _ _ _ _ hbx]; rfl
            by_cases hq : (gs.length : Int) = sz
            · have q1 : ((gs.length : Int) != sz) = false := by simp [hq]
              have HQ := Lib.hid hq
              clear hq hbx
              go_region
              all_goals
                go_wp2_with fail
                go_roundw
                case rel => exact ⟨i + 1, hlt, by go_num, HT2.out HQ.out, Below_drew HBA.out⟩
                case measure => simp [intOf]; omega
            · have q1 : ((gs.length : Int) != sz) = true := by simp [hq]
              have HN := Lib.hid (HNO.out hq)
              rw [if_neg HN.out] at HL
              clear hq hbx
              go_region
              all_goals
                go_wp2_with fail
                go_ret2
                exact ⟨_, by rw [HL.out]; rfl, by rw [HL.out]; exact RowN.nil _ _ _ _, HB3.out.trans (Below_drew (HBA.out.mono HB3.out.size))⟩
          · obtain rfl : i = l.length := by omega
            rw [List.take_of_length_le (Nat.le_refl _)] at HA
            rw [if_pos HA.out] at HL
            go_wp2_with fail
            go_ret2
            exact ⟨_, by rw [HL.out]; rfl, by rw [HL.out]; exact HROW.out.keep HB.out, HB3.out.trans (HB.out.mono HB3.out.size)⟩
  · have m1 : (me != 0) = true := by simp [hz]
    rw [if_pos (fun k => hz k)] at HL
    go_wp2_with fail
    go_ret2
    exact ⟨_, by rw [HL.out]; rfl, by rw [HL.out]; exact RowN.nil _ _ _ _, HB1.out⟩
end Go.Proofs.YtamiacmnobklaaaGreatDoor
/- Blobs' roots, turned; Index and Delete of a list of texts. -/
set_option linter.unusedVariables false
namespace Go.Proofs.YtamiacmnobklaaaGreatDoor
open Go.RowKit

theorem BlobIs.setRoots {w w1 : World} {pb p : Nat} {N : Nat → Prop} {T : List Ent} {R R' : List Txt} {mt : Nat} {v v' : Value} {D : DataW Unit} {β : Txt → Nat} (h : BlobIs w pb p N T R mt v D β) (hk : Kept (fun k => v.ownBlock = some k) w w1)
    (ho : OwnN encZB 1 w1 0 9 v' R') (hm : ∀ g, v'.ownBlock = some g → v.ownBlock = some g ∨ w.heap.size ≤ g) (hr : ∀ r ∈ R', r.length ≤ 1000) :
    BlobAt (w1.setCell ⟨pb, 2, none⟩ v') pb p (fun k => N k ∨ v'.ownBlock = some k) T R' ∧ Kept N w (w1.setCell ⟨pb, 2, none⟩ v') := by
  have hpb := h.lt _ h.nb
  have nv : ∀ g, v.ownBlock = some g → ∃ cur, w.heap[g]? = some (.cells cur 9 (0, 0)) := fun g hg => (h.row.lt hg).2.2
  have nbv : ¬ v.ownBlock = some pb := fun e => by obtain ⟨cur, hc⟩ := nv _ e; rw [h.box] at hc; injection hc with hc; injection hc with _ t _; exact absurd t (by decide)
  have nmv : ¬ v.ownBlock = some mt := fun e => by obtain ⟨cur, hc⟩ := nv _ e; obtain ⟨es, cl, hb, _⟩ := h.own; rw [hb] at hc; cases hc
  have nev : ∀ x ∈ T, ¬ v.ownBlock = some (β x.m) := fun x hx e => by obtain ⟨cur, hc⟩ := nv _ e; rw [h.ent x hx] at hc; injection hc with hc; injection hc with _ t _; exact absurd t (by decide)
  have nbm : mt ≠ pb := fun e => by obtain ⟨es, cl, hb, _⟩ := h.own; have := h.box; rw [← e, hb] at this; cases this
  have nbe : ∀ x ∈ T, β x.m ≠ pb := fun x hx e => by have := h.ent x hx; rw [e, h.box] at this; injection this with this; injection this with _ t _; exact absurd t (by decide)
  have k2 : Kept (· = pb) w1 (w1.setCell ⟨pb, 2, none⟩ v') := (Kept.refl (· = pb) w1).setCell rfl _
  have kk : Kept (fun k => v.ownBlock = some k ∨ k = pb) w (w1.setCell ⟨pb, 2, none⟩ v') := (hk.mono (fun k _ e => .inl e)).trans (k2.mono (fun k _ e => .inr e))
  have nb1 : ∀ g, v'.ownBlock = some g → g ≠ pb := fun g hg e => by
    rcases hm g hg with c | c
    · exact nbv (e ▸ c)
    · omega
  refine ⟨⟨mt, v', D, β, ⟨?_, ?_, h.tab, h.ok, fun x hx => kk.old (h.ent x hx) (fun c => by rcases c with c | c; exact nev x hx c; exact nbe x hx c), h.inj, ho.kept k2 nb1, .inl h.nb, .inl h.nm, fun m hm => .inl (h.ne m hm), fun g hg => .inr hg, ?_, hr⟩⟩, kk.mono (fun k _ c => by rcases c with c | c; exact h.nr k c; exact c ▸ h.nb)⟩
  · rw [heap_setCell_same w1 pb 2 _ _ _ (hk.old h.box nbv)]
    rfl
  · obtain ⟨es, cl, hb, rest⟩ := h.own
    exact ⟨es, cl, kk.old hb (fun c => by rcases c with c | c; exact nmv c; exact nbm c), rest⟩
  · intro g hg
    rcases hg with c | c
    · exact Nat.lt_of_lt_of_le (h.lt g c) kk.size
    · exact Nat.lt_of_lt_of_le (ho.lt c).2.1 k2.size
theorem flat_txt (l : List Txt) : flatN encZB l = l.map encStr := by
  induction l with
  | nil => rfl
  | cons x r ih => rw [flatN_cons, ih]; rfl
/-- One element less. -/
theorem own_del {w : World} {base g cap i q : Nat} {R : List Txt} (h : OwnN encZB 1 w base 9 (.slice (some ⟨g, 0, none⟩) R.length cap) R) (hi : i < R.length) :
    OwnN encZB 1 (Go.Sort.putRow encStr (Go.Sort.ahead w q) g 0 (R.take i ++ R.drop (i + 1) ++ List.replicate 1 []).toArray) base 9 (.slice (some ⟨g, 0, none⟩) (R.length - 1) cap) (R.eraseIdx i) ∧
      Kept (· = g) w (Go.Sort.putRow encStr (Go.Sort.ahead w q) g 0 (R.take i ++ R.drop (i + 1) ++ List.replicate 1 []).toArray) := by
  obtain ⟨ts, hts⟩ : ∃ ts, ts = R.take i ++ R.drop (i + 1) ++ List.replicate 1 [] := ⟨_, rfl⟩
  have hl : ts.length = R.length := by rw [hts]; simp; omega
  rw [← hts]
  have hg0 : Go.Sort.grow (Go.Sort.putRow encStr (Go.Sort.ahead w q) g 0 ts.toArray) #[] = Go.Sort.putRow encStr (Go.Sort.ahead w q) g 0 ts.toArray := by simp [Go.Sort.grow, Go.Sort.putRow, Go.Sort.mapBlock, Go.Sort.ahead]
  have hgr := grownBy_sorted (w := w) (g := g) (n := q) (os := #[]) ts.toArray
  rw [hg0] at hgr
  refine ⟨?_, Kept.of_grown hgr⟩
  rcases h.2 with ⟨hv, _⟩ | ⟨g', cap', cur, hv, hbase, hb, h1, h2, h3, h4⟩
  · cases hv
  · injection hv with ea eb ec
    injection ea with ea
    injection ea with ea
    subst ea; subst ec
    have ho := ownsRow_sorted (n := q) (os := #[]) hl hbase hb h1 h2 h3
    rw [hg0] at ho
    rcases ho.2 with ⟨hv, _⟩ | ⟨g', cap', cur', hv, hbase', hb', h1', h2', h3', h4'⟩
    · cases hv
    · injection hv with ea eb ec
      injection ea with ea
      injection ea with ea
      subst ea; subst ec
      have hel : (R.eraseIdx i).length = R.length - 1 := by rw [List.length_eraseIdx, if_pos hi]
      refine ⟨by rw [flat_txt, List.length_map, hel, Nat.mul_one], .inr ⟨g, cap, cur', by rw [hel], hbase, hb', by rw [hel]; omega, h2, h3', ?_⟩⟩
      rw [hel, flat_txt]
      have e1 : cur'.toList.take ((R.length - 1) * 1) = (cur'.toList.take (R.length * 1)).take (R.length - 1) := by rw [List.take_take]; congr 1; omega
      rw [e1, h4', hts, List.map_append, List.take_append_of_le_length (by simp; omega), List.eraseIdx_eq_take_drop_succ]
      rw [List.take_of_length_le (by simp; omega)]
theorem idx_txt (R : List Txt) (m : Txt) : Go.Lib.idxOfS (R.map (fun r => (⟨r.toArray⟩ : ByteArray))) ⟨m.toArray⟩ = if m ∈ R then ((R.idxOf m : Nat) : Int) else -1 := by
  have e : R.map (fun r => (⟨r.toArray⟩ : ByteArray)) = (R.map (fun r => (⟨r.toArray⟩ : ByteArray))).take R.length := by rw [List.take_of_length_le]; simp
  have inj : ∀ a b : Txt, (⟨a.toArray⟩ : ByteArray) = ⟨b.toArray⟩ → a = b := fun a b h => congrArg Array.toList (ByteArray.mk.inj h)
  have gd : ∀ j (hj : j < R.length), (R.map (fun r => (⟨r.toArray⟩ : ByteArray))).getD j ByteArray.empty = ⟨R[j].toArray⟩ := fun j hj => by simp [List.getD_eq_getElem?_getD, hj]
  rw [e]
  by_cases h : m ∈ R
  · have hlt := List.idxOf_lt_length_of_mem h
    rw [if_pos h]
    refine Go.Lib.idxOfS_hit _ _ _ _ hlt (by simp) ?_ ?_
    · rw [gd _ hlt, List.getElem_idxOf hlt]
    · intro j hj
      rw [gd j (by omega)]
      intro hc
      have := inj _ _ hc
      have hn := List.not_of_lt_findIdx (p := (· == m)) (xs := R) (i := j) hj
      rw [this] at hn
      simp at hn
  · rw [if_neg h]
    refine Go.Lib.idxOfS_miss _ _ _ ?_
    intro j hj
    rw [gd j hj]
    intro hc
    exact h (inj _ _ hc ▸ List.getElem_mem hj)
theorem index_any (v : Value) (R : List Txt) (m : Txt) (w : World) {N : Nat → Prop} (hrow : RowN encZB 1 N w v R) (hl : R.length ≤ 1000000) :
    Calls Tryz.prog 55 #[v, .string ⟨m.toArray⟩] w fun e w' => e = .returned (.int .i64 (if m ∈ R then ((R.idxOf m : Nat) : Int) else -1)) ∧ w' = w := by
  rw [← idx_txt]
  rcases hrow.cases with ⟨rfl, a, c, rfl⟩ | ⟨g, o, c, rfl, hc, hn, hel⟩
  · exact Tryz.slices_Index_string_empty a c ⟨m.toArray⟩ w
  · have := Tryz.slices_Index_string g o R.length c (R.map (fun r => (⟨r.toArray⟩ : ByteArray))) ⟨m.toArray⟩ w (by simp) (by omega) (fun j hj => by
      have hj' : j < R.length := by simpa using hj
      have := hel j hj' 0 _ rfl
      rw [Nat.mul_one, Nat.add_zero] at this
      rw [this]
      simp [List.getD_eq_getElem?_getD, hj'])
    rw [List.take_of_length_le (by simp)] at this
    exact this
end Go.Proofs.YtamiacmnobklaaaGreatDoor
/- Landed blob: Forget, walked. -/
set_option linter.unusedVariables false
namespace Go.Proofs.YtamiacmnobklaaaGreatDoor
open Go.RowKit

def dropAll (T : List Ent) (L : List Txt) : List Ent := L.foldl dropE T
theorem dropAll_snoc (T : List Ent) (L : List Txt) (m : Txt) : dropAll T (L ++ [m]) = dropE (dropAll T L) m := by unfold dropAll; rw [List.foldl_append]; rfl
theorem TB.dropAll {k : Nat} (L : List Txt) : ∀ {T : List Ent}, TB k T → TB k (dropAll T L) := by
  induction L with
  | nil => exact fun h => h
  | cons m r ih => exact fun h => ih (h.drop m)
set_option maxRecDepth 100000 in
set_option maxHeartbeats 1000000 in
theorem bForget_no (w : World) (pb p bm : Nat) (N : Nat → Prop) (S : List Txt) (T : List Ent) (R : List Txt) (m : Txt) (h : BW w pb p bm N S T R) (hR : R.length ≤ 1000000) (hm : m ∉ R) :
    Calls Tryz.prog 31 #[.pointer (some ⟨pb, 0, none⟩), .string ⟨m.toArray⟩] w fun e w' => e = .returned (.int .i64 8) ∧ w = w' := by
  have RD := Lib.hid (bReady_any w pb p bm N S T R h)
  obtain ⟨mt, v, D, β, hb⟩ := h.blob
  have c2 := hb.c2
  have IX := Lib.hid (index_any v R m w (hb.row.row encZB_ok) hR)
  rw [if_neg hm] at IX
  clear h hb hm
  go_enter Tryz.func31, Tryz.ntmps31
  go_wp2_with fail
  refine RD.out.mono ?_
  rintro e w' ⟨rfl, rfl⟩
  go_wp2_with fail
  refine IX.out.mono ?_
  rintro e w' ⟨rfl, rfl⟩
  go_wp2_with fail
  go_ret
  exact ⟨rfl, rfl⟩
set_option maxRecDepth 100000 in
set_option maxHeartbeats 2000000 in
theorem bForget_in (w : World) (pb p bm : Nat) (N : Nat → Prop) (S : List Txt) (T : List Ent) (R : List Txt) (m : Txt) (h : BW w pb p bm N S T R) (hR : R.length ≤ 1000000) (hm : m ∈ R) (hl : m.length ≤ 140737488351232) (he : (manE T m).2 = 0) {k : Nat} (hk : TB k T) (hk2 : k ≤ 1000000) :
    Calls Tryz.prog 31 #[.pointer (some ⟨pb, 0, none⟩), .string ⟨m.toArray⟩] w fun e w' => e = .returned (.int .i64 0) ∧ ∃ N', BW w' pb p bm N' S (dropE (dropAll T ((manE T m).1.map (·.mark))) m) (R.erase m) ∧ BTurn w w' bm N N' := by
  have RD := Lib.hid (bReady_any w pb p bm N S T R h)
  have MN := Lib.hid (bMan_any w pb p bm N S T R m h hl)
  have HH := Lib.hid h
  have HK := Lib.hid hk
  have hix := List.idxOf_lt_length_of_mem hm
  have HER := Lib.hid (show R.erase m = R.eraseIdx (R.idxOf m) from List.erase_eq_eraseIdx_of_idxOf rfl)
  have hRS : ∀ r ∈ R, r.length ≤ 1000 := by obtain ⟨mt, v, D, β, hb⟩ := h.blob; exact hb.rs
  have HRS := Lib.hid hRS
  obtain ⟨mt, v, D, β, hb⟩ := h.blob
  have c2 := hb.c2
  have IX := Lib.hid (index_any v R m w (hb.row.row encZB_ok) hR)
  rw [if_pos hm] at IX
  have hlens := h.lens
  have hNl := h.blob.lt.2
  have HNL := Lib.hid hNl
  have hg := (manE_good T m).1
  have hg2 := Lib.hid (manE_good T m).2
  rw [he] at MN
  clear h hb hm hk hRS hNl he
  generalize (manE T m).1 = l at *
  generalize R.idxOf m = ix at *
  go_enter Tryz.func31, Tryz.ntmps31
  go_wp2_with fail
  refine RD.out.mono ?_
  rintro e w' ⟨rfl, rfl⟩
  go_wp2_with fail
  refine IX.out.mono ?_
  rintro e w' ⟨rfl, rfl⟩
  have n0 : ¬ ((ix : Int) < 0) := by omega
  clear RD IX
  go_wp2_with fail
  refine MN.out.mono ?_
  rintro e w1 ⟨v1, rfl, hrow, hb1⟩
  obtain ⟨va, vc, hv, _⟩ := hrow.slice
  subst hv
  have HRO := Lib.hid hrow
  have H1 := Lib.hid (HH.out.new hb1)
  have T1 := Lib.hid (BTurn.of_new hb1 bm N)
  have hs1 := hb1.size
  clear hrow hb1 MN c2
  go_wp2_with fail
  go_loopw [32] (fun v32 wr => ∃ i N', i ≤ l.length ∧ v32 = .int .i64 (i : Nat) ∧ BW wr pb p bm N' S (dropAll T ((l.take i).map (·.mark))) R ∧ BTurn w1 wr bm N N') (fun v32 _ => l.length - (intOf v32).toNat)
  case atStart => exact ⟨0, N, by omega, rfl, H1.out, BTurn.refl _ _ _⟩
  case round =>
    obtain ⟨i, N1, hi, rfl, hbw, hbt⟩ := hrel
    have HB := Lib.hid hbw
    have HT := Lib.hid hbt
    clear hbw hbt H1
    have i0 : (0 : Int) ≤ (i : Int) := by omega
    by_cases hlt : i < l.length
    · have j1 : (i : Int) < (l.length : Int) := by omega
      obtain ⟨g, o, c', hv, hn, hel⟩ := HRO.out.at hlt
      injection hv with ea eb ec
      subst ea; subst ec
      clear eb
      have hel1 := hel.kept HT.out.kp (fun c => by
        rcases c with c | c
        · have := HNL.out g c; omega
        · omega)
      have d0 := hel1 0 _ rfl
      have d1 := hel1 1 _ rfl
      have d2 := hel1 2 _ rfl
      have d3 := hel1 3 _ rfl
      rw [Nat.add_zero] at d0
      have hmk := (hg2.out l[i] (List.getElem_mem hlt)).k
      have HD := Lib.hid (show dropAll T ((l.take (i + 1)).map (·.mark)) = dropE (dropAll T ((l.take i).map (·.mark))) l[i].mark by
        rw [List.take_succ_eq_append_getElem hlt, List.map_append]; exact dropAll_snoc _ _ _)
      have HTB := Lib.hid (HK.out.dropAll ((l.take i).map (·.mark)))
      clear hel hel1
      generalize l[i] = x at *
      obtain ⟨pt, md, sz, mk⟩ := x
      dsimp only at d0 d1 d2 d3 HD hmk
      generalize dropAll T ((l.take i).map (·.mark)) = U at *
      have hbx := heap_alloc_new wr (.cells #[.string ⟨pt.toArray⟩, .int .i64 md, .int .i64 sz, .string ⟨mk.toArray⟩] 78)
      have hbA : Below wr.heap.size wr (wr.alloc (.cells #[.string ⟨pt.toArray⟩, .int .i64 md, .int .i64 sz, .string ⟨mk.toArray⟩] 78)) := (Below.refl _ wr).alloc (Nat.le_refl _) _
      have HBA := Lib.hid (HB.out.new hbA)
      have HTA := Lib.hid (HT.out.new hbA)
      clear hbA HB HT
      go_wp2_with fail
      generalize hwA : wr.alloc (.cells #[.string ⟨pt.toArray⟩, .int .i64 md, .int .i64 sz, .string ⟨mk.toArray⟩] 78) = wA at *
      obtain ⟨nb, hnb⟩ : ∃ nb, nb = wr.heap.size := ⟨_, rfl⟩
      rw [← hnb] at hbx ⊢
      clear hwA hnb d0 d1 d2 d3
      have k3 : wA.cell? ⟨nb, 3, none⟩ = some (.string ⟨mk.toArray⟩) := by rw [cell_of_row _ _ _ _ _ _ hbx]; rfl
      clear hbx
      have DR := Lib.hid (bDrop_any wA pb p bm N1 S U R mk HBA.out (by omega) HTB.out hk2)
      go_wp2_with fail
      refine DR.out.mono ?_
      rintro e w2 ⟨rfl, N2, hbw2, hbt2⟩
      have HB2 := Lib.hid hbw2
      have HT2 := Lib.hid (HTA.out.trans hbt2)
      clear hbw2 hbt2 DR HBA HTA
      go_wp2_with fail
      go_roundw
      case rel => exact ⟨i + 1, N2, hlt, by go_num, by rw [HD.out]; exact HB2.out, HT2.out⟩
      case measure => simp [intOf]; omega
    · obtain rfl : i = l.length := by omega
      have j1 : ¬ (l.length : Int) < (l.length : Int) := by omega
      rw [List.take_of_length_le (Nat.le_refl _)] at HB
      have DR := Lib.hid (bDrop_any wr pb p bm N1 S (dropAll T (l.map (·.mark))) R m HB.out hl (HK.out.dropAll _) hk2)
      generalize (if m ∈ keysE (dropAll T (l.map (·.mark))) then (0 : Int) else 8) = zr at DR
      go_wp2_with fail
      refine DR.out.mono ?_
      rintro e w2 ⟨rfl, N2, hbw2, hbt2⟩
      have HB2 := Lib.hid hbw2
      have HT2 := Lib.hid (T1.out.trans (HT.out.trans hbt2))
      obtain ⟨mt2, v2, D2, β2, hb2⟩ := hbw2.blob
      have c2 := hb2.c2
      have hrow2 := hb2.row
      clear hbw2 hbt2 DR HB HT
      rcases hrow2.2 with ⟨rfl, hz⟩ | ⟨g2, cap2, cur2, rfl, hbase2, hg2', q1, q2, q3, q4⟩
      · omega
      · have hpb2 := hb2.lt _ hb2.nb
        have ng : g2 ≠ pb := fun e => by rw [e, hb2.box] at hg2'; injection hg2' with hg2'; injection hg2' with _ t _; exact absurd t (by decide)
        have hH : Go.Sort.Holds encStr w2 g2 0 R.toArray := holds_of_block hg2' (by rw [Nat.mul_one] at q4; rw [q4, flat_txt])
        have DE := Lib.hid (Tryz.slices_Delete_string g2 0 cap2 ix (ix + 1) R w2 hH q1 (by unfold maxLen at q2; omega) (by omega) (by omega))
        have HF := Lib.hid (fun q => own_del (q := q) hrow2 hix)
        have HS := Lib.hid (fun (w3 : World) (hk3 : Kept (· = g2) w2 w3) (ho3 : OwnN encZB 1 w3 0 9 (.slice (some ⟨g2, 0, none⟩) (R.length - 1) cap2) (R.eraseIdx ix)) => hb2.setRoots (hk3.mono (fun k _ e => by rw [e]; rfl)) ho3 (fun g hg => .inl hg) (fun r hr => HRS.out r (List.mem_of_mem_eraseIdx hr)))
        have c20 : ∀ w3 : World, Kept (· = g2) w2 w3 → w3.frozen? ⟨pb, 2, none⟩ = false ∧ ∃ u, w3.cell? ⟨pb, 2, none⟩ = some u := fun w3 hk3 => ⟨frozen_of_row w3 pb 2 _ _ (hk3.old hb2.box ng.symm), _, by rw [cell_of_row _ _ _ _ _ _ (hk3.old hb2.box ng.symm)]; rfl⟩
        have hN2 : N2 g2 := hb2.nr g2 rfl
        have e1 : ((ix + 1 : Nat) : Int) = (ix : Int) + 1 := by omega
        have e2 : ix + 1 - ix = 1 := by omega
        rw [e1, e2] at DE
        have q5 : (ix : Int) + 1 ≤ 9223372036854775807 := by omega
        have C20 := Lib.hid c20
        have HN2 := Lib.hid hN2
        clear hb2 hrow2 hH q4 hg2' e1 e2 c20 hN2 hbase2 q3 q1 q2 hpb2 ng
        go_wp2_with fail
        refine DE.out.mono ?_
        rintro e w3 ⟨rfl, q, hw3⟩
        obtain ⟨ho3, hk3⟩ := HF.out q
        rw [← hw3] at ho3 hk3
        obtain ⟨hf3, u3, hu3⟩ := C20.out w3 hk3
        obtain ⟨hbl, hkk⟩ := HS.out w3 hk3 ho3
        obtain ⟨hbw4, hbt4⟩ := HB2.out.step hbl hkk (fun k hk => by
          rcases hk with c | c
          · exact .inl c
          · simp [Value.ownBlock] at c
            exact .inl (c ▸ HN2.out))
        have HB4 := Lib.hid hbw4
        have HT4 := Lib.hid (HT2.out.trans hbt4)
        clear hw3 ho3 hk3 hbl hkk hbw4 hbt4
        go_wp2_with fail
        go_ret
        rw [HER.out]
        exact ⟨rfl, _, HB4.out, HT4.out⟩
end Go.Proofs.YtamiacmnobklaaaGreatDoor
/- Landed blob: Bytes, Roots, New, walked. -/
set_option linter.unusedVariables false
namespace Go.Proofs.YtamiacmnobklaaaGreatDoor
open Go.RowKit

theorem key_txt {key : Value} {kl : Lit} (h : keyOf Tryz.prog 9 key = some kl) : ∃ m : Txt, key = .string ⟨m.toArray⟩ ∧ kl = .string m := by
  rw [keyOf_string Tryz.underlying9] at h
  cases key <;> simp [mapKey, Tryz.underlying9] at h
  obtain ⟨hsz, rfl⟩ := h
  rename_i s
  exact ⟨s.data.toList, by simp, rfl⟩
/-- A step of a loop over the blobs' map. -/
theorem wpList_next_blob {w : World} {ops : Array Oper} {rest : List Oper} {o : Oper} {a : Act} {Q : Exit → Act → World → Prop} (hg : o.guard = none) (it : Operand) (hop : o.op = Op.next it false)
    {T : List Ent} {β : Txt → Nat} {D : DataW Unit} (hD : TabIs D T β) (b r n : Nat) (left : Lit → Bool) (cnt : Nat) (hit : a.eval it = .pointer (some ⟨r, 0, none⟩)) (h : w.ranges Tryz.prog 9 ptrElem b r n D left cnt)
    (hleft : ∀ m, left (.string m) = true → m ∈ keysE T)
    (hDone : cnt = 0 → (∀ kl, left kl = false) → wpList Tryz.prog ops Q rest (a.put o.dst (.tuple #[.bool false])) w)
    (hMore : ∀ (x : Ent) (w' : World) (cnt' : Nat), x ∈ T → left (.string x.m) = true → w'.ranges Tryz.prog 9 ptrElem b r n D (fun z => left z && !z.sameKey (.string x.m)) cnt' → cnt' < cnt →
      w.grownBy w' (some r) → w'.heap.size = w.heap.size → (Instr.entry (.pointer (some ⟨r, 0, none⟩))).run Tryz.prog w' = .ok (.tuple #[.string ⟨x.m.toArray⟩, .pointer (some ⟨β x.m, 0, none⟩)]) w' → wpList Tryz.prog ops Q rest (a.put o.dst (.tuple #[.bool true, .string ⟨x.m.toArray⟩, .pointer (some ⟨β x.m, 0, none⟩)])) w') :
    wpList Tryz.prog ops Q (o :: rest) a w := by
  refine wpList_next_ranges w hg it hop 9 keyLaw ptrElem (fun m : Txt => .string ⟨m.toArray⟩) (fun c : Option Addr => .pointer c) (fun key kl hk => by obtain ⟨m, rfl, _⟩ := key_txt hk; exact ⟨m, rfl⟩) (fun v y hv => ptrElem_shape hv) b r n D left cnt hit h hDone ?_
  intro m c kl y w' cnt' hkey hl hv hat hr hc hg2 hs hen
  obtain ⟨m', e, rfl⟩ := key_txt hkey
  have em : m = m' := by
    have e1 : (⟨m.toArray⟩ : ByteArray) = ⟨m'.toArray⟩ := Value.string.inj e
    have e2 : m.toArray = m'.toArray := ByteArray.mk.inj e1
    exact congrArg Array.toList e2
  subst em
  have hmk := hleft m hl
  obtain ⟨x, hx, hxm⟩ := mem_keysE.1 hmk
  have hy := hat litNo
  rw [hD.at' m hmk] at hy
  obtain ⟨y1, y2⟩ := y
  dsimp only at hy
  subst hy
  have hvv := ptrElem_inv hv
  injection hvv with hvv
  subst hvv
  subst hxm
  exact hMore x w' cnt' hx hl hr hc hg2 hs hen

theorem sameKey_txt (a b : Txt) : (Lit.string a).sameKey (.string b) = decide (a = b) := by
  by_cases e : a = b
  · subst e
    rw [decide_eq_true rfl]
    exact WideAt.sameKey_self trivial
  · rw [decide_eq_false e]
    exact Maps.sameKey_ne (fun h => e (by injection h))
set_option maxRecDepth 100000 in
set_option maxHeartbeats 1000000 in
theorem bBytes_any (w : World) (pb p bm : Nat) (N : Nat → Prop) (S : List Txt) (T : List Ent) (R : List Txt) (h : BW w pb p bm N S T R) {k : Nat} (hk : TB k T) (hk2 : k ≤ 1000000) :
    Calls Tryz.prog 28 #[.pointer (some ⟨pb, 0, none⟩)] w fun e w' => e = .returned (.int .i64 (sumE T : Nat)) ∧ Below w.heap.size w w' := by
  have RD := Lib.hid (bReady_any w pb p bm N S T R h)
  obtain ⟨mt, v, D, β, hb⟩ := h.blob
  have c1 := hb.c1
  have hsum := hk.sum hb.ok
  have HB := Lib.hid hb
  have HO := Lib.hid hb.own
  have HT := Lib.hid hb.tab
  have HK := Lib.hid (show ∀ x ∈ T, β x.m < w.heap.size from fun x hx => hb.lt _ (hb.ne _ (mem_keysE.2 ⟨x, hx, rfl⟩)))
  clear h hb
  go_enter Tryz.func28, Tryz.ntmps28
  go_wp2_with fail
  refine RD.out.mono ?_
  rintro e w' ⟨rfl, rfl⟩
  clear RD
  go_wp2_with (at_range; refine wpList_range_own _ rfl _ 71 rfl 9 85 keyLaw Tryz.underlying71 ptrElem mt T.length D rfl HO.out ?_; intro w1 hr1 hg1 hs1; have HR1 := Lib.hid hr1; have HB1 := Lib.hid ((Below.refl w.heap.size w).grown hg1 (Nat.le_refl _) (fun j hj => by cases hj)); clear hr1 hg1 hs1)
  go_frame
  go_loopw [3] (fun v3 wr => ∃ (left : Lit → Bool) (cnt : Nat), v3 = .int .i64 ((sumE (T.filter (fun y => (fun m => !left (.string m)) y.m)) : Nat) : Int) ∧ wr.ranges Tryz.prog 9 ptrElem mt w.heap.size T.length D left cnt ∧ (∀ m, left (.string m) = true → m ∈ keysE T) ∧ Below w.heap.size w wr) (fun _ wr => wr.rangeLeft mt w.heap.size)
  case atStart =>
    refine ⟨_, _, ?_, HR1.out, fun m hm => ?_, HB1.out⟩
    · have : T.filter (fun y => (fun m => !Maps.has D (.string m)) y.m) = [] := by
        rw [List.filter_eq_nil_iff]
        intro y hy
        show ¬ (!Maps.has D (.string y.m)) = true
        rw [HT.out.has, decide_eq_true (mem_keysE.2 ⟨y, hy, rfl⟩)]
        simp
      rw [this]
      rfl
    · rw [HT.out.has] at hm
      simpa using hm
  case round =>
    obtain ⟨left, cnt, rfl, hrg, hleft, hbel⟩ := hrel
    have HLE := Lib.hid hleft
    have HRG := Lib.hid hrg
    have HBE := Lib.hid hbel
    have hsl := sumE_filter_le T (fun m => !left (.string m))
    clear hleft hrg hbel HR1 HB1
    obtain ⟨sm, hsm⟩ : ∃ sm, sm = sumE (T.filter (fun y => (fun m => !left (.string m)) y.m)) := ⟨_, rfl⟩
    rw [← hsm] at hsl
    have HSM := Lib.hid hsm
    rw [← hsm]
    clear hsm
    go_wp2_with (at_next; refine wpList_next_blob rfl _ rfl HT.out mt w.heap.size T.length left cnt rfl HRG.out HLE.out ?_ ?_)
    · intro hc0 hl0
      have e : sumE T = sm := by
        rw [HSM.out]
        congr 1
        symm
        rw [List.filter_eq_self]
        intro y hy
        rw [hl0]
        rfl
      go_wp2
      go_ret
      rw [e]
      exact ⟨rfl, HBE.out⟩
    · intro x w2 cnt2 hx hlx hr2 hlt hg2 hs2 hen
      have hB2 := HBE.out.grown hg2 HBE.out.size (fun j hj => by cases hj; exact Nat.le_refl _)
      have e0 : w2.cell? ⟨β x.m, 0, none⟩ = some (.string ⟨x.s.toArray⟩) := (hB2.cell (p := ⟨β x.m, 0, none⟩) (HK.out x hx)).trans (HB.out.e0 hx)
      have hstep := sumE_filter HB.out.ok.nd (fun m => !left (.string m)) (fun m => !(left (.string m) && !(Lit.string m).sameKey (.string x.m))) hx (by rw [hlx]; rfl) (fun m => by rw [sameKey_txt]; cases left (.string m) <;> simp)
      have hle2 := sumE_filter_le T (fun m => !(left (.string m) && !(Lit.string m).sameKey (.string x.m)))
      rw [hstep, ← HSM.out] at hle2
      have HST := Lib.hid hstep
      have HX := Lib.hid hx
      have HB2 := Lib.hid hB2
      have HR2 := Lib.hid hr2
      have HLT := Lib.hid hlt
      have q1 : (sm : Int) + (x.s.length : Int) ≤ 9223372036854775807 := by omega
      clear hx hlx hr2 hlt hg2 hs2 hB2 hstep hle2
      go_wp2
      go_roundw
      case rel =>
        refine ⟨_, cnt2, ?_, HR2.out, fun m hm => ?_, HB2.out⟩
        · rw [HST.out, ← HSM.out]; push_cast; rfl
        · simp at hm; exact HLE.out m hm.1
      case measure => rw [HR2.out.left_eq, HRG.out.left_eq]; exact HLT.out
end Go.Proofs.YtamiacmnobklaaaGreatDoor
/- Landed blob: Check, walked. -/
set_option linter.unusedVariables false
namespace Go.Proofs.YtamiacmnobklaaaGreatDoor
open Go.RowKit
open Go.WideElems (rd_key rg rg_of)

/-- What the roots' manifests ask for. -/
def leadL (T : List Ent) (R : List Txt) : List Txt := R.flatMap (fun r => r :: (manE T r).1.map (·.mark))
def checkE (T : List Ent) (R : List Txt) : Bool := decide (∀ r ∈ R, (manE T r).2 = 0) && decide (∀ m ∈ leadL T R, (leadL T R).count m ≤ refsE T m)
theorem leadL_snoc (T : List Ent) (R : List Txt) (r : Txt) : leadL T (R ++ [r]) = leadL T R ++ (r :: (manE T r).1.map (·.mark)) := by unfold leadL; rw [List.flatMap_append]; simp
theorem leadL_small (T : List Ent) (R : List Txt) (hR : ∀ r ∈ R, r.length ≤ 1000) : ∀ m ∈ leadL T R, m.length ≤ 1000 := by
  intro m hm
  unfold leadL at hm
  obtain ⟨r, hr, hm⟩ := List.mem_flatMap.1 hm
  rcases List.mem_cons.1 hm with rfl | hm
  · exact hR _ hr
  · obtain ⟨x, hx, rfl⟩ := List.mem_map.1 hm
    have := ((manE_good T r).2 x hx).k
    omega
theorem leadL_len (T : List Ent) (R : List Txt) : (leadL T R).length ≤ 257 * R.length := by
  induction R with
  | nil => simp [leadL]
  | cons r R ih =>
    have h := (manE_good T r).1
    unfold leadL at *
    rw [List.flatMap_cons, List.length_append, List.length_cons, List.length_map, List.length_cons]
    omega
/-- A map that counts. -/
structure MapCnt (D : DataW Unit) (L : List Txt) : Prop where
  tidy : Maps.Tidy D
  has : ∀ m : Txt, Maps.has D (.string m) = decide (m ∈ L)
  at' : ∀ m : Txt, D.atKey (.string m) (litN 0) = litN (L.count m)
theorem MapCnt.start : MapCnt (.map []) [] := ⟨Maps.tidy_empty, fun m => by simp [Maps.has], fun m => by rw [Maps.atKey_of_not_has (by simp [Maps.has])]; rfl⟩
theorem MapCnt.more {D : DataW Unit} {L : List Txt} (h : MapCnt D L) (m : Txt) : MapCnt (D.put (.string m) (litN (L.count m + 1))) (L ++ [m]) := by
  have hk : WideAt.IsKeyLit (.string m) := trivial
  refine ⟨h.tidy.put hk _, fun k => ?_, fun k => ?_⟩
  · by_cases e : k = m
    · subst e
      rw [Maps.has_put_same h.tidy.isMap hk]
      simp
    · rw [Maps.has_put_other (fun e' => e (by injection e')), h.has]
      simp [e]
  · by_cases e : k = m
    · subst e
      rw [Maps.atKey_put_same h.tidy.isMap hk, List.count_append]
      simp
    · rw [Maps.atKey_put_other (fun e' => e (by injection e')), h.at', List.count_append]
      have : List.count k [m] = 0 := by rw [List.count_eq_zero]; simp [e]
      rw [this, Nat.add_zero]
theorem look_cnt {w : World} {b n : Nat} {D : DataW Unit} {L : List Txt} (h : w.ownsMap Tryz.prog 9 (plainElem Tryz.prog 3) b n D) (hD : MapCnt D L) (m : Txt) (hl : m.length ≤ 140737488351232) :
    (Instr.lookup 70 (.map (some b)) (.string ⟨m.toArray⟩) false).run Tryz.prog w = .ok (.int .i64 (L.count m : Nat)) w := by
  obtain ⟨c, hrun, hat, _⟩ := h.lookup_int keyLaw Tryz.underlying70 Tryz.underlying3 (zeroInt w) (keyOf_txt m hl)
  have h2 := hD.at' m
  have h3 : litN (L.count m) = .lit (.int .i64 c) := h2.symm.trans hat
  have h4 := (Lit.int.inj (DataW.lit.inj h3)).2
  rw [hrun, ← h4]
/-- No entry is left just if no text is there. -/
theorem size_none {w : World} {b n : Nat} {D : DataW Unit} (h : w.ownsMap Tryz.prog 9 (plainElem Tryz.prog 3) b n D) : Maps.size D = 0 ↔ ∀ m : Txt, Maps.has D (.string m) = false := by
  obtain ⟨es, cl, hb, F, hs, rfl⟩ := h
  constructor
  · intro h0 m
    rw [Maps.size_eq] at h0
    rw [Maps.has_eq, List.eq_nil_of_length_eq_zero h0]
    rfl
  · intro hall
    rw [Maps.size_eq, length_sorted, List.length_map]
    cases hes : es.toList with
    | nil => rfl
    | cons x r =>
      exfalso
      have hx : x ∈ es.toList := by rw [hes]; simp
      obtain ⟨y, hy⟩ := F.reads x hx
      obtain ⟨m, _, hm⟩ := key_txt (rd_key hy)
      have hr : rg Tryz.prog 9 (plainElem Tryz.prog 3) x = y := rg_of hy
      have := hall m
      rw [Maps.has_eq] at this
      have h2 : ((es.toList.map (rg Tryz.prog 9 (plainElem Tryz.prog 3))).foldr DataW.insert []).any (fun p => p.1.sameKey (.string m)) = true :=
        List.any_eq_true.2 ⟨y, mem_sorted.2 (List.mem_map.2 ⟨x, hx, hr⟩), by rw [hm]; exact WideAt.sameKey_self trivial⟩
      rw [h2] at this
      cases this
/-- A step of a loop over a map that counts. -/
theorem wpList_next_cnt {w : World} {ops : Array Oper} {rest : List Oper} {o : Oper} {a : Act} {Q : Exit → Act → World → Prop} (hg : o.guard = none) (it : Operand) (hop : o.op = Op.next it false)
    (L : List Txt) {D : DataW Unit} (hD : ∀ m : Txt, Maps.has D (.string m) = true → D.atKey (.string m) (litN 0) = litN (L.count m)) (b r n : Nat) (left : Lit → Bool) (cnt : Nat) (hit : a.eval it = .pointer (some ⟨r, 0, none⟩)) (h : w.ranges Tryz.prog 9 (plainElem Tryz.prog 3) b r n D left cnt)
    (hDone : cnt = 0 → (∀ kl, left kl = false) → wpList Tryz.prog ops Q rest (a.put o.dst (.tuple #[.bool false])) w)
    (hMore : ∀ (m : Txt) (w' : World) (cnt' : Nat), left (.string m) = true → Maps.has D (.string m) = true → w'.ranges Tryz.prog 9 (plainElem Tryz.prog 3) b r n D (fun z => left z && !z.sameKey (.string m)) cnt' → cnt' < cnt →
      w.grownBy w' (some r) → w'.heap.size = w.heap.size → (Instr.entry (.pointer (some ⟨r, 0, none⟩))).run Tryz.prog w' = .ok (.tuple #[.string ⟨m.toArray⟩, .int .i64 (L.count m : Nat)]) w' → wpList Tryz.prog ops Q rest (a.put o.dst (.tuple #[.bool true, .string ⟨m.toArray⟩, .int .i64 (L.count m : Nat)])) w') :
    wpList Tryz.prog ops Q (o :: rest) a w := by
  refine wpList_next_ranges w hg it hop 9 keyLaw (plainElem Tryz.prog 3) (fun m : Txt => .string ⟨m.toArray⟩) (Value.int .i64) (fun key kl hk => by obtain ⟨m, rfl, _⟩ := key_txt hk; exact ⟨m, rfl⟩) (fun v y hv => by obtain ⟨c, rfl, _⟩ := plainElem_int_inv Tryz.underlying3 hv; exact ⟨c, rfl⟩) b r n D left cnt hit h hDone ?_
  intro m c kl y w' cnt' hkey hl hv hat hr hc hg2 hs hen
  obtain ⟨m', e, rfl⟩ := key_txt hkey
  have em : m = m' := by
    have e1 : (⟨m.toArray⟩ : ByteArray) = ⟨m'.toArray⟩ := Value.string.inj e
    have e2 : m.toArray = m'.toArray := ByteArray.mk.inj e1
    exact congrArg Array.toList e2
  subst em
  have hhas := Maps.has_true_of_atKey hat
  obtain ⟨c', ec, ey, _⟩ := plainElem_int_inv Tryz.underlying3 hv
  have h2 : litN (L.count m) = .lit (.int .i64 c') := (hD m hhas).symm.trans ((hat _).trans (by rw [ey]))
  have h4 := (Lit.int.inj (DataW.lit.inj h2)).2
  have h5 : c = c' := (Value.int.inj ec).2
  rw [h5, ← h4] at hen ⊢
  exact hMore m w' cnt' hl hhas hr hc hg2 hs hen
set_option maxRecDepth 100000 in
set_option maxHeartbeats 2000000 in
theorem bCheck_any (w : World) (pb p bm : Nat) (N : Nat → Prop) (S : List Txt) (T : List Ent) (R : List Txt) (h : BW w pb p bm N S T R) (hR : R.length ≤ 10000) :
    Calls Tryz.prog 11 #[.pointer (some ⟨pb, 0, none⟩)] w fun e w' => e = .returned (.bool (checkE T R)) ∧ Below w.heap.size w w' := by
  have hmm := @run_makeMap Tryz.prog
  have RD := Lib.hid (bReady_any w pb p bm N S T R h)
  have HH := Lib.hid h
  have hlens := h.lens
  obtain ⟨mt, v, D0, β, hb⟩ := h.blob
  have HRO := Lib.hid (hb.row.row encZB_ok)
  have HRS := Lib.hid hb.rs
  have c2 := hb.c2
  have hpb := hb.lt _ hb.nb
  obtain ⟨va, vc, hv, _⟩ := HRO.out.slice
  subst hv
  have c2a := cell_alloc1 c2 (.map #[] 0)
  have HB0 := Lib.hid ((Below.refl w.heap.size w).alloc (Nat.le_refl _) (.map #[] 0))
  have HM0 := Lib.hid (World.ownsMap_made (H := Unit) w Tryz.prog 9 (plainElem Tryz.prog 3))
  have HCE := Lib.hid (show checkE T R = (decide (∀ r ∈ R, (manE T r).2 = 0) && decide (∀ m ∈ leadL T R, (leadL T R).count m ≤ refsE T m)) from rfl)
  have hLL := leadL_len T R
  clear h hb c2
  generalize checkE T R = res at *
  go_enter Tryz.func11, Tryz.ntmps11
  go_wp2_with fail
  refine RD.out.mono ?_
  rintro e w' ⟨rfl, rfl⟩
  clear RD
  go_wp2_with fail
  go_loopw [21] (fun v21 wr => ∃ (i : Nat) (D : DataW Unit), i ≤ R.length ∧ v21 = .int .i64 (i : Nat) ∧ wr.ownsMap Tryz.prog 9 (plainElem Tryz.prog 3) w.heap.size (leadL T (R.take i)).length D ∧ MapCnt D (leadL T (R.take i)) ∧ (∀ r ∈ R.take i, (manE T r).2 = 0) ∧ Below w.heap.size w wr) (fun v21 _ => R.length - (intOf v21).toNat)
  case atStart => exact ⟨0, .map [], by omega, rfl, HM0.out, MapCnt.start, by simp, HB0.out⟩
  case round =>
    obtain ⟨i, D, hi, rfl, hown, hcnt, hall, hbel⟩ := hrel
    have HO := Lib.hid hown
    have HC := Lib.hid hcnt
    have HA := Lib.hid hall
    have HB := Lib.hid hbel
    clear hown hcnt hall hbel HM0 HB0 c2a
    have i0 : (0 : Int) ≤ (i : Int) := by omega
    by_cases hlt : i < R.length
    · have j1 : (i : Int) < (R.length : Int) := by omega
      obtain ⟨g, o, c', hv, hn, hel⟩ := HRO.out.at hlt
      injection hv with ea eb ec
      subst ea; subst ec
      clear eb
      have hel1 := hel.new HB.out
      have c0 : wr.cell? ⟨g, o + i, none⟩ = some (.string ⟨R[i].toArray⟩) := by have := hel1 0 _ rfl; rwa [Nat.mul_one, Nat.add_zero] at this
      have hrl := HRS.out R[i] (List.getElem_mem hlt)
      have hT1 := List.take_succ_eq_append_getElem hlt
      have HT := Lib.hid (show leadL T (R.take (i + 1)) = leadL T (R.take i) ++ (R[i] :: (manE T R[i]).1.map (·.mark)) by rw [hT1]; exact leadL_snoc _ _ _)
      have HT2 := Lib.hid (show (manE T R[i]).2 = 0 → ∀ r ∈ R.take (i + 1), (manE T r).2 = 0 by
        intro hk x hx
        rw [hT1] at hx
        rcases List.mem_append.1 hx with c | c
        · exact HA.out x c
        · rw [List.mem_singleton.1 c]; exact hk)
      have HNO := Lib.hid (show (manE T R[i]).2 ≠ 0 → ¬ ∀ r ∈ R, (manE T r).2 = 0 from fun hno hal => hno (hal _ (List.getElem_mem hlt)))
      have hlen := leadL_len T (R.take i)
      have hil : (R.take i).length ≤ 10000 := by rw [List.length_take]; omega
      have HG2 := Lib.hid (manE_good T R[i])
      have MN := Lib.hid (bMan_any wr pb p bm N S T R R[i] (HH.out.new HB.out) (by omega))
      clear hel hel1 hT1
      generalize leadL T (R.take i) = L at *
      generalize R[i] = r at *
      generalize manE T r = mn at *
      obtain ⟨l, me⟩ := mn
      dsimp only at HT HT2 HNO HG2 MN
      have hl256 := HG2.out.1
      go_wp2_with fail
      refine MN.out.mono ?_
      rintro e w1 ⟨v1, rfl, hrow, hb1⟩
      obtain ⟨ia, ic, hv, _⟩ := hrow.slice
      subst hv
      have HI1 := Lib.hid hrow
      have HB1 := Lib.hid (HB.out.trans (hb1.mono HB.out.size))
      have hs1 := hb1.size
      obtain ⟨es, cl, hbm, rest⟩ := HO.out
      have hml : w.heap.size < wr.heap.size := (Array.getElem?_eq_some_iff.1 hbm).1
      have HO1 := Lib.hid (show w1.ownsMap Tryz.prog 9 (plainElem Tryz.prog 3) w.heap.size L.length D from ⟨es, cl, (hb1.block _ hml).trans hbm, rest⟩)
      clear hrow hb1 MN hbm rest
      by_cases hz : me = 0
      · have m1 : (me != 0) = false := by simp [hz]
        have HZ := Lib.hid (HT2.out hz)
        have K1 := look_cnt HO1.out HC.out r (by omega)
        have hkey := keyOf_txt r (by omega)
        have hcl := List.count_le_length (a := r) (l := L)
        have q1 : ((L.count r : Nat) : Int) + 1 ≤ 9223372036854775807 := by omega
        have q2 : (0 : Int) ≤ ((L.count r : Nat) : Int) := by omega
        have HVL := Lib.hid (show plainElem (H := Unit) Tryz.prog 3 (.int .i64 (((L.count r : Nat) : Int) + 1)) = some (litN (L.count r + 1), []) from plainElem_int Tryz.underlying3 (WalkArith.wf_i64 (by omega)))
        have HC1 := Lib.hid (HC.out.more r)
        clear hz HT2 HNO HO HC
        generalize L.count r = cr at *
        go_wp2_with (at_mapUpdate; refine wpList_mapUpdate_own _ rfl _ _ _ 70 rfl 9 3 keyLaw Tryz.underlying70 _ w.heap.size L.length D rfl HO1.out (by unfold maxLen; omega) _ _ _ rfl rfl hkey _ [] HVL.out ?_; intro w2 hown2 hg2; have HO2 := Lib.hid hown2; have HB2 := Lib.hid (HB1.out.grown hg2 HB1.out.size (fun j hj => by cases hj; exact Nat.le_refl _)); have HI2 := Lib.hid (HI1.out.kept (Kept.of_grown hg2) (fun g hg => by omega)); clear hown2 hg2)
        clear K1 hkey q1 q2 HVL HO1 HB1 HI1 HB c0 hcl
        obtain ⟨B1, hB1⟩ : ∃ B1, B1 = wr.heap.size := ⟨_, rfl⟩
        rw [← hB1] at HI2 hml
        clear hB1 hs1
        obtain ⟨wo, hwo⟩ : ∃ wo, wo = wr := ⟨_, rfl⟩
        clear hwo wo
        go_wp2_with fail
        go_loopw [39] (fun v39 wx => ∃ (j : Nat) (E : DataW Unit), j ≤ l.length ∧ v39 = .int .i64 (j : Nat) ∧ wx.ownsMap Tryz.prog 9 (plainElem Tryz.prog 3) w.heap.size (L.length + 1 + j) E ∧ MapCnt E (L ++ (r :: (l.take j).map (·.mark))) ∧ RowN encI 4 (B1 ≤ ·) wx (.slice ia l.length ic) l ∧ Below w.heap.size w wx) (fun v39 _ => l.length - (intOf v39).toNat)
        case atStart => exact ⟨0, _, by omega, rfl, HO2.out, HC1.out, HI2.out, HB2.out⟩
        case round =>
          obtain ⟨j, E, hj, rfl, hownj, hcntj, hrowj, hbelj⟩ := hrel
          have HO := Lib.hid hownj
          have HC := Lib.hid hcntj
          have HI := Lib.hid hrowj
          have HB := Lib.hid hbelj
          clear hownj hcntj hrowj hbelj HO2 HC1 HI2 HB2
          have j0 : (0 : Int) ≤ (j : Int) := by omega
          by_cases hjl : j < l.length
          · have j2 : (j : Int) < (l.length : Int) := by omega
            obtain ⟨gi, oi, ci, hvi, hni, heli⟩ := HI.out.at hjl
            injection hvi with ea eb ec
            subst ea; subst ec
            clear eb
            have d0 := heli 0 _ rfl
            have d1 := heli 1 _ rfl
            have d2 := heli 2 _ rfl
            have d3 := heli 3 _ rfl
            rw [Nat.add_zero] at d0
            have hmk := (HG2.out.2 l[j] (List.getElem_mem hjl)).k
            have HD := Lib.hid (show L ++ (r :: (l.take (j + 1)).map (·.mark)) = (L ++ (r :: (l.take j).map (·.mark))) ++ [l[j].mark] by
              rw [List.take_succ_eq_append_getElem hjl, List.map_append, List.append_assoc]; rfl)
            clear heli
            generalize l[j] = x at *
            obtain ⟨pt, md, sz, mk⟩ := x
            dsimp only at d0 d1 d2 d3 HD hmk
            have hLx : (L ++ (r :: (l.take j).map (·.mark))).length ≤ 4000000 := by
              have hg := HG2.out.1
              rw [List.length_append, List.length_cons, List.length_map, List.length_take]
              omega
            generalize L ++ (r :: (l.take j).map (·.mark)) = Lj at *
            have hbx := heap_alloc_new wr (.cells #[.string ⟨pt.toArray⟩, .int .i64 md, .int .i64 sz, .string ⟨mk.toArray⟩] 78)
            have HOA := Lib.hid (HO.out.alloc (.cells #[.string ⟨pt.toArray⟩, .int .i64 md, .int .i64 sz, .string ⟨mk.toArray⟩] 78))
            have HIA := Lib.hid (HI.out.keep ((Below.refl wr.heap.size wr).alloc (Nat.le_refl _) (.cells #[.string ⟨pt.toArray⟩, .int .i64 md, .int .i64 sz, .string ⟨mk.toArray⟩] 78)))
            have HBA := Lib.hid (HB.out.alloc HB.out.size (.cells #[.string ⟨pt.toArray⟩, .int .i64 md, .int .i64 sz, .string ⟨mk.toArray⟩] 78))
            clear HO HI HB
            have k3 : (wr.alloc (.cells #[.string ⟨pt.toArray⟩, .int .i64 md, .int .i64 sz, .string ⟨mk.toArray⟩] 78)).cell? ⟨wr.heap.size, 3, none⟩ = some (.string ⟨mk.toArray⟩) := by rw [cell_of_row _ _ _ _ _ _ hbx]; rfl
            have K1 := look_cnt HOA.out HC.out mk (by omega)
            have hkey := keyOf_txt mk (by omega)
            have hcl := List.count_le_length (a := mk) (l := Lj)
            have q1 : ((Lj.count mk : Nat) : Int) + 1 ≤ 9223372036854775807 := by omega
            have q2 : (0 : Int) ≤ ((Lj.count mk : Nat) : Int) := by omega
            have HVL := Lib.hid (show plainElem (H := Unit) Tryz.prog 3 (.int .i64 (((Lj.count mk : Nat) : Int) + 1)) = some (litN (Lj.count mk + 1), []) from plainElem_int Tryz.underlying3 (WalkArith.wf_i64 (by omega)))
            have HC1 := Lib.hid (HC.out.more mk)
            clear HC hbx hcl
            generalize Lj.count mk = cr at *
            go_wp2_with (at_mapUpdate; refine wpList_mapUpdate_own _ rfl _ _ _ 70 rfl 9 3 keyLaw Tryz.underlying70 _ w.heap.size (L.length + 1 + j) E rfl HOA.out (by unfold maxLen; omega) _ _ _ rfl rfl hkey _ [] HVL.out ?_; intro w2 hown2 hg2; have HO2 := Lib.hid hown2; have HB2 := Lib.hid (HBA.out.grown hg2 HBA.out.size (fun j hj => by cases hj; exact Nat.le_refl _)); have HI2 := Lib.hid (HIA.out.kept (Kept.of_grown hg2) (fun g hg => by omega)); clear hown2 hg2)
            go_roundw
            case rel => exact ⟨j + 1, _, hjl, by go_num, HO2.out, by rw [HD.out]; exact HC1.out, HI2.out, HB2.out⟩
            case measure => simp [intOf]; omega
          · obtain rfl : j = l.length := by omega
            have j2 : ¬ (l.length : Int) < (l.length : Int) := by omega
            rw [List.take_of_length_le (Nat.le_refl _)] at HC
            have HLL := Lib.hid (show (L ++ (r :: l.map (·.mark))).length = L.length + 1 + l.length by simp; omega)
            go_wp2_with fail
            go_roundw
            case rel => exact ⟨i + 1, E, hlt, by go_num, by rw [HT.out, HLL.out]; exact HO.out, by rw [HT.out]; exact HC.out, HZ.out, HB.out⟩
            case measure => simp [intOf]; omega
      · have m1 : (me != 0) = true := by simp [hz]
        have HN := Lib.hid (HNO.out hz)
        go_wp2_with fail
        go_ret
        rw [HCE.out, decide_eq_false HN.out]
        exact ⟨rfl, HB1.out⟩
    · obtain rfl : i = R.length := by omega
      have j1 : ¬ (R.length : Int) < (R.length : Int) := by omega
      rw [List.take_of_length_le (Nat.le_refl _)] at HO HC HA
      have HAD := Lib.hid (decide_eq_true HA.out)
      rw [HAD.out, Bool.true_and] at HCE
      have HLM := Lib.hid (leadL_small T R HRS.out)
      generalize leadL T R = L at *
      have HBW := Lib.hid (fun w' (hb : Below w.heap.size w w') => HH.out.new hb)
      clear HA HAD HRO HRS
      obtain ⟨wq, hwq⟩ : ∃ wq, wq = wr := ⟨_, rfl⟩
      rw [← hwq] at HO HB ⊢
      have hBw : w.heap.size ≤ wq.heap.size := HB.out.size
      clear hwq wr
      go_wp2_with (at_range; refine wpList_range_own _ rfl _ 70 rfl 9 3 keyLaw Tryz.underlying70 (plainElem Tryz.prog 3) w.heap.size L.length D rfl HO.out ?_; intro w1 hr1 hg1 hs1; have HR1 := Lib.hid hr1; have HB1 := Lib.hid (HB.out.grown hg1 HB.out.size (fun j hj => by cases hj)); clear hr1 hg1 hs1)
      go_loopw [10] (fun _ wx => ∃ (left : Lit → Bool) (cnt : Nat) (E : DataW Unit), wx.ranges Tryz.prog 9 (plainElem Tryz.prog 3) w.heap.size wq.heap.size L.length E left cnt ∧ Maps.Tidy E ∧ (∀ m : Txt, Maps.has E (.string m) = (decide (m ∈ L) && (left (.string m) || decide (refsE T m < L.count m)))) ∧ (∀ m : Txt, Maps.has E (.string m) = true → E.atKey (.string m) (litN 0) = litN (L.count m)) ∧ Below w.heap.size w wx) (fun _ wx => wx.rangeLeft w.heap.size wq.heap.size)
      case atStart =>
        refine ⟨_, _, D, HR1.out, HC.out.tidy, fun m => ?_, fun m _ => HC.out.at' m, HB1.out⟩
        rw [HC.out.has]
        cases decide (m ∈ L) <;> rfl
      case round =>
        obtain ⟨left, cnt, E, hrg, htd, hhas, hat, hbel⟩ := hrel
        have HRG := Lib.hid hrg
        have HTD := Lib.hid htd
        have HHS := Lib.hid hhas
        have HAT := Lib.hid hat
        have HBE := Lib.hid hbel
        clear hrg htd hhas hat hbel HR1 HB1 HO HC HB
        go_wp2_with (at_next; refine wpList_next_cnt rfl _ rfl L HAT.out w.heap.size wq.heap.size L.length left cnt rfl HRG.out ?_ ?_)
        · intro hc0 hl0
          have hsz := size_none HRG.out.owns
          have e1 : (∀ m : Txt, Maps.has E (.string m) = false) ↔ ∀ m ∈ L, L.count m ≤ refsE T m := by
            constructor
            · intro hal m hm
              have := hal m
              rw [HHS.out, hl0, decide_eq_true hm] at this
              simpa using this
            · intro hal m
              rw [HHS.out, hl0]
              by_cases hm : m ∈ L
              · have := hal m hm
                rw [decide_eq_true hm, decide_eq_false (by omega)]
                rfl
              · rw [decide_eq_false hm]
                rfl
          have HL := Lib.hid (fun ty => HRG.out.owns.len Tryz.underlying70 ty)
          have e2 : decide (((Maps.size E : Nat) : Int) = 0) = decide (∀ m ∈ L, L.count m ≤ refsE T m) := by
            refine decide_eq_decide.2 ?_
            rw [← e1, ← hsz]
            omega
          have L2 := fun ty => HL.out ty
          have HE2 := Lib.hid e2
          clear e1 e2 hsz hl0
          generalize Maps.size E = sz at *
          go_wp2
          go_ret
          rw [HCE.out, ← HE2.out]
          exact ⟨by rw [Bool.beq_eq_decide_eq]; rfl, HBE.out⟩
        · intro m w2 cnt2 hlx hhm hr2 hlt hg2 hs2 hen
          have hB2 := HBE.out.grown hg2 HBE.out.size (fun j hj => by cases hj; exact hBw)
          have hmL : m ∈ L := by
            rw [HHS.out] at hhm
            have := (Bool.and_eq_true _ _ ▸ hhm).1
            simpa using this
          have RF := Lib.hid (bRefs_any w2 pb p bm N S T R m (HBW.out w2 hB2) (by have := HLM.out m hmL; omega))
          have hkey := keyOf_txt m (by have := HLM.out m hmL; omega)
          have HML := Lib.hid hmL
          have HHM := Lib.hid hhm
          have HB2 := Lib.hid hB2
          have HR2 := Lib.hid hr2
          have HLT := Lib.hid hlt
          clear hmL hhm hB2 hr2 hlt hg2 hs2 hlx
          by_cases hge : L.count m ≤ refsE T m
          · have HGE := Lib.hid hge
            have q1 : ((L.count m : Nat) : Int) ≤ ((refsE T m : Nat) : Int) := by omega
            clear hge
            go_wp2_with fail
            refine RF.out.mono ?_
            rintro e w3 ⟨rfl, rfl⟩
            go_wp2_with (at_delete; refine wpList_delete_ranges _ rfl _ _ 70 9 rfl 3 keyLaw Tryz.underlying70 _ w.heap.size wq.heap.size L.length E _ cnt2 rfl HR2.out _ _ rfl hkey ?_; intro w4 cnt4 hr4 hc4 ht4; have HR4 := Lib.hid hr4; have HC4 := Lib.hid hc4; have HB4 := Lib.hid (HB2.out.grown ht4.grown HB2.out.size (fun j hj => by cases hj; exact Nat.le_refl _)); clear hr4 hc4 ht4)
            (try go_frame)
            go_roundw
            case rel =>
              refine ⟨_, cnt4, _, HR4.out, HTD.out.del _, fun k => ?_, fun k hk => ?_, HB4.out⟩
              · by_cases ek : k = m
                · subst ek
                  rw [Maps.has_del_same, sameKey_txt, decide_eq_true rfl, decide_eq_false (show ¬ refsE T k < L.count k by have := HGE.out; omega)]
                  simp
                · rw [Maps.has_del_other (fun e' => ek (by injection e')), HHS.out, sameKey_txt, decide_eq_false ek]
                  simp
              · have ek : k ≠ m := fun e => by subst e; rw [Maps.has_del_same] at hk; cases hk
                rw [Maps.has_del_other (fun e' => ek (by injection e'))] at hk
                rw [Maps.atKey_del_other (fun e' => ek (by injection e'))]
                exact HAT.out k hk
            case measure => rw [HR4.out.left_eq, HRG.out.left_eq]; exact Nat.lt_of_le_of_lt HC4.out HLT.out
          · have HGE := Lib.hid hge
            have q1 : ¬ ((L.count m : Nat) : Int) ≤ ((refsE T m : Nat) : Int) := by omega
            clear hge
            go_wp2_with fail
            refine RF.out.mono ?_
            rintro e w3 ⟨rfl, rfl⟩
            go_wp2_with fail
            go_roundw
            case rel =>
              refine ⟨_, cnt2, E, HR2.out, HTD.out, fun k => ?_, HAT.out, HB2.out⟩
              by_cases ek : k = m
              · subst ek
                rw [HHM.out, sameKey_txt, decide_eq_true rfl, decide_eq_true HML.out, decide_eq_true (show refsE T k < L.count k by have := HGE.out; omega)]
                simp
              · rw [HHS.out, sameKey_txt, decide_eq_false ek]
                simp
            case measure => rw [HR2.out.left_eq, HRG.out.left_eq]; exact HLT.out
end Go.Proofs.YtamiacmnobklaaaGreatDoor
/- Landed blob: Roots, New, walked. -/
set_option linter.unusedVariables false
namespace Go.Proofs.YtamiacmnobklaaaGreatDoor
open Go.RowKit

set_option maxRecDepth 100000 in
theorem bNew_any (w : World) (p bm : Nat) (S : List Txt) (hid : IdealAt w p bm S) :
    Calls Tryz.prog 25 #[.pointer (some ⟨p, 0, none⟩)] w fun e w' => ∃ pb N, e = .returned (.pointer (some ⟨pb, 0, none⟩)) ∧ BW w' pb p bm N S [] [] ∧ (∀ k, N k → w.heap.size ≤ k) ∧ Below w.heap.size w w' := by
  have hmm := @run_makeMap Tryz.prog
  have hlt := hid.lt
  have hb : Below w.heap.size w ((w.alloc (.map #[] 0)).alloc (.cells #[.pointer (some ⟨p, 0, none⟩), .map (some w.heap.size), .slice none 0 0] 73)) := ((Below.refl _ _).alloc (Nat.le_refl _) _).alloc (by simp) _
  have hn := heap_alloc_new (w.alloc (.map #[] 0)) (.cells #[.pointer (some ⟨p, 0, none⟩), .map (some w.heap.size), .slice none 0 0] 73)
  rw [show (w.alloc (.map #[] 0)).heap.size = w.heap.size + 1 by simp] at hn
  have ho : ((w.alloc (.map #[] 0)).alloc (.cells #[.pointer (some ⟨p, 0, none⟩), .map (some w.heap.size), .slice none 0 0] 73)).ownsMap Tryz.prog 9 ptrElem w.heap.size 0 (.map []) := (World.ownsMap_made w Tryz.prog 9 ptrElem).alloc _
  have hs : ((w.alloc (.map #[] 0)).alloc (.cells #[.pointer (some ⟨p, 0, none⟩), .map (some w.heap.size), .slice none 0 0] 73)).heap.size = w.heap.size + 2 := by simp
  have HH := Lib.hid (show BW ((w.alloc (.map #[] 0)).alloc (.cells #[.pointer (some ⟨p, 0, none⟩), .map (some w.heap.size), .slice none 0 0] 73)) (w.heap.size + 1) p bm (fun k => k = w.heap.size ∨ k = w.heap.size + 1) S [] [] by
    refine ⟨⟨w.heap.size, .slice none 0 0, .map [], fun _ => 0, hn, ho, TabIs.start _, TOk.nil, fun x hx => (by cases hx), fun m hm => (by simp [keysE] at hm), OwnN.nil _ _ _ _ _, .inr rfl, .inl rfl, fun m hm => (by simp [keysE] at hm), fun g hg => (by simp [Value.ownBlock] at hg), fun g hg => (by rw [hs]; rcases hg with e | e <;> omega), fun r hr => (by cases hr)⟩, hid.new hb, fun c => by rcases c with e | e <;> omega, fun c => by rcases c with e | e <;> omega⟩)
  have HB := Lib.hid hb
  clear hb hn ho hs hid hlt
  go_enter Tryz.func25, Tryz.ntmps25
  go_wp2
  go_ret
  exact ⟨_, _, rfl, HH.out, fun k hk => by rcases hk with e | e <;> omega, HB.out⟩
theorem bNew_nil (w : World) :
    Calls Tryz.prog 25 #[.pointer none] w fun e w' => ∃ pb mt, e = .returned (.pointer (some ⟨pb, 0, none⟩)) ∧ w'.heap[pb]? = some (.cells #[.pointer none, .map (some mt), .slice none 0 0] 73 (0, 0)) ∧ Below w.heap.size w w' := by
  have hmm := @run_makeMap Tryz.prog
  have hb : Below w.heap.size w ((w.alloc (.map #[] 0)).alloc (.cells #[.pointer none, .map (some w.heap.size), .slice none 0 0] 73)) := ((Below.refl _ _).alloc (Nat.le_refl _) _).alloc (by simp) _
  have hn := heap_alloc_new (w.alloc (.map #[] 0)) (.cells #[.pointer none, .map (some w.heap.size), .slice none 0 0] 73)
  rw [show (w.alloc (.map #[] 0)).heap.size = w.heap.size + 1 by simp] at hn
  have HN := Lib.hid hn
  have HB := Lib.hid hb
  clear hb hn
  go_enter Tryz.func25, Tryz.ntmps25
  go_wp2
  go_ret
  exact ⟨_, _, rfl, HN.out, HB.out⟩

set_option maxRecDepth 100000 in
set_option maxHeartbeats 1000000 in
theorem bRoots_any (w : World) (pb p bm : Nat) (N : Nat → Prop) (S : List Txt) (T : List Ent) (R : List Txt) (h : BW w pb p bm N S T R) (hR : R.length ≤ 1000000) :
    Calls Tryz.prog 32 #[.pointer (some ⟨pb, 0, none⟩)] w fun e w' => ∃ v', e = .returned v' ∧ OwnN encZB 1 w' w.heap.size 9 v' R ∧ Below w.heap.size w w' := by
  have RD := Lib.hid (bReady_any w pb p bm N S T R h)
  obtain ⟨mt, v, D, β, hb⟩ := h.blob
  have c2 := hb.c2
  have HRO := Lib.hid (hb.row.row encZB_ok)
  have HRS := Lib.hid hb.rs
  obtain ⟨va, vc, hv, _⟩ := HRO.out.slice
  subst hv
  clear h hb
  go_enter Tryz.func32, Tryz.ntmps32
  go_wp2_with fail
  refine RD.out.mono ?_
  rintro e w' ⟨rfl, rfl⟩
  clear RD
  go_wp2_with fail
  go_loopw [3, 14] (fun v3 v14 wr => ∃ i : Nat, i ≤ R.length ∧ v14 = .int .i64 i ∧ OwnN encZB 1 wr w.heap.size 9 v3 (R.take i) ∧ Below w.heap.size w wr) (fun _ v14 _ => R.length - (intOf v14).toNat)
  case atStart => exact ⟨0, by omega, rfl, OwnN.nil _ _ _ _ _, Below.refl _ _⟩
  case round =>
    obtain ⟨i, hi, rfl, hown, hbel⟩ := hrel
    have HO := Lib.hid hown
    have HB := Lib.hid hbel
    clear hown hbel
    have i0 : (0 : Int) ≤ (i : Int) := by omega
    by_cases hlt : i < R.length
    · have j1 : (i : Int) < (R.length : Int) := by omega
      obtain ⟨g, o, c', hv, hn, hel⟩ := HRO.out.at hlt
      injection hv with ea eb ec
      subst ea; subst ec
      clear eb
      have hel1 := hel.new HB.out
      have c0 : wr.cell? ⟨g, o + i, none⟩ = some (.string ⟨R[i].toArray⟩) := by have := hel1 0 _ rfl; rwa [Nat.mul_one, Nat.add_zero] at this
      have HT := Lib.hid (show R.take (i + 1) = R.take i ++ [R[i]] from List.take_succ_eq_append_getElem hlt)
      have CL := fun w' => Lib.hid (clone_any R[i] w' (by have := HRS.out R[i] (List.getElem_mem hlt); omega))
      have hll : (R.take i).length ≤ 1000000 := by rw [List.length_take]; omega
      clear hel hel1
      generalize R[i] = r at *
      generalize R.take i = out at *
      obtain ⟨oa, om, oc, hv5⟩ := own_slice HO.out
      subst hv5
      go_wp2_with (first | (go_at_call 42; refine (CL _).out.mono ?_; rintro e w8 ⟨rfl, hb8⟩; have HO8 := Lib.hid (HO.out.new hb8); have HB8 := Lib.hid (HB.out.trans (hb8.mono HB.out.size)); clear hb8) | (at_builtin; go_loud (refine append_new (enc := encZB) (k := 1) (w := w8) (by rfl) (.tmp 18) (.tmp 21) 54 9 (.string ByteArray.empty) 16 (by rfl) Tryz.underlying54 info_strB (by rfl) (by decide) encZB_ok w.heap.size _ out r (by rfl) HO8.out (by rfl) (by omega) (by unfold maxLen; omega) HB8.out.size _ (by rfl) ?_; intro v7 w7 hown7 ht7; have HB7 := Lib.hid (HB8.out.trans ht7.bel); have HO7 := Lib.hid hown7; clear hown7 ht7)))
      go_roundw
      case rel => exact ⟨i + 1, hlt, by go_num, by rw [HT.out]; exact HO7.out, HB7.out⟩
      case measure => simp [intOf]; omega
    · obtain rfl : i = R.length := by omega
      have j1 : ¬ (R.length : Int) < (R.length : Int) := by omega
      rw [List.take_of_length_le (Nat.le_refl _)] at HO
      go_wp2
      go_ret
      exact ⟨_, rfl, HO.out, HB.out⟩
end Go.Proofs.YtamiacmnobklaaaGreatDoor
/- A tree's manifest under an ideal book, once all is marked: mathematics. -/
set_option linter.unusedVariables false
namespace Go.Proofs.YtamiacmnobklaaaGreatDoor
open Go.RowKit

def itB (S : List Txt) (x : FileD) : ItemD := ⟨x.path, x.mode, (x.data.length : Int), numM (noS S x.data)⟩
def itemsB (S : List Txt) (l : List FileD) : List ItemD := l.map (itB S)
def markAll (S : List Txt) (l : List FileD) : List Txt := (l.map (·.data)).foldl markS S
def mfS (S : List Txt) (l : List FileD) : Txt := (mbytesS (itemsB S l)).1
theorem markAll_cons (S : List Txt) (x : FileD) (l : List FileD) : markAll S (x :: l) = markAll (markS S x.data) l := rfl
theorem mem_markAll (S : List Txt) (l : List FileD) (t : Txt) : t ∈ markAll S l ↔ t ∈ S ∨ ∃ x ∈ l, x.data = t := by unfold markAll; rw [foldl_markS_mem]; simp
theorem noS_markAll (S : List Txt) (l : List FileD) (t : Txt) (h : t ∈ S) : noS (markAll S l) t = noS S t := noS_fold _ _ _ h
theorem markAll_len (S : List Txt) (l : List FileD) : (markAll S l).length ≤ S.length + l.length := by have := foldl_markS_len (l.map (·.data)) S; rw [List.length_map] at this; exact this
theorem itemsG_eq : ∀ (l : List FileD) (S : List Txt), itemsG S l = itemsB (markAll S l) l
  | [], S => rfl
  | x :: r, S => by
    show (⟨x.path, x.mode, (x.data.length : Int), numM (noS S x.data)⟩ : ItemD) :: itemsG (markS S x.data) r = itB (markAll S (x :: r)) x :: r.map (itB (markAll S (x :: r)))
    rw [itemsG_eq r, markAll_cons]
    unfold itB
    rw [noS_markAll (markS S x.data) r x.data ((mem_markS _ _ _).2 (.inr rfl)), noS_mark S x.data x.data (.inr rfl)]
    rfl
theorem itemsB_stay {S U : List Txt} {l : List FileD} (h : ∀ x ∈ l, noS U x.data = noS S x.data) : itemsB U l = itemsB S l := by
  unfold itemsB
  refine List.map_congr_left (fun x hx => ?_)
  unfold itB
  rw [h x hx]
theorem itemsB_paths (S : List Txt) (l : List FileD) : (itemsB S l).map (·.path) = l.map (·.path) := by unfold itemsB; rw [List.map_map]; rfl
theorem firstE_allB {α : Type} {E : α → Int} : ∀ l : List α, (∀ x ∈ l, E x = 0) → firstE E l = 0
  | [], _ => rfl
  | y :: r, h => by
    unfold firstE
    rw [if_neg (fun k => k (h y (by simp)))]
    exact firstE_allB r (fun x hx => h x (by simp [hx]))
theorem items_rightB {l : List FileD} (S : List Txt) (h : checkS l = 0) : rightS (itemsB S l) = 0 := by
  unfold checkS at h
  unfold rightS
  rw [itemsB_paths]
  by_cases h1 : togS (l.map (·.path)) = 0
  · rw [if_neg (fun k => k h1)] at h ⊢
    refine firstE_allB _ (fun y hy => ?_)
    obtain ⟨x, hx, rfl⟩ := List.mem_map.1 hy
    have hf := firstE_mem l h x hx
    have hm := numM_length (noS S x.data)
    unfold fileE at hf
    split at hf
    · cases hf
    · split at hf
      · cases hf
      · rename_i a b
        unfold itemE itB
        dsimp only
        rw [if_neg a, if_neg (by omega), if_neg (by omega)]
  · rw [if_pos h1] at h; exact absurd h h1
structure FileG (x : FileD) : Prop where
  p : x.path.length ≤ 200
  m : 0 ≤ x.mode ∧ x.mode ≤ 511
  d : x.data.length ≤ 65536
theorem files_good {l : List FileD} (h : checkS l = 0) : l.length ≤ 256 ∧ ∀ x ∈ l, FileG x := by
  obtain ⟨h1, h2⟩ := right_good (items_rightB [] h)
  refine ⟨by unfold itemsB at h1; rwa [List.length_map] at h1, fun x hx => ?_⟩
  have := h2 (itB [] x) (List.mem_map.2 ⟨x, hx, rfl⟩)
  exact ⟨this.p, this.m, by have := this.s.2; unfold itB at this; dsimp only at this; omega⟩
theorem itemsB_ok {l : List FileD} (S : List Txt) (h : checkS l = 0) : ∀ y ∈ itemsB S l, ItemOk y := by
  intro y hy
  obtain ⟨x, hx, rfl⟩ := List.mem_map.1 hy
  have hg := (files_good h).2 x hx
  have h3 := hg.d
  have h4 := hg.m
  have h5 := hg.p
  have hm := numM_length (noS S x.data)
  unfold itB
  exact ⟨by dsimp only; omega, by dsimp only; omega, by dsimp only; omega, by dsimp only; omega⟩
theorem mbE_lenB : ∀ (l : List ItemD) (last : Txt), (∀ x ∈ l, ItGood x) → (mbE last l).length ≤ 300 * l.length
  | [], last, _ => by simp [mbE]
  | x :: r, last, h => by
    have ih := mbE_lenB r x.path (fun y hy => h y (by simp [hy]))
    have hx := h x (by simp)
    have h1 := (nb_length (sharedS last x.path)).2
    have h2 := (nb_length (x.path.drop (sharedS last x.path)).length).2
    have h3 := (nb_length x.mode.toNat).2
    have h4 := (nb_length x.size.toNat).2
    have h5 := hx.p
    have h6 := hx.k
    unfold mbE tb
    simp only [List.length_append, List.length_cons, List.length_drop] at *
    omega
theorem mf_len {l : List FileD} (S : List Txt) (h : checkS l = 0) (hl : l.length ≤ 200) : (mfS S l).length ≤ 65536 := by
  unfold mfS mbytesS
  have hr := items_rightB S h
  obtain ⟨h1, h2⟩ := right_good hr
  rw [if_neg (fun k => k hr)]
  have h3 := mbE_lenB _ [] h2
  have h4 := (nb_length (itemsB S l).length).2
  have h5 : (itemsB S l).length = l.length := by unfold itemsB; simp
  dsimp only
  rw [List.length_append]
  omega
theorem mf_back {l : List FileD} (S : List Txt) (h : checkS l = 0) : ofS (mfS S l) = (itemsB S l, 0) := ofS_fore (items_rightB S h)
theorem mf_e {l : List FileD} (S : List Txt) (h : checkS l = 0) : (mbytesS (itemsB S l)).2 = 0 := by rw [mbytes_e]; exact items_rightB S h
def putAll (S : List Txt) (T : List Ent) (l : List FileD) : List Ent := l.foldl (fun U x => putE U (numM (noS S x.data)) x.data) T
theorem putAll_snoc (S : List Txt) (T : List Ent) (l : List FileD) (x : FileD) : putAll S T (l ++ [x]) = putE (putAll S T l) (numM (noS S x.data)) x.data := by unfold putAll; rw [List.foldl_append]; rfl
theorem TB.putAll (S : List Txt) : ∀ (l : List FileD) {k : Nat} {T : List Ent}, TB k T → TB (k + l.length) (putAll S T l)
  | [], k, T, h => h
  | x :: r, k, T, h => by
    have := TB.putAll S r (h.put (numM (noS S x.data)) x.data)
    rw [List.length_cons, show k + (r.length + 1) = k + 1 + r.length by omega]
    exact this
theorem putAll_stay {S U : List Txt} {T : List Ent} : ∀ {l : List FileD}, (∀ x ∈ l, noS U x.data = noS S x.data) → putAll U T l = putAll S T l := by
  intro l
  induction l generalizing T with
  | nil => exact fun _ => rfl
  | cons x r ih =>
    intro h
    show putAll U (putE T (numM (noS U x.data)) x.data) r = putAll S (putE T (numM (noS S x.data)) x.data) r
    rw [h x (by simp)]
    exact ih (fun y hy => h y (by simp [hy]))
end Go.Proofs.YtamiacmnobklaaaGreatDoor
/- Texts and trees under an ideal book: what is kept of each, and what the trees that are saved need. Mathematics. -/
set_option linter.unusedVariables false
namespace Go.Proofs.YtamiacmnobklaaaGreatDoor
open Go.RowKit

def mkS (S : List Txt) (s : Txt) : Txt := numM (noS S s)
theorem mkS_len (S : List Txt) (s : Txt) : (mkS S s).length = 32 := numM_length _
theorem mkS_inj {S : List Txt} (hS : S.length ≤ 1000000) {s t : Txt} (hs : s ∈ S) (ht : t ∈ S) (h : mkS S s = mkS S t) : s = t := by
  have b1 := noS_le S s
  have b2 := noS_le S t
  exact noS_inj hs ht (numM_inj _ _ (by omega) (by omega) h)
theorem mkS_mark {S : List Txt} (t : Txt) {s : Txt} (hs : s ∈ S ∨ s = t) : mkS (markS S t) s = mkS S s := by unfold mkS; rw [noS_mark S t s hs]
theorem in_mark {S : List Txt} (t : Txt) {s : Txt} (hs : s ∈ S) : s ∈ markS S t := (mem_markS _ _ _).2 (.inl hs)
theorem new_mark (S : List Txt) (t : Txt) : t ∈ markS S t := (mem_markS _ _ _).2 (.inr rfl)
/-- Each entry is one of the book's. -/
def TS (S : List Txt) (T : List Ent) : Prop := ∀ x ∈ T, x.s ∈ S ∧ x.m = mkS S x.s
theorem TS.nil (S : List Txt) : TS S [] := fun x hx => by cases hx
theorem TS.mark {S : List Txt} {T : List Ent} (h : TS S T) (t : Txt) : TS (markS S t) T := fun x hx => ⟨in_mark t (h x hx).1, by rw [mkS_mark t (.inl (h x hx).1)]; exact (h x hx).2⟩
theorem TS.put {S : List Txt} {T : List Ent} (h : TS S T) {s : Txt} (hs : s ∈ S) : TS S (putE T (mkS S s) s) := by
  intro x hx
  unfold putE at hx
  split at hx
  · obtain ⟨y, hy, rfl⟩ := List.mem_map.1 hx
    rw [bumpE_s, bumpE_m]
    exact h y hy
  · rcases List.mem_append.1 hx with c | c
    · exact h x c
    · rw [List.mem_singleton.1 c]; exact ⟨hs, rfl⟩
theorem TS.drop {S : List Txt} {T : List Ent} (h : TS S T) (m : Txt) : TS S (dropE T m) := by
  intro x hx
  unfold dropE at hx
  split at hx
  · exact h x (List.mem_filter.1 hx).1
  · obtain ⟨y, hy, rfl⟩ := List.mem_map.1 hx
    rw [lessE_s, lessE_m]
    exact h y hy
/-- How many lead to a text. -/
def cntE (S : List Txt) (T : List Ent) (s : Txt) : Nat := if s ∈ S then refsE T (mkS S s) else 0
theorem cnt_in {S : List Txt} {T : List Ent} {s : Txt} (hs : s ∈ S) : cntE S T s = refsE T (mkS S s) := by unfold cntE; rw [if_pos hs]
theorem cnt_nil (S : List Txt) (s : Txt) : cntE S [] s = 0 := by unfold cntE; split <;> rfl
theorem cnt_mark {S : List Txt} {T : List Ent} (h : TS S T) (hS : S.length ≤ 900000) (t u : Txt) : cntE (markS S t) T u = cntE S T u := by
  have hl := markS_length S t
  by_cases hu : u ∈ S
  · rw [cnt_in hu, cnt_in (in_mark t hu), mkS_mark t (.inl hu)]
  · by_cases e : u = t
    · subst e
      rw [cnt_in (new_mark S u)]
      unfold cntE
      rw [if_neg hu]
      refine refsE_none (fun hk => ?_)
      obtain ⟨x, hx, hm⟩ := mem_keysE.1 hk
      have h2 := (h.mark u) x hx
      rw [h2.2] at hm
      have := mkS_inj (by omega) h2.1 (new_mark S u) hm
      exact hu (this ▸ (h x hx).1)
    · unfold cntE
      rw [if_neg hu, if_neg (fun c => by rcases (mem_markS _ _ _).1 c with c | c; exact hu c; exact e c)]
theorem cnt_put {S : List Txt} {T : List Ent} (hS : S.length ≤ 1000000) {s : Txt} (hs : s ∈ S) (u : Txt) : cntE S (putE T (mkS S s) s) u = cntE S T u + (if u = s then 1 else 0) := by
  by_cases hu : u ∈ S
  · rw [cnt_in hu, cnt_in hu, refsE_put]
    by_cases e : u = s
    · subst e; rw [if_pos rfl, if_pos rfl]
    · rw [if_neg e, if_neg (fun c => e (mkS_inj hS hu hs c))]
  · unfold cntE
    rw [if_neg hu, if_neg hu, if_neg (fun e : u = s => hu (e ▸ hs))]
theorem cnt_drop {S : List Txt} {T : List Ent} (hS : S.length ≤ 1000000) {s : Txt} (hs : s ∈ S) (u : Txt) : cntE S (dropE T (mkS S s)) u = cntE S T u - (if u = s then 1 else 0) := by
  by_cases hu : u ∈ S
  · rw [cnt_in hu, cnt_in hu, refsE_drop]
    by_cases e : u = s
    · subst e; rw [if_pos rfl, if_pos rfl]
    · rw [if_neg e, if_neg (fun c => e (mkS_inj hS hu hs c))]
  · unfold cntE
    rw [if_neg hu, if_neg hu, if_neg (fun e : u = s => hu (e ▸ hs))]
theorem key_iff {S : List Txt} {T : List Ent} (hT : TOk T) {s : Txt} (hs : s ∈ S) : mkS S s ∈ keysE T ↔ 1 ≤ cntE S T s := by
  rw [cnt_in hs]
  exact ⟨fun h => refsE_pos hT h, in_of_refs⟩
theorem got_cnt {S : List Txt} {T : List Ent} (h : TS S T) (hS : S.length ≤ 1000000) {s : Txt} (hs : s ∈ S) (hc : 1 ≤ cntE S T s) : gotE T (mkS S s) = (s, 0) := by
  rw [cnt_in hs] at hc
  obtain ⟨x, hg, hx, hm⟩ := getE_in (in_of_refs hc)
  rw [gotE_in hg]
  have h2 := h x hx
  rw [h2.2] at hm
  rw [mkS_inj hS h2.1 hs hm]
theorem cnt_mem {S : List Txt} {T : List Ent} (hT : TOk T) (h : TS S T) (hS : S.length ≤ 1000000) (s : Txt) : 1 ≤ cntE S T s ↔ s ∈ T.map (·.s) := by
  constructor
  · intro hc
    by_cases hs : s ∈ S
    · rw [cnt_in hs] at hc
      obtain ⟨x, hg, hx, hm⟩ := getE_in (in_of_refs hc)
      have h2 := h x hx
      rw [h2.2] at hm
      exact List.mem_map.2 ⟨x, hx, mkS_inj hS h2.1 hs hm⟩
    · unfold cntE at hc; rw [if_neg hs] at hc; omega
  · intro hm
    obtain ⟨x, hx, rfl⟩ := List.mem_map.1 hm
    have h2 := h x hx
    rw [cnt_in h2.1, ← h2.2, refsE_some (getE_of hT.nd hx)]
    exact hT.pos x hx
theorem nodup_of_map {α β : Type} {f : α → β} : ∀ {l : List α}, (l.map f).Nodup → l.Nodup
  | [], _ => List.nodup_nil
  | x :: r, h => by
    rw [List.map_cons, List.nodup_cons] at h
    exact List.nodup_cons.2 ⟨fun c => h.1 (List.mem_map.2 ⟨x, c, rfl⟩), nodup_of_map h.2⟩
theorem ts_nodup {S : List Txt} {T : List Ent} (hT : TOk T) (h : TS S T) : (T.map (·.s)).Nodup := by
  have h1 := hT.nd
  unfold keysE at h1
  have e : T.map (·.m) = (T.map (·.s)).map (mkS S) := by
    rw [List.map_map]
    exact List.map_congr_left (fun x hx => (h x hx).2)
  rw [e] at h1
  exact nodup_of_map h1
/-! ### trees -/
def mkT (S : List Txt) (l : List FileD) : Txt := mkS S (mfS S l)
def occS (S : List Txt) (l : List FileD) : List Txt := mfS S l :: l.map (·.data)
structure LiveS (S : List Txt) (l : List FileD) : Prop where
  ck : checkS l = 0
  len : l.length ≤ 12
  dat : ∀ x ∈ l, x.data ∈ S
  man : mfS S l ∈ S
theorem mfS_mark {S : List Txt} (t : Txt) {l : List FileD} (h : ∀ x ∈ l, x.data ∈ S) : mfS (markS S t) l = mfS S l := by
  unfold mfS
  rw [itemsB_stay (fun x hx => noS_mark S t x.data (.inl (h x hx)))]
theorem LiveS.mark {S : List Txt} {l : List FileD} (h : LiveS S l) (t : Txt) : LiveS (markS S t) l :=
  ⟨h.ck, h.len, fun x hx => in_mark t (h.dat x hx), by rw [mfS_mark t h.dat]; exact in_mark t h.man⟩
theorem mkT_mark {S : List Txt} (t : Txt) {l : List FileD} (h : LiveS S l) : mkT (markS S t) l = mkT S l := by
  unfold mkT
  rw [mfS_mark t h.dat, mkS_mark t (.inl h.man)]
theorem occS_mark {S : List Txt} (t : Txt) {l : List FileD} (h : LiveS S l) : occS (markS S t) l = occS S l := by
  unfold occS
  rw [mfS_mark t h.dat]
theorem LiveS.occ {S : List Txt} {l : List FileD} (h : LiveS S l) : ∀ s ∈ occS S l, s ∈ S := by
  intro s hs
  rcases List.mem_cons.1 hs with rfl | c
  · exact h.man
  · obtain ⟨x, hx, rfl⟩ := List.mem_map.1 c
    exact h.dat x hx
theorem items_marks (S : List Txt) (l : List FileD) : (itemsB S l).map (·.mark) = (l.map (·.data)).map (mkS S) := by
  unfold itemsB
  rw [List.map_map, List.map_map]
  rfl
theorem items_inj {S : List Txt} (hS : S.length ≤ 1000000) : ∀ {l k : List FileD}, (∀ x ∈ l, x.data ∈ S) → (∀ x ∈ k, x.data ∈ S) → itemsB S l = itemsB S k → l = k
  | [], [], _, _, _ => rfl
  | [], y :: k, _, _, h => by cases h
  | x :: l, [], _, _, h => by cases h
  | x :: l, y :: k, hl, hk, h => by
    have h' : itB S x :: itemsB S l = itB S y :: itemsB S k := h
    injection h' with h1 h2
    have e := items_inj hS (fun z hz => hl z (by simp [hz])) (fun z hz => hk z (by simp [hz])) h2
    unfold itB at h1
    injection h1 with e1 e2 e3 e4
    have e5 := mkS_inj hS (hl x (by simp)) (hk y (by simp)) e4
    obtain ⟨xp, xm, xd⟩ := x
    obtain ⟨yp, ym, yd⟩ := y
    dsimp only at e1 e2 e5
    subst e1; subst e2; subst e5
    rw [e]
theorem mkT_inj {S : List Txt} (hS : S.length ≤ 1000000) {l k : List FileD} (hl : LiveS S l) (hk : LiveS S k) (h : mkT S l = mkT S k) : l = k := by
  have e := mkS_inj hS hl.man hk.man h
  have h1 := mf_back S hl.ck
  rw [e, mf_back S hk.ck] at h1
  injection h1 with h1 _
  exact items_inj hS hl.dat hk.dat h1.symm
theorem cnt_putAll {S : List Txt} (hS : S.length ≤ 1000000) : ∀ (l : List FileD) (T : List Ent), (∀ x ∈ l, x.data ∈ S) → ∀ u, cntE S (putAll S T l) u = cntE S T u + (l.map (·.data)).count u
  | [], T, _, u => by simp [putAll]
  | x :: r, T, h, u => by
    show cntE S (putAll S (putE T (mkS S x.data) x.data) r) u = _
    rw [cnt_putAll hS r _ (fun y hy => h y (by simp [hy])), cnt_put hS (h x (by simp)), List.map_cons, List.count_cons]
    by_cases e : u = x.data
    · subst e; simp; omega
    · have : (x.data == u) = false := by rw [beq_eq_false_iff_ne]; exact fun c => e c.symm
      rw [if_neg e, this]
      simp
theorem ts_putAll {S : List Txt} : ∀ (l : List FileD) (T : List Ent), TS S T → (∀ x ∈ l, x.data ∈ S) → TS S (putAll S T l)
  | [], T, h, _ => h
  | x :: r, T, h, hl => ts_putAll r _ (h.put (hl x (by simp))) (fun y hy => hl y (by simp [hy]))
theorem cnt_dropAll {S : List Txt} (hS : S.length ≤ 1000000) : ∀ (L : List Txt) (T : List Ent), (∀ s ∈ L, s ∈ S) → ∀ u, cntE S (dropAll T (L.map (mkS S))) u = cntE S T u - L.count u
  | [], T, _, u => by simp [dropAll]
  | s :: r, T, h, u => by
    show cntE S (dropAll (dropE T (mkS S s)) (r.map (mkS S))) u = _
    rw [cnt_dropAll hS r _ (fun y hy => h y (by simp [hy])), cnt_drop hS (h s (by simp)), List.count_cons]
    by_cases e : u = s
    · subst e; simp; omega
    · have : (s == u) = false := by rw [beq_eq_false_iff_ne]; exact fun c => e c.symm
      rw [if_neg e, this]
      simp
theorem ts_dropAll {S : List Txt} : ∀ (L : List Txt) (T : List Ent), TS S T → TS S (dropAll T L)
  | [], T, h => h
  | m :: r, T, h => ts_dropAll r _ (h.drop m)
theorem man_live {S : List Txt} {T : List Ent} (h : TS S T) (hS : S.length ≤ 1000000) {l : List FileD} (hl : LiveS S l) (hc : 1 ≤ cntE S T (mfS S l)) : manE T (mkT S l) = (itemsB S l, 0) := by
  unfold manE mkT
  rw [got_cnt h hS hl.man hc, if_pos rfl]
  exact mf_back S hl.ck
theorem load_live {S : List Txt} {T : List Ent} (hT : TOk T) (h : TS S T) (hS : S.length ≤ 1000000) {l : List FileD} (hl : LiveS S l) (hc : ∀ s ∈ occS S l, 1 ≤ cntE S T s) : loadE T (mkT S l) = (l, 0) := by
  have hm := man_live h hS hl (hc _ (by simp [occS]))
  have hd : ∀ x ∈ l, 1 ≤ cntE S T x.data := fun x hx => hc _ (List.mem_cons_of_mem _ (List.mem_map.2 ⟨x, hx, rfl⟩))
  unfold loadE
  rw [hm]
  dsimp only
  rw [if_neg (by simp), if_pos (fun y hy => by
    obtain ⟨x, hx, rfl⟩ := List.mem_map.1 hy
    exact (key_iff hT (hl.dat x hx)).2 (hd x hx)), if_pos (fun y hy => by
    obtain ⟨x, hx, rfl⟩ := List.mem_map.1 hy
    show ((gotE T (mkS S x.data)).1.length : Int) = (x.data.length : Int)
    rw [got_cnt h hS (hl.dat x hx) (hd x hx)])]
  have e : (itemsB S l).map (fileB T) = l := by
    unfold itemsB
    rw [List.map_map]
    have : l.map (fileB T ∘ itB S) = l.map id := List.map_congr_left (fun x hx => by
      show (⟨x.path, x.mode, (gotE T (mkS S x.data)).1⟩ : FileD) = x
      rw [got_cnt h hS (hl.dat x hx) (hd x hx)])
    rw [this, List.map_id]
  rw [e]
def needS (S : List Txt) (Ls : List (List FileD)) : List Txt := Ls.flatMap (occS S)
theorem needS_mark {S : List Txt} (t : Txt) {Ls : List (List FileD)} (h : ∀ l ∈ Ls, LiveS S l) : needS (markS S t) Ls = needS S Ls := by
  unfold needS
  rw [List.flatMap_def, List.flatMap_def, List.map_congr_left (fun l hl => occS_mark t (h l hl))]
theorem roots_mark {S : List Txt} (t : Txt) {Ls : List (List FileD)} (h : ∀ l ∈ Ls, LiveS S l) : Ls.map (mkT (markS S t)) = Ls.map (mkT S) := List.map_congr_left (fun l hl => mkT_mark t (h l hl))
theorem needS_in {S : List Txt} {Ls : List (List FileD)} {l : List FileD} (hl : l ∈ Ls) {s : Txt} (hs : s ∈ occS S l) : s ∈ needS S Ls := List.mem_flatMap.2 ⟨l, hl, hs⟩
theorem count_mk {S : List Txt} (hS : S.length ≤ 1000000) {s : Txt} (hs : s ∈ S) : ∀ L : List Txt, (∀ t ∈ L, t ∈ S) → (L.map (mkS S)).count (mkS S s) = L.count s
  | [], _ => rfl
  | t :: r, h => by
    rw [List.map_cons, List.count_cons, List.count_cons, count_mk hS hs r (fun u hu => h u (by simp [hu]))]
    by_cases e : t = s
    · subst e; simp
    · have h1 : (t == s) = false := by rw [beq_eq_false_iff_ne]; exact e
      have h2 : (mkS S t == mkS S s) = false := by rw [beq_eq_false_iff_ne]; exact fun c => e (mkS_inj hS (h t (by simp)) hs c)
      rw [h1, h2]
theorem check_live {S : List Txt} {T : List Ent} (h : TS S T) (hS : S.length ≤ 1000000) {Ls : List (List FileD)} (hl : ∀ l ∈ Ls, LiveS S l) (hn : ∀ s, (needS S Ls).count s ≤ cntE S T s) : checkE T (Ls.map (mkT S)) = true := by
  have hin : ∀ s ∈ needS S Ls, s ∈ S := fun s hs => by obtain ⟨l, h1, h2⟩ := List.mem_flatMap.1 hs; exact (hl l h1).occ s h2
  have hpos : ∀ s ∈ needS S Ls, 1 ≤ cntE S T s := fun s hs => Nat.le_trans (List.one_le_count_iff.2 hs) (hn s)
  have hman : ∀ l ∈ Ls, manE T (mkT S l) = (itemsB S l, 0) := fun l h1 => man_live h hS (hl l h1) (hpos _ (needS_in h1 (by simp [occS])))
  have hlead : leadL T (Ls.map (mkT S)) = (needS S Ls).map (mkS S) := by
    unfold leadL needS
    rw [List.flatMap_map, List.map_flatMap, List.flatMap_def, List.flatMap_def]
    congr 1
    refine List.map_congr_left (fun l h1 => ?_)
    rw [hman l h1]
    dsimp only
    rw [items_marks]
    rfl
  unfold checkE
  rw [hlead, decide_eq_true (fun r hr => by
    obtain ⟨l, h1, rfl⟩ := List.mem_map.1 hr
    rw [hman l h1]), Bool.true_and]
  refine decide_eq_true (fun m hm => ?_)
  obtain ⟨s, hs, rfl⟩ := List.mem_map.1 hm
  rw [count_mk hS (hin s hs) _ hin, ← cnt_in (hin s hs)]
  exact hn s
/-- A root that goes. -/
theorem erase_live {S : List Txt} (hS : S.length ≤ 1000000) {Ls : List (List FileD)} (hl : ∀ l ∈ Ls, LiveS S l) {l : List FileD} (h : LiveS S l) (hm : mkT S l ∈ Ls.map (mkT S)) :
    ∃ A B, Ls = A ++ l :: B ∧ (Ls.map (mkT S)).erase (mkT S l) = (A ++ B).map (mkT S) := by
  obtain ⟨L1, L2, h1, h2, h3⟩ := List.exists_erase_eq hm
  obtain ⟨A, C, e1, e2, e3⟩ := List.map_eq_append_iff.1 h2
  obtain ⟨k, B, e4, e5, e6⟩ := List.map_eq_cons_iff.1 e3
  subst e1; subst e4
  have hk : k = l := mkT_inj hS (hl k (by simp)) h e5
  subst hk
  exact ⟨A, B, rfl, by rw [h3, ← e2, ← e6, List.map_append]⟩
theorem need_split (S : List Txt) (A B : List (List FileD)) (l : List FileD) (s : Txt) : (needS S (A ++ l :: B)).count s = (needS S (A ++ B)).count s + (occS S l).count s := by
  unfold needS
  simp only [List.flatMap_append, List.flatMap_cons, List.count_append]
  omega
theorem need_snoc (S : List Txt) (A : List (List FileD)) (l : List FileD) (s : Txt) : (needS S (A ++ [l])).count s = (needS S A).count s + (occS S l).count s := by
  have := need_split S A [] l s
  rw [List.append_nil] at this
  exact this
end Go.Proofs.YtamiacmnobklaaaGreatDoor
/- Landed blob: Save, walked. -/
set_option linter.unusedVariables false
namespace Go.Proofs.YtamiacmnobklaaaGreatDoor
open Go.RowKit

theorem txt_zero : (Value.string ByteArray.empty).cells.size = 1 := rfl
/-- One that was built just now, behind others of the call's own, as a step of a region that draws. -/
theorem step_newB {α : Type} {enc : α → List Value} {k : Nat} {P : Program} {w : World} {ops : Array Oper} {o : Oper} {a : Act} {K : Act → World → Prop} {Q : Exit → Act → World → Prop} {E : Prop} (hgd : o.guard = none) (s x : Operand) (t e : TypeId) (z : Value) (bytes : Nat)
    (ho : o.op = .call { callee := .builtin .append, args := #[s, x], argTypes := #[t, t] }) (ht : P.underlying t = some (.slice e))
    (hinfo : (P.info? e).map (fun i => (i.zero, i.size, i.bytes)) = some (some z, k, bytes)) (hz : z.cells.size = k) (hk : 0 < k) (hE : EncN enc k)
    (base : Nat) (v : Value) (l : List α) (y : α) (p : Nat) (hs : a.eval s = v) (hown : OwnN enc k w base e v l) (hx : a.eval x = .slice (some ⟨p, 0, none⟩) 1 1) (hy : ElAt enc w p 0 y)
    (hlen : (l.length + 1) * bytes ≤ 140737488355328) (hlen2 : l.length + 1 ≤ maxLen) (hbase : base ≤ w.heap.size)
    (h : ∀ g c w', OwnN enc k w' base e (.slice (some ⟨g, 0, none⟩) (l.length + 1) c) (l ++ [y]) → TurnN base w v w' (.slice (some ⟨g, 0, none⟩) (l.length + 1) c) → K (a.put o.dst (.slice (some ⟨g, 0, none⟩) (l.length + 1) c)) w') :
    if Region.wanted o (yielded ops a.tmps) = true then Oper.wp P o a w K Q else E := by
  obtain ⟨i0, hi, hz0, hz1, hz2⟩ := info_parts hinfo
  refine step_append_lies w hgd s x t ho base _ i0 z k bytes ht hi hz0 hz1 hz2 hz hk v l.length (flatN enc l) hs hown ⟨p, 0, none⟩ 1 1 (enc y) hx (by rw [hE.len, Nat.one_mul]) ?_ (hE.one y) (by decide) hlen2 hlen hbase w.heap.size rfl ?_
  · intro j u hj
    rw [addr_add0]
    have := hy j u hj
    rwa [Nat.zero_add] at this
  · intro g cap w' hown' hg hat _
    refine h g cap w' ?_ ⟨(Below.refl base w).grown hg hbase (fun k hk => (World.ownsRow.lt hown k hk).1), ⟨hg.os, hg.tape, hg.output, hg.size, fun k hk hm => hg.block k hk (fun he => hm he.symm)⟩, fun g' hg' => ?_⟩
    · unfold OwnN
      rw [flatN_append, List.length_append, flatN_one]
      exact hown'
    · simp [Value.ownBlock] at hg'
      subst hg'
      rcases hat with e | e
      · exact .inl e
      · exact .inr (by omega)
set_option maxRecDepth 100000 in
set_option maxHeartbeats 1000000 in
theorem bSave_no (w : World) (pb p bm : Nat) (N NF : Nat → Prop) (S : List Txt) (T : List Ent) (R : List Txt) (v : Value) (xs : List FileD) (h : BW w pb p bm N S T R) (hNF : ∀ g, NF g → ¬ N g ∧ g ≠ bm) (hrow : RowN encF 3 NF w v xs) (hok : ∀ x ∈ xs, FileOk x) (hl : xs.length ≤ 1000) (hS : S.length ≤ 900000) (hc : checkS xs ≠ 0) :
    Calls Tryz.prog 14 #[.pointer (some ⟨pb, 0, none⟩), v] w fun e w' => e = .returned (.tuple #[.string ByteArray.empty, .int .i64 (checkS xs)]) ∧ BW w' pb p bm N S T R ∧ Below w.heap.size w w' := by
  have RD := Lib.hid (bReady_any w pb p bm N S T R h)
  have IT := Lib.hid (tItems_no p bm v xs w hrow hok (by omega) hc)
  have c0 : w.cell? ⟨pb, 0, none⟩ = some (.pointer (some ⟨p, 0, none⟩)) := by obtain ⟨mt, v, D, β, hb⟩ := h.blob; exact hb.c0
  obtain ⟨va, vc, hv, _⟩ := hrow.slice
  subst hv
  have HH := Lib.hid h
  have m1 : (checkS xs != 0) = true := by simp [hc]
  clear h hrow hok hNF
  generalize checkS xs = ce at *
  clear hc
  go_enter Tryz.func14, Tryz.ntmps14
  go_wp2_with fail
  refine RD.out.mono ?_
  rintro e w' ⟨rfl, rfl⟩
  go_wp2_with fail
  refine IT.out.mono ?_
  rintro e w1 ⟨rfl, hb1⟩
  go_wp2_with fail
  go_ret2
  exact ⟨rfl, HH.out.new hb1, hb1⟩
set_option maxRecDepth 100000 in
set_option maxHeartbeats 2000000 in
theorem bSave_ok (w : World) (pb p bm : Nat) (N NF : Nat → Prop) (S : List Txt) (T : List Ent) (R : List Txt) (v : Value) (xs : List FileD) (h : BW w pb p bm N S T R) (hNF : ∀ g, NF g → ¬ N g ∧ g ≠ bm) (hrow : RowN encF 3 NF w v xs) (hl : xs.length ≤ 200) (hS : S.length ≤ 800000) (hR : R.length ≤ 900000) (hc : checkS xs = 0) {k : Nat} (hk : TB k T) (hk2 : k ≤ 900000) :
    Calls Tryz.prog 14 #[.pointer (some ⟨pb, 0, none⟩), v] w fun e w' => e = .returned (.tuple #[.string ⟨(numM (noS (markAll S xs) (mfS (markAll S xs) xs))).toArray⟩, .int .i64 0]) ∧
      ∃ N', BW w' pb p bm N' (markS (markAll S xs) (mfS (markAll S xs) xs)) (putE (putAll (markAll S xs) T xs) (numM (noS (markAll S xs) (mfS (markAll S xs) xs))) (mfS (markAll S xs) xs)) (R ++ [numM (noS (markAll S xs) (mfS (markAll S xs) xs))]) ∧ BTurn w w' bm N N' := by
  obtain ⟨hgl, hgood⟩ := files_good hc
  have hok : ∀ x ∈ xs, FileOk x := fun x hx => by have := hgood x hx; have h1 := this.p; have h2 := this.m; have h3 := this.d; exact ⟨by omega, by omega, by omega⟩
  have RD := Lib.hid (bReady_any w pb p bm N S T R h)
  have IT := Lib.hid (tItems_from S p bm v xs w (fun g hg => (hNF g hg).2) hrow h.id (by omega) hok (by omega))
  rw [hc] at IT
  have c0 : w.cell? ⟨pb, 0, none⟩ = some (.pointer (some ⟨p, 0, none⟩)) := by obtain ⟨mt, v, D, β, hb⟩ := h.blob; exact hb.c0
  obtain ⟨va, vc, hv, _⟩ := hrow.slice
  subst hv
  have HH := Lib.hid h
  have HNF := Lib.hid hNF
  have HRW := Lib.hid hrow
  have HG := Lib.hid hgood
  have HK := Lib.hid hk
  have hlens := h.lens
  have hNl := Lib.hid h.blob.lt.2
  have hUl := markAll_len S xs
  have HGE := Lib.hid (itemsG_eq xs S)
  have HML := Lib.hid (mf_len (markAll S xs) hc hl)
  have HME := Lib.hid (mf_e (markAll S xs) hc)
  have HIO := Lib.hid (itemsB_ok (markAll S xs) hc)
  have HPA := Lib.hid (TB.putAll (markAll S xs) xs hk)
  clear h hNF hrow hgood hok hk hc
  rw [HGE.out] at IT
  have HFU := Lib.hid (show (xs.map (·.data)).foldl markS S = markAll S xs from rfl)
  rw [HFU.out] at IT
  generalize markAll S xs = U at *
  clear HGE HFU
  obtain ⟨mf, hmf⟩ : ∃ mf, mf = mfS U xs := ⟨_, rfl⟩
  obtain ⟨rm, hrm⟩ : ∃ rm, rm = numM (noS U mf) := ⟨_, rfl⟩
  obtain ⟨U2, hU2⟩ : ∃ U2, U2 = markS U mf := ⟨_, rfl⟩
  obtain ⟨V, hV⟩ : ∃ V, V = putAll U T xs := ⟨_, rfl⟩
  obtain ⟨V2, hV2⟩ : ∃ V2, V2 = putE V rm mf := ⟨_, rfl⟩
  rw [← hmf] at HML ⊢
  rw [← hrm, ← hU2, ← hV, ← hV2]
  rw [← hV] at HPA
  have HMF := Lib.hid (show (mbytesS (itemsB U xs)).1 = mf from hmf.symm)
  have hrl : rm.length = 32 := by rw [hrm]; exact numM_length _
  have HRM := Lib.hid hrm
  have HU2 := Lib.hid hU2
  have HV := Lib.hid hV
  have HV2 := Lib.hid hV2
  clear hmf hrm hU2 hV hV2
  go_enter Tryz.func14, Tryz.ntmps14
  go_wp2_with fail
  refine RD.out.mono ?_
  rintro e w' ⟨rfl, rfl⟩
  clear RD
  go_wp2_with fail
  refine IT.out.mono ?_
  rintro e w1 ⟨v1, rfl, _, hg, hk1⟩
  obtain ⟨hown1, hid1⟩ := hg trivial
  obtain ⟨oa, om, oc, hv1⟩ := own_slice hown1
  subst hv1
  have hom := own_lenV hown1
  have hom' : om = xs.length := by unfold itemsB at hom; rw [List.length_map] at hom; exact hom
  subst hom'
  obtain ⟨hb1, ht1⟩ := HH.out.marked hid1 hk1
  have HI1 := Lib.hid (OwnN.row encI_ok hown1)
  have H1 := Lib.hid hb1
  have T1 := Lib.hid ht1
  have HF1 := Lib.hid (HRW.out.kept hk1 (fun g hg => (HNF.out g hg).2))
  have hs1 := hk1.size
  have TBY := Lib.hid (tBytes_any _ (itemsB U xs) w1 (HI1.out.mono (fun _ _ => trivial)) HIO.out (by unfold itemsB; rw [List.length_map]; omega))
  rw [HME.out] at TBY
  rw [HMF.out] at TBY
  have hml := HML.out
  have q1 : ¬ (65536 : Int) < (mf.length : Int) := by omega
  have SM := Lib.hid (show (⟨mf.toArray⟩ : ByteArray).size = mf.length from rfl)
  clear hg hk1 hown1 hid1 hom hb1 ht1 IT c0 HMF HML HME
  go_wp2_with fail
  refine TBY.out.mono ?_
  rintro e w2 ⟨rfl, hb2⟩
  have HI2 := Lib.hid (HI1.out.keep hb2)
  have HF2 := Lib.hid (HF1.out.keep hb2)
  have H2 := Lib.hid (H1.out.new hb2)
  have T2 := Lib.hid (T1.out.new hb2)
  have hs2 := hb2.size
  clear hb2 TBY HI1 HF1 H1 T1
  go_wp2_with fail
  go_loopw [40] (fun v40 wr => ∃ i N', i ≤ xs.length ∧ v40 = .int .i64 (i : Nat) ∧ BW wr pb p bm N' U (putAll U T (xs.take i)) R ∧ BTurn w2 wr bm N N') (fun v40 _ => xs.length - (intOf v40).toNat)
  case atStart => exact ⟨0, N, by omega, rfl, H2.out, BTurn.refl _ _ _⟩
  case round =>
    obtain ⟨i, N1, hi, rfl, hbw, hbt⟩ := hrel
    have HB := Lib.hid hbw
    have HT := Lib.hid hbt
    clear hbw hbt H2
    have i0 : (0 : Int) ≤ (i : Int) := by omega
    by_cases hlt : i < xs.length
    · have j1 : (i : Int) < (xs.length : Int) := by omega
      have hli : i < (itemsB U xs).length := by unfold itemsB; rw [List.length_map]; exact hlt
      obtain ⟨g, o, c', hv, hn, hel⟩ := HI2.out.at hli
      injection hv with ea eb ec
      subst ea; subst ec
      clear eb
      obtain ⟨gf, of', cf, hvf, hnf, helf⟩ := HF2.out.at hlt
      injection hvf with ea eb ec
      subst ea; subst ec
      clear eb
      have hel1 := hel.kept HT.out.kp (fun c => by
        rcases c with c | c
        · have := hNl.out g c; omega
        · omega)
      have hel2 := helf.kept HT.out.kp (fun c => by
        rcases c with c | c
        · exact (HNF.out gf hnf).1 c
        · exact (HNF.out gf hnf).2 c)
      have ei : (itemsB U xs)[i] = itB U xs[i] := List.getElem_map _
      rw [ei] at hel1
      have d0 := hel1 0 _ rfl
      have d1 := hel1 1 _ rfl
      have d2 := hel1 2 _ rfl
      have d3 := hel1 3 _ rfl
      have f2 := hel2 2 _ rfl
      rw [Nat.add_zero] at d0
      have HD := Lib.hid (show putAll U T (xs.take (i + 1)) = putE (putAll U T (xs.take i)) (numM (noS U xs[i].data)) xs[i].data by
        rw [List.take_succ_eq_append_getElem hlt]; exact putAll_snoc _ _ _ _)
      have HTB := Lib.hid (TB.putAll U (xs.take i) HK.out)
      have htl : (xs.take i).length ≤ 200 := by rw [List.length_take]; omega
      have hxg := (HG.out xs[i] (List.getElem_mem hlt)).d
      unfold itB at d0 d1 d2 d3
      dsimp only at d0 d1 d2 d3
      clear hel hel1 helf hel2 ei
      generalize putAll U T (xs.take i) = V at *
      generalize xs[i] = x at *
      obtain ⟨pt, md, dt⟩ := x
      dsimp only at d0 d1 d2 d3 f2 HD hxg
      have hmk := numM_length (noS U dt)
      generalize numM (noS U dt) = mk at *
      have hbx := heap_alloc_new wr (.cells #[.string ⟨pt.toArray⟩, .int .i64 md, .int .i64 (dt.length : Int), .string ⟨mk.toArray⟩] 78)
      have hbA : Below wr.heap.size wr (wr.alloc (.cells #[.string ⟨pt.toArray⟩, .int .i64 md, .int .i64 (dt.length : Int), .string ⟨mk.toArray⟩] 78)) := (Below.refl _ wr).alloc (Nat.le_refl _) _
      have HBA := Lib.hid (HB.out.new hbA)
      have HTA := Lib.hid (HT.out.new hbA)
      have f2A := cell_alloc1 f2 (.cells #[.string ⟨pt.toArray⟩, .int .i64 md, .int .i64 (dt.length : Int), .string ⟨mk.toArray⟩] 78)
      clear hbA HB HT
      go_wp2_with fail
      generalize hwA : wr.alloc (.cells #[.string ⟨pt.toArray⟩, .int .i64 md, .int .i64 (dt.length : Int), .string ⟨mk.toArray⟩] 78) = wA at *
      obtain ⟨nb, hnb⟩ : ∃ nb, nb = wr.heap.size := ⟨_, rfl⟩
      rw [← hnb] at hbx ⊢
      clear hwA hnb d0 d1 d2 d3 f2
      have k3 : wA.cell? ⟨nb, 3, none⟩ = some (.string ⟨mk.toArray⟩) := by rw [cell_of_row _ _ _ _ _ _ hbx]; rfl
      clear hbx
      have HBD := Lib.hid (HBA.out.new (Below_drew (Below.refl wA.heap.size wA)))
      have HTD := Lib.hid (HTA.out.new (Below_drew (Below.refl wA.heap.size wA)))
      clear HBA HTA
      go_still_tail 8, (by kernel_rfl)
      change wpList _ _ _ _ _ wA.drew
      clear k3 f2A
      generalize wA.drew = w4 at *
      have LE := Lib.hid (bLead_any w4 pb p bm N1 U V R mk dt HBD.out (by omega) hxg HTB.out (by omega))
      go_wp2_with fail
      refine LE.out.mono ?_
      rintro e w5 ⟨rfl, N2, hbw2, hbt2⟩
      have HB2 := Lib.hid hbw2
      have HT2 := Lib.hid (HTD.out.trans hbt2)
      clear hbw2 hbt2 LE HBD HTD
      go_wp2_with fail
      go_roundw
      case rel => exact ⟨i + 1, N2, hlt, by go_num, by rw [HD.out]; exact HB2.out, HT2.out⟩
      case measure => simp [intOf]; omega
    · obtain rfl : i = xs.length := by omega
      have j1 : ¬ (xs.length : Int) < (xs.length : Int) := by omega
      rw [List.take_of_length_le (Nat.le_refl _), ← HV.out] at HB
      obtain ⟨w3, hw3⟩ : ∃ w3, w3 = wr := ⟨_, rfl⟩
      rw [← hw3] at HB HT ⊢
      have HT3 := Lib.hid (T2.out.trans HT.out)
      have MK := Lib.hid (mark_ideal w3 p bm U mf HB.out.id (by omega) (by omega))
      rw [← HRM.out, ← HU2.out] at MK
      have LE := fun w' => Lib.hid (fun (h' : BW w' pb p bm N1 U2 V R) => bLead_any w' pb p bm N1 U2 V R rm mf h' (by omega) hml HPA.out (by omega))
      rw [← HV2.out] at LE
      have c0 : w3.cell? ⟨pb, 0, none⟩ = some (.pointer (some ⟨p, 0, none⟩)) := by obtain ⟨mt, v, D, β, hb⟩ := HB.out.blob; exact hb.c0
      clear hw3 HT T2 wr HIO HPA HG
      go_wp2_with fail
      refine MK.out.mono ?_
      rintro e w4 ⟨rfl, hid4, hk4⟩
      obtain ⟨hb4, ht4⟩ := HB.out.marked hid4 hk4
      have L4 := Lib.hid ((LE w4).out hb4)
      have HT4 := Lib.hid (HT3.out.trans ht4)
      clear hid4 hk4 hb4 ht4 HB HT3 LE MK
      go_wp2_with fail
      refine L4.out.mono ?_
      rintro e w5 ⟨rfl, N2, hb5, ht5⟩
      have HB5 := Lib.hid hb5
      have HT5 := Lib.hid (HT4.out.trans ht5)
      obtain ⟨mt, vr, D, β, hbi⟩ := hb5.blob
      have HBI := Lib.hid hbi
      have c2 := hbi.c2
      obtain ⟨ra, rn, rc, hvr⟩ := own_slice hbi.row
      subst hvr
      have hrn := own_lenV hbi.row
      have hrn' : rn = R.length := hrn
      subst hrn'
      have hpb := hbi.lt _ hbi.nb
      clear hb5 ht5 hbi L4 HT4 hrn
      go_wp2_with fail
      have CL := fun w' => Lib.hid (clone_any rm w' (by omega))
      have NX := Lib.hid (fun (w6 : World) (hb : Below w5.heap.size w5.drew w6) => show w6.cell? ⟨pb, 2, none⟩ = some (.slice ra R.length rc) ∧ (w6.alloc (.cells #[.string ⟨rm.toArray⟩] 9)).cell? ⟨pb, 2, none⟩ = some (.slice ra R.length rc) ∧
          Hid (OwnN encZB 1 (w6.alloc (.cells #[.string ⟨rm.toArray⟩] 9)) 0 9 (.slice ra R.length rc) R) ∧ Hid (ElAt encZB (w6.alloc (.cells #[.string ⟨rm.toArray⟩] 9)) w6.heap.size 0 rm) ∧
          Hid (∀ (v7 : Value) (w7 : World), OwnN encZB 1 w7 0 9 v7 (R ++ [rm]) → TurnN 0 (w6.alloc (.cells #[.string ⟨rm.toArray⟩] 9)) (.slice ra R.length rc) w7 v7 →
            w7.frozen? ⟨pb, 2, none⟩ = false ∧ (∃ u, w7.cell? ⟨pb, 2, none⟩ = some u) ∧ Hid (BlobAt (w7.setCell ⟨pb, 2, none⟩ v7) pb p (fun k => N2 k ∨ v7.ownBlock = some k) V2 (R ++ [rm]) ∧ Kept N2 w5 (w7.setCell ⟨pb, 2, none⟩ v7) ∧ ∀ g, v7.ownBlock = some g → N2 g ∨ w5.heap.size ≤ g)) by
        have hb' : Below w5.heap.size w5 w6 := (Below_drew (Below.refl _ _)).trans hb
        have hal : Below w6.heap.size w6 (w6.alloc (.cells #[.string ⟨rm.toArray⟩] 9)) := (Below.refl _ w6).alloc (Nat.le_refl _) _
        have hk6 : Kept (fun k => (Value.slice ra R.length rc).ownBlock = some k) w5 (w6.alloc (.cells #[.string ⟨rm.toArray⟩] 9)) := (Kept.new hb' _).trans (Kept.new hal _)
        refine ⟨(hb'.cell (p := ⟨pb, 2, none⟩) hpb).trans c2, cell_alloc1 ((hb'.cell (p := ⟨pb, 2, none⟩) hpb).trans c2) _, Lib.hid ((HBI.out.row.new hb').new hal), Lib.hid (fun r u hu => ?_), Lib.hid (fun v7 w7 ho7 ht7 => ?_)⟩
        · rw [cell_of_row _ _ _ _ _ _ (heap_alloc_new _ _), Nat.zero_add, List.getElem?_toArray]
          exact hu
        · have hmv : ∀ g, v7.ownBlock = some g → (Value.slice ra R.length rc).ownBlock = some g ∨ w5.heap.size ≤ g := fun g hg => by
            rcases ht7.mov g hg with c | c
            · exact .inl c
            · exact .inr (Nat.le_trans hb'.size (Nat.le_trans hal.size c))
          have hk7 := hk6.trans ht7.kept
          have hbx7 := hk7.old HBI.out.box (fun e => by
            obtain ⟨_, _, cur, hc⟩ := HBI.out.row.lt e
            have := HBI.out.box
            rw [hc] at this
            injection this with this
            injection this with _ t _
            exact absurd t (by decide))
          obtain ⟨r1, r2⟩ := HBI.out.setRoots hk7 ho7 hmv (fun r hr => by
            rcases List.mem_append.1 hr with c | c
            · exact HBI.out.rs r c
            · rw [List.mem_singleton.1 c]; omega)
          exact ⟨frozen_of_row w7 pb 2 _ _ hbx7, ⟨_, by rw [cell_of_row _ _ _ _ _ _ hbx7]; rfl⟩, Lib.hid ⟨r1, r2, fun g hg => by
            rcases hmv g hg with c | c
            · exact .inl (HBI.out.nr g c)
            · exact .inr c⟩⟩)
      clear hpb HNF HRW HI2 HF2 hNl
      go_region_law (first
        | (go_simp; go_at_call 42; refine (CL _).out.mono ?_; rintro e w6 ⟨rfl, hb6⟩; obtain ⟨c6, c6a, ho6, he6, hn6⟩ := NX.out w6 hb6; clear hb6)
        | ((with_reducible refine step_newB (enc := encZB) (k := 1) (o := ⟨some 73, _, _, _, _, _⟩) rfl (.tmp 69) (.tmp 72) 54 9 _ 16 rfl Tryz.underlying54 info_strB txt_zero (Nat.succ_pos 0) encZB_ok 0 (.slice ra R.length rc) R rm w6.heap.size ?ev ho6.out ?ex he6.out ?hl ?hm (Nat.zero_le _) ?_)
           case ev => simp [Act.eval]
           case ex => simp [Act.eval]
           case hl => omega
           case hm => unfold maxLen; omega
           intro g1 cc w7 ho7 ht7
           obtain ⟨f7, ⟨u7, c7⟩, h7⟩ := hn6.out _ w7 ho7 ht7
           clear ho7 ht7))
      all_goals
        have HZ := Lib.hid (HB5.out.step h7.out.1 h7.out.2.1 (fun k hk => by
          rcases hk with c | c
          · exact .inl c
          · exact h7.out.2.2 k c))
        clear h7
        go_wp2_with fail
        go_ret2
        exact ⟨rfl, _, HZ.out.1, HT5.out.trans HZ.out.2⟩
end Go.Proofs.YtamiacmnobklaaaGreatDoor
/- Landed blob over an ideal book, told by texts and trees. -/
set_option linter.unusedVariables false
namespace Go.Proofs.YtamiacmnobklaaaGreatDoor
open Go.RowKit

/-- Blobs, their book, the trees that are saved. -/
structure BL (w : World) (pb p bm : Nat) (N : Nat → Prop) (S : List Txt) (T : List Ent) (Ls : List (List FileD)) (K : Nat) : Prop where
  bw : BW w pb p bm N S T (Ls.map (mkT S))
  ts : TS S T
  live : ∀ l ∈ Ls, LiveS S l
  need : ∀ s, (needS S Ls).count s ≤ cntE S T s
  sl : S.length ≤ K
  tb : TB K T
  ll : Ls.length ≤ K
section
variable {w w' : World} {pb p bm : Nat} {N : Nat → Prop} {S : List Txt} {T : List Ent} {Ls : List (List FileD)} {K : Nat}
theorem BL.new (h : BL w pb p bm N S T Ls K) (hb : Below w.heap.size w w') : BL w' pb p bm N S T Ls K := ⟨h.bw.new hb, h.ts, h.live, h.need, h.sl, h.tb, h.ll⟩
theorem BL.kept {M : Nat → Prop} (h : BL w pb p bm N S T Ls K) (hk : Kept M w w') (hm : ∀ g, N g → ¬ M g) (hp : ¬ M p) (hbm : ¬ M bm) : BL w' pb p bm N S T Ls K := ⟨h.bw.kept hk hm hp hbm, h.ts, h.live, h.need, h.sl, h.tb, h.ll⟩
theorem BL.mono (h : BL w pb p bm N S T Ls K) {J : Nat} (hJ : K ≤ J) : BL w pb p bm N S T Ls J := ⟨h.bw, h.ts, h.live, h.need, Nat.le_trans h.sl hJ, h.tb.mono hJ, Nat.le_trans h.ll hJ⟩
/-- A text is marked. -/
theorem BL.marked (h : BL w pb p bm N S T Ls K) (hK : K ≤ 100000) {s : Txt} (hid : IdealAt w' p bm (markS S s)) (hk : Kept (· = bm) w w') : BL w' pb p bm N (markS S s) T Ls (K + 1) ∧ BTurn w w' bm N N ∧ ∀ u, cntE (markS S s) T u = cntE S T u := by
  obtain ⟨h1, h2⟩ := h.bw.marked hid hk
  have hc := cnt_mark h.ts (by have := h.sl; omega) s
  refine ⟨⟨by rw [roots_mark s h.live]; exact h1, h.ts.mark s, fun l hl => (h.live l hl).mark s, fun u => ?_, ?_, h.tb.mono (Nat.le_succ _), Nat.le_succ_of_le h.ll⟩, h2, hc⟩
  · rw [hc, needS_mark s h.live]; exact h.need u
  · have := markS_length S s; have := h.sl; omega
end
theorem blMark_any (w : World) (pb p bm : Nat) (N : Nat → Prop) (S : List Txt) (T : List Ent) (Ls : List (List FileD)) (K : Nat) (s : Txt) (h : BL w pb p bm N S T Ls K) (hK : K ≤ 100000) (hs : s.length ≤ 140737488351232) :
    Calls Tryz.prog 20 #[.pointer (some ⟨p, 0, none⟩), .string ⟨s.toArray⟩] w fun e w' => e = .returned (.string ⟨(mkS S s).toArray⟩) ∧ BL w' pb p bm N (markS S s) T Ls (K + 1) ∧ BTurn w w' bm N N ∧ ∀ u, cntE (markS S s) T u = cntE S T u :=
  (mark_ideal w p bm S s h.bw.id hs (by have := h.sl; omega)).mono fun e w' ⟨h1, h2, h3⟩ => ⟨h1, h.marked hK h2 h3⟩
theorem blPut_any (w : World) (pb p bm : Nat) (N : Nat → Prop) (S : List Txt) (T : List Ent) (Ls : List (List FileD)) (K : Nat) (s : Txt) (h : BL w pb p bm N S T Ls K) (hK : K ≤ 100000) (hs : s.length ≤ 65536) :
    Calls Tryz.prog 16 #[.pointer (some ⟨pb, 0, none⟩), .string ⟨s.toArray⟩] w fun e w' => e = .returned (.tuple #[.string ⟨(mkS S s).toArray⟩, .int .i64 0]) ∧
      ∃ N' T', BL w' pb p bm N' (markS S s) T' Ls (K + 1) ∧ BTurn w w' bm N N' ∧ ∀ u, cntE (markS S s) T' u = cntE S T u + if u = s then 1 else 0 := by
  have hsl := h.sl
  refine (bPut_any w pb p bm N S T _ s h.bw hs h.tb (by omega) (by omega)).mono ?_
  rintro e w' ⟨rfl, N', h1, h2⟩
  have hml := markS_length S s
  have hm : numM (noS S s) = mkS (markS S s) s := (mkS_mark s (.inr rfl)).symm
  rw [hm] at h1
  have hc : ∀ u, cntE (markS S s) (putE T (mkS (markS S s) s) s) u = cntE S T u + if u = s then 1 else 0 := fun u => by rw [cnt_put (by omega) (new_mark S s), cnt_mark h.ts (by omega)]
  refine ⟨rfl, N', _, ⟨by rw [roots_mark s h.live]; exact h1, (h.ts.mark s).put (new_mark S s), fun l hl => (h.live l hl).mark s, fun u => ?_, by omega, h.tb.put _ _, Nat.le_succ_of_le h.ll⟩, h2, hc⟩
  rw [hc, needS_mark s h.live]
  have := h.need u
  omega
theorem blDrop_any (w : World) (pb p bm : Nat) (N : Nat → Prop) (S : List Txt) (T : List Ent) (Ls : List (List FileD)) (K : Nat) (s : Txt) (h : BL w pb p bm N S T Ls K) (hK : K ≤ 100000) (hs : s ∈ S) (hn : (needS S Ls).count s + 1 ≤ cntE S T s ∨ cntE S T s = 0) :
    Calls Tryz.prog 19 #[.pointer (some ⟨pb, 0, none⟩), .string ⟨(mkS S s).toArray⟩] w fun e w' => e = .returned (.int .i64 (if 1 ≤ cntE S T s then 0 else 8)) ∧
      ∃ N' T', BL w' pb p bm N' S T' Ls K ∧ BTurn w w' bm N N' ∧ ∀ u, cntE S T' u = cntE S T u - if u = s then 1 else 0 := by
  have hsl := h.sl
  refine (bDrop_any w pb p bm N S T _ (mkS S s) h.bw (by rw [mkS_len]; omega) h.tb (by omega)).mono ?_
  rintro e w' ⟨rfl, N', h1, h2⟩
  have hk := key_iff h.bw.blob.tok hs
  have hc := cnt_drop (T := T) (by omega : S.length ≤ 1000000) hs
  refine ⟨?_, N', _, ⟨h1, h.ts.drop _, h.live, fun u => ?_, h.sl, h.tb.drop _, h.ll⟩, h2, hc⟩
  · by_cases e : mkS S s ∈ keysE T
    · rw [if_pos e, if_pos (hk.1 e)]
    · rw [if_neg e, if_neg (fun c => e (hk.2 c))]
  · rw [hc]
    have := h.need u
    by_cases e : u = s
    · subst e; rw [if_pos rfl]; omega
    · rw [if_neg e]; omega
theorem blGet_any (w : World) (pb p bm : Nat) (N : Nat → Prop) (S : List Txt) (T : List Ent) (Ls : List (List FileD)) (K : Nat) (s : Txt) (h : BL w pb p bm N S T Ls K) (hK : K ≤ 100000) (hs : s ∈ S) :
    Calls Tryz.prog 29 #[.pointer (some ⟨pb, 0, none⟩), .string ⟨(mkS S s).toArray⟩] w fun e w' => ∃ g, (g = if 1 ≤ cntE S T s then (s, (0 : Int)) else ([], 8)) ∧ e = .returned (.tuple #[.string ⟨g.1.toArray⟩, .int .i64 g.2]) ∧ Below w.heap.size w w' := by
  have hsl := h.sl
  refine (bGet_any w pb p bm N S T _ (mkS S s) h.bw (by rw [mkS_len]; omega)).mono ?_
  rintro e w' ⟨rfl, hb⟩
  refine ⟨_, ?_, rfl, hb⟩
  by_cases c : 1 ≤ cntE S T s
  · rw [if_pos c, got_cnt h.ts (by omega) hs c]
  · rw [if_neg c]
    exact gotE_no (fun k => c ((key_iff h.bw.blob.tok hs).1 k))
theorem blRefs_any (w : World) (pb p bm : Nat) (N : Nat → Prop) (S : List Txt) (T : List Ent) (Ls : List (List FileD)) (K : Nat) (s : Txt) (h : BL w pb p bm N S T Ls K) (hs : s ∈ S) :
    Calls Tryz.prog 23 #[.pointer (some ⟨pb, 0, none⟩), .string ⟨(mkS S s).toArray⟩] w fun e w' => e = .returned (.int .i64 (cntE S T s : Nat)) ∧ w = w' := by
  refine (bRefs_any w pb p bm N S T _ (mkS S s) h.bw (by rw [mkS_len]; omega)).mono ?_
  rintro e w' ⟨rfl, rfl⟩
  rw [cnt_in hs]
  exact ⟨rfl, rfl⟩
theorem markAll_sub (l : List FileD) : ∀ (S : List Txt) (s : Txt), s ∈ S → s ∈ markAll S l := fun S s hs => (mem_markAll _ _ _).2 (.inl hs)
/-- What holds of marks one behind the other. -/
theorem BL_all {S : List Txt} {T : List Ent} {Ls : List (List FileD)} (ts : TS S T) (live : ∀ l ∈ Ls, LiveS S l) : ∀ (l : List FileD), S.length + l.length ≤ 800000 →
    TS (markAll S l) T ∧ (∀ k ∈ Ls, LiveS (markAll S l) k) ∧ Ls.map (mkT (markAll S l)) = Ls.map (mkT S) ∧ needS (markAll S l) Ls = needS S Ls ∧ ∀ u, cntE (markAll S l) T u = cntE S T u := by
  intro l
  induction l generalizing S with
  | nil => exact fun _ => ⟨ts, live, rfl, rfl, fun _ => rfl⟩
  | cons x r ih =>
    intro hl
    rw [List.length_cons] at hl
    have hm := markS_length S x.data
    obtain ⟨a, b, c, d, e⟩ := ih (ts.mark x.data) (fun k hk => (live k hk).mark x.data) (by omega)
    rw [markAll_cons]
    exact ⟨a, b, c.trans (roots_mark _ live), d.trans (needS_mark _ live), fun u => (e u).trans (cnt_mark ts (by omega) _ _)⟩
/-- The book and the tree behind Save. -/
def saveS (S : List Txt) (l : List FileD) : List Txt := markS (markAll S l) (mfS (markAll S l) l)
theorem saveS_live (S : List Txt) {l : List FileD} (hc : checkS l = 0) (hl : l.length ≤ 12) : LiveS (saveS S l) l ∧ mfS (saveS S l) l = mfS (markAll S l) l := by
  have hd : ∀ x ∈ l, x.data ∈ markAll S l := fun x hx => (mem_markAll _ _ _).2 (.inr ⟨x, hx, rfl⟩)
  have e : mfS (saveS S l) l = mfS (markAll S l) l := mfS_mark _ hd
  exact ⟨⟨hc, hl, fun x hx => in_mark _ (hd x hx), by rw [e]; exact new_mark _ _⟩, e⟩
theorem saveS_sub (S : List Txt) (l : List FileD) {s : Txt} (hs : s ∈ S) : s ∈ saveS S l := in_mark _ (markAll_sub l S s hs)
theorem saveS_mk (S : List Txt) (l : List FileD) {s : Txt} (hs : s ∈ S) : mkS (saveS S l) s = mkS S s := by
  unfold saveS
  rw [mkS_mark _ (.inl (markAll_sub l S s hs))]
  unfold mkS
  rw [noS_markAll S l s hs]
set_option maxHeartbeats 1000000 in
theorem blSave_any (w : World) (pb p bm : Nat) (N NF : Nat → Prop) (S : List Txt) (T : List Ent) (Ls : List (List FileD)) (K : Nat) (v : Value) (l : List FileD) (h : BL w pb p bm N S T Ls K) (hK : K ≤ 100000) (hNF : ∀ g, NF g → ¬ N g ∧ g ≠ bm) (hrow : RowN encF 3 NF w v l) (hl : l.length ≤ 12) (hc : checkS l = 0) :
    Calls Tryz.prog 14 #[.pointer (some ⟨pb, 0, none⟩), v] w fun e w' => e = .returned (.tuple #[.string ⟨(mkT (saveS S l) l).toArray⟩, .int .i64 0]) ∧
      ∃ N' T', BL w' pb p bm N' (saveS S l) T' (Ls ++ [l]) (K + 14) ∧ BTurn w w' bm N N' ∧ ∀ u, cntE (saveS S l) T' u = cntE S T u + (occS (saveS S l) l).count u := by
  have hsl := h.sl
  obtain ⟨a, b, c, d, e⟩ := BL_all h.ts h.live l (by omega)
  obtain ⟨hlv, hmf⟩ := saveS_live S hc hl
  have hml := markAll_len S l
  have hm2 := markS_length (markAll S l) (mfS (markAll S l) l)
  have hd : ∀ x ∈ l, x.data ∈ markAll S l := fun x hx => (mem_markAll _ _ _).2 (.inr ⟨x, hx, rfl⟩)
  have hrm : numM (noS (markAll S l) (mfS (markAll S l) l)) = mkT (saveS S l) l := by
    unfold mkT
    rw [hmf]
    exact (mkS_mark _ (.inr rfl)).symm
  have hpa : putAll (markAll S l) T l = putAll (saveS S l) T l := (putAll_stay (fun x hx => noS_mark _ _ _ (.inl (hd x hx)))).symm
  refine (bSave_ok w pb p bm N NF S T _ v l h.bw hNF hrow (by omega) (by omega) (by rw [List.length_map]; have := h.ll; omega) hc h.tb (by omega)).mono ?_
  rintro e1 w' ⟨rfl, N', h1, h2⟩
  rw [hrm] at h1 ⊢
  rw [hpa] at h1
  have hT' : mkT (saveS S l) l = mkS (saveS S l) (mfS (markAll S l) l) := by unfold mkT; rw [hmf]
  have ts2 : TS (saveS S l) T := a.mark _
  have hc2 : ∀ u, cntE (saveS S l) T u = cntE S T u := fun u => (cnt_mark a (by omega) _ u).trans (e u)
  have hmem : mfS (markAll S l) l ∈ saveS S l := new_mark _ _
  have hd2 : ∀ x ∈ l, x.data ∈ saveS S l := hlv.dat
  have hcnt : ∀ u, cntE (saveS S l) (putE (putAll (saveS S l) T l) (mkT (saveS S l) l) (mfS (markAll S l) l)) u = cntE S T u + (occS (saveS S l) l).count u := fun u => by
    rw [hT', cnt_put (by unfold saveS; omega) hmem, cnt_putAll (by unfold saveS; omega) l T hd2, hc2]
    unfold occS
    rw [List.count_cons, hmf]
    by_cases eu : u = mfS (markAll S l) l
    · subst eu; simp; omega
    · have hb : (mfS (markAll S l) l == u) = false := by rw [beq_eq_false_iff_ne]; exact fun c => eu c.symm
      rw [if_neg eu, hb]; simp
  have hmapl : Ls.map (mkT (saveS S l)) = Ls.map (mkT S) := (roots_mark _ b).trans c
  refine ⟨rfl, N', _, ⟨by rw [List.map_append, hmapl]; exact h1, ?_, fun k hk => ?_, fun u => ?_, by unfold saveS; omega, ?_, by rw [List.length_append]; have := h.ll; simp; omega⟩, h2, hcnt⟩
  · rw [hT']
    exact (ts_putAll l T ts2 hd2).put hmem
  · rcases List.mem_append.1 hk with hk | hk
    · exact (b k hk).mark _
    · rw [List.mem_singleton.1 hk]; exact hlv
  · rw [hcnt, need_snoc]
    have h3 : needS (saveS S l) Ls = needS S Ls := (needS_mark _ b).trans d
    rw [h3]
    have := h.need u
    omega
  · have h3 := (TB.putAll (saveS S l) l h.tb).put (mkT (saveS S l) l) (mfS (markAll S l) l)
    exact h3.mono (by omega)
theorem blLoad_any (w : World) (pb p bm : Nat) (N : Nat → Prop) (S : List Txt) (T : List Ent) (Ls : List (List FileD)) (K : Nat) (l : List FileD) (h : BL w pb p bm N S T Ls K) (hK : K ≤ 100000) (hl : l ∈ Ls) :
    Calls Tryz.prog 21 #[.pointer (some ⟨pb, 0, none⟩), .string ⟨(mkT S l).toArray⟩] w fun e w' => ∃ v', e = .returned (.tuple #[v', .int .i64 0]) ∧ RowN encF 3 (w.heap.size ≤ ·) w' v' l ∧ Below w.heap.size w w' := by
  have hsl := h.sl
  refine (bLoad_any w pb p bm N S T _ (mkT S l) h.bw (by unfold mkT; rw [mkS_len]; omega)).mono ?_
  rw [load_live h.bw.blob.tok h.ts (by omega) (h.live l hl) (fun s hs => Nat.le_trans (List.one_le_count_iff.2 (needS_in hl hs)) (h.need s))]
  exact fun e w' hh => hh
theorem blForget_any (w : World) (pb p bm : Nat) (N : Nat → Prop) (S : List Txt) (T : List Ent) (Ls : List (List FileD)) (K : Nat) (l : List FileD) (h : BL w pb p bm N S T Ls K) (hK : K ≤ 100000) (hl : l ∈ Ls) :
    Calls Tryz.prog 31 #[.pointer (some ⟨pb, 0, none⟩), .string ⟨(mkT S l).toArray⟩] w fun e w' => e = .returned (.int .i64 0) ∧
      ∃ N' T' A B, Ls = A ++ l :: B ∧ (Ls.map (mkT S)).erase (mkT S l) = (A ++ B).map (mkT S) ∧ BL w' pb p bm N' S T' (A ++ B) K ∧ BTurn w w' bm N N' ∧ ∀ u, cntE S T' u = cntE S T u - (occS S l).count u := by
  have hsl := h.sl
  have hlv := h.live l hl
  have hpos : ∀ s ∈ occS S l, 1 ≤ cntE S T s := fun s hs => Nat.le_trans (List.one_le_count_iff.2 (needS_in hl hs)) (h.need s)
  have hman := man_live h.ts (by omega) hlv (hpos _ (by simp [occS]))
  have hm : mkT S l ∈ Ls.map (mkT S) := List.mem_map.2 ⟨l, hl, rfl⟩
  obtain ⟨A, B, e1, e2⟩ := erase_live (by omega) h.live hlv hm
  refine (bForget_in w pb p bm N S T _ (mkT S l) h.bw (by rw [List.length_map]; have := h.ll; omega) hm (by unfold mkT; rw [mkS_len]; omega) (by rw [hman]) h.tb (by omega)).mono ?_
  rintro e w' ⟨rfl, N', h1, h2⟩
  rw [hman, e2] at h1
  dsimp only at h1
  rw [items_marks] at h1
  have hc : ∀ u, cntE S (dropE (dropAll T ((l.map (·.data)).map (mkS S))) (mkT S l)) u = cntE S T u - (occS S l).count u := fun u => by
    unfold mkT
    rw [cnt_drop (by omega) hlv.man, cnt_dropAll (by omega) (l.map (·.data)) T (fun s hs => by obtain ⟨x, hx, rfl⟩ := List.mem_map.1 hs; exact hlv.dat x hx)]
    unfold occS
    rw [List.count_cons]
    by_cases eu : u = mfS S l
    · subst eu; simp; omega
    · have hb : (mfS S l == u) = false := by rw [beq_eq_false_iff_ne]; exact fun c => eu c.symm
      rw [if_neg eu, hb]; simp
  refine ⟨rfl, N', _, A, B, e1, e2, ⟨h1, (ts_dropAll _ T h.ts).drop _, fun k hk => h.live k (by rw [e1]; rcases List.mem_append.1 hk with c | c <;> simp [c]), fun u => ?_, h.sl, (h.tb.dropAll _).drop _, by have := h.ll; rw [e1] at this; simp at this ⊢; omega⟩, h2, hc⟩
  rw [hc]
  have h3 := h.need u
  rw [e1, need_split] at h3
  omega
theorem blCheck_any (w : World) (pb p bm : Nat) (N : Nat → Prop) (S : List Txt) (T : List Ent) (Ls : List (List FileD)) (K : Nat) (h : BL w pb p bm N S T Ls K) (hK : K ≤ 10000) :
    Calls Tryz.prog 11 #[.pointer (some ⟨pb, 0, none⟩)] w fun e w' => e = .returned (.bool true) ∧ Below w.heap.size w w' := by
  have hsl := h.sl
  refine (bCheck_any w pb p bm N S T _ h.bw (by rw [List.length_map]; have := h.ll; omega)).mono ?_
  rw [check_live h.ts (by omega) h.live h.need]
  exact fun e w' hh => hh
theorem blNew_any (w : World) (p bm : Nat) (hid : IdealAt w p bm []) :
    Calls Tryz.prog 25 #[.pointer (some ⟨p, 0, none⟩)] w fun e w' => ∃ pb N, e = .returned (.pointer (some ⟨pb, 0, none⟩)) ∧ BL w' pb p bm N [] [] [] 0 ∧ (∀ k, N k → w.heap.size ≤ k) ∧ Below w.heap.size w w' := by
  refine (bNew_any w p bm [] hid).mono ?_
  rintro e w' ⟨pb, N, rfl, h1, h2, h3⟩
  exact ⟨pb, N, rfl, ⟨h1, TS.nil _, fun l hl => (by cases hl), fun s => by simp [needS], Nat.le_refl _, TB.nil, Nat.le_refl _⟩, h2, h3⟩
end Go.Proofs.YtamiacmnobklaaaGreatDoor

/- The walk of BlobLong: texts that are too long are not kept. -/
import Derived.Test.YtamiacmnobklaaaDoorBldShelf
import Derived.Test.YtamiacmnobklaaaDoorB1X
import Derived.Test.YtamiacmnobklaaaDoorLwX
import Derived.Test.YtamiacmnobklaaaDoorB2X
import Derived.Test.YtamiacmnobklaaaDoorBookW
import Derived.Test.YtamiacmnobklaaaDoorFtX
import Derived.Test.YtamiacmnobklaaaDoorFrame
import Derived.Test.YtamiacmnobklaaaDoorGen
import Derived.Test.YtamiacmnobklaaaDoorInfos
import Derived.Test.YtamiacmnobklaaaDoorItX
import Derived.Test.YtamiacmnobklaaaDoorPtX
import Derived.Test.YtamiacmnobklaaaDoorMake
import Derived.Test.YtamiacmnobklaaaDoorMarkMath
import Derived.Test.YtamiacmnobklaaaDoorOwnL
import Derived.Test.YtamiacmnobklaaaDoorPthX
import Derived.Test.YtamiacmnobklaaaDoorProg
import Derived.Test.YtamiacmnobklaaaDoorReadItW
import Derived.Test.YtamiacmnobklaaaDoorCdX
import Derived.Test.YtamiacmnobklaaaDoorRowN
import Derived.Test.YtamiacmnobklaaaDoorRows
import Derived.Test.YtamiacmnobklaaaDoorShelf
import Derived.Test.YtamiacmnobklaaaDoorSoX
import Derived.Test.YtamiacmnobklaaaDoorSortMath
import Derived.BigQuiet
import Derived.BigRegion
import Derived.Deep.AppendLies
import Derived.Deep.Cut
import Derived.Deep.CutBlock
import Derived.Deep.CutRange
import Derived.Deep.DeepCutAuto
import Derived.Deep.QuietTactic
import Derived.Deep.RegionLaw
import Derived.Deep.Slices
import Derived.Deep.Strs
import Derived.IntWalk
import Derived.Laws.BitsAllLaws
import Derived.Laws.Externs
import Derived.Laws.IdiomStrings
import Derived.Laws.OwnMore
import Derived.Laws.RangeAny
import Derived.Laws.Rows
import Derived.Laws.Tables
import Derived.Lib.AppendStr
import Derived.Lib.Builder
import Derived.Lib.Hide
import Derived.Lib.SlicesS
import Derived.Lib.SmallJoins
import Derived.Lib.Strings
import Derived.Lib.Walk
import Derived.LoopTactic
import Derived.Outline
import Derived.Shelf.Strings.SplitCore
import Derived.Sort.OwnSorted
import Derived.StillTail
import Derived.StillTailTactics
import Derived.WalkKit
import Derived.WalkLawsBesides
import Derived.WalkSpells
set_option linter.unusedVariables false
namespace Go.Proofs.YtamiacmnobklaaaDoor
open Go.RowKit

set_option maxRecDepth 100000 in
set_option maxHeartbeats 2000000 in
theorem blobLong_walk (more : Int) (h0 : -9223372036854775808 ≤ more) (h1 : more ≤ 9223372036854775807) (w : World) :
    Calls Tryd.prog 4 #[.int .i64 more] w fun e w' => e = .returned (.bool true) ∧ Below w.heap.size w w' := by
  by_cases hm : more < 0 ∨ 3 < more
  · have hc : more < 0 ∨ (¬ more < 0 ∧ 3 < more) := by omega
    clear hm
    rcases hc with c1 | ⟨c1, c2⟩
    all_goals
      go_enter Tryd.func4, Tryd.ntmps4
      go_wp2_with fail
      refine (awake11_any _).mono ?_
      rintro e w3 ⟨rfl, hb3⟩
      go_wp2_with fail
      go_ret
      exact ⟨rfl, hb3⟩
  · have c1 : ¬ more < 0 := fun h => hm (.inl h)
    have c2 : ¬ 3 < more := fun h => hm (.inr h)
    clear hm
    obtain ⟨n, hn⟩ : ∃ n : Nat, 65536 + more = (n : Int) := ⟨(65536 + more).toNat, by omega⟩
    have hnb : n ≤ 65539 := by omega
    have MK := fun w' => Lib.hid (make_zeros (P := Tryd.prog) w' 45 5 Tryd.underlying45 info_u8 w'.heap.size n (65536 + more) hn (by omega) (Nat.le_refl _))
    have hzl : (List.replicate n (0 : UInt8)).length = n := List.length_replicate
    generalize List.replicate n (0 : UInt8) = Z at *
    have HZL := Lib.hid hzl
    clear hzl
    go_enter Tryd.func4, Tryd.ntmps4
    go_wp2_with fail
    refine (fresh_any _).mono ?_
    rintro e w1 ⟨pw, pb, p, bm, pp, N, rfl, hf⟩
    go_wp2_with fail
    have u0 : IntKind.i64.wrap (65536 + more) = 65536 + more := IntWalk.i64_in _ (by omega)
    obtain ⟨v2, w2, hr2, ho2, hb2⟩ := (MK w1.drew).out
    have os2 := own_string w2 w1.drew.heap.size 45 9 5 v2 Z Tryd.underlying45 Tryd.underlying5 Tryd.underlying9 ho2
    have hb12 : Below w1.heap.size w1 w2 := (Below_drew (Below.refl _ w1)).trans hb2
    have c0 := hf.wb.c0
    have hwb2 : WBox w2 pw pb p pp := (Kept.new hb12 (fun _ => False)).old hf.wb id
    have c0' := hwb2.c0
    have HBL := Lib.hid (hf.bl.new hb12)
    have HW2 := Lib.hid hwb2
    have HB2 := Lib.hid (hf.bel.trans (hb12.mono hf.bel.size))
    have HN := Lib.hid hf.nn
    have HLO := Lib.hid hf.lo
    have HOF := Lib.hid (show ¬ N pw ∧ bm ≠ pw from ⟨hf.nw, hf.bmw⟩)
    have hpw : pw < w2.heap.size := (Array.getElem?_eq_some_iff.1 hwb2).1
    clear hf ho2 hb2 hb12 MK hwb2
    by_cases hz : 0 < more
    · have PT := Lib.hid (bPut_long w2 pb p bm N [] [] [] Z HBL.out.bw (by have := HZL.out; omega) (by have := HZL.out; omega))
      have CT := Lib.hid (bCount_any w2 pb p bm N [] [] [] HBL.out.bw)
      clear hn
      go_region_with (go_at_call 9; refine PT.out.mono ?_; rintro e w3 ⟨rfl, rfl⟩)
      all_goals
        clear hr2 os2
        go_wp2_with fail
        refine CT.out.mono ?_
        rintro e w3 ⟨rfl, rfl⟩
        go_wp2_with fail
        refine (awake11_any _).mono ?_
        rintro e w4 ⟨rfl, hb4⟩
        go_wp2_with fail
        go_ret
        exact ⟨rfl, HB2.out.trans (hb4.mono HB2.out.size)⟩
    · have PT := Lib.hid (blPut_any w2 pb p bm N [] [] [] 0 Z HBL.out (by omega) (by have := HZL.out; omega))
      clear hn
      go_region_with (go_at_call 9; refine PT.out.mono ?_; rintro e w3 ⟨rfl, N3, T3, h3, t3, k3⟩)
      all_goals
        clear hr2 os2 c0 c0'
        have HB3 := Lib.hid (HB2.out.trans (t3.below HB2.out.size HN.out HLO.out.1))
        have hw3 : WBox w3 pw pb p pp := t3.kp.old HW2.out (fun c => by rcases c with c | c; exact HOF.out.1 c; exact HOF.out.2 c.symm)
        have c0 := hw3.c0
        have RF := Lib.hid (blRefs_any w3 pb p bm N3 (markS [] Z) T3 [] 1 Z h3 (new_mark _ _))
        rw [k3, cnt_nil, if_pos rfl, mkS_mark Z (.inr rfl)] at RF
        clear h3 t3 k3 hw3 PT
        generalize mkS [] Z = mk at *
        go_wp2_with fail
        refine RF.out.mono ?_
        rintro e w5 ⟨rfl, rfl⟩
        go_wp2_with fail
        refine (awake11_any _).mono ?_
        rintro e w4 ⟨rfl, hb4⟩
        go_wp2_with fail
        go_ret
        exact ⟨rfl, HB3.out.trans (hb4.mono HB3.out.size)⟩
end Go.Proofs.YtamiacmnobklaaaDoor

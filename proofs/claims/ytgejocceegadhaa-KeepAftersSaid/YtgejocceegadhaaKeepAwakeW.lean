/- Stage 12's laws: the chapter's examples; few. -/
import Derived.Test.YtgejocceegadhaaFrame
import Derived.Test.YtgejocceegadhaaGen
import Derived.Test.YtgejocceegadhaaKeepHoldMath
import Derived.Test.YtgejocceegadhaaKeepMath
import Derived.Test.YtgejocceegadhaaLandK1W
import Derived.Test.YtgejocceegadhaaLandK6W
import Derived.Test.YtgejocceegadhaaLandKAW
import Derived.Test.YtgejocceegadhaaOwnL
import Derived.Test.YtgejocceegadhaaRefKeep2W
import Derived.Test.YtgejocceegadhaaRefKeepW
import Derived.Test.YtgejocceegadhaaRowN
import Derived.Test.YtgejocceegadhaaRows
import Derived.Test.YtgejocceegadhaaShelf
import Derived.BigQuiet
import Derived.BigRegion
import Derived.ChangeAlike
import Derived.Deep.QuietTactic
import Derived.Deep.RegionHeld3
import Derived.LoopIn
import Derived.LoopNIn
import Derived.Maps.OwnIn
import Derived.Maps.OwnOps
import Derived.Maps.OwnSet
import Derived.Maps.RangeWalk
import Derived.OwnWalkIn
import Derived.RangeFuncBound
import Derived.RangeFuncCalls
import Derived.RangeFuncLeaves
import Derived.RangeFuncNested
import Derived.RegionTactic
import Derived.Shelf.Abstract
import Derived.Shelf.RegionOpen
import Derived.TacticsInMore
import Derived.WalkKit
set_option linter.unusedVariables false
namespace Go.Proofs.Ytgejocceegadhaa
open Go.RowKit

theorem OwnN.lit {α : Type} {enc : α → List Value} {k : Nat} (hE : EncN enc k) (w : World) (base : Nat) (e : TypeId) (xs : List α) (cs : Array Value) (hcs : cs = (flatN enc xs).toArray) (hb : base ≤ w.heap.size) (hm : xs.length ≤ maxLen) : OwnN enc k (w.alloc (.cells cs e)) base e (.slice (some ⟨w.heap.size, 0, none⟩) xs.length xs.length) xs := by
  have hl : (flatN enc xs).length = xs.length * k := by
    clear hm hcs
    induction xs with
    | nil => simp [flatN]
    | cons x r ih => rw [flatN_cons, List.length_append, ih, hE.len, List.length_cons, Nat.add_mul]; omega
  subst hcs
  refine ⟨hl, .inr ⟨w.heap.size, xs.length, _, rfl, hb, heap_alloc_new w _, Nat.le_refl _, hm, by rw [List.size_toArray, hl], ?_⟩⟩
  rw [← hl]
  simp
def exG : List GenD := [⟨0, 0, 0, []⟩, ⟨1, 0, 0, []⟩, ⟨2, 1, 0, []⟩]
theorem exG_ok : ∀ x ∈ exG, GenOk x := by
  intro x hx
  simp [exG] at hx
  rcases hx with rfl | rfl | rfl <;> exact ⟨by decide, by decide, by decide, by decide⟩
set_option maxRecDepth 100000 in
set_option maxHeartbeats 4000000 in
theorem awake12_any (w : World) : Calls Try.prog 14 #[] w fun e w' => e = .returned (.bool true) ∧ Below w.heap.size w w' := by
  have hrd : roadE exG 2 = 0 ∧ roadG exG 2 = [0, 1, 2] := by decide +kernel
  have hnd : needE exG [1, 2] = 0 ∧ needG exG [1, 2] = [1] := by decide +kernel
  have hfl : floorP 3 0 5 = 3 := by decide +kernel
  have HRD := Lib.hid hrd
  have HND := Lib.hid hnd
  have HFL := Lib.hid hfl
  clear hrd hnd hfl
  have HO := Lib.hid (show OwnN encGn 4 (w.alloc (.cells #[.int .i64 0, .int .i64 0, .int .i64 0, .string ⟨#[]⟩, .int .i64 1, .int .i64 0, .int .i64 0, .string ⟨#[]⟩, .int .i64 2, .int .i64 1, .int .i64 0, .string ⟨#[]⟩] 38)) w.heap.size 38 (.slice (some ⟨w.heap.size, 0, none⟩) 3 3) exG from OwnN.lit encGn_ok w w.heap.size 38 exG #[.int .i64 0, .int .i64 0, .int .i64 0, .string ⟨#[]⟩, .int .i64 1, .int .i64 0, .int .i64 0, .string ⟨#[]⟩, .int .i64 2, .int .i64 1, .int .i64 0, .string ⟨#[]⟩] rfl (Nat.le_refl _) (by decide))
  have hbA : Below w.heap.size w (w.alloc (.cells #[.int .i64 0, .int .i64 0, .int .i64 0, .string ⟨#[]⟩, .int .i64 1, .int .i64 0, .int .i64 0, .string ⟨#[]⟩, .int .i64 2, .int .i64 1, .int .i64 0, .string ⟨#[]⟩] 38)) := (Below.refl _ w).alloc (Nat.le_refl _) _
  have HBA := Lib.hid hbA
  go_enter Try.func14, Try.ntmps14
  go_wp2_with fail
  generalize w.alloc (.cells #[.int .i64 0, .int .i64 0, .int .i64 0, .string ⟨#[]⟩, .int .i64 1, .int .i64 0, .int .i64 0, .string ⟨#[]⟩, .int .i64 2, .int .i64 1, .int .i64 0, .string ⟨#[]⟩] 38) = wA at *
  obtain ⟨nb, hnb⟩ : ∃ nb, nb = w.heap.size := ⟨_, rfl⟩
  have HL := Lib.hid (fun (X : World) => show OwnN encI1 1 (X.alloc (.cells #[.int .i64 1, .int .i64 2] 3)) X.heap.size 3 (.slice (some ⟨X.heap.size, 0, none⟩) 2 2) [1, 2] from OwnN.lit encI1_ok X X.heap.size 3 [1, 2] _ rfl (Nat.le_refl _) (by decide))
  have HL3 := Lib.hid (fun (X : World) => show OwnN encI1 1 (X.alloc (.cells #[.int .i64 0, .int .i64 1, .int .i64 2] 3)) X.heap.size 3 (.slice (some ⟨X.heap.size, 0, none⟩) 3 3) [0, 1, 2] from OwnN.lit encI1_ok X X.heap.size 3 [0, 1, 2] _ rfl (Nat.le_refl _) (by decide))
  have HL1 := Lib.hid (fun (X : World) => show OwnN encI1 1 (X.alloc (.cells #[.int .i64 1] 3)) X.heap.size 3 (.slice (some ⟨X.heap.size, 0, none⟩) 1 1) [1] from OwnN.lit encI1_ok X X.heap.size 3 [1] _ rfl (Nat.le_refl _) (by decide))
  have HRG := Lib.hid (OwnN.row encGn_ok HO.out)
  have RD := Lib.hid (keepRoad_any _ exG 2 wA HRG.out (by decide) exG_ok)
  rw [HRD.out.1, HRD.out.2] at RD
  rw [← hnb] at RD HRG ⊢
  clear hbA hnb HO
  refine RD.out.mono ?_
  rintro e w2 ⟨v2, rfl, ho2, hb2⟩
  obtain ⟨ra, rc, hv2, _⟩ := (OwnN.row encI1_ok ho2).slice
  subst hv2
  have HO2 := Lib.hid (OwnN.row encI1_ok ho2)
  have HB2 := Lib.hid (HBA.out.trans (hb2.mono HBA.out.size))
  have HG2 := Lib.hid (HRG.out.keep hb2)
  clear RD ho2 hb2 HRG HBA
  have hbC : Below w2.heap.size w2 (w2.alloc (.cells #[.int .i64 1, .int .i64 2] 3)) := (Below.refl _ w2).alloc (Nat.le_refl _) _
  have ND := Lib.hid (keepNeed_any _ _ exG [1, 2] _ (HG2.out.keep hbC) (by decide) exG_ok (OwnN.row encI1_ok (HL.out w2)) (by decide) (by decide))
  rw [HND.out.1, HND.out.2] at ND
  have HBC := Lib.hid (HB2.out.trans (hbC.mono HB2.out.size))
  have HO2C := Lib.hid (HO2.out.keep hbC)
  go_wp2_with fail
  generalize w2.alloc (.cells #[.int .i64 1, .int .i64 2] 3) = wC at *
  refine ND.out.mono ?_
  rintro e w3 ⟨v3, rfl, ho3, hb3⟩
  obtain ⟨na, nc, hv3, _⟩ := (OwnN.row encI1_ok ho3).slice
  subst hv3
  have HO3 := Lib.hid (OwnN.row encI1_ok ho3)
  have HB3 := Lib.hid (HBC.out.trans (hb3.mono HBC.out.size))
  have HO23 := Lib.hid (HO2C.out.keep hb3)
  clear ND ho3 hb3 HO2C HBC HB2 HO2 HG2 hbC
  have hbD : Below w3.heap.size w3 (w3.alloc (.cells #[.int .i64 0, .int .i64 1, .int .i64 2] 3)) := (Below.refl _ w3).alloc (Nat.le_refl _) _
  have I1 := Lib.hid (refInts12_same _ _ [0, 1, 2] _ (HO23.out.keep hbD) (OwnN.row encI1_ok (HL3.out w3)) (by decide))
  have HBD := Lib.hid (HB3.out.trans (hbD.mono HB3.out.size))
  have HO3D := Lib.hid (HO3.out.keep hbD)
  go_wp2_with fail
  generalize w3.alloc (.cells #[.int .i64 0, .int .i64 1, .int .i64 2] 3) = wD at *
  refine I1.out.mono ?_
  rintro e w4 ⟨rfl, hb4⟩
  have HB4 := Lib.hid (HBD.out.trans (hb4.mono HBD.out.size))
  have HO4 := Lib.hid (HO3D.out.keep hb4)
  clear I1 hb4 HBD HO3D HO3 HO23 hbD HB3
  have hbE : Below w4.heap.size w4 (w4.alloc (.cells #[.int .i64 1] 3)) := (Below.refl _ w4).alloc (Nat.le_refl _) _
  have I2 := Lib.hid (refInts12_same _ _ [1] _ (HO4.out.keep hbE) (OwnN.row encI1_ok (HL1.out w4)) (by decide))
  have HBE := Lib.hid (HB4.out.trans (hbE.mono HB4.out.size))
  go_wp2_with fail
  generalize w4.alloc (.cells #[.int .i64 1] 3) = wE at *
  refine I2.out.mono ?_
  rintro e w5 ⟨rfl, hb5⟩
  have HB5 := Lib.hid (HBE.out.trans (hb5.mono HBE.out.size))
  have FL := Lib.hid (keepFloor_any 3 0 5 w5 ⟨by decide, by decide⟩ (by decide))
  rw [HFL.out] at FL
  unfold polV at FL
  clear I2 hb5 HBE HO4 hbE HB4
  go_wp2_with fail
  refine FL.out.mono ?_
  rintro e w6 ⟨rfl, hb6⟩
  have HB6 := Lib.hid (HB5.out.trans (hb6.mono HB5.out.size))
  go_wp2_with fail
  go_ret
  exact ⟨rfl, HB6.out⟩
set_option maxRecDepth 100000 in
theorem few12_any (v : Value) (l : List GenD) (w : World) {N : Nat → Prop} (hrow : RowN encGn 4 N w v l) (hl : l.length ≤ 140737488351232) :
    Calls Try.prog 16 #[v] w fun e w' => ∃ v', e = .returned v' ∧ RowN encGn 4 N w v' (l.take 60) ∧ w = w' := by
  have HR := Lib.hid hrow
  obtain ⟨va, vc, hv, hvc⟩ := hrow.slice
  subst hv
  clear hrow
  by_cases h : 60 < l.length
  · have h1 : (60 : Int) < (l.length : Int) := by omega
    have h2 : (60 : Int) ≤ (vc : Int) := by omega
    have HT := Lib.hid (HR.out.take 60 (by omega))
    clear h
    go_enter Try.func16, Try.ntmps16
    go_wp2_with fail
    go_ret
    exact ⟨_, rfl, HT.out, rfl⟩
  · have h1 : ¬ (60 : Int) < (l.length : Int) := by omega
    have HT := Lib.hid (show RowN encGn 4 N w (.slice va l.length vc) (l.take 60) by rw [List.take_of_length_le (by omega)]; exact HR.out)
    clear h
    go_enter Try.func16, Try.ntmps16
    go_wp2_with fail
    go_ret
    exact ⟨_, rfl, HT.out, rfl⟩
end Go.Proofs.Ytgejocceegadhaa

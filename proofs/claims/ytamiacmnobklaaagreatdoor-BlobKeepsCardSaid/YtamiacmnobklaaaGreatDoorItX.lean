/- Several texts in one: ItemsTW, ItemsBW. -/
import Derived.Test.YtamiacmnobklaaaGreatDoorArX
import Derived.Test.YtamiacmnobklaaaGreatDoorBookW
import Derived.Test.YtamiacmnobklaaaGreatDoorCdX
import Derived.Test.YtamiacmnobklaaaGreatDoorFtX
import Derived.Test.YtamiacmnobklaaaGreatDoorFrame
import Derived.Test.YtamiacmnobklaaaGreatDoorGen
import Derived.Test.YtamiacmnobklaaaGreatDoorMarkMath
import Derived.Test.YtamiacmnobklaaaGreatDoorOwnL
import Derived.Test.YtamiacmnobklaaaGreatDoorPhaseTail
import Derived.Test.YtamiacmnobklaaaGreatDoorPickedTW
import Derived.Test.YtamiacmnobklaaaGreatDoorProg
import Derived.Test.YtamiacmnobklaaaGreatDoorRfX
import Derived.Test.YtamiacmnobklaaaGreatDoorRefOfTW
import Derived.Test.YtamiacmnobklaaaGreatDoorRefReadW
import Derived.Test.YtamiacmnobklaaaGreatDoorRowN
import Derived.Test.YtamiacmnobklaaaGreatDoorRows
import Derived.Test.YtamiacmnobklaaaGreatDoorShelf
import Derived.Test.YtamiacmnobklaaaGreatDoorSoX
import Derived.Test.YtamiacmnobklaaaGreatDoorTmX
import Derived.Test.YtamiacmnobklaaaGreatDoorTreeMath
import Derived.Test.YtamiacmnobklaaaGreatDoorTcX
import Derived.BigQuiet
import Derived.BigRegion
import Derived.Deep.Cut
import Derived.Deep.CutRange
import Derived.Deep.DeepCutAuto
import Derived.Deep.QuietTactic
import Derived.Deep.RegionHeld
import Derived.IntWalk
import Derived.Laws.BitsAllLaws
import Derived.Laws.IdiomStrings
import Derived.Laws.OwnMore
import Derived.Laws.RangeAny
import Derived.Laws.Rows
import Derived.Laws.Tables
import Derived.Lib.Hide
import Derived.LoopIn
import Derived.LoopNIn
import Derived.LoopTactic
import Derived.Outline
import Derived.OwnWalkIn
import Derived.RangeFuncBound
import Derived.RangeFuncCalls
import Derived.RangeFuncLeaves
import Derived.RangeFuncNested
import Derived.Shelf.Abstract
import Derived.Shelf.RegionOpen
import Derived.Shelf.Strings.SplitCore
import Derived.StillTail
import Derived.TacticsInMore
import Derived.WalkKit
import Derived.WalkLawsBesides
import Derived.WalkSpells
/- Landed tree: Items over the ideal book, walked. -/
set_option linter.unusedVariables false
namespace Go.Proofs.YtamiacmnobklaaaGreatDoor
open Go.RowKit

theorem Kept.beyond {w a b : World} {M N : Nat → Prop} (h : Kept M w a) (k : Kept N a b) (hn : ∀ i, i < w.heap.size → N i → M i) : Kept M w b :=
  ⟨k.os.trans h.os, k.tape.trans h.tape, k.output.trans h.output, Nat.le_trans h.size k.size, fun i hi hm => (k.block i (Nat.lt_of_lt_of_le hi h.size) (fun n => hm (hn i hi n))).trans (h.block i hi hm)⟩
/-- What Items makes of files, by a book that has seen S. -/
def itemsG : List Txt → List FileD → List ItemD
  | _, [] => []
  | S, x :: r => ⟨x.path, x.mode, (x.data.length : Int), numM (noS S x.data)⟩ :: itemsG (markS S x.data) r
theorem itemsG_snoc : ∀ (l : List FileD) (S : List Txt) (x : FileD), itemsG S (l ++ [x]) = itemsG S l ++ [⟨x.path, x.mode, (x.data.length : Int), numM (noS ((l.map (·.data)).foldl markS S) x.data)⟩]
  | [], S, x => rfl
  | y :: r, S, x => by
    show _ :: itemsG _ (r ++ [x]) = _
    rw [itemsG_snoc r]
    rfl
theorem itemsG_len : ∀ (l : List FileD) (S : List Txt), (itemsG S l).length = l.length
  | [], _ => rfl
  | x :: r, S => by show (itemsG _ r).length + 1 = _; rw [itemsG_len r]; rfl
theorem itemsG_take (l : List FileD) (i : Nat) (h : i < l.length) : itemsG [] (l.take (i + 1)) = itemsG [] (l.take i) ++ [⟨l[i].path, l[i].mode, (l[i].data.length : Int), numM (noS (seenS ((l.take i).map (·.data))) l[i].data)⟩] ∧
    seenS ((l.take (i + 1)).map (·.data)) = markS (seenS ((l.take i).map (·.data))) l[i].data := by
  rw [List.take_succ_eq_append_getElem h]
  refine ⟨itemsG_snoc _ _ _, ?_⟩
  rw [List.map_append]
  exact seenS_snoc _ _
/-- The state within the region: the book has seen S, all else stands. -/
structure Ph (w2 : World) (p bm : Nat) (S : List Txt) (w' : World) : Prop where
  id : IdealAt w' p bm S
  kp : Kept (· = bm) w2 w'
theorem Ph.new {w2 w' w'' : World} {p bm : Nat} {S : List Txt} (h : Ph w2 p bm S w') (hb : Below w'.heap.size w' w'') : Ph w2 p bm S w'' := ⟨h.id.new hb, h.kp.trans (Kept.new hb _)⟩
theorem file_box {w : World} {b : Nat} {pt dt : Txt} {md : Int} (h : w.heap[b]? = some (.cells #[.string ⟨pt.toArray⟩, .int .i64 md, .string ⟨dt.toArray⟩] 80 (0, 0))) :
    w.cell? ⟨b, 0, none⟩ = some (.string ⟨pt.toArray⟩) ∧ w.cell? ⟨b, 1, none⟩ = some (.int .i64 md) ∧ w.cell? ⟨b, 2, none⟩ = some (.string ⟨dt.toArray⟩) :=
  ⟨by rw [cell_of_row _ _ _ _ _ _ h]; rfl, by rw [cell_of_row _ _ _ _ _ _ h]; rfl, by rw [cell_of_row _ _ _ _ _ _ h]; rfl⟩

set_option maxRecDepth 100000 in
set_option maxHeartbeats 2000000 in
theorem tItems_any (p bm : Nat) (v : Value) (xs : List FileD) (w : World) {N : Nat → Prop} (hN : ∀ g, N g → g ≠ bm) (hrow : RowN encF 3 N w v xs) (hid : IdealAt w p bm []) (hok : ∀ x ∈ xs, FileOk x) (hl : xs.length ≤ 1000) :
    Calls Tryz.prog 39 #[.pointer (some ⟨p, 0, none⟩), v] w fun e w' => ∃ v', e = .returned (.tuple #[v', .int .i64 (checkS xs)]) ∧ (checkS xs ≠ 0 → v' = .slice none 0 0) ∧
      (checkS xs = 0 → OwnN encI 4 w' w.heap.size 78 v' (itemsG [] xs) ∧ IdealAt w' p bm (seenS (xs.map (·.data)))) ∧ Kept (· = bm) w w' := by
  obtain ⟨va, vc, hv, _⟩ := hrow.slice
  subst hv
  have HRO := Lib.hid hrow
  have HOK := Lib.hid hok
  have HID := Lib.hid hid
  have hlt0 := hid.lt
  have CK := Lib.hid (tCheck_any _ xs w (hrow.mono (fun _ _ => trivial)) hok (by omega))
  clear hrow hok hid
  generalize checkS xs = ce at *
  go_enter Tryz.func39, Tryz.ntmps39
  go_wp2_with fail
  refine CK.out.mono ?_
  rintro e w1 ⟨rfl, hb1⟩
  have HK1 := Lib.hid (Kept.new hb1 (· = bm))
  have HI1 := Lib.hid (HID.out.new hb1)
  clear hb1 CK HID
  by_cases hc : ce = 0
  · have q1 : (ce != 0) = false := by simp [hc]
    have HC := Lib.hid hc
    clear hc
    go_wp2_with fail
    go_loopw [7, 17] (fun v7 v17 wr => ∃ i : Nat, i ≤ xs.length ∧ v17 = .int .i64 i ∧ OwnN encI 4 wr w.heap.size 78 v7 (itemsG [] (xs.take i)) ∧ IdealAt wr p bm (seenS ((xs.take i).map (·.data))) ∧ Kept (· = bm) w wr) (fun _ v17 _ => xs.length - (intOf v17).toNat)
    case atStart => exact ⟨0, by omega, rfl, OwnN.nil _ _ _ _ _, HI1.out, HK1.out⟩
    case round =>
      clear HI1 HK1
      obtain ⟨i, hi, rfl, hown, hidi, hki⟩ := hrel
      have HO := Lib.hid hown
      have HI := Lib.hid hidi
      have HK := Lib.hid hki
      clear hown hidi hki
      have i0 : (0 : Int) ≤ (i : Int) := by omega
      by_cases hlt : i < xs.length
      · have j1 : (i : Int) < (xs.length : Int) := by omega
        obtain ⟨g, o, c', hv, hn, hel⟩ := HRO.out.at hlt
        injection hv with ea eb ec
        subst ea; subst ec
        clear eb
        have hel1 := hel.kept HK.out (hN g hn)
        have c0 := hel1.f0
        have c1 := hel1.f1
        have c2 := hel1.f2
        obtain ⟨t1, t2⟩ := itemsG_take xs i hlt
        have HT := Lib.hid t1
        have HT2 := Lib.hid t2
        have hxo := HOK.out xs[i] (List.getElem_mem hlt)
        have hll : (itemsG [] (xs.take i)).length ≤ 1000 := by rw [itemsG_len, List.length_take]; omega
        have hsl : (seenS ((xs.take i).map (·.data))).length ≤ 1000 := by
          have := seenS_length ((xs.take i).map (·.data)); rw [List.length_map, List.length_take] at this; omega
        clear hel hel1 t1 t2
        generalize xs[i] = x at *
        obtain ⟨pt, md, dt⟩ := x
        dsimp only at c0 c1 c2 HT HT2
        have hpl := hxo.p
        have hdl := hxo.d
        dsimp only at hpl hdl
        clear hxo
        generalize itemsG [] (xs.take i) = out at *
        generalize seenS ((xs.take i).map (·.data)) = S at *
        obtain ⟨oa, om, oc, hv5⟩ := own_slice HO.out
        subst hv5
        have HNB := Lib.hid (heap_alloc_new wr (.cells #[.string ⟨pt.toArray⟩, .int .i64 md, .string ⟨dt.toArray⟩] 80))
        have hbw : Below wr.heap.size wr (wr.alloc (.cells #[.string ⟨pt.toArray⟩, .int .i64 md, .string ⟨dt.toArray⟩] 80)) := (Below.refl _ wr).alloc (Nat.le_refl _) _
        have HO2 := Lib.hid (HO.out.new hbw)
        have HI2 := Lib.hid (HI.out.new hbw)
        have HK2 := Lib.hid (HK.out.beyond (Kept.new hbw (fun _ => False)) (fun _ _ h => h.elim))
        have hbm := HI.out.lt.2
        clear hbw HO HI HK
        go_wp2_with fail
        generalize hw2 : wr.alloc (.cells #[.string ⟨pt.toArray⟩, .int .i64 md, .string ⟨dt.toArray⟩] 80) = w2 at *
        clear hw2
        obtain ⟨nb, hnb⟩ : ∃ nb, nb = wr.heap.size := ⟨_, rfl⟩
        rw [← hnb] at HNB hbm ⊢
        clear hnb c0 c1 c2
        have CB := fun w' (h : Ph w2 p bm S w' ∨ Ph w2 p bm (markS S dt) w') => Lib.hid (file_box ((h.elim (·.kp) (·.kp)).old HNB.out (by omega)))
        have CP := fun w' => Lib.hid (tclone_any pt w' hpl)
        have MK0 := fun w' (h : Ph w2 p bm S w') => Lib.hid (mark_ideal w' p bm S dt h.id hdl (by omega))
        have MK1 := fun w' (h : Ph w2 p bm (markS S dt) w') => Lib.hid (mark_at w' p bm (markS S dt) dt (noS S dt) (markS S dt) h.id hdl (by have := markS_length S dt; omega) (noS_mark S dt dt (.inr rfl)) (markS_in ((mem_markS _ _ _).2 (.inr rfl))))
        refine wp_region_phase_tail (C0 := Ph w2 p bm S) (C1 := Ph w2 p bm (markS S dt)) 13 12 (by kernel_rfl) (by kernel_rfl) (fun _ _ _ h => h) (Or.inl ⟨by rfl, fun _ => rfl⟩) (by decide) (by decide) (fun o' h => by simp at h; subst h; rfl) ⟨HI2.out.new (Below_drew (Below.refl _ _)), (Kept.refl _ _).drew⟩ ?_ (v := .slice oa om oc)
        simp only [List.take_succ_cons, List.take_zero, List.drop_succ_cons, List.drop_zero]
        go_frame
        refine wpY_value (.pointer (some ⟨nb, 0, none⟩)) (by decide) rfl (fun w' _ => by go_simp) ?_
        go_frame
        refine wpY_value (.string ⟨pt.toArray⟩) (by decide) rfl (fun w' h => by (obtain ⟨d0, d1, d2⟩ := (CB w' h).out; go_simp)) ?_
        go_frame
        refine wpY_call (.string ⟨pt.toArray⟩) 42 #[.string ⟨pt.toArray⟩] (by decide) rfl (fun w' => by go_simp) (fun w' h => (CP w').out.mono fun e w'' ⟨he, hb⟩ => ⟨he, h.new hb⟩) (fun w' h => (CP w').out.mono fun e w'' ⟨he, hb⟩ => ⟨he, h.new hb⟩) ?_
        go_frame
        refine wpY_value (.pointer (some ⟨nb, 1, none⟩)) (by decide) rfl (fun w' _ => by go_simp) ?_
        go_frame
        refine wpY_value (.int .i64 md) (by decide) rfl (fun w' h => by (obtain ⟨d0, d1, d2⟩ := (CB w' h).out; go_simp)) ?_
        go_frame
        refine wpY_value (.pointer (some ⟨nb, 2, none⟩)) (by decide) rfl (fun w' _ => by go_simp) ?_
        go_frame
        refine wpY_value (.string ⟨dt.toArray⟩) (by decide) rfl (fun w' h => by (obtain ⟨d0, d1, d2⟩ := (CB w' h).out; go_simp)) ?_
        go_frame
        refine wpY_value (.int .i64 (dt.length : Int)) (by decide) rfl (fun w' _ => by go_simp) ?_
        go_frame
        refine wpY_value (.pointer (some ⟨p, 0, none⟩)) (by decide) rfl (fun w' _ => by go_simp) ?_
        go_frame
        refine wpY_value (.pointer (some ⟨nb, 2, none⟩)) (by decide) rfl (fun w' _ => by go_simp) ?_
        go_frame
        refine wpY_value (.string ⟨dt.toArray⟩) (by decide) rfl (fun w' h => by (obtain ⟨d0, d1, d2⟩ := (CB w' h).out; go_simp)) ?_
        go_frame
        refine wpY_turn (.string ⟨(numM (noS S dt)).toArray⟩) 20 #[.pointer (some ⟨p, 0, none⟩), .string ⟨dt.toArray⟩] rfl (fun w' => by go_simp) (fun w' h => (MK0 w' h).out.mono fun e w'' ⟨he, hi, hk⟩ => ⟨he, hi, h.kp.trans hk⟩) (fun w' h => (MK1 w' h).out.mono fun e w'' ⟨he, hi, hk⟩ => ⟨he, hi, h.kp.trans hk⟩) ?_
        go_frame
        refine wpY_value (.agg #[.string ⟨pt.toArray⟩, .int .i64 md, .int .i64 (dt.length : Int), .string ⟨(numM (noS S dt)).toArray⟩]) (by decide) rfl (fun w' _ => by go_simp) ?_
        go_frame
        refine wpY_nil ?_
        intro w8 h8
        have HI8 := Lib.hid h8.id
        have HK8 := Lib.hid (HK2.out.beyond h8.kp (fun _ _ h => h))
        have HO8 := Lib.hid (HO2.out.kept h8.kp (fun g hg e => by have := (OwnN.lt HO2.out hg).1; omega))
        have hsz8 : w.heap.size ≤ w8.heap.size := HK8.out.size
        clear h8 MK0 MK1 CB HI2 HK2 HO2 HNB
        go_wp2_with (at_builtin; go_loud (refine append_new (enc := encI) (k := 4) (w := w8) (by rfl) (.tmp 21) (.tmp 35) 74 78 (.agg #[.string ByteArray.empty, .int .i64 0, .int .i64 0, .string ByteArray.empty]) 48 (by rfl) Tryz.underlying74 info_item (by rfl) (by decide) encI_ok w.heap.size _ out ⟨pt, md, (dt.length : Int), numM (noS S dt)⟩ (by rfl) HO8.out (by rfl) (by omega) (by unfold maxLen; omega) hsz8 _ (by rfl) ?_; intro v7 w7 hown7 ht7; have HI7 := Lib.hid (HI8.out.kept ht7.kept (fun e => by have := (OwnN.lt HO8.out e).1; omega) (fun e => by have := (OwnN.lt HO8.out e).1; omega)); have HK7 := Lib.hid (HK8.out.beyond (Kept.of_below ht7.bel) (fun i h1 h2 => by omega)); obtain ⟨va7, vm7, vc7, rfl⟩ := own_slice hown7; have HO7 := Lib.hid hown7; clear hown7 ht7))
        go_roundw
        case rel => exact ⟨i + 1, hlt, by go_num, by rw [HT.out]; exact HO7.out, by rw [HT2.out]; exact HI7.out, HK7.out⟩
        case measure => simp [intOf]; omega
      · obtain rfl : i = xs.length := by omega
        have j1 : ¬ (xs.length : Int) < (xs.length : Int) := by omega
        rw [List.take_of_length_le (Nat.le_refl _)] at HO HI
        obtain ⟨oa, om, oc, hv5⟩ := own_slice HO.out
        subst hv5
        go_wp2_with fail
        go_ret2
        exact ⟨_, by rw [HC.out]; rfl, fun h => absurd HC.out h, fun _ => ⟨HO.out, HI.out⟩, HK.out⟩
  · have q1 : (ce != 0) = true := by simp [hc]
    have HC := Lib.hid hc
    clear hc
    go_wp2_with fail
    go_ret2
    exact ⟨_, rfl, fun _ => rfl, fun h => absurd h HC.out, HK1.out⟩
end Go.Proofs.YtamiacmnobklaaaGreatDoor
/- Landed tree: Items over an ideal book that has marked already, walked. -/
set_option linter.unusedVariables false
namespace Go.Proofs.YtamiacmnobklaaaGreatDoor
open Go.RowKit

theorem foldl_markS_len (l S : List Txt) : (l.foldl markS S).length ≤ S.length + l.length := by
  induction l generalizing S with
  | nil => simp
  | cons x l ih => have h1 := ih (markS S x); have h2 := markS_length S x; simp only [List.foldl_cons, List.length_cons]; omega
theorem itemsG_takeS (S0 : List Txt) (l : List FileD) (i : Nat) (h : i < l.length) : itemsG S0 (l.take (i + 1)) = itemsG S0 (l.take i) ++ [⟨l[i].path, l[i].mode, (l[i].data.length : Int), numM (noS (((l.take i).map (·.data)).foldl markS S0) l[i].data)⟩] ∧
    ((l.take (i + 1)).map (·.data)).foldl markS S0 = markS (((l.take i).map (·.data)).foldl markS S0) l[i].data := by
  rw [List.take_succ_eq_append_getElem h]
  refine ⟨itemsG_snoc _ _ _, ?_⟩
  rw [List.map_append, List.foldl_append]
  rfl

set_option maxRecDepth 100000 in
set_option maxHeartbeats 2000000 in
theorem tItems_from (S0 : List Txt) (p bm : Nat) (v : Value) (xs : List FileD) (w : World) {N : Nat → Prop} (hN : ∀ g, N g → g ≠ bm) (hrow : RowN encF 3 N w v xs) (hid : IdealAt w p bm S0) (hS0 : S0.length ≤ 900000) (hok : ∀ x ∈ xs, FileOk x) (hl : xs.length ≤ 1000) :
    Calls Tryz.prog 39 #[.pointer (some ⟨p, 0, none⟩), v] w fun e w' => ∃ v', e = .returned (.tuple #[v', .int .i64 (checkS xs)]) ∧ (checkS xs ≠ 0 → v' = .slice none 0 0) ∧
      (checkS xs = 0 → OwnN encI 4 w' w.heap.size 78 v' (itemsG S0 xs) ∧ IdealAt w' p bm ((xs.map (·.data)).foldl markS S0)) ∧ Kept (· = bm) w w' := by
  obtain ⟨va, vc, hv, _⟩ := hrow.slice
  subst hv
  have HRO := Lib.hid hrow
  have HOK := Lib.hid hok
  have HID := Lib.hid hid
  have hlt0 := hid.lt
  have CK := Lib.hid (tCheck_any _ xs w (hrow.mono (fun _ _ => trivial)) hok (by omega))
  clear hrow hok hid
  generalize checkS xs = ce at *
  go_enter Tryz.func39, Tryz.ntmps39
  go_wp2_with fail
  refine CK.out.mono ?_
  rintro e w1 ⟨rfl, hb1⟩
  have HK1 := Lib.hid (Kept.new hb1 (· = bm))
  have HI1 := Lib.hid (HID.out.new hb1)
  clear hb1 CK HID
  by_cases hc : ce = 0
  · have q1 : (ce != 0) = false := by simp [hc]
    have HC := Lib.hid hc
    clear hc
    go_wp2_with fail
    go_loopw [7, 17] (fun v7 v17 wr => ∃ i : Nat, i ≤ xs.length ∧ v17 = .int .i64 i ∧ OwnN encI 4 wr w.heap.size 78 v7 (itemsG S0 (xs.take i)) ∧ IdealAt wr p bm (((xs.take i).map (·.data)).foldl markS S0) ∧ Kept (· = bm) w wr) (fun _ v17 _ => xs.length - (intOf v17).toNat)
    case atStart => exact ⟨0, by omega, rfl, OwnN.nil _ _ _ _ _, HI1.out, HK1.out⟩
    case round =>
      clear HI1 HK1
      obtain ⟨i, hi, rfl, hown, hidi, hki⟩ := hrel
      have HO := Lib.hid hown
      have HI := Lib.hid hidi
      have HK := Lib.hid hki
      clear hown hidi hki
      have i0 : (0 : Int) ≤ (i : Int) := by omega
      by_cases hlt : i < xs.length
      · have j1 : (i : Int) < (xs.length : Int) := by omega
        obtain ⟨g, o, c', hv, hn, hel⟩ := HRO.out.at hlt
        injection hv with ea eb ec
        subst ea; subst ec
        clear eb
        have hel1 := hel.kept HK.out (hN g hn)
        have c0 := hel1.f0
        have c1 := hel1.f1
        have c2 := hel1.f2
        obtain ⟨t1, t2⟩ := itemsG_takeS S0 xs i hlt
        have HT := Lib.hid t1
        have HT2 := Lib.hid t2
        have hxo := HOK.out xs[i] (List.getElem_mem hlt)
        have hll : (itemsG S0 (xs.take i)).length ≤ 1000 := by rw [itemsG_len, List.length_take]; omega
        have hsl : (((xs.take i).map (·.data)).foldl markS S0).length ≤ 901000 := by
          have := foldl_markS_len ((xs.take i).map (·.data)) S0; rw [List.length_map, List.length_take] at this; omega
        clear hel hel1 t1 t2
        generalize xs[i] = x at *
        obtain ⟨pt, md, dt⟩ := x
        dsimp only at c0 c1 c2 HT HT2
        have hpl := hxo.p
        have hdl := hxo.d
        dsimp only at hpl hdl
        clear hxo
        generalize itemsG S0 (xs.take i) = out at *
        generalize ((xs.take i).map (·.data)).foldl markS S0 = S at *
        obtain ⟨oa, om, oc, hv5⟩ := own_slice HO.out
        subst hv5
        have HNB := Lib.hid (heap_alloc_new wr (.cells #[.string ⟨pt.toArray⟩, .int .i64 md, .string ⟨dt.toArray⟩] 80))
        have hbw : Below wr.heap.size wr (wr.alloc (.cells #[.string ⟨pt.toArray⟩, .int .i64 md, .string ⟨dt.toArray⟩] 80)) := (Below.refl _ wr).alloc (Nat.le_refl _) _
        have HO2 := Lib.hid (HO.out.new hbw)
        have HI2 := Lib.hid (HI.out.new hbw)
        have HK2 := Lib.hid (HK.out.beyond (Kept.new hbw (fun _ => False)) (fun _ _ h => h.elim))
        have hbm := HI.out.lt.2
        clear hbw HO HI HK
        go_wp2_with fail
        generalize hw2 : wr.alloc (.cells #[.string ⟨pt.toArray⟩, .int .i64 md, .string ⟨dt.toArray⟩] 80) = w2 at *
        clear hw2
        obtain ⟨nb, hnb⟩ : ∃ nb, nb = wr.heap.size := ⟨_, rfl⟩
        rw [← hnb] at HNB hbm ⊢
        clear hnb c0 c1 c2
        have CB := fun w' (h : Ph w2 p bm S w' ∨ Ph w2 p bm (markS S dt) w') => Lib.hid (file_box ((h.elim (·.kp) (·.kp)).old HNB.out (by omega)))
        have CP := fun w' => Lib.hid (tclone_any pt w' hpl)
        have MK0 := fun w' (h : Ph w2 p bm S w') => Lib.hid (mark_ideal w' p bm S dt h.id hdl (by omega))
        have MK1 := fun w' (h : Ph w2 p bm (markS S dt) w') => Lib.hid (mark_at w' p bm (markS S dt) dt (noS S dt) (markS S dt) h.id hdl (by have := markS_length S dt; omega) (noS_mark S dt dt (.inr rfl)) (markS_in ((mem_markS _ _ _).2 (.inr rfl))))
        refine wp_region_phase_tail (C0 := Ph w2 p bm S) (C1 := Ph w2 p bm (markS S dt)) 13 12 (by kernel_rfl) (by kernel_rfl) (fun _ _ _ h => h) (Or.inl ⟨by rfl, fun _ => rfl⟩) (by decide) (by decide) (fun o' h => by simp at h; subst h; rfl) ⟨HI2.out.new (Below_drew (Below.refl _ _)), (Kept.refl _ _).drew⟩ ?_ (v := .slice oa om oc)
        simp only [List.take_succ_cons, List.take_zero, List.drop_succ_cons, List.drop_zero]
        go_frame
        refine wpY_value (.pointer (some ⟨nb, 0, none⟩)) (by decide) rfl (fun w' _ => by go_simp) ?_
        go_frame
        refine wpY_value (.string ⟨pt.toArray⟩) (by decide) rfl (fun w' h => by (obtain ⟨d0, d1, d2⟩ := (CB w' h).out; go_simp)) ?_
        go_frame
        refine wpY_call (.string ⟨pt.toArray⟩) 42 #[.string ⟨pt.toArray⟩] (by decide) rfl (fun w' => by go_simp) (fun w' h => (CP w').out.mono fun e w'' ⟨he, hb⟩ => ⟨he, h.new hb⟩) (fun w' h => (CP w').out.mono fun e w'' ⟨he, hb⟩ => ⟨he, h.new hb⟩) ?_
        go_frame
        refine wpY_value (.pointer (some ⟨nb, 1, none⟩)) (by decide) rfl (fun w' _ => by go_simp) ?_
        go_frame
        refine wpY_value (.int .i64 md) (by decide) rfl (fun w' h => by (obtain ⟨d0, d1, d2⟩ := (CB w' h).out; go_simp)) ?_
        go_frame
        refine wpY_value (.pointer (some ⟨nb, 2, none⟩)) (by decide) rfl (fun w' _ => by go_simp) ?_
        go_frame
        refine wpY_value (.string ⟨dt.toArray⟩) (by decide) rfl (fun w' h => by (obtain ⟨d0, d1, d2⟩ := (CB w' h).out; go_simp)) ?_
        go_frame
        refine wpY_value (.int .i64 (dt.length : Int)) (by decide) rfl (fun w' _ => by go_simp) ?_
        go_frame
        refine wpY_value (.pointer (some ⟨p, 0, none⟩)) (by decide) rfl (fun w' _ => by go_simp) ?_
        go_frame
        refine wpY_value (.pointer (some ⟨nb, 2, none⟩)) (by decide) rfl (fun w' _ => by go_simp) ?_
        go_frame
        refine wpY_value (.string ⟨dt.toArray⟩) (by decide) rfl (fun w' h => by (obtain ⟨d0, d1, d2⟩ := (CB w' h).out; go_simp)) ?_
        go_frame
        refine wpY_turn (.string ⟨(numM (noS S dt)).toArray⟩) 20 #[.pointer (some ⟨p, 0, none⟩), .string ⟨dt.toArray⟩] rfl (fun w' => by go_simp) (fun w' h => (MK0 w' h).out.mono fun e w'' ⟨he, hi, hk⟩ => ⟨he, hi, h.kp.trans hk⟩) (fun w' h => (MK1 w' h).out.mono fun e w'' ⟨he, hi, hk⟩ => ⟨he, hi, h.kp.trans hk⟩) ?_
        go_frame
        refine wpY_value (.agg #[.string ⟨pt.toArray⟩, .int .i64 md, .int .i64 (dt.length : Int), .string ⟨(numM (noS S dt)).toArray⟩]) (by decide) rfl (fun w' _ => by go_simp) ?_
        go_frame
        refine wpY_nil ?_
        intro w8 h8
        have HI8 := Lib.hid h8.id
        have HK8 := Lib.hid (HK2.out.beyond h8.kp (fun _ _ h => h))
        have HO8 := Lib.hid (HO2.out.kept h8.kp (fun g hg e => by have := (OwnN.lt HO2.out hg).1; omega))
        have hsz8 : w.heap.size ≤ w8.heap.size := HK8.out.size
        clear h8 MK0 MK1 CB HI2 HK2 HO2 HNB
        go_wp2_with (at_builtin; go_loud (refine append_new (enc := encI) (k := 4) (w := w8) (by rfl) (.tmp 21) (.tmp 35) 74 78 (.agg #[.string ByteArray.empty, .int .i64 0, .int .i64 0, .string ByteArray.empty]) 48 (by rfl) Tryz.underlying74 info_item (by rfl) (by decide) encI_ok w.heap.size _ out ⟨pt, md, (dt.length : Int), numM (noS S dt)⟩ (by rfl) HO8.out (by rfl) (by omega) (by unfold maxLen; omega) hsz8 _ (by rfl) ?_; intro v7 w7 hown7 ht7; have HI7 := Lib.hid (HI8.out.kept ht7.kept (fun e => by have := (OwnN.lt HO8.out e).1; omega) (fun e => by have := (OwnN.lt HO8.out e).1; omega)); have HK7 := Lib.hid (HK8.out.beyond (Kept.of_below ht7.bel) (fun i h1 h2 => by omega)); obtain ⟨va7, vm7, vc7, rfl⟩ := own_slice hown7; have HO7 := Lib.hid hown7; clear hown7 ht7))
        go_roundw
        case rel => exact ⟨i + 1, hlt, by go_num, by rw [HT.out]; exact HO7.out, by rw [HT2.out]; exact HI7.out, HK7.out⟩
        case measure => simp [intOf]; omega
      · obtain rfl : i = xs.length := by omega
        have j1 : ¬ (xs.length : Int) < (xs.length : Int) := by omega
        rw [List.take_of_length_le (Nat.le_refl _)] at HO HI
        obtain ⟨oa, om, oc, hv5⟩ := own_slice HO.out
        subst hv5
        go_wp2_with fail
        go_ret2
        exact ⟨_, by rw [HC.out]; rfl, fun h => absurd HC.out h, fun _ => ⟨HO.out, HI.out⟩, HK.out⟩
  · have q1 : (ce != 0) = true := by simp [hc]
    have HC := Lib.hid hc
    clear hc
    go_wp2_with fail
    go_ret2
    exact ⟨_, rfl, fun _ => rfl, fun h => absurd h HC.out, HK1.out⟩
set_option maxRecDepth 100000 in
theorem tItems_no (p bm : Nat) (v : Value) (xs : List FileD) (w : World) {N : Nat → Prop} (hrow : RowN encF 3 N w v xs) (hok : ∀ x ∈ xs, FileOk x) (hl : xs.length ≤ 1000) (hc : checkS xs ≠ 0) :
    Calls Tryz.prog 39 #[.pointer (some ⟨p, 0, none⟩), v] w fun e w' => e = .returned (.tuple #[.slice none 0 0, .int .i64 (checkS xs)]) ∧ Below w.heap.size w w' := by
  obtain ⟨va, vc, hv, _⟩ := hrow.slice
  subst hv
  have CK := Lib.hid (tCheck_any _ xs w (hrow.mono (fun _ _ => trivial)) hok (by omega))
  have q1 : (checkS xs != 0) = true := by simp [hc]
  clear hrow hok
  generalize checkS xs = ce at *
  clear hc
  go_enter Tryz.func39, Tryz.ntmps39
  go_wp2_with fail
  refine CK.out.mono ?_
  rintro e w1 ⟨rfl, hb1⟩
  go_wp2_with fail
  go_ret2
  exact ⟨rfl, hb1⟩
end Go.Proofs.YtamiacmnobklaaaGreatDoor

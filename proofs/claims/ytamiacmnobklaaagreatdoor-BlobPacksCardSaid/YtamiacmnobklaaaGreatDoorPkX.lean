/- Several texts in one: ScanMath, BlobPackW, BlobPkMath. -/
import Derived.Test.YtamiacmnobklaaaGreatDoorSnX
import Derived.Test.YtamiacmnobklaaaGreatDoorCrX
import Derived.Test.YtamiacmnobklaaaGreatDoorOnX
import Derived.Test.YtamiacmnobklaaaGreatDoorFrame
import Derived.Test.YtamiacmnobklaaaGreatDoorFrmShelf
import Derived.Test.YtamiacmnobklaaaGreatDoorGen
import Derived.Test.YtamiacmnobklaaaGreatDoorMpX
import Derived.Test.YtamiacmnobklaaaGreatDoorOwnL
import Derived.Test.YtamiacmnobklaaaGreatDoorRows
import Derived.Test.YtamiacmnobklaaaGreatDoorShelf
import Derived.BigQuiet
import Derived.BigRegion
import Derived.Deep.AppendLies
import Derived.Deep.CutBlock
import Derived.Deep.DeepCutAuto
import Derived.Deep.Onto
import Derived.Deep.QuietTactic
import Derived.Deep.RegionHeld3
import Derived.Deep.RegionLaw
import Derived.IntWalk
import Derived.Laws.BitsAllLaws
import Derived.Laws.Externs
import Derived.Laws.Rows
import Derived.Laws.Tables
import Derived.Lib.AppendStr
import Derived.Lib.Builder
import Derived.Lib.Hide
import Derived.Lib.Strings
import Derived.Lib.TrailingZeros
import Derived.Lib.Walk
import Derived.Outline
import Derived.WalkKit
import Derived.WalkLawsBesides
import Derived.WalkSpells
import Derived.Test.YtamiacmnobklaaaGreatDoorBldShelf
import Derived.Test.YtamiacmnobklaaaGreatDoorB1X
import Derived.Test.YtamiacmnobklaaaGreatDoorB2X
import Derived.Test.YtamiacmnobklaaaGreatDoorBookW
import Derived.Test.YtamiacmnobklaaaGreatDoorFtX
import Derived.Test.YtamiacmnobklaaaGreatDoorInfos
import Derived.Test.YtamiacmnobklaaaGreatDoorItX
import Derived.Test.YtamiacmnobklaaaGreatDoorIterShelf
import Derived.Test.YtamiacmnobklaaaGreatDoorPtX
import Derived.Test.YtamiacmnobklaaaGreatDoorMarkMath
import Derived.Test.YtamiacmnobklaaaGreatDoorPthX
import Derived.Test.YtamiacmnobklaaaGreatDoorProg
import Derived.Test.YtamiacmnobklaaaGreatDoorRiX
import Derived.Test.YtamiacmnobklaaaGreatDoorCdX
import Derived.Test.YtamiacmnobklaaaGreatDoorRefNumW
import Derived.Test.YtamiacmnobklaaaGreatDoorRefOfTW
import Derived.Test.YtamiacmnobklaaaGreatDoorRefReadW
import Derived.Test.YtamiacmnobklaaaGreatDoorRfX
import Derived.Test.YtamiacmnobklaaaGreatDoorRowN
import Derived.Test.YtamiacmnobklaaaGreatDoorSoX
import Derived.Test.YtamiacmnobklaaaGreatDoorTmX
import Derived.Deep.Cut
import Derived.Deep.CutRange
import Derived.Deep.Slices
import Derived.Deep.Strs
import Derived.Laws.OwnMore
import Derived.Laws.RangeAny
import Derived.Lib.SlicesS
import Derived.Lib.SmallJoins
import Derived.LoopTactic
import Derived.Shelf.Strings.SplitCore
import Derived.Sort.OwnSorted
import Derived.StillTail
import Derived.StillTailTactics
import Derived.Test.YtamiacmnobklaaaGreatDoorArX
import Derived.Test.YtamiacmnobklaaaGreatDoorLwX
import Derived.Test.YtamiacmnobklaaaGreatDoorSmX
import Derived.Laws.IdiomStrings
/- Frames are found again: behind noise, one behind the other, and where the last lacks bytes. Of no walk. -/
set_option linter.unusedVariables false
namespace Go.Proofs.YtamiacmnobklaaaGreatDoor
open Go.RowKit

theorem numL_fourB (n : Nat) (h : n < 4294967296) : numL (fourB n) = n := by
  simp only [fourB, numL, UInt8.toNat_ofNat']
  omega
theorem frame_parts (x t : List UInt8) : ∃ a b c d, fourB x.length = [a, b, c, d] ∧ frameB x ++ t = 181 :: 126 :: a :: b :: c :: d :: (fourB (sumS (fourB x.length ++ x)) ++ (x ++ t)) :=
  ⟨_, _, _, _, rfl, by simp [frameB, fourB]⟩
theorem frame_head (x t : List UInt8) : headBad (frameB x ++ t) = false := by
  obtain ⟨a, b, c, d, _, e⟩ := frame_parts x t
  rw [e]; rfl
theorem frame_26 (x t : List UInt8) : ((frameB x ++ t).take 6).drop 2 = fourB x.length := by
  obtain ⟨a, b, c, d, e1, e⟩ := frame_parts x t
  rw [e, e1]; rfl
theorem frame_610 (x t : List UInt8) : ((frameB x ++ t).take 10).drop 6 = fourB (sumS (fourB x.length ++ x)) := by
  obtain ⟨a, b, c, d, e1, e⟩ := frame_parts x t
  rw [e]; rfl
theorem frame_data (x t : List UInt8) : ((frameB x ++ t).take (10 + x.length)).drop 10 = x := by
  rw [List.take_append_of_le_length (by rw [frameB_length]; omega), List.take_of_length_le (by rw [frameB_length]; omega)]
  rfl
theorem one_frame (x t : List UInt8) (h : x.length ≤ 65536) : oneS (frameB x ++ t) = (x, 10 + x.length, 0) := by
  have hp : payS (frameB x ++ t) = (x.length, 0) := by
    unfold payS
    rw [frame_head, frame_26, numL_fourB _ (by omega), if_neg (by simp), if_neg (by rw [List.length_append, frameB_length]; omega), if_neg (by omega), if_neg (by rw [List.length_append, frameB_length]; omega)]
  unfold oneS
  rw [hp, if_neg (by simp), frame_26, frame_610, frame_data, numL_fourB _ (sumS_lt _), if_neg (by simp)]
theorem one_cut (x : List UInt8) (k : Nat) (h : x.length ≤ 65536) (hk : k < x.length + 10) : (oneS ((frameB x).take k)).2.2 = 3 := by
  obtain ⟨a, b, c, d, e1, e⟩ := frame_parts x []
  rw [List.append_nil, List.append_nil] at e
  have hlen : ((frameB x).take k).length = k := by rw [List.length_take, frameB_length]; omega
  have hp : payS ((frameB x).take k) = (0, 3) := by
    unfold payS
    have hh : headBad ((frameB x).take k) = false := by
      rw [e]
      match k with
      | 0 => rfl
      | 1 => rfl
      | k + 2 => rfl
    rw [hh, if_neg (by simp), hlen]
    by_cases h6 : k < 6
    · rw [if_pos h6]
    · have h26 : (((frameB x).take k).take 6).drop 2 = fourB x.length := by
        rw [List.take_take, Nat.min_eq_left (by omega), e, e1]; rfl
      rw [if_neg h6, h26, numL_fourB _ (by omega), if_neg (by omega), if_pos (by omega)]
  unfold oneS
  rw [hp, if_pos (by simp)]
theorem one_noise (c : UInt8) (t : List UInt8) (h : c ≠ 181) : oneS (c :: t) = ([], 0, 5) := by
  have hh : headBad (c :: t) = true := by
    cases t with
    | nil => simp [headBad, h]
    | cons b t => simp [headBad, h]
  have hp : payS (c :: t) = (0, 5) := by unfold payS; rw [if_pos hh]
  unfold oneS
  rw [hp, if_pos (by simp)]

theorem scan_frames (xs : List (List UInt8)) (t : List UInt8) (hx : ∀ x ∈ xs, x.length ≤ 65536) (ht : (oneS t).2.2 = 3) : ∀ f, (framesB xs ++ t).length < f → scanF f (framesB xs ++ t) = (xs, (framesB xs).length, 0) := by
  induction xs with
  | nil =>
    intro f hf
    obtain ⟨f, rfl⟩ : ∃ k, f = k + 1 := ⟨f - 1, by omega⟩
    rw [show framesB [] ++ t = t from rfl, scan_stop _ _ ht]
    rfl
  | cons x xs ih =>
    intro f hf
    obtain ⟨f, rfl⟩ : ∃ k, f = k + 1 := ⟨f - 1, by omega⟩
    have e : framesB (x :: xs) = frameB x ++ framesB xs := rfl
    rw [e, List.append_assoc] at hf ⊢
    have h1 := one_frame x (framesB xs ++ t) (hx x (by simp))
    have hd : (frameB x ++ (framesB xs ++ t)).drop (10 + x.length) = framesB xs ++ t := by
      rw [show 10 + x.length = (frameB x).length from by rw [frameB_length]; omega, List.drop_left]
    have hl : (framesB xs ++ t).length < f := by
      rw [List.length_append, frameB_length] at hf
      omega
    rw [scan_ok _ _ (by rw [h1]), h1]
    simp only
    rw [hd, ih (fun y hy => hx y (by simp [hy])) f hl]
    simp only [List.length_append, frameB_length]
    rw [Nat.add_comm 10]
theorem scan_noise (r : List UInt8) (ns : List UInt8) (hn : ∀ c ∈ ns, c ≠ 181) : ∀ f, (ns ++ r).length < f → scanF f (ns ++ r) = ((scanF (f - ns.length) r).1, ns.length + (scanF (f - ns.length) r).2.1, ns.length + (scanF (f - ns.length) r).2.2) := by
  induction ns with
  | nil => intro f hf; simp
  | cons c ns ih =>
    intro f hf
    obtain ⟨f, rfl⟩ : ∃ k, f = k + 1 := ⟨f - 1, by omega⟩
    have h1 := one_noise c (ns ++ r) (hn c (by simp))
    rw [List.cons_append]
    rw [scan_lost _ _ (by rw [h1]; simp) (by rw [h1]; simp)]
    rw [show (c :: (ns ++ r)).drop 1 = ns ++ r from rfl, ih (fun y hy => hn y (by simp [hy])) f (by simp at hf ⊢; omega)]
    rw [List.length_cons, show f + 1 - (ns.length + 1) = f - ns.length from by omega]
    simp only [Nat.add_assoc, Nat.add_left_comm]
theorem scanS_frames (xs : List (List UInt8)) (hx : ∀ x ∈ xs, x.length ≤ 65536) : scanS (framesB xs) = (xs, (framesB xs).length, 0) := by
  have := scan_frames xs [] hx (by rw [oneS_nil]) ((framesB xs).length + 1) (by simp)
  rw [List.append_nil] at this
  exact this
theorem scanS_cut (xs : List (List UInt8)) (y : List UInt8) (k : Nat) (hx : ∀ x ∈ xs, x.length ≤ 65536) (hy : y.length ≤ 65536) (hk : k < y.length + 10) : scanS (framesB xs ++ (frameB y).take k) = (xs, (framesB xs).length, 0) :=
  scan_frames xs _ hx (one_cut y k hy hk) _ (Nat.lt_succ_self _)
theorem scanS_lost (ns x : List UInt8) (hn : ∀ c ∈ ns, c ≠ 181) (hx : x.length ≤ 65536) : scanS (ns ++ frameB x) = ([x], ns.length + (frameB x).length, ns.length) := by
  unfold scanS
  rw [scan_noise (frameB x) ns hn _ (Nat.lt_succ_self _)]
  have e : framesB [x] ++ [] = frameB x := by simp [framesB]
  have := scan_frames [x] [] (by simpa using hx) (by rw [oneS_nil]) ((ns ++ frameB x).length + 1 - ns.length) (by rw [e, List.length_append]; omega)
  rw [e] at this
  rw [this]
  simp [framesB]
end Go.Proofs.YtamiacmnobklaaaGreatDoor
/- Landed Pack: all texts in frames, one behind the other, by their marks. -/
set_option linter.unusedVariables false
namespace Go.Proofs.YtamiacmnobklaaaGreatDoor
open Go.RowKit

theorem Row.inB {α : Type} {enc : α → Value} {N : Nat → Prop} {w : World} {v : Value} {xs : List α} (h : Row enc N w v xs) : Row enc (· < w.heap.size) w v xs := by
  obtain ⟨a, c, hv, hc⟩ := h
  refine ⟨a, c, hv, fun i hi => ?_⟩
  obtain ⟨b, off, ha, _, hx⟩ := hc i hi
  exact ⟨b, off, ha, World.block_lt_of_cell? w _ hx, hx⟩
theorem keys_perm {w : World} {mt n : Nat} {D : DataW Unit} {T : List Ent} {β : Txt → Nat} (hown : w.ownsMap Tryz.prog 9 ptrElem mt n D) (ht : TabIs D T β) (hk : TOk T) : (keysE T).Perm (strKeys D) := by
  obtain ⟨es, hD, hpw⟩ := ht.tidy
  obtain ⟨es', hD', hko⟩ := hown.keysOf
  obtain rfl : es = es' := by rw [hD] at hD'; simpa using hD'
  subst hD
  exact perm_strKeys hpw (fun p hp => by obtain ⟨v, hv⟩ := hko p hp; obtain ⟨x, _, hx, _⟩ := Maps.keyOf_str Tryz.underlying9 hv; exact ⟨x, hx⟩) hk.nd (fun x => by rw [ht.has x]; simp)
theorem allS_small {L : List Txt} (h : ∀ x ∈ L, x.length ≤ 65536) : allS L = (framesB L, 0) := by unfold allS; rw [if_pos h]
/-- The texts of marks. -/
def textsE (T : List Ent) (ks : List Txt) : List Txt := ks.map (fun m => (gotE T m).1)
theorem textsE_perm {T : List Ent} (hT : TOk T) {ks : List Txt} (h : ks.Perm (keysE T)) : (textsE T ks).Perm (T.map (·.s)) := by
  have e : textsE T (keysE T) = T.map (·.s) := by
    unfold textsE keysE
    rw [List.map_map]
    exact List.map_congr_left (fun x hx => by
      show (gotE T x.m).1 = x.s
      rw [gotE_in (getE_of hT.nd hx)])
  rw [← e]
  exact h.map _
set_option maxRecDepth 100000 in
set_option maxHeartbeats 2000000 in
theorem bPack_any (w : World) (pb p bm : Nat) (N : Nat → Prop) (S : List Txt) (T : List Ent) (R : List Txt) (h : BW w pb p bm N S T R) (hl : T.length ≤ 900) (hk : ∀ m ∈ keysE T, m.length ≤ 1000) (ht : Tab w) :
    Calls Tryz.prog 24 #[.pointer (some ⟨pb, 0, none⟩)] w fun e w' => ∃ L : List Txt, L.Perm (T.map (·.s)) ∧ e = .returned (.tuple #[.string ⟨(framesB L).toArray⟩, .int .i64 0]) ∧ Below w.heap.size w w' := by
  have RD := Lib.hid (bReady_any w pb p bm N S T R h)
  obtain ⟨mt, v, D, β, hb⟩ := h.blob
  have HB := Lib.hid hb
  have c1 := hb.c1
  have HT := Lib.hid ht
  have HKL := Lib.hid hk
  have KS := Lib.hid (Tryz.maps_Keys_51 (some mt) w)
  have SO := Lib.hid (Tryz.slices_Sorted_keys_50_51 mt T.length D ptrElem w hb.own (by rw [hb.tab.size]; unfold maxLen; omega) (by rw [hb.tab.size]; omega))
  have HP := Lib.hid (keys_perm hb.own hb.tab hb.ok)
  clear hb h ht hk
  go_enter Tryz.func24, Tryz.ntmps24
  go_wp2_with fail
  refine RD.out.mono ?_
  rintro e w1 ⟨rfl, rfl⟩
  go_wp2_with fail
  refine (callsIn_wide.1 KS.out).mono ?_
  rintro e w2 ⟨rfl, rfl⟩
  go_wp2_with fail
  refine (callsIn_wide.1 SO.out).mono ?_
  rintro e w3 ⟨v3, ss, rfl, hS, hrow, _, hb3⟩
  obtain ⟨ks, hks⟩ : ∃ ks, ks = ss.mergeSort (fun x y => decide (x ≤ y)) := ⟨_, rfl⟩
  have hp1 : ks.Perm (keysE T) := by rw [hks]; exact (List.mergeSort_perm _ _).trans (hS.trans HP.out.symm)
  have hkl : ks.length = ss.length := by rw [hks, List.length_mergeSort]
  rw [← hks, ← hkl] at hrow
  have hkn : ks.length ≤ 900 := by rw [hp1.length_eq]; unfold keysE; rw [List.length_map]; exact hl
  have HPK := Lib.hid hp1
  obtain ⟨wA, hwA⟩ : ∃ wA, wA = w.alloc (.cells #[.map (some mt)] 71) := ⟨_, rfl⟩
  rw [← hwA] at hrow hb3
  have hbA : Below w.heap.size w wA := by rw [hwA]; exact (Below.refl _ w).alloc (Nat.le_refl _) _
  have hown : OwnL encT w3 wA.heap.size 9 v3 ks := hrow
  have HB3 := Lib.hid (hbA.trans (hb3.mono hbA.size))
  have HKR := Lib.hid (OwnL.row hown)
  obtain ⟨ka, km, kc, hv3⟩ := own_slice hown
  have hkm0 := own_lenV hown
  subst hv3
  have hkm : km = ks.length := hkm0
  subst hkm
  clear hks hp1 hkl hrow hS hbA hwA hown SO KS hb3 hkm0
  go_wp2_with fail
  go_loopw [4, 6, 17] (fun v4 v6 v17 wr => ∃ (i : Nat), i ≤ ks.length ∧ v17 = .int .i64 (i : Nat) ∧ Below w3.heap.size w3 wr ∧ OwnL encT wr w3.heap.size 9 v4 (textsE T (ks.take i))) (fun _ _ v17 _ => ks.length - (intOf v17).toNat)
  case atStart => exact ⟨0, Nat.zero_le _, rfl, Below.refl _ _, OwnL.nil _ _ _ _⟩
  case round =>
    obtain ⟨i, hi, rfl, hbr, hown⟩ := hrel
    have HBR := Lib.hid hbr
    have Hown := Lib.hid hown
    clear hbr hown
    have i0 : (0 : Int) ≤ (i : Int) := by omega
    have hti : (textsE T (ks.take i)).length = i := by unfold textsE; rw [List.length_map, List.length_take]; omega
    by_cases hlt : i < ks.length
    · have j1 : (i : Int) < (ks.length : Int) := by omega
      have HBI := Lib.hid (HB.out.kept (Kept.new (HB3.out.trans (HBR.out.mono HB3.out.size)) (fun _ => False)) (fun _ _ => id))
      have c1r := HBI.out.c1
      obtain ⟨a', cap', hv, hcs⟩ := HKR.out
      obtain ⟨g, o, ea', _, d0⟩ := hcs i hlt
      injection hv with ea eb ec
      subst ea; subst ec; subst ea'
      clear eb hcs
      have d0r := (HBR.out.cell (p := ⟨g, o + i, none⟩) (World.block_lt_of_cell? w3 _ d0)).trans d0
      have hmem : ks[i] ∈ keysE T := HPK.out.mem_iff.1 (List.getElem_mem hlt)
      have HTK := Lib.hid (show textsE T (ks.take (i + 1)) = textsE T (ks.take i) ++ [(gotE T ks[i]).1] by
        unfold textsE
        rw [List.take_succ_eq_append_getElem hlt, List.map_append]; rfl)
      generalize ks[i] = m at *
      obtain ⟨x, hx, hxm, hxe⟩ := getE_in hmem
      have L := HBI.out.look_in hmem (by have := HKL.out m hmem; omega)
      have e0 := HBI.out.e0 hxm
      rw [hxe] at e0
      rw [gotE_in hx] at HTK
      clear hmem hx hxm hxe d0
      obtain ⟨xm, xs, xn⟩ := x
      dsimp only at e0 HTK
      have d0' : wr.cell? ⟨g, o + i, none⟩ = some (.string ⟨m.toArray⟩) := d0r
      clear d0r HBI
      generalize β m = gb at *
      have hsz := HBR.out.size
      go_wp2_with (at_builtin; refine append_elem (enc := encT) (y := xs) rfl _ _ 54 9 (.string ⟨#[]⟩) 16 (by rfl) Tryz.underlying54 info_str rfl w3.heap.size _ _ rfl (by rfl) Hown.out (by rfl) (by omega) (by unfold maxLen; omega) (by omega) ?_; intro v' w5 hown3 hb5 hk5; have H5 := Lib.hid hown3; have HB5 := Lib.hid hb5; clear hown3 hk5 hb5)
      go_roundw
      case rel => exact ⟨i + 1, hlt, by go_num, HBR.out.trans HB5.out, by rw [HTK.out]; exact H5.out⟩
      case measure => simp [intOf]; omega
    · have j1 : ¬ (i : Int) < (ks.length : Int) := by omega
      rw [List.take_of_length_le (by omega)] at Hown
      have HPT := Lib.hid (textsE_perm HB.out.ok HPK.out)
      obtain ⟨L, hL⟩ : ∃ L, L = textsE T ks := ⟨_, rfl⟩
      rw [← hL] at Hown HPT
      have hLn : L.length ≤ 900 := by rw [hL]; unfold textsE; rw [List.length_map]; exact hkn
      have hLx : ∀ x ∈ L, x.length ≤ 65536 := fun x hx => by
        obtain ⟨y, hy, rfl⟩ := List.mem_map.1 (HPT.out.mem_iff.1 hx)
        exact HB.out.ok.sm y hy
      have HBW := Lib.hid (HB3.out.trans (HBR.out.mono HB3.out.size))
      have AL := Lib.hid (all_any _ L wr (OwnL.row Hown.out).inB (by omega) (fun x hx => by have := hLx x hx; omega) (HT.out.below HBW.out))
      rw [allS_small hLx] at AL
      clear hL hLx Hown
      go_wp2_with fail
      refine AL.out.mono ?_
      rintro e w6 ⟨rfl, hb6⟩
      have HB6 := Lib.hid (HBW.out.trans (hb6.mono HBW.out.size))
      clear hb6
      go_wp2_with fail
      go_ret2
      exact ⟨L, HPT.out, rfl, HB6.out⟩
end Go.Proofs.YtamiacmnobklaaaGreatDoor
/- What is packed is found again: mathematics, and what stands beside two blobs of one book. -/
set_option linter.unusedVariables false
namespace Go.Proofs.YtamiacmnobklaaaGreatDoor
open Go.RowKit

theorem un_same (xs : List Txt) : ∀ (S : List Txt) (T : List Ent) (n : Nat), (∀ x ∈ xs, x ∈ S) → (xs.foldl unStep (S, T, n)).1 = S := by
  induction xs with
  | nil => exact fun S T n _ => rfl
  | cons x r ih =>
    intro S T n h
    have hm : markS S x = S := markS_in (h x (by simp))
    rw [List.foldl_cons]
    unfold unStep
    dsimp only
    rw [hm]
    split
    · exact ih S T n (fun y hy => h y (by simp [hy]))
    · exact ih S _ _ (fun y hy => h y (by simp [hy]))
theorem un_again (xs : List Txt) : ∀ (S : List Txt) (T : List Ent) (n : Nat), (∀ x ∈ xs, x ∈ S ∧ 1 ≤ cntE S T x) → xs.foldl unStep (S, T, n) = (S, T, n) := by
  induction xs with
  | nil => exact fun S T n _ => rfl
  | cons x r ih =>
    intro S T n h
    obtain ⟨h1, h2⟩ := h x (by simp)
    have hm : markS S x = S := markS_in h1
    rw [List.foldl_cons, show unStep (S, T, n) x = (S, T, n) by unfold unStep; dsimp only; rw [hm, if_pos h2]]
    exact ih S T n (fun y hy => h y (by simp [hy]))
theorem once_all (xs : List Txt) : ∀ (A : List Txt), xs.Nodup → (∀ x ∈ xs, x ∉ A) → xs.foldl onceStep A = A ++ xs := by
  induction xs with
  | nil => exact fun A _ _ => by simp
  | cons x r ih =>
    intro A hn h
    rw [List.nodup_cons] at hn
    rw [List.foldl_cons, show onceStep A x = A ++ [x] by unfold onceStep; rw [if_neg (h x (by simp))]]
    rw [ih (A ++ [x]) hn.2 (fun y hy c => by
      rcases List.mem_append.1 c with c | c
      · exact h y (by simp [hy]) c
      · rw [List.mem_singleton.1 c] at hy; exact hn.1 hy), List.append_assoc]
    rfl
theorem scan_noisy (ns : List UInt8) (xs : List (List UInt8)) (hn : ∀ c ∈ ns, c ≠ 181) (hx : ∀ x ∈ xs, x.length ≤ 65536) : (scanS (ns ++ framesB xs)).1 = xs := by
  unfold scanS
  rw [scan_noise (framesB xs) ns hn _ (Nat.lt_succ_self _)]
  have := scan_frames xs [] hx (by rw [oneS_nil]) ((ns ++ framesB xs).length + 1 - ns.length) (by rw [List.append_nil, List.length_append]; omega)
  rw [List.append_nil] at this
  rw [this]
theorem frames_len (xs : List (List UInt8)) (h : ∀ x ∈ xs, x.length ≤ 500) : (framesB xs).length ≤ 510 * xs.length := by
  induction xs with
  | nil => simp [framesB]
  | cons x r ih =>
    have h1 := h x (by simp)
    have h2 := ih (fun y hy => h y (by simp [hy]))
    have e : framesB (x :: r) = frameB x ++ framesB r := by simp [framesB]
    have e2 : (frameB x).length = x.length + 10 := by
      unfold frameB
      simp [fourB] <;> omega
    rw [e, List.length_append, e2, List.length_cons]
    omega
/-- The distinct texts that were put. -/
structure PK (S : List Txt) (T : List Ent) (A : List Txt) : Prop where
  iff : ∀ u, u ∈ A ↔ 1 ≤ cntE S T u
  nd : A.Nodup
  ln : ∀ u ∈ A, u.length ≤ 500
theorem PK.in_S {S : List Txt} {T : List Ent} {A : List Txt} (h : PK S T A) {u : Txt} (hu : u ∈ A) : u ∈ S := by
  have := (h.iff u).1 hu
  unfold cntE at this
  split at this
  · assumption
  · omega
theorem PK.put {S : List Txt} {T T' : List Ent} {A : List Txt} (h : PK S T A) {y : Txt} (hy : y.length ≤ 500) (hc : ∀ u, cntE (markS S y) T' u = cntE S T u + if u = y then 1 else 0) : PK (markS S y) T' (if y ∈ A then A else A ++ [y]) := by
  refine ⟨fun u => ?_, ?_, fun u hu => ?_⟩
  · rw [hc]
    by_cases e : u = y
    · subst e
      rw [if_pos rfl]
      have := h.iff u
      by_cases ha : u ∈ A
      · rw [if_pos ha]; exact ⟨fun _ => by omega, fun _ => ha⟩
      · rw [if_neg ha]; exact ⟨fun _ => by omega, fun _ => by simp⟩
    · rw [if_neg e, Nat.add_zero, ← h.iff u]
      by_cases ha : y ∈ A
      · rw [if_pos ha]
      · rw [if_neg ha]; simp [e]
  · by_cases ha : y ∈ A
    · rw [if_pos ha]; exact h.nd
    · rw [if_neg ha, List.nodup_append]
      exact ⟨h.nd, by simp, fun a h1 b h2 e => by rw [List.mem_singleton.1 h2] at e; exact ha (e ▸ h1)⟩
  · by_cases ha : y ∈ A
    · rw [if_pos ha] at hu; exact h.ln u hu
    · rw [if_neg ha] at hu
      rcases List.mem_append.1 hu with c | c
      · exact h.ln u c
      · rw [List.mem_singleton.1 c]; exact hy
theorem PK.refs {S : List Txt} {T T' : List Ent} {A : List Txt} (h : PK S T A) {y : Txt} (hc : ∀ u, cntE (markS S y) T' u = cntE S T u + if u = y then 1 else 0) : (cntE (markS S y) T' y = 1 ↔ y ∉ A) := by
  rw [hc, if_pos rfl, h.iff y]
  omega
theorem PK.size {S : List Txt} {T : List Ent} {A : List Txt} (h : PK S T A) (hT : TOk T) (hts : TS S T) (hS : S.length ≤ 1000000) : T.length = A.length ∧ sumE T = (A.map (·.length)).sum := tab_size hT hts hS h.nd h.iff
theorem PK.perm {S : List Txt} {T : List Ent} {A : List Txt} (h : PK S T A) (hT : TOk T) (hts : TS S T) (hS : S.length ≤ 1000000) : (T.map (·.s)).Perm A := perm_nodup (ts_nodup hT hts) h.nd (fun s => by rw [← cnt_mem hT hts hS s, h.iff])
/-- What the other blobs have behind the first Unpack. -/
theorem PK.other {S : List Txt} {T : List Ent} {A L : List Txt} (h : PK S T A) (hS : S.length ≤ 800000) (hA : A.length ≤ 1000) (hL : L.Perm A) {S' : List Txt} {T' : List Ent} {n : Nat} (hf : L.foldl unStep (S, [], 0) = (S', T', n)) : S' = S ∧ n = A.length ∧ PK S T' A := by
  have h1 := un_same L S [] 0 (fun x hx => h.in_S (hL.mem_iff.1 hx))
  rw [hf] at h1
  dsimp only at h1
  subst h1
  have hl := hL.length_eq
  have h2 := un_inv L S' [] 0 [] (TS.nil _) TOk.nil (by omega) (fun x hx => by have := h.ln x (hL.mem_iff.1 hx); omega) (fun u => by rw [cnt_nil]; rfl) rfl rfl
  rw [hf, once_all L [] (hL.nodup_iff.2 h.nd) (fun _ _ c => by cases c), List.nil_append] at h2
  obtain ⟨a, b, c⟩ := h2
  dsimp only at a b c
  refine ⟨rfl, by omega, fun u => ?_, h.nd, h.ln⟩
  rw [a, ← hL.mem_iff]
  split <;> simp_all
theorem PK.again {S : List Txt} {T : List Ent} {A L : List Txt} (h : PK S T A) (hL : L.Perm A) (n : Nat) : L.foldl unStep (S, T, n) = (S, T, n) :=
  un_again L S T n (fun x hx => ⟨h.in_S (hL.mem_iff.1 hx), (h.iff x).1 (hL.mem_iff.1 hx)⟩)
/-- The law's world, two blobs of one book, the texts that were put. -/
structure CW (w0 w : World) (pw pb p bm pp pc : Nat) (Nb Nc : Nat → Prop) (S : List Txt) (Tb Tc : List Ent) (A : List Txt) (v6 : Value) (K : Nat) : Prop where
  bl : BL w pc p bm Nc S Tc [] K
  bb : BlobAt w pb p Nb Tb []
  npb : ¬ Nb p
  nmb : ¬ Nb bm
  nbc : ∀ g, Nb g → ¬ Nc g
  wb : WBox w pw pb p pp
  o6 : OwnN encZB 1 w w0.heap.size 9 v6 A
  d6 : ∀ g, v6.ownBlock = some g → ¬ Nc g ∧ g ≠ bm
  nn : ∀ k, Nc k → w0.heap.size ≤ k
  nw : ¬ Nc pw
  bmw : bm ≠ pw
  lo : w0.heap.size ≤ bm
  bel : Below w0.heap.size w0 w
section
variable {w0 w w' : World} {pw pb p bm pp pc : Nat} {Nb Nc Nc' : Nat → Prop} {S S' : List Txt} {Tb Tc Tc' : List Ent} {A : List Txt} {v6 v7 : Value} {K K' : Nat}
theorem CW.start (h : EW w0 w pw pb p bm pp Nb S Tb [] A [] v6 v7 K) (hb : Below w.heap.size w w') (hbl : BL w' pc p bm Nc S [] [] K') (hn : ∀ k, Nc k → w.heap.size ≤ k) : CW w0 w' pw pb p bm pp pc Nb Nc S Tb [] A v6 K' := by
  have h2 := h.new hb
  refine ⟨hbl, h2.bl.bw.blob, h2.bl.bw.np, h2.bl.bw.nm, fun g hg c => ?_, h2.wb, h2.o6, fun g hg => ⟨fun c => ?_, (h.d6 g hg).2.1⟩, fun k hk => ?_, fun c => ?_, h.bmw, h.lo, h2.bel⟩
  · have := h.bl.bw.blob.lt.2 g hg
    have := hn g c
    omega
  · have := (h.o6.lt hg).2.1
    have := hn g c
    omega
  · have := hn k hk
    have := h.bel.size
    omega
  · have := (Array.getElem?_eq_some_iff.1 h.wb).1
    have := hn _ c
    omega
theorem CW.new (h : CW w0 w pw pb p bm pp pc Nb Nc S Tb Tc A v6 K) (hb : Below w.heap.size w w') : CW w0 w' pw pb p bm pp pc Nb Nc S Tb Tc A v6 K :=
  ⟨h.bl.new hb, h.bb.new hb, h.npb, h.nmb, h.nbc, (Kept.new hb (fun _ => False)).old h.wb id, h.o6.new hb, h.d6, h.nn, h.nw, h.bmw, h.lo, h.bel.trans (hb.mono h.bel.size)⟩
theorem CW.turn (h : CW w0 w pw pb p bm pp pc Nb Nc S Tb Tc A v6 K) (hbl : BL w' pc p bm Nc' S' Tc' [] K') (ht : BTurn w w' bm Nc Nc') : CW w0 w' pw pb p bm pp pc Nb Nc' S' Tb Tc' A v6 K' := by
  have hpw := (Array.getElem?_eq_some_iff.1 h.wb).1
  refine ⟨hbl, h.bb.kept ht.kp (fun g hg c => by rcases c with c | c; exact h.nbc g hg c; exact h.nmb (c ▸ hg)), h.npb, h.nmb, fun g hg => ht.off (h.nbc g hg) (h.bb.lt.2 g hg), ht.kp.old h.wb (fun c => by rcases c with c | c; exact h.nw c; exact h.bmw c.symm),
    h.o6.kept ht.kp (fun g hg c => by have := h.d6 g hg; rcases c with c | c; exact this.1 c; exact this.2 c), fun g hg => ⟨ht.off (h.d6 g hg).1 (h.o6.lt hg).2.1, (h.d6 g hg).2⟩, ht.from h.bel.size h.nn, ht.off h.nw hpw, h.bmw, h.lo, h.bel.trans (ht.below h.bel.size h.nn h.lo)⟩
theorem CW.mono (h : CW w0 w pw pb p bm pp pc Nb Nc S Tb Tc A v6 K) (hK : K ≤ K') : CW w0 w pw pb p bm pp pc Nb Nc S Tb Tc A v6 K' := ⟨h.bl.mono hK, h.bb, h.npb, h.nmb, h.nbc, h.wb, h.o6, h.d6, h.nn, h.nw, h.bmw, h.lo, h.bel⟩
theorem CW.bw (h : CW w0 w pw pb p bm pp pc Nb Nc S Tb Tc A v6 K) : BW w pb p bm Nb S Tb [] := ⟨h.bb, h.bl.bw.id, h.npb, h.nmb⟩
end
theorem blNewS_any (w : World) (p bm : Nat) (S : List Txt) (K : Nat) (hid : IdealAt w p bm S) (hS : S.length ≤ K) :
    Calls Tryz.prog 25 #[.pointer (some ⟨p, 0, none⟩)] w fun e w' => ∃ pb N, e = .returned (.pointer (some ⟨pb, 0, none⟩)) ∧ BL w' pb p bm N S [] [] K ∧ (∀ k, N k → w.heap.size ≤ k) ∧ Below w.heap.size w w' := by
  refine (bNew_any w p bm S hid).mono ?_
  rintro e w' ⟨pb, N, rfl, h1, h2, h3⟩
  exact ⟨pb, N, rfl, ⟨h1, TS.nil _, fun l hl => (by cases hl), fun s => by simp [needS], hS, TB.nil.mono (Nat.zero_le _), Nat.zero_le _⟩, h2, h3⟩
end Go.Proofs.YtamiacmnobklaaaGreatDoor

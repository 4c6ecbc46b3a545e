/- Several texts in one: DelIW, DropIW. -/
import Derived.Test.YtfgimhgkjodcgaaDoorArgs3
import Derived.Test.YtfgimhgkjodcgaaDoorCodeMath
import Derived.Test.YtfgimhgkjodcgaaDoorFnX
import Derived.Test.YtfgimhgkjodcgaaDoorFrame
import Derived.Test.YtfgimhgkjodcgaaDoorGen
import Derived.Test.YtfgimhgkjodcgaaDoorBdX
import Derived.Test.YtfgimhgkjodcgaaDoorLists
import Derived.Test.YtfgimhgkjodcgaaDoorMtX
import Derived.Test.YtfgimhgkjodcgaaDoorOwnL
import Derived.Test.YtfgimhgkjodcgaaDoorPthX
import Derived.Test.YtfgimhgkjodcgaaDoorProg
import Derived.Test.YtfgimhgkjodcgaaDoorReadMath
import Derived.Test.YtfgimhgkjodcgaaDoorReadW
import Derived.Test.YtfgimhgkjodcgaaDoorCkX
import Derived.Test.YtfgimhgkjodcgaaDoorOfX
import Derived.Test.YtfgimhgkjodcgaaDoorTrX
import Derived.Test.YtfgimhgkjodcgaaDoorRowN
import Derived.Test.YtfgimhgkjodcgaaDoorRows
import Derived.Test.YtfgimhgkjodcgaaDoorShelf
import Derived.Test.YtfgimhgkjodcgaaDoorSoX
import Derived.Test.YtfgimhgkjodcgaaDoorSortX
import Derived.Test.YtfgimhgkjodcgaaDoorTmX
import Derived.Test.YtfgimhgkjodcgaaDoorSortTW
import Derived.Test.YtfgimhgkjodcgaaDoorTlX
import Derived.Test.YtfgimhgkjodcgaaDoorTreeMath
import Derived.BigQuiet
import Derived.BigRegion
import Derived.Deep.Cut
import Derived.Deep.CutBlock
import Derived.Deep.CutRange
import Derived.Deep.DeepCutAuto
import Derived.Deep.QuietTactic
import Derived.Deep.Slices
import Derived.Deep.Strs
import Derived.Laws.Externs
import Derived.Laws.IdiomCopy
import Derived.Laws.RangeAny
import Derived.Lib.AppendStr
import Derived.Lib.Builder
import Derived.Lib.Hide
import Derived.Lib.SmallJoins
import Derived.Lib.Strings
import Derived.Lib.Walk
import Derived.LoopTactic
import Derived.Outline
import Derived.StillTail
import Derived.WalkKit
import Derived.WalkLawsBesides
import Derived.WalkSpells
import Derived.Test.YtfgimhgkjodcgaaDoorArgTree
import Derived.Test.YtfgimhgkjodcgaaDoorImgMath
import Derived.Test.YtfgimhgkjodcgaaDoorMarkMath
import Derived.Test.YtfgimhgkjodcgaaDoorMeX
import Derived.Test.YtfgimhgkjodcgaaDoorOrderTW
import Derived.Test.YtfgimhgkjodcgaaDoorPuX
import Derived.Deep.RegionHeld
import Derived.Laws.ResultCell
import Derived.LoopIn
import Derived.LoopNIn
import Derived.OwnWalkIn
import Derived.RangeFuncBound
import Derived.RangeFuncCalls
import Derived.RangeFuncLeaves
import Derived.RangeFuncNested
import Derived.Shelf.Abstract
import Derived.Shelf.RegionOpen
import Derived.TacticsInMore
/- Landed: slices.DeleteFunc over files, walked. -/
set_option linter.unusedVariables false
namespace Go.Proofs.YtfgimhgkjodcgaaDoor
open Go.RowKit

/-- 'clear(s)' of structs: the cells hold zero values, nothing else turns. -/
theorem run_clearN {P : Program} (w : World) (t e : TypeId) (z : Value) (ht : P.underlying t = some (.slice e)) (hv : ∀ w, (zeroValue e).run P w = .ok z w) (h1 : ∀ u ∈ z.cells, u.oneCell' = true) (b o n c : Nat) (hn : 0 < n)
    (hc : ∀ j, j < n * z.cells.size → (w.cell? ⟨b, o + j, none⟩).isSome = true) (hf : ∀ j, j < n * z.cells.size → w.frozen? ⟨b, o + j, none⟩ = false) :
    ∃ vs, (∀ ty, (Builtin.clear_ #[t] ty #[.slice (some ⟨b, o, none⟩) n c]).run P w = .ok (.tuple #[]) (w.setCells b o vs)) ∧ vs.length = n * z.cells.size := by
  have hlen : (Builtin.zeroCells z.cells n).toList.length = n * z.cells.size := by simp [Builtin.zeroCells]
  have hone : ∀ u ∈ (Builtin.zeroCells z.cells n).toList, u.oneCell' = true := by
    intro u hu
    rw [Array.mem_toList_iff] at hu
    unfold Builtin.zeroCells at hu
    rw [Array.mem_map] at hu
    obtain ⟨i, hi, rfl⟩ := hu
    rw [Array.mem_range] at hi
    have hp : 0 < z.cells.size := by
      rcases Nat.eq_zero_or_pos z.cells.size with c | c
      · rw [c, Nat.mul_zero] at hi; omega
      · exact c
    have hm : i % z.cells.size < z.cells.size := Nat.mod_lt _ hp
    rw [getElem!_pos z.cells _ hm]
    exact h1 _ (Array.getElem_mem hm)
  have hst := run_storeCells_cells (P := P) b o (Builtin.zeroCells z.cells n).toList 0 w (by simpa [hlen] using hc) (by simpa [hlen] using hf) hone
  simp only [Nat.add_zero] at hst
  refine ⟨_, fun ty => ?_, hlen⟩
  obtain ⟨m, rfl⟩ : ∃ m, n = m + 1 := ⟨n - 1, by omega⟩
  simp [Builtin.clear_, run_underlying ht, hv, hst]
/-- The first ones of an own list behind a turn of its later cells. -/
theorem own_tail {w : World} {base : Nat} {e : TypeId} {g n c : Nat} {ys : List FileD} (h : OwnN encF 3 w base e (.slice (some ⟨g, 0, none⟩) n c) ys) (i : Nat) (hi : i ≤ ys.length) (vs : List Value) :
    RowN encF 3 (fun _ => True) (w.setCells g (i * 3) vs) (.slice (some ⟨g, 0, none⟩) i c) (ys.take i) := by
  have hl : (ys.take i).length = i := by rw [List.length_take]; omega
  by_cases hy : ys = []
  · subst hy
    obtain rfl : i = 0 := by simpa using hi
    exact RowN.nil _ _ _ _
  · obtain ⟨g', c', hv, hc, _, _, hel, _⟩ := OwnN.at encF_ok h hy
    injection hv with e1 e2 e3
    injection e1 with e1
    injection e1 with e1
    subst e1 e3
    refine ⟨_, _, by rw [hl], by omega, fun k hk => ⟨g, 0, rfl, trivial, fun r u hu => ?_⟩⟩
    rw [hl] at hk
    have hr : r < 3 := by rw [← encF_ok.len (ys.take i)[k]]; exact (List.getElem?_eq_some_iff.1 hu).1
    rw [List.getElem_take] at hu
    rw [World.cell?_setCells_out g vs (i * 3) w ⟨g, 0 + k * 3 + r, none⟩ (fun _ _ => .inl (by show 0 + k * 3 + r < i * 3; omega)), Nat.zero_add]
    exact hel k (by omega) r u hu
theorem below_cellsI {B g : Nat} (h : B ≤ g) : ∀ (vs : List Value) (o : Nat) (w : World), Below B w (w.setCells g o vs)
  | [], _, w => Below.refl B w
  | v :: r, o, w => ((Below.refl B w).setCell (p := ⟨g, o, none⟩) h v).trans (below_cellsI h r (o + 1) _)
theorem filter_takeS {α : Type} (q : α → Bool) (l : List α) (i : Nat) (h : i < l.length) : (l.take (i + 1)).filter q = (l.take i).filter q ++ (if q l[i] then [l[i]] else []) := by
  rw [List.take_succ_eq_append_getElem h, List.filter_append]
  congr 1
  by_cases hq : q l[i] = true
  · rw [if_pos hq]; simp [hq]
  · rw [if_neg hq]; simp [hq]
set_option maxRecDepth 100000 in
set_option maxHeartbeats 2000000 in
theorem deleteFunc_any (f : Nat) (cb : Array Value) (want : FileD → Bool) (v : Value) (xs : List FileD) (w : World) (base : Nat) (eg : ∀ (args : Array Value) (w : World), (callFunc f args).run Tryd.prog w = .ok (.enter f args) w)
    (hwa : ∀ x ∈ xs, ∀ w', Below base w w' → Calls Tryd.prog f (#[.agg #[.string ⟨x.path.toArray⟩, .int .i64 x.mode, .string ⟨x.data.toArray⟩]] ++ cb) w' fun e w'' => e = .returned (.bool (want x)) ∧ Below w'.heap.size w' w'')
    (hown : OwnN encF 3 w base 33 v xs) (hbase : base ≤ w.heap.size) (hl : xs.length ≤ 1000000) :
    Calls Tryd.prog 43 #[v, .func (.func f) #[] cb] w fun e w' => ∃ a c, e = .returned (.slice a (xs.filter (fun x => !want x)).length c) ∧ RowN encF 3 (fun _ => True) w' (.slice a (xs.filter (fun x => !want x)).length c) (xs.filter (fun x => !want x)) ∧ Below base w w' := by
  have IF := Lib.hid (indexFunc_any f cb want v xs w eg (fun x hx w' hb => hwa x hx w' (hb.mono hbase)) ((OwnN.row encF_ok hown).mono (fun _ _ => trivial)) hl)
  have HWA := Lib.hid hwa
  rcases idxN_cases want xs 0 with ⟨h1, h2⟩ | ⟨k, hk, h1, h2, h3⟩
  · rw [h1] at IF
    have hfl : xs.filter (fun x => !want x) = xs := List.filter_eq_self.2 (fun x hx => by rw [h2 x hx]; rfl)
    rw [hfl]
    obtain ⟨va, vc, hv, _⟩ := ((OwnN.row encF_ok hown).mono (fun _ _ => trivial) : RowN encF 3 (fun _ => True) w v xs).slice
    subst hv
    have HO := Lib.hid hown
    have HBA := Lib.hid hbase
    clear h1 h2 hfl hown hwa
    go_enter Tryd.func43, Tryd.ntmps43
    go_wp2_with fail
    refine IF.out.mono ?_
    rintro e w2 ⟨rfl, hb2⟩
    go_wp2_with fail
    go_ret
    exact ⟨_, _, rfl, (OwnN.row encF_ok (HO.out.new hb2)).mono (fun _ _ => trivial), hb2.mono HBA.out⟩
  · rw [h1, Nat.zero_add] at IF
    have hne : xs ≠ [] := fun h => by rw [h] at hk; simp at hk
    obtain ⟨g, c, hv, hc, hgb, hgl, _, _⟩ := OwnN.at encF_ok hown hne
    subst hv
    have HO := Lib.hid hown
    have HBA := Lib.hid hbase
    have HGB := Lib.hid (show base ≤ g from hgb)
    have HTK := Lib.hid (show xs.take k = (xs.take (k + 1)).filter (fun x => !want x) by
      rw [filter_takeS _ xs k hk, h2]
      have e : (xs.take k).filter (fun x => !want x) = xs.take k := List.filter_eq_self.2 (fun x hx => by rw [h3 x hx]; rfl)
      rw [e]
      simp)
    have k0 : (k : Int) ≠ -1 := by omega
    have kq : ((k : Int) == -1) = false := by simp [k0]
    clear h1 h2 h3 hown hwa hne
    go_enter Tryd.func43, Tryd.ntmps43
    go_wp2_with fail
    refine IF.out.mono ?_
    rintro e w2 ⟨rfl, hb2⟩
    have HO2 := Lib.hid (HO.out.new hb2)
    have HB2 := Lib.hid (hb2.mono HBA.out)
    clear hb2 HO IF
    go_wp2_with fail
    go_loopw [5, 6, 7] (fun v5 v6 v7 wr => ∃ (i j : Nat) (ys : List FileD), v5 = .int .i64 i ∧ v6 = .int .i64 j ∧ i < j ∧ j ≤ xs.length ∧ ys.length = xs.length ∧ OwnN encF 3 wr base 33 (.slice (some ⟨g, 0, none⟩) xs.length c) ys ∧ Hid (ys.take i = (xs.take j).filter (fun x => !want x)) ∧ Hid (ys.drop j = xs.drop j) ∧ Below base w wr) (fun _ v6 _ _ => xs.length - (intOf v6).toNat)
    case atStart => exact ⟨k, k + 1, xs, rfl, by go_num, by omega, by omega, rfl, HO2.out, HTK, Lib.hid rfl, HB2.out⟩
    case round =>
      clear HO2 HB2 HTK
      obtain ⟨i, j, ys, rfl, rfl, hij, hj, hyl, hown, HT, HD, hbel⟩ := hrel
      have HO := Lib.hid hown
      have HB := Lib.hid hbel
      have HYL := Lib.hid hyl
      clear hown hbel
      have i0 : (0 : Int) ≤ (i : Int) := by omega
      have i2 : (0 : Int) ≤ (j : Int) := by omega
      have hne : ys ≠ [] := fun h => by rw [h] at hyl; simp at hyl; omega
      obtain ⟨g', c', hv, _, _, hgl', hel, hfr⟩ := OwnN.at encF_ok HO.out hne
      injection hv with e1 e2 e3
      injection e1 with e1
      injection e1 with e1
      subst e1
      clear e2 e3 hyl
      by_cases hlt : j < xs.length
      · have j1 : (j : Int) < (xs.length : Int) := by omega
        have j3 : (i : Int) < (xs.length : Int) := by omega
        have hjy : j < ys.length := by rw [HYL.out]; exact hlt
        have hiy : i < ys.length := by rw [HYL.out]; omega
        have HXJ := Lib.hid (show ys[j]'hjy = xs[j] by
          have h := HD.out
          rw [List.drop_eq_getElem_cons hjy, List.drop_eq_getElem_cons hlt] at h
          injection h)
        have HDN := Lib.hid (show ys.drop (j + 1) = xs.drop (j + 1) by
          have h := HD.out
          rw [List.drop_eq_getElem_cons hjy, List.drop_eq_getElem_cons hlt] at h
          injection h)
        have HF := Lib.hid (filter_takeS (fun x => !want x) xs j hlt)
        have hel1 := hel j hjy
        rw [HXJ.out] at hel1
        have WA := Lib.hid (HWA.out xs[j] (List.getElem_mem hlt))
        have HSET := Lib.hid (fun wq (h : OwnN encF 3 wq base 33 (.slice (some ⟨g, 0, none⟩) xs.length c) ys) => own_putF h i xs[j] hiy)
        have HST := Lib.hid (show (ys.set i xs[j]).take (i + 1) = ys.take i ++ [xs[j]] by
          rw [List.take_succ_eq_append_getElem (by rw [List.length_set]; exact hiy), List.getElem_set, if_pos rfl, List.take_set_of_le (Nat.le_refl _)])
        have HSD := Lib.hid (show (ys.set i xs[j]).drop (j + 1) = xs.drop (j + 1) by rw [List.drop_set_of_lt (by omega), HDN.out])
        have HSL := Lib.hid (show (ys.set i xs[j]).length = xs.length by rw [List.length_set, HYL.out])
        obtain ⟨wx, hwx⟩ : ∃ wx, wx = want xs[j] := ⟨_, rfl⟩
        rw [← hwx] at WA HF
        have c0 := hel1.f0
        have c1 := hel1.f1
        have c2 := hel1.f2
        clear hwx hel1 HXJ HD
        generalize xs[j] = x at *
        obtain ⟨p, md, dt⟩ := x
        unfold putF at HSET
        dsimp only at c0 c1 c2 WA HSET
        have hbw := (Below.refl wr.heap.size wr).alloc (Nat.le_refl _) (.cells #[.string ⟨p.toArray⟩, .int .i64 md, .string ⟨dt.toArray⟩] 33)
        have HNW := Lib.hid (heap_alloc_new wr (.cells #[.string ⟨p.toArray⟩, .int .i64 md, .string ⟨dt.toArray⟩] 33))
        have HO3 := Lib.hid (HO.out.new hbw)
        have HB3 := Lib.hid (HB.out.trans (hbw.mono (Nat.le_trans HBA.out HB.out.size)))
        have b0 : (wr.alloc (.cells #[.string ⟨p.toArray⟩, .int .i64 md, .string ⟨dt.toArray⟩] 33)).cell? ⟨wr.heap.size, 0, none⟩ = some (.string ⟨p.toArray⟩) := (cell_of_row _ _ _ _ _ _ HNW.out).trans rfl
        have b1 : (wr.alloc (.cells #[.string ⟨p.toArray⟩, .int .i64 md, .string ⟨dt.toArray⟩] 33)).cell? ⟨wr.heap.size, 1, none⟩ = some (.int .i64 md) := (cell_of_row _ _ _ _ _ _ HNW.out).trans rfl
        have b2 : (wr.alloc (.cells #[.string ⟨p.toArray⟩, .int .i64 md, .string ⟨dt.toArray⟩] 33)).cell? ⟨wr.heap.size, 2, none⟩ = some (.string ⟨dt.toArray⟩) := (cell_of_row _ _ _ _ _ _ HNW.out).trans rfl
        have HLT := Lib.hid (show wr.heap.size < (wr.alloc (.cells #[.string ⟨p.toArray⟩, .int .i64 md, .string ⟨dt.toArray⟩] 33)).heap.size by simp)
        clear hbw hel hfr hne
        go_wp2_with fail
        generalize wr.alloc (.cells #[.string ⟨p.toArray⟩, .int .i64 md, .string ⟨dt.toArray⟩] 33) = w3 at *
        generalize wr.heap.size = nb at *
        refine (WA.out w3 HB3.out).mono ?_
        rintro e w4 ⟨rfl, hb4⟩
        have HO4 := Lib.hid (HO3.out.new hb4)
        have HB4 := Lib.hid (HB3.out.trans (hb4.mono (Nat.le_trans HBA.out HB3.out.size)))
        have d0 := (hb4.cell (p := ⟨nb, 0, none⟩) HLT.out).trans b0
        have d1 := (hb4.cell (p := ⟨nb, 1, none⟩) HLT.out).trans b1
        have d2 := (hb4.cell (p := ⟨nb, 2, none⟩) HLT.out).trans b2
        clear hb4 HO3 HB3 b0 b1 b2 c0 c1 c2 WA HO HB HNW
        cases wx with
        | true =>
          have HTN := Lib.hid (show ys.take i = (xs.take (j + 1)).filter (fun x => !want x) by rw [HF.out, HT.out]; simp)
          clear HF HT
          go_wp2_with fail
          go_roundw
          case rel => exact ⟨i, j + 1, ys, rfl, by go_num, by omega, by omega, HYL.out, HO4.out, HTN, HDN, HB4.out⟩
          case measure => simp [intOf]; omega
        | false =>
          have HTN := Lib.hid (show (ys.set i ⟨p, md, dt⟩).take (i + 1) = (xs.take (j + 1)).filter (fun x => !want x) by rw [HF.out, HST.out, HT.out]; simp)
          have PF := Lib.hid (HSET.out w4 HO4.out)
          have HB5 := Lib.hid (HB4.out.trans (PF.out.2.below (Nat.le_trans HBA.out HB4.out.size) (fun k e => by have := HGB.out; omega)))
          obtain ⟨_, _, hv, _, _, _, hel, hfr⟩ := OwnN.at encF_ok HO4.out (show ys ≠ [] from fun h => by rw [h] at hiy; simp at hiy)
          injection hv with e1 e2 e3
          injection e1 with e1
          injection e1 with e1
          subst e1
          clear e2 e3
          have c0 := (hel i hiy).f0
          have c1 := (hel i hiy).f1
          have c2 := (hel i hiy).f2
          have f0 := hfr (i * 3)
          have f1 := hfr (i * 3 + 1)
          have f2 := hfr (i * 3 + 2)
          clear hel hfr HF HT HST HSET
          generalize ys[i] = old at *
          go_wp2_with fail
          generalize ((w4.setCell ⟨g, i * 3, none⟩ (.string ⟨p.toArray⟩)).setCell ⟨g, i * 3 + 1, none⟩ (.int .i64 md)).setCell ⟨g, i * 3 + 2, none⟩ (.string ⟨dt.toArray⟩) = w5 at *
          go_roundw
          case rel => exact ⟨i + 1, j + 1, _, by go_num, by go_num, by omega, by omega, HSL.out, PF.out.1, HTN, HSD, HB5.out⟩
          case measure => simp [intOf]; omega
      · obtain rfl : j = xs.length := by omega
        have j1 : ¬ (xs.length : Int) < (xs.length : Int) := by omega
        have HTF := Lib.hid (show ys.take i = xs.filter (fun x => !want x) by rw [HT.out, List.take_of_length_le (Nat.le_refl _)])
        have HLI := Lib.hid (show (xs.filter (fun x => !want x)).length = i by rw [← HTF.out, List.length_take, HYL.out]; omega)
        have HIN := Lib.hid (show i ≤ ys.length by rw [HYL.out]; omega)
        obtain ⟨vs, hcl, _⟩ := run_clearN (P := Tryd.prog) wr 22 33 (.agg #[.string ByteArray.empty, .int .i64 0, .string ByteArray.empty]) Tryd.underlying22 (fun w => by kernel_rfl) (by decide) g (i * 3) (xs.length - i) (c - i) (by omega)
          (fun j hj => by
            have hj' : j < (xs.length - i) * 3 := hj
            have hm : (i * 3 + j) / 3 < ys.length := by rw [HYL.out]; omega
            have hx := hel ((i * 3 + j) / 3) hm
            have hr : (i * 3 + j) % 3 < 3 := Nat.mod_lt _ (by decide)
            have he : (i * 3 + j) / 3 * 3 + (i * 3 + j) % 3 = i * 3 + j := by omega
            rcases (show (i * 3 + j) % 3 = 0 ∨ (i * 3 + j) % 3 = 1 ∨ (i * 3 + j) % 3 = 2 by omega) with h | h | h
            · have := hx.f0; rw [h] at he; rw [← he]; rw [Nat.add_zero]; rw [this]; rfl
            · have := hx.f1; rw [h] at he; rw [← he, this]; rfl
            · have := hx.f2; rw [h] at he; rw [← he, this]; rfl)
          (fun j _ => hfr _)
        have HRW := Lib.hid (own_tail HO.out i HIN.out vs)
        have HB6 := Lib.hid (HB.out.trans (below_cellsI HGB.out vs (i * 3) wr))
        clear hel hfr HT HD
        go_wp2_with fail
        go_ret
        rw [HTF.out] at HRW
        rw [HLI.out]
        exact ⟨_, _, rfl, HRW.out, HB6.out⟩
end Go.Proofs.YtfgimhgkjodcgaaDoor
/- Landed image: Drop, walked. -/
set_option linter.unusedVariables false
namespace Go.Proofs.YtfgimhgkjodcgaaDoor
open Go.RowKit

set_option maxRecDepth 100000 in
set_option maxHeartbeats 1000000 in
theorem dropPred_any (bx : Nat) (q : Txt) (x : FileD) (w : World) (hb : w.cell? ⟨bx, 0, none⟩ = some (.string ⟨q.toArray⟩)) (hx : FileOk x) (hq : q.length ≤ 140737488351232) :
    Calls Tryd.prog 44 (#[.agg #[.string ⟨x.path.toArray⟩, .int .i64 x.mode, .string ⟨x.data.toArray⟩]] ++ #[.pointer (some ⟨bx, 0, none⟩)]) w fun e w' => e = .returned (.bool ((x.path == q) || withinS x.path q)) ∧ Below w.heap.size w w' := by
  have hpl := hx.p
  obtain ⟨p, m, d⟩ := x
  dsimp only at hpl ⊢
  have WI := fun w' => Lib.hid (within_any p q w' hpl hq)
  have hbw := (Below.refl w.heap.size w).alloc (Nat.le_refl _) (.cells #[.string ⟨p.toArray⟩, .int .i64 m, .string ⟨d.toArray⟩] 33)
  have HBW := Lib.hid hbw
  have b0 := (hbw.cell (p := ⟨bx, 0, none⟩) (World.block_lt_of_cell? w _ hb)).trans hb
  have c0 := (cell_of_row _ _ 0 _ _ _ (heap_alloc_new w (.cells #[.string ⟨p.toArray⟩, .int .i64 m, .string ⟨d.toArray⟩] 33))).trans (show _ = some (Value.string ⟨p.toArray⟩) from rfl)
  generalize withinS p q = wi at *
  obtain ⟨bq, hbq⟩ : ∃ bq, (p == q) = bq := ⟨_, rfl⟩
  rw [hbq]
  clear hbw hx
  cases bq with
  | true =>
    go_enter Tryd.func44, Tryd.ntmps44
    go_wp2_with fail
    go_ret
    exact ⟨rfl, HBW.out⟩
  | false =>
    go_enter Tryd.func44, Tryd.ntmps44
    go_wp2_with fail
    refine (WI _).out.mono ?_
    rintro e w2 ⟨rfl, rfl⟩
    go_wp2_with fail
    go_ret
    exact ⟨rfl, HBW.out⟩
set_option maxRecDepth 100000 in
set_option maxHeartbeats 2000000 in
theorem iDrop_any (s q : Txt) (w : World) (hs : s.length ≤ 1000000) (hq : q.length ≤ 140737488351232) :
    Calls Tryd.prog 22 #[.string ⟨s.toArray⟩, .string ⟨q.toArray⟩] w fun e w' => e = .returned (.tuple #[.string ⟨(dropS s q).1.toArray⟩, .int .i64 (dropS s q).2]) ∧ Below w.heap.size w w' := by
  have hbw := (Below.refl w.heap.size w).alloc (Nat.le_refl _) (.cells #[.string ⟨q.toArray⟩] 9)
  have hb := (cell_of_row _ _ 0 _ _ _ (heap_alloc_new w (.cells #[.string ⟨q.toArray⟩] 9))).trans (show _ = some (Value.string ⟨q.toArray⟩) from rfl)
  have HLT := Lib.hid (show w.heap.size < (w.alloc (.cells #[.string ⟨q.toArray⟩] 9)).heap.size by simp)
  have TR := Lib.hid (iTreeO_any s (w.alloc (.cells #[.string ⟨q.toArray⟩] 9)) hs)
  obtain ⟨hok, hll⟩ := treeS_ok s
  have HOK := Lib.hid hok
  have HP0 := Lib.hid (show dropS s q = if (treeS s).2 ≠ 0 then ([], (treeS s).2) else if ((treeS s).1.filter (fun x : FileD => !(x.path == q) && !withinS x.path q)).length = (treeS s).1.length then ([], 8) else imgS ((treeS s).1.filter (fun x : FileD => !(x.path == q) && !withinS x.path q)) from rfl)
  have HFF := Lib.hid (show (fun x : FileD => !(x.path == q) && !withinS x.path q) = fun x : FileD => !((x.path == q) || withinS x.path q) by funext x; rw [Bool.not_or])
  rw [HFF.out] at HP0
  generalize dropS s q = res at *
  generalize treeS s = T at *
  obtain ⟨l, te⟩ := T
  dsimp only at TR hll HP0 HOK
  have HBW := Lib.hid hbw
  have HB := Lib.hid hb
  clear hok HFF hbw hb
  go_enter Tryd.func22, Tryd.ntmps22
  go_wp2_with fail
  generalize w.alloc (.cells #[.string ⟨q.toArray⟩] 9) = w1 at *
  refine TR.out.mono ?_
  rintro e w2 ⟨v2, rfl, hr2, hb2⟩
  obtain ⟨va, vm, vc, hv⟩ := own_slice hr2
  subst hv
  have hvm : vm = l.length := by
    rcases hr2.2 with ⟨h', hn⟩ | ⟨g', cap', cur, h', _⟩
    · simp at h'; omega
    · simp at h'; exact h'.2.1
  have HO := Lib.hid hr2
  have HB2 := Lib.hid (HBW.out.trans (hb2.mono HBW.out.size))
  have HS := Lib.hid hb2.size
  have HBX := Lib.hid ((hb2.cell (p := ⟨w.heap.size, 0, none⟩) HLT.out).trans HB.out)
  clear hr2 hb2 TR HB
  by_cases hte : te = 0
  · have q1 : (te != 0) = false := by simp [hte]
    rw [if_neg (fun k => k hte)] at HP0
    have DF := Lib.hid (deleteFunc_any 44 #[.pointer (some ⟨w.heap.size, 0, none⟩)] (fun x => (x.path == q) || withinS x.path q) _ l w2 w1.heap.size (enters_of Tryd.func44 (by kernel_rfl) rfl)
      (fun x hx w' hb' => dropPred_any w.heap.size q x w' ((hb'.cell (p := ⟨w.heap.size, 0, none⟩) HLT.out).trans HBX.out) (HOK.out x hx) hq) HO.out HS.out (by omega))
    have HOUT := Lib.hid (fun x (hx : x ∈ l.filter (fun x : FileD => !((x.path == q) || withinS x.path q))) => HOK.out x (List.mem_filter.1 hx).1)
    have hfl : (l.filter (fun x : FileD => !((x.path == q) || withinS x.path q))).length ≤ l.length := List.length_filter_le _ _
    generalize l.filter (fun x : FileD => !((x.path == q) || withinS x.path q)) = out at *
    have HVM := Lib.hid hvm
    clear hte hvm
    go_wp2_with fail
    refine DF.out.mono ?_
    rintro e w3 ⟨a3, c3, rfl, hr3, hb3⟩
    have HR3 := Lib.hid hr3
    have HB3 := Lib.hid (HB2.out.trans (hb3.mono HBW.out.size))
    clear hr3 hb3 DF
    by_cases hn : out.length = l.length
    · have q3 : ((out.length : Int) == (vm : Int)) = true := by rw [HVM.out, hn]; simp
      have HR := Lib.hid (show res = ([], 8) by rw [HP0.out, if_pos hn])
      clear hn
      go_wp2_with fail
      go_ret2
      exact ⟨by rw [HR.out]; rfl, HB3.out⟩
    · have q3 : ((out.length : Int) == (vm : Int)) = false := by rw [HVM.out, beq_eq_false_iff_ne]; omega
      have HR := Lib.hid (show res = imgS out by rw [HP0.out, if_neg hn])
      have IM := Lib.hid (iOf_any _ out w3 HR3.out HOUT.out (by omega))
      rw [← HR.out] at IM
      clear hn
      go_wp2_with fail
      refine IM.out.mono ?_
      rintro e w4 ⟨rfl, hb4⟩
      have HB4 := Lib.hid (HB3.out.trans (hb4.mono HB3.out.size))
      go_wp2_with fail
      go_ret2
      exact ⟨rfl, HB4.out⟩
  · have q1 : (te != 0) = true := by simp [hte]
    have HR := Lib.hid (show res = ([], te) by rw [HP0.out, if_pos hte])
    clear HP0 hte
    go_wp2_with fail
    go_ret2
    exact ⟨by rw [HR.out]; rfl, HB2.out⟩
end Go.Proofs.YtfgimhgkjodcgaaDoor

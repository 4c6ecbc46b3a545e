/- Several texts in one: RefPutIW, RefDropIW, RefFindW, RefMergeW. -/
import Derived.Test.YtfgimhgkjodcgaaDoorArgTree
import Derived.Test.YtfgimhgkjodcgaaDoorArgs3
import Derived.Test.YtfgimhgkjodcgaaDoorFrame
import Derived.Test.YtfgimhgkjodcgaaDoorGen
import Derived.Test.YtfgimhgkjodcgaaDoorImgMath
import Derived.Test.YtfgimhgkjodcgaaDoorMarkMath
import Derived.Test.YtfgimhgkjodcgaaDoorOwnL
import Derived.Test.YtfgimhgkjodcgaaDoorQuietBelow
import Derived.Test.YtfgimhgkjodcgaaDoorReadW
import Derived.Test.YtfgimhgkjodcgaaDoorCkX
import Derived.Test.YtfgimhgkjodcgaaDoorRefImgW
import Derived.Test.YtfgimhgkjodcgaaDoorRefSortW
import Derived.Test.YtfgimhgkjodcgaaDoorTrX
import Derived.Test.YtfgimhgkjodcgaaDoorRowN
import Derived.Test.YtfgimhgkjodcgaaDoorRows
import Derived.Test.YtfgimhgkjodcgaaDoorTreeMath
import Derived.BigQuiet
import Derived.Deep.Cut
import Derived.Deep.CutBlock
import Derived.Deep.CutRange
import Derived.Deep.DeepCutAuto
import Derived.Deep.QuietTactic
import Derived.Lib.Hide
import Derived.WalkKit
import Derived.WalkLawsBesides
import Derived.WalkSpells
import Derived.Test.YtfgimhgkjodcgaaDoorRefOrdW
import Derived.Deep.Slices
import Derived.Deep.Strs
import Derived.Lib.SmallJoins
import Derived.Test.YtfgimhgkjodcgaaDoorRefReadW
import Derived.BigRegion
import Derived.Deep.Draws
import Derived.Laws.Bits128
import Derived.Laws.IdiomStrings
import Derived.Laws.ResultCell
import Derived.Lib.AppendStr
/- The document's Put and Drop of an image. -/
set_option linter.unusedVariables false
namespace Go.Proofs.YtfgimhgkjodcgaaDoor
open Go.RowKit

theorem insS_mem (x : FileD) : ∀ (l : List FileD) (y : FileD), y ∈ insS x l → y = x ∨ y ∈ l
  | [], y, h => by simpa [insS] using h
  | z :: r, y, h => by
    unfold insS at h
    split at h
    · simpa using h
    · rcases List.mem_cons.1 h with h | h
      · exact .inr (by simp [h])
      · rcases insS_mem x r y h with h | h
        · exact .inl h
        · exact .inr (by simp [h])
def putS (s : Txt) (f : FileD) : Txt × Int := if (treeS s).2 ≠ 0 then ([], (treeS s).2) else imgS (sortS ((treeS s).1.filter (fun x => !(x.path == f.path)) ++ [f]))
theorem file_box0 {w : World} {b : Nat} {pt dt : Txt} {md : Int} (h : w.heap[b]? = some (.cells #[.string ⟨pt.toArray⟩, .int .i64 md, .string ⟨dt.toArray⟩] 33 (0, 0))) :
    w.cell? ⟨b, 0, none⟩ = some (.string ⟨pt.toArray⟩) ∧ w.cell? ⟨b, 1, none⟩ = some (.int .i64 md) ∧ w.cell? ⟨b, 2, none⟩ = some (.string ⟨dt.toArray⟩) :=
  ⟨by rw [cell_of_row _ _ _ _ _ _ h]; rfl, by rw [cell_of_row _ _ _ _ _ _ h]; rfl, by rw [cell_of_row _ _ _ _ _ _ h]; rfl⟩
theorem filter_take {α : Type} (q : α → Bool) (l : List α) (i : Nat) (h : i < l.length) : (l.take (i + 1)).filter q = (l.take i).filter q ++ (if q l[i] then [l[i]] else []) := by
  rw [List.take_succ_eq_append_getElem h, List.filter_append]
  congr 1
  by_cases hq : q l[i] = true
  · rw [if_pos hq]; simp [hq]
  · rw [if_neg hq]; simp [hq]
set_option maxRecDepth 100000 in
set_option maxHeartbeats 2000000 in
theorem refPutI_any (s : Txt) (f : FileD) (w : World) (hs : s.length ≤ 1000000) (hf : FileOk f) (hso : ∀ l : List FileD, ∀ x ∈ sortS l, x ∈ l) (hsl : ∀ l : List FileD, (sortS l).length = l.length) :
    Calls Tryd.prog 21 #[.string ⟨s.toArray⟩, .agg #[.string ⟨f.path.toArray⟩, .int .i64 f.mode, .string ⟨f.data.toArray⟩]] w fun e w' => e = .returned (.tuple #[.string ⟨(putS s f).1.toArray⟩, .int .i64 (putS s f).2]) ∧ Below w.heap.size w w' := by
  have TR := Lib.hid (fun w' => refTreeI_any s w' hs)
  obtain ⟨hok, hll⟩ := treeS_ok s
  have HOK := Lib.hid hok
  have HP0 := Lib.hid (show putS s f = if (treeS s).2 ≠ 0 then ([], (treeS s).2) else imgS (sortS ((treeS s).1.filter (fun x => !(x.path == f.path)) ++ [f])) from rfl)
  generalize putS s f = res at *
  generalize treeS s = T at *
  obtain ⟨l, te⟩ := T
  dsimp only at TR hll HP0 HOK
  clear hok
  obtain ⟨q, fm, fd⟩ := f
  have HB0 := Lib.hid (heap_alloc_new w (.cells #[.string ⟨q.toArray⟩, .int .i64 fm, .string ⟨fd.toArray⟩] 33))
  have hbw : Below w.heap.size w (w.alloc (.cells #[.string ⟨q.toArray⟩, .int .i64 fm, .string ⟨fd.toArray⟩] 33)) := (Below.refl _ _).alloc (Nat.le_refl _) _
  have HBW := Lib.hid hbw
  dsimp only at HP0 ⊢
  clear hbw
  go_enter Tryd.func21, Tryd.ntmps21
  go_wp2_with fail
  refine (TR.out _).mono ?_
  rintro e w2 ⟨v2, rfl, hr2, hb2⟩
  obtain ⟨va, vc, rfl, _⟩ := hr2.slice
  have HROW := Lib.hid hr2
  have HBX := Lib.hid ((Kept.new hb2 (fun _ => False)).old HB0.out id)
  have HB2 := Lib.hid (HBW.out.trans (hb2.mono HBW.out.size))
  have hlt2 : w.heap.size < w2.heap.size := (Array.getElem?_eq_some_iff.1 HBX.out).1
  clear hr2 hb2 TR HB0 HBW
  by_cases hte : te = 0
  · have q1 : (te != 0) = false := by simp [hte]
    have HP := Lib.hid (show res = imgS (sortS (l.filter (fun x => !(x.path == q)) ++ [⟨q, fm, fd⟩])) by rw [HP0.out, if_neg (fun k => k hte)])
    clear HP0 hte
    go_wp2_with fail
    go_loopw [8, 9] (fun v8 v9 wr => ∃ (i : Nat), i ≤ l.length ∧ v9 = .int .i64 i ∧ OwnN encF 3 wr w2.heap.size 33 v8 ((l.take i).filter (fun x => !(x.path == q))) ∧ Below w2.heap.size w2 wr) (fun _ v9 _ => l.length - (intOf v9).toNat)
    case atStart => exact ⟨0, by omega, rfl, OwnN.nil _ _ _ _ _, Below.refl _ _⟩
    case round =>
      obtain ⟨i, hi, rfl, hown, hbel⟩ := hrel
      have HO := Lib.hid hown
      have HB := Lib.hid hbel
      clear hown hbel
      have i0 : (0 : Int) ≤ (i : Int) := by omega
      obtain ⟨b0, b1, b2⟩ := file_box0 ((Kept.new HB.out (fun _ => False)).old HBX.out id)
      have hws := HB.out.size
      obtain ⟨oa, om, oc, hv8⟩ := own_slice HO.out
      subst hv8
      have hcl : ((l.take i).filter (fun x => !(x.path == q))).length ≤ 256 := by have := List.length_filter_le (fun x : FileD => !(x.path == q)) (l.take i); rw [List.length_take] at this; omega
      by_cases hlt : i < l.length
      · have j1 : (i : Int) < (l.length : Int) := by omega
        obtain ⟨g, o, rfl, hel⟩ := HROW.out.el hlt
        have hel1 := (hel i hlt).new HB.out
        have HT := Lib.hid (filter_take (fun x => !(x.path == q)) l i hlt)
        clear hel
        generalize l[i] = x at *
        obtain ⟨p, m, d⟩ := x
        have c0 := hel1.f0
        dsimp only at HT c0
        obtain ⟨bq, hbq⟩ : ∃ bq, (p == q) = bq := ⟨_, rfl⟩
        have hne : (p != q) = !bq := by rw [← hbq]; rfl
        rw [hbq] at HT
        generalize (l.take i).filter (fun x => !(x.path == q)) = out at *
        go_wp2_with fail
        have A0 := below_cell c0
        have A1 := below_cell b0
        refine wp_region_below (by kernel_rfl) (by kernel_rfl) ?_
        repeat (go_big_quiet_step (fail))
        refine wpQuiet_nil ?_
        rintro w8 ⟨⟨w8b, hb8⟩, e8⟩
        have e8' : w8 = w8b := e8
        clear e8
        subst e8'
        have HB8 := Lib.hid (HB.out.trans (hb8.mono HB.out.size))
        have HO8 := Lib.hid (HO.out.new hb8)
        have hel8 := hel1.new hb8
        have c0 := hel8.f0
        have c1 := hel8.f1
        have c2 := hel8.f2
        have hws8 := HB8.out.size
        dsimp only at c0 c1 c2
        clear A0 A1 hb8 hel1 hel8 HB HO b0 b1 b2
        cases bq with
        | true =>
          go_wp2_with fail
          go_roundw
          case rel => exact ⟨i + 1, by omega, by go_num, by rw [HT.out]; simp; exact HO8.out, HB8.out⟩
          case measure => simp [intOf]; omega
        | false =>
          go_wp2_with (at_builtin; go_loud (refine append_new (enc := encF) (k := 3) (w := w8) (by rfl) (.tmp 32) (.tmp 37) 22 33 (.agg #[.string ByteArray.empty, .int .i64 0, .string ByteArray.empty]) 40 (by rfl) Tryd.underlying22 info_file (by rfl) (by decide) encF_ok w2.heap.size _ out ⟨p, m, d⟩ (by rfl) HO8.out (by rfl) (by omega) (by unfold maxLen; omega) hws8 _ (by rfl) ?_; intro v7 w7 hown7 ht7; obtain ⟨va7, vm7, vc7, rfl⟩ := own_slice hown7; have HO7 := Lib.hid hown7; have HB7 := Lib.hid (HB8.out.trans ht7.bel); clear hown7 ht7))
          go_roundw
          case rel => exact ⟨i + 1, by omega, by go_num, by rw [HT.out]; simp; exact HO7.out, HB7.out⟩
          case measure => simp [intOf]; omega
      · obtain rfl : i = l.length := by omega
        have j1 : ¬ (l.length : Int) < (l.length : Int) := by omega
        rw [List.take_of_length_le (Nat.le_refl _)] at HO hcl
        have HOUT := Lib.hid (fun x (hx : x ∈ l.filter (fun x => !(x.path == q))) => HOK.out x (List.mem_filter.1 hx).1)
        generalize l.filter (fun x => !(x.path == q)) = out at *
        go_wp2_with (at_builtin; go_loud (refine append_new (enc := encF) (k := 3) (w := wr) (by rfl) (.tmp 39) (.tmp 41) 22 33 (.agg #[.string ByteArray.empty, .int .i64 0, .string ByteArray.empty]) 40 (by rfl) Tryd.underlying22 info_file (by rfl) (by decide) encF_ok w2.heap.size _ out ⟨q, fm, fd⟩ (by rfl) HO.out (by rfl) (by omega) (by unfold maxLen; omega) hws _ (by rfl) ?_; intro v7 w7 hown7 ht7; obtain ⟨va7, vm7, vc7, rfl⟩ := own_slice hown7; have HO7 := Lib.hid hown7; have HB7 := Lib.hid (HB.out.trans ht7.bel); clear hown7 ht7))
        have hall : ∀ x ∈ out ++ [(⟨q, fm, fd⟩ : FileD)], FileOk x := fun x hx => by
          rcases List.mem_append.1 hx with hx | hx
          · exact HOUT.out x hx
          · rw [List.mem_singleton.1 hx]; exact hf
        have hal : (out ++ [(⟨q, fm, fd⟩ : FileD)]).length ≤ 257 := by rw [List.length_append]; simp; omega
        have ST := Lib.hid (refSort_any _ (out ++ [⟨q, fm, fd⟩]) w7 ((OwnN.row encF_ok HO7.out).mono (fun _ _ => trivial)) hall (by omega))
        have HSO := Lib.hid (show ∀ x ∈ sortS (out ++ [⟨q, fm, fd⟩]), FileOk x from fun x hx => hall x (hso _ x hx))
        have HSL := Lib.hid (hsl (out ++ [⟨q, fm, fd⟩]))
        refine ST.out.mono ?_
        rintro e w9 ⟨v9, rfl, hown9, hb9⟩
        obtain ⟨va9, vm9, vc9, rfl⟩ := own_slice hown9
        have IM := Lib.hid (refImgOf_any _ (sortS (out ++ [⟨q, fm, fd⟩])) w9 ((OwnN.row encF_ok hown9).mono (fun _ _ => trivial)) HSO.out (by rw [HSL.out]; omega))
        have HB9 := Lib.hid (HB7.out.trans (hb9.mono HB7.out.size))
        rw [← HP.out] at IM
        clear hown9 hb9
        go_wp2_with fail
        refine IM.out.mono ?_
        rintro e w10 ⟨rfl, hb10⟩
        have HB10 := Lib.hid (HB9.out.trans (hb10.mono HB9.out.size))
        go_wp2_with fail
        go_ret2
        exact ⟨rfl, HB2.out.trans (HB10.out.mono HB2.out.size)⟩
  · have q1 : (te != 0) = true := by simp [hte]
    have HR := Lib.hid (show res = ([], te) by rw [HP0.out, if_pos hte])
    clear HP0 hte
    go_wp2_with fail
    go_ret2
    exact ⟨by rw [HR.out]; rfl, HB2.out⟩
end Go.Proofs.YtfgimhgkjodcgaaDoor
/- The document's Drop of an image. -/
set_option linter.unusedVariables false
namespace Go.Proofs.YtfgimhgkjodcgaaDoor
open Go.RowKit

theorem sortF_mem : ∀ (l acc : List FileD) (x : FileD), x ∈ l.foldl (fun acc x => insS x acc) acc → x ∈ l ∨ x ∈ acc
  | [], acc, x, h => .inr h
  | y :: r, acc, x, h => by
    rcases sortF_mem r (insS y acc) x h with h | h
    · exact .inl (by simp [h])
    · rcases insS_mem y acc x h with h | h
      · exact .inl (by simp [h])
      · exact .inr h
theorem sortF_len : ∀ (l acc : List FileD), (l.foldl (fun acc x => insS x acc) acc).length = l.length + acc.length
  | [], acc => by simp
  | y :: r, acc => by
    show (r.foldl (fun acc x => insS x acc) (insS y acc)).length = _
    rw [sortF_len r, insS_len, List.length_cons]
    omega
theorem sortI_mem (l : List FileD) : ∀ x ∈ sortS l, x ∈ l := fun x h => by
  rcases sortF_mem l [] x h with h | h
  · exact h
  · cases h
theorem sortI_len (l : List FileD) : (sortS l).length = l.length := by
  have := sortF_len l []
  rw [List.length_nil, Nat.add_zero] at this
  exact this
def dropS (s q : Txt) : Txt × Int := if (treeS s).2 ≠ 0 then ([], (treeS s).2) else if ((treeS s).1.filter (fun x : FileD => !(x.path == q) && !withinS x.path q)).length = (treeS s).1.length then ([], 8) else imgS ((treeS s).1.filter (fun x : FileD => !(x.path == q) && !withinS x.path q))
set_option maxRecDepth 100000 in
set_option maxHeartbeats 2000000 in
theorem refDropI_any (s q : Txt) (w : World) (hs : s.length ≤ 1000000) (hq : q.length ≤ 140737488351232) :
    Calls Tryd.prog 23 #[.string ⟨s.toArray⟩, .string ⟨q.toArray⟩] w fun e w' => e = .returned (.tuple #[.string ⟨(dropS s q).1.toArray⟩, .int .i64 (dropS s q).2]) ∧ Below w.heap.size w w' := by
  have TR := Lib.hid (fun w' => refTreeI_any s w' hs)
  obtain ⟨hok, hll⟩ := treeS_ok s
  have HOK := Lib.hid hok
  have HP0 := Lib.hid (show dropS s q = if (treeS s).2 ≠ 0 then ([], (treeS s).2) else if ((treeS s).1.filter (fun x : FileD => !(x.path == q) && !withinS x.path q)).length = (treeS s).1.length then ([], 8) else imgS ((treeS s).1.filter (fun x : FileD => !(x.path == q) && !withinS x.path q)) from rfl)
  generalize dropS s q = res at *
  generalize treeS s = T at *
  obtain ⟨l, te⟩ := T
  dsimp only at TR hll HP0 HOK
  clear hok
  go_enter Tryd.func23, Tryd.ntmps23
  go_wp2_with fail
  refine (TR.out _).mono ?_
  rintro e w2 ⟨v2, rfl, hr2, hb2⟩
  obtain ⟨va, vc, rfl, _⟩ := hr2.slice
  have HROW := Lib.hid hr2
  have HB2 := Lib.hid hb2
  clear hr2 hb2 TR
  by_cases hte : te = 0
  · have q1 : (te != 0) = false := by simp [hte]
    have HP := Lib.hid (show res = if (l.filter (fun x : FileD => !(x.path == q) && !withinS x.path q)).length = l.length then ([], 8) else imgS (l.filter (fun x : FileD => !(x.path == q) && !withinS x.path q)) by rw [HP0.out, if_neg (fun k => k hte)])
    clear HP0 hte
    go_wp2_with fail
    go_loopw [8, 9] (fun v8 v9 wr => ∃ (i : Nat), i ≤ l.length ∧ v9 = .int .i64 i ∧ OwnN encF 3 wr w2.heap.size 33 v8 ((l.take i).filter (fun x : FileD => !(x.path == q) && !withinS x.path q)) ∧ Below w2.heap.size w2 wr) (fun _ v9 _ => l.length - (intOf v9).toNat)
    case atStart => exact ⟨0, by omega, rfl, OwnN.nil _ _ _ _ _, Below.refl _ _⟩
    case round =>
      obtain ⟨i, hi, rfl, hown, hbel⟩ := hrel
      have HO := Lib.hid hown
      have HB := Lib.hid hbel
      clear hown hbel
      have i0 : (0 : Int) ≤ (i : Int) := by omega
      have hws := HB.out.size
      obtain ⟨oa, om, oc, hv8⟩ := own_slice HO.out
      subst hv8
      have hcl : ((l.take i).filter (fun x : FileD => !(x.path == q) && !withinS x.path q)).length ≤ 256 := by have := List.length_filter_le (fun x : FileD => !(x.path == q) && !withinS x.path q) (l.take i); rw [List.length_take] at this; omega
      by_cases hlt : i < l.length
      · have j1 : (i : Int) < (l.length : Int) := by omega
        obtain ⟨g, o, rfl, hel⟩ := HROW.out.el hlt
        have hel1 := (hel i hlt).new HB.out
        have HT := Lib.hid (filter_take (fun x : FileD => !(x.path == q) && !withinS x.path q) l i hlt)
        have hpl := (HOK.out l[i] (List.getElem_mem hlt)).p
        clear hel
        generalize l[i] = x at *
        obtain ⟨p, m, d⟩ := x
        have c0 := hel1.f0
        dsimp only at HT c0 hpl
        have WI := fun w' => Lib.hid (refWithin_any p q w' hpl hq)
        obtain ⟨bq, hbq⟩ : ∃ bq, (p == q) = bq := ⟨_, rfl⟩
        have hne : (p != q) = !bq := by rw [← hbq]; rfl
        rw [hbq] at HT
        obtain ⟨wi, hwi⟩ : ∃ wi, withinS p q = wi := ⟨_, rfl⟩
        rw [hwi] at HT WI
        clear hwi
        generalize (l.take i).filter (fun x : FileD => !(x.path == q) && !withinS x.path q) = out at *
        cases bq with
        | true =>
          have c1 := hel1.f1
          have c2 := hel1.f2
          dsimp only at c1 c2
          clear hel1
          go_wp2_with fail
          go_roundw
          case rel => exact ⟨i + 1, by omega, by go_num, by rw [HT.out]; simp; exact HO.out, HB.out⟩
          case measure => simp [intOf]; omega
        | false =>
          cases wi with
          | true =>
            have c1 := hel1.f1
            have c2 := hel1.f2
            dsimp only at c1 c2
            clear hel1
            go_wp2_with fail
            refine (WI _).out.mono ?_
            rintro e w8 ⟨rfl, rfl⟩
            go_wp2_with fail
            go_roundw
            case rel => exact ⟨i + 1, by omega, by go_num, by rw [HT.out]; simp; exact HO.out, HB.out⟩
            case measure => simp [intOf]; omega
          | false =>
            have c1 := hel1.f1
            have c2 := hel1.f2
            dsimp only at c1 c2
            clear hel1
            go_wp2_with fail
            refine (WI _).out.mono ?_
            rintro e w8 ⟨rfl, rfl⟩
            go_wp2_with (at_builtin; go_loud (refine append_new (enc := encF) (k := 3) (w := wr) (by rfl) (.tmp 41) (.tmp 46) 22 33 (.agg #[.string ByteArray.empty, .int .i64 0, .string ByteArray.empty]) 40 (by rfl) Tryd.underlying22 info_file (by rfl) (by decide) encF_ok w2.heap.size _ out ⟨p, m, d⟩ (by rfl) HO.out (by rfl) (by omega) (by unfold maxLen; omega) hws _ (by rfl) ?_; intro v7 w7 hown7 ht7; obtain ⟨va7, vm7, vc7, rfl⟩ := own_slice hown7; have HO7 := Lib.hid hown7; have HB7 := Lib.hid (HB.out.trans ht7.bel); clear hown7 ht7))
            go_roundw
            case rel => exact ⟨i + 1, by omega, by go_num, by rw [HT.out]; simp; exact HO7.out, HB7.out⟩
            case measure => simp [intOf]; omega
      · obtain rfl : i = l.length := by omega
        have j1 : ¬ (l.length : Int) < (l.length : Int) := by omega
        rw [List.take_of_length_le (Nat.le_refl _)] at HO hcl
        have HOUT := Lib.hid (fun x (hx : x ∈ l.filter (fun x : FileD => !(x.path == q) && !withinS x.path q)) => HOK.out x (List.mem_filter.1 hx).1)
        have hom : om = (l.filter (fun x : FileD => !(x.path == q) && !withinS x.path q)).length := own_lenV HO.out
        subst hom
        generalize l.filter (fun x : FileD => !(x.path == q) && !withinS x.path q) = out at *
        by_cases hn : out.length = l.length
        · have q3 : ((out.length : Int) == (l.length : Int)) = true := by simp [hn]
          have HR := Lib.hid (show res = ([], 8) by rw [HP.out, if_pos hn])
          clear HP
          go_wp2_with fail
          go_ret2
          exact ⟨by rw [HR.out]; rfl, HB2.out.trans (HB.out.mono HB2.out.size)⟩
        · have q3 : ((out.length : Int) == (l.length : Int)) = false := by rw [beq_eq_false_iff_ne]; omega
          have HR := Lib.hid (show res = imgS out by rw [HP.out, if_neg hn])
          have IM := Lib.hid (refImgOf_any _ out wr ((OwnN.row encF_ok HO.out).mono (fun _ _ => trivial)) HOUT.out (by omega))
          rw [← HR.out] at IM
          clear HP
          go_wp2_with fail
          refine IM.out.mono ?_
          rintro e w10 ⟨rfl, hb10⟩
          have HB10 := Lib.hid (HB.out.trans (hb10.mono HB.out.size))
          go_wp2_with fail
          go_ret2
          exact ⟨rfl, HB2.out.trans (HB10.out.mono HB2.out.size)⟩
  · have q1 : (te != 0) = true := by simp [hte]
    have HR := Lib.hid (show res = ([], te) by rw [HP0.out, if_pos hte])
    clear HP0 hte
    go_wp2_with fail
    go_ret2
    exact ⟨by rw [HR.out]; rfl, HB2.out⟩
end Go.Proofs.YtfgimhgkjodcgaaDoor
/- The document's Find (tree) and like (image). -/
set_option linter.unusedVariables false
namespace Go.Proofs.YtfgimhgkjodcgaaDoor
open Go.RowKit

/-- The first place of a path, or -1. -/
def findN : List FileD → Txt → Nat → Int
  | [], _, _ => -1
  | x :: r, p, i => if (x.path == p) = true then (i : Int) else findN r p (i + 1)
def findT (l : List FileD) (p : Txt) : Int := findN l p 0
theorem findN_range : ∀ (l : List FileD) (p : Txt) (i : Nat), findN l p i = -1 ∨ ∃ k : Nat, findN l p i = ((i + k : Nat) : Int) ∧ k < l.length
  | [], _, _ => .inl rfl
  | x :: r, p, i => by
    unfold findN
    by_cases h : (x.path == p) = true
    · rw [if_pos h]; exact .inr ⟨0, by simp, by simp⟩
    · rw [if_neg h]
      rcases findN_range r p (i + 1) with h1 | ⟨k, h1, h2⟩
      · exact .inl h1
      · exact .inr ⟨k + 1, by rw [h1]; congr 1; omega, by simp; omega⟩
theorem findT_range (l : List FileD) (p : Txt) : findT l p = -1 ∨ ∃ k : Nat, findT l p = (k : Int) ∧ k < l.length := by
  rcases findN_range l p 0 with h | ⟨k, h, h2⟩
  · exact .inl h
  · exact .inr ⟨k, by rw [show findT l p = findN l p 0 from rfl, h]; simp, h2⟩
set_option maxRecDepth 100000 in
theorem refFind_any (v : Value) (l : List FileD) (p : Txt) (w : World) (hrow : RowN encF 3 (fun _ => True) w v l) (hl : l.length ≤ 1000000) :
    Calls Tryd.prog 50 #[v, .string ⟨p.toArray⟩] w fun e w' => e = .returned (.int .i64 (findT l p)) ∧ w = w' := by
  obtain ⟨va, vc, hv, _⟩ := hrow.slice
  subst hv
  have HRO := Lib.hid hrow
  have HF := Lib.hid (show findN (l.drop 0) p 0 = findT l p from rfl)
  generalize findT l p = res at *
  clear hrow
  go_enter Tryd.func50, Tryd.ntmps50
  go_wp2_with fail
  go_loopw [5] (fun v5 wr => ∃ i : Nat, i ≤ l.length ∧ v5 = .int .i64 i ∧ Hid (findN (l.drop i) p i = res) ∧ w = wr) (fun v5 _ => l.length - (intOf v5).toNat)
  case atStart => exact ⟨0, by omega, rfl, HF, rfl⟩
  case round =>
    clear HF
    obtain ⟨i, hi, rfl, HA, rfl⟩ := hrel
    have i0 : (0 : Int) ≤ (i : Int) := by omega
    by_cases hlt : i < l.length
    · have j1 : (i : Int) < (l.length : Int) := by omega
      obtain ⟨g, o, rfl, hel⟩ := HRO.out.el hlt
      have c0 := (hel i hlt).f0
      have HD := Lib.hid (show (if (l[i].path == p) = true then (i : Int) else findN (l.drop (i + 1)) p (i + 1)) = res by rw [← HA.out, List.drop_eq_getElem_cons hlt]; rfl)
      clear hel HA
      generalize l[i].path = q at *
      obtain ⟨b, hb⟩ : ∃ b, (q == p) = b := ⟨_, rfl⟩
      rw [hb] at HD
      cases b with
      | true =>
        have HR := Lib.hid (show res = (i : Int) by rw [← HD.out]; rfl)
        go_wp2_with fail
        go_ret
        exact ⟨by rw [HR.out]; rfl, rfl⟩
      | false =>
        have HR := Lib.hid (show findN (l.drop (i + 1)) p (i + 1) = res by rw [← HD.out]; rfl)
        go_wp2_with fail
        go_roundw
        case rel => exact ⟨i + 1, by omega, by go_num, HR, trivial⟩
        case measure => simp [intOf]; omega
    · have j1 : ¬ (i : Int) < (l.length : Int) := by omega
      have HR := Lib.hid (show res = -1 by rw [← HA.out, List.drop_eq_nil_of_le (by omega)]; rfl)
      go_wp2_with fail
      go_ret
      exact ⟨by rw [HR.out]; rfl, rfl⟩
/-- Is a path the same in two trees? -/
def likeS (a b : List FileD) (p : Txt) : Bool :=
  if findT a p < 0 ∨ findT b p < 0 then decide (findT a p < 0) && decide (findT b p < 0) else
    match a[(findT a p).toNat]?, b[(findT b p).toNat]? with
    | some x, some y => (x.path == y.path) && (x.mode == y.mode) && (x.data == y.data)
    | _, _ => false
set_option maxRecDepth 100000 in
set_option maxHeartbeats 1000000 in
theorem refLike_any (v1 v2 : Value) (a b : List FileD) (p : Txt) (w : World) (h1 : RowN encF 3 (fun _ => True) w v1 a) (h2 : RowN encF 3 (fun _ => True) w v2 b) (ha : a.length ≤ 1000000) (hb : b.length ≤ 1000000) :
    Calls Tryd.prog 51 #[v1, v2, .string ⟨p.toArray⟩] w fun e w' => e = .returned (.bool (likeS a b p)) ∧ Below w.heap.size w w' := by
  have F1 := Lib.hid (refFind_any v1 a p w h1 ha)
  have F2 := Lib.hid (refFind_any v2 b p w h2 hb)
  obtain ⟨va1, vc1, hv1, _⟩ := h1.slice
  obtain ⟨va2, vc2, hv2, _⟩ := h2.slice
  subst hv1
  subst hv2
  have H1 := Lib.hid h1
  have H2 := Lib.hid h2
  clear h1 h2
  have HL := Lib.hid (show likeS a b p = if findT a p < 0 ∨ findT b p < 0 then decide (findT a p < 0) && decide (findT b p < 0) else
    match a[(findT a p).toNat]?, b[(findT b p).toNat]? with
    | some x, some y => (x.path == y.path) && (x.mode == y.mode) && (x.data == y.data)
    | _, _ => false from rfl)
  generalize likeS a b p = res at *
  have r1 := findT_range a p
  have r2 := findT_range b p
  generalize findT a p = i at *
  generalize findT b p = k at *
  rcases r1 with rfl | ⟨n1, rfl, hn1⟩
  · rcases r2 with rfl | ⟨n2, rfl, hn2⟩
    · have HR := Lib.hid (show res = true by rw [HL.out]; rfl)
      clear HL
      go_enter Tryd.func51, Tryd.ntmps51
      go_wp2_with fail
      refine F1.out.mono ?_
      rintro e w1 ⟨rfl, rfl⟩
      go_wp2_with fail
      refine F2.out.mono ?_
      rintro e w1 ⟨rfl, rfl⟩
      go_wp2_with fail
      go_ret
      exact ⟨by rw [HR.out]; rfl, Below.refl _ _⟩
    · have j2 : ¬ (n2 : Int) < 0 := by omega
      have HR := Lib.hid (show res = false by rw [HL.out, if_pos (.inl (by decide)), decide_eq_false j2, Bool.and_false])
      clear HL
      go_enter Tryd.func51, Tryd.ntmps51
      go_wp2_with fail
      refine F1.out.mono ?_
      rintro e w1 ⟨rfl, rfl⟩
      go_wp2_with fail
      refine F2.out.mono ?_
      rintro e w1 ⟨rfl, rfl⟩
      go_wp2_with fail
      go_ret
      exact ⟨by rw [HR.out]; rfl, Below.refl _ _⟩
  · have j1 : ¬ (n1 : Int) < 0 := by omega
    rcases r2 with rfl | ⟨n2, rfl, hn2⟩
    · have HR := Lib.hid (show res = false by rw [HL.out, if_pos (.inr (by decide)), decide_eq_false j1, Bool.false_and])
      clear HL
      go_enter Tryd.func51, Tryd.ntmps51
      go_wp2_with fail
      refine F1.out.mono ?_
      rintro e w1 ⟨rfl, rfl⟩
      go_wp2_with fail
      refine F2.out.mono ?_
      rintro e w1 ⟨rfl, rfl⟩
      go_wp2_with fail
      go_ret
      exact ⟨by rw [HR.out]; rfl, Below.refl _ _⟩
    · have j2 : ¬ (n2 : Int) < 0 := by omega
      have i1 : (0 : Int) ≤ (n1 : Int) := by omega
      have i2 : (0 : Int) ≤ (n2 : Int) := by omega
      have k1 : (n1 : Int) < (a.length : Int) := by omega
      have k2 : (n2 : Int) < (b.length : Int) := by omega
      have HR := Lib.hid (show res = ((a[n1].path == b[n2].path) && (a[n1].mode == b[n2].mode) && (a[n1].data == b[n2].data)) by
        rw [HL.out, if_neg (by omega), Int.toNat_natCast, Int.toNat_natCast, List.getElem?_eq_getElem hn1, List.getElem?_eq_getElem hn2])
      clear HL
      obtain ⟨g1, o1, rfl, hel1⟩ := H1.out.el hn1
      obtain ⟨g2, o2, rfl, hel2⟩ := H2.out.el hn2
      have e1 := hel1 n1 hn1
      have e2 := hel2 n2 hn2
      clear hel1 hel2
      generalize a[n1] = x at *
      generalize b[n2] = y at *
      obtain ⟨p1, m1, d1⟩ := x
      obtain ⟨p2, m2, d2⟩ := y
      have c0 := e1.f0
      have c1 := e1.f1
      have c2 := e1.f2
      have d0 := e2.f0
      have d1' := e2.f1
      have d2' := e2.f2
      dsimp only at HR c0 c1 c2 d0 d1' d2'
      clear e1 e2
      by_cases hp : p1 = p2
      · subst hp
        by_cases hm : m1 = m2
        · subst hm
          by_cases hd : d1 = d2
          · subst hd
            have HR2 := Lib.hid (show res = true by rw [HR.out]; simp)
            go_enter Tryd.func51, Tryd.ntmps51
            go_wp2_with fail
            refine F1.out.mono ?_
            rintro e w1 ⟨rfl, rfl⟩
            go_wp2_with fail
            refine F2.out.mono ?_
            rintro e w1 ⟨rfl, rfl⟩
            go_wp2_with fail
            go_quiet (fail)
            have HBQ := Lib.hid (Below_drewN (Below.refl w.heap.size w) nq)
            go_wp2_with fail
            go_ret
            exact ⟨by rw [HR2.out]; rfl, HBQ.out⟩
          · have q3 : (d1 == d2) = false := by simp [hd]
            have HR2 := Lib.hid (show res = false by rw [HR.out, q3]; simp)
            clear hd
            go_enter Tryd.func51, Tryd.ntmps51
            go_wp2_with fail
            refine F1.out.mono ?_
            rintro e w1 ⟨rfl, rfl⟩
            go_wp2_with fail
            refine F2.out.mono ?_
            rintro e w1 ⟨rfl, rfl⟩
            go_wp2_with fail
            go_quiet (fail)
            have HBQ := Lib.hid (Below_drewN (Below.refl w.heap.size w) nq)
            go_wp2_with fail
            go_ret
            exact ⟨by rw [HR2.out]; rfl, HBQ.out⟩
        · have q2 : (m1 == m2) = false := by simp [hm]
          have HR2 := Lib.hid (show res = false by rw [HR.out, q2]; simp)
          clear hm
          go_enter Tryd.func51, Tryd.ntmps51
          go_wp2_with fail
          refine F1.out.mono ?_
          rintro e w1 ⟨rfl, rfl⟩
          go_wp2_with fail
          refine F2.out.mono ?_
          rintro e w1 ⟨rfl, rfl⟩
          go_wp2_with fail
          go_quiet (fail)
          have HBQ := Lib.hid (Below_drewN (Below.refl w.heap.size w) nq)
          go_wp2_with fail
          go_ret
          exact ⟨by rw [HR2.out]; rfl, HBQ.out⟩
      · have q1 : (p1 == p2) = false := by simp [hp]
        have HR2 := Lib.hid (show res = false by rw [HR.out, q1]; simp)
        clear hp
        go_enter Tryd.func51, Tryd.ntmps51
        go_wp2_with fail
        refine F1.out.mono ?_
        rintro e w1 ⟨rfl, rfl⟩
        go_wp2_with fail
        refine F2.out.mono ?_
        rintro e w1 ⟨rfl, rfl⟩
        go_wp2_with fail
        go_quiet (fail)
        have HBQ := Lib.hid (Below_drewN (Below.refl w.heap.size w) nq)
        go_wp2_with fail
        go_ret
        exact ⟨by rw [HR2.out]; rfl, HBQ.out⟩
end Go.Proofs.YtfgimhgkjodcgaaDoor
/- The document's Merge of three images. -/
set_option linter.unusedVariables false
namespace Go.Proofs.YtfgimhgkjodcgaaDoor
open Go.RowKit

def encS (t : Txt) : List Value := [.string ⟨t.toArray⟩]
theorem encS_ok : EncN encS 1 := ⟨fun _ => rfl, fun x u hu => by simp [encS] at hu; rw [hu]; rfl⟩
theorem info_strS : (Tryd.prog.info? 9).map (fun i => (i.zero, i.size, i.bytes)) = some (some (.string ByteArray.empty), 1, 16) := by kernel_rfl
theorem own_apart {α β : Type} {ea : α → List Value} {eb : β → List Value} {ka kb : Nat} {w : World} {b1 b2 : Nat} {t1 t2 : TypeId} {v1 v2 : Value} {xs : List α} {ys : List β} (h1 : OwnN ea ka w b1 t1 v1 xs) (h2 : OwnN eb kb w b2 t2 v2 ys) (ht : t1 ≠ t2) {g : Nat} (e1 : v1.ownBlock = some g) (e2 : v2.ownBlock = some g) : False := by
  obtain ⟨_, _, c1, k1⟩ := h1.lt e1
  obtain ⟨_, _, c2, k2⟩ := h2.lt e2
  rw [k1] at k2
  injection k2 with k2
  injection k2 with _ k2 _
  exact ht k2
/-- All paths, each once. -/
def allS : List FileD → List FileD → List FileD
  | all, [] => all
  | all, f :: r => allS (if findT all f.path < 0 then all ++ [⟨f.path, 0, []⟩] else all) r
def fromS (x y z : List FileD) (p : Txt) : List FileD := if likeS y z p = true then y else if likeS x z p = true then y else if likeS x y p = true then z else y
def toldM (x y z : List FileD) (p : Txt) : List Txt := if likeS y z p = true then [] else if likeS x z p = true then [] else if likeS x y p = true then [] else [p]
def pickS (l : List FileD) (p : Txt) : List FileD := if findT l p < 0 then [] else match l[(findT l p).toNat]? with
  | some f => [f]
  | none => []
def mergeL (x y z : List FileD) : List FileD := sortS (allS [] (x ++ y ++ z))
def mergeO (x y z : List FileD) (al : List FileD) : List FileD := al.flatMap (fun f => pickS (fromS x y z f.path) f.path)
def mergeT (x y z : List FileD) (al : List FileD) : List Txt := al.flatMap (fun f => toldM x y z f.path)
structure MgR where
  s : Txt
  l : List Txt
  e : Int
def mergeE (x y z : List FileD) : MgR := if (imgS (mergeO x y z (mergeL x y z))).2 ≠ 0 then ⟨[], [], (imgS (mergeO x y z (mergeL x y z))).2⟩ else ⟨(imgS (mergeO x y z (mergeL x y z))).1, mergeT x y z (mergeL x y z), 0⟩
def mergeS (s t u : Txt) : MgR := if (treeS s).2 ≠ 0 then ⟨[], [], (treeS s).2⟩ else if (treeS t).2 ≠ 0 then ⟨[], [], (treeS t).2⟩ else if (treeS u).2 ≠ 0 then ⟨[], [], (treeS u).2⟩ else mergeE (treeS s).1 (treeS t).1 (treeS u).1
theorem allS_ok : ∀ (l all : List FileD), (∀ x ∈ all, FileOk x) → (∀ x ∈ l, FileOk x) → (∀ x ∈ allS all l, FileOk x) ∧ (allS all l).length ≤ all.length + l.length
  | [], all, h, _ => ⟨h, by show all.length ≤ _; omega⟩
  | f :: r, all, h, hl => by
    unfold allS
    by_cases hc : findT all f.path < 0
    · rw [if_pos hc]
      obtain ⟨h1, h2⟩ := allS_ok r (all ++ [⟨f.path, 0, []⟩]) (fun x hx => by
        rcases List.mem_append.1 hx with hx | hx
        · exact h x hx
        · rw [List.mem_singleton.1 hx]; exact ⟨(hl f (by simp)).p, by simp, by simp⟩) (fun x hx => hl x (by simp [hx]))
      refine ⟨h1, ?_⟩
      rw [List.length_append] at h2
      simp at h2 ⊢
      omega
    · rw [if_neg hc]
      obtain ⟨h1, h2⟩ := allS_ok r all h (fun x hx => hl x (by simp [hx]))
      exact ⟨h1, by simp at h2 ⊢; omega⟩
theorem pickS_ok (l : List FileD) (p : Txt) (h : ∀ x ∈ l, FileOk x) : (∀ x ∈ pickS l p, FileOk x) ∧ (pickS l p).length ≤ 1 := by
  unfold pickS
  by_cases hc : findT l p < 0
  · rw [if_pos hc]; exact ⟨fun x hx => (by cases hx), by simp⟩
  · rw [if_neg hc]
    rcases findT_range l p with h1 | ⟨k, h1, h2⟩
    · omega
    · rw [h1, Int.toNat_natCast, List.getElem?_eq_getElem h2]
      exact ⟨fun x hx => by rw [List.mem_singleton.1 hx]; exact h _ (List.getElem_mem h2), by simp⟩
/-- What of one path is taken. -/
theorem flat_next2 {α β : Type} (f : α → List β) (l : List α) (k : Nat) (h : k < l.length) : (l.take (k + 1)).flatMap f = (l.take k).flatMap f ++ f l[k] := by
  rw [List.take_succ_eq_append_getElem h, List.flatMap_append]
  simp
theorem flat_len {α β : Type} (f : α → List β) (c : Nat) : ∀ l : List α, (∀ x ∈ l, (f x).length ≤ c) → (l.flatMap f).length ≤ c * l.length
  | [], _ => by simp
  | x :: r, h => by
    have h1 := h x (by simp)
    have h2 := flat_len f c r (fun y hy => h y (by simp [hy]))
    rw [List.flatMap_cons, List.length_append, List.length_cons, Nat.mul_add]
    omega
end Go.Proofs.YtfgimhgkjodcgaaDoor

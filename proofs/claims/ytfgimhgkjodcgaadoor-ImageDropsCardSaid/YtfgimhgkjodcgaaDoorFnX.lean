/- Several texts in one: FindIW, PutIW. -/
import Derived.Test.YtfgimhgkjodcgaaDoorArgs3
import Derived.Test.YtfgimhgkjodcgaaDoorFrame
import Derived.Test.YtfgimhgkjodcgaaDoorGen
import Derived.Test.YtfgimhgkjodcgaaDoorMarkMath
import Derived.Test.YtfgimhgkjodcgaaDoorOwnL
import Derived.Test.YtfgimhgkjodcgaaDoorProg
import Derived.Test.YtfgimhgkjodcgaaDoorReadMath
import Derived.Test.YtfgimhgkjodcgaaDoorReadW
import Derived.Test.YtfgimhgkjodcgaaDoorCkX
import Derived.Test.YtfgimhgkjodcgaaDoorPuX
import Derived.Test.YtfgimhgkjodcgaaDoorRowN
import Derived.Test.YtfgimhgkjodcgaaDoorRows
import Derived.Test.YtfgimhgkjodcgaaDoorShelf
import Derived.Test.YtfgimhgkjodcgaaDoorSoX
import Derived.Test.YtfgimhgkjodcgaaDoorTmX
import Derived.Test.YtfgimhgkjodcgaaDoorTreeMath
import Derived.BigQuiet
import Derived.Deep.Cut
import Derived.Deep.CutRange
import Derived.Deep.DeepCutAuto
import Derived.Deep.QuietTactic
import Derived.Deep.RegionHeld
import Derived.Deep.Slices
import Derived.Deep.Strs
import Derived.Laws.RangeAny
import Derived.Lib.Hide
import Derived.Lib.SmallJoins
import Derived.LoopIn
import Derived.LoopNIn
import Derived.LoopTactic
import Derived.OwnWalkIn
import Derived.RangeFuncBound
import Derived.RangeFuncCalls
import Derived.RangeFuncLeaves
import Derived.RangeFuncNested
import Derived.Shelf.Abstract
import Derived.Shelf.RegionOpen
import Derived.StillTail
import Derived.TacticsInMore
import Derived.WalkKit
import Derived.WalkLawsBesides
import Derived.WalkSpells
import Derived.Test.YtfgimhgkjodcgaaDoorArgTree
import Derived.Test.YtfgimhgkjodcgaaDoorBdX
import Derived.Test.YtfgimhgkjodcgaaDoorImgMath
import Derived.Test.YtfgimhgkjodcgaaDoorLists
import Derived.Test.YtfgimhgkjodcgaaDoorMtX
import Derived.Test.YtfgimhgkjodcgaaDoorMeX
import Derived.Test.YtfgimhgkjodcgaaDoorPthX
import Derived.Test.YtfgimhgkjodcgaaDoorRefReadW
import Derived.Test.YtfgimhgkjodcgaaDoorRefSortW
import Derived.Test.YtfgimhgkjodcgaaDoorTrX
import Derived.Test.YtfgimhgkjodcgaaDoorSortX
import Derived.Test.YtfgimhgkjodcgaaDoorSortTW
import Derived.Test.YtfgimhgkjodcgaaDoorTlX
import Derived.BigRegion
import Derived.Laws.Externs
import Derived.Lib.AppendStr
import Derived.Lib.Builder
import Derived.Lib.Strings
import Derived.Lib.Walk
import Derived.Outline
/- Landed: slices.IndexFunc over files, tree.Find, walked. -/
set_option linter.unusedVariables false
namespace Go.Proofs.YtfgimhgkjodcgaaDoor
open Go.RowKit

/-- The first place of what is wanted, or -1. -/
def idxN (want : FileD → Bool) : List FileD → Nat → Int
  | [], _ => -1
  | x :: r, i => if want x = true then (i : Int) else idxN want r (i + 1)
theorem idxN_find (p : Txt) : ∀ (l : List FileD) (i : Nat), idxN (fun x => x.path == p) l i = findN l p i
  | [], _ => rfl
  | x :: r, i => by
    unfold idxN findN
    rw [idxN_find p r]
/-- The place: none, or one ahead of which nothing is wanted. -/
theorem idxN_cases (want : FileD → Bool) : ∀ (l : List FileD) (i : Nat), (idxN want l i = -1 ∧ ∀ x ∈ l, want x = false) ∨ ∃ k, ∃ h : k < l.length, idxN want l i = ((i + k : Nat) : Int) ∧ want l[k] = true ∧ ∀ x ∈ l.take k, want x = false
  | [], _ => .inl ⟨rfl, fun x hx => (by cases hx)⟩
  | x :: r, i => by
    unfold idxN
    by_cases h : want x = true
    · rw [if_pos h]
      exact .inr ⟨0, by simp, by simp, h, fun y hy => (by simp at hy)⟩
    · rw [if_neg h]
      have hf : want x = false := by simpa using h
      rcases idxN_cases want r (i + 1) with ⟨h1, h2⟩ | ⟨k, hk, h1, h2, h3⟩
      · refine .inl ⟨h1, fun y hy => ?_⟩
        rcases List.mem_cons.1 hy with rfl | hy
        · exact hf
        · exact h2 y hy
      · refine .inr ⟨k + 1, by simpa using hk, by rw [h1]; congr 1; omega, by simpa using h2, fun y hy => ?_⟩
        rw [List.take_succ_cons] at hy
        rcases List.mem_cons.1 hy with rfl | hy
        · exact hf
        · exact h3 y hy
set_option maxRecDepth 100000 in
set_option maxHeartbeats 1000000 in
theorem indexFunc_any (f : Nat) (cb : Array Value) (want : FileD → Bool) (v : Value) (xs : List FileD) (w : World) (eg : ∀ (args : Array Value) (w : World), (callFunc f args).run Tryd.prog w = .ok (.enter f args) w)
    (hwa : ∀ x ∈ xs, ∀ w', Below w.heap.size w w' → Calls Tryd.prog f (#[.agg #[.string ⟨x.path.toArray⟩, .int .i64 x.mode, .string ⟨x.data.toArray⟩]] ++ cb) w' fun e w'' => e = .returned (.bool (want x)) ∧ Below w'.heap.size w' w'')
    (hrow : RowN encF 3 (fun _ => True) w v xs) (hl : xs.length ≤ 1000000) :
    Calls Tryd.prog 68 #[v, .func (.func f) #[] cb] w fun e w' => e = .returned (.int .i64 (idxN want xs 0)) ∧ Below w.heap.size w w' := by
  obtain ⟨va, vc, hv, _⟩ := hrow.slice
  subst hv
  have HRO := Lib.hid hrow
  have HWA := Lib.hid hwa
  have HF := Lib.hid (show idxN want (xs.drop 0) 0 = idxN want xs 0 from rfl)
  generalize idxN want xs 0 = res at *
  clear hrow hwa
  go_enter Tryd.func68, Tryd.ntmps68
  go_wp2_with fail
  go_loopw [5, 8] (fun v5 v8 wr => ∃ i : Nat, i ≤ xs.length ∧ v8 = .int .i64 i ∧ Hid (idxN want (xs.drop i) i = res) ∧ Below w.heap.size w wr) (fun _ v8 _ => xs.length - (intOf v8).toNat)
  case atStart => exact ⟨0, by omega, rfl, HF, Below.refl _ _⟩
  case round =>
    clear HF
    obtain ⟨i, hi, rfl, HA, hbel⟩ := hrel
    have HB := Lib.hid hbel
    clear hbel
    have i0 : (0 : Int) ≤ (i : Int) := by omega
    by_cases hlt : i < xs.length
    · have j1 : (i : Int) < (xs.length : Int) := by omega
      obtain ⟨g, o, rfl, hel⟩ := HRO.out.el hlt
      have hel1 := (hel i hlt).new HB.out
      have c0 := hel1.f0
      have c1 := hel1.f1
      have c2 := hel1.f2
      have HD := Lib.hid (show (if want xs[i] = true then (i : Int) else idxN want (xs.drop (i + 1)) (i + 1)) = res by rw [← HA.out, List.drop_eq_getElem_cons hlt]; rfl)
      have WA := Lib.hid (HWA.out xs[i] (List.getElem_mem hlt) wr HB.out)
      obtain ⟨wx, hwx⟩ : ∃ wx, wx = want xs[i] := ⟨_, rfl⟩
      rw [← hwx] at WA HD
      clear hwx hel hel1 HA
      generalize xs[i] = x at *
      obtain ⟨p, md, dt⟩ := x
      dsimp only at c0 c1 c2 WA
      cases wx with
      | true =>
        have HR := Lib.hid (show res = (i : Int) by rw [← HD.out]; rfl)
        go_wp2_with fail
        refine WA.out.mono ?_
        rintro e w2 ⟨rfl, hb2⟩
        have HB2 := Lib.hid (HB.out.trans (hb2.mono HB.out.size))
        go_wp2_with fail
        go_ret
        exact ⟨by rw [HR.out]; rfl, HB2.out⟩
      | false =>
        have HR := Lib.hid (show idxN want (xs.drop (i + 1)) (i + 1) = res by rw [← HD.out]; rfl)
        go_wp2_with fail
        refine WA.out.mono ?_
        rintro e w2 ⟨rfl, hb2⟩
        have HB2 := Lib.hid (HB.out.trans (hb2.mono HB.out.size))
        clear hb2
        go_wp2_with fail
        go_roundw
        case rel => exact ⟨i + 1, by omega, by go_num, HR, HB2.out⟩
        case measure => simp [intOf]; omega
    · have j1 : ¬ (i : Int) < (xs.length : Int) := by omega
      have HR := Lib.hid (show res = -1 by rw [← HA.out, List.drop_eq_nil_of_le (by omega)]; rfl)
      go_wp2_with fail
      go_ret
      exact ⟨by rw [HR.out]; rfl, HB.out⟩
set_option maxRecDepth 100000 in
theorem findPred_any (bx : Nat) (q : Txt) (x : FileD) (w : World) (hb : w.cell? ⟨bx, 0, none⟩ = some (.string ⟨q.toArray⟩)) :
    Calls Tryd.prog 69 (#[.agg #[.string ⟨x.path.toArray⟩, .int .i64 x.mode, .string ⟨x.data.toArray⟩]] ++ #[.pointer (some ⟨bx, 0, none⟩)]) w fun e w' => e = .returned (.bool (x.path == q)) ∧ Below w.heap.size w w' := by
  obtain ⟨p, m, d⟩ := x
  dsimp only
  have hbw := (Below.refl w.heap.size w).alloc (Nat.le_refl _) (.cells #[.string ⟨p.toArray⟩, .int .i64 m, .string ⟨d.toArray⟩] 33)
  have HBW := Lib.hid hbw
  have b0 := (hbw.cell (p := ⟨bx, 0, none⟩) (World.block_lt_of_cell? w _ hb)).trans hb
  have c0 := (cell_of_row _ _ 0 _ _ _ (heap_alloc_new w (.cells #[.string ⟨p.toArray⟩, .int .i64 m, .string ⟨d.toArray⟩] 33))).trans rfl
  clear hbw
  go_enter Tryd.func69, Tryd.ntmps69
  go_wp2_with fail
  go_ret
  exact ⟨rfl, HBW.out⟩
set_option maxRecDepth 100000 in
theorem find_any (v : Value) (l : List FileD) (p : Txt) (w : World) (hrow : RowN encF 3 (fun _ => True) w v l) (hl : l.length ≤ 1000000) :
    Calls Tryd.prog 40 #[v, .string ⟨p.toArray⟩] w fun e w' => e = .returned (.int .i64 (findT l p)) ∧ Below w.heap.size w w' := by
  have hbw := (Below.refl w.heap.size w).alloc (Nat.le_refl _) (.cells #[.string ⟨p.toArray⟩] 9)
  have hb := (cell_of_row _ _ 0 _ _ _ (heap_alloc_new w (.cells #[.string ⟨p.toArray⟩] 9))).trans (show _ = some (Value.string ⟨p.toArray⟩) from rfl)
  have IF := Lib.hid (indexFunc_any 69 #[.pointer (some ⟨w.heap.size, 0, none⟩)] (fun x => x.path == p) v l _ (enters_of Tryd.func69 (by kernel_rfl) rfl)
    (fun x hx w' hb' => findPred_any w.heap.size p x w' ((hb'.cell (p := ⟨w.heap.size, 0, none⟩) (World.block_lt_of_cell? _ _ hb)).trans hb)) (hrow.keep hbw) hl)
  rw [idxN_find] at IF
  have HF := Lib.hid (show findN l p 0 = findT l p from rfl)
  rw [HF.out] at IF
  obtain ⟨va, vc, hv, _⟩ := hrow.slice
  subst hv
  have HBW := Lib.hid hbw
  clear hbw hb hrow HF
  generalize findT l p = res at *
  go_enter Tryd.func40, Tryd.ntmps40
  go_wp2_with fail
  refine IF.out.mono ?_
  rintro e w2 ⟨rfl, hb2⟩
  go_wp2_with fail
  go_ret
  exact ⟨rfl, HBW.out.trans (hb2.mono HBW.out.size)⟩
end Go.Proofs.YtfgimhgkjodcgaaDoor
/- Landed image: Put, walked. -/
set_option linter.unusedVariables false
namespace Go.Proofs.YtfgimhgkjodcgaaDoor
open Go.RowKit

/-! ### A file in the place of its path's -/
theorem asc_extF : ∀ (a b : List FileD), a.Pairwise (fun x y => ordS x.path y.path < 0) → b.Pairwise (fun x y => ordS x.path y.path < 0) → (∀ f, f ∈ a ↔ f ∈ b) → a = b
  | [], [], _, _, _ => rfl
  | [], y :: b, _, _, h => absurd ((h y).2 (by simp)) (by simp)
  | x :: a, [], _, _, h => absurd ((h x).1 (by simp)) (by simp)
  | x :: a, y :: b, ha, hb, h => by
    have ha' := List.pairwise_cons.1 ha
    have hb' := List.pairwise_cons.1 hb
    have hxy : x = y := by
      have h1 := (h x).1 (by simp)
      have h2 := (h y).2 (by simp)
      simp at h1 h2
      rcases h1 with h1 | h1
      · exact h1
      · rcases h2 with h2 | h2
        · exact h2.symm
        · have k1 := hb'.1 x h1
          have k2 := ha'.1 y h2
          have := ordS_neg x.path y.path
          omega
    subst hxy
    rw [asc_extF a b ha'.2 hb'.2 (fun q => ?_)]
    constructor
    · intro hq
      have := (h q).1 (by simp [hq])
      simp at this
      rcases this with rfl | this
      · exact absurd rfl (o3_ne (ha'.1 _ hq))
      · exact this
    · intro hq
      have := (h q).2 (by simp [hq])
      simp at this
      rcases this with rfl | this
      · exact absurd rfl (o3_ne (hb'.1 _ hq))
      · exact this
theorem asc_inj {l : List FileD} (h : AscF l) {i j : Nat} (hi : i < l.length) (hj : j < l.length) (e : l[i].path = l[j].path) : i = j := by
  have P := List.pairwise_iff_getElem.1 h.asc
  rcases Nat.lt_trichotomy i j with c | c | c
  · exact absurd e (o3_ne (P i j hi hj c))
  · exact c
  · exact absurd e.symm (o3_ne (P j i hj hi c))
theorem put_sort {l : List FileD} (h : AscF l) (k : Nat) (hk : k < l.length) (f : FileD) (hf : l[k].path = f.path) : sortS (l.filter (fun x => !(x.path == f.path)) ++ [f]) = l.set k f := by
  have hn : (l.map (·.path)).Nodup := by
    refine (List.pairwise_map (f := fun x : FileD => x.path) (R := fun x y => x ≠ y)).2 (h.asc.imp (fun h => o3_ne h))
  obtain ⟨s1, s2⟩ := s3_all (l.filter (fun x => !(x.path == f.path)) ++ [f]) [] (by
    rw [List.map_append, List.nodup_append]
    refine ⟨hn.sublist (List.filter_sublist.map _), by simp, fun a ha b hb => ?_⟩
    simp at hb
    subst hb
    obtain ⟨x, hx, rfl⟩ := List.mem_map.1 ha
    have := (List.mem_filter.1 hx).2
    simpa using this) (fun _ _ y hy => by cases hy) List.Pairwise.nil
  refine asc_extF _ _ s1 ?_ (fun x => ?_)
  · refine (List.pairwise_map (f := fun x : FileD => x.path) (R := fun x y => ordS x y < 0)).1 ?_
    have e : (l.set k f).map (fun x => x.path) = l.map (fun x => x.path) := by
      rw [List.map_set, ← hf]
      have hk2 : k < (l.map (fun x => x.path)).length := by rw [List.length_map]; exact hk
      have := List.set_getElem_self hk2
      rw [List.getElem_map] at this
      exact this
    rw [e]
    exact (List.pairwise_map (f := fun x : FileD => x.path) (R := fun x y => ordS x y < 0)).2 h.asc
  · show x ∈ (l.filter (fun x => !(x.path == f.path)) ++ [f]).foldl (fun acc x => insS x acc) [] ↔ _
    rw [s2 x, List.mem_append, List.mem_filter, List.mem_singleton]
    constructor
    · rintro ((⟨hx, hp⟩ | rfl) | hx)
      · obtain ⟨j, hj, rfl⟩ := List.mem_iff_getElem.1 hx
        have hjk : k ≠ j := by
          rintro rfl
          rw [hf] at hp
          simp at hp
        refine List.mem_iff_getElem.2 ⟨j, by rw [List.length_set]; exact hj, ?_⟩
        rw [List.getElem_set, if_neg hjk]
      · exact List.mem_iff_getElem.2 ⟨k, by rw [List.length_set]; exact hk, by rw [List.getElem_set, if_pos rfl]⟩
      · cases hx
    · intro hx
      obtain ⟨j, hj, rfl⟩ := List.mem_iff_getElem.1 hx
      rw [List.length_set] at hj
      rw [List.getElem_set]
      by_cases e : k = j
      · rw [if_pos e]; exact .inl (.inr rfl)
      · rw [if_neg e]
        refine .inl (.inl ⟨List.getElem_mem hj, ?_⟩)
        have : l[j].path ≠ f.path := by
          rw [← hf]
          intro c
          exact e (asc_inj h hk hj c.symm)
        simpa using this
theorem put_none {l : List FileD} {q : Txt} (h : findT l q < 0) : l.filter (fun x => !(x.path == q)) = l := by
  refine List.filter_eq_self.2 (fun x hx => ?_)
  rcases idxN_cases (fun x => x.path == q) l 0 with ⟨_, h2⟩ | ⟨k, hk, h1, _⟩
  · rw [h2 x hx]; rfl
  · rw [idxN_find] at h1
    have : findT l q = findN l q 0 := rfl
    omega
theorem put_some {l : List FileD} {q : Txt} {k : Nat} (h : findT l q = (k : Int)) : ∃ hk : k < l.length, l[k].path = q := by
  rcases idxN_cases (fun x => x.path == q) l 0 with ⟨h1, _⟩ | ⟨j, hj, h1, h2, _⟩
  · rw [idxN_find] at h1
    have : findT l q = findN l q 0 := rfl
    omega
  · rw [idxN_find] at h1
    have : findT l q = findN l q 0 := rfl
    obtain rfl : j = k := by omega
    exact ⟨hj, by simpa using h2⟩
/-- A struct of an own list, stored whole. -/
def putF (w : World) (g i : Nat) (f : FileD) : World := ((w.setCell ⟨g, i * 3, none⟩ (.string ⟨f.path.toArray⟩)).setCell ⟨g, i * 3 + 1, none⟩ (.int .i64 f.mode)).setCell ⟨g, i * 3 + 2, none⟩ (.string ⟨f.data.toArray⟩)
theorem own_putF {w : World} {base : Nat} {e : TypeId} {g n c : Nat} {xs : List FileD} (h : OwnN encF 3 w base e (.slice (some ⟨g, 0, none⟩) n c) xs) (i : Nat) (f : FileD) (hi : i < xs.length) :
    OwnN encF 3 (putF w g i f) base e (.slice (some ⟨g, 0, none⟩) n c) (xs.set i f) ∧ Kept (· = g) w (putF w g i f) := by
  obtain ⟨a1, a2⟩ := OwnN.put encF_ok h i 0 (.string ⟨f.path.toArray⟩) ⟨f.path, xs[i].mode, xs[i].data⟩ hi (by decide) rfl
  obtain ⟨b1, b2⟩ := OwnN.put encF_ok a1 i 1 (.int .i64 f.mode) ⟨f.path, f.mode, xs[i].data⟩ (by rw [List.length_set]; exact hi) (by decide) (by rw [List.getElem_set, if_pos rfl]; rfl)
  obtain ⟨c1, c2⟩ := OwnN.put encF_ok b1 i 2 (.string ⟨f.data.toArray⟩) ⟨f.path, f.mode, f.data⟩ (by rw [List.length_set, List.length_set]; exact hi) (by decide) (by rw [List.getElem_set, if_pos rfl]; rfl)
  rw [List.set_set, List.set_set] at c1
  exact ⟨c1, (a2.trans b2).trans c2⟩
set_option maxRecDepth 100000 in
set_option maxHeartbeats 2000000 in
theorem iPut_any (s : Txt) (f : FileD) (w : World) (hs : s.length ≤ 1000000) (hf : FileOk f) :
    Calls Tryd.prog 20 #[.string ⟨s.toArray⟩, .agg #[.string ⟨f.path.toArray⟩, .int .i64 f.mode, .string ⟨f.data.toArray⟩]] w fun e w' => e = .returned (.tuple #[.string ⟨(putS s f).1.toArray⟩, .int .i64 (putS s f).2]) ∧ Below w.heap.size w w' := by
  have TR := Lib.hid (fun w' => iTreeO_any s w' hs)
  obtain ⟨hok, hll⟩ := treeS_ok s
  have HOK := Lib.hid hok
  have HASC := Lib.hid (tree_asc s)
  have HP0 := Lib.hid (show putS s f = if (treeS s).2 ≠ 0 then ([], (treeS s).2) else imgS (sortS ((treeS s).1.filter (fun x => !(x.path == f.path)) ++ [f])) from rfl)
  generalize putS s f = res at *
  generalize treeS s = T at *
  obtain ⟨l, te⟩ := T
  dsimp only at TR hll HP0 HOK HASC
  clear hok
  obtain ⟨q, fm, fd⟩ := f
  have HFO := Lib.hid hf
  have HB0 := Lib.hid (heap_alloc_new w (.cells #[.string ⟨q.toArray⟩, .int .i64 fm, .string ⟨fd.toArray⟩] 33))
  have hbw : Below w.heap.size w (w.alloc (.cells #[.string ⟨q.toArray⟩, .int .i64 fm, .string ⟨fd.toArray⟩] 33)) := (Below.refl _ _).alloc (Nat.le_refl _) _
  have HBW := Lib.hid hbw
  dsimp only at HP0 ⊢
  clear hbw hf
  go_enter Tryd.func20, Tryd.ntmps20
  go_wp2_with fail
  refine (TR.out _).mono ?_
  rintro e w2 ⟨v2, rfl, hr2, hb2⟩
  obtain ⟨va, vm, vc, hv⟩ := own_slice hr2
  subst hv
  have HO := Lib.hid (hr2.mono (Nat.le_of_lt (Array.getElem?_eq_some_iff.1 HB0.out).1))
  have HBX := Lib.hid ((Kept.new hb2 (fun _ => False)).old HB0.out id)
  have HB2 := Lib.hid (HBW.out.trans (hb2.mono HBW.out.size))
  have HNE := Lib.hid (fun g' (e : (Value.slice va vm vc).ownBlock = some g') => (show g' ≠ w.heap.size by have := (hr2.lt e).1; rw [World.size_alloc] at this; omega))
  have hlt2 : w.heap.size < w2.heap.size := (Array.getElem?_eq_some_iff.1 HBX.out).1
  clear hr2 hb2 TR HB0 HBW
  by_cases hte : te = 0
  · have q1 : (te != 0) = false := by simp [hte]
    have HP := Lib.hid (show res = imgS (sortS (l.filter (fun x => !(x.path == q)) ++ [⟨q, fm, fd⟩])) by rw [HP0.out, if_neg (fun k => k hte)])
    have FI := Lib.hid (find_any (.slice va vm vc) l q w2 ((OwnN.row encF_ok HO.out).mono (fun _ _ => trivial)) (by omega))
    obtain ⟨b0, b1, b2⟩ := file_box0 HBX.out
    rcases findT_range l q with hat | ⟨k, hat, hk⟩
    · rw [hat] at FI
      have HP2 := Lib.hid (show res = imgS (sortS (l ++ [⟨q, fm, fd⟩])) by rw [HP.out, put_none (by omega)])
      clear HP0 hte HP hat
      go_wp2_with fail
      refine FI.out.mono ?_
      rintro e w3 ⟨rfl, hb3⟩
      have HO3 := Lib.hid (HO.out.new hb3)
      have HBX3 := Lib.hid ((Kept.new hb3 (fun _ => False)).old HBX.out id)
      have HB3 := Lib.hid (HB2.out.trans (hb3.mono HB2.out.size))
      clear hb3 FI HO HBX HB2 b0 b1 b2
      obtain ⟨b0, b1, b2⟩ := file_box0 HBX3.out
      have hws := HB3.out.size
      go_wp2_with (at_builtin; go_loud (refine append_new (enc := encF) (k := 3) (w := w3) (by rfl) (.tmp 23) (.tmp 25) 22 33 (.agg #[.string ByteArray.empty, .int .i64 0, .string ByteArray.empty]) 40 (by rfl) Tryd.underlying22 info_file (by rfl) (by decide) encF_ok w.heap.size _ l ⟨q, fm, fd⟩ (by rfl) HO3.out (by rfl) (by omega) (by unfold maxLen; omega) hws _ (by rfl) ?_; intro v7 w7 hown7 ht7; obtain ⟨va7, vm7, vc7, rfl⟩ := own_slice hown7; have HO7 := Lib.hid hown7; have HB7 := Lib.hid (HB3.out.trans ht7.bel); clear hown7 ht7))
      have hall : ∀ x ∈ l ++ [(⟨q, fm, fd⟩ : FileD)], FileOk x := fun x hx => by
        rcases List.mem_append.1 hx with hx | hx
        · exact HOK.out x hx
        · rw [List.mem_singleton.1 hx]; exact HFO.out
      have hal : (l ++ [(⟨q, fm, fd⟩ : FileD)]).length ≤ 257 := by rw [List.length_append]; simp; omega
      have ST := Lib.hid (tSort_any _ (l ++ [⟨q, fm, fd⟩]) w7 ((OwnN.row encF_ok HO7.out).mono (fun _ _ => trivial)) hall (by omega))
      have HSO := Lib.hid (show ∀ x ∈ sortS (l ++ [⟨q, fm, fd⟩]), FileOk x from fun x hx => hall x (sortI_mem _ x hx))
      have HSL := Lib.hid (sortI_len (l ++ [⟨q, fm, fd⟩]))
      refine ST.out.mono ?_
      rintro e w9 ⟨v9, rfl, hown9, hb9⟩
      obtain ⟨va9, vc9, rfl, _⟩ := hown9.slice
      have IM := Lib.hid (iOf_any _ (sortS (l ++ [⟨q, fm, fd⟩])) w9 hown9 HSO.out (by rw [HSL.out]; omega))
      have HB9 := Lib.hid (HB7.out.trans (hb9.mono HB7.out.size))
      rw [← HP2.out] at IM
      clear hown9 hb9
      go_wp2_with fail
      refine IM.out.mono ?_
      rintro e w10 ⟨rfl, hb10⟩
      have HB10 := Lib.hid (HB9.out.trans (hb10.mono HB9.out.size))
      go_wp2_with fail
      go_ret2
      exact ⟨rfl, HB10.out⟩
    · obtain ⟨_, hkq⟩ := put_some hat
      rw [hat] at FI
      have HP2 := Lib.hid (show res = imgS (l.set k ⟨q, fm, fd⟩) by rw [HP.out, ← put_sort HASC.out k hk ⟨q, fm, fd⟩ hkq])
      have hne : l ≠ [] := fun h => by rw [h] at hk; simp at hk
      obtain ⟨g, c, hv, hc, hgb, hgl, _, _⟩ := OwnN.at encF_ok HO.out hne
      injection hv with e1 e2 e3
      subst e1 e2 e3
      have k0 : (0 : Int) ≤ (k : Int) := by omega
      have k1 : ¬ (k : Int) < 0 := by omega
      have k2 : (k : Int) < (l.length : Int) := by omega
      clear HP0 hte HP hat hkq hne
      go_wp2_with fail
      refine FI.out.mono ?_
      rintro e w3 ⟨rfl, hb3⟩
      have HO3 := Lib.hid (HO.out.new hb3)
      have HBX3 := Lib.hid ((Kept.new hb3 (fun _ => False)).old HBX.out id)
      have HB3 := Lib.hid (HB2.out.trans (hb3.mono HB2.out.size))
      clear hb3 FI HO HBX HB2 b0 b1 b2
      obtain ⟨b0, b1, b2⟩ := file_box0 HBX3.out
      have hne : l ≠ [] := fun h => by rw [h] at hk; simp at hk
      obtain ⟨_, _, hv, _, _, _, hel, hfr⟩ := OwnN.at encF_ok HO3.out hne
      injection hv with e1 e2 e3
      injection e1 with e1
      injection e1 with e1
      subst e1
      clear e2 e3
      have c0 := (hel k hk).f0
      have c1 := (hel k hk).f1
      have c2 := (hel k hk).f2
      have f0 := hfr (k * 3)
      have f1 := hfr (k * 3 + 1)
      have f2 := hfr (k * 3 + 2)
      have PF := Lib.hid (own_putF HO3.out k ⟨q, fm, fd⟩ hk)
      unfold putF at PF
      dsimp only at PF
      clear hel hfr hne
      generalize l[k] = old at *
      go_wp2_with fail
      have HW4 := Lib.hid (show w.heap.size ≤ g from hgb)
      generalize ((w3.setCell ⟨g, k * 3, none⟩ (.string ⟨q.toArray⟩)).setCell ⟨g, k * 3 + 1, none⟩ (.int .i64 fm)).setCell ⟨g, k * 3 + 2, none⟩ (.string ⟨fd.toArray⟩) = w4 at *
      have HALL := Lib.hid (show ∀ x ∈ l.set k ⟨q, fm, fd⟩, FileOk x from fun x hx => by
        rcases List.mem_or_eq_of_mem_set hx with hx | rfl
        · exact HOK.out x hx
        · exact HFO.out)
      have IM := Lib.hid (iOf_any _ (l.set k ⟨q, fm, fd⟩) w4 ((OwnN.row encF_ok PF.out.1).mono (fun _ _ => trivial)) HALL.out (by rw [List.length_set]; omega))
      have HB4 := Lib.hid (HB3.out.trans (PF.out.2.below HB3.out.size (fun k e => by have := HW4.out; omega)))
      rw [← HP2.out] at IM
      refine IM.out.mono ?_
      rintro e w10 ⟨rfl, hb10⟩
      have HB10 := Lib.hid (HB4.out.trans (hb10.mono HB4.out.size))
      go_wp2_with fail
      go_ret2
      exact ⟨rfl, HB10.out⟩
  · have q1 : (te != 0) = true := by simp [hte]
    have HR := Lib.hid (show res = ([], te) by rw [HP0.out, if_pos hte])
    clear HP0 hte
    go_wp2_with fail
    go_ret2
    exact ⟨by rw [HR.out]; rfl, HB2.out⟩
end Go.Proofs.YtfgimhgkjodcgaaDoor

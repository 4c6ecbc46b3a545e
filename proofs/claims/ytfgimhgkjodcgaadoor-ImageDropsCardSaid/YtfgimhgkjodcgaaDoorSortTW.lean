/- Landed tree: Sort, walked: the library's stable sort of the files' copy. -/
import Derived.Test.YtfgimhgkjodcgaaDoorArgTree
import Derived.Test.YtfgimhgkjodcgaaDoorFrame
import Derived.Test.YtfgimhgkjodcgaaDoorGen
import Derived.Test.YtfgimhgkjodcgaaDoorOrderTW
import Derived.Test.YtfgimhgkjodcgaaDoorOwnL
import Derived.Test.YtfgimhgkjodcgaaDoorPickedTW
import Derived.Test.YtfgimhgkjodcgaaDoorPthX
import Derived.Test.YtfgimhgkjodcgaaDoorProg
import Derived.Test.YtfgimhgkjodcgaaDoorReadW
import Derived.Test.YtfgimhgkjodcgaaDoorCkX
import Derived.Test.YtfgimhgkjodcgaaDoorRowN
import Derived.Test.YtfgimhgkjodcgaaDoorRows
import Derived.Test.YtfgimhgkjodcgaaDoorShelf
import Derived.Test.YtfgimhgkjodcgaaDoorSoX
import Derived.Test.YtfgimhgkjodcgaaDoorSortX
import Derived.Test.YtfgimhgkjodcgaaDoorTmX
import Derived.Test.YtfgimhgkjodcgaaDoorTreeMath
import Derived.BigQuiet
import Derived.Deep.Cut
import Derived.Deep.CutRange
import Derived.Deep.DeepCutAuto
import Derived.Deep.QuietTactic
import Derived.Laws.RangeAny
import Derived.Lib.Hide
import Derived.LoopTactic
import Derived.StillTail
import Derived.WalkKit
import Derived.WalkLawsBesides
import Derived.WalkSpells
set_option linter.unusedVariables false
namespace Go.Proofs.YtfgimhgkjodcgaaDoor
open Go.RowKit

set_option maxRecDepth 100000 in
theorem sortCmp_any (x y : FileD) (hx : x.path.length ≤ 140737488351232) (hy : y.path.length ≤ 140737488351232) (w : World) :
    Calls Tryd.prog 73 #[.agg #[.string ⟨x.path.toArray⟩, .int .i64 x.mode, .string ⟨x.data.toArray⟩], .agg #[.string ⟨y.path.toArray⟩, .int .i64 y.mode, .string ⟨y.data.toArray⟩]] w fun e w' => e = .returned (.int .i64 (ordS x.path y.path)) ∧ Below w.heap.size w w' := by
  obtain ⟨p, m, t⟩ := x
  obtain ⟨q, n, u⟩ := y
  dsimp only at *
  have OA := fun w' => Lib.hid (order_any p q w' hx hy)
  have HB := Lib.hid (((Below.refl w.heap.size w).alloc (Nat.le_refl _) (.cells #[.string ⟨p.toArray⟩, .int .i64 m, .string ⟨t.toArray⟩] 33)).alloc (by simp) (.cells #[.string ⟨q.toArray⟩, .int .i64 n, .string ⟨u.toArray⟩] 33))
  go_enter Tryd.func73, Tryd.ntmps73
  go_wp2_with fail
  refine (OA _).out.mono ?_
  rintro e w1 ⟨rfl, hb⟩
  go_wp2_with fail
  go_ret
  exact ⟨rfl, HB.out.trans (hb.mono HB.out.size)⟩
set_option maxRecDepth 100000 in
theorem sortAll_any (x : Value) (cs : Array Value) (hx : x = .agg cs) (h3 : cs.size = 3) (w : World) :
    Calls Tryd.prog 71 #[x] w fun e w' => e = .returned (.bool true) ∧ Below w.heap.size w w' := by
  obtain ⟨a, b, c, rfl⟩ : ∃ a b c, cs = #[a, b, c] := by
    match cs, h3 with
    | ⟨[a, b, c]⟩, _ => exact ⟨a, b, c, rfl⟩
  subst hx
  go_enter Tryd.func71, Tryd.ntmps71
  go_wp2_with fail
  go_ret
  exact ⟨rfl, (Below.refl _ _).alloc (Nat.le_refl _) _⟩
set_option maxRecDepth 100000 in
theorem sortNil_any (f : Nat) (cb : Array Value) (w : World) :
    Calls Tryd.prog 72 #[.slice none 0 0, .func (.func f) #[] cb] w fun e w' => e = .returned (.tuple #[]) ∧ w' = w := by
  have INS : ∀ w', Calls Tryd.prog 98 #[.slice none 0 0, .int .i64 0, .int .i64 0, .func (.func f) #[] cb] w' fun e w1 => e = .returned (.tuple #[]) ∧ w1 = w' := by
    intro w'
    go_enter Tryd.func98, Tryd.ntmps98
    go_wp2
    go_loopw [8, 9] (fun i j wr => i = .int .i64 1 ∧ wr = w') (fun _ _ _ => 0)
    case atStart => exact ⟨rfl, rfl⟩
    case round =>
      obtain ⟨rfl, rfl⟩ := hrel
      go_wp2
      go_end0
      exact ⟨rfl, rfl⟩
  have ST : Calls Tryd.prog 88 #[.slice none 0 0, .int .i64 0, .func (.func f) #[] cb] w fun e w1 => e = .returned (.tuple #[]) ∧ w1 = w := by
    go_enter Tryd.func88, Tryd.ntmps88
    go_wp2_with fail
    go_loopw [7, 8] (fun u v wr => u = .int .i64 0 ∧ v = .int .i64 20 ∧ wr = w) (fun _ _ _ => 0)
    case atStart => exact ⟨rfl, rfl, rfl⟩
    case round =>
      obtain ⟨rfl, rfl, rfl⟩ := hrel
      go_wp2_with fail
      refine (INS _).mono ?_
      rintro e w1 ⟨rfl, rfl⟩
      go_wp2_with fail
      go_loopw [6, 7, 8, 9] (fun z x y m wr => z = .int .i64 20 ∧ wr = w1) (fun _ _ _ _ _ => 0)
      case atStart => exact ⟨rfl, rfl⟩
      case round =>
        obtain ⟨rfl, rfl⟩ := hrel
        go_wp2_with fail
        go_end0
        exact ⟨rfl, rfl⟩
  go_enter Tryd.func72, Tryd.ntmps72
  go_wp2_with fail
  refine ST.mono ?_
  rintro e w1 ⟨rfl, rfl⟩
  go_wp2_with fail
  go_end0
  exact ⟨rfl, rfl⟩
theorem fileN_at (xs : List FileD) (k : Nat) (h : k < xs.length) : fileN xs k = xs[k] := by unfold fileN; simp [List.getD_eq_getElem?_getD, List.getElem?_eq_getElem h]
theorem FR.of_own {w : World} {base g n c : Nat} {xs : List FileD} (h : OwnN encF 3 w base 33 (.slice (some ⟨g, 0, none⟩) n c) xs) : FR (fileN xs) w g xs.length (fun k => k) := by
  have hrow := OwnN.row encF_ok h
  obtain ⟨cur, hg⟩ := (OwnN.lt h (g := g) rfl).2.2
  refine ⟨cur, hg, fun k hk => ?_⟩
  obtain ⟨g', o', hva, hel⟩ := RowN.el (show RowN encF 3 (base ≤ ·) w (.slice (some ⟨g, 0, none⟩) n c) xs from hrow) hk
  simp at hva
  obtain ⟨rfl, rfl⟩ := hva
  have e := hel k hk
  have c0 := e.f0
  have c1 := e.f1
  have c2 := e.f2
  rw [cell_of_row _ _ _ _ _ _ hg, Nat.zero_add] at c0 c1 c2
  rw [fileN_at xs k hk]
  exact ⟨c0, c1, c2⟩
theorem FR.row {F : Nat → FileD} {w : World} {g n c : Nat} {d : Nat → Nat} (h : FR F w g n d) (hc : n ≤ c) : RowN encF 3 (fun _ => True) w (.slice (some ⟨g, 0, none⟩) n c) ((seg d 0 n).map F) := by
  have hl : ((seg d 0 n).map F).length = n := by rw [List.length_map, seg_len]
  refine ⟨some ⟨g, 0, none⟩, c, by rw [hl], by rw [hl]; exact hc, fun i hi => ⟨g, 0, rfl, trivial, ?_⟩⟩
  have hi' : i < n := by rw [← hl]; exact hi
  have e : ((seg d 0 n).map F)[i] = F (d i) := by rw [List.getElem_map, seg_get]
  rw [e]
  intro r u hu
  rw [Nat.zero_add]
  match r, hu with
  | 0, hu => simp [encF] at hu; subst hu; exact h.c0 hi'
  | 1, hu => simp [encF] at hu; subst hu; exact h.c1 hi'
  | 2, hu => simp [encF] at hu; subst hu; exact h.c2 hi'
set_option maxRecDepth 100000 in
theorem tSort_any (v : Value) (xs : List FileD) (w : World) (hrow : RowN encF 3 (fun _ => True) w v xs) (hok : ∀ x ∈ xs, FileOk x) (hl : xs.length ≤ 10000) :
    Calls Tryd.prog 41 #[v] w fun e w' => ∃ v', e = .returned v' ∧ RowN encF 3 (fun _ => True) w' v' (sortS xs) ∧ Below w.heap.size w w' := by
  have PK := Lib.hid (picked_any 71 #[] (fun _ => true) v xs w (enters_of Tryd.func71 (by kernel_rfl) rfl)
    (fun x hx w' hb => sortAll_any _ #[.string ⟨x.path.toArray⟩, .int .i64 x.mode, .string ⟨x.data.toArray⟩] rfl rfl w') hrow hok (by omega))
  have hf : xs.filter (fun _ => true) = xs := List.filter_eq_self.2 (fun _ _ => rfl)
  rw [hf] at PK
  clear hf
  obtain ⟨va, vc, hv, _⟩ := hrow.slice
  subst hv
  have HOK := Lib.hid hok
  clear hrow hok
  go_enter Tryd.func41, Tryd.ntmps41
  go_wp2_with fail
  refine PK.out.mono ?_
  rintro e w1 ⟨v5, rfl, hown, hb1⟩
  have HB1 := Lib.hid hb1
  clear hb1 PK
  rcases hown.2 with ⟨hv5, hn⟩ | ⟨g, cap, cur, hv5, hbg, hg, hle, _⟩
  · subst hv5
    have hx : xs = [] := List.eq_nil_of_length_eq_zero hn
    subst hx
    have SN := Lib.hid (sortNil_any 73 #[] w1)
    go_wp2_with fail
    refine SN.out.mono ?_
    rintro e w2 ⟨rfl, rfl⟩
    go_wp2_with fail
    go_ret
    exact ⟨_, rfl, RowN.nil _ _ _ _, HB1.out⟩
  · subst hv5
    have HF := Lib.hid (FR.of_own hown)
    have ST := Lib.hid (sortStableG_any (F := fileN xs) 73 #[] (cvF xs) (ltF_swo xs) (fun k => k) xs.length g cap w1
      ⟨enters_of Tryd.func73 (by kernel_rfl) rfl, fun W hW x y hx hy => sortCmp_any (fileN xs x) (fileN xs y) (by rw [fileN_at xs x hx]; exact (HOK.out _ (List.getElem_mem hx)).p) (by rw [fileN_at xs y hy]; exact (HOK.out _ (List.getElem_mem hy)).p) W⟩
      HF.out (fun _ _ => rfl) (by omega))
    have HG := Lib.hid (show w.heap.size ≤ g ∧ g < w1.heap.size from ⟨hbg, (Array.getElem?_eq_some_iff.1 hg).1⟩)
    clear hown hg hbg HF
    go_wp2_with fail
    refine ST.out.mono ?_
    rintro e w2 ⟨rfl, d', hs, hp, hfr, hk⟩
    have HR := Lib.hid (hfr.row hle)
    rw [sort_is xs d' hs hp] at HR
    have HB2 := Lib.hid (HB1.out.trans (hk.below HB1.out.size (fun k hk => by have := HG.out.1; omega)))
    clear hs hp hfr hk
    go_wp2_with fail
    go_ret
    exact ⟨_, rfl, HR.out, HB2.out⟩
end Go.Proofs.YtfgimhgkjodcgaaDoor

/- Landed image: Merge, walked. -/
import Derived.Test.YtfgimhgkjodcgaaDoorArgTree
import Derived.Test.YtfgimhgkjodcgaaDoorArgs3
import Derived.Test.YtfgimhgkjodcgaaDoorFrame
import Derived.Test.YtfgimhgkjodcgaaDoorGen
import Derived.Test.YtfgimhgkjodcgaaDoorBdX
import Derived.Test.YtfgimhgkjodcgaaDoorImgMath
import Derived.Test.YtfgimhgkjodcgaaDoorLists
import Derived.Test.YtfgimhgkjodcgaaDoorMarkMath
import Derived.Test.YtfgimhgkjodcgaaDoorMtX
import Derived.Test.YtfgimhgkjodcgaaDoorNextIW
import Derived.Test.YtfgimhgkjodcgaaDoorMeX
import Derived.Test.YtfgimhgkjodcgaaDoorOwnL
import Derived.Test.YtfgimhgkjodcgaaDoorPthX
import Derived.Test.YtfgimhgkjodcgaaDoorProg
import Derived.Test.YtfgimhgkjodcgaaDoorReadMath
import Derived.Test.YtfgimhgkjodcgaaDoorReadW
import Derived.Test.YtfgimhgkjodcgaaDoorCkX
import Derived.Test.YtfgimhgkjodcgaaDoorPuX
import Derived.Test.YtfgimhgkjodcgaaDoorOfX
import Derived.Test.YtfgimhgkjodcgaaDoorRefReadW
import Derived.Test.YtfgimhgkjodcgaaDoorRefSortW
import Derived.Test.YtfgimhgkjodcgaaDoorTrX
import Derived.Test.YtfgimhgkjodcgaaDoorRowN
import Derived.Test.YtfgimhgkjodcgaaDoorRows
import Derived.Test.YtfgimhgkjodcgaaDoorSettledIW
import Derived.Test.YtfgimhgkjodcgaaDoorShelf
import Derived.Test.YtfgimhgkjodcgaaDoorSoX
import Derived.Test.YtfgimhgkjodcgaaDoorTmX
import Derived.Test.YtfgimhgkjodcgaaDoorTlX
import Derived.Test.YtfgimhgkjodcgaaDoorTreeMath
import Derived.BigQuiet
import Derived.BigRegion
import Derived.Deep.Cut
import Derived.Deep.CutRange
import Derived.Deep.DeepCutAuto
import Derived.Deep.LoopGhost
import Derived.Deep.QuietTactic
import Derived.Laws.Externs
import Derived.Laws.RangeAny
import Derived.Lib.AppendStr
import Derived.Lib.Builder
import Derived.Lib.Hide
import Derived.Lib.Strings
import Derived.Lib.Walk
import Derived.LoopTactic
import Derived.Outline
import Derived.StillTail
import Derived.WalkKit
import Derived.WalkLawsBesides
import Derived.WalkSpells
set_option linter.unusedVariables false
namespace Go.Proofs.YtfgimhgkjodcgaaDoor
open Go.RowKit

/-- What of three trees is in memory, what is made of them. -/
structure MG (w wr : World) (T M B : Nat) (a b c : Value) (x y z : List FileD) (vo vt : Value) (out : List FileD) (tn : List Txt) (Z : Array Value) : Prop where
  ht : wr.heap[T]? = some (.cells #[a, b, c] 81 (0, 0))
  ra : RowN encF 3 (fun g => g ≠ T ∧ g < M) wr a x
  rb : RowN encF 3 (fun g => g ≠ T ∧ g < M) wr b y
  rc : RowN encF 3 (fun g => g ≠ T ∧ g < M) wr c z
  o1 : OwnN encF 3 wr M 33 vo out
  o2 : OwnN encS 1 wr M 9 vt tn
  hb : wr.heap[B]? = some (.cells Z 83 (0, 0))
  bel : Below w.heap.size w wr
  lt : w.heap.size ≤ T ∧ T < M ∧ M ≤ B
section
variable {w wr w' : World} {T M B : Nat} {a b c vo vt v' : Value} {x y z out out' : List FileD} {tn tn' : List Txt} {Z : Array Value}
theorem MG.new (G : MG w wr T M B a b c x y z vo vt out tn Z) (hb : Below wr.heap.size wr w') : MG w w' T M B a b c x y z vo vt out tn Z := by
  have k := Kept.new hb (fun _ => False)
  exact ⟨k.old G.ht id, G.ra.keep hb, G.rb.keep hb, G.rc.keep hb, G.o1.new hb, G.o2.new hb, k.old G.hb id, G.bel.trans (hb.mono G.bel.size), G.lt⟩
theorem own_ne_ty {α : Type} {enc : α → List Value} {k : Nat} {w : World} {base g : Nat} {e t : TypeId} {v : Value} {xs : List α} {cs : Array Value} {fr : Nat × Nat} (h : OwnN enc k w base e v xs) (hr : w.heap[g]? = some (.cells cs t fr)) (he : e ≠ t) : ¬ v.ownBlock = some g := by
  intro hg
  obtain ⟨_, _, cur, hc⟩ := h.lt hg
  rw [hr] at hc
  injection hc with hc
  injection hc with _ hc _
  exact he hc.symm
theorem MG.push1 (G : MG w wr T M B a b c x y z vo vt out tn Z) (ho : OwnN encF 3 w' M 33 v' out') (ht : TurnN M wr vo w' v') : MG w w' T M B a b c x y z v' vt out' tn Z := by
  have l := G.lt
  have n : ∀ g, (g ≠ T ∧ g < M) → ¬ vo.ownBlock = some g := fun g h e => by have := (G.o1.lt e).1; omega
  exact ⟨ht.kept.old G.ht (fun e => by have := (G.o1.lt e).1; omega), G.ra.kept ht.kept n, G.rb.kept ht.kept n, G.rc.kept ht.kept n, ho, G.o2.kept ht.kept (fun g' hg e => own_apart G.o1 G.o2 (by decide) e hg),
    ht.kept.old G.hb (own_ne_ty G.o1 G.hb (by decide)), G.bel.trans (ht.bel.mono (by omega)), l⟩
theorem MG.push2 (G : MG w wr T M B a b c x y z vo vt out tn Z) (ho : OwnN encS 1 w' M 9 v' tn') (ht : TurnN M wr vt w' v') : MG w w' T M B a b c x y z vo v' out tn' Z := by
  have l := G.lt
  have n : ∀ g, (g ≠ T ∧ g < M) → ¬ vt.ownBlock = some g := fun g h e => by have := (G.o2.lt e).1; omega
  exact ⟨ht.kept.old G.ht (fun e => by have := (G.o2.lt e).1; omega), G.ra.kept ht.kept n, G.rb.kept ht.kept n, G.rc.kept ht.kept n, G.o1.kept ht.kept (fun g' hg e => own_apart G.o1 G.o2 (by decide) hg e), ho,
    ht.kept.old G.hb (own_ne_ty G.o2 G.hb (by decide)), G.bel.trans (ht.bel.mono (by omega)), l⟩
theorem MG.bc (G : MG w wr T M B a b c x y z vo vt out tn Z) (j : Nat) (v : Value) (e : Z[j]? = some v) : wr.cell? ⟨B, j, none⟩ = some v := by rw [cell_of_row _ _ _ _ _ _ G.hb]; exact e
theorem MG.bf (G : MG w wr T M B a b c x y z vo vt out tn Z) (j : Nat) : wr.frozen? ⟨B, j, none⟩ = false := frozen_of_row _ _ _ _ _ G.hb
theorem MG.newB {Z' : Array Value} (G : MG w wr T M B a b c x y z vo vt out tn Z) : MG w (wr.alloc (.cells Z' 83)) T M wr.heap.size a b c x y z vo vt out tn Z' := by
  have l := G.lt
  have hB : B < wr.heap.size := (Array.getElem?_eq_some_iff.1 G.hb).1
  have G2 := G.new ((Below.refl wr.heap.size wr).alloc (Nat.le_refl _) (.cells Z' 83))
  exact ⟨G2.ht, G2.ra, G2.rb, G2.rc, G2.o1, G2.o2, heap_alloc_new _ _, G2.bel, by omega⟩
theorem MG.next {a' b' c' : Value} {x' y' z' : List FileD} (G : MG w wr T M B a b c x y z vo vt out tn Z) (h : w'.heap[T]? = some (.cells #[a', b', c'] 81 (0, 0))) (ra : RowN encF 3 (fun g => g ≠ T ∧ g < M) wr a' x') (rb : RowN encF 3 (fun g => g ≠ T ∧ g < M) wr b' y') (rc : RowN encF 3 (fun g => g ≠ T ∧ g < M) wr c' z') (k : Kept (· = T) wr w') :
    MG w w' T M B a' b' c' x' y' z' vo vt out tn Z := by
  have l := G.lt
  have n : ∀ g, (g ≠ T ∧ g < M) → ¬ g = T := fun g h => h.1
  exact ⟨h, ra.kept k n, rb.kept k n, rc.kept k n, G.o1.kept k (fun g hg e => by have := (G.o1.lt hg).1; omega), G.o2.kept k (fun g hg e => by have := (G.o2.lt hg).1; omega), k.old G.hb (by omega), G.bel.trans (k.below G.bel.size (fun i e => by omega)), l⟩
theorem MG.setB {Z' : Array Value} (G : MG w wr T M B a b c x y z vo vt out tn Z) (h : w'.heap[B]? = some (.cells Z' 83 (0, 0))) (k : Kept (· = B) wr w') : MG w w' T M B a b c x y z vo vt out tn Z' := by
  have l := G.lt
  have n : ∀ g, (g ≠ T ∧ g < M) → ¬ g = B := fun g h => by omega
  exact ⟨k.old G.ht (by omega), G.ra.kept k n, G.rb.kept k n, G.rc.kept k n, G.o1.kept k (fun g hg e => own_ne_ty G.o1 G.hb (by decide) (e ▸ hg)), G.o2.kept k (fun g hg e => own_ne_ty G.o2 G.hb (by decide) (e ▸ hg)), h, G.bel.trans (k.below G.bel.size (fun i e => by omega)), l⟩
end
theorem outM_nil (n : Nat) {x y z : List FileD} (h : first3 x y z = []) : outM n x y z = [] ∧ tornM n x y z = [] := by
  cases n with
  | zero => exact ⟨rfl, rfl⟩
  | succ n => unfold outM tornM; rw [if_pos h, if_pos h]; exact ⟨rfl, rfl⟩
theorem out1_len (t : FileD × Bool) : (out1 t).length ≤ 1 := by unfold out1; split <;> simp
theorem torn1_len (t : FileD × Bool) (p : Txt) : (torn1 t p).length ≤ 1 := by unfold torn1; split <;> simp
theorem lookH_ok {l : List FileD} (p : Txt) (h : ∀ f ∈ l, FileOk f) : FileOk (lookH l p) := by
  unfold lookH
  cases l with
  | nil => exact ⟨by simp [zF], by simp [zF], by simp [zF]⟩
  | cons f r =>
    dsimp only
    split
    · exact h f (by simp)
    · exact ⟨by simp [zF], by simp [zF], by simp [zF]⟩
theorem restH_ok {l : List FileD} (p : Txt) (h : ∀ f ∈ l, FileOk f) : ∀ f ∈ restH l p, FileOk f := by
  unfold restH
  cases l with
  | nil => exact h
  | cons g r =>
    dsimp only
    split
    · exact fun f hf => h f (by simp [hf])
    · exact h
theorem settF_ok {b x y : FileD} (hx : FileOk x) (hy : FileOk y) : FileOk (settF b x y).1 := by
  unfold settF
  split
  · exact hx
  · split
    · exact hy
    · exact hx
/-- The three trees' block, as it is filled. -/
structure M3 (w wr : World) (a b c : Value) : Prop where
  ht : wr.heap[w.heap.size]? = some (.cells #[a, b, c] 81 (0, 0))
  bel : Below w.heap.size w wr
section
variable {w wr w' : World} {a b c : Value}
theorem M3.tc (h : M3 w wr a b c) (j : Nat) (v : Value) (e : #[a, b, c][j]? = some v) : wr.cell? ⟨w.heap.size, j, none⟩ = some v := by rw [cell_of_row _ _ _ _ _ _ h.ht]; exact e
theorem M3.tf (h : M3 w wr a b c) (j : Nat) : wr.frozen? ⟨w.heap.size, j, none⟩ = false := frozen_of_row _ _ _ _ _ h.ht
theorem M3.new (h : M3 w wr a b c) (hb : Below wr.heap.size wr w') : M3 w w' a b c :=
  ⟨(Kept.new hb (fun _ => False)).old h.ht id, h.bel.trans (hb.mono h.bel.size)⟩
theorem M3.put0 (h : M3 w wr a b c) (v : Value) : M3 w (wr.setCell ⟨w.heap.size, 0, none⟩ v) v b c :=
  ⟨heap_setCell_same wr w.heap.size 0 _ _ _ h.ht, h.bel.setCell (p := ⟨w.heap.size, 0, none⟩) (Nat.le_refl _) v⟩
theorem M3.put1 (h : M3 w wr a b c) (v : Value) : M3 w (wr.setCell ⟨w.heap.size, 1, none⟩ v) a v c :=
  ⟨heap_setCell_same wr w.heap.size 1 _ _ _ h.ht, h.bel.setCell (p := ⟨w.heap.size, 1, none⟩) (Nat.le_refl _) v⟩
theorem M3.put2 (h : M3 w wr a b c) (v : Value) : M3 w (wr.setCell ⟨w.heap.size, 2, none⟩ v) a b v :=
  ⟨heap_setCell_same wr w.heap.size 2 _ _ _ h.ht, h.bel.setCell (p := ⟨w.heap.size, 2, none⟩) (Nat.le_refl _) v⟩
end
abbrev RowT (w wr : World) (v : Value) (l : List FileD) : Prop := RowN encF 3 (· ≠ w.heap.size) wr v l
theorem RowN.fix {N : Nat → Prop} {w : World} {v : Value} {l : List FileD} (h : RowN encF 3 N w v l) : RowN encF 3 (fun g => N g ∧ g < w.heap.size) w v l := by
  obtain ⟨a, c, rfl, hl, hx⟩ := h
  refine ⟨a, c, rfl, hl, fun i hi => ?_⟩
  obtain ⟨g, o, he, hn, hel⟩ := hx i hi
  exact ⟨g, o, he, ⟨hn, World.block_lt_of_cell? w _ (hel 0 _ rfl)⟩, hel⟩
set_option maxRecDepth 100000 in
set_option maxHeartbeats 8000000 in
theorem iMerge_any (s t u : Txt) (w : World) (hs : s.length ≤ 1000000) (ht : t.length ≤ 1000000) (hu : u.length ≤ 1000000) :
    Calls Tryd.prog 24 #[.string ⟨s.toArray⟩, .string ⟨t.toArray⟩, .string ⟨u.toArray⟩] w fun e w' => ∃ v', e = .returned (.tuple #[.string ⟨(mergeS s t u).s.toArray⟩, v', .int .i64 (mergeS s t u).e]) ∧ RowN encS 1 (fun _ => True) w' v' (mergeS s t u).l ∧ Below w.heap.size w w' := by
  have T1 := Lib.hid (fun w' => iTreeO_any s w' hs)
  have T2 := Lib.hid (fun w' => iTreeO_any t w' ht)
  have T3 := Lib.hid (fun w' => iTreeO_any u w' hu)
  obtain ⟨ox, lx⟩ := treeS_ok s
  obtain ⟨oy, ly⟩ := treeS_ok t
  obtain ⟨oz, lz⟩ := treeS_ok u
  have ax := tree_asc s
  have ay := tree_asc t
  have az := tree_asc u
  have HM := Lib.hid (show mergeS s t u = if (treeS s).2 ≠ 0 then ⟨[], [], (treeS s).2⟩ else if (treeS t).2 ≠ 0 then ⟨[], [], (treeS t).2⟩ else if (treeS u).2 ≠ 0 then ⟨[], [], (treeS u).2⟩ else mergeE (treeS s).1 (treeS t).1 (treeS u).1 from rfl)
  generalize mergeS s t u = res at *
  generalize treeS s = t1 at *
  generalize treeS t = t2 at *
  generalize treeS u = t3 at *
  obtain ⟨x, e1⟩ := t1
  obtain ⟨y, e2⟩ := t2
  obtain ⟨z, e3⟩ := t3
  dsimp only at T1 T2 T3 ox oy oz lx ly lz ax ay az HM
  have OX := Lib.hid ox
  have OY := Lib.hid oy
  have OZ := Lib.hid oz
  have AX := Lib.hid ax
  have AY := Lib.hid ay
  have AZ := Lib.hid az
  clear ox oy oz ax ay az
  have i0 : ∀ w, (Instr.index 82 (.agg #[.string ⟨s.toArray⟩, .string ⟨t.toArray⟩, .string ⟨u.toArray⟩]) (.int .i64 0)).run Tryd.prog w = .ok (.string ⟨s.toArray⟩) w := fun _ => by kernel_rfl
  have i1 : ∀ w, (Instr.index 82 (.agg #[.string ⟨s.toArray⟩, .string ⟨t.toArray⟩, .string ⟨u.toArray⟩]) (.int .i64 1)).run Tryd.prog w = .ok (.string ⟨t.toArray⟩) w := fun _ => by kernel_rfl
  have i2 : ∀ w, (Instr.index 82 (.agg #[.string ⟨s.toArray⟩, .string ⟨t.toArray⟩, .string ⟨u.toArray⟩]) (.int .i64 2)).run Tryd.prog w = .ok (.string ⟨u.toArray⟩) w := fun _ => by kernel_rfl
  have M0 := Lib.hid (show M3 w (w.alloc (.cells #[.slice none 0 0, .slice none 0 0, .slice none 0 0] 81)) (.slice none 0 0) (.slice none 0 0) (.slice none 0 0) from ⟨heap_alloc_new _ _, (Below.refl _ _).alloc (Nat.le_refl _) _⟩)
  go_enter Tryd.func24, Tryd.ntmps24
  go_wp2_with fail
  generalize w.alloc (.cells #[.slice none 0 0, .slice none 0 0, .slice none 0 0] 81) = w0 at *
  go_loopw [10, 11, 12, 13, 27] (fun _ _ _ _ v27 wr => ∃ (k : Nat) (a b c : Value), v27 = .int .i64 k ∧ M3 w wr a b c ∧ ((k = 0) ∨ (k = 1 ∧ e1 = 0 ∧ RowT w wr a x) ∨ (k = 2 ∧ e1 = 0 ∧ e2 = 0 ∧ RowT w wr a x ∧ RowT w wr b y) ∨ (k = 3 ∧ e1 = 0 ∧ e2 = 0 ∧ e3 = 0 ∧ RowT w wr a x ∧ RowT w wr b y ∧ RowT w wr c z))) (fun _ _ _ _ v27 _ => 3 - (intOf v27).toNat)
  case atStart => exact ⟨0, _, _, _, rfl, M0.out, .inl rfl⟩
  case round =>
    clear M0
    obtain ⟨k, a, b, c, rfl, hm, hk⟩ := hrel
    have G := Lib.hid hm
    clear hm
    rcases hk with rfl | ⟨rfl, he1, ra⟩ | ⟨rfl, he1, he2, ra, rb⟩ | ⟨rfl, he1, he2, he3, ra, rb, rc⟩
    · have HE := Lib.hid (show ∀ v : Int, e1 = v → e1 = v from fun _ h => h)
      clear HE
      by_cases hte : e1 = 0
      · have q1 : (e1 != 0) = false := by simp [hte]
        have QN := Lib.hid hte
        clear hte
        go_wp2_with fail
        refine (T1.out _).mono ?_
        rintro e w2 ⟨v2, rfl, ho2, hb2⟩
        obtain ⟨va, vm, vc, hv⟩ := own_slice ho2
        subst hv
        have G2 := Lib.hid (G.out.new hb2)
        have t0 := G2.out.tc 0 _ rfl
        have tf := G2.out.tf 0
        have G3 := Lib.hid (G2.out.put0 (.slice va vm vc))
        have hT := (Array.getElem?_eq_some_iff.1 G.out.ht).1
        have KS := Lib.hid (nkept w2 w.heap.size 0 (.slice va vm vc))
        have RN := Lib.hid ((OwnN.row encF_ok ho2).mono (fun g (h : _ ≤ g) => (show g ≠ w.heap.size by omega)))
        have RN2 := Lib.hid (RN.out.kept KS.out (fun g h e => h e))
        clear hb2 ho2 RN
        go_wp2_with fail
        generalize w2.setCell ⟨w.heap.size, 0, none⟩ (.slice va vm vc) = w3 at *
        go_roundw
        case rel => exact ⟨1, _, _, _, by go_num, G3.out, .inr (.inl ⟨rfl, QN.out, RN2.out⟩)⟩
        case measure => simp [intOf]
      · have q1 : (e1 != 0) = true := by simp [hte]
        have HR := Lib.hid (show res = ⟨[], [], e1⟩ by rw [HM.out, if_pos hte])
        clear hte
        go_wp2_with fail
        refine (T1.out _).mono ?_
        rintro e w2 ⟨v2, rfl, ho2, hb2⟩
        obtain ⟨va, vm, vc, hv⟩ := own_slice ho2
        subst hv
        have G2 := Lib.hid (G.out.new hb2)
        clear hb2 ho2
        go_wp2_with fail
        go_ret3
        exact ⟨_, by rw [HR.out]; rfl, by rw [HR.out]; exact RowN.nil _ _ _ _, G2.out.bel⟩
    · have Q1 := Lib.hid he1
      have Ra := Lib.hid ra
      clear he1 ra
      have HE := Lib.hid (show ∀ v : Int, e2 = v → e2 = v from fun _ h => h)
      clear HE
      by_cases hte : e2 = 0
      · have q1 : (e2 != 0) = false := by simp [hte]
        have QN := Lib.hid hte
        clear hte
        go_wp2_with fail
        refine (T2.out _).mono ?_
        rintro e w2 ⟨v2, rfl, ho2, hb2⟩
        obtain ⟨va, vm, vc, hv⟩ := own_slice ho2
        subst hv
        have G2 := Lib.hid (G.out.new hb2)
        have t0 := G2.out.tc 1 _ rfl
        have tf := G2.out.tf 1
        have G3 := Lib.hid (G2.out.put1 (.slice va vm vc))
        have hT := (Array.getElem?_eq_some_iff.1 G.out.ht).1
        have KS := Lib.hid (nkept w2 w.heap.size 1 (.slice va vm vc))
        have RN := Lib.hid ((OwnN.row encF_ok ho2).mono (fun g (h : _ ≤ g) => (show g ≠ w.heap.size by omega)))
        have RN2 := Lib.hid (RN.out.kept KS.out (fun g h e => h e))
        have Ra2 := Lib.hid ((Ra.out.keep hb2).kept KS.out (fun g h e => h e))
        clear hb2 ho2 RN
        go_wp2_with fail
        generalize w2.setCell ⟨w.heap.size, 1, none⟩ (.slice va vm vc) = w3 at *
        go_roundw
        case rel => exact ⟨2, _, _, _, by go_num, G3.out, .inr (.inr (.inl ⟨rfl, Q1.out, QN.out, Ra2.out, RN2.out⟩))⟩
        case measure => simp [intOf]
      · have q1 : (e2 != 0) = true := by simp [hte]
        have HR := Lib.hid (show res = ⟨[], [], e2⟩ by rw [HM.out, if_neg (fun k => k Q1.out), if_pos hte])
        clear hte
        go_wp2_with fail
        refine (T2.out _).mono ?_
        rintro e w2 ⟨v2, rfl, ho2, hb2⟩
        obtain ⟨va, vm, vc, hv⟩ := own_slice ho2
        subst hv
        have G2 := Lib.hid (G.out.new hb2)
        clear hb2 ho2
        go_wp2_with fail
        go_ret3
        exact ⟨_, by rw [HR.out]; rfl, by rw [HR.out]; exact RowN.nil _ _ _ _, G2.out.bel⟩
    · have Q1 := Lib.hid he1
      have Q2 := Lib.hid he2
      have Ra := Lib.hid ra
      have Rb := Lib.hid rb
      clear he1 he2 ra rb
      have HE := Lib.hid (show ∀ v : Int, e3 = v → e3 = v from fun _ h => h)
      clear HE
      by_cases hte : e3 = 0
      · have q1 : (e3 != 0) = false := by simp [hte]
        have QN := Lib.hid hte
        clear hte
        go_wp2_with fail
        refine (T3.out _).mono ?_
        rintro e w2 ⟨v2, rfl, ho2, hb2⟩
        obtain ⟨va, vm, vc, hv⟩ := own_slice ho2
        subst hv
        have G2 := Lib.hid (G.out.new hb2)
        have t0 := G2.out.tc 2 _ rfl
        have tf := G2.out.tf 2
        have G3 := Lib.hid (G2.out.put2 (.slice va vm vc))
        have hT := (Array.getElem?_eq_some_iff.1 G.out.ht).1
        have KS := Lib.hid (nkept w2 w.heap.size 2 (.slice va vm vc))
        have RN := Lib.hid ((OwnN.row encF_ok ho2).mono (fun g (h : _ ≤ g) => (show g ≠ w.heap.size by omega)))
        have RN2 := Lib.hid (RN.out.kept KS.out (fun g h e => h e))
        have Ra2 := Lib.hid ((Ra.out.keep hb2).kept KS.out (fun g h e => h e))
        have Rb2 := Lib.hid ((Rb.out.keep hb2).kept KS.out (fun g h e => h e))
        clear hb2 ho2 RN
        go_wp2_with fail
        generalize w2.setCell ⟨w.heap.size, 2, none⟩ (.slice va vm vc) = w3 at *
        go_roundw
        case rel => exact ⟨3, _, _, _, by go_num, G3.out, .inr (.inr (.inr ⟨rfl, Q1.out, Q2.out, QN.out, Ra2.out, Rb2.out, RN2.out⟩))⟩
        case measure => simp [intOf]
      · have q1 : (e3 != 0) = true := by simp [hte]
        have HR := Lib.hid (show res = ⟨[], [], e3⟩ by rw [HM.out, if_neg (fun k => k Q1.out), if_neg (fun k => k Q2.out), if_pos hte])
        clear hte
        go_wp2_with fail
        refine (T3.out _).mono ?_
        rintro e w2 ⟨v2, rfl, ho2, hb2⟩
        obtain ⟨va, vm, vc, hv⟩ := own_slice ho2
        subst hv
        have G2 := Lib.hid (G.out.new hb2)
        clear hb2 ho2
        go_wp2_with fail
        go_ret3
        exact ⟨_, by rw [HR.out]; rfl, by rw [HR.out]; exact RowN.nil _ _ _ _, G2.out.bel⟩
    · have HMM := Lib.hid (show res = mergeE x y z by rw [HM.out, if_neg (fun k => k he1), if_neg (fun k => k he2), if_neg (fun k => k he3)])
      have Ra := Lib.hid ra.fix
      have Rb := Lib.hid rb.fix
      have Rc := Lib.hid rc.fix
      have hTM := (Array.getElem?_eq_some_iff.1 G.out.ht).1
      obtain ⟨mo1, mo2⟩ := mergeO_is AX.out AY.out AZ.out
      have hn3 : n3 x y z ≤ 768 := by unfold n3; omega
      obtain ⟨FO, hFO⟩ : ∃ FO, FO = outM (n3 x y z) x y z := ⟨_, rfl⟩
      obtain ⟨FT, hFT⟩ : ∃ FT, FT = tornM (n3 x y z) x y z := ⟨_, rfl⟩
      rw [← hFO] at mo1
      rw [← hFT] at mo2
      have HME := Lib.hid (show res = if (imgS FO).2 ≠ 0 then ⟨[], [], (imgS FO).2⟩ else ⟨(imgS FO).1, FT, 0⟩ by rw [HMM.out]; unfold mergeE; rw [mo1, mo2])
      have HF0 := Lib.hid (show [] ++ outM (n3 x y z) x y z = FO ∧ [] ++ tornM (n3 x y z) x y z = FT from ⟨hFO.symm, hFT.symm⟩)
      have NX1 := Lib.hid (next_any (fun g => g ≠ w.heap.size ∧ g < wr.heap.size) w.heap.size (fun g h => h.1) a b c x y z wr G.out.ht Ra.out Rb.out Rc.out OX.out OY.out OZ.out (by omega) (by omega) (by omega))
      obtain ⟨p, hp⟩ : ∃ p, p = first3 x y z := ⟨_, rfl⟩
      rw [← hp] at NX1
      obtain ⟨fa, hfa⟩ : ∃ fa, fa = lookH x p := ⟨_, rfl⟩
      obtain ⟨fb, hfb⟩ : ∃ fb, fb = lookH y p := ⟨_, rfl⟩
      obtain ⟨fc, hfc⟩ : ∃ fc, fc = lookH z p := ⟨_, rfl⟩
      rw [← hfa, ← hfb, ← hfc] at NX1
      have HP := Lib.hid (show p = first3 x y z ∧ fa = lookH x p ∧ fb = lookH y p ∧ fc = lookH z p from ⟨hp, hfa, hfb, hfc⟩)
      have HBW := Lib.hid G.out.bel
      obtain ⟨T, hT⟩ : ∃ T, T = w.heap.size := ⟨_, rfl⟩
      obtain ⟨M, hM⟩ : ∃ M, M = wr.heap.size := ⟨_, rfl⟩
      rw [← hT] at NX1 hTM ⊢
      rw [← hM] at NX1 hTM
      have HTM := Lib.hid (show w.heap.size ≤ T ∧ T < M by omega)
      have HMW := Lib.hid hM
      clear he1 he2 he3 ra rb rc HM mo1 mo2 hFO hFT hp hfa hfb hfc hT hM hTM G Ra Rb Rc HMM
      have HN3 := Lib.hid hn3
      obtain ⟨N0, hN0⟩ : ∃ N0, N0 = n3 x y z := ⟨_, rfl⟩
      have HLN := Lib.hid (show x.length + y.length + z.length ≤ N0 by rw [hN0]; exact Nat.le_refl _)
      rw [← hN0] at HF0 HN3 hn3
      clear hN0
      go_wp2_with fail
      refine NX1.out.mono ?_
      rintro e w2 ⟨a1, b1, c1, rfl, h1, r1, r2, r3, k1⟩
      have G2 := Lib.hid (show MG w (w2.alloc (.cells (nine fa fb fc) 83)) T M w2.heap.size a1 b1 c1 (restH x p) (restH y p) (restH z p) (.slice none 0 0) (.slice none 0 0) [] [] (nine fa fb fc) from by
        have hb3 := (Below.refl w2.heap.size w2).alloc (Nat.le_refl _) (.cells (nine fa fb fc) 83)
        have n : ∀ g, (g ≠ T ∧ g < M) → ¬ g = T := fun g h => h.1
        have hs := k1.size
        have hmw := HMW.out
        have htm := HTM.out
        exact ⟨(Kept.new hb3 (fun _ => False)).old h1 id, (r1.kept k1 n).keep hb3, (r2.kept k1 n).keep hb3, (r3.kept k1 n).keep hb3, OwnN.nil _ _ _ _ _, OwnN.nil _ _ _ _ _, heap_alloc_new _ _, (HBW.out.trans (k1.below HBW.out.size (fun i e => by omega))).trans (hb3.mono (by have := HBW.out.size; omega)), by omega⟩)
      clear h1 r1 r2 r3 k1 NX1 HBW HMW
      unfold nine at G2 ⊢
      go_wp2_with fail
      generalize w2.alloc (.cells #[.string ⟨fa.path.toArray⟩, .int .i64 fa.mode, .string ⟨fa.data.toArray⟩, .string ⟨fb.path.toArray⟩, .int .i64 fb.mode, .string ⟨fb.data.toArray⟩, .string ⟨fc.path.toArray⟩, .int .i64 fc.mode, .string ⟨fc.data.toArray⟩] 83) = w3 at *
      generalize w2.heap.size = B0 at *
      go_loopg [15, 16, 17, 18] N0 (fun gg v15 v16 v17 v18 wr => ∃ (B : Nat) (xs ys zs out : List FileD) (tn : List Txt) (a b c : Value) (p : Txt) (fa fb fc : FileD), v17 = .string ⟨p.toArray⟩ ∧ v18 = .pointer (some ⟨B, 0, none⟩) ∧ Hid (p = first3 xs ys zs ∧ fa = lookH xs p ∧ fb = lookH ys p ∧ fc = lookH zs p) ∧
        MG w wr T M B a b c (restH xs p) (restH ys p) (restH zs p) v15 v16 out tn (nine fa fb fc) ∧ Hid (AscF xs ∧ AscF ys ∧ AscF zs) ∧ Hid ((∀ f ∈ xs, FileOk f) ∧ (∀ f ∈ ys, FileOk f) ∧ (∀ f ∈ zs, FileOk f) ∧ (∀ f ∈ out, FileOk f)) ∧ Hid (xs.length + ys.length + zs.length ≤ gg) ∧ gg ≤ 768 ∧
        Hid (out ++ outM gg xs ys zs = FO ∧ tn ++ tornM gg xs ys zs = FT) ∧ out.length + gg ≤ 768 ∧ tn.length + gg ≤ 768)
      case atStart => exact ⟨_, x, y, z, [], [], _, _, _, p, fa, fb, fc, rfl, rfl, HP, G2.out, Lib.hid ⟨AX.out, AY.out, AZ.out⟩, Lib.hid ⟨OX.out, OY.out, OZ.out, fun f hf => by cases hf⟩, HLN, hn3, HF0, by simpa using hn3, by simpa using hn3⟩
      case round =>
        clear G2 HLN hn3 HF0 HP AX AY AZ OX OY OZ HN3
        obtain ⟨B, xs, ys, zs, out, tn, a, b, c, p, fa, fb, fc, rfl, rfl, HP, hg, HA, HO, HL, hgg, HF, hol, htl⟩ := hrel
        have G := Lib.hid hg
        clear hg
        obtain ⟨oa, om, oc, hv⟩ := own_slice G.out.o1
        subst hv
        obtain ⟨ta, tm, tc, hv⟩ := own_slice G.out.o2
        subst hv
        by_cases hpe : p = []
        · have hp0 : first3 xs ys zs = [] := by rw [← HP.out.1]; exact hpe
          obtain ⟨n1, n2⟩ := outM_nil gk hp0
          have HFO := Lib.hid (show out = FO by have := HF.out.1; rw [n1, List.append_nil] at this; exact this)
          have HFT := Lib.hid (show tn = FT by have := HF.out.2; rw [n2, List.append_nil] at this; exact this)
          have qp : (p != []) = false := by simp [hpe]
          have qe : (p == []) = true := by simp [hpe]
          have IM := Lib.hid (iOf_any (.slice oa om oc) out wr ((OwnN.row encF_ok G.out.o1).mono (fun _ _ => trivial)) HO.out.2.2.2 (by omega))
          rw [HFO.out] at IM
          generalize imgS FO = img at *
          obtain ⟨ib, ie⟩ := img
          dsimp only at IM HME
          clear hpe hp0 n1 n2 HF
          go_wp2_with fail
          refine IM.out.mono ?_
          rintro e w5 ⟨rfl, hb5⟩
          have G5 := Lib.hid (G.out.new hb5)
          clear hb5 IM
          by_cases hie : ie = 0
          · have q1 : (ie != 0) = false := by simp [hie]
            have HR := Lib.hid (show res = ⟨ib, FT, 0⟩ by rw [HME.out, if_neg (fun k => k hie)])
            clear hie
            go_wp2_with fail
            go_ret3
            exact ⟨_, by rw [HR.out]; rfl, by rw [HR.out, ← HFT.out]; exact (OwnN.row encS_ok G5.out.o2).mono (fun _ _ => trivial), G5.out.bel⟩
          · have q1 : (ie != 0) = true := by simp [hie]
            have HR := Lib.hid (show res = ⟨[], [], ie⟩ by rw [HME.out, if_pos hie])
            clear hie
            go_wp2_with fail
            go_ret3
            exact ⟨_, by rw [HR.out]; rfl, by rw [HR.out]; exact RowN.nil _ _ _ _, G5.out.bel⟩
        · have hp0 : first3 xs ys zs ≠ [] := by rw [← HP.out.1]; exact hpe
          have hsm := first3_some HA.out.1 HA.out.2.1 HA.out.2.2 hp0
          have hlea := first3_least HA.out.1 HA.out.2.1 HA.out.2.2 hp0
          rw [← HP.out.1] at hlea
          have hrl := rests_len hlea
          obtain ⟨g1, rfl⟩ : ∃ g1, gk = g1 + 1 := ⟨gk - 1, by have := HL.out; omega⟩
          have HSE := Lib.hid (settled_any fa fb fc wr)
          have HFE := Lib.hid (show (out ++ out1 (settF fa fb fc)) ++ outM g1 (restH xs p) (restH ys p) (restH zs p) = FO ∧ (tn ++ torn1 (settF fa fb fc) p) ++ tornM g1 (restH xs p) (restH ys p) (restH zs p) = FT by
            have h := HF.out
            unfold outM tornM at h
            rw [if_neg hp0, if_neg hp0, ← HP.out.1, ← HP.out.2.1, ← HP.out.2.2.1, ← HP.out.2.2.2] at h
            rw [List.append_assoc, List.append_assoc]
            exact h)
          have HFOK := Lib.hid (show FileOk (settF fa fb fc).1 by
            refine settF_ok ?_ ?_
            · rw [HP.out.2.2.1]; exact lookH_ok p HO.out.2.1
            · rw [HP.out.2.2.2]; exact lookH_ok p HO.out.2.2.1)
          have HL1 := Lib.hid (show (restH xs p).length + (restH ys p).length + (restH zs p).length ≤ g1 by have := HL.out; omega)
          have HA1 := Lib.hid (show AscF (restH xs p) ∧ AscF (restH ys p) ∧ AscF (restH zs p) from ⟨(rest_mem HA.out.1 hlea.lx).1, (rest_mem HA.out.2.1 hlea.ly).1, (rest_mem HA.out.2.2 hlea.lz).1⟩)
          have HO1 := Lib.hid (show (∀ f ∈ restH xs p, FileOk f) ∧ (∀ f ∈ restH ys p, FileOk f) ∧ (∀ f ∈ restH zs p, FileOk f) ∧ (∀ f ∈ out, FileOk f) from ⟨restH_ok p HO.out.1, restH_ok p HO.out.2.1, restH_ok p HO.out.2.2.1, HO.out.2.2.2⟩)
          have qp : (p != []) = true := by simp [hpe]
          have qe : (p == []) = false := by simp [hpe]
          obtain ⟨sf, hsf⟩ : ∃ sf, sf = settF fa fb fc := ⟨_, rfl⟩
          rw [← hsf] at HSE HFE HFOK
          obtain ⟨f, ok⟩ := sf
          obtain ⟨fp, fm, fd⟩ := f
          clear hsf hpe hp0 hsm hlea hrl HF HL HA HO HP
          unfold aggF at HSE
          dsimp only at HSE HFOK
          have b0 : wr.cell? ⟨B, 0, none⟩ = some (.string ⟨fa.path.toArray⟩) := G.out.bc 0 _ rfl
          have b1 : wr.cell? ⟨B, 1, none⟩ = some (.int .i64 fa.mode) := G.out.bc 1 _ rfl
          have b2 : wr.cell? ⟨B, 2, none⟩ = some (.string ⟨fa.data.toArray⟩) := G.out.bc 2 _ rfl
          have b3 : wr.cell? ⟨B, 3, none⟩ = some (.string ⟨fb.path.toArray⟩) := G.out.bc 3 _ rfl
          have b4 : wr.cell? ⟨B, 4, none⟩ = some (.int .i64 fb.mode) := G.out.bc 4 _ rfl
          have b5 : wr.cell? ⟨B, 5, none⟩ = some (.string ⟨fb.data.toArray⟩) := G.out.bc 5 _ rfl
          have b6 : wr.cell? ⟨B, 6, none⟩ = some (.string ⟨fc.path.toArray⟩) := G.out.bc 6 _ rfl
          have b7 : wr.cell? ⟨B, 7, none⟩ = some (.int .i64 fc.mode) := G.out.bc 7 _ rfl
          have b8 : wr.cell? ⟨B, 8, none⟩ = some (.string ⟨fc.data.toArray⟩) := G.out.bc 8 _ rfl
          go_wp2_with fail
          refine HSE.out.mono ?_
          rintro e w4 ⟨rfl, hb4⟩
          have G4 := Lib.hid ((G.out.new hb4).new ((Below.refl w4.heap.size w4).alloc (Nat.le_refl _) (.cells #[.string ⟨fp.toArray⟩, .int .i64 fm, .string ⟨fd.toArray⟩] 33)))
          have HNF := Lib.hid (heap_alloc_new w4 (.cells #[.string ⟨fp.toArray⟩, .int .i64 fm, .string ⟨fd.toArray⟩] 33))
          clear hb4 HSE b0 b1 b2 b3 b4 b5 b6 b7 b8 G
          have d0 : (w4.alloc (.cells #[.string ⟨fp.toArray⟩, .int .i64 fm, .string ⟨fd.toArray⟩] 33)).cell? ⟨w4.heap.size, 0, none⟩ = some (.string ⟨fp.toArray⟩) := (cell_of_row _ _ _ _ _ _ HNF.out).trans rfl
          have d1 : (w4.alloc (.cells #[.string ⟨fp.toArray⟩, .int .i64 fm, .string ⟨fd.toArray⟩] 33)).cell? ⟨w4.heap.size, 1, none⟩ = some (.int .i64 fm) := (cell_of_row _ _ _ _ _ _ HNF.out).trans rfl
          have d2 : (w4.alloc (.cells #[.string ⟨fp.toArray⟩, .int .i64 fm, .string ⟨fd.toArray⟩] 33)).cell? ⟨w4.heap.size, 2, none⟩ = some (.string ⟨fd.toArray⟩) := (cell_of_row _ _ _ _ _ _ HNF.out).trans rfl
          have HSZ := Lib.hid (show (w4.alloc (.cells #[.string ⟨fp.toArray⟩, .int .i64 fm, .string ⟨fd.toArray⟩] 33)).heap.size = w4.heap.size + 1 by simp)
          by_cases hfp : fp = []
          · have qf : (fp != []) = false := by simp [hfp]
            have qg : (fp == []) = true := by simp [hfp]
            have HOE := Lib.hid (show out1 ((⟨fp, fm, fd⟩ : FileD), ok) = [] from if_pos hfp)
            rw [HOE.out, List.append_nil] at HFE
            clear hfp
            cases ok with
            | true =>
              rw [show torn1 ((⟨fp, fm, fd⟩ : FileD), true) p = [] from if_pos rfl, List.append_nil] at HFE
              have NX := Lib.hid (next_any (fun g => g ≠ T ∧ g < M) T (fun g h => h.1) a b c (restH xs p) (restH ys p) (restH zs p) _ (G4.out.newB (Z' := nine fa fb fc)).ht (G4.out.newB (Z' := nine fa fb fc)).ra (G4.out.newB (Z' := nine fa fb fc)).rb (G4.out.newB (Z' := nine fa fb fc)).rc HO1.out.1 HO1.out.2.1 HO1.out.2.2.1 (by have := HL1.out; omega) (by have := HL1.out; omega) (by have := HL1.out; omega))
              obtain ⟨p2, hp2⟩ : ∃ p2, p2 = first3 (restH xs p) (restH ys p) (restH zs p) := ⟨_, rfl⟩
              rw [← hp2] at NX
              obtain ⟨ga, hga⟩ : ∃ ga, ga = lookH (restH xs p) p2 := ⟨_, rfl⟩
              obtain ⟨gb, hgb⟩ : ∃ gb, gb = lookH (restH ys p) p2 := ⟨_, rfl⟩
              obtain ⟨gc, hgc⟩ : ∃ gc, gc = lookH (restH zs p) p2 := ⟨_, rfl⟩
              rw [← hga, ← hgb, ← hgc] at NX
              have HP2 := Lib.hid (show p2 = first3 (restH xs p) (restH ys p) (restH zs p) ∧ ga = lookH (restH xs p) p2 ∧ gb = lookH (restH ys p) p2 ∧ gc = lookH (restH zs p) p2 from ⟨hp2, hga, hgb, hgc⟩)
              have GB := Lib.hid (G4.out.newB (Z' := nine fa fb fc))
              unfold nine at NX GB
              clear hp2 hga hgb hgc
              have b0 : (w4.alloc (.cells #[.string ⟨fp.toArray⟩, .int .i64 fm, .string ⟨fd.toArray⟩] 33)).cell? ⟨B, 0, none⟩ = some (.string ⟨fa.path.toArray⟩) := G4.out.bc 0 _ rfl
              have b1 : (w4.alloc (.cells #[.string ⟨fp.toArray⟩, .int .i64 fm, .string ⟨fd.toArray⟩] 33)).cell? ⟨B, 1, none⟩ = some (.int .i64 fa.mode) := G4.out.bc 1 _ rfl
              have b2 : (w4.alloc (.cells #[.string ⟨fp.toArray⟩, .int .i64 fm, .string ⟨fd.toArray⟩] 33)).cell? ⟨B, 2, none⟩ = some (.string ⟨fa.data.toArray⟩) := G4.out.bc 2 _ rfl
              have b3 : (w4.alloc (.cells #[.string ⟨fp.toArray⟩, .int .i64 fm, .string ⟨fd.toArray⟩] 33)).cell? ⟨B, 3, none⟩ = some (.string ⟨fb.path.toArray⟩) := G4.out.bc 3 _ rfl
              have b4 : (w4.alloc (.cells #[.string ⟨fp.toArray⟩, .int .i64 fm, .string ⟨fd.toArray⟩] 33)).cell? ⟨B, 4, none⟩ = some (.int .i64 fb.mode) := G4.out.bc 4 _ rfl
              have b5 : (w4.alloc (.cells #[.string ⟨fp.toArray⟩, .int .i64 fm, .string ⟨fd.toArray⟩] 33)).cell? ⟨B, 5, none⟩ = some (.string ⟨fb.data.toArray⟩) := G4.out.bc 5 _ rfl
              have b6 : (w4.alloc (.cells #[.string ⟨fp.toArray⟩, .int .i64 fm, .string ⟨fd.toArray⟩] 33)).cell? ⟨B, 6, none⟩ = some (.string ⟨fc.path.toArray⟩) := G4.out.bc 6 _ rfl
              have b7 : (w4.alloc (.cells #[.string ⟨fp.toArray⟩, .int .i64 fm, .string ⟨fd.toArray⟩] 33)).cell? ⟨B, 7, none⟩ = some (.int .i64 fc.mode) := G4.out.bc 7 _ rfl
              have b8 : (w4.alloc (.cells #[.string ⟨fp.toArray⟩, .int .i64 fm, .string ⟨fd.toArray⟩] 33)).cell? ⟨B, 8, none⟩ = some (.string ⟨fc.data.toArray⟩) := G4.out.bc 8 _ rfl
              go_wp2_with fail
              generalize (w4.alloc (.cells #[.string ⟨fp.toArray⟩, .int .i64 fm, .string ⟨fd.toArray⟩] 33)).alloc (.cells #[.string ⟨fa.path.toArray⟩, .int .i64 fa.mode, .string ⟨fa.data.toArray⟩, .string ⟨fb.path.toArray⟩, .int .i64 fb.mode, .string ⟨fb.data.toArray⟩, .string ⟨fc.path.toArray⟩, .int .i64 fc.mode, .string ⟨fc.data.toArray⟩] 83) = w8 at *
              rw [HSZ.out] at GB
              generalize w4.heap.size + 1 = B2 at *
              clear b0 b1 b2 b3 b4 b5 b6 b7 b8
              refine NX.out.mono ?_
              rintro e w9 ⟨an, bn, cn, rfl, h1, r1, r2, r3, k1⟩
              have G9 := Lib.hid (GB.out.next h1 r1 r2 r3 k1)
              have G10 := Lib.hid (G9.out.setB (set9_heap G9.out.hb ga gb gc) (set9_kept w9 B2 ga gb gc))
              clear h1 r1 r2 r3 k1 GB NX
              unfold set3 at G10
              simp only [Nat.zero_add, Nat.reduceAdd] at G10
              have b0 : w9.cell? ⟨B2, 0, none⟩ = some (.string ⟨fa.path.toArray⟩) := G9.out.bc 0 _ rfl
              have b1 : w9.cell? ⟨B2, 1, none⟩ = some (.int .i64 fa.mode) := G9.out.bc 1 _ rfl
              have b2 : w9.cell? ⟨B2, 2, none⟩ = some (.string ⟨fa.data.toArray⟩) := G9.out.bc 2 _ rfl
              have b3 : w9.cell? ⟨B2, 3, none⟩ = some (.string ⟨fb.path.toArray⟩) := G9.out.bc 3 _ rfl
              have b4 : w9.cell? ⟨B2, 4, none⟩ = some (.int .i64 fb.mode) := G9.out.bc 4 _ rfl
              have b5 : w9.cell? ⟨B2, 5, none⟩ = some (.string ⟨fb.data.toArray⟩) := G9.out.bc 5 _ rfl
              have b6 : w9.cell? ⟨B2, 6, none⟩ = some (.string ⟨fc.path.toArray⟩) := G9.out.bc 6 _ rfl
              have b7 : w9.cell? ⟨B2, 7, none⟩ = some (.int .i64 fc.mode) := G9.out.bc 7 _ rfl
              have b8 : w9.cell? ⟨B2, 8, none⟩ = some (.string ⟨fc.data.toArray⟩) := G9.out.bc 8 _ rfl
              have f0 := G9.out.bf 0
              have f1 := G9.out.bf 1
              have f2 := G9.out.bf 2
              have f3 := G9.out.bf 3
              have f4 := G9.out.bf 4
              have f5 := G9.out.bf 5
              have f6 := G9.out.bf 6
              have f7 := G9.out.bf 7
              have f8 := G9.out.bf 8
              go_wp2_with fail
              generalize ((((((((w9.setCell ⟨B2, 0, none⟩ (.string ⟨ga.path.toArray⟩)).setCell ⟨B2, 1, none⟩ (.int .i64 ga.mode)).setCell ⟨B2, 2, none⟩ (.string ⟨ga.data.toArray⟩)).setCell ⟨B2, 3, none⟩ (.string ⟨gb.path.toArray⟩)).setCell ⟨B2, 4, none⟩ (.int .i64 gb.mode)).setCell ⟨B2, 5, none⟩ (.string ⟨gb.data.toArray⟩)).setCell ⟨B2, 6, none⟩ (.string ⟨gc.path.toArray⟩)).setCell ⟨B2, 7, none⟩ (.int .i64 gc.mode)).setCell ⟨B2, 8, none⟩ (.string ⟨gc.data.toArray⟩) = w10 at *
              go_roundg g1
              case measure => omega
              case rel => exact ⟨B2, restH xs p, restH ys p, restH zs p, _, _, an, bn, cn, p2, ga, gb, gc, rfl, rfl, HP2, G10.out, HA1, Lib.hid ⟨HO1.out.1, HO1.out.2.1, HO1.out.2.2.1, HO1.out.2.2.2⟩, HL1, by omega, HFE, by omega, by omega⟩
            | false =>
              rw [show torn1 ((⟨fp, fm, fd⟩ : FileD), false) p = [p] from rfl] at HFE
              go_wp2_with (at_builtin; go_loud (refine append_new (enc := encS) (k := 1) (w := (w4.alloc (.cells #[.string ⟨fp.toArray⟩, .int .i64 fm, .string ⟨fd.toArray⟩] 33))) (by rfl) (.tmp 75) (.tmp 77) 45 9 (.string ByteArray.empty) 16 (by rfl) Tryd.underlying45 info_strS (by rfl) (by decide) encS_ok M _ tn p (by rfl) G4.out.o2 (by rw [HSZ.out]; rfl) (by omega) (by unfold maxLen; omega) (by have := G4.out.lt; have := (Array.getElem?_eq_some_iff.1 G4.out.hb).1; omega) _ (by rfl) ?_; intro v7 w7 hown7 ht7; obtain ⟨va7, vm7, vc7, rfl⟩ := own_slice hown7; have G7 := Lib.hid (G4.out.push2 hown7 ht7); clear hown7 ht7; have NX := Lib.hid (next_any (fun g => g ≠ T ∧ g < M) T (fun g h => h.1) a b c (restH xs p) (restH ys p) (restH zs p) _ (G7.out.newB (Z' := nine fa fb fc)).ht (G7.out.newB (Z' := nine fa fb fc)).ra (G7.out.newB (Z' := nine fa fb fc)).rb (G7.out.newB (Z' := nine fa fb fc)).rc HO1.out.1 HO1.out.2.1 HO1.out.2.2.1 (by have := HL1.out; omega) (by have := HL1.out; omega) (by have := HL1.out; omega)); obtain ⟨p2, hp2⟩ : ∃ p2, p2 = first3 (restH xs p) (restH ys p) (restH zs p) := ⟨_, rfl⟩; rw [← hp2] at NX; obtain ⟨ga, hga⟩ : ∃ ga, ga = lookH (restH xs p) p2 := ⟨_, rfl⟩; obtain ⟨gb, hgb⟩ : ∃ gb, gb = lookH (restH ys p) p2 := ⟨_, rfl⟩; obtain ⟨gc, hgc⟩ : ∃ gc, gc = lookH (restH zs p) p2 := ⟨_, rfl⟩; rw [← hga, ← hgb, ← hgc] at NX; have HP2 := Lib.hid (show p2 = first3 (restH xs p) (restH ys p) (restH zs p) ∧ ga = lookH (restH xs p) p2 ∧ gb = lookH (restH ys p) p2 ∧ gc = lookH (restH zs p) p2 from ⟨hp2, hga, hgb, hgc⟩); have GB := Lib.hid (G7.out.newB (Z' := nine fa fb fc)); unfold nine at NX GB; clear hp2 hga hgb hgc; have b0 : w7.cell? ⟨B, 0, none⟩ = some (.string ⟨fa.path.toArray⟩) := G7.out.bc 0 _ rfl; have b1 : w7.cell? ⟨B, 1, none⟩ = some (.int .i64 fa.mode) := G7.out.bc 1 _ rfl; have b2 : w7.cell? ⟨B, 2, none⟩ = some (.string ⟨fa.data.toArray⟩) := G7.out.bc 2 _ rfl; have b3 : w7.cell? ⟨B, 3, none⟩ = some (.string ⟨fb.path.toArray⟩) := G7.out.bc 3 _ rfl; have b4 : w7.cell? ⟨B, 4, none⟩ = some (.int .i64 fb.mode) := G7.out.bc 4 _ rfl; have b5 : w7.cell? ⟨B, 5, none⟩ = some (.string ⟨fb.data.toArray⟩) := G7.out.bc 5 _ rfl; have b6 : w7.cell? ⟨B, 6, none⟩ = some (.string ⟨fc.path.toArray⟩) := G7.out.bc 6 _ rfl; have b7 : w7.cell? ⟨B, 7, none⟩ = some (.int .i64 fc.mode) := G7.out.bc 7 _ rfl; have b8 : w7.cell? ⟨B, 8, none⟩ = some (.string ⟨fc.data.toArray⟩) := G7.out.bc 8 _ rfl))
              generalize w7.alloc (.cells #[.string ⟨fa.path.toArray⟩, .int .i64 fa.mode, .string ⟨fa.data.toArray⟩, .string ⟨fb.path.toArray⟩, .int .i64 fb.mode, .string ⟨fb.data.toArray⟩, .string ⟨fc.path.toArray⟩, .int .i64 fc.mode, .string ⟨fc.data.toArray⟩] 83) = w8 at *
              generalize w7.heap.size = B2 at *
              clear b0 b1 b2 b3 b4 b5 b6 b7 b8
              refine NX.out.mono ?_
              rintro e w9 ⟨an, bn, cn, rfl, h1, r1, r2, r3, k1⟩
              have G9 := Lib.hid (GB.out.next h1 r1 r2 r3 k1)
              have G10 := Lib.hid (G9.out.setB (set9_heap G9.out.hb ga gb gc) (set9_kept w9 B2 ga gb gc))
              clear h1 r1 r2 r3 k1 GB NX
              unfold set3 at G10
              simp only [Nat.zero_add, Nat.reduceAdd] at G10
              have b0 : w9.cell? ⟨B2, 0, none⟩ = some (.string ⟨fa.path.toArray⟩) := G9.out.bc 0 _ rfl
              have b1 : w9.cell? ⟨B2, 1, none⟩ = some (.int .i64 fa.mode) := G9.out.bc 1 _ rfl
              have b2 : w9.cell? ⟨B2, 2, none⟩ = some (.string ⟨fa.data.toArray⟩) := G9.out.bc 2 _ rfl
              have b3 : w9.cell? ⟨B2, 3, none⟩ = some (.string ⟨fb.path.toArray⟩) := G9.out.bc 3 _ rfl
              have b4 : w9.cell? ⟨B2, 4, none⟩ = some (.int .i64 fb.mode) := G9.out.bc 4 _ rfl
              have b5 : w9.cell? ⟨B2, 5, none⟩ = some (.string ⟨fb.data.toArray⟩) := G9.out.bc 5 _ rfl
              have b6 : w9.cell? ⟨B2, 6, none⟩ = some (.string ⟨fc.path.toArray⟩) := G9.out.bc 6 _ rfl
              have b7 : w9.cell? ⟨B2, 7, none⟩ = some (.int .i64 fc.mode) := G9.out.bc 7 _ rfl
              have b8 : w9.cell? ⟨B2, 8, none⟩ = some (.string ⟨fc.data.toArray⟩) := G9.out.bc 8 _ rfl
              have f0 := G9.out.bf 0
              have f1 := G9.out.bf 1
              have f2 := G9.out.bf 2
              have f3 := G9.out.bf 3
              have f4 := G9.out.bf 4
              have f5 := G9.out.bf 5
              have f6 := G9.out.bf 6
              have f7 := G9.out.bf 7
              have f8 := G9.out.bf 8
              go_wp2_with fail
              generalize ((((((((w9.setCell ⟨B2, 0, none⟩ (.string ⟨ga.path.toArray⟩)).setCell ⟨B2, 1, none⟩ (.int .i64 ga.mode)).setCell ⟨B2, 2, none⟩ (.string ⟨ga.data.toArray⟩)).setCell ⟨B2, 3, none⟩ (.string ⟨gb.path.toArray⟩)).setCell ⟨B2, 4, none⟩ (.int .i64 gb.mode)).setCell ⟨B2, 5, none⟩ (.string ⟨gb.data.toArray⟩)).setCell ⟨B2, 6, none⟩ (.string ⟨gc.path.toArray⟩)).setCell ⟨B2, 7, none⟩ (.int .i64 gc.mode)).setCell ⟨B2, 8, none⟩ (.string ⟨gc.data.toArray⟩) = w10 at *
              go_roundg g1
              case measure => omega
              case rel => exact ⟨B2, restH xs p, restH ys p, restH zs p, _, _, an, bn, cn, p2, ga, gb, gc, rfl, rfl, HP2, G10.out, HA1, Lib.hid ⟨HO1.out.1, HO1.out.2.1, HO1.out.2.2.1, HO1.out.2.2.2⟩, HL1, by omega, HFE, by omega, by rw [List.length_append]; simp; omega⟩
          · have qf : (fp != []) = true := by simp [hfp]
            have qg : (fp == []) = false := by simp [hfp]
            have HOE := Lib.hid (show out1 ((⟨fp, fm, fd⟩ : FileD), ok) = [⟨fp, fm, fd⟩] from if_neg hfp)
            rw [HOE.out] at HFE
            clear hfp
            cases ok with
            | true =>
              rw [show torn1 ((⟨fp, fm, fd⟩ : FileD), true) p = [] from if_pos rfl, List.append_nil] at HFE
              go_wp2_with (at_builtin; go_loud (refine append_new (enc := encF) (k := 3) (w := (w4.alloc (.cells #[.string ⟨fp.toArray⟩, .int .i64 fm, .string ⟨fd.toArray⟩] 33))) (by rfl) (.tmp 69) (.tmp 71) 22 33 (.agg #[.string ByteArray.empty, .int .i64 0, .string ByteArray.empty]) 40 (by rfl) Tryd.underlying22 info_file (by rfl) (by decide) encF_ok M _ out ⟨fp, fm, fd⟩ (by rfl) G4.out.o1 (by rw [HSZ.out]; rfl) (by omega) (by unfold maxLen; omega) (by have := G4.out.lt; have := (Array.getElem?_eq_some_iff.1 G4.out.hb).1; omega) _ (by rfl) ?_; intro v7 w7 hown7 ht7; obtain ⟨va7, vm7, vc7, rfl⟩ := own_slice hown7; have G7 := Lib.hid (G4.out.push1 hown7 ht7); clear hown7 ht7; have NX := Lib.hid (next_any (fun g => g ≠ T ∧ g < M) T (fun g h => h.1) a b c (restH xs p) (restH ys p) (restH zs p) _ (G7.out.newB (Z' := nine fa fb fc)).ht (G7.out.newB (Z' := nine fa fb fc)).ra (G7.out.newB (Z' := nine fa fb fc)).rb (G7.out.newB (Z' := nine fa fb fc)).rc HO1.out.1 HO1.out.2.1 HO1.out.2.2.1 (by have := HL1.out; omega) (by have := HL1.out; omega) (by have := HL1.out; omega)); obtain ⟨p2, hp2⟩ : ∃ p2, p2 = first3 (restH xs p) (restH ys p) (restH zs p) := ⟨_, rfl⟩; rw [← hp2] at NX; obtain ⟨ga, hga⟩ : ∃ ga, ga = lookH (restH xs p) p2 := ⟨_, rfl⟩; obtain ⟨gb, hgb⟩ : ∃ gb, gb = lookH (restH ys p) p2 := ⟨_, rfl⟩; obtain ⟨gc, hgc⟩ : ∃ gc, gc = lookH (restH zs p) p2 := ⟨_, rfl⟩; rw [← hga, ← hgb, ← hgc] at NX; have HP2 := Lib.hid (show p2 = first3 (restH xs p) (restH ys p) (restH zs p) ∧ ga = lookH (restH xs p) p2 ∧ gb = lookH (restH ys p) p2 ∧ gc = lookH (restH zs p) p2 from ⟨hp2, hga, hgb, hgc⟩); have GB := Lib.hid (G7.out.newB (Z' := nine fa fb fc)); unfold nine at NX GB; clear hp2 hga hgb hgc; have b0 : w7.cell? ⟨B, 0, none⟩ = some (.string ⟨fa.path.toArray⟩) := G7.out.bc 0 _ rfl; have b1 : w7.cell? ⟨B, 1, none⟩ = some (.int .i64 fa.mode) := G7.out.bc 1 _ rfl; have b2 : w7.cell? ⟨B, 2, none⟩ = some (.string ⟨fa.data.toArray⟩) := G7.out.bc 2 _ rfl; have b3 : w7.cell? ⟨B, 3, none⟩ = some (.string ⟨fb.path.toArray⟩) := G7.out.bc 3 _ rfl; have b4 : w7.cell? ⟨B, 4, none⟩ = some (.int .i64 fb.mode) := G7.out.bc 4 _ rfl; have b5 : w7.cell? ⟨B, 5, none⟩ = some (.string ⟨fb.data.toArray⟩) := G7.out.bc 5 _ rfl; have b6 : w7.cell? ⟨B, 6, none⟩ = some (.string ⟨fc.path.toArray⟩) := G7.out.bc 6 _ rfl; have b7 : w7.cell? ⟨B, 7, none⟩ = some (.int .i64 fc.mode) := G7.out.bc 7 _ rfl; have b8 : w7.cell? ⟨B, 8, none⟩ = some (.string ⟨fc.data.toArray⟩) := G7.out.bc 8 _ rfl))
              generalize w7.alloc (.cells #[.string ⟨fa.path.toArray⟩, .int .i64 fa.mode, .string ⟨fa.data.toArray⟩, .string ⟨fb.path.toArray⟩, .int .i64 fb.mode, .string ⟨fb.data.toArray⟩, .string ⟨fc.path.toArray⟩, .int .i64 fc.mode, .string ⟨fc.data.toArray⟩] 83) = w8 at *
              generalize w7.heap.size = B2 at *
              clear b0 b1 b2 b3 b4 b5 b6 b7 b8
              refine NX.out.mono ?_
              rintro e w9 ⟨an, bn, cn, rfl, h1, r1, r2, r3, k1⟩
              have G9 := Lib.hid (GB.out.next h1 r1 r2 r3 k1)
              have G10 := Lib.hid (G9.out.setB (set9_heap G9.out.hb ga gb gc) (set9_kept w9 B2 ga gb gc))
              clear h1 r1 r2 r3 k1 GB NX
              unfold set3 at G10
              simp only [Nat.zero_add, Nat.reduceAdd] at G10
              have b0 : w9.cell? ⟨B2, 0, none⟩ = some (.string ⟨fa.path.toArray⟩) := G9.out.bc 0 _ rfl
              have b1 : w9.cell? ⟨B2, 1, none⟩ = some (.int .i64 fa.mode) := G9.out.bc 1 _ rfl
              have b2 : w9.cell? ⟨B2, 2, none⟩ = some (.string ⟨fa.data.toArray⟩) := G9.out.bc 2 _ rfl
              have b3 : w9.cell? ⟨B2, 3, none⟩ = some (.string ⟨fb.path.toArray⟩) := G9.out.bc 3 _ rfl
              have b4 : w9.cell? ⟨B2, 4, none⟩ = some (.int .i64 fb.mode) := G9.out.bc 4 _ rfl
              have b5 : w9.cell? ⟨B2, 5, none⟩ = some (.string ⟨fb.data.toArray⟩) := G9.out.bc 5 _ rfl
              have b6 : w9.cell? ⟨B2, 6, none⟩ = some (.string ⟨fc.path.toArray⟩) := G9.out.bc 6 _ rfl
              have b7 : w9.cell? ⟨B2, 7, none⟩ = some (.int .i64 fc.mode) := G9.out.bc 7 _ rfl
              have b8 : w9.cell? ⟨B2, 8, none⟩ = some (.string ⟨fc.data.toArray⟩) := G9.out.bc 8 _ rfl
              have f0 := G9.out.bf 0
              have f1 := G9.out.bf 1
              have f2 := G9.out.bf 2
              have f3 := G9.out.bf 3
              have f4 := G9.out.bf 4
              have f5 := G9.out.bf 5
              have f6 := G9.out.bf 6
              have f7 := G9.out.bf 7
              have f8 := G9.out.bf 8
              go_wp2_with fail
              generalize ((((((((w9.setCell ⟨B2, 0, none⟩ (.string ⟨ga.path.toArray⟩)).setCell ⟨B2, 1, none⟩ (.int .i64 ga.mode)).setCell ⟨B2, 2, none⟩ (.string ⟨ga.data.toArray⟩)).setCell ⟨B2, 3, none⟩ (.string ⟨gb.path.toArray⟩)).setCell ⟨B2, 4, none⟩ (.int .i64 gb.mode)).setCell ⟨B2, 5, none⟩ (.string ⟨gb.data.toArray⟩)).setCell ⟨B2, 6, none⟩ (.string ⟨gc.path.toArray⟩)).setCell ⟨B2, 7, none⟩ (.int .i64 gc.mode)).setCell ⟨B2, 8, none⟩ (.string ⟨gc.data.toArray⟩) = w10 at *
              go_roundg g1
              case measure => omega
              case rel => exact ⟨B2, restH xs p, restH ys p, restH zs p, _, _, an, bn, cn, p2, ga, gb, gc, rfl, rfl, HP2, G10.out, HA1, Lib.hid ⟨HO1.out.1, HO1.out.2.1, HO1.out.2.2.1, fun x hx => by
                              rcases List.mem_append.1 hx with hx | hx
                              · exact HO1.out.2.2.2 x hx
                              · rw [List.mem_singleton.1 hx]; exact HFOK.out⟩, HL1, by omega, HFE, by rw [List.length_append]; simp; omega, by omega⟩
            | false =>
              rw [show torn1 ((⟨fp, fm, fd⟩ : FileD), false) p = [p] from rfl] at HFE
              go_wp2_with (at_builtin; first | (refine append_new (enc := encF) (k := 3) (w := (w4.alloc (.cells #[.string ⟨fp.toArray⟩, .int .i64 fm, .string ⟨fd.toArray⟩] 33))) (by rfl) (.tmp 69) (.tmp 71) 22 33 (.agg #[.string ByteArray.empty, .int .i64 0, .string ByteArray.empty]) 40 (by rfl) Tryd.underlying22 info_file (by rfl) (by decide) encF_ok M _ out ⟨fp, fm, fd⟩ (by rfl) G4.out.o1 (by rw [HSZ.out]; rfl) (by omega) (by unfold maxLen; omega) (by have := G4.out.lt; have := (Array.getElem?_eq_some_iff.1 G4.out.hb).1; omega) _ (by rfl) ?_; intro v7 w7 hown7 ht7; obtain ⟨va7, vm7, vc7, rfl⟩ := own_slice hown7; have G7 := Lib.hid (G4.out.push1 hown7 ht7); clear hown7 ht7) | (refine append_new (enc := encS) (k := 1) (w := w7) (by rfl) (.tmp 75) (.tmp 77) 45 9 (.string ByteArray.empty) 16 (by rfl) Tryd.underlying45 info_strS (by rfl) (by decide) encS_ok M _ tn p (by rfl) G7.out.o2 (by rfl) (by omega) (by unfold maxLen; omega) (by have := G7.out.lt; have := (Array.getElem?_eq_some_iff.1 G7.out.hb).1; omega) _ (by rfl) ?_; intro v12 w12 hown12 ht12; obtain ⟨va12, vm12, vc12, rfl⟩ := own_slice hown12; have G12 := Lib.hid (G7.out.push2 hown12 ht12); clear hown12 ht12; have NX := Lib.hid (next_any (fun g => g ≠ T ∧ g < M) T (fun g h => h.1) a b c (restH xs p) (restH ys p) (restH zs p) _ (G12.out.newB (Z' := nine fa fb fc)).ht (G12.out.newB (Z' := nine fa fb fc)).ra (G12.out.newB (Z' := nine fa fb fc)).rb (G12.out.newB (Z' := nine fa fb fc)).rc HO1.out.1 HO1.out.2.1 HO1.out.2.2.1 (by have := HL1.out; omega) (by have := HL1.out; omega) (by have := HL1.out; omega)); obtain ⟨p2, hp2⟩ : ∃ p2, p2 = first3 (restH xs p) (restH ys p) (restH zs p) := ⟨_, rfl⟩; rw [← hp2] at NX; obtain ⟨ga, hga⟩ : ∃ ga, ga = lookH (restH xs p) p2 := ⟨_, rfl⟩; obtain ⟨gb, hgb⟩ : ∃ gb, gb = lookH (restH ys p) p2 := ⟨_, rfl⟩; obtain ⟨gc, hgc⟩ : ∃ gc, gc = lookH (restH zs p) p2 := ⟨_, rfl⟩; rw [← hga, ← hgb, ← hgc] at NX; have HP2 := Lib.hid (show p2 = first3 (restH xs p) (restH ys p) (restH zs p) ∧ ga = lookH (restH xs p) p2 ∧ gb = lookH (restH ys p) p2 ∧ gc = lookH (restH zs p) p2 from ⟨hp2, hga, hgb, hgc⟩); have GB := Lib.hid (G12.out.newB (Z' := nine fa fb fc)); unfold nine at NX GB; clear hp2 hga hgb hgc; have b0 : w12.cell? ⟨B, 0, none⟩ = some (.string ⟨fa.path.toArray⟩) := G12.out.bc 0 _ rfl; have b1 : w12.cell? ⟨B, 1, none⟩ = some (.int .i64 fa.mode) := G12.out.bc 1 _ rfl; have b2 : w12.cell? ⟨B, 2, none⟩ = some (.string ⟨fa.data.toArray⟩) := G12.out.bc 2 _ rfl; have b3 : w12.cell? ⟨B, 3, none⟩ = some (.string ⟨fb.path.toArray⟩) := G12.out.bc 3 _ rfl; have b4 : w12.cell? ⟨B, 4, none⟩ = some (.int .i64 fb.mode) := G12.out.bc 4 _ rfl; have b5 : w12.cell? ⟨B, 5, none⟩ = some (.string ⟨fb.data.toArray⟩) := G12.out.bc 5 _ rfl; have b6 : w12.cell? ⟨B, 6, none⟩ = some (.string ⟨fc.path.toArray⟩) := G12.out.bc 6 _ rfl; have b7 : w12.cell? ⟨B, 7, none⟩ = some (.int .i64 fc.mode) := G12.out.bc 7 _ rfl; have b8 : w12.cell? ⟨B, 8, none⟩ = some (.string ⟨fc.data.toArray⟩) := G12.out.bc 8 _ rfl))
              generalize w12.alloc (.cells #[.string ⟨fa.path.toArray⟩, .int .i64 fa.mode, .string ⟨fa.data.toArray⟩, .string ⟨fb.path.toArray⟩, .int .i64 fb.mode, .string ⟨fb.data.toArray⟩, .string ⟨fc.path.toArray⟩, .int .i64 fc.mode, .string ⟨fc.data.toArray⟩] 83) = w8 at *
              generalize w12.heap.size = B2 at *
              clear b0 b1 b2 b3 b4 b5 b6 b7 b8
              refine NX.out.mono ?_
              rintro e w9 ⟨an, bn, cn, rfl, h1, r1, r2, r3, k1⟩
              have G9 := Lib.hid (GB.out.next h1 r1 r2 r3 k1)
              have G10 := Lib.hid (G9.out.setB (set9_heap G9.out.hb ga gb gc) (set9_kept w9 B2 ga gb gc))
              clear h1 r1 r2 r3 k1 GB NX
              unfold set3 at G10
              simp only [Nat.zero_add, Nat.reduceAdd] at G10
              have b0 : w9.cell? ⟨B2, 0, none⟩ = some (.string ⟨fa.path.toArray⟩) := G9.out.bc 0 _ rfl
              have b1 : w9.cell? ⟨B2, 1, none⟩ = some (.int .i64 fa.mode) := G9.out.bc 1 _ rfl
              have b2 : w9.cell? ⟨B2, 2, none⟩ = some (.string ⟨fa.data.toArray⟩) := G9.out.bc 2 _ rfl
              have b3 : w9.cell? ⟨B2, 3, none⟩ = some (.string ⟨fb.path.toArray⟩) := G9.out.bc 3 _ rfl
              have b4 : w9.cell? ⟨B2, 4, none⟩ = some (.int .i64 fb.mode) := G9.out.bc 4 _ rfl
              have b5 : w9.cell? ⟨B2, 5, none⟩ = some (.string ⟨fb.data.toArray⟩) := G9.out.bc 5 _ rfl
              have b6 : w9.cell? ⟨B2, 6, none⟩ = some (.string ⟨fc.path.toArray⟩) := G9.out.bc 6 _ rfl
              have b7 : w9.cell? ⟨B2, 7, none⟩ = some (.int .i64 fc.mode) := G9.out.bc 7 _ rfl
              have b8 : w9.cell? ⟨B2, 8, none⟩ = some (.string ⟨fc.data.toArray⟩) := G9.out.bc 8 _ rfl
              have f0 := G9.out.bf 0
              have f1 := G9.out.bf 1
              have f2 := G9.out.bf 2
              have f3 := G9.out.bf 3
              have f4 := G9.out.bf 4
              have f5 := G9.out.bf 5
              have f6 := G9.out.bf 6
              have f7 := G9.out.bf 7
              have f8 := G9.out.bf 8
              go_wp2_with fail
              generalize ((((((((w9.setCell ⟨B2, 0, none⟩ (.string ⟨ga.path.toArray⟩)).setCell ⟨B2, 1, none⟩ (.int .i64 ga.mode)).setCell ⟨B2, 2, none⟩ (.string ⟨ga.data.toArray⟩)).setCell ⟨B2, 3, none⟩ (.string ⟨gb.path.toArray⟩)).setCell ⟨B2, 4, none⟩ (.int .i64 gb.mode)).setCell ⟨B2, 5, none⟩ (.string ⟨gb.data.toArray⟩)).setCell ⟨B2, 6, none⟩ (.string ⟨gc.path.toArray⟩)).setCell ⟨B2, 7, none⟩ (.int .i64 gc.mode)).setCell ⟨B2, 8, none⟩ (.string ⟨gc.data.toArray⟩) = w10 at *
              go_roundg g1
              case measure => omega
              case rel => exact ⟨B2, restH xs p, restH ys p, restH zs p, _, _, an, bn, cn, p2, ga, gb, gc, rfl, rfl, HP2, G10.out, HA1, Lib.hid ⟨HO1.out.1, HO1.out.2.1, HO1.out.2.2.1, fun x hx => by
                              rcases List.mem_append.1 hx with hx | hx
                              · exact HO1.out.2.2.2 x hx
                              · rw [List.mem_singleton.1 hx]; exact HFOK.out⟩, HL1, by omega, HFE, by rw [List.length_append]; simp; omega, by rw [List.length_append]; simp; omega⟩
end Go.Proofs.YtfgimhgkjodcgaaDoor

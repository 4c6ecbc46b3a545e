/- Landed image: Merge's next (the path that comes next, what each tree has there), walked. -/
import Derived.Test.YtfgimhgkjodcgaaDoorArgTree
import Derived.Test.YtfgimhgkjodcgaaDoorArgs3
import Derived.Test.YtfgimhgkjodcgaaDoorFirstIW
import Derived.Test.YtfgimhgkjodcgaaDoorFrame
import Derived.Test.YtfgimhgkjodcgaaDoorGen
import Derived.Test.YtfgimhgkjodcgaaDoorMtX
import Derived.Test.YtfgimhgkjodcgaaDoorOwnL
import Derived.Test.YtfgimhgkjodcgaaDoorProg
import Derived.Test.YtfgimhgkjodcgaaDoorReadMath
import Derived.Test.YtfgimhgkjodcgaaDoorReadW
import Derived.Test.YtfgimhgkjodcgaaDoorOfX
import Derived.Test.YtfgimhgkjodcgaaDoorRefReadW
import Derived.Test.YtfgimhgkjodcgaaDoorCkX
import Derived.Test.YtfgimhgkjodcgaaDoorTrX
import Derived.Test.YtfgimhgkjodcgaaDoorRowN
import Derived.Test.YtfgimhgkjodcgaaDoorRows
import Derived.Test.YtfgimhgkjodcgaaDoorShelf
import Derived.Test.YtfgimhgkjodcgaaDoorTreeMath
import Derived.BigQuiet
import Derived.BigRegion
import Derived.Deep.Cut
import Derived.Deep.CutRange
import Derived.Deep.DeepCutAuto
import Derived.Deep.QuietTactic
import Derived.Laws.ResultCell
import Derived.Lib.Hide
import Derived.WalkKit
import Derived.WalkLawsBesides
import Derived.WalkSpells
set_option linter.unusedVariables false
namespace Go.Proofs.YtfgimhgkjodcgaaDoor
open Go.RowKit

def nine (a b c : FileD) : Array Value := #[.string ⟨a.path.toArray⟩, .int .i64 a.mode, .string ⟨a.data.toArray⟩, .string ⟨b.path.toArray⟩, .int .i64 b.mode, .string ⟨b.data.toArray⟩, .string ⟨c.path.toArray⟩, .int .i64 c.mode, .string ⟨c.data.toArray⟩]
/-- The state: T the trees' block, R the result's, H what stands there. -/
structure NX (w wr : World) (T R H : Nat) (A B : Array Value) : Prop where
  ht : wr.heap[T]? = some (.cells A 81 (0, 0))
  hh : wr.heap[H]? = some (.cells B 83 (0, 0))
  hr : wr.heap[R]? = some (.cells (nine zF zF zF) 83 (0, 0))
  kp : Kept (· = T) w wr
  lt : T < w.heap.size ∧ w.heap.size ≤ R ∧ R < H
section
variable {w wr : World} {T R H : Nat} {A B : Array Value}
theorem nkept (w : World) (b j : Nat) (v : Value) : Kept (· = b) w (w.setCell ⟨b, j, none⟩ v) := (Kept.refl (· = b) w).setCell (p := ⟨b, j, none⟩) rfl v
theorem nkept_on {w a b : World} {g : Nat} {N : Nat → Prop} (h : Kept (· = g) w a) (k : Kept N a b) (hn : ∀ i, i < w.heap.size → N i → i = g) : Kept (· = g) w b :=
  ⟨k.os.trans h.os, k.tape.trans h.tape, k.output.trans h.output, Nat.le_trans h.size k.size, fun i hi hm => (k.block i (Nat.lt_of_lt_of_le hi h.size) (fun n => hm (hn i hi n))).trans (h.block i hi hm)⟩
theorem NX.setH (h : NX w wr T R H A B) (j : Nat) (v : Value) : NX w (wr.setCell ⟨H, j, none⟩ v) T R H A (B.setIfInBounds j v) := by
  have l := h.lt
  have k := nkept wr H j v
  exact ⟨k.old h.ht (by omega), heap_setCell_same wr H j _ _ _ h.hh, k.old h.hr (by omega), nkept_on h.kp k (fun i hi e => by omega), l⟩
theorem NX.setT (h : NX w wr T R H A B) (j : Nat) (v : Value) : NX w (wr.setCell ⟨T, j, none⟩ v) T R H (A.setIfInBounds j v) B := by
  have l := h.lt
  have k := nkept wr T j v
  exact ⟨heap_setCell_same wr T j _ _ _ h.ht, k.old h.hh (by omega), k.old h.hr (by omega), nkept_on h.kp k (fun i hi e => e), l⟩
theorem NX.new {wr' : World} (h : NX w wr T R H A B) (hb : Below wr.heap.size wr wr') : NX w wr' T R H A B := by
  have k := Kept.new hb (fun _ => False)
  exact ⟨k.old h.ht id, k.old h.hh id, k.old h.hr id, nkept_on h.kp k (fun i hi e => e.elim), h.lt⟩
theorem NX.tc (h : NX w wr T R H A B) (j : Nat) (v : Value) (e : A[j]? = some v) : wr.cell? ⟨T, j, none⟩ = some v := by rw [cell_of_row _ _ _ _ _ _ h.ht]; exact e
theorem NX.tf (h : NX w wr T R H A B) (j : Nat) : wr.frozen? ⟨T, j, none⟩ = false := frozen_of_row _ _ _ _ _ h.ht
theorem NX.hc (h : NX w wr T R H A B) (j : Nat) (v : Value) (e : B[j]? = some v) : wr.cell? ⟨H, j, none⟩ = some v := by rw [cell_of_row _ _ _ _ _ _ h.hh]; exact e
theorem NX.hf (h : NX w wr T R H A B) (j : Nat) : wr.frozen? ⟨H, j, none⟩ = false := frozen_of_row _ _ _ _ _ h.hh
theorem NX.rc (h : NX w wr T R H A B) (j : Nat) (v : Value) (e : (nine zF zF zF)[j]? = some v) : wr.cell? ⟨R, j, none⟩ = some v := by rw [cell_of_row _ _ _ _ _ _ h.hr]; exact e
theorem NX.rf (h : NX w wr T R H A B) (j : Nat) : wr.frozen? ⟨R, j, none⟩ = false := frozen_of_row _ _ _ _ _ h.hr
end
theorem NX.drew {w wr : World} {T R H : Nat} {A B : Array Value} (h : NX w wr T R H A B) : NX w wr.drew T R H A B :=
  ⟨h.ht, h.hh, h.hr, ⟨h.kp.os, h.kp.tape, h.kp.output, h.kp.size, h.kp.block⟩, h.lt⟩
theorem RowN.restF {N : Nat → Prop} {w : World} {g o n c : Nat} {x : FileD} {xs : List FileD} (h : RowN encF 3 N w (.slice (some ⟨g, o, none⟩) n c) (x :: xs)) :
    RowN encF 3 N w (.slice (if c = 1 then some ⟨g, o, none⟩ else some ⟨g, o + 3, none⟩) (n - 1) (c - 1)) xs := by
  obtain ⟨a', c', hv, hle, hx⟩ := h
  injection hv with e1 e2 e3
  subst e1 e3
  have hn : n = xs.length + 1 := by rw [e2, List.length_cons]
  have hc : xs.length + 1 ≤ c := by rw [← List.length_cons (a := x)]; exact hle
  refine ⟨_, c - 1, by rw [hn]; rfl, by omega, fun i hi => ?_⟩
  rw [if_neg (by omega)]
  obtain ⟨g', o', hva, hN, hel⟩ := hx (i + 1) (by simpa using hi)
  injection hva with hva
  injection hva with hg ho
  subst hg ho
  refine ⟨g, o + 3, rfl, hN, ?_⟩
  rw [show o + 3 + i * 3 = o + (i + 1) * 3 by omega]
  exact hel
theorem RowN.headN {N : Nat → Prop} {w : World} {v : Value} {f : FileD} {r : List FileD} (h : RowN encF 3 N w v (f :: r)) : ∃ g o c, v = .slice (some ⟨g, o, none⟩) (f :: r).length c ∧ (f :: r).length ≤ c ∧ w.cell? ⟨g, o, none⟩ = some (.string ⟨f.path.toArray⟩) ∧ w.cell? ⟨g, o + 1, none⟩ = some (.int .i64 f.mode) ∧ w.cell? ⟨g, o + 2, none⟩ = some (.string ⟨f.data.toArray⟩) :=
  (h.mono (fun _ _ => trivial)).head
/-- Three files stored where three stood. -/
def set3 (w : World) (b j : Nat) (x : FileD) : World := ((w.setCell ⟨b, j, none⟩ (.string ⟨x.path.toArray⟩)).setCell ⟨b, j + 1, none⟩ (.int .i64 x.mode)).setCell ⟨b, j + 2, none⟩ (.string ⟨x.data.toArray⟩)
theorem set3_heap {w : World} {b : Nat} {A : Array Value} {t : TypeId} (h : w.heap[b]? = some (.cells A t (0, 0))) (j : Nat) (x : FileD) : (set3 w b j x).heap[b]? = some (.cells (((A.setIfInBounds j (.string ⟨x.path.toArray⟩)).setIfInBounds (j + 1) (.int .i64 x.mode)).setIfInBounds (j + 2) (.string ⟨x.data.toArray⟩)) t (0, 0)) :=
  heap_setCell_same _ b (j + 2) _ _ _ (heap_setCell_same _ b (j + 1) _ _ _ (heap_setCell_same w b j _ _ _ h))
theorem set3_kept (w : World) (b j : Nat) (x : FileD) : Kept (· = b) w (set3 w b j x) := ((nkept w b j _).trans (nkept _ b (j + 1) _)).trans (nkept _ b (j + 2) _)
theorem set9_heap {w : World} {b : Nat} {p q r : FileD} (h : w.heap[b]? = some (.cells (nine p q r) 83 (0, 0))) (x y z : FileD) : (set3 (set3 (set3 w b 0 x) b 3 y) b 6 z).heap[b]? = some (.cells (nine x y z) 83 (0, 0)) := by
  have h1 : (set3 w b 0 x).heap[b]? = some (.cells (nine x q r) 83 (0, 0)) := set3_heap h 0 x
  have h2 : (set3 (set3 w b 0 x) b 3 y).heap[b]? = some (.cells (nine x y r) 83 (0, 0)) := set3_heap h1 3 y
  exact set3_heap h2 6 z
theorem set9_kept (w : World) (b : Nat) (x y z : FileD) : Kept (· = b) w (set3 (set3 (set3 w b 0 x) b 3 y) b 6 z) := ((set3_kept w b 0 x).trans (set3_kept _ b 3 y)).trans (set3_kept _ b 6 z)
theorem nine_size : (Tryd.prog.info? 83).map (·.size) = some 9 := by kernel_rfl
theorem results_nine {fn : Func} {p u : Tmp} (h : fn.results = #[.tmp u, .cell p 83]) (tmps : Array Value) (w : World) (b : Nat) (B : Array Value) (hB : B.size = 9) (hp : tmps.getD p undef = .pointer (some ⟨b, 0, none⟩)) (hy : w.heap[b]? = some (.cells B 83 (0, 0))) :
    (results fn tmps).run Tryd.prog w = .ok (.tuple #[tmps.getD u undef, .agg B]) w := by
  have hr : (results fn tmps).run Tryd.prog w = ((asAddr (tmps.getD p undef)).run Tryd.prog w).andThen fun a w₁ => ((loadVar 83 a).run Tryd.prog w₁).andThen fun v w₂ => .ok (.tuple #[tmps.getD u undef, v]) w₂ := by
    simp only [results, h]
    simp [Sem.run_bind, Result.andThen]
  rw [hr, hp]
  have hl := run_loadVar_row (P := Tryd.prog) w b 83 83 _ _ _ hy Tryd.underlying83 rfl (by rw [hB]; exact nine_size)
  simp [asAddr, Result.andThen, hl]
set_option maxRecDepth 100000 in
set_option maxHeartbeats 8000000 in
theorem next_any (N : Nat → Prop) (T : Nat) (hN : ∀ g, N g → g ≠ T) (va vb vc : Value) (x y z : List FileD) (w : World) (hT : w.heap[T]? = some (.cells #[va, vb, vc] 81 (0, 0))) (hx : RowN encF 3 N w va x) (hy : RowN encF 3 N w vb y) (hz : RowN encF 3 N w vc z)
    (ox : ∀ f ∈ x, FileOk f) (oy : ∀ f ∈ y, FileOk f) (oz : ∀ f ∈ z, FileOk f) (lx : x.length ≤ 1000000) (ly : y.length ≤ 1000000) (lz : z.length ≤ 1000000) :
    Calls Tryd.prog 47 #[.pointer (some ⟨T, 0, none⟩)] w fun e w' => ∃ a b c, e = .returned (.tuple #[.string ⟨(first3 x y z).toArray⟩, .agg (nine (lookH x (first3 x y z)) (lookH y (first3 x y z)) (lookH z (first3 x y z)))]) ∧
      w'.heap[T]? = some (.cells #[a, b, c] 81 (0, 0)) ∧ RowN encF 3 N w a (restH x (first3 x y z)) ∧ RowN encF 3 N w b (restH y (first3 x y z)) ∧ RowN encF 3 N w c (restH z (first3 x y z)) ∧ Kept (· = T) w w' := by
  have HX := Lib.hid hx
  have HY := Lib.hid hy
  have HZ := Lib.hid hz
  have hb0 := (Below.refl w.heap.size w).alloc (Nat.le_refl _) (.cells (nine zF zF zF) 83)
  have FI := Lib.hid (first_any va vb vc x y z _ ((hx.mono (fun _ _ => trivial)).keep hb0) ((hy.mono (fun _ _ => trivial)).keep hb0) ((hz.mono (fun _ _ => trivial)).keep hb0) ox oy oz lx ly lz)
  have hlt : T < w.heap.size := (Array.getElem?_eq_some_iff.1 hT).1
  have HT1 := Lib.hid ((Kept.new hb0 (fun _ => False)).old hT id)
  have HR1 := Lib.hid (heap_alloc_new w (.cells (nine zF zF zF) 83))
  have HB1 := Lib.hid hb0
  have HNX := Lib.hid (fun w2 (hb2 : Below (w.alloc (.cells (nine zF zF zF) 83)).heap.size (w.alloc (.cells (nine zF zF zF) 83)) w2) => (show NX w (w2.alloc (.cells (nine zF zF zF) 83)) T w.heap.size w2.heap.size #[va, vb, vc] (nine zF zF zF) from by
    have hb3 := (Below.refl w2.heap.size w2).alloc (Nat.le_refl _) (.cells (nine zF zF zF) 83)
    have k2 := Kept.new hb2 (fun _ => False)
    have k3 := Kept.new hb3 (fun _ => False)
    have hs := hb2.size
    rw [World.size_alloc] at hs
    exact ⟨k3.old (k2.old HT1.out id) id, heap_alloc_new _ _, k3.old (k2.old HR1.out id) id, Kept.new ((HB1.out.trans (hb2.mono (by simp))).trans (hb3.mono (by omega))) _, by omega⟩))
  have p_eq : ∃ p, p = first3 x y z := ⟨_, rfl⟩
  obtain ⟨p, hp⟩ := p_eq
  rw [← hp] at FI ⊢
  have HP := Lib.hid hp
  clear hp
  obtain ⟨aa, ca, hva, _⟩ := hx.slice
  obtain ⟨ab, cb, hvb, _⟩ := hy.slice
  obtain ⟨ac, cc, hvc, _⟩ := hz.slice
  subst hva hvb hvc
  have i0 : ∀ w, (Instr.index 81 (.agg #[.slice aa x.length ca, .slice ab y.length cb, .slice ac z.length cc]) (.int .i64 0)).run Tryd.prog w = .ok (.slice aa x.length ca) w := fun _ => by kernel_rfl
  have i1 : ∀ w, (Instr.index 81 (.agg #[.slice aa x.length ca, .slice ab y.length cb, .slice ac z.length cc]) (.int .i64 1)).run Tryd.prog w = .ok (.slice ab y.length cb) w := fun _ => by kernel_rfl
  have i2 : ∀ w, (Instr.index 81 (.agg #[.slice aa x.length ca, .slice ab y.length cb, .slice ac z.length cc]) (.int .i64 2)).run Tryd.prog w = .ok (.slice ac z.length cc) w := fun _ => by kernel_rfl
  have c0 : (w.alloc (.cells #[.string ⟨#[]⟩, .int .i64 0, .string ⟨#[]⟩, .string ⟨#[]⟩, .int .i64 0, .string ⟨#[]⟩, .string ⟨#[]⟩, .int .i64 0, .string ⟨#[]⟩] 83)).cell? ⟨T, 0, none⟩ = some (.slice aa x.length ca) := (cell_of_row _ _ _ _ _ _ HT1.out).trans rfl
  have c1 : (w.alloc (.cells #[.string ⟨#[]⟩, .int .i64 0, .string ⟨#[]⟩, .string ⟨#[]⟩, .int .i64 0, .string ⟨#[]⟩, .string ⟨#[]⟩, .int .i64 0, .string ⟨#[]⟩] 83)).cell? ⟨T, 1, none⟩ = some (.slice ab y.length cb) := (cell_of_row _ _ _ _ _ _ HT1.out).trans rfl
  have c2 : (w.alloc (.cells #[.string ⟨#[]⟩, .int .i64 0, .string ⟨#[]⟩, .string ⟨#[]⟩, .int .i64 0, .string ⟨#[]⟩, .string ⟨#[]⟩, .int .i64 0, .string ⟨#[]⟩] 83)).cell? ⟨T, 2, none⟩ = some (.slice ac z.length cc) := (cell_of_row _ _ _ _ _ _ HT1.out).trans rfl
  clear hx hy hz hb0 hT ox oy oz HR1 HB1
  go_enter Tryd.func47, Tryd.ntmps47
  go_wp2_with fail
  refine FI.out.mono ?_
  rintro e w2 ⟨rfl, hb2⟩
  have NN := HNX.out w2 hb2
  clear c0 c1 c2 HNX HT1 FI hb2
  change NX w (w2.alloc (.cells #[.string ⟨#[]⟩, .int .i64 0, .string ⟨#[]⟩, .string ⟨#[]⟩, .int .i64 0, .string ⟨#[]⟩, .string ⟨#[]⟩, .int .i64 0, .string ⟨#[]⟩] 83)) T w.heap.size w2.heap.size #[.slice aa x.length ca, .slice ab y.length cb, .slice ac z.length cc] (nine zF zF zF) at NN
  have c0 := NN.tc 0 _ rfl
  have c1 := NN.tc 1 _ rfl
  have c2 := NN.tc 2 _ rfl
  have HN := Lib.hid NN
  have hRH := NN.lt
  clear NN
  go_wp2_with fail
  generalize w2.alloc (.cells #[.string ⟨#[]⟩, .int .i64 0, .string ⟨#[]⟩, .string ⟨#[]⟩, .int .i64 0, .string ⟨#[]⟩, .string ⟨#[]⟩, .int .i64 0, .string ⟨#[]⟩] 83) = w3 at *
  generalize w2.heap.size = H at *
  clear c0 c1 c2
  go_loopw [5, 6, 10] (fun _ _ v10 wr => ∃ (k : Nat) (a b c : Value) (fa fb fc : FileD) (xa ya za : List FileD), v10 = .int .i64 k ∧ NX w wr T w.heap.size H #[a, b, c] (nine fa fb fc) ∧ RowN encF 3 N w a xa ∧ RowN encF 3 N w b ya ∧ RowN encF 3 N w c za ∧
    ((k = 0 ∧ x = xa ∧ y = ya ∧ z = za ∧ zF = fa ∧ zF = fb ∧ zF = fc) ∨ (k = 1 ∧ restH x p = xa ∧ y = ya ∧ z = za ∧ lookH x p = fa ∧ zF = fb ∧ zF = fc) ∨ (k = 2 ∧ restH x p = xa ∧ restH y p = ya ∧ z = za ∧ lookH x p = fa ∧ lookH y p = fb ∧ zF = fc) ∨ (k = 3 ∧ restH x p = xa ∧ restH y p = ya ∧ restH z p = za ∧ lookH x p = fa ∧ lookH y p = fb ∧ lookH z p = fc))) (fun _ _ v10 _ => 3 - (intOf v10).toNat)
  case atStart => exact ⟨0, _, _, _, _, _, _, _, _, _, rfl, HN.out, HX.out, HY.out, HZ.out, .inl ⟨rfl, rfl, rfl, rfl, rfl, rfl, rfl⟩⟩
  case round =>
    clear HN
    obtain ⟨k, a, b, c, fa, fb, fc, xa, ya, za, rfl, hn, hra, hrb, hrc, hk⟩ := hrel
    have HN := Lib.hid hn
    have RA := Lib.hid hra
    have RB := Lib.hid hrb
    have RC := Lib.hid hrc
    clear hn hra hrb hrc
    rcases hk with ⟨rfl, rfl, rfl, rfl, rfl, rfl, rfl⟩ | ⟨rfl, rfl, rfl, rfl, rfl, rfl, rfl⟩ | ⟨rfl, rfl, rfl, rfl, rfl, rfl, rfl⟩ | ⟨rfl, rfl, rfl, rfl, rfl, rfl, rfl⟩

    · by_cases hn : x = []
      · have R := Lib.hid (show restH x p = x by rw [hn]; rfl)
        have K := Lib.hid (show lookH x p = zF by rw [hn]; rfl)
        have j1 : ¬ (0 : Int) < (x.length : Int) := by rw [hn]; simp
        clear hn
        go_wp2_with fail
        go_roundw
        case rel => exact ⟨1, _, _, _, _, _, _, _, _, _, by go_num, HN.out, RA.out, RB.out, RC.out, .inr (.inl ⟨rfl, R.out, rfl, rfl, K.out, rfl, rfl⟩)⟩
        case measure => simp [intOf]
      · obtain ⟨f, r, hfr⟩ := List.exists_cons_of_ne_nil hn
        have hrow := HX.out
        have hl : x.length = (f :: r).length := by rw [hfr]
        rw [hfr] at hrow
        have hrest := hrow
        have hrow2 := hrow.kept HN.out.kp (fun g h e => hN g h e)
        obtain ⟨g, o, c9, hv, hc9, d0, d1, d2⟩ := hrow2.headN
        rw [← hfr] at hv hc9
        injection hv with ea eb ec
        subst ea ec
        have hrest := hrest.restF
        rw [← hl] at hrest
        have j1 : (0 : Int) < (x.length : Int) := by rw [hfr, List.length_cons]; omega
        have j2 : (1 : Int) ≤ (x.length : Int) := by omega
        have HRE := Lib.hid (show restH x p = if f.path = p then r else x by rw [hfr]; rfl)
        have HLO := Lib.hid (show lookH x p = if f.path = p then f else zF by rw [hfr]; rfl)
        have HREST := Lib.hid hrest
        clear hn hfr hrow hrow2 eb hrest hl
        obtain ⟨q, m, d⟩ := f
        dsimp only at d0 d1 d2 HRE HLO
        by_cases hq : q = p
        · have R := Lib.hid (show restH x p = r by rw [HRE.out, if_pos hq])
          have K := Lib.hid (show lookH x p = ⟨q, m, d⟩ by rw [HLO.out, if_pos hq])
          have qb : (q == p) = true := by simp [hq]
          clear HRE HLO hq
          have t0 := HN.out.tc 0 _ rfl
          have tf := HN.out.tf 0
          have h0 := HN.out.hc 0 _ rfl
          have h1 := HN.out.hc 1 _ rfl
          have h2 := HN.out.hc 2 _ rfl
          have g0 := HN.out.hf 0
          have g1 := HN.out.hf 1
          have g2 := HN.out.hf 2
          go_wp2_with fail
          go_region
          have N9 := Lib.hid ((((HN.out.setH 0 (.string ⟨q.toArray⟩)).setH 1 (.int .i64 m)).setH 2 (.string ⟨d.toArray⟩)).setT 0 (.slice (if ca = 1 then some ⟨g, o, none⟩ else some ⟨g, o + 3, none⟩) (x.length - 1) (ca - 1)))
          go_wp2_with fail
          exact ⟨⟨1, _, _, _, ⟨q, m, d⟩, _, _, _, _, _, by go_num, N9.out.drew, HREST.out, RB.out, RC.out, .inr (.inl ⟨rfl, R.out, rfl, rfl, K.out, rfl, rfl⟩)⟩, by simp [intOf]⟩
        · have R := Lib.hid (show restH x p = x by rw [HRE.out, if_neg hq])
          have K := Lib.hid (show lookH x p = zF by rw [HLO.out, if_neg hq])
          have qb : (q == p) = false := by simp [hq]
          clear HRE HLO hq HREST
          go_wp2_with fail
          go_roundw
          case rel => exact ⟨1, _, _, _, _, _, _, _, _, _, by go_num, HN.out, RA.out, RB.out, RC.out, .inr (.inl ⟨rfl, R.out, rfl, rfl, K.out, rfl, rfl⟩)⟩
          case measure => simp [intOf]
    · by_cases hn : y = []
      · have R := Lib.hid (show restH y p = y by rw [hn]; rfl)
        have K := Lib.hid (show lookH y p = zF by rw [hn]; rfl)
        have j1 : ¬ (0 : Int) < (y.length : Int) := by rw [hn]; simp
        clear hn
        go_wp2_with fail
        go_roundw
        case rel => exact ⟨2, _, _, _, _, _, _, _, _, _, by go_num, HN.out, RA.out, RB.out, RC.out, .inr (.inr (.inl ⟨rfl, rfl, R.out, rfl, rfl, K.out, rfl⟩))⟩
        case measure => simp [intOf]
      · obtain ⟨f, r, hfr⟩ := List.exists_cons_of_ne_nil hn
        have hrow := HY.out
        have hl : y.length = (f :: r).length := by rw [hfr]
        rw [hfr] at hrow
        have hrest := hrow
        have hrow2 := hrow.kept HN.out.kp (fun g h e => hN g h e)
        obtain ⟨g, o, c9, hv, hc9, d0, d1, d2⟩ := hrow2.headN
        rw [← hfr] at hv hc9
        injection hv with ea eb ec
        subst ea ec
        have hrest := hrest.restF
        rw [← hl] at hrest
        have j1 : (0 : Int) < (y.length : Int) := by rw [hfr, List.length_cons]; omega
        have j2 : (1 : Int) ≤ (y.length : Int) := by omega
        have HRE := Lib.hid (show restH y p = if f.path = p then r else y by rw [hfr]; rfl)
        have HLO := Lib.hid (show lookH y p = if f.path = p then f else zF by rw [hfr]; rfl)
        have HREST := Lib.hid hrest
        clear hn hfr hrow hrow2 eb hrest hl
        obtain ⟨q, m, d⟩ := f
        dsimp only at d0 d1 d2 HRE HLO
        by_cases hq : q = p
        · have R := Lib.hid (show restH y p = r by rw [HRE.out, if_pos hq])
          have K := Lib.hid (show lookH y p = ⟨q, m, d⟩ by rw [HLO.out, if_pos hq])
          have qb : (q == p) = true := by simp [hq]
          clear HRE HLO hq
          have t0 := HN.out.tc 1 _ rfl
          have tf := HN.out.tf 1
          have h0 := HN.out.hc 3 _ rfl
          have h1 := HN.out.hc 4 _ rfl
          have h2 := HN.out.hc 5 _ rfl
          have g0 := HN.out.hf 3
          have g1 := HN.out.hf 4
          have g2 := HN.out.hf 5
          go_wp2_with fail
          go_region
          have N9 := Lib.hid ((((HN.out.setH 3 (.string ⟨q.toArray⟩)).setH 4 (.int .i64 m)).setH 5 (.string ⟨d.toArray⟩)).setT 1 (.slice (if cb = 1 then some ⟨g, o, none⟩ else some ⟨g, o + 3, none⟩) (y.length - 1) (cb - 1)))
          go_wp2_with fail
          exact ⟨⟨2, _, _, _, _, ⟨q, m, d⟩, _, _, _, _, by go_num, N9.out.drew, RA.out, HREST.out, RC.out, .inr (.inr (.inl ⟨rfl, rfl, R.out, rfl, rfl, K.out, rfl⟩))⟩, by simp [intOf]⟩
        · have R := Lib.hid (show restH y p = y by rw [HRE.out, if_neg hq])
          have K := Lib.hid (show lookH y p = zF by rw [HLO.out, if_neg hq])
          have qb : (q == p) = false := by simp [hq]
          clear HRE HLO hq HREST
          go_wp2_with fail
          go_roundw
          case rel => exact ⟨2, _, _, _, _, _, _, _, _, _, by go_num, HN.out, RA.out, RB.out, RC.out, .inr (.inr (.inl ⟨rfl, rfl, R.out, rfl, rfl, K.out, rfl⟩))⟩
          case measure => simp [intOf]
    · by_cases hn : z = []
      · have R := Lib.hid (show restH z p = z by rw [hn]; rfl)
        have K := Lib.hid (show lookH z p = zF by rw [hn]; rfl)
        have j1 : ¬ (0 : Int) < (z.length : Int) := by rw [hn]; simp
        clear hn
        go_wp2_with fail
        go_roundw
        case rel => exact ⟨3, _, _, _, _, _, _, _, _, _, by go_num, HN.out, RA.out, RB.out, RC.out, .inr (.inr (.inr ⟨rfl, rfl, rfl, R.out, rfl, rfl, K.out⟩))⟩
        case measure => simp [intOf]
      · obtain ⟨f, r, hfr⟩ := List.exists_cons_of_ne_nil hn
        have hrow := HZ.out
        have hl : z.length = (f :: r).length := by rw [hfr]
        rw [hfr] at hrow
        have hrest := hrow
        have hrow2 := hrow.kept HN.out.kp (fun g h e => hN g h e)
        obtain ⟨g, o, c9, hv, hc9, d0, d1, d2⟩ := hrow2.headN
        rw [← hfr] at hv hc9
        injection hv with ea eb ec
        subst ea ec
        have hrest := hrest.restF
        rw [← hl] at hrest
        have j1 : (0 : Int) < (z.length : Int) := by rw [hfr, List.length_cons]; omega
        have j2 : (1 : Int) ≤ (z.length : Int) := by omega
        have HRE := Lib.hid (show restH z p = if f.path = p then r else z by rw [hfr]; rfl)
        have HLO := Lib.hid (show lookH z p = if f.path = p then f else zF by rw [hfr]; rfl)
        have HREST := Lib.hid hrest
        clear hn hfr hrow hrow2 eb hrest hl
        obtain ⟨q, m, d⟩ := f
        dsimp only at d0 d1 d2 HRE HLO
        by_cases hq : q = p
        · have R := Lib.hid (show restH z p = r by rw [HRE.out, if_pos hq])
          have K := Lib.hid (show lookH z p = ⟨q, m, d⟩ by rw [HLO.out, if_pos hq])
          have qb : (q == p) = true := by simp [hq]
          clear HRE HLO hq
          have t0 := HN.out.tc 2 _ rfl
          have tf := HN.out.tf 2
          have h0 := HN.out.hc 6 _ rfl
          have h1 := HN.out.hc 7 _ rfl
          have h2 := HN.out.hc 8 _ rfl
          have g0 := HN.out.hf 6
          have g1 := HN.out.hf 7
          have g2 := HN.out.hf 8
          go_wp2_with fail
          go_region
          have N9 := Lib.hid ((((HN.out.setH 6 (.string ⟨q.toArray⟩)).setH 7 (.int .i64 m)).setH 8 (.string ⟨d.toArray⟩)).setT 2 (.slice (if cc = 1 then some ⟨g, o, none⟩ else some ⟨g, o + 3, none⟩) (z.length - 1) (cc - 1)))
          go_wp2_with fail
          exact ⟨⟨3, _, _, _, _, _, ⟨q, m, d⟩, _, _, _, by go_num, N9.out.drew, RA.out, RB.out, HREST.out, .inr (.inr (.inr ⟨rfl, rfl, rfl, R.out, rfl, rfl, K.out⟩))⟩, by simp [intOf]⟩
        · have R := Lib.hid (show restH z p = z by rw [HRE.out, if_neg hq])
          have K := Lib.hid (show lookH z p = zF by rw [HLO.out, if_neg hq])
          have qb : (q == p) = false := by simp [hq]
          clear HRE HLO hq HREST
          go_wp2_with fail
          go_roundw
          case rel => exact ⟨3, _, _, _, _, _, _, _, _, _, by go_num, HN.out, RA.out, RB.out, RC.out, .inr (.inr (.inr ⟨rfl, rfl, rfl, R.out, rfl, rfl, K.out⟩))⟩
          case measure => simp [intOf]
    · go_wp2_with fail
      obtain ⟨A, hA⟩ : ∃ A, A = lookH x p := ⟨_, rfl⟩
      rw [← hA] at HN
      have EA := Lib.hid hA
      clear hA
      obtain ⟨B, hB⟩ : ∃ B, B = lookH y p := ⟨_, rfl⟩
      rw [← hB] at HN
      have EB := Lib.hid hB
      clear hB
      obtain ⟨C, hC⟩ : ∃ C, C = lookH z p := ⟨_, rfl⟩
      rw [← hC] at HN
      have EC := Lib.hid hC
      clear hC
      have h0 : wr.cell? ⟨H, 0, none⟩ = some (.string ⟨A.path.toArray⟩) := HN.out.hc 0 _ rfl
      have r0 : wr.cell? ⟨w.heap.size, 0, none⟩ = some (.string ⟨#[]⟩) := HN.out.rc 0 _ rfl
      have h1 : wr.cell? ⟨H, 1, none⟩ = some (.int .i64 A.mode) := HN.out.hc 1 _ rfl
      have r1 : wr.cell? ⟨w.heap.size, 1, none⟩ = some (.int .i64 0) := HN.out.rc 1 _ rfl
      have h2 : wr.cell? ⟨H, 2, none⟩ = some (.string ⟨A.data.toArray⟩) := HN.out.hc 2 _ rfl
      have r2 : wr.cell? ⟨w.heap.size, 2, none⟩ = some (.string ⟨#[]⟩) := HN.out.rc 2 _ rfl
      have h3 : wr.cell? ⟨H, 3, none⟩ = some (.string ⟨B.path.toArray⟩) := HN.out.hc 3 _ rfl
      have r3 : wr.cell? ⟨w.heap.size, 3, none⟩ = some (.string ⟨#[]⟩) := HN.out.rc 3 _ rfl
      have h4 : wr.cell? ⟨H, 4, none⟩ = some (.int .i64 B.mode) := HN.out.hc 4 _ rfl
      have r4 : wr.cell? ⟨w.heap.size, 4, none⟩ = some (.int .i64 0) := HN.out.rc 4 _ rfl
      have h5 : wr.cell? ⟨H, 5, none⟩ = some (.string ⟨B.data.toArray⟩) := HN.out.hc 5 _ rfl
      have r5 : wr.cell? ⟨w.heap.size, 5, none⟩ = some (.string ⟨#[]⟩) := HN.out.rc 5 _ rfl
      have h6 : wr.cell? ⟨H, 6, none⟩ = some (.string ⟨C.path.toArray⟩) := HN.out.hc 6 _ rfl
      have r6 : wr.cell? ⟨w.heap.size, 6, none⟩ = some (.string ⟨#[]⟩) := HN.out.rc 6 _ rfl
      have h7 : wr.cell? ⟨H, 7, none⟩ = some (.int .i64 C.mode) := HN.out.hc 7 _ rfl
      have r7 : wr.cell? ⟨w.heap.size, 7, none⟩ = some (.int .i64 0) := HN.out.rc 7 _ rfl
      have h8 : wr.cell? ⟨H, 8, none⟩ = some (.string ⟨C.data.toArray⟩) := HN.out.hc 8 _ rfl
      have r8 : wr.cell? ⟨w.heap.size, 8, none⟩ = some (.string ⟨#[]⟩) := HN.out.rc 8 _ rfl
      have s0 := HN.out.rf 0
      have s1 := HN.out.rf 1
      have s2 := HN.out.rf 2
      have s3 := HN.out.rf 3
      have s4 := HN.out.rf 4
      have s5 := HN.out.rf 5
      have s6 := HN.out.rf 6
      have s7 := HN.out.rf 7
      have s8 := HN.out.rf 8
      have HR := Lib.hid (set9_heap HN.out.hr A B C)
      have KR := Lib.hid (set9_kept wr w.heap.size A B C)
      unfold set3 at HR KR
      simp only [Nat.zero_add, Nat.reduceAdd] at HR KR
      go_region
      go_wp2_with fail
      generalize ((((((((wr.setCell ⟨w.heap.size, 0, none⟩ (.string ⟨A.path.toArray⟩)).setCell ⟨w.heap.size, 1, none⟩ (.int .i64 A.mode)).setCell ⟨w.heap.size, 2, none⟩ (.string ⟨A.data.toArray⟩)).setCell ⟨w.heap.size, 3, none⟩ (.string ⟨B.path.toArray⟩)).setCell ⟨w.heap.size, 4, none⟩ (.int .i64 B.mode)).setCell ⟨w.heap.size, 5, none⟩ (.string ⟨B.data.toArray⟩)).setCell ⟨w.heap.size, 6, none⟩ (.string ⟨C.path.toArray⟩)).setCell ⟨w.heap.size, 7, none⟩ (.int .i64 C.mode)).setCell ⟨w.heap.size, 8, none⟩ (.string ⟨C.data.toArray⟩) = w9 at *
      have hlt3 := HN.out.lt
      exact bodyPost_ret (results_nine Tryd.results47 _ _ w.heap.size (nine A B C) rfl rfl (show w9.drew.heap[w.heap.size]? = _ from HR.out)) rfl ⟨_, _, _, by rw [← EA.out, ← EB.out, ← EC.out]; rfl, KR.out.old HN.out.ht (by omega), RA.out, RB.out, RC.out, nkept_on HN.out.kp ⟨KR.out.os, KR.out.tape, KR.out.output, KR.out.size, KR.out.block⟩ (fun i hi e => by omega)⟩
end Go.Proofs.YtfgimhgkjodcgaaDoor

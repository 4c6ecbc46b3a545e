/- Lists of files and of items that came in: what a walk is told of them. -/
import Derived.Test.YtamiacmnobklaaaDoorArgs3
import Derived.Test.YtamiacmnobklaaaDoorFrame
import Derived.Test.YtamiacmnobklaaaDoorGen
import Derived.Test.YtamiacmnobklaaaDoorOwnL
import Derived.Test.YtamiacmnobklaaaDoorCdX
import Derived.Test.YtamiacmnobklaaaDoorRowN
import Derived.Test.YtamiacmnobklaaaDoorRows
import Derived.Test.YtamiacmnobklaaaDoorTreeMath
import Derived.BigQuiet
import Derived.Deep.Slices
import Derived.Deep.Strs
import Derived.Lib.Hide
import Derived.Lib.SmallJoins
import Derived.WalkKit
import Derived.WalkLawsBesides
import Derived.WalkSpells
set_option linter.unusedVariables false
namespace Go.Proofs.YtamiacmnobklaaaDoor
open Go.ChangeShapes Go.WideShapes Go.ChangeAt Go.RowKit

structure FileOk (x : FileD) : Prop where
  p : x.path.length ≤ 140737488351232
  m : -9223372036854775808 ≤ x.mode ∧ x.mode ≤ 9223372036854775807
  d : x.data.length ≤ 140737488351232
structure ItemOk (x : ItemD) : Prop where
  p : x.path.length ≤ 140737488351232
  m : -9223372036854775808 ≤ x.mode ∧ x.mode ≤ 9223372036854775807
  s : -9223372036854775808 ≤ x.size ∧ x.size ≤ 9223372036854775807
  k : x.mark.length ≤ 140737488351232
structure FilesIn (W : World) (c : Value) (xs : List FileD) : Prop where
  row : RowN encF 3 (· < W.heap.size) W c xs
  ok : ∀ x ∈ xs, FileOk x
  len : xs.length * 40 ≤ 140737488351232
structure ItemsIn (W : World) (c : Value) (xs : List ItemD) : Prop where
  row : RowN encI 4 (· < W.heap.size) W c xs
  ok : ∀ x ∈ xs, ItemOk x
  len : xs.length * 48 ≤ 140737488351232
/-- A list of files, of items, that came in. -/
def FsIn (W : World) (c : Value) : Prop := ∃ xs, FilesIn W c xs
def IsIn (W : World) (c : Value) : Prop := ∃ xs, ItemsIn W c xs
theorem each_of {α : Type} (Q : Nat → α → Prop) : ∀ n, (∀ i, i < n → ∃ x, Q i x) → ∃ l : List α, l.length = n ∧ ∀ i (h : i < l.length), Q i l[i] := by
  intro n
  induction n with
  | zero => intro _; exact ⟨[], rfl, fun i h => by simp at h⟩
  | succ n ih =>
    intro h
    obtain ⟨l, h1, h2⟩ := ih (fun i hi => h i (by omega))
    obtain ⟨x, hx⟩ := h n (by omega)
    refine ⟨l ++ [x], by simp [h1], fun i hi => ?_⟩
    rcases Nat.lt_or_ge i l.length with c | c
    · rw [List.getElem_append_left c]; exact h2 i c
    · have : i = l.length := by simp at hi; omega
      subst this
      rw [List.getElem_concat_length (by rfl), h1]; exact hx
theorem cells_in3 {w : World} {base : Nat} {a : Addr} {cs : List Value} (h : w.cells? base a 3 = some cs) : ∃ c0 c1 c2, cs = [c0, c1, c2] ∧ w.cell? (a.add 0) = some c0 ∧ w.cell? (a.add 1) = some c1 ∧ w.cell? (a.add 2) = some c2 := by
  unfold World.cells? at h
  split at h
  · rw [show List.range 3 = [0, 1, 2] from rfl] at h
    simp only [List.mapM_cons, List.mapM_nil] at h
    cases h0 : w.cell? (a.add 0) <;> simp [h0] at h
    cases h1 : w.cell? (a.add 1) <;> simp [h1] at h
    cases h2 : w.cell? (a.add 2) <;> simp [h2] at h
    exact ⟨_, _, _, h.symm, rfl, rfl, rfl⟩
  · cases h
theorem cells_in4 {w : World} {base : Nat} {a : Addr} {cs : List Value} (h : w.cells? base a 4 = some cs) : ∃ c0 c1 c2 c3, cs = [c0, c1, c2, c3] ∧ w.cell? (a.add 0) = some c0 ∧ w.cell? (a.add 1) = some c1 ∧ w.cell? (a.add 2) = some c2 ∧ w.cell? (a.add 3) = some c3 := by
  unfold World.cells? at h
  split at h
  · rw [show List.range 4 = [0, 1, 2, 3] from rfl] at h
    simp only [List.mapM_cons, List.mapM_nil] at h
    cases h0 : w.cell? (a.add 0) <;> simp [h0] at h
    cases h1 : w.cell? (a.add 1) <;> simp [h1] at h
    cases h2 : w.cell? (a.add 2) <;> simp [h2] at h
    cases h3 : w.cell? (a.add 3) <;> simp [h3] at h
    exact ⟨_, _, _, _, h.symm, rfl, rfl, rfl, rfl⟩
  · cases h

section
variable {H : Type} {enc : TypeId × Value → H} {P : Program} {W : World} {t e ti ts : TypeId} {v : Value} {d : DataW H} {ps : List MemPlace} {base : Nat}
theorem arg_files {f0 f1 f2 : Field} (ht : P.underlying t = some (.slice e)) (hs : P.underlying e = some (.struct #[f0, f1, f2])) (hint : P.underlying ti = some (.int .i64)) (hstr : P.underlying ts = some .string)
    (hf : f0.type = ts ∧ f1.type = ti ∧ f2.type = ts ∧ f0.offset = 0 ∧ f1.offset = 1 ∧ f2.offset = 2) (hce : P.cellsOf e = 3) (hci : P.cellsOf ti = 1) (hcs : P.cellsOf ts = 1) (hb : P.bytesOf e = 40)
    (hval : Value.okWide P W .any base t v) (h : DataW.Trod enc P W 0 (fun _ => true) true t v d ps) (hw : ∀ n ∈ d.weights P t, n ≤ reachBytes) (hlt : ∀ x ∈ ps, x.block < W.heap.size) : FsIn W v := by
  obtain ⟨a0, len, cap, rfl⟩ := okWide_slice ht hval
  obtain ⟨fuel, hfu⟩ := h
  obtain ⟨t0, t1, t2, o0, o1, o2⟩ := hf
  rcases Deep.open_slice ht hfu with ⟨hcc, hx⟩ | ⟨x', len', cap', m, n, D, Pl, hcc', _, hl, hm, hmm, hx, hel⟩
  · simp [Value.cells] at hcc
    obtain ⟨rfl, rfl, rfl⟩ := hcc
    exact ⟨[], RowN.nil _ _ _ _, fun x hx => by simp at hx, by decide⟩
  · simp [Value.cells] at hcc'
    obtain ⟨rfl, rfl, rfl⟩ := hcc'
    simp only [Prod.mk.injEq] at hx
    obtain ⟨rfl, rfl⟩ := hx
    simp only [if_true] at hmm
    subst hmm
    have each : ∀ j, j < m → ∃ (q0 : ByteArray) (q1 : Int) (q2 : ByteArray), W.cell? ((x'.add (j * 3)).add 0) = some (.string q0) ∧ W.cell? ((x'.add (j * 3)).add 1) = some (.int .i64 q1) ∧ W.cell? ((x'.add (j * 3)).add 2) = some (.string q2) ∧ (Lit.int .i64 q1).wf = true ∧ D j = .agg [.lit (.string q0.data.toList), .lit (.int .i64 q1), .lit (.string q2.data.toList)] := by
      intro j hj
      obtain ⟨cs', hc1, hc2⟩ := hel j hj
      rw [hce] at hc1
      obtain ⟨c0, c1, c2, rfl, g0, g1, g2⟩ := cells_in3 hc1
      obtain ⟨y0, y1, y2, n', hy, _, k0, k1, k2⟩ := Deep.trod_struct3 hs hc2
      rw [t0, o0, hcs] at k0
      rw [t1, o1, hci] at k1
      rw [t2, o2, hcs] at k2
      obtain ⟨q0, e0, d0, w0⟩ := DataW.trod_string hstr k0
      obtain ⟨q1, e1, d1, w1⟩ := DataW.trod_int hint k1
      obtain ⟨q2, e2, d2, w2⟩ := DataW.trod_string hstr k2
      simp at e0 e1 e2
      subst e0; subst e1; subst e2
      simp only [Prod.mk.injEq] at hy
      refine ⟨q0, q1, q2, g0, g1, g2, w1, ?_⟩
      rw [hy.1, d0, d1, d2]
    have plain : ∀ o j b : Nat, (⟨b, o, none⟩ : Addr).add j = ⟨b, o + j, none⟩ := fun o j b => by unfold Addr.add; split <;> simp_all
    have one : ∀ i, i < len → ∃ y : FileD, FileOk y ∧ ∃ g o, (some x' = some (⟨g, o, none⟩ : Addr)) ∧ g < W.heap.size ∧ ElAt encF W g (o + i * 3) y := by
      intro i hi
      have hspot : x'.spot = none := by
        obtain ⟨_, _, _, h0, _⟩ := each 0 (by omega)
        have := World.cell?_spot h0
        simpa [Addr.add] using this
      obtain ⟨b, off, spot⟩ := x'
      simp only at hspot
      subst hspot
      obtain ⟨q0, q1, q2, h0, h1, h2, w1, hD⟩ := each i (by omega)
      rw [plain, plain] at h0 h1 h2
      have wlen : ∀ (j : Nat) (f : Field) (u : ByteArray), #[f0, f1, f2].toList[j]? = some f → [(.lit (.string q0.data.toList) : DataW H), .lit (.int .i64 q1), (.lit (.string q2.data.toList) : DataW H)][j]? = some (DataW.lit (.string u.data.toList) : DataW H) → u.data.toList.length ≤ 140737488351232 := by
        intro j f u hj hx
        have hmem : D i ∈ (List.range len).map D := List.mem_map.2 ⟨i, List.mem_range.2 hi, rfl⟩
        have hin : u.data.toList.length ∈ (D i).weights P e := by
          rw [hD, DataW.weights, hs]
          refine DataW.weights_mem_each (j := j) (t := f.type) (d := .lit (.string u.data.toList)) ?_ hx _ ?_
          · have hj' : [f0, f1, f2][j]? = some f := hj
            show ([f0, f1, f2].map (·.type))[j]? = _
            rw [List.getElem?_map, hj']
            rfl
          · simp [DataW.weights]
        have := hw u.data.toList.length (by
          rw [DataW.weights, ht]
          exact List.mem_cons_of_mem _ (List.mem_append_left _ (mem_weightsAll P e _ _ hin _ hmem)))
        simpa [reachBytes] using this
      refine ⟨⟨q0.data.toList, q1, q2.data.toList⟩, ⟨wlen 0 f0 q0 rfl rfl, bounds_i64 w1, wlen 2 f2 q2 rfl rfl⟩, b, off, rfl, hlt (.cell b off) (List.mem_append_left _ (MemPlace.mem_row.2 ⟨0, by rw [hce]; omega, by simp⟩)), fun r u hu => ?_⟩
      match r, hu with
      | 0, hu => simp [encF] at hu; subst hu; simpa using h0
      | 1, hu => simp [encF] at hu; subst hu; simpa using h1
      | 2, hu => simp [encF] at hu; subst hu; simpa using h2
    obtain ⟨xs, hxl, hxa⟩ := each_of _ len one
    subst hxl
    refine ⟨xs, ⟨some x', m, rfl, by omega, fun i hi => ?_⟩, fun y hy => ?_, ?_⟩
    · obtain ⟨_, g, o, h1, h2, h3⟩ := hxa i hi
      exact ⟨g, o, h1, h2, h3⟩
    · obtain ⟨i, hi, rfl⟩ := List.getElem_of_mem hy
      exact (hxa i hi).1
    · have := hw (xs.length * 40 + (m - xs.length) * 40) (by
        simp [DataW.weights, ht, hb, Nat.add_mul])
      simp only [reachBytes] at this
      omega
theorem arg_items {f0 f1 f2 f3 : Field} (ht : P.underlying t = some (.slice e)) (hs : P.underlying e = some (.struct #[f0, f1, f2, f3])) (hint : P.underlying ti = some (.int .i64)) (hstr : P.underlying ts = some .string)
    (hf : f0.type = ts ∧ f1.type = ti ∧ f2.type = ti ∧ f3.type = ts ∧ f0.offset = 0 ∧ f1.offset = 1 ∧ f2.offset = 2 ∧ f3.offset = 3) (hce : P.cellsOf e = 4) (hci : P.cellsOf ti = 1) (hcs : P.cellsOf ts = 1) (hb : P.bytesOf e = 48)
    (hval : Value.okWide P W .any base t v) (h : DataW.Trod enc P W 0 (fun _ => true) true t v d ps) (hw : ∀ n ∈ d.weights P t, n ≤ reachBytes) (hlt : ∀ x ∈ ps, x.block < W.heap.size) : IsIn W v := by
  obtain ⟨a0, len, cap, rfl⟩ := okWide_slice ht hval
  obtain ⟨fuel, hfu⟩ := h
  obtain ⟨t0, t1, t2, t3, o0, o1, o2, o3⟩ := hf
  rcases Deep.open_slice ht hfu with ⟨hcc, hx⟩ | ⟨x', len', cap', m, n, D, Pl, hcc', _, hl, hm, hmm, hx, hel⟩
  · simp [Value.cells] at hcc
    obtain ⟨rfl, rfl, rfl⟩ := hcc
    exact ⟨[], RowN.nil _ _ _ _, fun x hx => by simp at hx, by decide⟩
  · simp [Value.cells] at hcc'
    obtain ⟨rfl, rfl, rfl⟩ := hcc'
    simp only [Prod.mk.injEq] at hx
    obtain ⟨rfl, rfl⟩ := hx
    simp only [if_true] at hmm
    subst hmm
    have each : ∀ j, j < m → ∃ (q0 : ByteArray) (q1 : Int) (q2 : Int) (q3 : ByteArray), W.cell? ((x'.add (j * 4)).add 0) = some (.string q0) ∧ W.cell? ((x'.add (j * 4)).add 1) = some (.int .i64 q1) ∧ W.cell? ((x'.add (j * 4)).add 2) = some (.int .i64 q2) ∧ W.cell? ((x'.add (j * 4)).add 3) = some (.string q3) ∧ (Lit.int .i64 q1).wf = true ∧ (Lit.int .i64 q2).wf = true ∧ D j = .agg [.lit (.string q0.data.toList), .lit (.int .i64 q1), .lit (.int .i64 q2), .lit (.string q3.data.toList)] := by
      intro j hj
      obtain ⟨cs', hc1, hc2⟩ := hel j hj
      rw [hce] at hc1
      obtain ⟨c0, c1, c2, c3, rfl, g0, g1, g2, g3⟩ := cells_in4 hc1
      obtain ⟨y0, y1, y2, y3, n', hy, _, k0, k1, k2, k3⟩ := Joins.trod_struct4 hs hc2
      rw [t0, o0, hcs] at k0
      rw [t1, o1, hci] at k1
      rw [t2, o2, hci] at k2
      rw [t3, o3, hcs] at k3
      obtain ⟨q0, e0, d0, w0⟩ := DataW.trod_string hstr k0
      obtain ⟨q1, e1, d1, w1⟩ := DataW.trod_int hint k1
      obtain ⟨q2, e2, d2, w2⟩ := DataW.trod_int hint k2
      obtain ⟨q3, e3, d3, w3⟩ := DataW.trod_string hstr k3
      simp at e0 e1 e2 e3
      subst e0; subst e1; subst e2; subst e3
      simp only [Prod.mk.injEq] at hy
      refine ⟨q0, q1, q2, q3, g0, g1, g2, g3, w1, w2, ?_⟩
      rw [hy.1, d0, d1, d2, d3]
    have plain : ∀ o j b : Nat, (⟨b, o, none⟩ : Addr).add j = ⟨b, o + j, none⟩ := fun o j b => by unfold Addr.add; split <;> simp_all
    have one : ∀ i, i < len → ∃ y : ItemD, ItemOk y ∧ ∃ g o, (some x' = some (⟨g, o, none⟩ : Addr)) ∧ g < W.heap.size ∧ ElAt encI W g (o + i * 4) y := by
      intro i hi
      have hspot : x'.spot = none := by
        obtain ⟨_, _, _, _, h0, _⟩ := each 0 (by omega)
        have := World.cell?_spot h0
        simpa [Addr.add] using this
      obtain ⟨b, off, spot⟩ := x'
      simp only at hspot
      subst hspot
      obtain ⟨q0, q1, q2, q3, h0, h1, h2, h3, w1, w2, hD⟩ := each i (by omega)
      rw [plain, plain] at h0 h1 h2 h3
      have wlen : ∀ (j : Nat) (f : Field) (u : ByteArray), #[f0, f1, f2, f3].toList[j]? = some f → [(.lit (.string q0.data.toList) : DataW H), .lit (.int .i64 q1), .lit (.int .i64 q2), (.lit (.string q3.data.toList) : DataW H)][j]? = some (DataW.lit (.string u.data.toList) : DataW H) → u.data.toList.length ≤ 140737488351232 := by
        intro j f u hj hx
        have hmem : D i ∈ (List.range len).map D := List.mem_map.2 ⟨i, List.mem_range.2 hi, rfl⟩
        have hin : u.data.toList.length ∈ (D i).weights P e := by
          rw [hD, DataW.weights, hs]
          refine DataW.weights_mem_each (j := j) (t := f.type) (d := .lit (.string u.data.toList)) ?_ hx _ ?_
          · have hj' : [f0, f1, f2, f3][j]? = some f := hj
            show ([f0, f1, f2, f3].map (·.type))[j]? = _
            rw [List.getElem?_map, hj']
            rfl
          · simp [DataW.weights]
        have := hw u.data.toList.length (by
          rw [DataW.weights, ht]
          exact List.mem_cons_of_mem _ (List.mem_append_left _ (mem_weightsAll P e _ _ hin _ hmem)))
        simpa [reachBytes] using this
      refine ⟨⟨q0.data.toList, q1, q2, q3.data.toList⟩, ⟨wlen 0 f0 q0 rfl rfl, bounds_i64 w1, bounds_i64 w2, wlen 3 f3 q3 rfl rfl⟩, b, off, rfl, hlt (.cell b off) (List.mem_append_left _ (MemPlace.mem_row.2 ⟨0, by rw [hce]; omega, by simp⟩)), fun r u hu => ?_⟩
      match r, hu with
      | 0, hu => simp [encI] at hu; subst hu; simpa using h0
      | 1, hu => simp [encI] at hu; subst hu; simpa using h1
      | 2, hu => simp [encI] at hu; subst hu; simpa using h2
      | 3, hu => simp [encI] at hu; subst hu; simpa using h3
    obtain ⟨xs, hxl, hxa⟩ := each_of _ len one
    subst hxl
    refine ⟨xs, ⟨some x', m, rfl, by omega, fun i hi => ?_⟩, fun y hy => ?_, ?_⟩
    · obtain ⟨_, g, o, h1, h2, h3⟩ := hxa i hi
      exact ⟨g, o, h1, h2, h3⟩
    · obtain ⟨i, hi, rfl⟩ := List.getElem_of_mem hy
      exact (hxa i hi).1
    · have := hw (xs.length * 48 + (m - xs.length) * 48) (by
        simp [DataW.weights, ht, hb, Nat.add_mul])
      simp only [reachBytes] at this
      omega
end
end Go.Proofs.YtamiacmnobklaaaDoor

/- Several texts in one: Args3, ArgTree, ArgOpB. -/
import Derived.Test.YtamiacmnobklaaaGreatDoorFrame
import Derived.Test.YtamiacmnobklaaaGreatDoorGen
import Derived.Test.YtamiacmnobklaaaGreatDoorInfos
import Derived.Test.YtamiacmnobklaaaGreatDoorRows
import Derived.Test.YtamiacmnobklaaaGreatDoorOwnL
import Derived.Test.YtamiacmnobklaaaGreatDoorCdX
import Derived.Test.YtamiacmnobklaaaGreatDoorRowN
import Derived.Test.YtamiacmnobklaaaGreatDoorTreeMath
import Derived.BigQuiet
import Derived.Deep.Slices
import Derived.Deep.Strs
import Derived.Lib.Hide
import Derived.Lib.SmallJoins
import Derived.WalkKit
import Derived.WalkLawsBesides
import Derived.WalkSpells
import Derived.Test.YtamiacmnobklaaaGreatDoorMarkMath
/- What a walk is told of a list of texts that came in: its length is within its capacity, each text has a bound. Of no program. -/
set_option linter.unusedVariables false
namespace Go.Proofs.YtamiacmnobklaaaGreatDoor
open Go.ChangeShapes Go.WideShapes Go.ChangeAt Go.RowKit

theorem mem_weightsAll {H : Type} (P : Program) (e : TypeId) (d : DataW H) (n : Nat) (hn : n ∈ d.weights P e) : ∀ l : List (DataW H), d ∈ l → n ∈ DataW.weightsAll P e l
  | [], h => by simp at h
  | x :: r, h => by
    rw [DataW.weightsAll]
    rcases List.mem_cons.1 h with rfl | h
    · exact List.mem_append_left _ hn
    · exact List.mem_append_right _ (mem_weightsAll P e d n hn r h)

/-- A list of texts that came in. -/
def Texts (W : World) (v : Value) (xs : List (List UInt8)) : Prop :=
  ∃ a cap, v = .slice a xs.length cap ∧ xs.length ≤ cap ∧ cap ≤ maxLen ∧ (∀ x ∈ xs, x.length ≤ 140737488351232) ∧ xs.length * 16 ≤ 140737488351232 ∧
    ∀ i (h : i < xs.length), ∃ b off, a = some ⟨b, off, none⟩ ∧ b < W.heap.size ∧ W.cell? ⟨b, off + i, none⟩ = some (encT xs[i])
theorem Texts.cases {W : World} {v : Value} {xs : List (List UInt8)} (h : Texts W v xs) : (xs = [] ∧ ∃ a cap, v = .slice a 0 cap) ∨
    ∃ b off cap, v = .slice (some ⟨b, off, none⟩) xs.length cap ∧ xs.length ≤ cap ∧ b < W.heap.size ∧ ∀ i (h : i < xs.length), W.cell? ⟨b, off + i, none⟩ = some (encT xs[i]) := by
  obtain ⟨a, cap, rfl, h1, h2, h3, h4, hc⟩ := h
  by_cases hx : xs = []
  · subst hx; exact .inl ⟨rfl, a, cap, rfl⟩
  · obtain ⟨b, off, rfl, hN, _⟩ := hc 0 (List.length_pos_iff.2 hx)
    refine .inr ⟨b, off, cap, rfl, h1, hN, fun i hi => ?_⟩
    obtain ⟨b', off', he, _, hcell⟩ := hc i hi
    simp at he
    obtain ⟨rfl, rfl⟩ := he
    exact hcell
theorem Texts.cases2 {W : World} {v : Value} {xs : List (List UInt8)} (h : Texts W v xs) : (xs = [] ∧ ∃ a cap, v = .slice a 0 cap) ∨
    ∃ b off cap, v = .slice (some ⟨b, off, none⟩) xs.length cap ∧ 0 < xs.length ∧ xs.length ≤ cap ∧ b < W.heap.size ∧ ∀ i (h : i < xs.length), W.cell? ⟨b, off + i, none⟩ = some (encT xs[i]) := by
  by_cases hx : xs = []
  · obtain ⟨a, cap, rfl, _⟩ := h
    subst hx; exact .inl ⟨rfl, a, cap, rfl⟩
  · rcases h.cases with ⟨h1, _⟩ | ⟨b, off, cap, h1, h2, h3, h4⟩
    · exact absurd h1 hx
    · exact .inr ⟨b, off, cap, h1, List.length_pos_iff.2 hx, h2, h3, h4⟩
theorem Texts.each {W : World} {v : Value} {xs : List (List UInt8)} (h : Texts W v xs) : ∀ x ∈ xs, x.length ≤ 140737488351232 := by
  obtain ⟨a, cap, rfl, h1, h2, h3, h4, hc⟩ := h; exact h3
theorem Texts.len {W : World} {v : Value} {xs : List (List UInt8)} (h : Texts W v xs) : xs.length * 16 ≤ 140737488351232 := by
  obtain ⟨a, cap, rfl, h1, h2, h3, h4, hc⟩ := h; exact h4

section
variable {H : Type} {enc : TypeId × Value → H} {P : Program} {W : World} {t e : TypeId} {v : Value} {d : DataW H} {ps : List MemPlace} {base : Nat}
theorem arg_texts3 (ht : P.underlying t = some (.slice e)) (he : P.underlying e = some .string) (hc : P.cellsOf e = 1) (hb : P.bytesOf e = 16)
    (hval : Value.okWide P W .any base t v) (h : DataW.Trod enc P W 0 (fun _ => true) true t v d ps) (hw : ∀ n ∈ d.weights P t, n ≤ reachBytes) (hlt : ∀ x ∈ ps, x.block < W.heap.size) :
    ∃ xs : List (List UInt8), Texts W v xs := by
  obtain ⟨a0, len, cap, rfl⟩ := okWide_slice ht hval
  obtain ⟨fuel, hf⟩ := h
  rcases open_strings ht he hc hf with ⟨hcs, hx⟩ | ⟨x, len', cap', zs, hcs, _, hl, hm, hz, hx, hcell, hwz⟩
  · simp [Value.cells] at hcs
    obtain ⟨rfl, rfl, rfl⟩ := hcs
    exact ⟨[], none, 0, rfl, by simp, by decide, by simp, by simp, fun i hi => absurd hi (Nat.not_lt_zero _)⟩
  · simp [Value.cells] at hcs
    obtain ⟨rfl, rfl, rfl⟩ := hcs
    simp only [Prod.mk.injEq] at hx
    obtain ⟨rfl, rfl⟩ := hx
    simp only [if_true] at hz
    have hlen : ((zs.take len).map fun s => s.data.toList).length = len := by rw [List.length_map, List.length_take]; omega
    refine ⟨(zs.take len).map fun s => s.data.toList, some x, cap, by rw [hlen], by rw [hlen]; exact hl, hm, ?_, ?_, fun i hi => ?_⟩
    · intro y hy
      obtain ⟨s, hs, rfl⟩ := List.mem_map.1 hy
      have hmem : (DataW.lit (.string s.data.toList) : DataW H) ∈ strs (H := H) (zs.take len) := List.mem_map.2 ⟨s, hs, rfl⟩
      have := hw s.data.toList.length (by
        rw [DataW.weights, ht]
        refine List.mem_cons_of_mem _ (List.mem_append_left _ (mem_weightsAll P e _ _ ?_ _ hmem))
        simp [DataW.weights])
      simpa [reachBytes] using this
    · have := hw ((strs (H := H) (zs.take len)).length * 16 + (strs (H := H) (zs.drop len)).length * 16) (by
        simp [DataW.weights, ht, hb, Nat.add_mul])
      simp only [strs, List.length_map, reachBytes] at this
      rw [hlen]
      rw [List.length_take, List.length_drop] at this
      omega
    · have hi' : i < len := by omega
      have hcl := hcell i (by omega)
      obtain ⟨b, off, spot⟩ := x
      have hspot : spot = none := by simpa [Addr.add] using World.cell?_spot (hcell 0 (by omega))
      subst hspot
      refine ⟨b, off, rfl, hlt (.cell b off) (MemPlace.mem_row.2 ⟨0, by omega, by simp⟩), ?_⟩
      have e1 : (⟨b, off, none⟩ : Addr).add i = ⟨b, off + i, none⟩ := by simp [Addr.add]
      rw [e1] at hcl
      rw [hcl, List.getElem_map, List.getElem_take, List.getD_eq_getElem?_getD, List.getElem?_eq_getElem (by omega)]
      simp
end
end Go.Proofs.YtamiacmnobklaaaGreatDoor
/- Lists of files and of items that came in: what a walk is told of them. -/
set_option linter.unusedVariables false
namespace Go.Proofs.YtamiacmnobklaaaGreatDoor
open Go.ChangeShapes Go.WideShapes Go.ChangeAt Go.RowKit

structure FileOk (x : FileD) : Prop where
  p : x.path.length ≤ 140737488351232
  m : -9223372036854775808 ≤ x.mode ∧ x.mode ≤ 9223372036854775807
  d : x.data.length ≤ 140737488351232
structure ItemOk (x : ItemD) : Prop where
  p : x.path.length ≤ 140737488351232
  m : -9223372036854775808 ≤ x.mode ∧ x.mode ≤ 9223372036854775807
  s : -9223372036854775808 ≤ x.size ∧ x.size ≤ 9223372036854775807
  k : x.mark.length ≤ 140737488351232
structure FilesIn (W : World) (c : Value) (xs : List FileD) : Prop where
  row : RowN encF 3 (· < W.heap.size) W c xs
  ok : ∀ x ∈ xs, FileOk x
  len : xs.length * 40 ≤ 140737488351232
structure ItemsIn (W : World) (c : Value) (xs : List ItemD) : Prop where
  row : RowN encI 4 (· < W.heap.size) W c xs
  ok : ∀ x ∈ xs, ItemOk x
  len : xs.length * 48 ≤ 140737488351232
/-- A list of files, of items, that came in. -/
def FsIn (W : World) (c : Value) : Prop := ∃ xs, FilesIn W c xs
def IsIn (W : World) (c : Value) : Prop := ∃ xs, ItemsIn W c xs
theorem each_of {α : Type} (Q : Nat → α → Prop) : ∀ n, (∀ i, i < n → ∃ x, Q i x) → ∃ l : List α, l.length = n ∧ ∀ i (h : i < l.length), Q i l[i] := by
  intro n
  induction n with
  | zero => intro _; exact ⟨[], rfl, fun i h => by simp at h⟩
  | succ n ih =>
    intro h
    obtain ⟨l, h1, h2⟩ := ih (fun i hi => h i (by omega))
    obtain ⟨x, hx⟩ := h n (by omega)
    refine ⟨l ++ [x], by simp [h1], fun i hi => ?_⟩
    rcases Nat.lt_or_ge i l.length with c | c
    · rw [List.getElem_append_left c]; exact h2 i c
    · have : i = l.length := by simp at hi; omega
      subst this
      rw [List.getElem_concat_length (by rfl), h1]; exact hx
theorem cells_in3 {w : World} {base : Nat} {a : Addr} {cs : List Value} (h : w.cells? base a 3 = some cs) : ∃ c0 c1 c2, cs = [c0, c1, c2] ∧ w.cell? (a.add 0) = some c0 ∧ w.cell? (a.add 1) = some c1 ∧ w.cell? (a.add 2) = some c2 := by
  unfold World.cells? at h
  split at h
  · rw [show List.range 3 = [0, 1, 2] from rfl] at h
    simp only [List.mapM_cons, List.mapM_nil] at h
    cases h0 : w.cell? (a.add 0) <;> simp [h0] at h
    cases h1 : w.cell? (a.add 1) <;> simp [h1] at h
    cases h2 : w.cell? (a.add 2) <;> simp [h2] at h
    exact ⟨_, _, _, h.symm, rfl, rfl, rfl⟩
  · cases h
theorem cells_in4 {w : World} {base : Nat} {a : Addr} {cs : List Value} (h : w.cells? base a 4 = some cs) : ∃ c0 c1 c2 c3, cs = [c0, c1, c2, c3] ∧ w.cell? (a.add 0) = some c0 ∧ w.cell? (a.add 1) = some c1 ∧ w.cell? (a.add 2) = some c2 ∧ w.cell? (a.add 3) = some c3 := by
  unfold World.cells? at h
  split at h
  · rw [show List.range 4 = [0, 1, 2, 3] from rfl] at h
    simp only [List.mapM_cons, List.mapM_nil] at h
    cases h0 : w.cell? (a.add 0) <;> simp [h0] at h
    cases h1 : w.cell? (a.add 1) <;> simp [h1] at h
    cases h2 : w.cell? (a.add 2) <;> simp [h2] at h
    cases h3 : w.cell? (a.add 3) <;> simp [h3] at h
    exact ⟨_, _, _, _, h.symm, rfl, rfl, rfl, rfl⟩
  · cases h

section
variable {H : Type} {enc : TypeId × Value → H} {P : Program} {W : World} {t e ti ts : TypeId} {v : Value} {d : DataW H} {ps : List MemPlace} {base : Nat}
theorem arg_files {f0 f1 f2 : Field} (ht : P.underlying t = some (.slice e)) (hs : P.underlying e = some (.struct #[f0, f1, f2])) (hint : P.underlying ti = some (.int .i64)) (hstr : P.underlying ts = some .string)
    (hf : f0.type = ts ∧ f1.type = ti ∧ f2.type = ts ∧ f0.offset = 0 ∧ f1.offset = 1 ∧ f2.offset = 2) (hce : P.cellsOf e = 3) (hci : P.cellsOf ti = 1) (hcs : P.cellsOf ts = 1) (hb : P.bytesOf e = 40)
    (hval : Value.okWide P W .any base t v) (h : DataW.Trod enc P W 0 (fun _ => true) true t v d ps) (hw : ∀ n ∈ d.weights P t, n ≤ reachBytes) (hlt : ∀ x ∈ ps, x.block < W.heap.size) : FsIn W v := by
  obtain ⟨a0, len, cap, rfl⟩ := okWide_slice ht hval
  obtain ⟨fuel, hfu⟩ := h
  obtain ⟨t0, t1, t2, o0, o1, o2⟩ := hf
  rcases Deep.open_slice ht hfu with ⟨hcc, hx⟩ | ⟨x', len', cap', m, n, D, Pl, hcc', _, hl, hm, hmm, hx, hel⟩
  · simp [Value.cells] at hcc
    obtain ⟨rfl, rfl, rfl⟩ := hcc
    exact ⟨[], RowN.nil _ _ _ _, fun x hx => by simp at hx, by decide⟩
  · simp [Value.cells] at hcc'
    obtain ⟨rfl, rfl, rfl⟩ := hcc'
    simp only [Prod.mk.injEq] at hx
    obtain ⟨rfl, rfl⟩ := hx
    simp only [if_true] at hmm
    subst hmm
    have each : ∀ j, j < m → ∃ (q0 : ByteArray) (q1 : Int) (q2 : ByteArray), W.cell? ((x'.add (j * 3)).add 0) = some (.string q0) ∧ W.cell? ((x'.add (j * 3)).add 1) = some (.int .i64 q1) ∧ W.cell? ((x'.add (j * 3)).add 2) = some (.string q2) ∧ (Lit.int .i64 q1).wf = true ∧ D j = .agg [.lit (.string q0.data.toList), .lit (.int .i64 q1), .lit (.string q2.data.toList)] := by
      intro j hj
      obtain ⟨cs', hc1, hc2⟩ := hel j hj
      rw [hce] at hc1
      obtain ⟨c0, c1, c2, rfl, g0, g1, g2⟩ := cells_in3 hc1
      obtain ⟨y0, y1, y2, n', hy, _, k0, k1, k2⟩ := Deep.trod_struct3 hs hc2
      rw [t0, o0, hcs] at k0
      rw [t1, o1, hci] at k1
      rw [t2, o2, hcs] at k2
      obtain ⟨q0, e0, d0, w0⟩ := DataW.trod_string hstr k0
      obtain ⟨q1, e1, d1, w1⟩ := DataW.trod_int hint k1
      obtain ⟨q2, e2, d2, w2⟩ := DataW.trod_string hstr k2
      simp at e0 e1 e2
      subst e0; subst e1; subst e2
      simp only [Prod.mk.injEq] at hy
      refine ⟨q0, q1, q2, g0, g1, g2, w1, ?_⟩
      rw [hy.1, d0, d1, d2]
    have plain : ∀ o j b : Nat, (⟨b, o, none⟩ : Addr).add j = ⟨b, o + j, none⟩ := fun o j b => by unfold Addr.add; split <;> simp_all
    have one : ∀ i, i < len → ∃ y : FileD, FileOk y ∧ ∃ g o, (some x' = some (⟨g, o, none⟩ : Addr)) ∧ g < W.heap.size ∧ ElAt encF W g (o + i * 3) y := by
      intro i hi
      have hspot : x'.spot = none := by
        obtain ⟨_, _, _, h0, _⟩ := each 0 (by omega)
        have := World.cell?_spot h0
        simpa [Addr.add] using this
      obtain ⟨b, off, spot⟩ := x'
      simp only at hspot
      subst hspot
      obtain ⟨q0, q1, q2, h0, h1, h2, w1, hD⟩ := each i (by omega)
      rw [plain, plain] at h0 h1 h2
      have wlen : ∀ (j : Nat) (f : Field) (u : ByteArray), #[f0, f1, f2].toList[j]? = some f → [(.lit (.string q0.data.toList) : DataW H), .lit (.int .i64 q1), (.lit (.string q2.data.toList) : DataW H)][j]? = some (DataW.lit (.string u.data.toList) : DataW H) → u.data.toList.length ≤ 140737488351232 := by
        intro j f u hj hx
        have hmem : D i ∈ (List.range len).map D := List.mem_map.2 ⟨i, List.mem_range.2 hi, rfl⟩
        have hin : u.data.toList.length ∈ (D i).weights P e := by
          rw [hD, DataW.weights, hs]
          refine DataW.weights_mem_each (j := j) (t := f.type) (d := .lit (.string u.data.toList)) ?_ hx _ ?_
          · have hj' : [f0, f1, f2][j]? = some f := hj
            show ([f0, f1, f2].map (·.type))[j]? = _
            rw [List.getElem?_map, hj']
            rfl
          · simp [DataW.weights]
        have := hw u.data.toList.length (by
          rw [DataW.weights, ht]
          exact List.mem_cons_of_mem _ (List.mem_append_left _ (mem_weightsAll P e _ _ hin _ hmem)))
        simpa [reachBytes] using this
      refine ⟨⟨q0.data.toList, q1, q2.data.toList⟩, ⟨wlen 0 f0 q0 rfl rfl, bounds_i64 w1, wlen 2 f2 q2 rfl rfl⟩, b, off, rfl, hlt (.cell b off) (List.mem_append_left _ (MemPlace.mem_row.2 ⟨0, by rw [hce]; omega, by simp⟩)), fun r u hu => ?_⟩
      match r, hu with
      | 0, hu => simp [encF] at hu; subst hu; simpa using h0
      | 1, hu => simp [encF] at hu; subst hu; simpa using h1
      | 2, hu => simp [encF] at hu; subst hu; simpa using h2
    obtain ⟨xs, hxl, hxa⟩ := each_of _ len one
    subst hxl
    refine ⟨xs, ⟨some x', m, rfl, by omega, fun i hi => ?_⟩, fun y hy => ?_, ?_⟩
    · obtain ⟨_, g, o, h1, h2, h3⟩ := hxa i hi
      exact ⟨g, o, h1, h2, h3⟩
    · obtain ⟨i, hi, rfl⟩ := List.getElem_of_mem hy
      exact (hxa i hi).1
    · have := hw (xs.length * 40 + (m - xs.length) * 40) (by
        simp [DataW.weights, ht, hb, Nat.add_mul])
      simp only [reachBytes] at this
      omega
theorem arg_items {f0 f1 f2 f3 : Field} (ht : P.underlying t = some (.slice e)) (hs : P.underlying e = some (.struct #[f0, f1, f2, f3])) (hint : P.underlying ti = some (.int .i64)) (hstr : P.underlying ts = some .string)
    (hf : f0.type = ts ∧ f1.type = ti ∧ f2.type = ti ∧ f3.type = ts ∧ f0.offset = 0 ∧ f1.offset = 1 ∧ f2.offset = 2 ∧ f3.offset = 3) (hce : P.cellsOf e = 4) (hci : P.cellsOf ti = 1) (hcs : P.cellsOf ts = 1) (hb : P.bytesOf e = 48)
    (hval : Value.okWide P W .any base t v) (h : DataW.Trod enc P W 0 (fun _ => true) true t v d ps) (hw : ∀ n ∈ d.weights P t, n ≤ reachBytes) (hlt : ∀ x ∈ ps, x.block < W.heap.size) : IsIn W v := by
  obtain ⟨a0, len, cap, rfl⟩ := okWide_slice ht hval
  obtain ⟨fuel, hfu⟩ := h
  obtain ⟨t0, t1, t2, t3, o0, o1, o2, o3⟩ := hf
  rcases Deep.open_slice ht hfu with ⟨hcc, hx⟩ | ⟨x', len', cap', m, n, D, Pl, hcc', _, hl, hm, hmm, hx, hel⟩
  · simp [Value.cells] at hcc
    obtain ⟨rfl, rfl, rfl⟩ := hcc
    exact ⟨[], RowN.nil _ _ _ _, fun x hx => by simp at hx, by decide⟩
  · simp [Value.cells] at hcc'
    obtain ⟨rfl, rfl, rfl⟩ := hcc'
    simp only [Prod.mk.injEq] at hx
    obtain ⟨rfl, rfl⟩ := hx
    simp only [if_true] at hmm
    subst hmm
    have each : ∀ j, j < m → ∃ (q0 : ByteArray) (q1 : Int) (q2 : Int) (q3 : ByteArray), W.cell? ((x'.add (j * 4)).add 0) = some (.string q0) ∧ W.cell? ((x'.add (j * 4)).add 1) = some (.int .i64 q1) ∧ W.cell? ((x'.add (j * 4)).add 2) = some (.int .i64 q2) ∧ W.cell? ((x'.add (j * 4)).add 3) = some (.string q3) ∧ (Lit.int .i64 q1).wf = true ∧ (Lit.int .i64 q2).wf = true ∧ D j = .agg [.lit (.string q0.data.toList), .lit (.int .i64 q1), .lit (.int .i64 q2), .lit (.string q3.data.toList)] := by
      intro j hj
      obtain ⟨cs', hc1, hc2⟩ := hel j hj
      rw [hce] at hc1
      obtain ⟨c0, c1, c2, c3, rfl, g0, g1, g2, g3⟩ := cells_in4 hc1
      obtain ⟨y0, y1, y2, y3, n', hy, _, k0, k1, k2, k3⟩ := Joins.trod_struct4 hs hc2
      rw [t0, o0, hcs] at k0
      rw [t1, o1, hci] at k1
      rw [t2, o2, hci] at k2
      rw [t3, o3, hcs] at k3
      obtain ⟨q0, e0, d0, w0⟩ := DataW.trod_string hstr k0
      obtain ⟨q1, e1, d1, w1⟩ := DataW.trod_int hint k1
      obtain ⟨q2, e2, d2, w2⟩ := DataW.trod_int hint k2
      obtain ⟨q3, e3, d3, w3⟩ := DataW.trod_string hstr k3
      simp at e0 e1 e2 e3
      subst e0; subst e1; subst e2; subst e3
      simp only [Prod.mk.injEq] at hy
      refine ⟨q0, q1, q2, q3, g0, g1, g2, g3, w1, w2, ?_⟩
      rw [hy.1, d0, d1, d2, d3]
    have plain : ∀ o j b : Nat, (⟨b, o, none⟩ : Addr).add j = ⟨b, o + j, none⟩ := fun o j b => by unfold Addr.add; split <;> simp_all
    have one : ∀ i, i < len → ∃ y : ItemD, ItemOk y ∧ ∃ g o, (some x' = some (⟨g, o, none⟩ : Addr)) ∧ g < W.heap.size ∧ ElAt encI W g (o + i * 4) y := by
      intro i hi
      have hspot : x'.spot = none := by
        obtain ⟨_, _, _, _, h0, _⟩ := each 0 (by omega)
        have := World.cell?_spot h0
        simpa [Addr.add] using this
      obtain ⟨b, off, spot⟩ := x'
      simp only at hspot
      subst hspot
      obtain ⟨q0, q1, q2, q3, h0, h1, h2, h3, w1, w2, hD⟩ := each i (by omega)
      rw [plain, plain] at h0 h1 h2 h3
      have wlen : ∀ (j : Nat) (f : Field) (u : ByteArray), #[f0, f1, f2, f3].toList[j]? = some f → [(.lit (.string q0.data.toList) : DataW H), .lit (.int .i64 q1), .lit (.int .i64 q2), (.lit (.string q3.data.toList) : DataW H)][j]? = some (DataW.lit (.string u.data.toList) : DataW H) → u.data.toList.length ≤ 140737488351232 := by
        intro j f u hj hx
        have hmem : D i ∈ (List.range len).map D := List.mem_map.2 ⟨i, List.mem_range.2 hi, rfl⟩
        have hin : u.data.toList.length ∈ (D i).weights P e := by
          rw [hD, DataW.weights, hs]
          refine DataW.weights_mem_each (j := j) (t := f.type) (d := .lit (.string u.data.toList)) ?_ hx _ ?_
          · have hj' : [f0, f1, f2, f3][j]? = some f := hj
            show ([f0, f1, f2, f3].map (·.type))[j]? = _
            rw [List.getElem?_map, hj']
            rfl
          · simp [DataW.weights]
        have := hw u.data.toList.length (by
          rw [DataW.weights, ht]
          exact List.mem_cons_of_mem _ (List.mem_append_left _ (mem_weightsAll P e _ _ hin _ hmem)))
        simpa [reachBytes] using this
      refine ⟨⟨q0.data.toList, q1, q2, q3.data.toList⟩, ⟨wlen 0 f0 q0 rfl rfl, bounds_i64 w1, bounds_i64 w2, wlen 3 f3 q3 rfl rfl⟩, b, off, rfl, hlt (.cell b off) (List.mem_append_left _ (MemPlace.mem_row.2 ⟨0, by rw [hce]; omega, by simp⟩)), fun r u hu => ?_⟩
      match r, hu with
      | 0, hu => simp [encI] at hu; subst hu; simpa using h0
      | 1, hu => simp [encI] at hu; subst hu; simpa using h1
      | 2, hu => simp [encI] at hu; subst hu; simpa using h2
      | 3, hu => simp [encI] at hu; subst hu; simpa using h3
    obtain ⟨xs, hxl, hxa⟩ := each_of _ len one
    subst hxl
    refine ⟨xs, ⟨some x', m, rfl, by omega, fun i hi => ?_⟩, fun y hy => ?_, ?_⟩
    · obtain ⟨_, g, o, h1, h2, h3⟩ := hxa i hi
      exact ⟨g, o, h1, h2, h3⟩
    · obtain ⟨i, hi, rfl⟩ := List.getElem_of_mem hy
      exact (hxa i hi).1
    · have := hw (xs.length * 48 + (m - xs.length) * 48) (by
        simp [DataW.weights, ht, hb, Nat.add_mul])
      simp only [reachBytes] at this
      omega
end
end Go.Proofs.YtamiacmnobklaaaGreatDoor
/- A list of calls (stage 11) that came in: what a walk is told of it. -/
set_option linter.unusedVariables false
namespace Go.Proofs.YtamiacmnobklaaaGreatDoor
open Go.ChangeShapes Go.WideShapes Go.ChangeAt Go.RowKit

structure OpB where
  kind : Int
  n : Int
  text : Txt
  fa : Option Addr
  fc : Nat
  files : List FileD
def OpB.fv (x : OpB) : Value := .slice x.fa x.files.length x.fc
def encOB (x : OpB) : List Value := [.int .i64 x.kind, .int .i64 x.n, .string ⟨x.text.toArray⟩, .slice x.fa x.files.length x.fc]
theorem encOB_ok : EncN encOB 4 := ⟨fun _ => rfl, fun x u hu => by simp [encOB] at hu; rcases hu with rfl | rfl | rfl | rfl <;> rfl⟩
structure OpB.In (W : World) (x : OpB) : Prop where
  k : -9223372036854775808 ≤ x.kind ∧ x.kind ≤ 9223372036854775807
  n : -9223372036854775808 ≤ x.n ∧ x.n ≤ 9223372036854775807
  t : x.text.length ≤ 140737488351232
  f : FilesIn W x.fv x.files
/-- A list of calls that came in. -/
def ObIn (W : World) (v : Value) : Prop := ∃ xs : List OpB, RowN encOB 4 (· < W.heap.size) W v xs ∧ (∀ x ∈ xs, x.In W) ∧ xs.length ≤ 140737488351232

section
variable {H : Type} {enc : TypeId × Value → H} {P : Program} {W : World} {t u e ti ts tl : TypeId} {v : Value} {d : DataW H} {ps : List MemPlace} {base : Nat}
theorem files_open {fuel : Nat} {c : Value} {x : DataW H × List MemPlace} {f0 f1 f2 : Field} (ht : P.underlying t = some (.slice e)) (hs : P.underlying e = some (.struct #[f0, f1, f2])) (hint : P.underlying ti = some (.int .i64)) (hstr : P.underlying ts = some .string)
    (hf : f0.type = ts ∧ f1.type = ti ∧ f2.type = ts ∧ f0.offset = 0 ∧ f1.offset = 1 ∧ f2.offset = 2) (hce : P.cellsOf e = 3) (hci : P.cellsOf ti = 1) (hcs : P.cellsOf ts = 1) (hb : P.bytesOf e = 40)
    (h : DataW.trod enc P W 0 (fun _ => true) true fuel t [c] = some x) (hw : ∀ n ∈ x.1.weights P t, n ≤ reachBytes) (hlt : ∀ y ∈ x.2, y.block < W.heap.size) : FsIn W c := by
  obtain ⟨t0, t1, t2, o0, o1, o2⟩ := hf
  rcases Deep.open_slice ht h with ⟨hcc, hx⟩ | ⟨x', len', cap', m, n, D, Pl, hcc', _, hl, hm, hmm, hx, hel⟩
  · simp at hcc
    subst hcc
    exact ⟨[], RowN.nil _ _ _ _, fun x hx => by simp at hx, by decide⟩
  · simp at hcc'
    subst hcc'
    subst hx
    simp only [if_true] at hmm
    subst hmm
    have each : ∀ j, j < m → ∃ (q0 : ByteArray) (q1 : Int) (q2 : ByteArray), W.cell? ((x'.add (j * 3)).add 0) = some (.string q0) ∧ W.cell? ((x'.add (j * 3)).add 1) = some (.int .i64 q1) ∧ W.cell? ((x'.add (j * 3)).add 2) = some (.string q2) ∧ (Lit.int .i64 q1).wf = true ∧ D j = .agg [.lit (.string q0.data.toList), .lit (.int .i64 q1), .lit (.string q2.data.toList)] := by
      intro j hj
      obtain ⟨cs', hc1, hc2⟩ := hel j hj
      rw [hce] at hc1
      obtain ⟨c0, c1, c2, rfl, g0, g1, g2⟩ := cells_in3 hc1
      obtain ⟨y0, y1, y2, n', hy, _, k0, k1, k2⟩ := Deep.trod_struct3 hs hc2
      rw [t0, o0, hcs] at k0
      rw [t1, o1, hci] at k1
      rw [t2, o2, hcs] at k2
      obtain ⟨q0, e0, d0, w0⟩ := DataW.trod_string hstr k0
      obtain ⟨q1, e1, d1, w1⟩ := DataW.trod_int hint k1
      obtain ⟨q2, e2, d2, w2⟩ := DataW.trod_string hstr k2
      simp at e0 e1 e2
      subst e0; subst e1; subst e2
      simp only [Prod.mk.injEq] at hy
      refine ⟨q0, q1, q2, g0, g1, g2, w1, ?_⟩
      rw [hy.1, d0, d1, d2]
    have plain : ∀ o j b : Nat, (⟨b, o, none⟩ : Addr).add j = ⟨b, o + j, none⟩ := fun o j b => by unfold Addr.add; split <;> simp_all
    have one : ∀ i, i < len' → ∃ y : FileD, FileOk y ∧ ∃ g o, (some x' = some (⟨g, o, none⟩ : Addr)) ∧ g < W.heap.size ∧ ElAt encF W g (o + i * 3) y := by
      intro i hi
      have hspot : x'.spot = none := by
        obtain ⟨_, _, _, h0, _⟩ := each 0 (by omega)
        have := World.cell?_spot h0
        simpa [Addr.add] using this
      obtain ⟨b, off, spot⟩ := x'
      simp only at hspot
      subst hspot
      obtain ⟨q0, q1, q2, h0, h1, h2, w1, hD⟩ := each i (by omega)
      rw [plain, plain] at h0 h1 h2
      have wlen : ∀ (j : Nat) (f : Field) (u : ByteArray), #[f0, f1, f2].toList[j]? = some f → [(.lit (.string q0.data.toList) : DataW H), .lit (.int .i64 q1), (.lit (.string q2.data.toList) : DataW H)][j]? = some (DataW.lit (.string u.data.toList) : DataW H) → u.data.toList.length ≤ 140737488351232 := by
        intro j f u hj hx
        have hmem : D i ∈ (List.range len').map D := List.mem_map.2 ⟨i, List.mem_range.2 hi, rfl⟩
        have hin : u.data.toList.length ∈ (D i).weights P e := by
          rw [hD, DataW.weights, hs]
          refine DataW.weights_mem_each (j := j) (t := f.type) (d := .lit (.string u.data.toList)) ?_ hx _ ?_
          · have hj' : [f0, f1, f2][j]? = some f := hj
            show ([f0, f1, f2].map (·.type))[j]? = _
            rw [List.getElem?_map, hj']
            rfl
          · simp [DataW.weights]
        have := hw u.data.toList.length (by
          rw [DataW.weights, ht]
          exact List.mem_cons_of_mem _ (List.mem_append_left _ (mem_weightsAll P e _ _ hin _ hmem)))
        simpa [reachBytes] using this
      refine ⟨⟨q0.data.toList, q1, q2.data.toList⟩, ⟨wlen 0 f0 q0 rfl rfl, bounds_i64 w1, wlen 2 f2 q2 rfl rfl⟩, b, off, rfl, hlt (.cell b off) (List.mem_append_left _ (MemPlace.mem_row.2 ⟨0, by rw [hce]; omega, by simp⟩)), fun r u hu => ?_⟩
      match r, hu with
      | 0, hu => simp [encF] at hu; subst hu; simpa using h0
      | 1, hu => simp [encF] at hu; subst hu; simpa using h1
      | 2, hu => simp [encF] at hu; subst hu; simpa using h2
    obtain ⟨xs, hxl, hxa⟩ := each_of _ len' one
    subst hxl
    refine ⟨xs, ⟨some x', m, rfl, by omega, fun i hi => ?_⟩, fun y hy => ?_, ?_⟩
    · obtain ⟨_, g, o, h1, h2, h3⟩ := hxa i hi
      exact ⟨g, o, h1, h2, h3⟩
    · obtain ⟨i, hi, rfl⟩ := List.getElem_of_mem hy
      exact (hxa i hi).1
    · have := hw (xs.length * 40 + (m - xs.length) * 40) (by
        simp [DataW.weights, ht, hb, Nat.add_mul])
      simp only [reachBytes] at this
      omega
theorem opb_open {fuel : Nat} {x : DataW H × List MemPlace} {g0 g1 g2 g3 f0 f1 f2 : Field} (hst : P.underlying u = some (.struct #[g0, g1, g2, g3])) (hsl : P.underlying tl = some (.slice e)) (hs : P.underlying e = some (.struct #[f0, f1, f2])) (hint : P.underlying ti = some (.int .i64)) (hstr : P.underlying ts = some .string)
    (hg : g0.type = ti ∧ g1.type = ti ∧ g2.type = ts ∧ g3.type = tl ∧ g0.offset = 0 ∧ g1.offset = 1 ∧ g2.offset = 2 ∧ g3.offset = 3)
    (hf : f0.type = ts ∧ f1.type = ti ∧ f2.type = ts ∧ f0.offset = 0 ∧ f1.offset = 1 ∧ f2.offset = 2) (hcl : P.cellsOf tl = 1) (hce : P.cellsOf e = 3) (hci : P.cellsOf ti = 1) (hcs : P.cellsOf ts = 1) (hb : P.bytesOf e = 40)
    {c0 c1 c2 c3 : Value} (h : DataW.trod enc P W 0 (fun _ => true) true fuel u [c0, c1, c2, c3] = some x) (hw : ∀ n ∈ x.1.weights P u, n ≤ reachBytes) (hlt : ∀ y ∈ x.2, y.block < W.heap.size) :
    ∃ o : OpB, o.In W ∧ c0 = .int .i64 o.kind ∧ c1 = .int .i64 o.n ∧ c2 = .string ⟨o.text.toArray⟩ ∧ c3 = .slice o.fa o.files.length o.fc := by
  obtain ⟨t0, t1, t2, t3, o0, o1, o2, o3⟩ := hg
  obtain ⟨y0, y1, y2, y3, n', hy, hlen, k0, k1, k2, k3⟩ := Joins.trod_struct4 hst h
  rw [t0, o0, hci] at k0
  rw [t1, o1, hci] at k1
  rw [t2, o2, hcs] at k2
  rw [t3, o3, hcl] at k3
  simp at k0 k1 k2 k3
  obtain ⟨q0, e0, d0, w0⟩ := DataW.trod_int hint k0
  obtain ⟨q1, e1, d1, w1⟩ := DataW.trod_int hint k1
  obtain ⟨q2, e2, d2, _⟩ := DataW.trod_string hstr k2
  simp at e0 e1 e2
  subst e0; subst e1; subst e2
  subst hy
  have hww : ∀ (j : Nat) (f : Field) (x : DataW H), #[g0, g1, g2, g3].toList[j]? = some f → [y0.1, y1.1, y2.1, y3.1][j]? = some x → ∀ n ∈ x.weights P f.type, n ≤ reachBytes := by
    intro j f x hj hx n hn
    refine hw n ?_
    rw [DataW.weights, hst]
    refine DataW.weights_mem_each (j := j) (t := f.type) (d := x) ?_ hx n hn
    have hj' : [g0, g1, g2, g3][j]? = some f := hj
    show ([g0, g1, g2, g3].map (·.type))[j]? = _
    rw [List.getElem?_map, hj']
    rfl
  obtain ⟨xs, hxs⟩ := files_open hsl hs hint hstr hf hce hci hcs hb k3 (by have := hww 3 g3 y3.1 rfl rfl; rwa [t3] at this) (fun y hy => hlt y (by simp [hy]))
  have l2 := hww 2 g2 y2.1 rfl rfl q2.data.toList.length (by rw [d2]; simp [DataW.weights])
  simp only [reachBytes] at l2
  obtain ⟨fa, fc, hfv, _⟩ := hxs.row.slice
  exact ⟨⟨q0, q1, q2.data.toList, fa, fc, xs⟩, ⟨bounds_i64 w0, bounds_i64 w1, by simpa using l2, by show FilesIn W (.slice fa xs.length fc) xs; rw [← hfv]; exact hxs⟩, rfl, rfl, by simp, hfv⟩

theorem arg_opb {g0 g1 g2 g3 f0 f1 f2 : Field} (ht : P.underlying t = some (.slice u)) (hst : P.underlying u = some (.struct #[g0, g1, g2, g3])) (hsl : P.underlying tl = some (.slice e)) (hs : P.underlying e = some (.struct #[f0, f1, f2])) (hint : P.underlying ti = some (.int .i64)) (hstr : P.underlying ts = some .string)
    (hg : g0.type = ti ∧ g1.type = ti ∧ g2.type = ts ∧ g3.type = tl ∧ g0.offset = 0 ∧ g1.offset = 1 ∧ g2.offset = 2 ∧ g3.offset = 3)
    (hf : f0.type = ts ∧ f1.type = ti ∧ f2.type = ts ∧ f0.offset = 0 ∧ f1.offset = 1 ∧ f2.offset = 2) (hct : P.cellsOf u = 4) (hcl : P.cellsOf tl = 1) (hce : P.cellsOf e = 3) (hci : P.cellsOf ti = 1) (hcs : P.cellsOf ts = 1) (hb : P.bytesOf e = 40) (hbu : P.bytesOf u = 56)
    (hval : Value.okWide P W .any base t v) (h : DataW.Trod enc P W 0 (fun _ => true) true t v d ps) (hw : ∀ n ∈ d.weights P t, n ≤ reachBytes) (hlt : ∀ x ∈ ps, x.block < W.heap.size) : ObIn W v := by
  obtain ⟨a0, len, cap, rfl⟩ := okWide_slice ht hval
  obtain ⟨fuel, hfu⟩ := h
  rcases Deep.open_slice ht hfu with ⟨hcc, hx⟩ | ⟨x', len', cap', m, n, D, Pl, hcc', _, hl, hm, hmm, hx, hel⟩
  · simp [Value.cells] at hcc
    obtain ⟨rfl, rfl, rfl⟩ := hcc
    exact ⟨[], RowN.nil _ _ _ _, fun x hx => by simp at hx, by decide⟩
  · simp [Value.cells] at hcc'
    obtain ⟨rfl, rfl, rfl⟩ := hcc'
    simp only [Prod.mk.injEq] at hx
    obtain ⟨rfl, rfl⟩ := hx
    simp only [if_true] at hmm
    subst hmm
    have plain : ∀ o j b : Nat, (⟨b, o, none⟩ : Addr).add j = ⟨b, o + j, none⟩ := fun o j b => by unfold Addr.add; split <;> simp_all
    have one : ∀ i, i < len → ∃ y : OpB, y.In W ∧ ∃ g o, (some x' = some (⟨g, o, none⟩ : Addr)) ∧ g < W.heap.size ∧ ElAt encOB W g (o + i * 4) y := by
      intro i hi
      have hspot : x'.spot = none := by
        obtain ⟨cs0, hc0, _⟩ := hel 0 (by omega)
        rw [hct] at hc0
        obtain ⟨_, _, _, _, _, k0, _⟩ := cells_in4 hc0
        have := World.cell?_spot k0
        simpa [Addr.add] using this
      obtain ⟨cs', hc1, hc2⟩ := hel i (by omega)
      rw [hct] at hc1
      obtain ⟨c0, c1, c2, c3, rfl, k0, k1, k2, k3⟩ := cells_in4 hc1
      obtain ⟨b, off, spot⟩ := x'
      simp only at hspot
      subst hspot
      rw [plain, plain] at k0 k1 k2 k3
      have hmem : D i ∈ (List.range len).map D := List.mem_map.2 ⟨i, List.mem_range.2 hi, rfl⟩
      obtain ⟨o, ho, rfl, rfl, rfl, rfl⟩ := opb_open hst hsl hs hint hstr hg hf hcl hce hci hcs hb hc2 (fun n hn => hw n (by
        rw [DataW.weights, ht]
        exact List.mem_cons_of_mem _ (List.mem_append_left _ (mem_weightsAll P u _ _ hn _ hmem)))) (fun y hy => hlt y (List.mem_append_right _ (List.mem_flatMap.2 ⟨i, List.mem_range.2 (by omega), hy⟩)))
      refine ⟨o, ho, b, off, rfl, World.block_lt_of_cell? W _ k0, fun r u hu => ?_⟩
      match r, hu with
      | 0, hu => simp [encOB] at hu; subst hu; simpa using k0
      | 1, hu => simp [encOB] at hu; subst hu; exact k1
      | 2, hu => simp [encOB] at hu; subst hu; exact k2
      | 3, hu => simp [encOB] at hu; subst hu; exact k3
    obtain ⟨xs, hxl, hxa⟩ := each_of _ len one
    subst hxl
    refine ⟨xs, ⟨some x', m, rfl, by omega, fun i hi => ?_⟩, fun y hy => ?_, ?_⟩
    · obtain ⟨_, g, o, h1, h2, h3⟩ := hxa i hi
      exact ⟨g, o, h1, h2, h3⟩
    · obtain ⟨i, hi, rfl⟩ := List.getElem_of_mem hy
      exact (hxa i hi).1
    · have := hw (xs.length * 56 + (m - xs.length) * 56) (by
        simp [DataW.weights, ht, hbu, Nat.add_mul])
      simp only [reachBytes] at this
      omega
end
end Go.Proofs.YtamiacmnobklaaaGreatDoor

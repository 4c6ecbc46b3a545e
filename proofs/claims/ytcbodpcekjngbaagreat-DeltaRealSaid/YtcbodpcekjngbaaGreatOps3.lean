/- A list of structs of two numbers and two texts that came in: what a walk is told of it. -/
import Derived.Test.YtcbodpcekjngbaaGreatArgs3
import Derived.Test.YtcbodpcekjngbaaGreatFrame
import Derived.Test.YtcbodpcekjngbaaGreatGen
import Derived.Test.YtcbodpcekjngbaaGreatRows
import Derived.Deep.Slices
import Derived.Lib.Hide
import Derived.Lib.SmallJoins
import Derived.WalkKit
set_option linter.unusedVariables false
namespace Go.Proofs.YtcbodpcekjngbaaGreat
open Go.ChangeShapes Go.WideShapes Go.ChangeAt Go.RowKit

/-- What the i-th of the structs from cell off of block b on holds. -/
def OpAt (w : World) (b off i : Nat) (k n : Int) (t m : List UInt8) : Prop :=
  w.cell? ⟨b, off + i * 4, none⟩ = some (.int .i64 k) ∧ w.cell? ⟨b, off + i * 4 + 1, none⟩ = some (.int .i64 n) ∧ w.cell? ⟨b, off + i * 4 + 2, none⟩ = some (.string ⟨t.toArray⟩) ∧ w.cell? ⟨b, off + i * 4 + 3, none⟩ = some (.string ⟨m.toArray⟩)
def OpOk (n : Int) (t : List UInt8) : Prop := -9223372036854775808 ≤ n ∧ n ≤ 9223372036854775807 ∧ t.length ≤ 140737488351232
/-- A list of so many structs. -/
def Quads (W : World) (v : Value) (len : Nat) : Prop :=
  ∃ a cap, v = .slice a len cap ∧ len * 48 ≤ 140737488351232 ∧ ∀ i, i < len → ∃ b off k n t m, a = some ⟨b, off, none⟩ ∧ b < W.heap.size ∧ OpAt W b off i k n t m ∧ OpOk n t
theorem Quads.cases {w : World} {v : Value} {len : Nat} (h : Quads w v len) :
    (len = 0 ∧ ∃ a cap, v = .slice a 0 cap) ∨ ∃ b off cap, v = .slice (some ⟨b, off, none⟩) len cap ∧ b < w.heap.size ∧ ∀ i, i < len → ∃ k n t m, OpAt w b off i k n t m ∧ OpOk n t := by
  obtain ⟨a, cap, rfl, _, hc⟩ := h
  by_cases hx : len = 0
  · subst hx; exact .inl ⟨rfl, a, cap, rfl⟩
  · obtain ⟨b, off, k, n, t, m, rfl, hN, _⟩ := hc 0 (by omega)
    refine .inr ⟨b, off, cap, rfl, hN, fun i hi => ?_⟩
    obtain ⟨b', off', k, n, t, m, he, _, h1, h2⟩ := hc i hi
    simp at he
    obtain ⟨rfl, rfl⟩ := he
    exact ⟨k, n, t, m, h1, h2⟩
theorem Quads.len {w : World} {v : Value} {len : Nat} (h : Quads w v len) : len * 48 ≤ 140737488351232 := by
  obtain ⟨a, cap, rfl, h, _⟩ := h; exact h
theorem OpAt.below {w w' : World} {b off i : Nat} {k n : Int} {t m : List UInt8} {B : Nat} (h : OpAt w b off i k n t m) (hb : Below B w w') (hB : b < B) : OpAt w' b off i k n t m :=
  ⟨(hb.cell (p := ⟨b, off + i * 4, none⟩) hB).trans h.1, (hb.cell (p := ⟨b, off + i * 4 + 1, none⟩) hB).trans h.2.1, (hb.cell (p := ⟨b, off + i * 4 + 2, none⟩) hB).trans h.2.2.1, (hb.cell (p := ⟨b, off + i * 4 + 3, none⟩) hB).trans h.2.2.2⟩

theorem cells_four {w : World} {base : Nat} {a : Addr} {cs : List Value} (h : w.cells? base a 4 = some cs) : ∃ c0 c1 c2 c3, cs = [c0, c1, c2, c3] ∧ w.cell? (a.add 0) = some c0 ∧ w.cell? (a.add 1) = some c1 ∧ w.cell? (a.add 2) = some c2 ∧ w.cell? (a.add 3) = some c3 := by
  unfold World.cells? at h
  split at h
  · rw [show List.range 4 = [0, 1, 2, 3] from rfl] at h
    simp only [List.mapM_cons, List.mapM_nil] at h
    cases h0 : w.cell? (a.add 0) <;> simp [h0] at h
    cases h1 : w.cell? (a.add 1) <;> simp [h1] at h
    cases h2 : w.cell? (a.add 2) <;> simp [h2] at h
    cases h3 : w.cell? (a.add 3) <;> simp [h3] at h
    exact ⟨_, _, _, _, h.symm, rfl, rfl, rfl, rfl⟩
  · cases h

section
variable {H : Type} {enc : TypeId × Value → H} {P : Program} {W : World} {t e ti ts : TypeId} {v : Value} {d : DataW H} {ps : List MemPlace} {base : Nat}

theorem arg_ops3 {f0 f1 f2 f3 : Field} (ht : P.underlying t = some (.slice e)) (hs : P.underlying e = some (.struct #[f0, f1, f2, f3])) (hint : P.underlying ti = some (.int .i64)) (hstr : P.underlying ts = some .string)
    (hf : f0.type = ti ∧ f1.type = ti ∧ f2.type = ts ∧ f3.type = ts ∧ f0.offset = 0 ∧ f1.offset = 1 ∧ f2.offset = 2 ∧ f3.offset = 3) (hce : P.cellsOf e = 4) (hci : P.cellsOf ti = 1) (hcs : P.cellsOf ts = 1) (hb : P.bytesOf e = 48)
    (hval : Value.okWide P W .any base t v) (h : DataW.Trod enc P W 0 (fun _ => true) true t v d ps) (hw : ∀ n ∈ d.weights P t, n ≤ reachBytes) (hlt : ∀ x ∈ ps, x.block < W.heap.size) :
    ∃ len, Quads W v len := by
  obtain ⟨a0, len, cap, rfl⟩ := okWide_slice ht hval
  obtain ⟨fuel, hfu⟩ := h
  obtain ⟨t0, t1, t2, t3, o0, o1, o2, o3⟩ := hf
  rcases Deep.open_slice ht hfu with ⟨hcs, hx⟩ | ⟨x, len', cap', m, n, D, Pl, hcs', _, hl, hm, hmm, hx, hel⟩
  · simp [Value.cells] at hcs
    obtain ⟨rfl, rfl, rfl⟩ := hcs
    exact ⟨0, none, 0, rfl, by decide, fun i hi => absurd hi (Nat.not_lt_zero _)⟩
  · simp [Value.cells] at hcs'
    obtain ⟨rfl, rfl, rfl⟩ := hcs'
    simp only [Prod.mk.injEq] at hx
    obtain ⟨rfl, rfl⟩ := hx
    simp only [if_true] at hmm
    subst hmm
    have four : ∀ j, j < m → ∃ (k n : Int) (u z : ByteArray), W.cell? ((x.add (j * 4)).add 0) = some (.int .i64 k) ∧ W.cell? ((x.add (j * 4)).add 1) = some (.int .i64 n) ∧ W.cell? ((x.add (j * 4)).add 2) = some (.string u) ∧ W.cell? ((x.add (j * 4)).add 3) = some (.string z) ∧
        (Lit.int .i64 n).wf = true ∧ D j = .agg [.lit (.int .i64 k), .lit (.int .i64 n), .lit (.string u.data.toList), .lit (.string z.data.toList)] := by
      intro j hj
      obtain ⟨cs', hc1, hc2⟩ := hel j hj
      rw [hce] at hc1
      obtain ⟨c0, c1, c2, c3, rfl, g0, g1, g2, g3⟩ := cells_four hc1
      obtain ⟨y0, y1, y2, y3, n', hy, _, k0, k1, k2, k3⟩ := Joins.trod_struct4 hs hc2
      rw [t0, o0, hci] at k0
      rw [t1, o1, hci] at k1
      rw [t2, o2, hcs] at k2
      rw [t3, o3, hcs] at k3
      obtain ⟨q0, e0, d0, _⟩ := DataW.trod_int hint k0
      obtain ⟨q1, e1, d1, w1⟩ := DataW.trod_int hint k1
      obtain ⟨q2, e2, d2, _⟩ := DataW.trod_string hstr k2
      obtain ⟨q3, e3, d3, _⟩ := DataW.trod_string hstr k3
      simp at e0 e1 e2 e3
      subst e0; subst e1; subst e2; subst e3
      simp only [Prod.mk.injEq] at hy
      refine ⟨q0, q1, q2, q3, g0, g1, g2, g3, w1, ?_⟩
      rw [hy.1, d0, d1, d2, d3]
    have plain : ∀ o j b : Nat, (⟨b, o, none⟩ : Addr).add j = ⟨b, o + j, none⟩ := fun o j b => by unfold Addr.add; split <;> simp_all
    refine ⟨len, some x, m, rfl, ?_, fun i hi => ?_⟩
    · have := hw (len * 48 + (m - len) * 48) (by
        simp [DataW.weights, ht, hb, Nat.add_mul])
      simp only [reachBytes] at this
      omega
    · have hspot : x.spot = none := by
        obtain ⟨c0, _, _, _, h0, _⟩ := four 0 (by omega)
        have := World.cell?_spot h0
        simpa [Addr.add] using this
      obtain ⟨b, off, spot⟩ := x
      simp only at hspot
      subst hspot
      obtain ⟨k, n2, u, z, h0, h1, h2, h3, hwf, hD⟩ := four i (by omega)
      rw [plain, plain] at h0 h1 h2 h3
      have hbd := bounds_i64 hwf
      refine ⟨b, off, k, n2, u.data.toList, z.data.toList, rfl, hlt (.cell b off) ?_, ⟨by simpa using h0, h1, by simpa using h2, by simpa using h3⟩, hbd.1, hbd.2, ?_⟩
      · exact List.mem_append_left _ (MemPlace.mem_row.2 ⟨0, by rw [hce]; omega, by simp⟩)
      · have hmem : D i ∈ (List.range len).map D := List.mem_map.2 ⟨i, List.mem_range.2 hi, rfl⟩
        have hin : u.data.toList.length ∈ (D i).weights P e := by
          rw [hD, DataW.weights, hs]
          refine DataW.weights_mem_each (j := 2) (t := f2.type) (d := .lit (.string u.data.toList)) rfl rfl _ ?_
          simp [DataW.weights]
        have := hw u.data.toList.length (by
          rw [DataW.weights, ht]
          exact List.mem_cons_of_mem _ (List.mem_append_left _ (mem_weightsAll P e _ _ hin _ hmem)))
        simpa [reachBytes] using this
end
end Go.Proofs.YtcbodpcekjngbaaGreat

/- A list of structs of three numbers that came in: what a walk is told of it. -/
import Derived.Test.YtegdabdnbglhaaaFrame
import Derived.Deep.Slices
import Derived.Deep.Strs
set_option linter.unusedVariables false
namespace Go.Proofs.Ytegdabdnbglhaaa
open Go.ChangeShapes Go.WideShapes Go.ChangeAt Go.RowKit

/-- A list of so many structs of three numbers; N tells where it may lie. -/
def Triples (N : Nat → Prop) (w : World) (v : Value) (len : Nat) : Prop :=
  ∃ a cap, v = .slice a len cap ∧ ∀ i, i < len → ∃ b off k n m, a = some ⟨b, off, none⟩ ∧ N b ∧ w.cell? ⟨b, off + i * 3, none⟩ = some (.int .i64 k) ∧ w.cell? ⟨b, off + i * 3 + 1, none⟩ = some (.int .i64 n) ∧
    w.cell? ⟨b, off + i * 3 + 2, none⟩ = some (.int .i64 m)

theorem Triples.cases {N : Nat → Prop} {w : World} {v : Value} {len : Nat} (h : Triples N w v len) :
    (len = 0 ∧ ∃ a cap, v = .slice a 0 cap) ∨ ∃ b off cap, v = .slice (some ⟨b, off, none⟩) len cap ∧ N b ∧ ∀ i, i < len → ∃ k n m, w.cell? ⟨b, off + i * 3, none⟩ = some (.int .i64 k) ∧
      w.cell? ⟨b, off + i * 3 + 1, none⟩ = some (.int .i64 n) ∧ w.cell? ⟨b, off + i * 3 + 2, none⟩ = some (.int .i64 m) := by
  obtain ⟨a, cap, rfl, hc⟩ := h
  by_cases hx : len = 0
  · subst hx; exact .inl ⟨rfl, a, cap, rfl⟩
  · obtain ⟨b, off, k, n, m, rfl, hN, _⟩ := hc 0 (by omega)
    refine .inr ⟨b, off, cap, rfl, hN, fun i hi => ?_⟩
    obtain ⟨b', off', k, n, m, he, _, h1, h2, h3⟩ := hc i hi
    simp at he
    obtain ⟨rfl, rfl⟩ := he
    exact ⟨k, n, m, h1, h2, h3⟩

theorem cells_three {w : World} {base : Nat} {a : Addr} {cs : List Value} (h : w.cells? base a 3 = some cs) : ∃ c0 c1 c2, cs = [c0, c1, c2] ∧ w.cell? (a.add 0) = some c0 ∧ w.cell? (a.add 1) = some c1 ∧ w.cell? (a.add 2) = some c2 := by
  unfold World.cells? at h
  split at h
  · rw [show List.range 3 = [0, 1, 2] from rfl] at h
    simp only [List.mapM_cons, List.mapM_nil] at h
    cases h0 : w.cell? (a.add 0) <;> simp [h0] at h
    cases h1 : w.cell? (a.add 1) <;> simp [h1] at h
    cases h2 : w.cell? (a.add 2) <;> simp [h2] at h
    exact ⟨_, _, _, h.symm, rfl, rfl, rfl⟩
  · cases h

section
variable {H : Type} {enc : TypeId × Value → H} {P : Program} {W : World} {t e ti : TypeId} {v : Value} {d : DataW H} {ps : List MemPlace} {base : Nat}

theorem arg_ops {f0 f1 f2 : Field} (ht : P.underlying t = some (.slice e)) (hs : P.underlying e = some (.struct #[f0, f1, f2])) (hint : P.underlying ti = some (.int .i64))
    (hf : f0.type = ti ∧ f1.type = ti ∧ f2.type = ti ∧ f0.offset = 0 ∧ f1.offset = 1 ∧ f2.offset = 2) (hce : P.cellsOf e = 3) (hci : P.cellsOf ti = 1) (hb : P.bytesOf e = 24)
    (hval : Value.okWide P W .any base t v) (h : DataW.Trod enc P W 0 (fun _ => true) true t v d ps) (hw : ∀ n ∈ d.weights P t, n ≤ reachBytes) (hlt : ∀ x ∈ ps, x.block < W.heap.size) :
    ∃ len, Triples (· < W.heap.size) W v len ∧ len * 24 ≤ 140737488351232 := by
  obtain ⟨a0, len, cap, rfl⟩ := okWide_slice ht hval
  obtain ⟨fuel, hfu⟩ := h
  obtain ⟨t0, t1, t2, o0, o1, o2⟩ := hf
  rcases Deep.open_slice ht hfu with ⟨hcs, hx⟩ | ⟨x, len', cap', m, n, D, Pl, hcs, _, hl, hm, hmm, hx, hel⟩
  · simp [Value.cells] at hcs
    obtain ⟨rfl, rfl, rfl⟩ := hcs
    exact ⟨0, ⟨none, 0, rfl, fun i hi => absurd hi (Nat.not_lt_zero _)⟩, by decide⟩
  · simp [Value.cells] at hcs
    obtain ⟨rfl, rfl, rfl⟩ := hcs
    simp only [Prod.mk.injEq] at hx
    obtain ⟨rfl, rfl⟩ := hx
    simp only [if_true] at hmm
    subst hmm
    refine ⟨len, ⟨some x, m, rfl, fun i hi => ?_⟩, ?_⟩
    · have three : ∀ j, j < m → ∃ c0 c1 c2, W.cell? ((x.add (j * 3)).add 0) = some (.int .i64 c0) ∧ W.cell? ((x.add (j * 3)).add 1) = some (.int .i64 c1) ∧ W.cell? ((x.add (j * 3)).add 2) = some (.int .i64 c2) := by
        intro j hj
        obtain ⟨cs', hc1, hc2⟩ := hel j hj
        rw [hce] at hc1
        obtain ⟨c0, c1, c2, rfl, g0, g1, g2⟩ := cells_three hc1
        obtain ⟨y0, y1, y2, n', _, _, k0, k1, k2⟩ := Deep.trod_struct3 hs hc2
        rw [t0, o0, hci] at k0
        rw [t1, o1, hci] at k1
        rw [t2, o2, hci] at k2
        obtain ⟨q0, e0, _, _⟩ := DataW.trod_int hint k0
        obtain ⟨q1, e1, _, _⟩ := DataW.trod_int hint k1
        obtain ⟨q2, e2, _, _⟩ := DataW.trod_int hint k2
        simp at e0 e1 e2
        subst e0; subst e1; subst e2
        exact ⟨q0, q1, q2, g0, g1, g2⟩
      have hspot : x.spot = none := by
        obtain ⟨c0, _, _, h0, _, _⟩ := three 0 (by omega)
        have := World.cell?_spot h0
        simpa [Addr.add] using this
      obtain ⟨b, off, spot⟩ := x
      simp only at hspot
      subst hspot
      obtain ⟨c0, c1, c2, h0, h1, h2⟩ := three i (by omega)
      have plain : ∀ o j : Nat, (⟨b, o, none⟩ : Addr).add j = ⟨b, o + j, none⟩ := fun o j => by unfold Addr.add; split <;> simp_all
      rw [plain, plain] at h0 h1 h2
      refine ⟨b, off, c0, c1, c2, rfl, hlt (.cell b off) ?_, by simpa using h0, h1, h2⟩
      exact List.mem_append_left _ (MemPlace.mem_row.2 ⟨0, by rw [hce]; omega, by simp⟩)
    · have := hw (len * 24 + (m - len) * 24) (by
        simp [DataW.weights, ht, hb, Nat.add_mul])
      simp only [reachBytes] at this
      omega
end
end Go.Proofs.Ytegdabdnbglhaaa

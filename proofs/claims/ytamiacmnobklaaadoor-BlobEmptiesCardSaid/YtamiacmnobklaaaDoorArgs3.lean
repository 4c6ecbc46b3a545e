/- What a walk is told of a list of texts that came in: its length is within its capacity, each text has a bound. Of no program. -/
import Derived.Test.YtamiacmnobklaaaDoorFrame
import Derived.Test.YtamiacmnobklaaaDoorGen
import Derived.Test.YtamiacmnobklaaaDoorInfos
import Derived.Test.YtamiacmnobklaaaDoorRows
set_option linter.unusedVariables false
namespace Go.Proofs.YtamiacmnobklaaaDoor
open Go.ChangeShapes Go.WideShapes Go.ChangeAt Go.RowKit

theorem mem_weightsAll {H : Type} (P : Program) (e : TypeId) (d : DataW H) (n : Nat) (hn : n ∈ d.weights P e) : ∀ l : List (DataW H), d ∈ l → n ∈ DataW.weightsAll P e l
  | [], h => by simp at h
  | x :: r, h => by
    rw [DataW.weightsAll]
    rcases List.mem_cons.1 h with rfl | h
    · exact List.mem_append_left _ hn
    · exact List.mem_append_right _ (mem_weightsAll P e d n hn r h)

/-- A list of texts that came in. -/
def Texts (W : World) (v : Value) (xs : List (List UInt8)) : Prop :=
  ∃ a cap, v = .slice a xs.length cap ∧ xs.length ≤ cap ∧ cap ≤ maxLen ∧ (∀ x ∈ xs, x.length ≤ 140737488351232) ∧ xs.length * 16 ≤ 140737488351232 ∧
    ∀ i (h : i < xs.length), ∃ b off, a = some ⟨b, off, none⟩ ∧ b < W.heap.size ∧ W.cell? ⟨b, off + i, none⟩ = some (encT xs[i])
theorem Texts.cases {W : World} {v : Value} {xs : List (List UInt8)} (h : Texts W v xs) : (xs = [] ∧ ∃ a cap, v = .slice a 0 cap) ∨
    ∃ b off cap, v = .slice (some ⟨b, off, none⟩) xs.length cap ∧ xs.length ≤ cap ∧ b < W.heap.size ∧ ∀ i (h : i < xs.length), W.cell? ⟨b, off + i, none⟩ = some (encT xs[i]) := by
  obtain ⟨a, cap, rfl, h1, h2, h3, h4, hc⟩ := h
  by_cases hx : xs = []
  · subst hx; exact .inl ⟨rfl, a, cap, rfl⟩
  · obtain ⟨b, off, rfl, hN, _⟩ := hc 0 (List.length_pos_iff.2 hx)
    refine .inr ⟨b, off, cap, rfl, h1, hN, fun i hi => ?_⟩
    obtain ⟨b', off', he, _, hcell⟩ := hc i hi
    simp at he
    obtain ⟨rfl, rfl⟩ := he
    exact hcell
theorem Texts.cases2 {W : World} {v : Value} {xs : List (List UInt8)} (h : Texts W v xs) : (xs = [] ∧ ∃ a cap, v = .slice a 0 cap) ∨
    ∃ b off cap, v = .slice (some ⟨b, off, none⟩) xs.length cap ∧ 0 < xs.length ∧ xs.length ≤ cap ∧ b < W.heap.size ∧ ∀ i (h : i < xs.length), W.cell? ⟨b, off + i, none⟩ = some (encT xs[i]) := by
  by_cases hx : xs = []
  · obtain ⟨a, cap, rfl, _⟩ := h
    subst hx; exact .inl ⟨rfl, a, cap, rfl⟩
  · rcases h.cases with ⟨h1, _⟩ | ⟨b, off, cap, h1, h2, h3, h4⟩
    · exact absurd h1 hx
    · exact .inr ⟨b, off, cap, h1, List.length_pos_iff.2 hx, h2, h3, h4⟩
theorem Texts.each {W : World} {v : Value} {xs : List (List UInt8)} (h : Texts W v xs) : ∀ x ∈ xs, x.length ≤ 140737488351232 := by
  obtain ⟨a, cap, rfl, h1, h2, h3, h4, hc⟩ := h; exact h3
theorem Texts.len {W : World} {v : Value} {xs : List (List UInt8)} (h : Texts W v xs) : xs.length * 16 ≤ 140737488351232 := by
  obtain ⟨a, cap, rfl, h1, h2, h3, h4, hc⟩ := h; exact h4

section
variable {H : Type} {enc : TypeId × Value → H} {P : Program} {W : World} {t e : TypeId} {v : Value} {d : DataW H} {ps : List MemPlace} {base : Nat}
theorem arg_texts3 (ht : P.underlying t = some (.slice e)) (he : P.underlying e = some .string) (hc : P.cellsOf e = 1) (hb : P.bytesOf e = 16)
    (hval : Value.okWide P W .any base t v) (h : DataW.Trod enc P W 0 (fun _ => true) true t v d ps) (hw : ∀ n ∈ d.weights P t, n ≤ reachBytes) (hlt : ∀ x ∈ ps, x.block < W.heap.size) :
    ∃ xs : List (List UInt8), Texts W v xs := by
  obtain ⟨a0, len, cap, rfl⟩ := okWide_slice ht hval
  obtain ⟨fuel, hf⟩ := h
  rcases open_strings ht he hc hf with ⟨hcs, hx⟩ | ⟨x, len', cap', zs, hcs, _, hl, hm, hz, hx, hcell, hwz⟩
  · simp [Value.cells] at hcs
    obtain ⟨rfl, rfl, rfl⟩ := hcs
    exact ⟨[], none, 0, rfl, by simp, by decide, by simp, by simp, fun i hi => absurd hi (Nat.not_lt_zero _)⟩
  · simp [Value.cells] at hcs
    obtain ⟨rfl, rfl, rfl⟩ := hcs
    simp only [Prod.mk.injEq] at hx
    obtain ⟨rfl, rfl⟩ := hx
    simp only [if_true] at hz
    have hlen : ((zs.take len).map fun s => s.data.toList).length = len := by rw [List.length_map, List.length_take]; omega
    refine ⟨(zs.take len).map fun s => s.data.toList, some x, cap, by rw [hlen], by rw [hlen]; exact hl, hm, ?_, ?_, fun i hi => ?_⟩
    · intro y hy
      obtain ⟨s, hs, rfl⟩ := List.mem_map.1 hy
      have hmem : (DataW.lit (.string s.data.toList) : DataW H) ∈ strs (H := H) (zs.take len) := List.mem_map.2 ⟨s, hs, rfl⟩
      have := hw s.data.toList.length (by
        rw [DataW.weights, ht]
        refine List.mem_cons_of_mem _ (List.mem_append_left _ (mem_weightsAll P e _ _ ?_ _ hmem))
        simp [DataW.weights])
      simpa [reachBytes] using this
    · have := hw ((strs (H := H) (zs.take len)).length * 16 + (strs (H := H) (zs.drop len)).length * 16) (by
        simp [DataW.weights, ht, hb, Nat.add_mul])
      simp only [strs, List.length_map, reachBytes] at this
      rw [hlen]
      rw [List.length_take, List.length_drop] at this
      omega
    · have hi' : i < len := by omega
      have hcl := hcell i (by omega)
      obtain ⟨b, off, spot⟩ := x
      have hspot : spot = none := by simpa [Addr.add] using World.cell?_spot (hcell 0 (by omega))
      subst hspot
      refine ⟨b, off, rfl, hlt (.cell b off) (MemPlace.mem_row.2 ⟨0, by omega, by simp⟩), ?_⟩
      have e1 : (⟨b, off, none⟩ : Addr).add i = ⟨b, off + i, none⟩ := by simp [Addr.add]
      rw [e1] at hcl
      rw [hcl, List.getElem_map, List.getElem_take, List.getD_eq_getElem?_getD, List.getElem?_eq_getElem (by omega)]
      simp
end
end Go.Proofs.YtamiacmnobklaaaDoor

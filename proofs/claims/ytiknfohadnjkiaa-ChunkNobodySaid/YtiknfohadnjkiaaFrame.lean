/- What a walk is told of arguments that came in: numbers, texts, lists of these; and how a reading gives it. Of no program. -/
import Derived.Test.YtiknfohadnjkiaaGen
import Derived.OpenShut
import Derived.ProofKit
import Derived.ShutString
import Derived.SizedLaws
import Derived.SliceStrings
set_option linter.unusedVariables false
namespace Go.Proofs.Ytiknfohadnjkiaa
open Go.ChangeShapes Go.WideShapes Go.ChangeAt Go.RowKit
open Go.ChangeMaps (open_string shut_string)

/-- A list whose elements take one cell each: the i-th holds 'enc' of the i-th of xs; N tells where it may lie. -/
def Row {α : Type} (enc : α → Value) (N : Nat → Prop) (w : World) (v : Value) (xs : List α) : Prop :=
  ∃ a cap, v = .slice a xs.length cap ∧ ∀ i (h : i < xs.length), ∃ b off, a = some ⟨b, off, none⟩ ∧ N b ∧ w.cell? ⟨b, off + i, none⟩ = some (enc xs[i])

theorem Row.cases {α : Type} {enc : α → Value} {N : Nat → Prop} {w : World} {v : Value} {xs : List α} (h : Row enc N w v xs) :
    (xs = [] ∧ ∃ a cap, v = .slice a 0 cap) ∨ ∃ b off cap, v = .slice (some ⟨b, off, none⟩) xs.length cap ∧ N b ∧ ∀ i (h : i < xs.length), w.cell? ⟨b, off + i, none⟩ = some (enc xs[i]) := by
  obtain ⟨a, cap, rfl, hc⟩ := h
  by_cases hx : xs = []
  · subst hx; exact .inl ⟨rfl, a, cap, rfl⟩
  · obtain ⟨b, off, rfl, hN, _⟩ := hc 0 (List.length_pos_iff.2 hx)
    refine .inr ⟨b, off, cap, rfl, hN, fun i hi => ?_⟩
    obtain ⟨b', off', he, _, hcell⟩ := hc i hi
    simp at he
    obtain ⟨rfl, rfl⟩ := he
    exact hcell
theorem Row.nil {α : Type} (enc : α → Value) (N : Nat → Prop) (w : World) : Row enc N w (.slice none 0 0) [] := ⟨none, 0, rfl, fun i h => absurd h (Nat.not_lt_zero _)⟩
theorem Row.kept {α : Type} {enc : α → Value} {N M : Nat → Prop} {w w' : World} {v : Value} {xs : List α} (h : Row enc N w v xs) (hk : Kept M w w') (hm : ∀ k, N k → ¬ M k) : Row enc N w' v xs := by
  obtain ⟨a, cap, rfl, hc⟩ := h
  refine ⟨a, cap, rfl, fun i hi => ?_⟩
  obtain ⟨b, off, rfl, hN, hcell⟩ := hc i hi
  exact ⟨b, off, rfl, hN, by rw [World.cell?_of_block (w := w) (hk.block b (World.block_lt_of_cell? w _ hcell) (hm b hN))]; exact hcell⟩
theorem Row.mono {α : Type} {enc : α → Value} {N M : Nat → Prop} {w : World} {v : Value} {xs : List α} (h : Row enc N w v xs) (hm : ∀ k, N k → M k) : Row enc M w v xs := by
  obtain ⟨a, cap, rfl, hc⟩ := h
  refine ⟨a, cap, rfl, fun i hi => ?_⟩
  obtain ⟨b, off, rfl, hN, hcell⟩ := hc i hi
  exact ⟨b, off, rfl, hm b hN, hcell⟩

theorem Row.grow {α : Type} {enc : α → Value} {N : Nat → Prop} {w w' : World} {v : Value} {xs : List α} (h : Row enc N w v xs) (hb : Below w.heap.size w w') : Row enc N w' v xs := h.kept (Kept.new hb (fun _ => False)) (fun _ _ => id)

section
variable {H : Type} {enc : TypeId × Value → H} {P : Program} {W : World} {t e : TypeId} {v : Value} {d : DataW H} {ps : List MemPlace} {base : Nat}

theorem arg_int (ht : P.underlying t = some (.int .i64)) (hval : Value.okWide P W .any base t v) (h : DataW.Trod enc P W 0 (fun _ => true) true t v d ps) :
    ∃ n : Int, v = .int .i64 n ∧ -9223372036854775808 ≤ n ∧ n ≤ 9223372036854775807 := by
  obtain ⟨n, rfl, _, _, wn⟩ := open_int ht hval h
  exact ⟨n, rfl, bounds_i64 wn⟩

theorem arg_bool (ht : P.underlying t = some .bool) (hval : Value.okWide P W .any base t v) (h : DataW.Trod enc P W 0 (fun _ => true) true t v d ps) : ∃ b : Bool, v = .bool b := by
  obtain ⟨b, rfl, _, _⟩ := open_bool ht hval h
  exact ⟨b, rfl⟩

theorem arg_text (ht : P.underlying t = some .string) (hval : Value.okWide P W .any base t v) (h : DataW.Trod enc P W 0 (fun _ => true) true t v d ps)
    (hw : ∀ n ∈ d.weights P t, n ≤ reachBytes) : ∃ l : List UInt8, v = .string ⟨l.toArray⟩ ∧ l.length ≤ 140737488351232 := by
  obtain ⟨s, rfl, rfl, _, _⟩ := open_string ht hval h
  refine ⟨s.data.toList, by simp, ?_⟩
  have := hw s.data.toList.length (by simp [DataW.weights])
  simpa [reachBytes] using this

theorem arg_ints (ht : P.underlying t = some (.slice e)) (he : P.underlying e = some (.int .i64)) (hc : P.cellsOf e = 1) (hb : P.bytesOf e = 8)
    (hval : Value.okWide P W .any base t v) (h : DataW.Trod enc P W 0 (fun _ => true) true t v d ps) (hw : ∀ n ∈ d.weights P t, n ≤ reachBytes) (hlt : ∀ x ∈ ps, x.block < W.heap.size) :
    ∃ xs : List Int, Row (Value.int .i64) (· < W.heap.size) W v xs ∧ xs.length * 8 ≤ 140737488351232 ∧ ∀ n ∈ xs, -9223372036854775808 ≤ n ∧ n ≤ 9223372036854775807 := by
  obtain ⟨a0, len, cap, rfl⟩ := okWide_slice ht hval
  obtain ⟨fuel, hf⟩ := h
  rcases open_ints ht he hc hf with ⟨hcs, hx⟩ | ⟨x, len', cap', zs, hcs, _, hl, hm, hz, hx, hcell, hwz⟩
  · simp [Value.cells] at hcs
    obtain ⟨rfl, rfl, rfl⟩ := hcs
    exact ⟨[], Row.nil _ _ _, by decide, by simp⟩
  · simp [Value.cells] at hcs
    obtain ⟨rfl, rfl, rfl⟩ := hcs
    simp only [Prod.mk.injEq] at hx
    obtain ⟨rfl, rfl⟩ := hx
    simp only [if_true] at hz
    have hlen : (zs.take len).length = len := by rw [List.length_take]; omega
    refine ⟨zs.take len, ⟨some x, cap, by rw [hlen], fun i hi => ?_⟩, ?_, fun n hn => bounds_i64 (hwz n (List.mem_of_mem_take hn))⟩
    · have hi' : i < len := by omega
      have hcl := hcell i (by omega)
      obtain ⟨b, off, spot⟩ := x
      have hspot : spot = none := by simpa [Addr.add] using World.cell?_spot (hcell 0 (by omega))
      subst hspot
      refine ⟨b, off, rfl, hlt (.cell b off) (MemPlace.mem_row.2 ⟨0, by omega, by simp⟩), ?_⟩
      have e1 : (⟨b, off, none⟩ : Addr).add i = ⟨b, off + i, none⟩ := by simp [Addr.add]
      rw [e1] at hcl
      rw [hcl, List.getElem_take, List.getD_eq_getElem?_getD, List.getElem?_eq_getElem (by omega)]
      rfl
    · have := hw ((lits (H := H) .i64 (zs.take len)).length * 8 + (lits (H := H) .i64 (zs.drop len)).length * 8) (by
        simp [DataW.weights, ht, hb, Nat.add_mul])
      simp only [lits, List.length_map, reachBytes] at this
      omega

theorem arg_texts (ht : P.underlying t = some (.slice e)) (he : P.underlying e = some .string) (hc : P.cellsOf e = 1) (hb : P.bytesOf e = 16)
    (hval : Value.okWide P W .any base t v) (h : DataW.Trod enc P W 0 (fun _ => true) true t v d ps) (hw : ∀ n ∈ d.weights P t, n ≤ reachBytes) (hlt : ∀ x ∈ ps, x.block < W.heap.size) :
    ∃ xs : List (List UInt8), Row (fun l => Value.string ⟨l.toArray⟩) (· < W.heap.size) W v xs ∧ xs.length * 16 ≤ 140737488351232 := by
  obtain ⟨a0, len, cap, rfl⟩ := okWide_slice ht hval
  obtain ⟨fuel, hf⟩ := h
  rcases open_strings ht he hc hf with ⟨hcs, hx⟩ | ⟨x, len', cap', zs, hcs, _, hl, hm, hz, hx, hcell, hwz⟩
  · simp [Value.cells] at hcs
    obtain ⟨rfl, rfl, rfl⟩ := hcs
    exact ⟨[], Row.nil _ _ _, by decide⟩
  · simp [Value.cells] at hcs
    obtain ⟨rfl, rfl, rfl⟩ := hcs
    simp only [Prod.mk.injEq] at hx
    obtain ⟨rfl, rfl⟩ := hx
    simp only [if_true] at hz
    have hlen : ((zs.take len).map fun s => s.data.toList).length = len := by rw [List.length_map, List.length_take]; omega
    refine ⟨(zs.take len).map fun s => s.data.toList, ⟨some x, cap, by rw [hlen], fun i hi => ?_⟩, ?_⟩
    · have hi' : i < len := by omega
      have hcl := hcell i (by omega)
      obtain ⟨b, off, spot⟩ := x
      have hspot : spot = none := by simpa [Addr.add] using World.cell?_spot (hcell 0 (by omega))
      subst hspot
      refine ⟨b, off, rfl, hlt (.cell b off) (MemPlace.mem_row.2 ⟨0, by omega, by simp⟩), ?_⟩
      have e1 : (⟨b, off, none⟩ : Addr).add i = ⟨b, off + i, none⟩ := by simp [Addr.add]
      rw [e1] at hcl
      rw [hcl, List.getElem_map, List.getElem_take, List.getD_eq_getElem?_getD, List.getElem?_eq_getElem (by omega)]
      simp
    · have := hw ((strs (H := H) (zs.take len)).length * 16 + (strs (H := H) (zs.drop len)).length * 16) (by
        simp [DataW.weights, ht, hb, Nat.add_mul])
      simp only [strs, List.length_map, reachBytes] at this
      rw [hlen]
      rw [List.length_take, List.length_drop] at this
      omega
end
end Go.Proofs.Ytiknfohadnjkiaa

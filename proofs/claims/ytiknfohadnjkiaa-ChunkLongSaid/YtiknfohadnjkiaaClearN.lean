/- 'clear' of a whole own list. Of no program. -/
import Derived.Test.YtiknfohadnjkiaaGen
import Derived.Test.YtiknfohadnjkiaaOwnPut
import Derived.Test.YtiknfohadnjkiaaRowN
import Derived.Laws.OwnMore
import Derived.OpenShut
import Derived.ProofKit
import Derived.ShutString
import Derived.SizedLaws
import Derived.SliceStrings
set_option linter.unusedVariables false
namespace Go.Proofs.Ytiknfohadnjkiaa
open Go.RowKit

def setsL : List Value → Nat → List Value → List Value
  | L, _, [] => L
  | L, o, v :: r => setsL (L.set o v) (o + 1) r
theorem setsL_len : ∀ (vs L : List Value) (o : Nat), (setsL L o vs).length = L.length
  | [], L, o => rfl
  | v :: r, L, o => by rw [setsL, setsL_len r, List.length_set]
theorem setsL_out : ∀ (vs L : List Value) (o j : Nat), j < o → (setsL L o vs)[j]? = L[j]?
  | [], L, o, j, _ => rfl
  | v :: r, L, o, j, h => by rw [setsL, setsL_out r _ _ j (by omega), List.getElem?_set_ne (by omega)]
theorem setsL_in : ∀ (vs L : List Value) (o j : Nat), j < vs.length → o + vs.length ≤ L.length → (setsL L o vs)[o + j]? = vs[j]?
  | [], L, o, j, h, _ => by simp at h
  | v :: r, L, o, 0, _, hl => by
    rw [List.length_cons] at hl
    show (setsL (L.set o v) (o + 1) r)[o]? = _
    rw [setsL_out r _ _ o (by omega), List.getElem?_set_self (by omega)]
    rfl
  | v :: r, L, o, j + 1, h, hl => by
    rw [List.length_cons] at h hl
    rw [setsL, show o + (j + 1) = (o + 1) + j by omega, setsL_in r _ _ j (by omega) (by rw [List.length_set]; omega)]
    rfl
theorem setsL_all (vs L : List Value) (h : vs.length = L.length) : setsL L 0 vs = vs := by
  refine List.ext_getElem? fun j => ?_
  by_cases hj : j < vs.length
  · have := setsL_in vs L 0 j hj (by omega)
    rw [Nat.zero_add] at this
    exact this
  · rw [List.getElem?_eq_none (by rw [setsL_len]; omega), List.getElem?_eq_none (by omega)]
theorem ownsRow_sets {base : Nat} {e : TypeId} {k g n c : Nat} : ∀ (vs : List Value) (o : Nat) (w : World) (L : List Value), w.ownsRow base e k (.slice (some ⟨g, 0, none⟩) n c) n L →
    (w.setCells g o vs).ownsRow base e k (.slice (some ⟨g, 0, none⟩) n c) n (setsL L o vs) ∧ Kept (· = g) w (w.setCells g o vs)
  | [], o, w, L, h => ⟨h, Kept.refl _ _⟩
  | v :: r, o, w, L, h => by
    obtain ⟨h1, h2⟩ := World.ownsRow.stored h o v
    have k1 : Kept (· = g) w (w.setCell ⟨g, o, none⟩ v) := ⟨h2.os, h2.tape, h2.output, h2.size, fun j hj hm => h2.block j hj (fun e => hm (Option.some.inj e))⟩
    obtain ⟨i1, i2⟩ := ownsRow_sets r (o + 1) _ _ h1
    exact ⟨i1, k1.trans i2⟩
section
variable {α : Type} {enc : α → List Value} {k : Nat}
theorem zero_flat (hE : EncN enc k) (hk : 0 < k) (x : α) (z : Array Value) (hz : z.toList = enc x) (n : Nat) : (Builtin.zeroCells z n).toList = flatN enc (List.replicate n x) := by
  have hzs : z.size = k := by rw [← Array.length_toList, hz, hE.len]
  refine List.ext_getElem? fun j => ?_
  have hl : (flatN enc (List.replicate n x)).length = n * k := by rw [flatN_len hE, List.length_replicate]
  by_cases hj : j < n * k
  · have hd : j / k < n := (Nat.div_lt_iff_lt_mul hk).2 hj
    have hm : j % k < k := Nat.mod_lt _ hk
    have h1 := flatN_get hE (List.replicate n x) (j / k) (by rw [List.length_replicate]; exact hd) (j % k) hm
    rw [show j / k * k + j % k = j by rw [Nat.mul_comm]; exact Nat.div_add_mod j k, List.getElem_replicate] at h1
    rw [h1]
    unfold Builtin.zeroCells
    rw [Array.toList_map, List.getElem?_map, Array.toList_range, hzs, List.getElem?_range hj]
    simp only [Option.map_some]
    rw [getElem!_pos z (j % k) (by omega), ← hz]
    rw [Array.getElem?_toList, Array.getElem?_eq_getElem (by omega)]
  · rw [List.getElem?_eq_none (by rw [Array.length_toList]; unfold Builtin.zeroCells; rw [Array.size_map, Array.size_range, hzs]; omega), List.getElem?_eq_none (by omega)]
theorem run_clear_own {P : Program} (hE : EncN enc k) (hk : 0 < k) {w : World} {base : Nat} {t e : TypeId} {g n c : Nat} {xs : List α} (z : Value) (x0 : α) (ht : P.underlying t = some (.slice e)) (hv : ∀ w, (zeroValue e).run P w = .ok z w) (hz : z.cells.toList = enc x0)
    (h : OwnN enc k w base e (.slice (some ⟨g, 0, none⟩) n c) xs) (hx : 0 < xs.length) :
    ∃ w', (∀ ty, (Builtin.clear_ #[t] ty #[.slice (some ⟨g, 0, none⟩) n c]).run P w = .ok (.tuple #[]) w') ∧ OwnN enc k w' base e (.slice (some ⟨g, 0, none⟩) n c) (List.replicate xs.length x0) ∧ Kept (· = g) w w' := by
  obtain ⟨g', c', hv', _, _, _, hel, hfz⟩ := h.atB hE (by intro e; rw [e] at hx; simp at hx)
  injection hv' with e1 e2 e3
  injection e1 with e1
  injection e1 with e1 _ _
  subst e1
  subst e2
  have hzs : z.cells.size = k := by rw [← Array.length_toList, hz, hE.len]
  have hone : ∀ u ∈ (Builtin.zeroCells z.cells xs.length).toList, u.oneCell' = true := by
    rw [zero_flat hE hk x0 z.cells hz]
    intro u hu
    unfold flatN at hu
    rw [List.mem_flatten] at hu
    obtain ⟨l, hl, hu⟩ := hu
    rw [List.mem_map] at hl
    obtain ⟨y, hy, rfl⟩ := hl
    exact hE.one y u hu
  have hlen : (Builtin.zeroCells z.cells xs.length).toList.length = xs.length * k := by rw [zero_flat hE hk x0 z.cells hz, flatN_len hE, List.length_replicate]
  have hst := run_storeCells_cells (P := P) g 0 (Builtin.zeroCells z.cells xs.length).toList 0 w
    (by
      intro j hj
      rw [hlen] at hj
      have hd : j / k < xs.length := (Nat.div_lt_iff_lt_mul hk).2 hj
      have hm : j % k < k := Nat.mod_lt _ hk
      have hg : (enc xs[j / k])[j % k]? = some ((enc xs[j / k])[j % k]'(by rw [hE.len]; exact hm)) := List.getElem?_eq_getElem _
      have := hel (j / k) hd (j % k) _ hg
      rw [show j / k * k + j % k = j by rw [Nat.mul_comm]; exact Nat.div_add_mod j k] at this
      simp only [Nat.zero_add, this, Option.isSome_some])
    (by intro j hj; exact hfz _) hone
  simp only [Nat.add_zero] at hst
  obtain ⟨r1, r2⟩ := ownsRow_sets (Builtin.zeroCells z.cells xs.length).toList 0 w _ h
  rw [setsL_all _ _ (by rw [hlen, flatN_len hE]), zero_flat hE hk x0 z.cells hz] at r1
  refine ⟨w.setCells g 0 (Builtin.zeroCells z.cells xs.length).toList, fun ty => ?_, ?_, r2⟩
  · obtain ⟨m, hm⟩ : ∃ m, xs.length = m + 1 := ⟨xs.length - 1, by omega⟩
    rw [hm] at hst ⊢
    simp [Builtin.clear_, run_underlying ht, hv, hst]
  · rw [zero_flat hE hk x0 z.cells hz]
    unfold OwnN
    rw [List.length_replicate]
    exact r1
end
end Go.Proofs.Ytiknfohadnjkiaa

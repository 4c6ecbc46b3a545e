/- A row of bytes of the call's own, with what is spare behind it, however it was made ([]byte(s), append): bytes appended. Of no program. -/
import Derived.Test.YtjlhhnkfedfdnaaCells
import Derived.Test.YtjlhhnkfedfdnaaFrame
import Derived.Test.YtjlhhnkfedfdnaaGen
import Derived.Test.YtjlhhnkfedfdnaaOwnL
import Derived.ArgAppend
import Derived.Laws.IdiomCopy
set_option linter.unusedVariables false
namespace Go.Proofs.Ytjlhhnkfedfdnaa
open Go.RowKit

def RowB (w : World) (base : Nat) (v : Value) (l : List UInt8) : Prop :=
  ∃ g cap, v = .slice (some ⟨g, 0, none⟩) l.length cap ∧ base ≤ g ∧ g < w.heap.size ∧ l.length ≤ cap ∧ CellsFrom encB w g 0 l ∧ ∀ j, l.length ≤ j → j < cap → (w.cell? ⟨g, j, none⟩).isSome = true ∧ w.frozen? ⟨g, j, none⟩ = false
theorem frozen_of_block {w w' : World} {g : Nat} (h : w'.heap[g]? = w.heap[g]?) (j : Nat) : w'.frozen? ⟨g, j, none⟩ = w.frozen? ⟨g, j, none⟩ := by
  unfold World.frozen?
  rw [h]
theorem RowB.new {w w' : World} {base B : Nat} {v : Value} {l : List UInt8} (h : RowB w base v l) (hb : Below B w w') (hB : w.heap.size ≤ B) : RowB w' base v l := by
  obtain ⟨g, cap, rfl, h1, h2, h5, h3, h4⟩ := h
  refine ⟨g, cap, rfl, h1, Nat.lt_of_lt_of_le h2 hb.size, h5, h3.new (by omega) hb, fun j hj hc => ?_⟩
  rw [World.cell?_of_block (w := w) (hb.block g (by omega)), frozen_of_block (hb.block g (by omega))]
  exact h4 j hj hc
theorem RowB.mono {w : World} {base base' : Nat} {v : Value} {l : List UInt8} (h : RowB w base v l) (hb : base' ≤ base) : RowB w base' v l := by
  obtain ⟨g, cap, rfl, h1, h2⟩ := h
  exact ⟨g, cap, rfl, Nat.le_trans hb h1, h2⟩
theorem RowB.of_own {w : World} {base : Nat} {e : TypeId} {v : Value} {l : List UInt8} (h : OwnL encB w base e v l) (hl : l ≠ []) : RowB w base v l := by
  obtain ⟨g0, c0, hv, _, _, hc⟩ := OwnL.block h hl
  rcases h.2 with ⟨rfl, hn⟩ | ⟨g, cap, cur, rfl, hb, hg, hle, _, hcs, _⟩
  · cases hv
  · injection hv with e1 e2 e3
    injection e1 with e1
    injection e1 with e4
    subst e4
    refine ⟨g, cap, rfl, hb, (Array.getElem?_eq_some_iff.1 hg).1, hle, hc, fun j _ hj => ⟨?_, frozen_of_row w g j _ _ hg⟩⟩
    rw [cell_of_row _ _ _ _ _ _ hg]
    rw [Array.getElem?_eq_getElem (by rw [hcs]; omega)]
    rfl

section
variable {P : Program}
theorem RowB.of_conv (w : World) (l : List UInt8) (src dst e : TypeId) (hs : P.underlying src = some .string) (hd : P.underlying dst = some (.slice e)) (he : P.underlying e = some (.int .u8)) :
    ∃ v w1, (convert src dst (.string ⟨l.toArray⟩)).run P w = .ok v w1 ∧ RowB w1 w.heap.size v l ∧ Below w.heap.size w w1 := by
  have h := run_bytes_of_string (P := P) w src dst e ⟨l.toArray⟩ hs hd he
  have hge : l.length ≤ grownCap w l.length 0 e := grownCap_ge w _ _ _
  obtain ⟨C, hC⟩ : ∃ C, C = bytesRow ⟨l.toArray⟩ (grownCap w l.length 0 e) := ⟨_, rfl⟩
  have hsz : C.size = grownCap w l.length 0 e := by
    rw [hC]
    unfold bytesRow
    show (Array.map _ l.toArray ++ Array.replicate (grownCap w l.length 0 e - l.length) _).size = _
    simp
    omega
  have hget : ∀ i (hi : i < l.length), C[i]? = some (encB l[i]) := by
    intro i hi
    rw [hC]
    unfold bytesRow
    show (Array.map _ l.toArray ++ Array.replicate (grownCap w l.length 0 e - l.length) _)[i]? = _
    rw [Array.getElem?_append_left (by simpa using hi)]
    simp [hi, encB]
  have h' : (convert src dst (.string ⟨l.toArray⟩)).run P w = .ok (.slice (some ⟨w.heap.size, 0, none⟩) l.length (grownCap w l.length 0 e)) (w.drew.alloc (.cells C e (C.size, C.size + 1))) := by
    rw [hC]
    exact h
  have hh : (w.drew.alloc (.cells C e (C.size, C.size + 1))).heap[w.heap.size]? = some (.cells C e (C.size, C.size + 1)) := by
    show (w.heap.push _)[w.heap.size]? = _
    simp
  refine ⟨_, _, h', ⟨w.heap.size, _, rfl, Nat.le_refl _, ?_, hge, ?_, ?_⟩, (Below_drew (Below.refl _ _)).alloc (Nat.le_refl _) _⟩
  · exact (Array.getElem?_eq_some_iff.1 hh).1
  · intro i hi
    simp only [World.cell?, hh, Nat.zero_add]
    simpa using hget i hi
  · intro j hj hc
    constructor
    · simp only [World.cell?, hh]
      rw [← hsz] at hc
      simp [hc]
    · simp only [World.frozen?, hh]
      simp
      omega

/-- A byte appended. -/
theorem append_rowB {w : World} {ops : Array Oper} {rest : List Oper} {o : Oper} {a : Act} {Q : Exit → Act → World → Prop} (hgd : o.guard = none) (s x : Operand) (t e : TypeId)
    (ho : o.op = .call { callee := .builtin .append, args := #[s, x], argTypes := #[t, t] }) (ht : P.underlying t = some (.slice e))
    (hinfo : (P.info? e).map (fun i => (i.zero, i.size, i.bytes)) = some (some (.int .u8 0), 1, 1))
    (base : Nat) (v : Value) (l : List UInt8) (b : Int) (c : UInt8) (hc : b = (c.toNat : Int)) (hs : a.eval s = v) (hrow : RowB w base v l) (hx : a.eval x = .slice (some ⟨w.heap.size, 0, none⟩) 1 1)
    (hlen : l.length < 70368744177664) (hbase : base ≤ w.heap.size)
    (h : ∀ v' w', RowB w' base v' (l ++ [c]) → Below base w w' → wpList P ops Q rest (a.put o.dst v') w') :
    wpList P ops Q (o :: rest) a (w.alloc (.cells #[.int .u8 b] e)) := by
  subst hc
  obtain ⟨i0, hi, hz0, hz1, hz2⟩ := info_parts hinfo
  have hn0 : Below w.heap.size w (w.alloc (.cells #[.int .u8 (c.toNat : Int)] e)) := (Below.refl _ _).alloc (Nat.le_refl _) _
  have hnew : (w.alloc (.cells #[.int .u8 (c.toNat : Int)] e)).heap[w.heap.size]? = some (.cells #[.int .u8 (c.toNat : Int)] e) := heap_alloc_new _ _
  have hb0 : Below base w (w.alloc (.cells #[.int .u8 (c.toNat : Int)] e)) := (Below.refl base w).alloc hbase _
  have hrow' := hrow.new hn0 (Nat.le_refl _)
  generalize hW : w.alloc (.cells #[.int .u8 (c.toNat : Int)] e) = W at *
  have hWs : w.heap.size ≤ W.heap.size := hn0.size
  obtain ⟨g, cap, rfl, h1, h2, h5, h3, h4⟩ := hrow'
  refine wpList_append_arg W hgd s x t ho e i0 (.int .u8 0) 1 1 ht hi hz0 hz1 hz2 rfl (by decide) g 0 l.length cap (l.map encB) hs (by simp) ?_ ⟨w.heap.size, 0, none⟩ 1 1 [encB c] hx rfl ?_ (by intro u hu; simp at hu; subst hu; rfl) ?_ (by unfold maxLen; omega) (by omega) ?_ ?_
  · intro j u hj
    rw [List.getElem?_map] at hj
    obtain ⟨y, hy, rfl⟩ := Option.map_eq_some_iff.1 hj
    obtain ⟨hjl, rfl⟩ := List.getElem?_eq_some_iff.1 hy
    exact h3 j hjl
  · intro j u hj
    match j, hj with
    | 0, hj =>
      simp at hj
      subst hj
      simp [Addr.add, World.cell?, hnew, encB]
  · intro hr j hj
    have hj0 : j = 0 := by simpa using hj
    subst hj0
    simp only [Nat.zero_add, Nat.mul_one, Nat.add_zero]
    exact h4 l.length (Nat.le_refl _) (by omega)
  · intro hr
    have hsome : ∀ j, j < [encB c].length → (W.cell? ⟨g, l.length + j, none⟩).isSome = true := by
      intro j hj
      have hj0 : j = 0 := by simpa using hj
      subst hj0
      exact (h4 l.length (Nat.le_refl _) (by omega)).1
    rw [show 0 + l.length * 1 = l.length by omega]
    refine h _ _ ⟨g, cap, by rw [List.length_append]; rfl, h1, ?_, by rw [List.length_append]; exact hr, ?_, ?_⟩ (hb0.setCell (p := ⟨g, l.length, none⟩) h1 _)
    · simpa [World.setCells, World.setCell] using h2
    · intro i hi
      rcases Nat.lt_or_ge i l.length with hlt | hge
      · rw [World.cell?_setCells_out g [encB c] l.length W _ (fun _ _ => Or.inl (by show 0 + i < l.length; omega)), h3 i hlt, List.getElem_append_left hlt]
      · have e1 : i = l.length := by rw [List.length_append] at hi; simp at hi; omega
        subst e1
        have := World.cell?_setCells_in g [encB c] l.length W hsome 0 (by simp)
        rw [Nat.add_zero] at this
        rw [Nat.zero_add, this, List.getElem_append_right (Nat.le_refl _)]
        simp
    · intro j hj hjc
      rw [List.length_append] at hj
      simp at hj
      rw [World.cell?_setCells_out g [encB c] l.length W _ (fun _ _ => Or.inr (by show l.length + 1 ≤ j; omega)), World.frozen?_setCells]
      exact h4 j (by omega) hjc
  · intro hg v' w' hown hgr
    refine h v' w' ?_ (hb0.trans ?_)
    · refine (RowB.of_own (e := e) ?_ (by simp)).mono (Nat.le_trans hbase hWs)
      unfold OwnL
      rw [List.map_append, List.length_append]
      exact hown
    · exact ((Below.refl W.heap.size W).grown hgr (Nat.le_refl _) (fun k hk => by cases hk)).mono (Nat.le_trans hbase hWs)
end
end Go.Proofs.Ytjlhhnkfedfdnaa

/- Several texts in one: Cells, RowB, RowBT. -/
import Derived.Test.YtpkgjokehgihjaaGen
import Derived.Test.YtpkgjokehgihjaaOwnL
import Derived.Laws.OwnMore
import Derived.OpenShut
import Derived.ProofKit
import Derived.ShutString
import Derived.SizedLaws
import Derived.SliceStrings
import Derived.Test.YtpkgjokehgihjaaFrame
import Derived.ArgAppend
import Derived.Laws.IdiomCopy
import Derived.Test.YtpkgjokehgihjaaDelX
import Derived.Test.YtpkgjokehgihjaaProg
import Derived.Test.YtpkgjokehgihjaaRollMath
import Derived.Test.YtpkgjokehgihjaaSignMath
import Derived.Deep.AppendLies
import Derived.Lib.AppendStr
/- Cells of a row from a place on; a row of the call's own as cells; a copy of a row. Of no program. -/
set_option linter.unusedVariables false
namespace Go.Proofs.Ytpkgjokehgihjaa
open Go.RowKit

/-- Cells of a row from a place on. -/
def CellsFrom {α : Type} (enc : α → Value) (w : World) (p o : Nat) (xs : List α) : Prop := ∀ i (h : i < xs.length), w.cell? ⟨p, o + i, none⟩ = some (enc xs[i])
theorem CellsFrom.new {α : Type} {enc : α → Value} {w w' : World} {p o B : Nat} {xs : List α} (h : CellsFrom enc w p o xs) (hp : p < B) (hb : Below B w w') : CellsFrom enc w' p o xs :=
  fun i hi => by rw [World.cell?_of_block (w := w) (hb.block p hp)]; exact h i hi
theorem CellsFrom.of_own {α : Type} {enc : α → Value} {w : World} {base : Nat} {e : TypeId} {g n cap : Nat} {xs : List α} (h : OwnL enc w base e (.slice (some ⟨g, 0, none⟩) n cap) xs) : CellsFrom enc w g 0 xs := by
  obtain ⟨a, c, he, hc⟩ := h.row
  intro i hi
  obtain ⟨b, off, rfl, _, h2⟩ := hc i hi
  injection he with e1 e2 e3
  injection e1 with e1
  injection e1 with e4 e5
  subst e4
  subst e5
  exact h2
def encB (b : UInt8) : Value := .int .u8 (b.toNat : Int)
/-- Of the call's own, and not empty: a block. -/
theorem OwnL.block {α : Type} {enc : α → Value} {w : World} {base : Nat} {e : TypeId} {v : Value} {xs : List α} (h : OwnL enc w base e v xs) (hx : xs ≠ []) : ∃ g cap, v = .slice (some ⟨g, 0, none⟩) xs.length cap ∧ base ≤ g ∧ g < w.heap.size ∧ CellsFrom enc w g 0 xs := by
  rcases h.2 with ⟨rfl, hn⟩ | ⟨g, cap, cur, rfl, hb, hg, _⟩
  · exact absurd (List.eq_nil_of_length_eq_zero hn) hx
  · exact ⟨g, cap, rfl, hb, (Array.getElem?_eq_some_iff.1 hg).1, CellsFrom.of_own h⟩
section
variable {P : Program}
/-- 'append([]T{}, xs...)': a copy of the call's own. -/
theorem append_copy {α : Type} {enc : α → Value} {w : World} {ops : Array Oper} {rest : List Oper} {o : Oper} {a : Act} {Q : Exit → Act → World → Prop} (hgd : o.guard = none) (s x : Operand) (t e : TypeId) (z : Value) (bytes : Nat)
    (ho : o.op = .call { callee := .builtin .append, args := #[s, x], argTypes := #[t, t] }) (ht : P.underlying t = some (.slice e))
    (hinfo : (P.info? e).map (fun i => (i.zero, i.size, i.bytes)) = some (some z, 1, bytes)) (hz : z.cells.size = 1)
    (base : Nat) (hs : a.eval s = .slice (some ⟨w.heap.size, 0, none⟩) 0 0) (xs : List α) (hone : ∀ y, (enc y).oneCell' = true) (p n c : Nat) (hx : a.eval x = .slice (some ⟨p, 0, none⟩) n c) (hn : xs.length = n) (hp : p < w.heap.size) (hcell : CellsFrom enc w p 0 xs)
    (hlen : n * bytes ≤ 140737488355328) (hlen2 : n ≤ maxLen) (hbase : base ≤ w.heap.size)
    (h : ∀ v' w', OwnL enc w' base e v' xs → Below base w w' → wpList P ops Q rest (a.put o.dst v') w') :
    wpList P ops Q (o :: rest) a (w.alloc (.cells #[] e)) := by
  obtain ⟨i0, hi, hz0, hz1, hz2⟩ := info_parts hinfo
  have hb0 : Below base w (w.alloc (.cells #[] e)) := (Below.refl base w).alloc hbase _
  have hc2 := hcell.new hp ((Below.refl w.heap.size w).alloc (Nat.le_refl _) (.cells #[] e))
  subst hn
  refine wpList_append_own _ hgd s x t ho base e i0 z 1 bytes ht hi hz0 hz1 hz2 hz (by decide) _ 0 [] hs (World.ownsRow_lit w #[] 0 hbase (by decide) rfl) ⟨p, 0, none⟩ xs.length c (xs.map enc) hx (by simp) ?_ ?_ (by rw [Nat.zero_add]; exact hlen2) (by rw [Nat.zero_add]; exact hlen) (by simp; omega) ?_
  · intro j u hj
    rw [List.getElem?_map] at hj
    obtain ⟨y, hy, rfl⟩ := Option.map_eq_some_iff.1 hj
    obtain ⟨hjl, rfl⟩ := List.getElem?_eq_some_iff.1 hy
    have := hc2 j hjl
    rw [show (⟨p, 0, none⟩ : Addr).add j = ⟨p, 0 + j, none⟩ by unfold Addr.add; split <;> simp_all]
    exact this
  · intro u hu
    rw [List.mem_map] at hu
    obtain ⟨y, _, rfl⟩ := hu
    exact hone y
  · intro v' w' hown hg _
    refine h v' w' ?_ (hb0.grown hg (by simp; omega) (fun k hk => ?_))
    · unfold OwnL
      simpa using hown
    · simp [Value.ownBlock] at hk
      omega
end
end Go.Proofs.Ytpkgjokehgihjaa
/- A row of bytes of the call's own, with what is spare behind it, however it was made ([]byte(s), append): bytes appended. Of no program. -/
set_option linter.unusedVariables false
namespace Go.Proofs.Ytpkgjokehgihjaa
open Go.RowKit

def RowB (w : World) (base : Nat) (v : Value) (l : List UInt8) : Prop :=
  ∃ g cap, v = .slice (some ⟨g, 0, none⟩) l.length cap ∧ base ≤ g ∧ g < w.heap.size ∧ l.length ≤ cap ∧ CellsFrom encB w g 0 l ∧ ∀ j, l.length ≤ j → j < cap → (w.cell? ⟨g, j, none⟩).isSome = true ∧ w.frozen? ⟨g, j, none⟩ = false
theorem frozen_of_block {w w' : World} {g : Nat} (h : w'.heap[g]? = w.heap[g]?) (j : Nat) : w'.frozen? ⟨g, j, none⟩ = w.frozen? ⟨g, j, none⟩ := by
  unfold World.frozen?
  rw [h]
theorem RowB.new {w w' : World} {base B : Nat} {v : Value} {l : List UInt8} (h : RowB w base v l) (hb : Below B w w') (hB : w.heap.size ≤ B) : RowB w' base v l := by
  obtain ⟨g, cap, rfl, h1, h2, h5, h3, h4⟩ := h
  refine ⟨g, cap, rfl, h1, Nat.lt_of_lt_of_le h2 hb.size, h5, h3.new (by omega) hb, fun j hj hc => ?_⟩
  rw [World.cell?_of_block (w := w) (hb.block g (by omega)), frozen_of_block (hb.block g (by omega))]
  exact h4 j hj hc
theorem RowB.mono {w : World} {base base' : Nat} {v : Value} {l : List UInt8} (h : RowB w base v l) (hb : base' ≤ base) : RowB w base' v l := by
  obtain ⟨g, cap, rfl, h1, h2⟩ := h
  exact ⟨g, cap, rfl, Nat.le_trans hb h1, h2⟩
theorem RowB.of_own {w : World} {base : Nat} {e : TypeId} {v : Value} {l : List UInt8} (h : OwnL encB w base e v l) (hl : l ≠ []) : RowB w base v l := by
  obtain ⟨g0, c0, hv, _, _, hc⟩ := OwnL.block h hl
  rcases h.2 with ⟨rfl, hn⟩ | ⟨g, cap, cur, rfl, hb, hg, hle, _, hcs, _⟩
  · cases hv
  · injection hv with e1 e2 e3
    injection e1 with e1
    injection e1 with e4
    subst e4
    refine ⟨g, cap, rfl, hb, (Array.getElem?_eq_some_iff.1 hg).1, hle, hc, fun j _ hj => ⟨?_, frozen_of_row w g j _ _ hg⟩⟩
    rw [cell_of_row _ _ _ _ _ _ hg]
    rw [Array.getElem?_eq_getElem (by rw [hcs]; omega)]
    rfl

section
variable {P : Program}
theorem RowB.of_conv (w : World) (l : List UInt8) (src dst e : TypeId) (hs : P.underlying src = some .string) (hd : P.underlying dst = some (.slice e)) (he : P.underlying e = some (.int .u8)) :
    ∃ v w1, (convert src dst (.string ⟨l.toArray⟩)).run P w = .ok v w1 ∧ RowB w1 w.heap.size v l ∧ Below w.heap.size w w1 := by
  have h := run_bytes_of_string (P := P) w src dst e ⟨l.toArray⟩ hs hd he
  have hge : l.length ≤ grownCap w l.length 0 e := grownCap_ge w _ _ _
  obtain ⟨C, hC⟩ : ∃ C, C = bytesRow ⟨l.toArray⟩ (grownCap w l.length 0 e) := ⟨_, rfl⟩
  have hsz : C.size = grownCap w l.length 0 e := by
    rw [hC]
    unfold bytesRow
    show (Array.map _ l.toArray ++ Array.replicate (grownCap w l.length 0 e - l.length) _).size = _
    simp
    omega
  have hget : ∀ i (hi : i < l.length), C[i]? = some (encB l[i]) := by
    intro i hi
    rw [hC]
    unfold bytesRow
    show (Array.map _ l.toArray ++ Array.replicate (grownCap w l.length 0 e - l.length) _)[i]? = _
    rw [Array.getElem?_append_left (by simpa using hi)]
    simp [hi, encB]
  have h' : (convert src dst (.string ⟨l.toArray⟩)).run P w = .ok (.slice (some ⟨w.heap.size, 0, none⟩) l.length (grownCap w l.length 0 e)) (w.drew.alloc (.cells C e (C.size, C.size + 1))) := by
    rw [hC]
    exact h
  have hh : (w.drew.alloc (.cells C e (C.size, C.size + 1))).heap[w.heap.size]? = some (.cells C e (C.size, C.size + 1)) := by
    show (w.heap.push _)[w.heap.size]? = _
    simp
  refine ⟨_, _, h', ⟨w.heap.size, _, rfl, Nat.le_refl _, ?_, hge, ?_, ?_⟩, (Below_drew (Below.refl _ _)).alloc (Nat.le_refl _) _⟩
  · exact (Array.getElem?_eq_some_iff.1 hh).1
  · intro i hi
    simp only [World.cell?, hh, Nat.zero_add]
    simpa using hget i hi
  · intro j hj hc
    constructor
    · simp only [World.cell?, hh]
      rw [← hsz] at hc
      simp [hc]
    · simp only [World.frozen?, hh]
      simp
      omega

/-- A byte appended. -/
theorem append_rowB {w : World} {ops : Array Oper} {rest : List Oper} {o : Oper} {a : Act} {Q : Exit → Act → World → Prop} (hgd : o.guard = none) (s x : Operand) (t e : TypeId)
    (ho : o.op = .call { callee := .builtin .append, args := #[s, x], argTypes := #[t, t] }) (ht : P.underlying t = some (.slice e))
    (hinfo : (P.info? e).map (fun i => (i.zero, i.size, i.bytes)) = some (some (.int .u8 0), 1, 1))
    (base : Nat) (v : Value) (l : List UInt8) (b : Int) (c : UInt8) (hc : b = (c.toNat : Int)) (hs : a.eval s = v) (hrow : RowB w base v l) (hx : a.eval x = .slice (some ⟨w.heap.size, 0, none⟩) 1 1)
    (hlen : l.length < 70368744177664) (hbase : base ≤ w.heap.size)
    (h : ∀ v' w', RowB w' base v' (l ++ [c]) → Below base w w' → wpList P ops Q rest (a.put o.dst v') w') :
    wpList P ops Q (o :: rest) a (w.alloc (.cells #[.int .u8 b] e)) := by
  subst hc
  obtain ⟨i0, hi, hz0, hz1, hz2⟩ := info_parts hinfo
  have hn0 : Below w.heap.size w (w.alloc (.cells #[.int .u8 (c.toNat : Int)] e)) := (Below.refl _ _).alloc (Nat.le_refl _) _
  have hnew : (w.alloc (.cells #[.int .u8 (c.toNat : Int)] e)).heap[w.heap.size]? = some (.cells #[.int .u8 (c.toNat : Int)] e) := heap_alloc_new _ _
  have hb0 : Below base w (w.alloc (.cells #[.int .u8 (c.toNat : Int)] e)) := (Below.refl base w).alloc hbase _
  have hrow' := hrow.new hn0 (Nat.le_refl _)
  generalize hW : w.alloc (.cells #[.int .u8 (c.toNat : Int)] e) = W at *
  have hWs : w.heap.size ≤ W.heap.size := hn0.size
  obtain ⟨g, cap, rfl, h1, h2, h5, h3, h4⟩ := hrow'
  refine wpList_append_arg W hgd s x t ho e i0 (.int .u8 0) 1 1 ht hi hz0 hz1 hz2 rfl (by decide) g 0 l.length cap (l.map encB) hs (by simp) ?_ ⟨w.heap.size, 0, none⟩ 1 1 [encB c] hx rfl ?_ (by intro u hu; simp at hu; subst hu; rfl) ?_ (by unfold maxLen; omega) (by omega) ?_ ?_
  · intro j u hj
    rw [List.getElem?_map] at hj
    obtain ⟨y, hy, rfl⟩ := Option.map_eq_some_iff.1 hj
    obtain ⟨hjl, rfl⟩ := List.getElem?_eq_some_iff.1 hy
    exact h3 j hjl
  · intro j u hj
    match j, hj with
    | 0, hj =>
      simp at hj
      subst hj
      simp [Addr.add, World.cell?, hnew, encB]
  · intro hr j hj
    have hj0 : j = 0 := by simpa using hj
    subst hj0
    simp only [Nat.zero_add, Nat.mul_one, Nat.add_zero]
    exact h4 l.length (Nat.le_refl _) (by omega)
  · intro hr
    have hsome : ∀ j, j < [encB c].length → (W.cell? ⟨g, l.length + j, none⟩).isSome = true := by
      intro j hj
      have hj0 : j = 0 := by simpa using hj
      subst hj0
      exact (h4 l.length (Nat.le_refl _) (by omega)).1
    rw [show 0 + l.length * 1 = l.length by omega]
    refine h _ _ ⟨g, cap, by rw [List.length_append]; rfl, h1, ?_, by rw [List.length_append]; exact hr, ?_, ?_⟩ (hb0.setCell (p := ⟨g, l.length, none⟩) h1 _)
    · simpa [World.setCells, World.setCell] using h2
    · intro i hi
      rcases Nat.lt_or_ge i l.length with hlt | hge
      · rw [World.cell?_setCells_out g [encB c] l.length W _ (fun _ _ => Or.inl (by show 0 + i < l.length; omega)), h3 i hlt, List.getElem_append_left hlt]
      · have e1 : i = l.length := by rw [List.length_append] at hi; simp at hi; omega
        subst e1
        have := World.cell?_setCells_in g [encB c] l.length W hsome 0 (by simp)
        rw [Nat.add_zero] at this
        rw [Nat.zero_add, this, List.getElem_append_right (Nat.le_refl _)]
        simp
    · intro j hj hjc
      rw [List.length_append] at hj
      simp at hj
      rw [World.cell?_setCells_out g [encB c] l.length W _ (fun _ _ => Or.inr (by show l.length + 1 ≤ j; omega)), World.frozen?_setCells]
      exact h4 j (by omega) hjc
  · intro hg v' w' hown hgr
    refine h v' w' ?_ (hb0.trans ?_)
    · refine (RowB.of_own (e := e) ?_ (by simp)).mono (Nat.le_trans hbase hWs)
      unfold OwnL
      rw [List.map_append, List.length_append]
      exact hown
    · exact ((Below.refl W.heap.size W).grown hgr (Nat.le_refl _) (fun k hk => by cases hk)).mono (Nat.le_trans hbase hWs)
end
end Go.Proofs.Ytpkgjokehgihjaa
/- A row of bytes of the call's own, with what is spare behind it: a text appended. Of no program. -/
set_option linter.unusedVariables false
namespace Go.Proofs.Ytpkgjokehgihjaa
open Go.RowKit

theorem strCells_encB (l : List UInt8) : Lib.strCells ⟨l.toArray⟩ = l.map encB := rfl
section
variable {P : Program}
theorem run_append_room_cells_string (w : World) (t u ty e : TypeId) (i : TypeInfo) (ht : P.underlying t = some (.slice e)) (hu : P.underlying u = some .string) (hi : P.info? e = some i) (hs1 : i.size = 1)
    (b off sLen sCap : Nat) (s : ByteArray) (hroom : sLen + s.size ≤ sCap) (hc : ∀ j, j < s.size → (w.cell? ⟨b, off + sLen + j, none⟩).isSome = true) (hf : ∀ j, j < s.size → w.frozen? ⟨b, off + sLen + j, none⟩ = false) :
    (Builtin.append_ #[t, u] ty #[.slice (some ⟨b, off, none⟩) sLen sCap, .string s]).run P w = .ok (.slice (some ⟨b, off, none⟩) (sLen + s.size) sCap) (w.setCells b (off + sLen) (Lib.strCells s)) := by
  have hfc := Lib.run_firstCells_string (P := P) w 1 s
  have hst := run_storeCells_cells (P := P) b (off + sLen) (Lib.strCells s) 0 w (by simpa [Lib.strCells_length] using hc) (by simpa [Lib.strCells_length] using hf) (Lib.strCells_oneCell s)
  simp only [Nat.add_zero] at hst
  simp [Builtin.append_, run_underlying ht, run_underlying hu, sizeOf, typeInfo, hi, hs1, Builtin.lenOf, hroom, hfc, Addr.add_lit, hst]

/-- A text appended: what it is, and what else stands. -/
theorem run_append_rowB_text (w : World) (t u ty e : TypeId) (ht : P.underlying t = some (.slice e)) (hu : P.underlying u = some .string)
    (hinfo : (P.info? e).map (fun i => (i.zero, i.size, i.bytes)) = some (some (.int .u8 0), 1, 1))
    (base : Nat) (v : Value) (l m : List UInt8) (hrow : RowB w base v l) (hlen : l.length + m.length < 70368744177664) (hbase : base ≤ w.heap.size) :
    ∃ v' w', (Builtin.append_ #[t, u] ty #[v, .string ⟨m.toArray⟩]).run P w = .ok v' w' ∧ RowB w' base v' (l ++ m) ∧ TurnS base w v w' v' := by
  obtain ⟨i0, hi, hz0, hz1, hz2⟩ := info_parts hinfo
  obtain ⟨g, cap, rfl, h1, h2, h5, h3, h4⟩ := hrow
  have hss : (⟨m.toArray⟩ : ByteArray).size = m.length := rfl
  by_cases hr : l.length + m.length ≤ cap
  · have hrun := run_append_room_cells_string (P := P) w t u ty e i0 ht hu hi hz1 g 0 l.length cap ⟨m.toArray⟩ (by rw [hss]; exact hr) (fun j hj => by rw [Nat.zero_add]; exact (h4 _ (by omega) (by rw [hss] at hj; omega)).1) (fun j hj => by rw [Nat.zero_add]; exact (h4 _ (by omega) (by rw [hss] at hj; omega)).2)
    have hk : ∀ (ns : List Value) (k : Nat) (w1 : World), Kept (fun k => some g = some k) w w1 → Kept (fun k => some g = some k) w (w1.setCells g k ns) := by
      intro ns
      induction ns with
      | nil => intro k w1 hb; exact hb
      | cons y ns ih => intro k w1 hb; unfold World.setCells; exact ih _ _ (hb.setCell (p := ⟨g, k, none⟩) rfl _)
    have hkk := hk (Lib.strCells ⟨m.toArray⟩) (0 + l.length) w (Kept.refl _ _)
    refine ⟨_, _, hrun, ⟨g, cap, by rw [List.length_append]; rfl, h1, Nat.lt_of_lt_of_le h2 hkk.size, by rw [List.length_append]; exact hr, ?_, ?_⟩, ⟨hkk.below hbase (fun k e => by injection e with e; omega), hkk, fun g' e => .inl e⟩⟩
    · rw [Nat.zero_add]
      have hsome : ∀ j, j < (Lib.strCells ⟨m.toArray⟩).length → (w.cell? ⟨g, l.length + j, none⟩).isSome = true := by
        intro j hj
        rw [Lib.strCells_length] at hj
        exact (h4 _ (by omega) (by rw [hss] at hj; omega)).1
      intro i hi
      rcases Nat.lt_or_ge i l.length with hlt | hge
      · rw [World.cell?_setCells_out g _ l.length w _ (fun _ _ => Or.inl (by show 0 + i < l.length; omega)), h3 i hlt, List.getElem_append_left hlt]
      · rw [List.length_append] at hi
        have := World.cell?_setCells_in g (Lib.strCells ⟨m.toArray⟩) l.length w hsome (i - l.length) (by rw [Lib.strCells_length, hss]; omega)
        rw [show l.length + (i - l.length) = 0 + i by omega] at this
        rw [this, List.getElem_append_right hge]
        simp only [strCells_encB, List.getElem_map]
    · rw [Nat.zero_add]
      intro j hj hjc
      rw [List.length_append] at hj
      rw [World.cell?_setCells_out g _ l.length w _ (fun _ _ => Or.inr (by rw [Lib.strCells_length, hss]; exact hj)), World.frozen?_setCells]
      exact h4 j (by omega) hjc
  · have hrun := Lib.run_append_grow_string (P := P) w t u ty e i0 (.int .u8 0) ht hu hi hz0 ⟨g, 0, none⟩ l.length cap (l.map encB) (by rw [hz1]; simp) (fun j y hj => by
      rw [List.getElem?_map] at hj
      obtain ⟨y, hy, rfl⟩ := Option.map_eq_some_iff.1 hj
      obtain ⟨hjl, rfl⟩ := List.getElem?_eq_some_iff.1 hy
      rw [addr_add0]
      have := h3 j hjl
      rwa [Nat.zero_add] at this) ⟨m.toArray⟩ (by rw [hss]; omega) (by rw [hss]; omega) (by rw [hz2]; exact growslice_fits (by rw [hss]; omega) (by rw [hss]; omega))
    have hge := grownCap_ge w (l.length + (⟨m.toArray⟩ : ByteArray).size) cap e
    have hcm : grownCap w (l.length + (⟨m.toArray⟩ : ByteArray).size) cap e ≤ maxLen := grownCap_le_maxLen w _ cap e (by rw [hss]; unfold maxLen; omega)
    have hb1 : ∀ o, Below w.heap.size w (w.drew.alloc o) := fun o => (Below_drew (Below.refl _ _)).alloc (Nat.le_refl _) _
    refine ⟨_, _, hrun, (RowB.of_own (e := e) (base := w.heap.size) ?_ ?_).mono hbase, ⟨(hb1 _).mono hbase, Kept.new (hb1 _) _, fun g' e => .inr (by simp [Value.ownBlock] at e; omega)⟩⟩
    · unfold OwnL
      refine ⟨by simp, .inr ⟨w.heap.size, _, _, ?_, Nat.le_refl _, heap_alloc_new w.drew _, ?_, hcm, ?_, ?_⟩⟩
      · rw [List.length_append]; rfl
      · rw [List.length_append]; exact hge
      · have hz1' : (Value.int IntKind.u8 0).cells.size = 1 := rfl
        simp only [Array.size_append, List.size_toArray, List.length_append, size_zeroCells, hz1', List.length_map, Lib.strCells_length]
        omega
      · simp only [Array.toList_append, List.append_assoc]
        rw [← List.append_assoc, strCells_encB, ← List.map_append]
        have : (List.map encB (l ++ m)).length = (l ++ m).length * 1 := by simp
        rw [← this]
        exact List.take_left
    · intro hnil
      obtain ⟨h6, h7⟩ := List.append_eq_nil_iff.1 hnil
      subst h6; subst h7
      exact hr (Nat.zero_le _)
theorem append_rowB_text {w : World} {ops : Array Oper} {rest : List Oper} {o : Oper} {a : Act} {Q : Exit → Act → World → Prop} (hgd : o.guard = none) (s x : Operand) (t u e : TypeId)
    (ho : o.op = .call { callee := .builtin .append, args := #[s, x], argTypes := #[t, u] }) (ht : P.underlying t = some (.slice e)) (hu : P.underlying u = some .string)
    (hinfo : (P.info? e).map (fun i => (i.zero, i.size, i.bytes)) = some (some (.int .u8 0), 1, 1))
    (base : Nat) (v : Value) (l m : List UInt8) (hs : a.eval s = v) (hrow : RowB w base v l) (hx : a.eval x = .string ⟨m.toArray⟩)
    (hlen : l.length + m.length < 70368744177664) (hbase : base ≤ w.heap.size)
    (h : ∀ v' w', RowB w' base v' (l ++ m) → TurnS base w v w' v' → wpList P ops Q rest (a.put o.dst v') w') :
    wpList P ops Q (o :: rest) a w := by
  obtain ⟨v', w', hrun, h1, h2⟩ := run_append_rowB_text (P := P) w t u o.type e ht hu hinfo base v l m hrow hlen hbase
  refine wpList_plain hgd fun K hK' => ?_
  unfold Oper.wp
  simp [execOp, ho, resolve, invoke, builtin, hs, hx, hrun, Result.andThen]
  exact hK' _ _ (h _ _ h1 h2)
/-- The same at an operation of a region that draws its order. -/
theorem step_rowB_text {w : World} {ops : Array Oper} {o : Oper} {a : Act} {K : Act → World → Prop} {Q : Exit → Act → World → Prop} {E : Prop} (hgd : o.guard = none) (s x : Operand) (t u e : TypeId)
    (ho : o.op = .call { callee := .builtin .append, args := #[s, x], argTypes := #[t, u] }) (ht : P.underlying t = some (.slice e)) (hu : P.underlying u = some .string)
    (hinfo : (P.info? e).map (fun i => (i.zero, i.size, i.bytes)) = some (some (.int .u8 0), 1, 1))
    (base : Nat) (v : Value) (l m : List UInt8) (hs : a.eval s = v) (hrow : RowB w base v l) (hx : a.eval x = .string ⟨m.toArray⟩)
    (hlen : l.length + m.length < 70368744177664) (hbase : base ≤ w.heap.size)
    (h : ∀ v' w', RowB w' base v' (l ++ m) → TurnS base w v w' v' → K (a.put o.dst v') w') :
    if Region.wanted o (yielded ops a.tmps) = true then Oper.wp P o a w K Q else E := by
  have hw : Region.wanted o (yielded ops a.tmps) = true := by simp [Region.wanted, hgd]
  rw [if_pos hw]
  obtain ⟨v', w', hrun, h1, h2⟩ := run_append_rowB_text (P := P) w t u o.type e ht hu hinfo base v l m hrow hlen hbase
  unfold Oper.wp execOp
  simp only [ho, resolve, invoke, builtin, Sem.run_bind, Sem.run_pure, Result.andThen_ok, List.map_toArray, List.map_cons, List.map_nil, hs, hx, hrun]
  exact h _ _ h1 h2
end
end Go.Proofs.Ytpkgjokehgihjaa

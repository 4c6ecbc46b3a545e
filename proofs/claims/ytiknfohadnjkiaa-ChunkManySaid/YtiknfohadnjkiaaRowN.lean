/- Lists of structs in memory, whatever their fields: of the call's own, and such that are read. Of no program. -/
import Derived.Test.YtiknfohadnjkiaaFrame
import Derived.Test.YtiknfohadnjkiaaGen
import Derived.Test.YtiknfohadnjkiaaOwnL
import Derived.Laws.OwnMore
import Derived.Maps.AppendAt
set_option linter.unusedVariables false
namespace Go.Proofs.Ytiknfohadnjkiaa
open Go.RowKit

/-- Structs one behind the other, as cells. -/
def flatN {α : Type} (enc : α → List Value) (l : List α) : List Value := (l.map enc).flatten
/-- How a struct is spelled: so many cells, one each. -/
structure EncN {α : Type} (enc : α → List Value) (k : Nat) : Prop where
  len : ∀ x, (enc x).length = k
  one : ∀ x, ∀ u ∈ enc x, u.oneCell' = true
section
variable {α : Type} {enc : α → List Value} {k : Nat}
theorem flatN_append (l m : List α) : flatN enc (l ++ m) = flatN enc l ++ flatN enc m := by unfold flatN; simp
theorem flatN_one (x : α) : flatN enc [x] = enc x := by unfold flatN; simp
theorem flatN_cons (x : α) (l : List α) : flatN enc (x :: l) = enc x ++ flatN enc l := rfl
theorem flatN_len (h : EncN enc k) (l : List α) : (flatN enc l).length = l.length * k := by
  induction l with
  | nil => simp [flatN]
  | cons x l ih => rw [flatN_cons, List.length_append, ih, h.len, List.length_cons, Nat.add_mul, Nat.one_mul, Nat.add_comm]
theorem flatN_get (h : EncN enc k) : ∀ (l : List α) (i : Nat) (hi : i < l.length) (r : Nat), r < k → (flatN enc l)[i * k + r]? = (enc l[i])[r]? := by
  intro l
  induction l with
  | nil => intro i hi; simp at hi
  | cons x l ih =>
    intro i hi r hr
    rw [flatN_cons]
    cases i with
    | zero => rw [Nat.zero_mul, Nat.zero_add, List.getElem?_append_left (by rw [h.len]; exact hr)]; rfl
    | succ i =>
      rw [List.getElem?_append_right (by rw [h.len, Nat.add_mul]; omega), h.len, show (i + 1) * k + r - k = i * k + r by rw [Nat.add_mul]; omega]
      exact ih i (by simpa using hi) r hr
/-- A struct from cell o of block g on. -/
def ElAt (enc : α → List Value) (w : World) (g o : Nat) (x : α) : Prop := ∀ r u, (enc x)[r]? = some u → w.cell? ⟨g, o + r, none⟩ = some u
theorem ElAt.below {w w' : World} {g o : Nat} {x : α} {B : Nat} (h : ElAt enc w g o x) (hb : Below B w w') (hg : g < B) : ElAt enc w' g o x :=
  fun r u hu => (hb.cell (p := ⟨g, o + r, none⟩) hg).trans (h r u hu)
theorem ElAt.new {w w' : World} {g o : Nat} {x : α} (h : ElAt enc w g o x) (hb : Below w.heap.size w w') : ElAt enc w' g o x :=
  fun r u hu => (hb.cell (p := ⟨g, o + r, none⟩) (World.block_lt_of_cell? w _ (h r u hu))).trans (h r u hu)
theorem ElAt.kept {w w' : World} {g o : Nat} {x : α} {M : Nat → Prop} (h : ElAt enc w g o x) (hk : Kept M w w') (hm : ¬ M g) : ElAt enc w' g o x :=
  fun r u hu => (World.cell?_of_block (w := w) (hk.block g (World.block_lt_of_cell? w _ (h r u hu)) hm)).trans (h r u hu)
/-- A list of structs that can be read; N tells where it may lie. -/
def RowN (enc : α → List Value) (k : Nat) (N : Nat → Prop) (w : World) (v : Value) (xs : List α) : Prop :=
  ∃ a c, v = .slice a xs.length c ∧ xs.length ≤ c ∧ ∀ i (h : i < xs.length), ∃ g o, a = some ⟨g, o, none⟩ ∧ N g ∧ ElAt enc w g (o + i * k) xs[i]
theorem RowN.nil (N : Nat → Prop) (w : World) (a : Option Addr) (c : Nat) : RowN enc k N w (.slice a 0 c) [] := ⟨a, c, rfl, Nat.zero_le _, fun i h => by simp at h⟩
theorem RowN.at {N : Nat → Prop} {w : World} {v : Value} {xs : List α} (h : RowN enc k N w v xs) {i : Nat} (hi : i < xs.length) : ∃ g o c, v = .slice (some ⟨g, o, none⟩) xs.length c ∧ N g ∧ ElAt enc w g (o + i * k) xs[i] := by
  obtain ⟨a, c, rfl, _, hc⟩ := h
  obtain ⟨g, o, rfl, hn, hx⟩ := hc i hi
  exact ⟨g, o, c, rfl, hn, hx⟩
theorem RowN.cases {N : Nat → Prop} {w : World} {v : Value} {xs : List α} (h : RowN enc k N w v xs) :
    (xs = [] ∧ ∃ a c, v = .slice a 0 c) ∨ ∃ g o c, v = .slice (some ⟨g, o, none⟩) xs.length c ∧ xs.length ≤ c ∧ N g ∧ ∀ i (hi : i < xs.length), ElAt enc w g (o + i * k) xs[i] := by
  obtain ⟨a, c, rfl, hl, hc⟩ := h
  by_cases hx : xs = []
  · subst hx; exact .inl ⟨rfl, a, c, rfl⟩
  · obtain ⟨g, o, rfl, hn, _⟩ := hc 0 (List.length_pos_iff.2 hx)
    refine .inr ⟨g, o, c, rfl, hl, hn, fun i hi => ?_⟩
    obtain ⟨g', o', he, _, h'⟩ := hc i hi
    simp at he
    obtain ⟨rfl, rfl⟩ := he
    exact h'
theorem RowN.slice {N : Nat → Prop} {w : World} {v : Value} {xs : List α} (h : RowN enc k N w v xs) : ∃ a c, v = .slice a xs.length c ∧ xs.length ≤ c := by
  obtain ⟨a, c, rfl, hl, _⟩ := h; exact ⟨a, c, rfl, hl⟩
theorem RowN.below {N : Nat → Prop} {w w' : World} {v : Value} {xs : List α} {B : Nat} (h : RowN enc k N w v xs) (hb : Below B w w') (hB : ∀ g, N g → g < B) : RowN enc k N w' v xs := by
  obtain ⟨a, c, rfl, hl, hc⟩ := h
  refine ⟨a, c, rfl, hl, fun i hi => ?_⟩
  obtain ⟨g, o, rfl, hn, hx⟩ := hc i hi
  exact ⟨g, o, rfl, hn, hx.below hb (hB g hn)⟩
theorem RowN.keep {N : Nat → Prop} {w w' : World} {v : Value} {xs : List α} (h : RowN enc k N w v xs) (hb : Below w.heap.size w w') : RowN enc k N w' v xs := by
  obtain ⟨a, c, rfl, hl, hc⟩ := h
  refine ⟨a, c, rfl, hl, fun i hi => ?_⟩
  obtain ⟨g, o, rfl, hn, hx⟩ := hc i hi
  exact ⟨g, o, rfl, hn, hx.new hb⟩
theorem RowN.kept {N M : Nat → Prop} {w w' : World} {v : Value} {xs : List α} (h : RowN enc k N w v xs) (hk : Kept M w w') (hm : ∀ g, N g → ¬ M g) : RowN enc k N w' v xs := by
  obtain ⟨a, c, rfl, hl, hc⟩ := h
  refine ⟨a, c, rfl, hl, fun i hi => ?_⟩
  obtain ⟨g, o, rfl, hn, hx⟩ := hc i hi
  exact ⟨g, o, rfl, hn, hx.kept hk (hm g hn)⟩
theorem RowN.mono {N M : Nat → Prop} {w : World} {v : Value} {xs : List α} (h : RowN enc k N w v xs) (hm : ∀ g, N g → M g) : RowN enc k M w v xs := by
  obtain ⟨a, c, rfl, hl, hc⟩ := h
  refine ⟨a, c, rfl, hl, fun i hi => ?_⟩
  obtain ⟨g, o, rfl, hn, hx⟩ := hc i hi
  exact ⟨g, o, rfl, hm g hn, hx⟩
/-- Its first ones. -/
theorem RowN.take {N : Nat → Prop} {w : World} {a : Option Addr} {m c : Nat} {xs : List α} (h : RowN enc k N w (.slice a m c) xs) (n : Nat) (hn : n ≤ xs.length) : RowN enc k N w (.slice a n c) (xs.take n) := by
  obtain ⟨a', c', hv, hl, hc⟩ := h
  injection hv with e1 e2 e3
  subst e1; subst e3
  have ht : (xs.take n).length = n := by rw [List.length_take]; omega
  refine ⟨a, c, by rw [ht], by omega, fun i hi => ?_⟩
  obtain ⟨g, o, he, hng, hx⟩ := hc i (by omega)
  refine ⟨g, o, he, hng, ?_⟩
  rw [List.getElem_take]
  exact hx

/-- A list of structs of the call's own. -/
def OwnN (enc : α → List Value) (k : Nat) (w : World) (base : Nat) (e : TypeId) (v : Value) (xs : List α) : Prop := w.ownsRow base e k v xs.length (flatN enc xs)
theorem OwnN.nil (enc : α → List Value) (k : Nat) (w : World) (base : Nat) (e : TypeId) : OwnN enc k w base e (.slice none 0 0) [] := World.ownsRow_nil w base e k
theorem OwnN.row {w : World} {base : Nat} {e : TypeId} {v : Value} {xs : List α} (hE : EncN enc k) (h : OwnN enc k w base e v xs) : RowN enc k (base ≤ ·) w v xs := by
  rcases h.2 with ⟨rfl, hn⟩ | ⟨g, cap, cur, rfl, hb, hg, hle, _⟩
  · have : xs = [] := List.eq_nil_of_length_eq_zero hn
    subst this
    exact RowN.nil _ _ _ _
  · refine ⟨some ⟨g, 0, none⟩, cap, rfl, hle, fun i hi => ⟨g, 0, rfl, hb, fun r u hu => ?_⟩⟩
    have hr : r < k := by rw [← hE.len xs[i]]; exact (List.getElem?_eq_some_iff.1 hu).1
    have C := World.ownsRow.cells h (g := g) rfl (i * k + r) u (by rw [flatN_get hE xs i hi r hr]; exact hu)
    rw [addr_add0] at C
    rw [Nat.zero_add]
    exact C
theorem OwnN.mono {w : World} {base base' : Nat} {e : TypeId} {v : Value} {xs : List α} (h : OwnN enc k w base e v xs) (hb : base' ≤ base) : OwnN enc k w base' e v xs := by
  refine ⟨h.1, ?_⟩
  rcases h.2 with hn | ⟨g, cap, cur, rfl, hg, rest⟩
  · exact .inl hn
  · exact .inr ⟨g, cap, cur, rfl, Nat.le_trans hb hg, rest⟩
theorem OwnN.new {w w' : World} {base : Nat} {e : TypeId} {v : Value} {xs : List α} (h : OwnN enc k w base e v xs) (hb : Below w.heap.size w w') : OwnN enc k w' base e v xs :=
  own_off h (Kept.new hb (fun _ => False)) (fun _ _ _ _ => id)
theorem OwnN.kept {w w' : World} {M : Nat → Prop} {base : Nat} {e : TypeId} {v : Value} {xs : List α} (h : OwnN enc k w base e v xs) (hk : Kept M w w') (hm : ∀ g, v.ownBlock = some g → ¬ M g) : OwnN enc k w' base e v xs :=
  own_off h hk (fun g _ _ hg => hm g hg)
theorem OwnN.lt {w : World} {base : Nat} {e : TypeId} {v : Value} {xs : List α} (h : OwnN enc k w base e v xs) {g : Nat} (hg : v.ownBlock = some g) : base ≤ g ∧ g < w.heap.size ∧ ∃ cur, w.heap[g]? = some (.cells cur e (0, 0)) := by
  rcases h.2 with ⟨rfl, _⟩ | ⟨g', cap, cur, rfl, hb, hgg, _⟩
  · simp [Value.ownBlock] at hg
  · simp [Value.ownBlock] at hg
    subst hg
    exact ⟨hb, (Array.getElem?_eq_some_iff.1 hgg).1, cur, hgg⟩
end
/-- A list of the call's own, turned: what else stands, and where it lies now. -/
structure TurnN (base : Nat) (w : World) (v : Value) (w' : World) (v' : Value) : Prop where
  bel : Below base w w'
  kept : Kept (fun k => v.ownBlock = some k) w w'
  mov : ∀ g, v'.ownBlock = some g → v.ownBlock = some g ∨ w.heap.size ≤ g
theorem TurnN.refl (base : Nat) (w : World) (v : Value) : TurnN base w v w v := ⟨Below.refl _ _, Kept.refl _ _, fun g h => .inl h⟩
theorem TurnN.trans {base : Nat} {w w1 w2 : World} {v v1 v2 : Value} (h : TurnN base w v w1 v1) (k : TurnN base w1 v1 w2 v2) : TurnN base w v w2 v2 := by
  have hs := h.kept.size
  refine ⟨h.bel.trans k.bel, ⟨k.kept.os.trans h.kept.os, k.kept.tape.trans h.kept.tape, k.kept.output.trans h.kept.output, Nat.le_trans h.kept.size k.kept.size, fun i hi hm => ?_⟩, fun g hg => ?_⟩
  · refine (k.kept.block i (Nat.lt_of_lt_of_le hi h.kept.size) (fun e => ?_)).trans (h.kept.block i hi hm)
    rcases h.mov i e with c | c
    · exact hm c
    · omega
  · rcases k.mov g hg with c | c
    · exact h.mov g c
    · exact .inr (by omega)
theorem TurnN.new {base : Nat} {w w1 w2 : World} {v v1 : Value} (h : TurnN base w v w1 v1) (hb : Below w1.heap.size w1 w2) (hw : base ≤ w.heap.size) : TurnN base w v w2 v1 :=
  h.trans ⟨hb.mono (Nat.le_trans hw h.kept.size), Kept.new hb _, fun g e => .inl e⟩
section
variable {α : Type} {enc : α → List Value} {k : Nat} {P : Program}
/-- A struct that lies elsewhere, behind others of the call's own. -/
theorem append_el {w w0 : World} {ops : Array Oper} {rest : List Oper} {o : Oper} {a : Act} {Q : Exit → Act → World → Prop} (hgd : o.guard = none) (s x : Operand) (t e : TypeId) (z : Value) (bytes : Nat)
    (ho : o.op = .call { callee := .builtin .append, args := #[s, x], argTypes := #[t, t] }) (ht : P.underlying t = some (.slice e))
    (hinfo : (P.info? e).map (fun i => (i.zero, i.size, i.bytes)) = some (some z, k, bytes)) (hz : z.cells.size = k) (hk : 0 < k) (hE : EncN enc k)
    (base : Nat) (v : Value) (l : List α) (y : α) (g : Nat) (hs : a.eval s = v) (hown : OwnN enc k w0 base e v l) (hx : a.eval x = .slice (some ⟨g, 0, none⟩) 1 1) (hy : ElAt enc w g 0 y)
    (hw : Below w0.heap.size w0 w) (hlen : (l.length + 1) * bytes ≤ 140737488355328) (hlen2 : l.length + 1 ≤ maxLen) (hbase : base ≤ w0.heap.size)
    (h : ∀ v' w', OwnN enc k w' base e v' (l ++ [y]) → TurnN base w0 v w' v' → wpList P ops Q rest (a.put o.dst v') w') :
    wpList P ops Q (o :: rest) a w := by
  obtain ⟨i0, hi, hz0, hz1, hz2⟩ := info_parts hinfo
  have hown1 := hown.new hw
  have hsz := hw.size
  refine wpList_append_own_at _ hgd s x t ho base _ i0 z k bytes ht hi hz0 hz1 hz2 hz hk v l.length (flatN enc l) hs hown1 ⟨g, 0, none⟩ 1 1 (enc y) hx (by rw [hE.len, Nat.one_mul]) ?_ (hE.one y) hlen2 hlen (by omega) ?_
  · intro j u hj
    rw [addr_add0]
    have := hy j u hj
    rwa [Nat.zero_add] at this
  · intro v' w' hown' hg _ hat
    have hb1 : Below base w0 w := hw.mono hbase
    refine h v' w' ?_ ⟨hb1.grown hg (by omega) (fun k hk => (World.ownsRow.lt hown1 k hk).1), ?_, fun g' hg' => ?_⟩
    · unfold OwnN
      rw [flatN_append, List.length_append, flatN_one]
      exact hown'
    · have k1 : Kept (fun k => v.ownBlock = some k) w0 w := Kept.new hw _
      exact k1.trans ⟨hg.os, hg.tape, hg.output, hg.size, fun k hk hm => hg.block k hk (fun he => hm he.symm)⟩
    · rcases hat with h | h
      · exact .inl (by rw [← h]; exact hg')
      · right
        rw [hg'] at h
        simp at h
        omega
/-- One that was built just now, behind others of the call's own. -/
theorem append_new {w : World} {ops : Array Oper} {rest : List Oper} {o : Oper} {a : Act} {Q : Exit → Act → World → Prop} (hgd : o.guard = none) (s x : Operand) (t e : TypeId) (z : Value) (bytes : Nat)
    (ho : o.op = .call { callee := .builtin .append, args := #[s, x], argTypes := #[t, t] }) (ht : P.underlying t = some (.slice e))
    (hinfo : (P.info? e).map (fun i => (i.zero, i.size, i.bytes)) = some (some z, k, bytes)) (hz : z.cells.size = k) (hk : 0 < k) (hE : EncN enc k)
    (base : Nat) (v : Value) (l : List α) (y : α) (hs : a.eval s = v) (hown : OwnN enc k w base e v l) (hx : a.eval x = .slice (some ⟨w.heap.size, 0, none⟩) 1 1)
    (hlen : (l.length + 1) * bytes ≤ 140737488355328) (hlen2 : l.length + 1 ≤ maxLen) (hbase : base ≤ w.heap.size) (C : Array Value) (hC : C = (enc y).toArray)
    (h : ∀ v' w', OwnN enc k w' base e v' (l ++ [y]) → TurnN base w v w' v' → wpList P ops Q rest (a.put o.dst v') w') :
    wpList P ops Q (o :: rest) a (w.alloc (.cells C e)) := by
  subst hC
  refine append_el hgd s x t e z bytes ho ht hinfo hz hk hE base v l y w.heap.size hs hown hx (fun r u hu => ?_) ((Below.refl _ _).alloc (Nat.le_refl _) _) hlen hlen2 hbase h
  rw [cell_of_row _ _ _ _ _ _ (heap_alloc_new _ _), Nat.zero_add, List.getElem?_toArray]
  exact hu
end
end Go.Proofs.Ytiknfohadnjkiaa

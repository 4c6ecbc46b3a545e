/- Whatever came in of numbers, texts, truth values, lists and structs, each in each: what a walk is told of it, once for all types. Of no program. -/
import Derived.Test.YtiknfohadnjkiaaFrame
import Derived.Test.YtiknfohadnjkiaaGen
import Derived.Test.YtiknfohadnjkiaaOwnL
import Derived.Test.YtiknfohadnjkiaaRowN
import Derived.Deep.Slices
import Derived.Deep.Strs
set_option linter.unusedVariables false
namespace Go.Proofs.Ytiknfohadnjkiaa
open Go.ChangeShapes Go.WideShapes Go.ChangeAt Go.RowKit

/-- What a type is made of; a struct: its fields, one behind the other. -/
inductive Ty where
  | int
  | text
  | bool
  | list (t : Ty)
  | nil
  | cons (f r : Ty)
def Ty.cells : Ty → Nat
  | .int => 1
  | .text => 1
  | .bool => 1
  | .list _ => 1
  | .nil => 0
  | .cons f r => f.cells + r.cells
def Ty.fields : List Ty → Ty
  | [] => .nil
  | f :: r => .cons f (Ty.fields r)
/-- Such cells came in. -/
def TyIn (W : World) : Ty → List Value → Prop
  | .int, cs => ∃ n : Int, (-9223372036854775808 ≤ n ∧ n ≤ 9223372036854775807) ∧ cs = [.int .i64 n]
  | .text, cs => ∃ t : List UInt8, t.length ≤ 140737488351232 ∧ cs = [.string ⟨t.toArray⟩]
  | .bool, cs => ∃ b : Bool, cs = [.bool b]
  | .list u, cs => ∃ (a : Option Addr) (len cap : Nat), cs = [.slice a len cap] ∧ len ≤ cap ∧ len ≤ 140737488351232 ∧
      ∀ i, i < len → ∃ g o els, a = some ⟨g, o, none⟩ ∧ g < W.heap.size ∧ TyIn W u els ∧ ∀ (r : Nat) x, els[r]? = some x → W.cell? ⟨g, o + i * u.cells + r, none⟩ = some x
  | .nil, cs => cs = []
  | .cons f r, cs => ∃ a b, cs = a ++ b ∧ TyIn W f a ∧ TyIn W r b
/-- A type of the program is of such a form. -/
def TyFit (P : Program) : Ty → (TypeId → Prop) × (List Field → Nat → Prop)
  | .int => (fun t => P.underlying t = some (.int .i64), fun _ _ => False)
  | .text => (fun t => P.underlying t = some .string, fun _ _ => False)
  | .bool => (fun t => P.underlying t = some .bool, fun _ _ => False)
  | .list u => (fun t => ∃ e, P.underlying t = some (.slice e) ∧ P.cellsOf e = u.cells ∧ 1 ≤ u.cells ∧ 1 ≤ P.bytesOf e ∧ (TyFit P u).1 e, fun _ _ => False)
  | .nil => (fun t => ∃ fs, P.underlying t = some (.struct fs) ∧ P.cellsOf t = 0, fun fs _ => fs = [])
  | .cons f r => (fun t => ∃ fs, P.underlying t = some (.struct fs) ∧ P.cellsOf t = f.cells + r.cells ∧ ∃ h l, fs.toList = h :: l ∧ h.offset = 0 ∧ P.cellsOf h.type = f.cells ∧ (TyFit P f).1 h.type ∧ (TyFit P r).2 l f.cells,
      fun fs off => ∃ h l, fs = h :: l ∧ h.offset = off ∧ P.cellsOf h.type = f.cells ∧ (TyFit P f).1 h.type ∧ (TyFit P r).2 l (off + f.cells))
theorem TyIn.len {W : World} : ∀ {ty : Ty} {cs : List Value}, TyIn W ty cs → cs.length = ty.cells
  | .int, _, ⟨_, _, h⟩ => by rw [h]; rfl
  | .text, _, ⟨_, _, h⟩ => by rw [h]; rfl
  | .bool, _, ⟨_, h⟩ => by rw [h]; rfl
  | .list _, _, ⟨_, _, _, h, _⟩ => by rw [h]; rfl
  | .nil, _, h => by
    have h' : _ = [] := h
    rw [h']; rfl
  | .cons f r, _, ⟨a, b, h, h1, h2⟩ => by rw [h, List.length_append, h1.len, h2.len]; rfl
theorem mem_weightsO {H : Type} (P : Program) (e : TypeId) (d : DataW H) (n : Nat) (hn : n ∈ d.weights P e) : ∀ l : List (DataW H), d ∈ l → n ∈ DataW.weightsAll P e l
  | [], h => by simp at h
  | x :: r, h => by
    rw [DataW.weightsAll]
    rcases List.mem_cons.1 h with rfl | h
    · exact List.mem_append_left _ hn
    · exact List.mem_append_right _ (mem_weightsO P e d n hn r h)
section
variable {H : Type} {enc : TypeId × Value → H} {P : Program} {W : World}
theorem ty_open : ∀ (ty : Ty),
    (∀ (t : TypeId) (fuel : Nat) (cs : List Value) (x : DataW H × List MemPlace), (TyFit P ty).1 t → DataW.trod enc P W 0 (fun _ => true) true fuel t cs = some x → (∀ n ∈ x.1.weights P t, n ≤ reachBytes) → (∀ y ∈ x.2, y.block < W.heap.size) → TyIn W ty cs) ∧
    (∀ (fs : List Field) (off : Nat) (cs : List Value) (xs : List (DataW H × List MemPlace)) (n : Nat), (TyFit P ty).2 fs off → cs.length = off + ty.cells → xs.length = fs.length →
      (∀ (i : Nat) (f : Field), fs[i]? = some f → DataW.trod enc P W 0 (fun _ => true) true n f.type ((cs.drop f.offset).take (P.cellsOf f.type)) = xs[i]?) →
      (∀ (i : Nat) (f : Field) (y : DataW H × List MemPlace), fs[i]? = some f → xs[i]? = some y → (∀ n ∈ y.1.weights P f.type, n ≤ reachBytes) ∧ ∀ q ∈ y.2, q.block < W.heap.size) → TyIn W ty (cs.drop off)) := by
  intro ty
  induction ty with
  | int =>
    refine ⟨fun t fuel cs x ht h _ _ => ?_, fun _ _ _ _ _ h => h.elim⟩
    obtain ⟨n, e, _, hw⟩ := DataW.trod_int ht h
    exact ⟨n, bounds_i64 hw, e⟩
  | text =>
    refine ⟨fun t fuel cs x ht h hw _ => ?_, fun _ _ _ _ _ h => h.elim⟩
    obtain ⟨s, e, d, _⟩ := DataW.trod_string ht h
    have := hw s.data.toList.length (by rw [d]; simp [DataW.weights])
    simp only [reachBytes] at this
    exact ⟨s.data.toList, this, by rw [e]⟩
  | bool =>
    refine ⟨fun t fuel cs x ht h _ _ => ?_, fun _ _ _ _ _ h => h.elim⟩
    obtain ⟨b, e, _⟩ := DataW.trod_bool ht h
    exact ⟨b, e⟩
  | nil =>
    refine ⟨fun t fuel cs x ht h _ _ => ?_, fun fs off cs xs n _ hl _ _ _ => ?_⟩
    · obtain ⟨fs, h1, h2⟩ := ht
      obtain ⟨xs, n, _, _, hl, _⟩ := DataW.trod_struct h1 h
      rw [h2] at hl
      exact List.eq_nil_of_length_eq_zero hl
    · exact List.drop_eq_nil_of_le (by rw [hl]; exact Nat.le_refl _)
  | cons f r ihf ihr =>
    have B : ∀ (h : Field) (l : List Field) (off : Nat) (cs : List Value) (xs : List (DataW H × List MemPlace)) (n : Nat), h.offset = off → P.cellsOf h.type = f.cells → (TyFit P f).1 h.type → (TyFit P r).2 l (off + f.cells) → cs.length = off + (f.cells + r.cells) → xs.length = (h :: l).length →
        (∀ (i : Nat) (g : Field), (h :: l)[i]? = some g → DataW.trod enc P W 0 (fun _ => true) true n g.type ((cs.drop g.offset).take (P.cellsOf g.type)) = xs[i]?) →
        (∀ (i : Nat) (g : Field) (y : DataW H × List MemPlace), (h :: l)[i]? = some g → xs[i]? = some y → (∀ n ∈ y.1.weights P g.type, n ≤ reachBytes) ∧ ∀ q ∈ y.2, q.block < W.heap.size) → TyIn W (.cons f r) (cs.drop off) := by
      intro h l off cs xs n h1 h2 h3 h4 hl hx ht hw
      match xs, hx with
      | y :: ys, hx =>
        have k0 := ht 0 h rfl
        rw [h1, h2] at k0
        obtain ⟨w1, w2⟩ := hw 0 h y rfl rfl
        have a0 := ihf.1 h.type n _ y h3 k0 w1 w2
        have b0 := ihr.2 l (off + f.cells) cs ys n h4 (by omega) (by simpa using hx) (fun i g hg => ht (i + 1) g hg) (fun i g z hg hz => hw (i + 1) g z hg hz)
        refine ⟨(cs.drop off).take f.cells, cs.drop (off + f.cells), ?_, a0, b0⟩
        rw [← List.drop_drop, List.take_append_drop]
    refine ⟨fun t fuel cs x ht hx hw hp => ?_, fun fs off cs xs n ht hl hxl hx hw => ?_⟩
    · obtain ⟨fs, h1, h2, h, l, e, h3, h4, h5, h6⟩ := ht
      obtain ⟨xs, n, _, ex, hl, hxl, hf⟩ := DataW.trod_struct h1 hx
      subst ex
      have hfl : ∀ (i : Nat) (g : Field), (h :: l)[i]? = some g → fs[i]? = some g := fun i g hg => by rw [← e] at hg; simpa using hg
      have := B h l 0 cs xs n h3 h4 h5 (by rw [Nat.zero_add]; exact h6) (by rw [hl, h2, Nat.zero_add]) (by rw [hxl, ← e]; simp) (fun i g hg => hf i g (hfl i g hg)) (fun i g y hg hy => by
        refine ⟨fun m hm => hw m ?_, fun q hq => hp q (List.mem_flatMap.2 ⟨y, List.mem_of_getElem? hy, hq⟩)⟩
        show m ∈ DataW.weights P t (.agg (xs.map (·.1)))
        rw [DataW.weights, h1]
        refine DataW.weights_mem_each (j := i) (t := g.type) (d := y.1) ?_ ?_ m hm
        · rw [List.getElem?_map, e, hg]; rfl
        · rw [List.getElem?_map, hy]; rfl)
      rwa [List.drop_zero] at this
    · obtain ⟨h, l, rfl, h1, h2, h3, h4⟩ := ht
      exact B h l off cs xs n h1 h2 h3 h4 hl hxl hx hw
  | list u ih =>
    refine ⟨fun t fuel cs x ht h hw hp => ?_, fun _ _ _ _ _ h => h.elim⟩
    obtain ⟨e, h1, h2, h3, h4, h5⟩ := ht
    rcases Deep.open_slice h1 h with ⟨hcc, _⟩ | ⟨a, len, cap, m, n, D, Pl, hcc, _, hl, hm, hmm, hx, hel⟩
    · exact ⟨none, 0, 0, hcc, Nat.le_refl _, Nat.zero_le _, fun i hi => absurd hi (by omega)⟩
    · subst hx
      simp only [if_true] at hmm
      subst hmm
      have hlen : len ≤ 140737488351232 := by
        have := hw ((len + (m - len)) * P.bytesOf e) (by rw [DataW.weights, h1]; simp)
        simp only [reachBytes] at this
        have h6 : len * 1 ≤ (len + (m - len)) * P.bytesOf e := Nat.mul_le_mul (by omega) h4
        omega
      refine ⟨some a, len, m, hcc, hl, hlen, fun i hi => ?_⟩
      have hspot : a.spot = none := by
        obtain ⟨cs0, hc0, _⟩ := hel 0 (by omega)
        obtain ⟨_, hl0, hg0⟩ := World.cells?_some hc0
        rw [h2] at hl0
        have k0 := hg0 0 (by rw [h2]; omega)
        rw [List.getElem?_eq_getElem (by omega)] at k0
        have := World.cell?_spot k0
        simpa [Addr.add] using this
      obtain ⟨b, off, spot⟩ := a
      simp only at hspot
      subst hspot
      have plain : ∀ o j : Nat, (⟨b, o, none⟩ : Addr).add j = ⟨b, o + j, none⟩ := fun o j => by unfold Addr.add; split <;> simp_all
      obtain ⟨cs', hc1, hc2⟩ := hel i (by omega)
      obtain ⟨_, hl1, hg1⟩ := World.cells?_some hc1
      rw [h2] at hl1 hg1
      have hmem : D i ∈ (List.range len).map D := List.mem_map.2 ⟨i, List.mem_range.2 hi, rfl⟩
      have hin := ih.1 e n cs' _ h5 hc2 (fun k hk => hw k (by
        rw [DataW.weights, h1]
        exact List.mem_cons_of_mem _ (List.mem_append_left _ (mem_weightsO P e _ _ hk _ hmem)))) (fun y hy => hp y (List.mem_append_right _ (List.mem_flatMap.2 ⟨i, List.mem_range.2 (by omega), hy⟩)))
      have hcell : ∀ (r : Nat) x, cs'[r]? = some x → W.cell? ⟨b, off + i * u.cells + r, none⟩ = some x := fun r x hr => by
        have hrl : r < u.cells := by rw [← hl1]; exact (List.getElem?_eq_some_iff.1 hr).1
        have := hg1 r hrl
        rw [plain, plain, hr] at this
        exact this
      refine ⟨b, off, cs', rfl, ?_, hin, hcell⟩
      have h0 := hcell 0 cs'[0] (List.getElem?_eq_getElem (by omega))
      exact World.block_lt_of_cell? W _ h0
/-- A list that came in, as a list of one's own data. -/
theorem TyIn.rows {u : Ty} {α : Type} {en : α → List Value} {k : Nat} {Ok : α → Prop} (hk : u.cells = k) (hconv : ∀ els, TyIn W u els → ∃ x : α, Ok x ∧ els = en x) {v : Value} (h : TyIn W (.list u) [v]) : ∃ xs : List α, RowN en k (· < W.heap.size) W v xs ∧ (∀ x ∈ xs, Ok x) ∧ xs.length ≤ 140737488351232 := by
  obtain ⟨a, len, cap, e, hl, hb, hel⟩ := h
  injection e with e _
  subst e
  have key : ∀ n, n ≤ len → ∃ xs : List α, xs.length = n ∧ (∀ x ∈ xs, Ok x) ∧ ∀ i (hi : i < xs.length), ∃ g o, a = some ⟨g, o, none⟩ ∧ g < W.heap.size ∧ ElAt en W g (o + i * k) xs[i] := by
    intro n
    induction n with
    | zero => exact fun _ => ⟨[], rfl, fun x hx => (by cases hx), fun i hi => absurd hi (by simp)⟩
    | succ n ih =>
      intro hn
      obtain ⟨xs, h1, h2, h3⟩ := ih (by omega)
      obtain ⟨g, o, els, ha, hg, hin, hc⟩ := hel n (by omega)
      obtain ⟨x, hx, rfl⟩ := hconv els hin
      refine ⟨xs ++ [x], by rw [List.length_append, h1]; rfl, fun y hy => ?_, fun i hi => ?_⟩
      · rcases List.mem_append.1 hy with c | c
        · exact h2 y c
        · rw [List.mem_singleton.1 c]; exact hx
      · rcases Nat.lt_or_ge i xs.length with c | c
        · rw [List.getElem_append_left c]; exact h3 i c
        · have hin2 : i = xs.length := by rw [List.length_append] at hi; simp at hi; omega
          subst hin2
          rw [List.getElem_concat_length (by rfl), h1]
          exact ⟨g, o, ha, hg, fun r y hy => by rw [← hk]; exact hc r y hy⟩
  obtain ⟨xs, h1, h2, h3⟩ := key len (Nat.le_refl _)
  subst h1
  exact ⟨xs, ⟨a, cap, rfl, hl, h3⟩, h2, hb⟩
theorem arg_list {u : Ty} {t : TypeId} {v : Value} {d : DataW H} {ps : List MemPlace} {base : Nat} (hfit : (TyFit P (.list u)).1 t) (hval : Value.okWide P W .any base t v) (h : DataW.Trod enc P W 0 (fun _ => true) true t v d ps) (hw : ∀ n ∈ d.weights P t, n ≤ reachBytes) (hlt : ∀ x ∈ ps, x.block < W.heap.size) : TyIn W (.list u) [v] := by
  obtain ⟨e, h1, _⟩ := id hfit
  obtain ⟨a, len, cap, rfl⟩ := okWide_slice h1 hval
  obtain ⟨fuel, hfu⟩ := h
  exact (ty_open (.list u)).1 t fuel _ _ hfit hfu hw hlt
/-- A struct that came in by value. -/
theorem arg_struct {f r : Ty} {t : TypeId} {v : Value} {d : DataW H} {ps : List MemPlace} {base : Nat} (hfit : (TyFit P (.cons f r)).1 t) (hval : Value.okWide P W .any base t v) (h : DataW.Trod enc P W 0 (fun _ => true) true t v d ps) (hw : ∀ n ∈ d.weights P t, n ≤ reachBytes) (hlt : ∀ x ∈ ps, x.block < W.heap.size) : ∃ l : List Value, v = .agg l.toArray ∧ TyIn W (.cons f r) l := by
  obtain ⟨fs, h1, _⟩ := id hfit
  obtain ⟨cs, rfl, hsz⟩ := okWide_struct h1 hval
  obtain ⟨fuel, hfu⟩ := h
  exact ⟨cs.toList, rfl, (ty_open (.cons f r)).1 t fuel _ _ hfit hfu hw hlt⟩
end
end Go.Proofs.Ytiknfohadnjkiaa

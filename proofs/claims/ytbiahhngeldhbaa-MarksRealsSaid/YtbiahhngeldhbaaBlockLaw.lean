/- copy and clear on a block of 64 bytes, as laws for the walk. -/
import Derived.Test.YtbiahhngeldhbaaStTextW
import Derived.Laws.CopyRow
import Derived.Laws.IdiomCopy
import Derived.Lib.SliceRun
set_option linter.unusedVariables false
namespace Go.Proofs.Ytbiahhngeldhbaa
open Go.RowKit

theorem arrB_toList (l : List UInt8) : (arrB l).toList = cellsOf l := rfl
theorem cellsOf_take (l : List UInt8) (n : Nat) : (cellsOf l).take n = cellsOf (l.take n) := by simp [cellsOf, List.map_take]
theorem cellsOf_drop (l : List UInt8) (n : Nat) : (cellsOf l).drop n = cellsOf (l.drop n) := by simp [cellsOf, List.map_drop]
theorem cellsOf_one (l : List UInt8) : ∀ v ∈ cellsOf l, v.oneCell' = true := by
  intro v hv
  simp only [cellsOf, List.mem_map] at hv
  obtain ⟨b, _, rfl⟩ := hv
  rfl
theorem Kept.setRow {M : Nat → Prop} {a w : World} (h : Kept M a w) {g : Nat} (hg : M g) (cs : Array Value) : Kept M a (w.setRow g cs) :=
  h.trans ⟨rfl, rfl, rfl, by simp, fun k hk hm => setRow_other w g k cs (fun e => hm (e ▸ hg))⟩
theorem Kept.setCells {M : Nat → Prop} {a : World} {g : Nat} (hg : M g) : ∀ (vs : List Value) (o : Nat) (w : World), Kept M a w → Kept M a (w.setCells g o vs)
  | [], _, _, h => h
  | v :: r, o, w, h => Kept.setCells hg r (o + 1) _ (h.setCell (p := ⟨g, o, none⟩) hg v)
/-- Bytes set from a place on. -/
def setsB : List UInt8 → Nat → List UInt8 → List UInt8
  | l, _, [] => l
  | l, o, x :: r => setsB (l.set o x) (o + 1) r
theorem setsB_append (vs : List UInt8) : ∀ (a b : List UInt8), vs.length = b.length → setsB (a ++ b) a.length vs = a ++ vs := by
  induction vs with
  | nil => intro a b h; simp at h; have : b = [] := List.eq_nil_of_length_eq_zero h.symm; subst this; simp [setsB]
  | cons x r ih =>
    intro a b h
    match b, h with
    | y :: b', h =>
      rw [setsB, List.set_append_right _ _ (Nat.le_refl _), Nat.sub_self, List.set_cons_zero]
      have := ih (a ++ [x]) b' (by simpa using h)
      simp only [List.length_append, List.length_cons, List.length_nil, Nat.zero_add, List.append_assoc, List.cons_append, List.nil_append] at this
      exact this
theorem BlockAt.setCells {g : Nat} : ∀ (vs : List UInt8) (o : Nat) (l : List UInt8) (w : World), BlockAt w g l → BlockAt (w.setCells g o (cellsOf vs)) g (setsB l o vs)
  | [], _, _, _, h => h
  | x :: r, o, l, w, h => by
    refine BlockAt.setCells r (o + 1) (l.set o x) _ ?_
    unfold BlockAt
    rw [← arrB_set]
    exact heap_setCell_same w g o _ _ _ h
theorem cellsOf_zeros (n : Nat) : cellsOf (List.replicate n 0) = List.replicate n (Value.int .u8 0) := by
  unfold cellsOf; rw [List.map_replicate]; rfl

theorem u8_size : (Try.prog.info? 5).map (·.size) = some 1 := by kernel_rfl
theorem u8_zero (w : World) : (zeroValue 5).run Try.prog w = .ok (.int .u8 0) w := by kernel_rfl

/-- 'copy(block[:], l)': as many bytes as there are, at most 64. -/
theorem run_copy_block (w : World) (ty : TypeId) (g cap : Nat) (old l : List UInt8) (hold : old.length = 64) (hb : BlockAt w g old) :
    (Builtin.copy_ #[49, 9] ty #[.slice (some ⟨g, 0, none⟩) 64 cap, .string ⟨l.toArray⟩]).run Try.prog w =
      .ok (goInt ((Nat.min l.length 64 : Nat) : Int)) (w.setRow g (arrB (l.take 64 ++ old.drop (min l.length 64)))) := by
  have hsz : (⟨l.toArray⟩ : ByteArray).size = l.length := rfl
  have hlen : (cellsOf (l.take 64)).length = min l.length 64 := by rw [cellsOf_length, List.length_take, Nat.min_comm]
  have hst := run_storeCells_at Try.prog g 0 68 (cellsOf (l.take 64)) 0 (arrB old) w hb (by rw [hlen]; simp [arrB, cellsOf_length, hold]; omega) (cellsOf_one _)
  rw [hlen] at hst
  simp only [Nat.zero_add, List.take_zero, List.nil_append, arrB_toList, cellsOf_drop] at hst
  have htk : List.take (Nat.min l.length 64) (List.map (fun b : UInt8 => Value.int IntKind.u8 (b.toNat : Int)) l) = cellsOf (l.take 64) := by
    rw [show (List.map (fun b : UInt8 => Value.int IntKind.u8 (b.toNat : Int)) l) = cellsOf l from rfl, cellsOf_take]
    congr 1
    by_cases h : l.length ≤ 64
    · rw [List.take_of_length_le (Nat.le_of_eq (Nat.min_eq_left h).symm), List.take_of_length_le h]
    · rw [show Nat.min l.length 64 = 64 from Nat.min_eq_right (by omega)]
  cases hq : Try.prog.info? 5 with
  | none => have := u8_size; simp [hq] at this
  | some i =>
    have hi : i.size = 1 := by have := u8_size; simpa [hq] using this
    simp [Builtin.copy_, run_underlying Try.underlying49, Builtin.lenOf, Builtin.firstCells, sizeOf, typeInfo, hq, hi, hsz]
    rw [htk, hst]
    simp only [Result.andThen]
    rw [show arrB (List.take 64 l ++ List.drop (min l.length 64) old) = (cellsOf (List.take 64 l) ++ cellsOf (List.drop (min l.length 64) old)).toArray by rw [← cellsOf_append]; rfl]

theorem wpList_copy_block {w : World} {ops : Array Oper} {rest : List Oper} {o : Oper} {a : Act} {Q : Exit → Act → World → Prop} (hgd : o.guard = none) (d s : Operand)
    (ho : o.op = .call { callee := .builtin .copy, args := #[d, s], argTypes := #[49, 9] }) (g cap : Nat) (old l : List UInt8) (hold : old.length = 64) (hd : a.eval d = .slice (some ⟨g, 0, none⟩) 64 cap) (hs : a.eval s = .string ⟨l.toArray⟩) (hb : BlockAt w g old)
    (n : Nat) (hn : Nat.min l.length 64 = n) (h : ∀ w', BlockAt w' g (l.take 64 ++ old.drop n) → Kept (· = g) w w' → wpList Try.prog ops Q rest (a.put o.dst (.int .i64 (n : Int))) w') : wpList Try.prog ops Q (o :: rest) a w := by
  refine wpList_plain hgd fun K hK => ?_
  subst hn
  have hr := run_copy_block w o.type g cap old l hold hb
  unfold Oper.wp execOp
  simp only [ho, resolve, invoke, builtin, Sem.run_bind, Sem.run_pure, Result.andThen_ok, List.map_toArray, List.map_cons, List.map_nil, hd, hs, hr]
  exact hK _ _ (h _ (setRow_heap _ _ _ _ _ _ hb) (Kept.setRow (M := (· = g)) (Kept.refl _ _) rfl _))

/-- 'clear(block[n:])'. -/
theorem wpList_clear_block {w : World} {ops : Array Oper} {rest : List Oper} {o : Oper} {a : Act} {Q : Exit → Act → World → Prop} (hgd : o.guard = none) (s : Operand)
    (ho : o.op = .call { callee := .builtin .clear, args := #[s], argTypes := #[49] }) (g n c : Nat) (x y : List UInt8) (hx : x.length = n) (hy : y.length = 64 - n) (hn : n < 64) (hs : a.eval s = .slice (some ⟨g, n, none⟩) (64 - n) c) (hb : BlockAt w g (x ++ y))
    (h : ∀ w', BlockAt w' g (x ++ List.replicate (64 - n) 0) → Kept (· = g) w w' → wpList Try.prog ops Q rest (a.put o.dst (.tuple #[])) w') : wpList Try.prog ops Q (o :: rest) a w := by
  refine wpList_plain hgd fun K hK => ?_
  have hr := Lib.run_clear_slice (P := Try.prog) w 49 5 o.type (.int .u8 0) Try.underlying49 u8_zero rfl rfl g n (64 - n) c (by omega)
    (fun j hj => by rw [hb.at' (n + j) (by rw [List.length_append]; omega)]; rfl) (fun j hj => frozen_of_row w g (n + j) _ _ hb)
  rw [← cellsOf_zeros] at hr
  have hb2 := BlockAt.setCells (List.replicate (64 - n) 0) n (x ++ y) w hb
  subst hx
  rw [setsB_append _ x y (by simp [hy])] at hb2
  unfold Oper.wp execOp
  simp only [ho, resolve, invoke, builtin, Sem.run_bind, Sem.run_pure, Result.andThen_ok, List.map_toArray, List.map_cons, List.map_nil, hs, hr]
  exact hK _ _ (h _ hb2 (Kept.setCells (M := (· = g)) rfl _ _ _ (Kept.refl _ _)))

theorem clear_block_ex (w : World) (g n c : Nat) (x y : List UInt8) (hx : x.length = n) (hy : y.length = 64 - n) (hn : n < 64) (hb : BlockAt w g (x ++ y)) :
    ∃ w', (∀ ty, (Builtin.clear_ #[49] ty #[.slice (some ⟨g, n, none⟩) (64 - n) c]).run Try.prog w = .ok (.tuple #[]) w') ∧ BlockAt w' g (x ++ List.replicate (64 - n) 0) ∧ Kept (· = g) w w' := by
  have hr := fun ty => Lib.run_clear_slice (P := Try.prog) w 49 5 ty (.int .u8 0) Try.underlying49 u8_zero rfl rfl g n (64 - n) c (by omega)
    (fun j hj => by rw [hb.at' (n + j) (by rw [List.length_append]; omega)]; rfl) (fun j hj => frozen_of_row w g (n + j) _ _ hb)
  rw [← cellsOf_zeros] at hr
  have hb2 := BlockAt.setCells (List.replicate (64 - n) 0) n (x ++ y) w hb
  subst hx
  rw [setsB_append _ x y (by simp [hy])] at hb2
  exact ⟨_, hr, hb2, Kept.setCells (M := (· = g)) rfl _ _ _ (Kept.refl _ _)⟩

theorem clear_all_ex (w : World) (g c : Nat) (y : List UInt8) (hy : y.length = 64) (hb : BlockAt w g y) :
    ∃ w', (∀ ty, (Builtin.clear_ #[49] ty #[.slice (some ⟨g, 0, none⟩) 64 c]).run Try.prog w = .ok (.tuple #[]) w') ∧ BlockAt w' g (List.replicate 56 0 ++ List.replicate 8 0) ∧ Kept (· = g) w w' := by
  obtain ⟨w', h1, h2, h3⟩ := clear_block_ex w g 0 c [] y rfl (by rw [hy]) (by decide) hb
  refine ⟨w', h1, ?_, h3⟩
  rw [List.replicate_append_replicate]
  exact h2
end Go.Proofs.Ytbiahhngeldhbaa

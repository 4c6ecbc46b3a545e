/- Stage 13's laws: a call of both boxes. -/
import Derived.Test.YtiknfohadnjkiaaBoxC
import Derived.Test.YtiknfohadnjkiaaChunkAwakeW
import Derived.Test.YtiknfohadnjkiaaChunkMath
import Derived.Test.YtiknfohadnjkiaaFrame
import Derived.Test.YtiknfohadnjkiaaGen
import Derived.Test.YtiknfohadnjkiaaOwnL
import Derived.Test.YtiknfohadnjkiaaOwnPut
import Derived.Test.YtiknfohadnjkiaaRefBoxW
import Derived.Test.YtiknfohadnjkiaaRowN
import Derived.Test.YtiknfohadnjkiaaRows
import Derived.BigQuiet
import Derived.Deep.QuietTactic
import Derived.Deep.RegionHeld3
import Derived.Lib.Hide
import Derived.Outline
import Derived.WalkKit
import Derived.WalkLawsBesides
import Derived.WalkSpells
set_option linter.unusedVariables false
namespace Go.Proofs.Ytiknfohadnjkiaa
open Go.RowKit

def encPd (x : Bool × List UInt8) : List Value := [.bool x.1, .string ⟨x.2.toArray⟩]
theorem encPd_ok : EncN encPd 2 := ⟨fun _ => rfl, fun x u hu => by simp [encPd] at hu; rcases hu with rfl | rfl <;> rfl⟩
def pairP (o : Option (List UInt8)) : Bool × List UInt8 := (o.isSome, o.getD [])
theorem own_pairs {w : World} {base : Nat} {e : TypeId} {v : Value} {st : BoxS} : OwnN encPc 2 w base e v st ↔ OwnN encPd 2 w base e v (st.map pairP) := by
  unfold OwnN flatN
  rw [List.length_map, List.map_map]
  exact Iff.rfl
/-- A place that is cleared. -/
theorem DocB.wipe {w : World} {base q g c : Nat} {st : BoxS} (h : DocB w base q g c st) {i : Nat} (hi : i < st.length) (ha : (allB (st.set i none)).length ≤ 524288) :
    DocB ((w.setCell ⟨g, i * 2, none⟩ (.bool false)).setCell ⟨g, i * 2 + 1, none⟩ (.string ⟨#[]⟩)) base q g c (st.set i none) ∧ Kept (· = g) w ((w.setCell ⟨g, i * 2, none⟩ (.bool false)).setCell ⟨g, i * 2 + 1, none⟩ (.string ⟨#[]⟩)) := by
  have h1 := own_pairs.1 h.own
  obtain ⟨a1, a2⟩ := OwnN.putB encPd_ok h1 i 0 (.bool false) (false, st[i].getD []) (by rw [List.length_map]; exact hi) (by decide) (by rw [List.getElem_map]; rfl)
  obtain ⟨b1, b2⟩ := OwnN.putB encPd_ok a1 i 1 (.string ⟨#[]⟩) (false, []) (by rw [List.length_set, List.length_map]; exact hi) (by decide) (by rw [List.getElem_set, if_pos rfl]; rfl)
  rw [List.set_set] at b1
  rw [Nat.add_zero] at a1 a2 b1 b2
  have kk := a2.trans b2
  have hl : (st.set i none).length = st.length := List.length_set
  refine ⟨⟨by rw [hl]; exact kk.old h.box h.ne, ?_, h.ne, h.qb, by rw [hl]; exact h.len, ha⟩, kk⟩
  rw [hl]
  refine own_pairs.2 ?_
  rw [List.map_set]
  exact b1
structure OpC where
  kind : Int
  n : Int
  part : PartD
def encOc (o : OpC) : List Value := [.int .i64 o.kind, .int .i64 o.n, .int .i64 o.part.at', .int .i64 o.part.of', .string ⟨o.part.text.toArray⟩]
theorem encOc_ok : EncN encOc 5 := ⟨fun _ => rfl, fun x u hu => by simp [encOc] at hu; rcases hu with rfl | rfl | rfl | rfl | rfl <;> rfl⟩
structure OpOk (o : OpC) : Prop where
  k : I64 o.kind
  n : I64 o.n
  p : PartOk o.part
def opV (o : OpC) : Value := .agg #[.int .i64 o.kind, .int .i64 o.n, .int .i64 o.part.at', .int .i64 o.part.of', .string ⟨o.part.text.toArray⟩]
/-- What a call makes of a box. -/
def stepB (st : BoxS) (o : OpC) : BoxS := if o.kind = 0 then putB' st (shortP o.part) else if o.kind = 1 ∨ o.kind = 2 then st else List.replicate st.length none
theorem stepB_len (st : BoxS) (o : OpC) : (stepB st o).length = st.length := by
  unfold stepB
  split
  · exact putB'_len _ _
  · split
    · rfl
    · exact List.length_replicate
theorem Kept.beyond1 {w a b : World} {M N : Nat → Prop} (h : Kept M w a) (k : Kept N a b) (hn : ∀ i, i < w.heap.size → N i → M i) : Kept M w b :=
  ⟨k.os.trans h.os, k.tape.trans h.tape, k.output.trans h.output, Nat.le_trans h.size k.size, fun i hi hm => (k.block i (Nat.lt_of_lt_of_le hi h.size) (fun n => hm (hn i hi n))).trans (h.block i hi hm)⟩
/-- Both boxes, and the call's own copy. -/
structure SSt (BX : World → Nat → (Nat → Prop) → BoxS → Prop) (w0 W : World) (b : Nat) (N0 N : Nat → Prop) (base q g c nb : Nat) (s1 s2 : BoxS) (o : OpC) : Prop where
  bx : BX W b N s1
  doc : DocB W base q g c s2
  op : W.heap[nb]? = some (.cells #[.int .i64 o.kind, .int .i64 o.n, .int .i64 o.part.at', .int .i64 o.part.of', .string ⟨o.part.text.toArray⟩] 42 (0, 0))
  nw : ∀ i, N i → N0 i ∨ w0.heap.size ≤ i
  nq : ¬ N q
  ng : ¬ N g
  no : ¬ N nb
  qo : q ≠ nb
  go : g ≠ nb
  kp : Kept (fun i => N0 i ∨ i = g) w0 W
theorem SSt.new {BX : World → Nat → (Nat → Prop) → BoxS → Prop} (BC : BoxC BX) {w0 W W' : World} {b : Nat} {N0 N : Nat → Prop} {base q g c nb : Nat} {s1 s2 : BoxS} {o : OpC} (h : SSt BX w0 W b N0 N base q g c nb s1 s2 o) (hb : Below W.heap.size W W') : SSt BX w0 W' b N0 N base q g c nb s1 s2 o :=
  ⟨BC.kept h.bx (Kept.new hb (fun _ => False)) (fun _ _ h => h), h.doc.new hb, (Kept.new hb (fun _ => False)).old h.op id, h.nw, h.nq, h.ng, h.no, h.qo, h.go, h.kp.trans (Kept.new hb _)⟩
theorem SSt.put {BX : World → Nat → (Nat → Prop) → BoxS → Prop} (BC : BoxC BX) {w0 W W' : World} {b : Nat} {N0 N N' : Nat → Prop} {base q g c nb : Nat} {s1 s1' s2 : BoxS} {o : OpC} (h : SSt BX w0 W b N0 N base q g c nb s1 s2 o) (hx : BX W' b N' s1') (hn : ∀ i, N' i → N i ∨ W.heap.size ≤ i) (hk : Kept N W W') : SSt BX w0 W' b N0 N' base q g c nb s1' s2 o := by
  have hs := h.kp.size
  have hl := h.doc.lt
  have hnb : nb < W.heap.size := (Array.getElem?_eq_some_iff.1 h.op).1
  refine ⟨hx, h.doc.kept hk h.nq h.ng, hk.old h.op h.no, fun i hi => ?_, fun c => ?_, fun c => ?_, fun c => ?_, h.qo, h.go, ?_⟩
  · rcases hn i hi with k | k
    · exact h.nw i k
    · exact .inr (by omega)
  · rcases hn _ c with k | k
    · exact h.nq k
    · omega
  · rcases hn _ c with k | k
    · exact h.ng k
    · omega
  · rcases hn _ c with k | k
    · exact h.no k
    · omega
  · exact h.kp.beyond1 hk (fun i hi hN => (h.nw i hN).elim .inl (fun k => absurd k (by omega)))
theorem SSt.docPut {BX : World → Nat → (Nat → Prop) → BoxS → Prop} (BC : BoxC BX) {w0 W W' : World} {b : Nat} {N0 N : Nat → Prop} {base q g c nb : Nat} {s1 s2 s2' : BoxS} {o : OpC} (h : SSt BX w0 W b N0 N base q g c nb s1 s2 o) (hd : DocB W' base q g c s2') (hk : Kept (· = g) W W') : SSt BX w0 W' b N0 N base q g c nb s1 s2' o :=
  ⟨BC.kept h.bx hk (fun i hi e => h.ng (by have : i = g := e; rw [← this]; exact hi)), hd, hk.old h.op (fun e => h.go e.symm), h.nw, h.nq, h.ng, h.no, h.qo, h.go, h.kp.trans (hk.mono (fun i _ e => .inr e))⟩
theorem SSt.c2 {BX : World → Nat → (Nat → Prop) → BoxS → Prop} {w0 W : World} {b : Nat} {N0 N : Nat → Prop} {base q g c nb : Nat} {s1 s2 : BoxS} {o : OpC} (h : SSt BX w0 W b N0 N base q g c nb s1 s2 o) : W.cell? ⟨nb, 0, none⟩ = some (.int .i64 o.kind) ∧ W.cell? ⟨nb, 1, none⟩ = some (.int .i64 o.n) ∧ W.cell? ⟨nb, 2, none⟩ = some (.int .i64 o.part.at') ∧ W.cell? ⟨nb, 3, none⟩ = some (.int .i64 o.part.of') ∧ W.cell? ⟨nb, 4, none⟩ = some (.string ⟨o.part.text.toArray⟩) := by
  refine ⟨?_, ?_, ?_, ?_, ?_⟩
  all_goals rw [cell_of_row _ _ _ _ _ _ h.op]; rfl
end Go.Proofs.Ytiknfohadnjkiaa

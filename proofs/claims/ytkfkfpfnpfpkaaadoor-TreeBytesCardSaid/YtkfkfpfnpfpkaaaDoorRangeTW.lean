/- A range over the library's SplitSeq at a slash: the pieces come to the body one by one. -/
import Derived.Test.YtkfkfpfnpfpkaaaDoorFrame
import Derived.Test.YtkfkfpfnpfpkaaaDoorGen
import Derived.Test.YtkfkfpfnpfpkaaaDoorMarkMath
import Derived.Test.YtkfkfpfnpfpkaaaDoorOwnL
import Derived.Test.YtkfkfpfnpfpkaaaDoorPiecesW
import Derived.Test.YtkfkfpfnpfpkaaaDoorProg
import Derived.Test.YtkfkfpfnpfpkaaaDoorReadMath
import Derived.Test.YtkfkfpfnpfpkaaaDoorReadW
import Derived.Test.YtkfkfpfnpfpkaaaDoorRowN
import Derived.Test.YtkfkfpfnpfpkaaaDoorRows
import Derived.Test.YtkfkfpfnpfpkaaaDoorShelf
import Derived.Test.YtkfkfpfnpfpkaaaDoorTreeMath
import Derived.BigQuiet
import Derived.Lib.Hide
import Derived.WalkKit
import Derived.WalkLawsBesides
import Derived.WalkSpells
set_option linter.unusedVariables false
namespace Go.Proofs.YtkfkfpfnpfpkaaaDoor
open Go.RowKit
attribute [local go_sem] Oper.semAt_some

theorem Kept.putObj {M : Nat → Prop} {a w : World} (h : Kept M a w) {l : Nat} (hl : M l) (o : Obj) : Kept M a (w.putObj l o) :=
  h.trans ⟨rfl, rfl, rfl, by simp, fun k _ hm => World.putObj_heap_other (fun e => hm (e ▸ hl))⟩
set_option maxHeartbeats 1000000 in
theorem wp_pieces {g : Operand} {p : Tmp} {assign body : Code} {Q : Exit → Act → World → Prop} {a : Act} {w : World} (bp bs bv R : Nat) (s : Txt) (hs : s.length ≤ 140737488351232)
    (hg : a.eval g = .func (.func 117) #[] #[.pointer (some ⟨bp, 0, none⟩), .pointer (some ⟨bs, 0, none⟩), .pointer (some ⟨bv, 0, none⟩)])
    (hPB : PB w bp bs bv s) (h1 : bp < w.heap.size) (h2 : bs < w.heap.size) (h3 : bv < w.heap.size) (h4 : bp ≠ bs) (h5 : bv ≠ bs) (hR : R < w.heap.size)
    (I : Nat → World → Prop) (Ix : World → Prop) (hI : ∀ k W W', I k W → Kept (fun b => b = bs ∨ w.heap.size ≤ b) W W' → I k W') (hIx : ∀ W W', Ix W → Kept (fun b => b = bs ∨ w.heap.size ≤ b) W W' → Ix W')
    (h0 : I 0 w) (a₁ : Txt → Act)
    (hassign : ∀ (l : Nat) (x : Txt) (W : World) (K : Act → World → Prop), K (a₁ x) W →
      assign.wpIn (Fence.wide.inRound l) 1 Tryd.prog (Exit.then K (fun _ _ _ => False)) { tmps := a.tmps.setIfInBounds p (.string ⟨x.toArray⟩), defers := [] } W)
    (hbody : ∀ (l k : Nat) (hk : k < (namesS s).length) (W : World), I k W → body.wpIn (Fence.wide.inRound l) 1 Tryd.prog (fun e _ W' => match e with
      | .normal => Below W.heap.size W W' ∧ I (k + 1) W'
      | .ret => Kept (· = R) W W' ∧ Ix W'
      | _ => False) (a₁ (namesS s)[k]) W)
    (hdone : ∀ (D : Nat) (W : World), w.heap.size ≤ D → I (namesS s).length W → W.heap[D]? = some (.deferred (some [])) → Q .normal { a with defers := { target := .collected D, args := #[] } :: a.defers } W)
    (hstop : ∀ (D : Nat) (W : World), w.heap.size ≤ D → Ix W → W.heap[D]? = some (.deferred (some [])) → Code.ret.wpIn Fence.wide 3 Tryd.prog Q { a with defers := { target := .collected D, args := #[] } :: a.defers } W) :
    (Code.rangeFunc g #[p] assign body).wpIn Fence.wide 3 Tryd.prog Q a w := by
  refine wpIn_rangeFunc ?_
  intro fn hfn
  obtain ⟨r0, hr0⟩ : ∃ r0 : Loop, r0 = { state := .ready, pending := none, fn, tmps := a.tmps, params := #[p], assign, body, defers := w.heap.size } := ⟨_, rfl⟩
  obtain ⟨W1, hW1⟩ : ∃ W1, (w.alloc (.deferred (some []))).alloc (.loop r0) = W1 := ⟨_, rfl⟩
  have hL1 : W1.heap[w.heap.size + 1]? = some (.loop r0) := by
    rw [← hW1]
    have h := World.alloc_heap_new (w.alloc (.deferred (some []))) (.loop r0)
    rwa [World.size_alloc] at h
  have hD1 : W1.heap[w.heap.size]? = some (.deferred (some [])) := by
    rw [← hW1]
    exact (Below.heap_alloc _ _ _ (by simp)).trans (World.alloc_heap_new w _)
  have hb1 : Below w.heap.size w W1 := by rw [← hW1]; exact ((Below.refl _ w).alloc (Nat.le_refl _) _).alloc (by simp) _
  have hk1 : Kept (fun b => b = bs ∨ w.heap.size ≤ b) w W1 := (Kept.of_below hb1).mono (fun k _ h => .inr h)
  refine ⟨w.heap.size + 1, [{ target := .collected w.heap.size, args := #[] }], W1, { target := .fn (.func 117) #[.pointer (some ⟨bp, 0, none⟩), .pointer (some ⟨bs, 0, none⟩), .pointer (some ⟨bv, 0, none⟩)], args := #[.func (.yield (w.heap.size + 1)) #[] #[]] }, W1, 117,
    #[.func (.yield (w.heap.size + 1)) #[] #[]] ++ #[.pointer (some ⟨bp, 0, none⟩), .pointer (some ⟨bs, 0, none⟩), .pointer (some ⟨bv, 0, none⟩)], W1, ?_, ?_, fun _ _ => trivial, ?_, fun h => by simp [Fence.wide] at h, ?_⟩
  · rw [← hW1, hr0]; exact run_enterLoop_outer _ _ _ _ _
  · simp only [resolve, hg]
    simp [go_sem]
  · simp [invoke, go_sem, enters_of Tryd.func117 (by kernel_rfl) rfl]
  · have hloop : ∀ (W : World) (r : Loop) (o : Obj), W.heap[w.heap.size + 1]? = some (.loop r) → W.heap[w.heap.size]? = some (.deferred (some [])) →
        (W.putObj (w.heap.size + 1) o).heap[w.heap.size + 1]? = some o ∧ (W.putObj (w.heap.size + 1) o).heap[w.heap.size]? = some (.deferred (some [])) ∧ Kept (fun b => b = bs ∨ w.heap.size ≤ b) W (W.putObj (w.heap.size + 1) o) :=
      fun W r o hl hd => ⟨World.putObj_heap_same (Array.getElem?_eq_some_iff.1 hl).1, (World.putObj_heap_other (by omega)).trans hd, (Kept.refl _ W).putObj (.inr (by omega)) o⟩
    have hloop' : ∀ (W : World) (o : Obj), w.heap.size + 1 < W.heap.size → W.heap[w.heap.size]? = some (.deferred (some [])) →
        (W.putObj (w.heap.size + 1) o).heap[w.heap.size + 1]? = some o ∧ (W.putObj (w.heap.size + 1) o).heap[w.heap.size]? = some (.deferred (some [])) ∧ Kept (fun b => b = bs ∨ w.heap.size ≤ b) W (W.putObj (w.heap.size + 1) o) :=
      fun W o hl hd => ⟨World.putObj_heap_same hl, (World.putObj_heap_other (by omega)).trans hd, (Kept.refl _ W).putObj (.inr (by omega)) o⟩
    refine (pieces_in (w.heap.size + 1) bp bs bv w.heap.size h1 h2 h3 h4 h5 s (namesS s) rfl hs
      (fun k W => I k W ∧ W.heap[w.heap.size + 1]? = some (.loop r0) ∧ W.heap[w.heap.size]? = some (.deferred (some [])))
      (fun W => Ix W ∧ W.heap[w.heap.size + 1]? = some (.loop { r0 with state := .done, pending := some .ret }) ∧ W.heap[w.heap.size]? = some (.deferred (some [])))
      (fun k W v hj => ⟨hI k W _ hj.1 ((Kept.refl _ W).setCell (p := ⟨bs, 0, none⟩) (.inl rfl) v), (Below.heap_setCell _ _ _ _ (by simp; omega)).trans hj.2.1, (Below.heap_setCell _ _ _ _ (by simp; omega)).trans hj.2.2⟩)
      ?_ W1 (hPB.below hb1 h1 h2 h3) ⟨hI 0 w W1 h0 hk1, hL1, hD1⟩).mono ?_
    · rintro k hk W ⟨hi, hl, hd⟩
      have hy : (Instr.yield (w.heap.size + 1) #[.string ⟨(namesS s)[k].toArray⟩]).run Tryd.prog W = .ok (.round (w.heap.size + 1) fn (a.tmps.setIfInBounds p (.string ⟨(namesS s)[k].toArray⟩)) assign body) W := by
        have h := run_yield (P := Tryd.prog) (args := #[.string ⟨(namesS s)[k].toArray⟩]) hl (by rw [hr0]; rfl)
        rw [hr0] at h
        simpa using h
      obtain ⟨hl2, hd2, hk2⟩ := hloop W r0 (.loop { r0 with state := .busy }) hl hd
      have hlt : w.heap.size + 1 < W.heap.size := (Array.getElem?_eq_some_iff.1 hl).1
      have hput : ∀ (V : World) (o : Obj), w.heap.size + 1 < V.heap.size → Below w.heap.size V (V.putObj (w.heap.size + 1) o) := fun V o hV =>
        (Below.refl _ V).grown (grownBy_putObj' V _ _) (by omega) (fun k e => by cases e; omega)
      have hb2 := hput W (.loop { r0 with state := .busy }) hlt
      have hs2 : (W.putObj (w.heap.size + 1) (.loop { r0 with state := .busy })).heap.size = W.heap.size := World.putObj_size
      refine ⟨fn, _, assign, body, hy, roundIn_of_wpIn hfn ?_⟩
      refine hassign _ _ W _ ⟨_, run_beginRound hl (by rw [hr0]), ?_⟩
      refine wpIn_mono (hbody _ k hk _ (hI k W _ hi hk2)) ?_
      rintro e a3 W3 hp
      cases e with
      | normal =>
        obtain ⟨hb3, hi3⟩ := hp
        have hl3 := (hb3.block (w.heap.size + 1) (by rw [hs2]; exact hlt)).trans hl2
        have hd3 := (hb3.block w.heap.size (by rw [hs2]; omega)).trans hd2
        have hs3 := hb3.size
        obtain ⟨hl4, hd4, hk4⟩ := hloop' W3 (.loop r0) (by omega) hd3
        have he : (Instr.endRound (w.heap.size + 1) none).run Tryd.prog W3 = .ok (.bool true) (W3.putObj (w.heap.size + 1) (.loop r0)) := by
          have h := run_endRound (P := Tryd.prog) none hl3
          rw [hr0] at h ⊢
          exact h
        exact ⟨_, _, he, .inl ⟨rfl, ⟨hI _ W3 _ hi3 hk4, hl4, hd4⟩, (hb2.trans (hb3.mono (by omega))).trans (hput W3 _ (by omega))⟩⟩
      | ret =>
        obtain ⟨hk3, hi3⟩ := hp
        have hl3 := (hk3.block (w.heap.size + 1) (by rw [hs2]; exact hlt) (by omega)).trans hl2
        have hd3 := (hk3.block w.heap.size (by rw [hs2]; omega) (by omega)).trans hd2
        have hs3 := hk3.size
        obtain ⟨hl4, hd4, hk4⟩ := hloop' W3 (.loop { r0 with state := .done, pending := some .ret }) (by omega) hd3
        have he : (Instr.endRound (w.heap.size + 1) (some .ret)).run Tryd.prog W3 = .ok (.bool false) (W3.putObj (w.heap.size + 1) (.loop { r0 with state := .done, pending := some .ret })) := by
          have h := run_endRound (P := Tryd.prog) (some .ret) hl3
          exact h
        exact ⟨_, _, he, .inr ⟨rfl, hIx W3 _ hi3 hk4, hl4, hd4⟩⟩
      | exit id => exact hp.elim
      | goto t => exact hp.elim
      | panic ch => exact hp.elim
      | outgrown => exact hp.elim
    · rintro e W2 ⟨⟨v, rfl⟩, (⟨hi, hl, hd⟩ | ⟨hi, hl, hd⟩)⟩
      · obtain ⟨hl4, hd4, hk4⟩ := hloop W2 _ (.loop { r0 with state := .exhausted }) hl hd
        refine ⟨none, _, ?_, hdone w.heap.size _ (Nat.le_refl _) (hI _ W2 _ hi hk4) hd4⟩
        have h := run_endLoop (P := Tryd.prog) hl (by rw [hr0]; simp)
        rw [h, hr0]
      · obtain ⟨hl4, hd4, hk4⟩ := hloop W2 _ (.loop { r0 with state := .exhausted, pending := some .ret }) hl hd
        exact ⟨some .ret, _, run_endLoop (P := Tryd.prog) hl (by simp), hstop w.heap.size _ (Nat.le_refl _) (hIx W2 _ hi hk4) hd4⟩
end Go.Proofs.YtkfkfpfnpfpkaaaDoor

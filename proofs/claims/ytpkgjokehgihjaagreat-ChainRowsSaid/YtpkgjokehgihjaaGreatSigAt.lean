/- A signature in a block, its two lists of the call's own; a list that grows there. -/
import Derived.Test.YtpkgjokehgihjaaGreatFrame
import Derived.Test.YtpkgjokehgihjaaGreatGen
import Derived.Test.YtpkgjokehgihjaaGreatInfos
import Derived.Test.YtpkgjokehgihjaaGreatMarkMath
import Derived.Test.YtpkgjokehgihjaaGreatOwnL
import Derived.Test.YtpkgjokehgihjaaGreatRollMath
import Derived.Test.YtpkgjokehgihjaaGreatRows
import Derived.Test.YtpkgjokehgihjaaGreatSignAW
import Derived.Test.YtpkgjokehgihjaaGreatSignMath
import Derived.Deep.AppendLies
set_option linter.unusedVariables false
namespace Go.Proofs.YtpkgjokehgihjaaGreat
open Go.RowKit

section
variable {P : Program}
theorem results_row_tmp {fn : Func} {p u : Tmp} {ty : TypeId} (h : fn.results = #[.cell p ty, .tmp u]) (tmps : Array Value) (w : World) (g : Nat) (t : TypeId) (cs : Array Value) (fr : Nat × Nat) (d : TypeDesc)
    (hp : tmps.getD p undef = .pointer (some ⟨g, 0, none⟩)) (hg : w.heap[g]? = some (.cells cs t fr))
    (hu : P.underlying ty = some d) (hd : (match d with | .struct _ | .array _ _ => true | _ => false) = true) (hi : (P.info? ty).map (·.size) = some cs.size) :
    (results fn tmps).run P w = .ok (.tuple #[.agg cs, tmps.getD u undef]) w := by
  have hp' : tmps[p]?.getD undef = .pointer (some ⟨g, 0, none⟩) := by simpa using hp
  simp [results, h, hp', asAddr, run_loadVar_row w g t ty cs fr d hg hu hd hi]
end

theorem own_cells {w : World} {base : Nat} {e : TypeId} {size : Nat} {v : Value} {n : Nat} {xs : List Value} (h : w.ownsRow base e size v n xs) {g : Nat} (hg : v.ownBlock = some g) : base ≤ g ∧ ∃ cur, w.heap[g]? = some (.cells cur e (0, 0)) := by
  rcases h.2 with ⟨rfl, _⟩ | ⟨g', cap, cur, rfl, hb, hgg, _⟩
  · simp [Value.ownBlock] at hg
  · simp [Value.ownBlock] at hg
    subst hg
    exact ⟨hb, cur, hgg⟩

/-- A signature's cells written one by one. -/
theorem sig_store {w : World} {p : Nat} {b n b' n' : Int} {vw vs vw' vs' : Value} (h : w.heap[p]? = some (sigC b n vw vs)) :
    (w.cell? ⟨p, 0, none⟩ = some (.int .i64 b) ∧ w.frozen? ⟨p, 0, none⟩ = false) ∧
    ((w.setCell ⟨p, 0, none⟩ (.int .i64 b')).cell? ⟨p, 1, none⟩ = some (.int .i64 n) ∧ (w.setCell ⟨p, 0, none⟩ (.int .i64 b')).frozen? ⟨p, 1, none⟩ = false) ∧
    (((w.setCell ⟨p, 0, none⟩ (.int .i64 b')).setCell ⟨p, 1, none⟩ (.int .i64 n')).cell? ⟨p, 2, none⟩ = some vw ∧ ((w.setCell ⟨p, 0, none⟩ (.int .i64 b')).setCell ⟨p, 1, none⟩ (.int .i64 n')).frozen? ⟨p, 2, none⟩ = false) ∧
    ((((w.setCell ⟨p, 0, none⟩ (.int .i64 b')).setCell ⟨p, 1, none⟩ (.int .i64 n')).setCell ⟨p, 2, none⟩ vw').cell? ⟨p, 3, none⟩ = some vs ∧ (((w.setCell ⟨p, 0, none⟩ (.int .i64 b')).setCell ⟨p, 1, none⟩ (.int .i64 n')).setCell ⟨p, 2, none⟩ vw').frozen? ⟨p, 3, none⟩ = false) ∧
    ((((w.setCell ⟨p, 0, none⟩ (.int .i64 b')).setCell ⟨p, 1, none⟩ (.int .i64 n')).setCell ⟨p, 2, none⟩ vw').setCell ⟨p, 3, none⟩ vs').heap[p]? = some (sigC b' n' vw' vs') ∧
    Kept (fun k => k = p) w ((((w.setCell ⟨p, 0, none⟩ (.int .i64 b')).setCell ⟨p, 1, none⟩ (.int .i64 n')).setCell ⟨p, 2, none⟩ vw').setCell ⟨p, 3, none⟩ vs') := by
  have h1 := heap_setCell_same w p 0 _ _ (.int .i64 b') h
  have h2 := heap_setCell_same _ p 1 _ _ (.int .i64 n') h1
  have h3 := heap_setCell_same _ p 2 _ _ vw' h2
  have h4 := heap_setCell_same _ p 3 _ _ vs' h3
  refine ⟨⟨?_, frozen_of_row w p 0 _ _ h⟩, ⟨?_, frozen_of_row _ p 1 _ _ h1⟩, ⟨?_, frozen_of_row _ p 2 _ _ h2⟩, ⟨?_, frozen_of_row _ p 3 _ _ h3⟩, h4, ?_⟩
  · rw [cell_of_row _ _ _ _ _ _ h]; rfl
  · rw [cell_of_row _ _ _ _ _ _ h1]; rfl
  · rw [cell_of_row _ _ _ _ _ _ h2]; rfl
  · rw [cell_of_row _ _ _ _ _ _ h3]; rfl
  · exact ((((Kept.refl _ _).setCell (by rfl) _).setCell (by rfl) _).setCell (by rfl) _).setCell (by rfl) _

/-- A signature in block p, its lists of the call's own. -/
structure SigAt (w : World) (base p : Nat) (b n : Int) (vw vs : Value) (ws : List Nat) (ms : List Txt) : Prop where
  heap : w.heap[p]? = some (sigC b n vw vs)
  own1 : OwnL encN w base 3 vw ws
  own2 : OwnL encT w base 9 vs ms
/-- Its blocks. -/
def footS (p : Nat) (vw vs : Value) (k : Nat) : Prop := k = p ∨ vw.ownBlock = some k ∨ vs.ownBlock = some k
theorem SigAt.c {w : World} {base p : Nat} {b n : Int} {vw vs : Value} {ws : List Nat} {ms : List Txt} (h : SigAt w base p b n vw vs ws ms) :
    w.cell? ⟨p, 0, none⟩ = some (.int .i64 b) ∧ w.cell? ⟨p, 1, none⟩ = some (.int .i64 n) ∧ w.cell? ⟨p, 2, none⟩ = some vw ∧ w.cell? ⟨p, 3, none⟩ = some vs := by
  refine ⟨?_, ?_, ?_, ?_⟩ <;> (rw [cell_of_row _ _ _ _ _ _ h.heap]; rfl)
theorem SigAt.lt {w : World} {base p : Nat} {b n : Int} {vw vs : Value} {ws : List Nat} {ms : List Txt} (h : SigAt w base p b n vw vs ws ms) {k : Nat} (hk : footS p vw vs k) : k < w.heap.size := by
  rcases hk with rfl | hk | hk
  · exact (Array.getElem?_eq_some_iff.1 h.heap).1
  · exact (Array.getElem?_eq_some_iff.1 (own_cells h.own1 hk).2.choose_spec).1
  · exact (Array.getElem?_eq_some_iff.1 (own_cells h.own2 hk).2.choose_spec).1
theorem SigAt.kept {w w' : World} {M : Nat → Prop} {base p : Nat} {b n : Int} {vw vs : Value} {ws : List Nat} {ms : List Txt} (h : SigAt w base p b n vw vs ws ms) (hk : Kept M w w') (hM : ∀ k, footS p vw vs k → ¬ M k) : SigAt w' base p b n vw vs ws ms :=
  ⟨hk.old h.heap (hM p (.inl rfl)), own_off h.own1 hk (fun g _ _ hg => hM g (.inr (.inl hg))), own_off h.own2 hk (fun g _ _ hg => hM g (.inr (.inr hg)))⟩
theorem SigAt.new {w w' : World} {base p : Nat} {b n : Int} {vw vs : Value} {ws : List Nat} {ms : List Txt} (h : SigAt w base p b n vw vs ws ms) (hb : Below w.heap.size w w') : SigAt w' base p b n vw vs ws ms :=
  h.kept (Kept.new hb (fun _ => False)) (fun _ _ => id)
theorem SigAt.ne {w : World} {base p : Nat} {b n : Int} {vw vs : Value} {ws : List Nat} {ms : List Txt} (h : SigAt w base p b n vw vs ws ms) :
    (∀ g, vw.ownBlock = some g → g ≠ p) ∧ (∀ g, vs.ownBlock = some g → g ≠ p) ∧ (∀ g, vw.ownBlock = some g → vs.ownBlock ≠ some g) := by
  refine ⟨fun g hg e => ?_, fun g hg e => ?_, fun g hg hg' => ?_⟩
  · obtain ⟨_, cur, hc⟩ := own_cells h.own1 hg
    rw [e, h.heap] at hc
    simp at hc
  · obtain ⟨_, cur, hc⟩ := own_cells h.own2 hg
    rw [e, h.heap] at hc
    simp at hc
  · obtain ⟨_, cur, hc⟩ := own_cells h.own1 hg
    obtain ⟨_, cur', hc'⟩ := own_cells h.own2 hg'
    rw [hc] at hc'
    simp at hc'
/-- The first list has grown; its place is written behind. -/
theorem SigAt.push1 {w w2 : World} {o : Obj} {base p : Nat} {b n : Int} {vw vs : Value} {ws : List Nat} {ms : List Txt} {x : Nat} {g c : Nat} (h : SigAt w base p b n vw vs ws ms)
    (hown : w2.ownsRow base 3 1 (.slice (some ⟨g, 0, none⟩) (ws.length + 1) c) (ws.length + 1) (ws.map encN ++ [encN x])) (hg : (w.alloc o).grownBy w2 vw.ownBlock) (hat : vw.ownBlock = some g ∨ g = w.heap.size + 1) :
    w2.frozen? ⟨p, 2, none⟩ = false ∧ w2.cell? ⟨p, 2, none⟩ = some vw ∧ SigAt (w2.setCell ⟨p, 2, none⟩ (.slice (some ⟨g, 0, none⟩) (ws.length + 1) c)) base p b n (.slice (some ⟨g, 0, none⟩) (ws.length + 1) c) vs (ws ++ [x]) ms ∧
      Kept (footS p vw vs) w (w2.setCell ⟨p, 2, none⟩ (.slice (some ⟨g, 0, none⟩) (ws.length + 1) c)) ∧ (∀ k, footS p (.slice (some ⟨g, 0, none⟩) (ws.length + 1) c) vs k → footS p vw vs k ∨ w.heap.size ≤ k) := by
  have k1 : Kept (fun k => vw.ownBlock = some k) w w2 := (Kept.of_alloc w o |>.mono (fun _ _ h => h.elim)).trans ⟨hg.os, hg.tape, hg.output, hg.size, fun k hk hm => hg.block k hk (fun he => hm he.symm)⟩
  have hb : w2.heap[p]? = some (sigC b n vw vs) := k1.old h.heap (fun e => h.ne.1 p e rfl)
  have k2 : Kept (fun k => k = p) w2 (w2.setCell ⟨p, 2, none⟩ (.slice (some ⟨g, 0, none⟩) (ws.length + 1) c)) := (Kept.refl _ _).setCell (by rfl) _
  have hs2 : OwnL encT w2 base 9 vs ms := own_off h.own2 k1 (fun g' _ _ hg' e => h.ne.2.2 g' e hg')
  refine ⟨frozen_of_row w2 p 2 _ _ hb, by rw [cell_of_row _ _ _ _ _ _ hb]; rfl, ⟨?_, ?_, ?_⟩, (k1.mono (fun k _ e => .inr (.inl e))).trans (k2.mono (fun k _ e => .inl e)), ?_⟩
  · rw [heap_setCell_same w2 p 2 _ _ _ hb]; rfl
  · unfold OwnL
    rw [List.map_append, List.length_append]
    refine own_off hown k2 (fun g' cur hg' _ e => ?_)
    rw [e, hb] at hg'
    simp at hg'
  · exact own_off hs2 k2 (fun g' cur hg' _ e => by rw [e, hb] at hg'; simp at hg')
  · rintro k (rfl | hk | hk)
    · exact .inl (.inl rfl)
    · have hk' : g = k := by simpa [Value.ownBlock] using hk
      subst hk'
      rcases hat with h | h
      · exact .inl (.inr (.inl h))
      · right; omega
    · exact .inl (.inr (.inr hk))
theorem SigAt.push2 {w w2 : World} {o : Obj} {base p : Nat} {b n : Int} {vw vs : Value} {ws : List Nat} {ms : List Txt} {x : Txt} {g c : Nat} (h : SigAt w base p b n vw vs ws ms)
    (hown : w2.ownsRow base 9 1 (.slice (some ⟨g, 0, none⟩) (ms.length + 1) c) (ms.length + 1) (ms.map encT ++ [encT x])) (hg : (w.alloc o).grownBy w2 vs.ownBlock) (hat : vs.ownBlock = some g ∨ g = w.heap.size + 1) :
    w2.frozen? ⟨p, 3, none⟩ = false ∧ w2.cell? ⟨p, 3, none⟩ = some vs ∧ SigAt (w2.setCell ⟨p, 3, none⟩ (.slice (some ⟨g, 0, none⟩) (ms.length + 1) c)) base p b n vw (.slice (some ⟨g, 0, none⟩) (ms.length + 1) c) ws (ms ++ [x]) ∧
      Kept (footS p vw vs) w (w2.setCell ⟨p, 3, none⟩ (.slice (some ⟨g, 0, none⟩) (ms.length + 1) c)) ∧ (∀ k, footS p vw (.slice (some ⟨g, 0, none⟩) (ms.length + 1) c) k → footS p vw vs k ∨ w.heap.size ≤ k) := by
  have k1 : Kept (fun k => vs.ownBlock = some k) w w2 := (Kept.of_alloc w o |>.mono (fun _ _ h => h.elim)).trans ⟨hg.os, hg.tape, hg.output, hg.size, fun k hk hm => hg.block k hk (fun he => hm he.symm)⟩
  have hb : w2.heap[p]? = some (sigC b n vw vs) := k1.old h.heap (fun e => h.ne.2.1 p e rfl)
  have k2 : Kept (fun k => k = p) w2 (w2.setCell ⟨p, 3, none⟩ (.slice (some ⟨g, 0, none⟩) (ms.length + 1) c)) := (Kept.refl _ _).setCell (by rfl) _
  have hs2 : OwnL encN w2 base 3 vw ws := own_off h.own1 k1 (fun g' _ _ hg' e => h.ne.2.2 g' hg' e)
  refine ⟨frozen_of_row w2 p 3 _ _ hb, by rw [cell_of_row _ _ _ _ _ _ hb]; rfl, ⟨?_, ?_, ?_⟩, (k1.mono (fun k _ e => .inr (.inr e))).trans (k2.mono (fun k _ e => .inl e)), ?_⟩
  · rw [heap_setCell_same w2 p 3 _ _ _ hb]; rfl
  · exact own_off hs2 k2 (fun g' cur hg' _ e => by rw [e, hb] at hg'; simp at hg')
  · unfold OwnL
    rw [List.map_append, List.length_append]
    refine own_off hown k2 (fun g' cur hg' _ e => ?_)
    rw [e, hb] at hg'
    simp at hg'
  · rintro k (rfl | hk | hk)
    · exact .inl (.inl rfl)
    · exact .inl (.inr (.inl hk))
    · have hk' : g = k := by simpa [Value.ownBlock] using hk
      subst hk'
      rcases hat with h | h
      · exact .inl (.inr (.inr h))
      · right; omega
end Go.Proofs.YtpkgjokehgihjaaGreat

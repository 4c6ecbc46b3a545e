/- The walk of Of: what bytes are as a signature. -/
import Derived.Test.YtpkgjokehgihjaaGreatBookW
import Derived.Test.YtpkgjokehgihjaaGreatFrame
import Derived.Test.YtpkgjokehgihjaaGreatGen
import Derived.Test.YtpkgjokehgihjaaGreatInfos
import Derived.Test.YtpkgjokehgihjaaGreatPtX
import Derived.Test.YtpkgjokehgihjaaGreatMarkMath
import Derived.Test.YtpkgjokehgihjaaGreatOwnL
import Derived.Test.YtpkgjokehgihjaaGreatCdX
import Derived.Test.YtpkgjokehgihjaaGreatRightW
import Derived.Test.YtpkgjokehgihjaaGreatRows
import Derived.Test.YtpkgjokehgihjaaGreatShelf
import Derived.Test.YtpkgjokehgihjaaGreatSigAt
import Derived.Test.YtpkgjokehgihjaaGreatSignAW
import Derived.Test.YtpkgjokehgihjaaGreatSignMath
import Derived.Test.YtpkgjokehgihjaaGreatSignW
import Derived.Test.YtpkgjokehgihjaaGreatWkX
import Derived.BigQuiet
import Derived.Deep.QuietTactic
import Derived.Deep.RegionHeld3
import Derived.IntWalk
import Derived.Laws.BitsAllLaws
import Derived.Laws.Rows
import Derived.Laws.Tables
import Derived.Lib.Hide
import Derived.Outline
import Derived.StillTailTactics
import Derived.WalkKit
import Derived.WalkLawsBesides
import Derived.WalkSpells
set_option linter.unusedVariables false
namespace Go.Proofs.YtpkgjokehgihjaaGreat
open Go.RowKit

/-! ### Plain mathematics -/
def itL {α : Type} (next : RS → α × RS) : Nat → List α → RS → List α × RS
  | 0, acc, s => (acc, s)
  | k + 1, acc, s => itL next k (acc ++ [(next s).1]) (next s).2
def nextC (s : RS) : Int × RS := rCount s 4294967295
def nextM (s : RS) : Txt × RS := rRaw s 32
structure OfR where
  e : Int
  b : Nat
  n : Nat
  ws : List Int
  ms : List Txt
def ofZ (e : Int) : OfR := ⟨e, 0, 0, [], []⟩
/-- Behind the two numbers. -/
def ofTail (B M : Nat) (s : RS) : OfR :=
  if (rEnd (itL nextM (nBlk M B) [] (itL nextC (nBlk M B) [] s).2).2).e ≠ 0 then ofZ (rEnd (itL nextM (nBlk M B) [] (itL nextC (nBlk M B) [] s).2).2).e
  else ⟨0, B, M, (itL nextC (nBlk M B) [] s).1, (itL nextM (nBlk M B) [] (itL nextC (nBlk M B) [] s).2).1⟩
theorem ofTail_eq (B M : Nat) (s : RS) : ofTail B M s = if (rEnd (itL nextM (nBlk M B) [] (itL nextC (nBlk M B) [] s).2).2).e ≠ 0 then ofZ (rEnd (itL nextM (nBlk M B) [] (itL nextC (nBlk M B) [] s).2).2).e
  else ⟨0, B, M, (itL nextC (nBlk M B) [] s).1, (itL nextM (nBlk M B) [] (itL nextC (nBlk M B) [] s).2).1⟩ := rfl
def ofHead (a c : Int) (s : RS) : OfR :=
  if s.e ≠ 0 then ofZ s.e else if okB a = true ∧ okN c = true then ofTail a.toNat c.toNat s else ofZ 5
/-- What bytes are as a signature. -/
def ofS (S : Txt) : OfR := ofHead (rNum ⟨S, 0⟩).1 (rNum (rNum ⟨S, 0⟩).2).1 (rNum (rNum ⟨S, 0⟩).2).2
def OfPost (w : World) (r : OfR) (e : Ending) (w' : World) : Prop :=
  ∃ vw vs, e = .returned (.tuple #[sigV r.b r.n vw vs, .int .i64 r.e]) ∧ Row (Value.int .i64) (w.heap.size ≤ ·) w' vw r.ws ∧ Row encT (w.heap.size ≤ ·) w' vs r.ms ∧ Below w.heap.size w w'
theorem itL_len {α : Type} (next : RS → α × RS) (k : Nat) : ∀ (acc : List α) (s : RS), (itL next k acc s).1.length = acc.length + k := by
  induction k with
  | zero => intro acc s; rfl
  | succ k ih => intro acc s; unfold itL; rw [ih, List.length_append, List.length_singleton]; omega
theorem itL_ok {α : Type} (next : RS → α × RS) (hn : ∀ s, s.ok → (next s).2.ok) (k : Nat) : ∀ (acc : List α) (s : RS), s.ok → (itL next k acc s).2.ok := by
  induction k with
  | zero => intro acc s h; exact h
  | succ k ih => intro acc s h; unfold itL; exact ih _ _ (hn s h)
theorem rRaw_len (s : RS) (m : Nat) : (rRaw s (m : Int)).1.length ≤ m := by
  unfold rRaw
  split
  · simp
  · split
    · simp
    · split
      · simp
      · rw [Int.toNat_natCast, List.length_take]; omega
theorem nextM_len (s : RS) : (nextM s).1.length ≤ 32 := rRaw_len s 32
theorem nextC_nat (s : RS) (h : s.ok) : ∃ c : Nat, (nextC s).1 = (c : Int) := by
  obtain ⟨c, hc, _⟩ := rCount_nat s 4294967295 h
  exact ⟨c, hc⟩

/-! ### A signature that is read -/
theorem sig_set0 {w : World} {p : Nat} {b n : Int} {vw vs : Value} (h : w.heap[p]? = some (sigC b n vw vs)) (b' : Int) : (w.setCell ⟨p, 0, none⟩ (.int .i64 b')).heap[p]? = some (sigC b' n vw vs) := by
  rw [heap_setCell_same w p 0 _ _ _ h]; rfl
theorem sig_set1 {w : World} {p : Nat} {b n : Int} {vw vs : Value} (h : w.heap[p]? = some (sigC b n vw vs)) (n' : Int) : (w.setCell ⟨p, 1, none⟩ (.int .i64 n')).heap[p]? = some (sigC b n' vw vs) := by
  rw [heap_setCell_same w p 1 _ _ _ h]; rfl
/-- A reader: behind what is left alone it is as it was; its block's type. -/
structure RdI (R : World → Nat → RS → Prop) : Prop where
  kept : ∀ (w w' : World) (g : Nat) (s : RS) (M : Nat → Prop), R w g s → Kept M w w' → ¬ M g → R w' g s
  ty : ∀ (w : World) (g : Nat) (s : RS), R w g s → ∃ cs T, w.heap[g]? = some (.cells cs T (0, 0)) ∧ T ≠ 3 ∧ T ≠ 9 ∧ T ≠ 58
structure OfL (R : World → Nat → RS → Prop) (w : World) (p g : Nat) (b n : Int) (vw vs : Value) (ws : List Nat) (ms : List Txt) (s : RS) (wr : World) : Prop where
  sig : SigAt wr w.heap.size p b n vw vs ws ms
  res : wr.heap[w.heap.size]? = some (sigC 0 0 (.slice none 0 0) (.slice none 0 0))
  rd : R wr g s
  ok : s.ok
  bel : Below w.heap.size w wr
  pb : w.heap.size < p
  gb : w.heap.size ≤ g
section
variable {R : World → Nat → RS → Prop} {w wr w1 w2 : World} {o : Obj} {p g : Nat} {b n : Int} {vw vs : Value} {ws : List Nat} {ms : List Txt} {s s' : RS}
theorem OfL.off_rd (I : RdI R) (h : OfL R w p g b n vw vs ws ms s wr) : ¬ footS p vw vs g ∧ g ≠ w.heap.size := by
  obtain ⟨cs, T, hg, h1, h2, h3⟩ := I.ty _ _ _ h.rd
  refine ⟨?_, fun e => ?_⟩
  · rintro (e | e | e)
    · rw [e, h.sig.heap] at hg; injection hg with hg; injection hg with _ e2; exact h3 e2.symm
    · obtain ⟨_, cur, hc⟩ := own_cells h.sig.own1 e; rw [hc] at hg; injection hg with hg; injection hg with _ e2; exact h1 e2.symm
    · obtain ⟨_, cur, hc⟩ := own_cells h.sig.own2 e; rw [hc] at hg; injection hg with hg; injection hg with _ e2; exact h2 e2.symm
  · rw [e, h.res] at hg; injection hg with hg; injection hg with _ e2; exact h3 e2.symm
theorem OfL.off_res (h : OfL R w p g b n vw vs ws ms s wr) : ¬ footS p vw vs w.heap.size := by
  rintro (e | e | e)
  · have := h.pb; omega
  · obtain ⟨_, cur, hc⟩ := own_cells h.sig.own1 e
    rw [h.res] at hc
    simp at hc
  · obtain ⟨_, cur, hc⟩ := own_cells h.sig.own2 e
    rw [h.res] at hc
    simp at hc
theorem OfL.foot_new (h : OfL R w p g b n vw vs ws ms s wr) {k : Nat} (hk : footS p vw vs k) : w.heap.size ≤ k := by
  rcases hk with e | e | e
  · have := h.pb; omega
  · exact (own_cells h.sig.own1 e).1
  · exact (own_cells h.sig.own2 e).1
theorem OfL.read (I : RdI R) (h : OfL R w p g b n vw vs ws ms s wr) (hr : R w1 g s') (hok : s'.ok) (hk : Kept (· = g) wr w1) : OfL R w p g b n vw vs ws ms s' w1 :=
  ⟨h.sig.kept hk (fun k hf e => (h.off_rd I).1 (e ▸ hf)), hk.old h.res (fun e => (h.off_rd I).2 e.symm), hr, hok, h.bel.trans (hk.below h.bel.size (fun k e => by have := h.gb; omega)), h.pb, h.gb⟩
theorem OfL.new (I : RdI R) (h : OfL R w p g b n vw vs ws ms s wr) (hb : Below wr.heap.size wr w1) : OfL R w p g b n vw vs ws ms s w1 :=
  ⟨h.sig.new hb, (Kept.new hb (fun _ => False)).old h.res id, I.kept _ _ _ _ (fun _ => False) h.rd (Kept.new hb _) id, h.ok, h.bel.trans (hb.mono h.bel.size), h.pb, h.gb⟩
theorem OfL.set (I : RdI R) {j : Nat} {u : Value} {b' n' : Int} (h : OfL R w p g b n vw vs ws ms s wr) (hh : (wr.setCell ⟨p, j, none⟩ u).heap[p]? = some (sigC b' n' vw vs)) : OfL R w p g b' n' vw vs ws ms s (wr.setCell ⟨p, j, none⟩ u) := by
  have hk : Kept (· = p) wr (wr.setCell ⟨p, j, none⟩ u) := (Kept.refl _ wr).setCell (by rfl) u
  have hp := h.pb
  refine ⟨⟨hh, own_off h.sig.own1 hk (fun g' _ _ hg' e => h.sig.ne.1 g' hg' e), own_off h.sig.own2 hk (fun g' _ _ hg' e => h.sig.ne.2.1 g' hg' e)⟩, hk.old h.res (fun e => by omega), I.kept _ _ _ _ _ h.rd hk (fun e => (h.off_rd I).1 (.inl e)), h.ok, h.bel.trans (hk.below h.bel.size (fun k e => by omega)), h.pb, h.gb⟩
theorem OfL.push1 (I : RdI R) {x g' c : Nat} (h : OfL R w p g b n vw vs ws ms s wr)
    (hown : w2.ownsRow w.heap.size 3 1 (.slice (some ⟨g', 0, none⟩) (ws.length + 1) c) (ws.length + 1) (ws.map encN ++ [encN x])) (hg : (wr.alloc o).grownBy w2 vw.ownBlock) (hat : vw.ownBlock = some g' ∨ g' = wr.heap.size + 1) :
    w2.frozen? ⟨p, 2, none⟩ = false ∧ w2.cell? ⟨p, 2, none⟩ = some vw ∧ OfL R w p g b n (.slice (some ⟨g', 0, none⟩) (ws.length + 1) c) vs (ws ++ [x]) ms s (w2.setCell ⟨p, 2, none⟩ (.slice (some ⟨g', 0, none⟩) (ws.length + 1) c)) := by
  obtain ⟨f, c', hs, hk, _⟩ := SigAt.push1 h.sig hown hg hat
  exact ⟨f, c', hs, hk.old h.res h.off_res, I.kept _ _ _ _ _ h.rd hk (h.off_rd I).1, h.ok, h.bel.trans (hk.below h.bel.size (fun k hf => h.foot_new hf)), h.pb, h.gb⟩
theorem OfL.push2 (I : RdI R) {x : Txt} {g' c : Nat} (h : OfL R w p g b n vw vs ws ms s wr)
    (hown : w2.ownsRow w.heap.size 9 1 (.slice (some ⟨g', 0, none⟩) (ms.length + 1) c) (ms.length + 1) (ms.map encT ++ [encT x])) (hg : (wr.alloc o).grownBy w2 vs.ownBlock) (hat : vs.ownBlock = some g' ∨ g' = wr.heap.size + 1) :
    w2.frozen? ⟨p, 3, none⟩ = false ∧ w2.cell? ⟨p, 3, none⟩ = some vs ∧ OfL R w p g b n vw (.slice (some ⟨g', 0, none⟩) (ms.length + 1) c) ws (ms ++ [x]) s (w2.setCell ⟨p, 3, none⟩ (.slice (some ⟨g', 0, none⟩) (ms.length + 1) c)) := by
  obtain ⟨f, c', hs, hk, _⟩ := SigAt.push2 h.sig hown hg hat
  exact ⟨f, c', hs, hk.old h.res h.off_res, I.kept _ _ _ _ _ h.rd hk (h.off_rd I).1, h.ok, h.bel.trans (hk.below h.bel.size (fun k hf => h.foot_new hf)), h.pb, h.gb⟩
end
theorem zero_post (w w' : World) (e : Int) (hb : Below w.heap.size w w') : OfPost w (ofZ e) (.returned (.tuple #[sigV 0 0 (.slice none 0 0) (.slice none 0 0), .int .i64 e])) w' :=
  ⟨_, _, rfl, Row.nil _ _ _, Row.nil _ _ _, hb⟩
/-- The result's cells written: what is kept. -/
theorem OfL.done {R : World → Nat → RS → Prop} {w wr w1 : World} {p g : Nat} {b n : Int} {vw vs : Value} {ws : List Nat} {ms : List Txt} {s : RS} (h : OfL R w p g b n vw vs ws ms s wr) (hk : Kept (fun k => k = w.heap.size) wr w1) : Below w.heap.size w w1 :=
  h.bel.trans (hk.below h.bel.size (fun k e => by omega))

end Go.Proofs.YtpkgjokehgihjaaGreat

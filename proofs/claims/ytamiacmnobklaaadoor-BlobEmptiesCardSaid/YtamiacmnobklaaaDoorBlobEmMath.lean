/- What BlobEmpties keeps, step by step. -/
import Derived.Test.YtamiacmnobklaaaDoorArgs3
import Derived.Test.YtamiacmnobklaaaDoorBldShelf
import Derived.Test.YtamiacmnobklaaaDoorB1X
import Derived.Test.YtamiacmnobklaaaDoorLwX
import Derived.Test.YtamiacmnobklaaaDoorB2X
import Derived.Test.YtamiacmnobklaaaDoorBookW
import Derived.Test.YtamiacmnobklaaaDoorFtX
import Derived.Test.YtamiacmnobklaaaDoorFrame
import Derived.Test.YtamiacmnobklaaaDoorGen
import Derived.Test.YtamiacmnobklaaaDoorItX
import Derived.Test.YtamiacmnobklaaaDoorPtX
import Derived.Test.YtamiacmnobklaaaDoorMarkMath
import Derived.Test.YtamiacmnobklaaaDoorOwnL
import Derived.Test.YtamiacmnobklaaaDoorPthX
import Derived.Test.YtamiacmnobklaaaDoorProg
import Derived.Test.YtamiacmnobklaaaDoorReadItW
import Derived.Test.YtamiacmnobklaaaDoorCdX
import Derived.Test.YtamiacmnobklaaaDoorRowN
import Derived.Test.YtamiacmnobklaaaDoorRows
import Derived.Test.YtamiacmnobklaaaDoorShelf
import Derived.Test.YtamiacmnobklaaaDoorSoX
import Derived.Test.YtamiacmnobklaaaDoorSortMath
import Derived.Test.YtamiacmnobklaaaDoorTreeMath
import Derived.BigQuiet
import Derived.BigRegion
import Derived.Deep.AppendLies
import Derived.Deep.Cut
import Derived.Deep.CutBlock
import Derived.Deep.CutRange
import Derived.Deep.DeepCutAuto
import Derived.Deep.QuietTactic
import Derived.Deep.RegionLaw
import Derived.Deep.Slices
import Derived.Deep.Strs
import Derived.IntWalk
import Derived.Laws.BitsAllLaws
import Derived.Laws.Externs
import Derived.Laws.IdiomStrings
import Derived.Laws.OwnMore
import Derived.Laws.RangeAny
import Derived.Laws.Rows
import Derived.Laws.Tables
import Derived.Lib.AppendStr
import Derived.Lib.Builder
import Derived.Lib.Hide
import Derived.Lib.SlicesS
import Derived.Lib.SmallJoins
import Derived.Lib.Strings
import Derived.Lib.Walk
import Derived.LoopTactic
import Derived.Outline
import Derived.Shelf.Strings.SplitCore
import Derived.Sort.OwnSorted
import Derived.StillTail
import Derived.StillTailTactics
import Derived.WalkKit
import Derived.WalkLawsBesides
import Derived.WalkSpells
set_option linter.unusedVariables false
namespace Go.Proofs.YtamiacmnobklaaaDoor
open Go.RowKit

theorem texts_row {W : World} {v : Value} {xs : List Txt} (h : Texts W v xs) : RowN encZB 1 (· < W.heap.size) W v xs ∧ (∀ x ∈ xs, x.length ≤ 140737488351232) ∧ xs.length ≤ 9223372036854775807 := by
  obtain ⟨a, cap, rfl, h1, h2, h3, h4, hc⟩ := h
  refine ⟨⟨a, cap, rfl, h1, fun i hi => ?_⟩, h3, by omega⟩
  obtain ⟨b, off, e, hb, hx⟩ := hc i hi
  refine ⟨b, off, e, hb, fun r u hu => ?_⟩
  match r, hu with
  | 0, hu =>
    simp [encZB] at hu
    subst hu
    rw [Nat.mul_one, Nat.add_zero]
    exact hx
theorem RowN.inB {α : Type} {enc : α → List Value} {k : Nat} {N : Nat → Prop} {w : World} {v : Value} {xs : List α} (hE : EncN enc k) (hk : 0 < k) (h : RowN enc k N w v xs) : RowN enc k (fun g => N g ∧ g < w.heap.size) w v xs := by
  obtain ⟨a, c, rfl, hl, hc⟩ := h
  refine ⟨a, c, rfl, hl, fun i hi => ?_⟩
  obtain ⟨g, o, rfl, hn, hx⟩ := hc i hi
  refine ⟨g, o, rfl, ⟨hn, ?_⟩, hx⟩
  have hlen : 0 < (enc xs[i]).length := by rw [hE.len]; exact hk
  exact World.block_lt_of_cell? w _ (hx 0 _ (List.getElem?_eq_getElem hlen))
/-- All that stands: blobs, the law's world, two lists of marks. -/
structure EW (w0 w : World) (pw pb p bm pp : Nat) (N : Nat → Prop) (S : List Txt) (T : List Ent) (Lc : List (List FileD)) (RL PL : List Txt) (v6 v7 : Value) (K : Nat) : Prop where
  bl : BL w pb p bm N S T Lc K
  wb : WBox w pw pb p pp
  o6 : OwnN encZB 1 w w0.heap.size 9 v6 RL
  o7 : OwnN encZB 1 w w0.heap.size 9 v7 PL
  d6 : ∀ g, v6.ownBlock = some g → ¬ N g ∧ g ≠ bm ∧ v7.ownBlock ≠ some g
  d7 : ∀ g, v7.ownBlock = some g → ¬ N g ∧ g ≠ bm
  nn : ∀ k, N k → w0.heap.size ≤ k
  nw : ¬ N pw
  bmw : bm ≠ pw
  lo : w0.heap.size ≤ bm
  bel : Below w0.heap.size w0 w
section
variable {w0 w w' : World} {pw pb p bm pp : Nat} {N N' : Nat → Prop} {S S' : List Txt} {T T' : List Ent} {Lc Lc' : List (List FileD)} {RL PL : List Txt} {v6 v7 : Value} {K K' : Nat}
theorem EW.start (h : FreshW w0 w pw pb p bm pp N) : EW w0 w pw pb p bm pp N [] [] [] [] [] (.slice none 0 0) (.slice none 0 0) 0 :=
  ⟨h.bl, h.wb, OwnN.nil _ _ _ _ _, OwnN.nil _ _ _ _ _, fun g hg => by simp [Value.ownBlock] at hg, fun g hg => by simp [Value.ownBlock] at hg, h.nn, h.nw, h.bmw, h.lo.1, h.bel⟩
theorem EW.new (h : EW w0 w pw pb p bm pp N S T Lc RL PL v6 v7 K) (hb : Below w.heap.size w w') : EW w0 w' pw pb p bm pp N S T Lc RL PL v6 v7 K :=
  ⟨h.bl.new hb, (Kept.new hb (fun _ => False)).old h.wb id, h.o6.new hb, h.o7.new hb, h.d6, h.d7, h.nn, h.nw, h.bmw, h.lo, h.bel.trans (hb.mono h.bel.size)⟩
/-- A call of the blobs. -/
theorem EW.turn (h : EW w0 w pw pb p bm pp N S T Lc RL PL v6 v7 K) (hbl : BL w' pb p bm N' S' T' Lc' K') (ht : BTurn w w' bm N N') : EW w0 w' pw pb p bm pp N' S' T' Lc' RL PL v6 v7 K' := by
  have hpw := (Array.getElem?_eq_some_iff.1 h.wb).1
  refine ⟨hbl, ht.kp.old h.wb (fun c => by rcases c with c | c; exact h.nw c; exact h.bmw c.symm), h.o6.kept ht.kp (fun g hg c => by have := h.d6 g hg; rcases c with c | c; exact this.1 c; exact this.2.1 c),
    h.o7.kept ht.kp (fun g hg c => by have := h.d7 g hg; rcases c with c | c; exact this.1 c; exact this.2 c), fun g hg => ?_, fun g hg => ?_, ht.from h.bel.size h.nn, ht.off h.nw hpw, h.bmw, h.lo, h.bel.trans (ht.below h.bel.size h.nn h.lo)⟩
  · obtain ⟨a, b, c⟩ := h.d6 g hg
    exact ⟨ht.off a (h.o6.lt hg).2.1, b, c⟩
  · obtain ⟨a, b⟩ := h.d7 g hg
    exact ⟨ht.off a (h.o7.lt hg).2.1, b⟩
theorem EW.other (h : EW w0 w pw pb p bm pp N S T Lc RL PL v6 v7 K) {v : Value} {L : List Txt} {base : Nat} (ho : OwnN encZB 1 w base 9 v L) (hN : ∀ g, v.ownBlock = some g → ¬ N g) (hbm : ∀ g, v.ownBlock = some g → g ≠ bm) {v' : Value} (ht : TurnN base w v w' v') (hbase : base ≤ w.heap.size) : BL w' pb p bm N S T Lc K ∧ WBox w' pw pb p pp := by
  have hty : ∀ g, v.ownBlock = some g → ∃ cur, w.heap[g]? = some (.cells cur 9 (0, 0)) := fun g hg => (ho.lt hg).2.2
  refine ⟨h.bl.kept ht.kept (fun g hg c => hN g c hg) (fun c => ?_) (fun c => hbm bm c rfl), ht.kept.old h.wb (fun c => ?_)⟩
  · obtain ⟨cur, hc⟩ := hty p c
    have := h.bl.bw.id.book
    unfold BookAt at this
    rw [hc] at this
    injection this with this
    injection this with _ t _
    exact absurd t (by decide)
  · obtain ⟨cur, hc⟩ := hty pw c
    have := h.wb
    unfold WBox at this
    rw [hc] at this
    injection this with this
    injection this with _ t _
    exact absurd t (by decide)
theorem EW.push6 (h : EW w0 w pw pb p bm pp N S T Lc RL PL v6 v7 K) {v6' : Value} {m : Txt} (ho : OwnN encZB 1 w' w0.heap.size 9 v6' (RL ++ [m])) (ht : TurnN w0.heap.size w v6 w' v6') : EW w0 w' pw pb p bm pp N S T Lc (RL ++ [m]) PL v6' v7 K := by
  obtain ⟨h1, h2⟩ := h.other h.o6 (fun g hg => (h.d6 g hg).1) (fun g hg => (h.d6 g hg).2.1) ht h.bel.size
  refine ⟨h1, h2, ho, h.o7.kept ht.kept (fun g hg c => (h.d6 g c).2.2 hg), fun g hg => ?_, h.d7, h.nn, h.nw, h.bmw, h.lo, h.bel.trans ht.bel⟩
  rcases ht.mov g hg with c | c
  · exact h.d6 g c
  · exact ⟨fun n => by have := h.bl.bw.blob.lt.2 g n; omega, fun e => by have := h.bl.bw.id.lt.2; omega, fun c2 => by have := (h.o7.lt c2).2.1; omega⟩
theorem EW.push7 (h : EW w0 w pw pb p bm pp N S T Lc RL PL v6 v7 K) {v7' : Value} {m : Txt} (ho : OwnN encZB 1 w' w0.heap.size 9 v7' (PL ++ [m])) (ht : TurnN w0.heap.size w v7 w' v7') : EW w0 w' pw pb p bm pp N S T Lc RL (PL ++ [m]) v6 v7' K := by
  obtain ⟨h1, h2⟩ := h.other h.o7 (fun g hg => (h.d7 g hg).1) (fun g hg => (h.d7 g hg).2) ht h.bel.size
  refine ⟨h1, h2, h.o6.kept ht.kept (fun g hg c => (h.d6 g hg).2.2 c), ho, fun g hg => ?_, fun g hg => ?_, h.nn, h.nw, h.bmw, h.lo, h.bel.trans ht.bel⟩
  · obtain ⟨a, b, c⟩ := h.d6 g hg
    refine ⟨a, b, fun e => ?_⟩
    rcases ht.mov g e with c2 | c2
    · exact c c2
    · have := (h.o6.lt hg).2.1; omega
  · rcases ht.mov g hg with c | c
    · exact h.d7 g c
    · exact ⟨fun n => by have := h.bl.bw.blob.lt.2 g n; omega, fun e => by have := h.bl.bw.id.lt.2; omega⟩
theorem saveS_roots {S : List Txt} {T : List Ent} {Ls : List (List FileD)} (ts : TS S T) (live : ∀ l ∈ Ls, LiveS S l) (l : List FileD) (h : S.length + l.length ≤ 800000) :
    Ls.map (mkT (saveS S l)) = Ls.map (mkT S) ∧ needS (saveS S l) Ls = needS S Ls := by
  obtain ⟨a, b, c, d, e⟩ := BL_all ts live l h
  exact ⟨(roots_mark _ b).trans c, (needS_mark _ b).trans d⟩
theorem none_left {T : List Ent} {S : List Txt} (hT : TOk T) (hts : TS S T) (h : ∀ u, cntE S T u = 0) : T = [] := by
  cases T with
  | nil => rfl
  | cons x r =>
    exfalso
    have h2 := hts x (by simp)
    have := h x.s
    rw [cnt_in h2.1, ← h2.2, refsE_some (getE_of hT.nd (by simp))] at this
    have := hT.pos x (by simp)
    omega
end
end Go.Proofs.YtamiacmnobklaaaDoor

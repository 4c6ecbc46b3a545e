/- Walks of the kept sums: first. -/
import Derived.Test.YtjgoceebjmnjcaaDoorMap4W
import Derived.Test.YtjgoceebjmnjcaaDoorRefSumW
import Derived.Test.YtjgoceebjmnjcaaDoorQuietLaw
import Derived.Test.YtjgoceebjmnjcaaDoorAppendKeep
import Derived.BigQuiet
import Derived.Deep.QuietTactic
import Derived.Deep.RegionHeld3
import Derived.Deep.AppendLies
import Derived.Deep.RegionLaw
import Derived.BigRegion
import Derived.Deep.DeepCutAuto
import Derived.Deep.CutBlock
import Derived.WalkKit
import Derived.WalkSpells
import Derived.Lib.Hide
import Derived.WalkLawsBesides
import Derived.Outline
import Derived.IntWalk
set_option linter.unusedVariables false
namespace Go.Proofs.YtjgoceebjmnjcaaDoor
open Go.RowKit

/-- The kept sums are those of the first 0, 64, 128, .. bytes. -/
def Good (l : List UInt8) (K : List Nat) : Prop := 0 < K.length ∧ 64 * (K.length - 1) ≤ l.length ∧ ∀ i (h : i < K.length), K[i] = sumS (l.take (64 * i))
theorem sumS_nil : sumS [] = 0 := by unfold sumS addS; rw [crcN_nil, turn_turn]
theorem Good.start (l : List UInt8) : Good l [0] := ⟨by simp, by simp, fun i h => by
  have : i = 0 := by simpa using h
  subst this
  rw [Nat.mul_zero, List.take_zero, sumS_nil]
  rfl⟩
theorem sum_piece (l : List UInt8) (a b : Nat) (h : a ≤ b) : addS (sumS (l.take a)) ((l.take b).drop a) = sumS (l.take b) := by
  rw [← sumS_append]
  congr 1
  have : l.take a = (l.take b).take a := by rw [List.take_take, Nat.min_eq_left h]
  rw [this, List.take_append_drop]
theorem Good.next {l : List UInt8} {K : List Nat} (h : Good l K) (q : Nat) (hq : K.length = q + 1) (hl : 64 * (q + 1) ≤ l.length) : Good l (K ++ [sumS (l.take (64 * (q + 1)))]) := by
  refine ⟨by simp, by rw [List.length_append, hq]; simpa using hl, fun i hi => ?_⟩
  by_cases hk : i < K.length
  · rw [List.getElem_append_left hk]; exact h.2.2 i hk
  · have : i = q + 1 := by simp at hi; omega
    subst this
    rw [List.getElem_append_right (by omega)]
    simp [hq]

/-- The object of the kept sums in block S, its list in block kb. -/
structure SumsAt (w : World) (base S : Nat) (l : List UInt8) (kb cap : Nat) (zv : Value) (K : List Nat) : Prop where
  heap : w.heap[S]? = some (.cells #[.string ⟨l.toArray⟩, .slice (some ⟨kb, 0, none⟩) K.length cap, zv] 75 (0, 0))
  own : OwnL encN w base 3 (.slice (some ⟨kb, 0, none⟩) K.length cap) K
  z : ZRow w base zv 17
  good : Good l K
  at' : base ≤ S
theorem SumsAt.kb_at {w : World} {base S : Nat} {l : List UInt8} {kb cap : Nat} {zv : Value} {K : List Nat} (h : SumsAt w base S l kb cap zv K) : base ≤ kb ∧ kb < w.heap.size ∧ kb ≠ S := by
  rcases h.own.2 with ⟨hv, _⟩ | ⟨g, c, cur, hv, hb, hgg, _⟩
  · cases hv
  · simp at hv
    obtain ⟨rfl, _⟩ := hv
    refine ⟨hb, (Array.getElem?_eq_some_iff.1 hgg).1, ?_⟩
    rintro rfl
    rw [h.heap] at hgg
    simp at hgg
theorem SumsAt.get {w : World} {base S : Nat} {l : List UInt8} {kb cap : Nat} {zv : Value} {K : List Nat} (h : SumsAt w base S l kb cap zv K) (i : Nat) (hi : i < K.length) :
    w.cell? ⟨kb, i, none⟩ = some (.int .i64 (sumS (l.take (64 * i)) : Nat)) := by
  obtain ⟨a, c, hv, hc⟩ := h.own.row
  obtain ⟨b, off, ha, _, hcell⟩ := hc i hi
  simp at hv
  obtain ⟨rfl, _⟩ := hv
  simp at ha
  obtain ⟨rfl, rfl⟩ := ha
  rw [Nat.zero_add] at hcell
  rw [hcell, h.good.2.2 i hi]
theorem SumsAt.drewN {w : World} {base S : Nat} {l : List UInt8} {kb cap : Nat} {zv : Value} {K : List Nat} (h : SumsAt w base S l kb cap zv K) (n : Nat) : SumsAt (w.drewN n) base S l kb cap zv K :=
  ⟨h.heap, h.own, h.z, h.good, h.at'⟩
/-- What a call may turn that goes on with the kept sums. -/
abbrev SK (S kb : Nat) : Nat → Prop := fun k => k = S ∨ k = kb
theorem Tab.kept {w w' : World} {M : Nat → Prop} {base : Nat} (h : Tab w) (hk : Kept M w w') (hM : ∀ k, M k → base ≤ k) (hb : 0 < base) : Tab w' := by
  have hn : ¬ M 0 := fun m => by have := hM _ m; omega
  refine ⟨Nat.lt_of_lt_of_le h.1 hk.size, fun i hi => ?_⟩
  rw [World.cell?_of_block (w := w) (hk.block _ h.1 hn)]
  exact h.2 i hi
theorem tab_drew {w : World} (h : Hid (Tab w)) : Hid (Tab w.drew) := Lib.hid h.out
theorem tab_alloc {w : World} (h : Hid (Tab w)) (o : Obj) : Hid (Tab (w.alloc o)) := Lib.hid (h.out.below ((Below.refl _ _).alloc (Nat.le_refl _) _))
theorem tab_grown {w w' : World} {r : Option Nat} (h : Hid (Tab w)) (hg : w.grownBy w' r) (hr : r ≠ some 0) : Hid (Tab w') := by
  have h1 := h.out
  refine Lib.hid ⟨Nat.lt_of_lt_of_le h1.1 hg.size, fun i hi => ?_⟩
  rw [World.cell?_of_block (w := w) (hg.block _ h1.1 (fun e => hr e.symm))]
  exact h1.2 i hi
theorem cell_alloc {w : World} {a : Addr} {v : Value} (h : w.cell? a = some v) (o : Obj) : (w.alloc o).cell? a = some v := by
  rw [World.cell?_alloc_lt _ _ _ (World.block_lt_of_cell? w a h)]; exact h
theorem cell_drew {w : World} {a : Addr} {v : Value} (h : w.cell? a = some v) : w.drew.cell? a = some v := h
theorem cell_grown {w w' : World} {a : Addr} {v : Value} {r : Option Nat} (h : w.cell? a = some v) (hg : w.grownBy w' r) (hr : r ≠ some a.block) : w'.cell? a = some v := by
  rw [World.cell?_of_block (w := w) (hg.block _ (World.block_lt_of_cell? w a h) (fun e => hr e.symm))]; exact h
theorem kept_at {w : World} {kb q : Nat} {xs : List Value} {u : Value} (h : Hid (xs[q]? = some u)) (hk : ∀ j u, xs[j]? = some u → w.cell? ⟨kb, j, none⟩ = some u) : w.cell? ⟨kb, q, none⟩ = some u := hk q u h.out
theorem frozen_alloc {w : World} {a : Addr} {v : Value} (hc : w.cell? a = some v) (h : w.frozen? a = false) (o : Obj) : (w.alloc o).frozen? a = false := by
  rw [World.frozen?_of_block (w := w) (Below.heap_alloc w o a.block (World.block_lt_of_cell? w a hc))]; exact h
theorem frozen_drew {w : World} {a : Addr} (h : w.frozen? a = false) : w.drew.frozen? a = false := h
theorem frozen_grown {w w' : World} {a : Addr} {v : Value} {r : Option Nat} (hc : w.cell? a = some v) (h : w.frozen? a = false) (hg : w.grownBy w' r) (hr : r ≠ some a.block) : w'.frozen? a = false := by
  rw [World.frozen?_of_block (w := w) (hg.block _ (World.block_lt_of_cell? w a hc) (fun e => hr e.symm))]; exact h
theorem sums_info : (Tryd.prog.info? 75).map (·.size) = some 3 := by kernel_rfl

theorem Kept.drewN {M : Nat → Prop} {a w : World} (h : Kept M a w) (n : Nat) : Kept M a (w.drewN n) := h.trans ⟨rfl, rfl, rfl, Nat.le_refl _, fun _ _ _ => rfl⟩
theorem kept_new {M : Nat → Prop} {w a b : World} (h : Kept M w a) (k : Kept (fun k => M k ∨ w.heap.size ≤ k) a b) : Kept M w b :=
  ⟨k.os.trans h.os, k.tape.trans h.tape, k.output.trans h.output, Nat.le_trans h.size k.size, fun i hi hm => (k.block i (Nat.lt_of_lt_of_le hi h.size) (fun e => e.elim hm (fun e => by omega))).trans (h.block i hi hm)⟩
theorem kept_grown {w w' : World} {r : Nat} (hg : w.grownBy w' (some r)) : Kept (· = r) w w' := ⟨hg.os, hg.tape, hg.output, hg.size, fun k hk hm => hg.block k hk (fun e => hm (by simpa using e))⟩
theorem sums_next {wr w2 : World} {base S kb' cap' gg cap2 q z : Nat} {l : List UInt8} {zv : Value} {K' : List Nat} (hs : SumsAt wr base S l kb' cap' zv K') (hq : K'.length = q + 1) (hg : Good l (K' ++ [z]))
    (hown2 : w2.ownsRow base 3 1 (.slice (some ⟨gg, 0, none⟩) (q + 1 + 1) cap2) (q + 1 + 1) (K'.map encN ++ [.int .i64 z]))
    (hgrow : (wr.alloc (.cells #[.int .i64 z] 3)).drew.grownBy w2 (some kb')) (hat : gg = kb' ∨ gg = wr.heap.size + 1) :
    SumsAt (w2.setCell ⟨S, 1, none⟩ (.slice (some ⟨gg, 0, none⟩) (q + 1 + 1) cap2)) base S l gg cap2 zv (K' ++ [z]) ∧
      Kept (SK S kb') wr (w2.setCell ⟨S, 1, none⟩ (.slice (some ⟨gg, 0, none⟩) (q + 1 + 1) cap2)) := by
  obtain ⟨hk1, hk2, hk3⟩ := hs.kb_at
  have hSlt : S < wr.heap.size := (Array.getElem?_eq_some_iff.1 hs.heap).1
  have kW : Kept (SK S kb') wr w2 := ((Kept.refl (SK S kb') wr).alloc _).drew.trans ((kept_grown hgrow).mono (fun k _ e => .inr e))
  have hw2S : w2.heap[S]? = some (.cells #[.string ⟨l.toArray⟩, .slice (some ⟨kb', 0, none⟩) K'.length cap', zv] 75 (0, 0)) := by
    rw [hgrow.block S (by show S < (wr.alloc _).heap.size; simp; omega) (by simp; omega)]
    exact (Below.heap_alloc wr _ S hSlt).trans hs.heap
  have hgS : gg ≠ S := by
    rcases hat with rfl | rfl
    · exact hk3
    · omega
  have hlen : (K' ++ [z]).length = q + 1 + 1 := by rw [List.length_append, hq]; rfl
  refine ⟨⟨?_, ?_, ?_, hg, hs.at'⟩, kW.setCell (.inl rfl) _⟩
  · rw [heap_setCell_same w2 S 1 _ _ _ hw2S, hlen]
    rfl
  · unfold OwnL
    rw [hlen, List.map_append]
    refine World.ownsRow.kept (row := some S) hown2 ⟨rfl, rfl, rfl, by simp [World.setCell], fun k hk hne => heap_setCell_other _ _ _ _ (fun e => hne (by simp [e]))⟩ (.inr ?_)
    simp only [Value.ownBlock, ne_eq, Option.some.injEq]
    exact hgS
  · refine ⟨hs.z.1, ?_⟩
    rcases hs.z.2 with hn | ⟨g, cap, cur, rfl, hb, hgg, rest⟩
    · exact .inl hn
    · refine .inr ⟨g, cap, cur, rfl, hb, ?_, rest⟩
      have hgk : g ≠ kb' := by
        rintro rfl
        rcases hs.own.2 with ⟨hv, _⟩ | ⟨g3, c3, cur3, hv, _, hgg3, _⟩
        · cases hv
        · simp at hv
          obtain ⟨rfl, _⟩ := hv
          rw [hgg] at hgg3
          simp at hgg3
      have hgs : g ≠ S := by
        rintro rfl
        rw [hs.heap] at hgg
        simp at hgg
      rw [heap_setCell_other _ _ _ _ hgs, kW.block g (Array.getElem?_eq_some_iff.1 hgg).1 (fun e => e.elim hgs hgk)]
      exact hgg
theorem sums_rel {w wr w' : World} {base S kb kb' cap2 gg q z : Nat} {l : List UInt8} {zv : Value} {K' : List Nat} (hq : K'.length = q + 1) (h : SumsAt w' base S l gg cap2 zv (K' ++ [z]) ∧ Kept (SK S kb') wr w')
    (hat : gg = kb' ∨ gg = wr.heap.size + 1) (hkb : kb' = kb ∨ w.heap.size ≤ kb') (hk : Kept (SK S kb) w wr) :
    (K' ++ [z]).length = q + 1 + 1 ∧ SumsAt w' base S l gg cap2 zv (K' ++ [z]) ∧ (gg = kb ∨ w.heap.size ≤ gg) ∧ Kept (SK S kb) w w' := by
  refine ⟨by rw [List.length_append, hq]; rfl, h.1, ?_, kept_new hk (h.2.mono fun k _ e => ?_)⟩
  · rcases hat with rfl | rfl
    · exact hkb
    · right; have := hk.size; omega
  · rcases e with rfl | rfl
    · exact .inl (.inl rfl)
    · rcases hkb with rfl | hkb
      · exact .inl (.inr rfl)
      · exact .inr hkb

/-- What first does: its contract. -/
def FirstSpec : Prop := ∀ (base S n kb cap : Nat) (l : List UInt8) (zv : Value) (K : List Nat) (w : World), l.length ≤ 1000000 → n ≤ l.length → SumsAt w base S l kb cap zv K → 0 < base → base ≤ w.heap.size → Tab w →
    Calls Tryd.prog 46 #[.pointer (some ⟨S, 0, none⟩), .int .i64 n] w fun e w' => ∃ kb' cap' K', e = .returned (.int .i64 (sumS (l.take n) : Nat)) ∧
      SumsAt w' base S l kb' cap' zv K' ∧ (kb' = kb ∨ w.heap.size ≤ kb') ∧ Kept (SK S kb) w w'
end Go.Proofs.YtjgoceebjmnjcaaDoor

/- Several texts in one: AppendKeep, SumsW, SumsAW, SumsOW, SumsNW. -/
import Derived.Deep.AppendLies
import Derived.WalkKit
import Derived.Test.YtamiacmnobklaaaGreatDoorMpX
import Derived.Test.YtamiacmnobklaaaGreatDoorCrX
import Derived.Test.YtamiacmnobklaaaGreatDoorFrame
import Derived.Test.YtamiacmnobklaaaGreatDoorFrmShelf
import Derived.Test.YtamiacmnobklaaaGreatDoorGen
import Derived.Test.YtamiacmnobklaaaGreatDoorInfos
import Derived.Test.YtamiacmnobklaaaGreatDoorOwnL
import Derived.Test.YtamiacmnobklaaaGreatDoorRows
import Derived.BigQuiet
import Derived.BigRegion
import Derived.Deep.CutBlock
import Derived.Deep.DeepCutAuto
import Derived.Deep.QuietTactic
import Derived.Deep.RegionHeld3
import Derived.Deep.RegionLaw
import Derived.IntWalk
import Derived.Laws.BitsAllLaws
import Derived.Laws.Rows
import Derived.Laws.Tables
import Derived.Lib.Hide
import Derived.Lib.TrailingZeros
import Derived.Outline
import Derived.WalkLawsBesides
import Derived.WalkSpells
import Derived.Test.YtamiacmnobklaaaGreatDoorBitLaw
import Derived.Test.YtamiacmnobklaaaGreatDoorOnX
import Derived.Deep.Onto
/- append to a list of the call's own, said with what the old block still holds: where a region that draws its order has read it ahead. Of no program. -/
set_option linter.unusedVariables false
namespace Go.Proofs.YtamiacmnobklaaaGreatDoor
open Go.RowKit

theorem addr_add (g j : Nat) : (⟨g, 0, none⟩ : Addr).add j = ⟨g, j, none⟩ := by unfold Addr.add; split <;> simp_all

theorem run_append_keep {P : Program} (w : World) (t ty : TypeId) (base : Nat) (e : TypeId) (i : TypeInfo) (z : Value) (bytes : Nat) (ht : P.underlying t = some (.slice e)) (hi : P.info? e = some i) (hz : i.zero = some z)
    (hsize : i.size = 1) (hby : i.bytes = bytes) (hzs : z.cells.size = 1)
    (kb n cap : Nat) (xs : List Value) (hown : w.ownsRow base e 1 (.slice (some ⟨kb, 0, none⟩) n cap) n xs)
    (ad : Addr) (m c : Nat) (news : List Value) (hl : news.length = m * 1) (hnews : ∀ j u, news[j]? = some u → w.cell? (ad.add j) = some u) (h1 : ∀ u ∈ news, u.oneCell' = true)
    (hm : 0 < m) (h63 : n + m ≤ maxLen) (hbytes : (n + m) * bytes ≤ 140737488355328) (hbase : base ≤ w.heap.size) (H : Nat) (hH : w.heap.size = H) :
    ∃ g cap' w', (Builtin.append_ #[t, t] ty #[.slice (some ⟨kb, 0, none⟩) n cap, .slice (some ad) m c]).run P w = .ok (.slice (some ⟨g, 0, none⟩) (n + m) cap') w' ∧
      w'.ownsRow base e 1 (.slice (some ⟨g, 0, none⟩) (n + m) cap') (n + m) (xs ++ news) ∧ w.grownBy w' (some kb) ∧ (g = kb ∨ g = H) ∧ g < w'.heap.size ∧
      ∀ j u, xs[j]? = some u → w'.cell? ⟨kb, j, none⟩ = some u := by
  obtain ⟨g, cap', w', hr, h2, h3, h4, h5⟩ := run_append_lies (P := P) w t ty base e i z 1 bytes ht hi hz hsize hby hzs (by decide) _ n xs hown ad m c news hl hnews h1 hm h63 hbytes hbase H hH
  refine ⟨g, cap', w', hr, h2, h3, ?_, h5, ?_⟩
  · rcases h4 with h4 | h4
    · left; simpa [Value.ownBlock] using h4.symm
    · exact .inr h4
  · intro j u hj
    have holds : ∀ j u, xs[j]? = some u → w.cell? ((⟨kb, 0, none⟩ : Addr).add j) = some u := hown.cells (g := kb) rfl
    rcases hown.2 with ⟨hv, _⟩ | ⟨g2, cap2, cur, hv, hbg, hg, hnc, hcm, hcs, htake⟩
    · cases hv
    · simp at hv
      obtain ⟨rfl, rfl⟩ := hv
      by_cases hroom : n + m ≤ cap
      · have hr2 := run_append_room (P := P) w t ty e i ht hi kb n cap cur hg ad m c news (by rw [hsize]; exact hl) hnews h1 hroom (by rw [hsize, hl, hcs]; omega)
        rw [hr] at hr2
        injection hr2 with _ hw
        rw [hw, cell_of_row _ kb j _ _ _ (setRow_heap w kb cur _ e _ hg)]
        have hjl : j < xs.length := (List.getElem?_eq_some_iff.1 hj).1
        rw [hsize, htake]
        simp only [List.getElem?_toArray, List.append_assoc]
        rw [List.getElem?_append_left hjl]
        exact hj
      · have hr2 := run_append_grow (P := P) w t ty e i z ht hi hz ⟨kb, 0, none⟩ n cap xs (by rw [hsize]; exact hown.1) holds ad m c news (by rw [hsize]; exact hl) hnews (by omega) (by unfold maxLen at h63; omega) (growslice_fits (by omega) (by rw [hby]; exact hbytes))
        rw [hr] at hr2
        injection hr2 with _ hw
        have hc := holds j u hj
        rw [addr_add] at hc
        rw [hw, World.cell?_alloc_lt _ _ _ (by show kb < w.heap.size; exact (Array.getElem?_eq_some_iff.1 hg).1)]
        exact hc

theorem step_append_keep {P : Program} (w : World) {ops : Array Oper} {o : Oper} {a : Act} {K : Act → World → Prop} {Q : Exit → Act → World → Prop} {E : Prop} (hgd : o.guard = none) (s x : Operand) (t : TypeId)
    (ho : o.op = .call { callee := .builtin .append, args := #[s, x], argTypes := #[t, t] })
    (base : Nat) (e : TypeId) (i : TypeInfo) (z : Value) (bytes : Nat) (ht : P.underlying t = some (.slice e)) (hi : P.info? e = some i) (hz : i.zero = some z)
    (hsize : i.size = 1) (hby : i.bytes = bytes) (hzs : z.cells.size = 1)
    (kb n cap : Nat) (xs : List Value) (hs : a.eval s = .slice (some ⟨kb, 0, none⟩) n cap) (hown : w.ownsRow base e 1 (.slice (some ⟨kb, 0, none⟩) n cap) n xs)
    (ad : Addr) (m c : Nat) (news : List Value) (hx : a.eval x = .slice (some ad) m c) (hl : news.length = m * 1) (hnews : ∀ j u, news[j]? = some u → w.cell? (ad.add j) = some u) (h1 : ∀ u ∈ news, u.oneCell' = true)
    (hm : 0 < m) (h63 : n + m ≤ maxLen) (hbytes : (n + m) * bytes ≤ 140737488355328) (hbase : base ≤ w.heap.size) (H : Nat) (hH : w.heap.size = H)
    (h : ∀ g cap' w', w'.ownsRow base e 1 (.slice (some ⟨g, 0, none⟩) (n + m) cap') (n + m) (xs ++ news) → w.grownBy w' (some kb) → (g = kb ∨ g = H) → g < w'.heap.size → (∀ j u, xs[j]? = some u → w'.cell? ⟨kb, j, none⟩ = some u) →
      K (a.put o.dst (.slice (some ⟨g, 0, none⟩) (n + m) cap')) w') :
    if Region.wanted o (yielded ops a.tmps) = true then Oper.wp P o a w K Q else E := by
  have hw : Region.wanted o (yielded ops a.tmps) = true := by simp [Region.wanted, hgd]
  rw [if_pos hw]
  obtain ⟨g, cap', w', hr, h2, h3, h4, h5, h6⟩ := run_append_keep (P := P) w t o.type base e i z bytes ht hi hz hsize hby hzs kb n cap xs hown ad m c news hl hnews h1 hm h63 hbytes hbase H hH
  unfold Oper.wp execOp
  simp only [ho, resolve, invoke, builtin, Sem.run_bind, Sem.run_pure, Result.andThen_ok, List.map_toArray, List.map_cons, List.map_nil, hs, hx, hr]
  exact h g cap' w' h2 h3 h4 h5 h6
end Go.Proofs.YtamiacmnobklaaaGreatDoor
/- Walks of the kept sums: first. -/
set_option linter.unusedVariables false
namespace Go.Proofs.YtamiacmnobklaaaGreatDoor
open Go.RowKit

/-- The kept sums are those of the first 0, 64, 128, .. bytes. -/
def Good (l : List UInt8) (K : List Nat) : Prop := 0 < K.length ∧ 64 * (K.length - 1) ≤ l.length ∧ ∀ i (h : i < K.length), K[i] = sumS (l.take (64 * i))
theorem sumS_nil : sumS [] = 0 := by unfold sumS addS; rw [crcN_nil, turn_turn]
theorem Good.start (l : List UInt8) : Good l [0] := ⟨by simp, by simp, fun i h => by
  have : i = 0 := by simpa using h
  subst this
  rw [Nat.mul_zero, List.take_zero, sumS_nil]
  rfl⟩
theorem sum_piece (l : List UInt8) (a b : Nat) (h : a ≤ b) : addS (sumS (l.take a)) ((l.take b).drop a) = sumS (l.take b) := by
  rw [← sumS_append]
  congr 1
  have : l.take a = (l.take b).take a := by rw [List.take_take, Nat.min_eq_left h]
  rw [this, List.take_append_drop]
theorem Good.next {l : List UInt8} {K : List Nat} (h : Good l K) (q : Nat) (hq : K.length = q + 1) (hl : 64 * (q + 1) ≤ l.length) : Good l (K ++ [sumS (l.take (64 * (q + 1)))]) := by
  refine ⟨by simp, by rw [List.length_append, hq]; simpa using hl, fun i hi => ?_⟩
  by_cases hk : i < K.length
  · rw [List.getElem_append_left hk]; exact h.2.2 i hk
  · have : i = q + 1 := by simp at hi; omega
    subst this
    rw [List.getElem_append_right (by omega)]
    simp [hq]

/-- The object of the kept sums in block S, its list in block kb. -/
structure SumsAt (w : World) (base S : Nat) (l : List UInt8) (kb cap : Nat) (zv : Value) (K : List Nat) : Prop where
  heap : w.heap[S]? = some (.cells #[.string ⟨l.toArray⟩, .slice (some ⟨kb, 0, none⟩) K.length cap, zv] 161 (0, 0))
  own : OwnL encN w base 3 (.slice (some ⟨kb, 0, none⟩) K.length cap) K
  z : ZRow w base zv 17
  good : Good l K
  at' : base ≤ S
theorem SumsAt.kb_at {w : World} {base S : Nat} {l : List UInt8} {kb cap : Nat} {zv : Value} {K : List Nat} (h : SumsAt w base S l kb cap zv K) : base ≤ kb ∧ kb < w.heap.size ∧ kb ≠ S := by
  rcases h.own.2 with ⟨hv, _⟩ | ⟨g, c, cur, hv, hb, hgg, _⟩
  · cases hv
  · simp at hv
    obtain ⟨rfl, _⟩ := hv
    refine ⟨hb, (Array.getElem?_eq_some_iff.1 hgg).1, ?_⟩
    rintro rfl
    rw [h.heap] at hgg
    simp at hgg
theorem SumsAt.get {w : World} {base S : Nat} {l : List UInt8} {kb cap : Nat} {zv : Value} {K : List Nat} (h : SumsAt w base S l kb cap zv K) (i : Nat) (hi : i < K.length) :
    w.cell? ⟨kb, i, none⟩ = some (.int .i64 (sumS (l.take (64 * i)) : Nat)) := by
  obtain ⟨a, c, hv, hc⟩ := h.own.row
  obtain ⟨b, off, ha, _, hcell⟩ := hc i hi
  simp at hv
  obtain ⟨rfl, _⟩ := hv
  simp at ha
  obtain ⟨rfl, rfl⟩ := ha
  rw [Nat.zero_add] at hcell
  rw [hcell, h.good.2.2 i hi]
theorem SumsAt.drewN {w : World} {base S : Nat} {l : List UInt8} {kb cap : Nat} {zv : Value} {K : List Nat} (h : SumsAt w base S l kb cap zv K) (n : Nat) : SumsAt (w.drewN n) base S l kb cap zv K :=
  ⟨h.heap, h.own, h.z, h.good, h.at'⟩
/-- What a call may turn that goes on with the kept sums. -/
abbrev SK (S kb : Nat) : Nat → Prop := fun k => k = S ∨ k = kb
theorem Tab.kept {w w' : World} {M : Nat → Prop} {base : Nat} (h : Tab w) (hk : Kept M w w') (hM : ∀ k, M k → base ≤ k) (hb : 0 < base) : Tab w' := by
  have hn : ¬ M 0 := fun m => by have := hM _ m; omega
  refine ⟨Nat.lt_of_lt_of_le h.1 hk.size, fun i hi => ?_⟩
  rw [World.cell?_of_block (w := w) (hk.block _ h.1 hn)]
  exact h.2 i hi
theorem tab_drew {w : World} (h : Hid (Tab w)) : Hid (Tab w.drew) := Lib.hid h.out
theorem tab_alloc {w : World} (h : Hid (Tab w)) (o : Obj) : Hid (Tab (w.alloc o)) := Lib.hid (h.out.below ((Below.refl _ _).alloc (Nat.le_refl _) _))
theorem tab_grown {w w' : World} {r : Option Nat} (h : Hid (Tab w)) (hg : w.grownBy w' r) (hr : r ≠ some 0) : Hid (Tab w') := by
  have h1 := h.out
  refine Lib.hid ⟨Nat.lt_of_lt_of_le h1.1 hg.size, fun i hi => ?_⟩
  rw [World.cell?_of_block (w := w) (hg.block _ h1.1 (fun e => hr e.symm))]
  exact h1.2 i hi
theorem cell_alloc {w : World} {a : Addr} {v : Value} (h : w.cell? a = some v) (o : Obj) : (w.alloc o).cell? a = some v := by
  rw [World.cell?_alloc_lt _ _ _ (World.block_lt_of_cell? w a h)]; exact h
theorem cell_drew {w : World} {a : Addr} {v : Value} (h : w.cell? a = some v) : w.drew.cell? a = some v := h
theorem cell_grown {w w' : World} {a : Addr} {v : Value} {r : Option Nat} (h : w.cell? a = some v) (hg : w.grownBy w' r) (hr : r ≠ some a.block) : w'.cell? a = some v := by
  rw [World.cell?_of_block (w := w) (hg.block _ (World.block_lt_of_cell? w a h) (fun e => hr e.symm))]; exact h
theorem row_kept_at {w : World} {kb q : Nat} {xs : List Value} {u : Value} (h : Hid (xs[q]? = some u)) (hk : ∀ j u, xs[j]? = some u → w.cell? ⟨kb, j, none⟩ = some u) : w.cell? ⟨kb, q, none⟩ = some u := hk q u h.out
theorem frozen_alloc {w : World} {a : Addr} {v : Value} (hc : w.cell? a = some v) (h : w.frozen? a = false) (o : Obj) : (w.alloc o).frozen? a = false := by
  rw [World.frozen?_of_block (w := w) (Below.heap_alloc w o a.block (World.block_lt_of_cell? w a hc))]; exact h
theorem frozen_drew {w : World} {a : Addr} (h : w.frozen? a = false) : w.drew.frozen? a = false := h
theorem frozen_grown {w w' : World} {a : Addr} {v : Value} {r : Option Nat} (hc : w.cell? a = some v) (h : w.frozen? a = false) (hg : w.grownBy w' r) (hr : r ≠ some a.block) : w'.frozen? a = false := by
  rw [World.frozen?_of_block (w := w) (hg.block _ (World.block_lt_of_cell? w a hc) (fun e => hr e.symm))]; exact h
theorem sums_info : (Tryz.prog.info? 161).map (·.size) = some 3 := by kernel_rfl

theorem kept_new {M : Nat → Prop} {w a b : World} (h : Kept M w a) (k : Kept (fun k => M k ∨ w.heap.size ≤ k) a b) : Kept M w b :=
  ⟨k.os.trans h.os, k.tape.trans h.tape, k.output.trans h.output, Nat.le_trans h.size k.size, fun i hi hm => (k.block i (Nat.lt_of_lt_of_le hi h.size) (fun e => e.elim hm (fun e => by omega))).trans (h.block i hi hm)⟩
theorem kept_grown {w w' : World} {r : Nat} (hg : w.grownBy w' (some r)) : Kept (· = r) w w' := ⟨hg.os, hg.tape, hg.output, hg.size, fun k hk hm => hg.block k hk (fun e => hm (by simpa using e))⟩
theorem sums_next {wr w2 : World} {base S kb' cap' gg cap2 q z : Nat} {l : List UInt8} {zv : Value} {K' : List Nat} (hs : SumsAt wr base S l kb' cap' zv K') (hq : K'.length = q + 1) (hg : Good l (K' ++ [z]))
    (hown2 : w2.ownsRow base 3 1 (.slice (some ⟨gg, 0, none⟩) (q + 1 + 1) cap2) (q + 1 + 1) (K'.map encN ++ [.int .i64 z]))
    (hgrow : (wr.alloc (.cells #[.int .i64 z] 3)).drew.grownBy w2 (some kb')) (hat : gg = kb' ∨ gg = wr.heap.size + 1) :
    SumsAt (w2.setCell ⟨S, 1, none⟩ (.slice (some ⟨gg, 0, none⟩) (q + 1 + 1) cap2)) base S l gg cap2 zv (K' ++ [z]) ∧
      Kept (SK S kb') wr (w2.setCell ⟨S, 1, none⟩ (.slice (some ⟨gg, 0, none⟩) (q + 1 + 1) cap2)) := by
  obtain ⟨hk1, hk2, hk3⟩ := hs.kb_at
  have hSlt : S < wr.heap.size := (Array.getElem?_eq_some_iff.1 hs.heap).1
  have kW : Kept (SK S kb') wr w2 := ((Kept.refl (SK S kb') wr).alloc _).drew.trans ((kept_grown hgrow).mono (fun k _ e => .inr e))
  have hw2S : w2.heap[S]? = some (.cells #[.string ⟨l.toArray⟩, .slice (some ⟨kb', 0, none⟩) K'.length cap', zv] 161 (0, 0)) := by
    rw [hgrow.block S (by show S < (wr.alloc _).heap.size; simp; omega) (by simp; omega)]
    exact (Below.heap_alloc wr _ S hSlt).trans hs.heap
  have hgS : gg ≠ S := by
    rcases hat with rfl | rfl
    · exact hk3
    · omega
  have hlen : (K' ++ [z]).length = q + 1 + 1 := by rw [List.length_append, hq]; rfl
  refine ⟨⟨?_, ?_, ?_, hg, hs.at'⟩, kW.setCell (.inl rfl) _⟩
  · rw [heap_setCell_same w2 S 1 _ _ _ hw2S, hlen]
    rfl
  · unfold OwnL
    rw [hlen, List.map_append]
    refine World.ownsRow.kept (row := some S) hown2 ⟨rfl, rfl, rfl, by simp [World.setCell], fun k hk hne => heap_setCell_other _ _ _ _ (fun e => hne (by simp [e]))⟩ (.inr ?_)
    simp only [Value.ownBlock, ne_eq, Option.some.injEq]
    exact hgS
  · refine ⟨hs.z.1, ?_⟩
    rcases hs.z.2 with hn | ⟨g, cap, cur, rfl, hb, hgg, rest⟩
    · exact .inl hn
    · refine .inr ⟨g, cap, cur, rfl, hb, ?_, rest⟩
      have hgk : g ≠ kb' := by
        rintro rfl
        rcases hs.own.2 with ⟨hv, _⟩ | ⟨g3, c3, cur3, hv, _, hgg3, _⟩
        · cases hv
        · simp at hv
          obtain ⟨rfl, _⟩ := hv
          rw [hgg] at hgg3
          simp at hgg3
      have hgs : g ≠ S := by
        rintro rfl
        rw [hs.heap] at hgg
        simp at hgg
      rw [heap_setCell_other _ _ _ _ hgs, kW.block g (Array.getElem?_eq_some_iff.1 hgg).1 (fun e => e.elim hgs hgk)]
      exact hgg
theorem sums_rel {w wr w' : World} {base S kb kb' cap2 gg q z : Nat} {l : List UInt8} {zv : Value} {K' : List Nat} (hq : K'.length = q + 1) (h : SumsAt w' base S l gg cap2 zv (K' ++ [z]) ∧ Kept (SK S kb') wr w')
    (hat : gg = kb' ∨ gg = wr.heap.size + 1) (hkb : kb' = kb ∨ w.heap.size ≤ kb') (hk : Kept (SK S kb) w wr) :
    (K' ++ [z]).length = q + 1 + 1 ∧ SumsAt w' base S l gg cap2 zv (K' ++ [z]) ∧ (gg = kb ∨ w.heap.size ≤ gg) ∧ Kept (SK S kb) w w' := by
  refine ⟨by rw [List.length_append, hq]; rfl, h.1, ?_, kept_new hk (h.2.mono fun k _ e => ?_)⟩
  · rcases hat with rfl | rfl
    · exact hkb
    · right; have := hk.size; omega
  · rcases e with rfl | rfl
    · exact .inl (.inl rfl)
    · rcases hkb with rfl | hkb
      · exact .inl (.inr rfl)
      · exact .inr hkb

/-- What first does: its contract. -/
def FirstSpec : Prop := ∀ (base S n kb cap : Nat) (l : List UInt8) (zv : Value) (K : List Nat) (w : World), l.length ≤ 1000000 → n ≤ l.length → SumsAt w base S l kb cap zv K → 0 < base → base ≤ w.heap.size → Tab w →
    Calls Tryz.prog 116 #[.pointer (some ⟨S, 0, none⟩), .int .i64 n] w fun e w' => ∃ kb' cap' K', e = .returned (.int .i64 (sumS (l.take n) : Nat)) ∧
      SumsAt w' base S l kb' cap' zv K' ∧ (kb' = kb ∨ w.heap.size ≤ kb') ∧ Kept (SK S kb) w w'
end Go.Proofs.YtamiacmnobklaaaGreatDoor
/- The walk of add, by what first does. -/
set_option linter.unusedVariables false
namespace Go.Proofs.YtamiacmnobklaaaGreatDoor
open Go.RowKit

/-- The kept sums stand, wherever their list lies now. -/
def SumsUp (w : World) (base S : Nat) (l : List UInt8) (zv : Value) (w0 : World) (kb0 : Nat) : Prop :=
  ∃ kb cap K, SumsAt w base S l kb cap zv K ∧ (kb = kb0 ∨ w0.heap.size ≤ kb) ∧ Kept (SK S kb0) w0 w ∧ Tab w ∧ BTab w
theorem BTab.kept {w w' : World} {M : Nat → Prop} {base : Nat} (h : BTab w) (hk : Kept M w w') (hM : ∀ k, M k → base ≤ k) (hb : 1 < base) : BTab w' := by
  have hn : ¬ M 1 := fun m => by have := hM _ m; omega
  refine ⟨Nat.lt_of_lt_of_le h.1 hk.size, fun i hi => ?_⟩
  rw [World.cell?_of_block (w := w) (hk.block _ h.1 hn)]
  exact h.2 i hi
theorem SumsUp.cell {w : World} {base S : Nat} {l : List UInt8} {zv : Value} {w0 : World} {kb0 : Nat} (h : SumsUp w base S l zv w0 kb0) : w.cell? ⟨S, 2, none⟩ = some zv := by
  obtain ⟨kb, cap, K, hs, _⟩ := h
  rw [cell_of_row _ _ _ _ _ _ hs.heap]; rfl
theorem SumsUp.z {w : World} {base S : Nat} {l : List UInt8} {zv : Value} {w0 : World} {kb0 : Nat} (h : SumsUp w base S l zv w0 kb0) : ZRow w base zv 17 := by
  obtain ⟨kb, cap, K, hs, _⟩ := h
  exact hs.z
theorem SumsUp.bt {w : World} {base S : Nat} {l : List UInt8} {zv : Value} {w0 : World} {kb0 : Nat} (h : SumsUp w base S l zv w0 kb0) : BTab w := by
  obtain ⟨kb, cap, K, hs, _, _, _, h⟩ := h
  exact h
theorem SumsUp.start {w : World} {base S kb cap : Nat} {l : List UInt8} {zv : Value} {K : List Nat} (h : SumsAt w base S l kb cap zv K) (ht : Tab w) (hT : BTab w) : SumsUp w base S l zv w kb :=
  ⟨kb, cap, K, h, .inl rfl, Kept.refl _ _, ht, hT⟩
theorem SumsUp.drewN {w : World} {base S : Nat} {l : List UInt8} {zv : Value} {w0 : World} {kb0 : Nat} (h : SumsUp w base S l zv w0 kb0) (n : Nat) : SumsUp (w.drewN n) base S l zv w0 kb0 := by
  obtain ⟨kb, cap, K, hs, h1, h2, h3, h4⟩ := h
  exact ⟨kb, cap, K, hs.drewN n, h1, h2.drewN n, h3, h4⟩
theorem SumsUp.drew {w : World} {base S : Nat} {l : List UInt8} {zv : Value} {w0 : World} {kb0 : Nat} (h : SumsUp w base S l zv w0 kb0) : SumsUp w.drew base S l zv w0 kb0 := h.drewN 1
/-- first, from wherever the kept sums stand. -/
theorem first_up (F : FirstSpec) {base S n kb0 : Nat} {l : List UInt8} {zv : Value} {w w0 : World} (hl : l.length ≤ 1000000) (hn : n ≤ l.length) (hb : 1 < base) (hb0 : base ≤ w0.heap.size) (hkb : base ≤ kb0) (h : SumsUp w base S l zv w0 kb0) :
    Calls Tryz.prog 116 #[.pointer (some ⟨S, 0, none⟩), .int .i64 n] w fun e w' => e = .returned (.int .i64 (sumS (l.take n) : Nat)) ∧ SumsUp w' base S l zv w0 kb0 := by
  obtain ⟨kb, cap, K, hs, h1, h2, h3, h4⟩ := h
  refine (F base S n kb cap l zv K w hl hn hs (by omega) (Nat.le_trans hb0 h2.size) h3).mono ?_
  rintro e w' ⟨kb', cap', K', rfl, hs', hk', hkept⟩
  have hM : ∀ k, SK S kb k → base ≤ k := by
    rintro k (rfl | rfl)
    · exact hs.at'
    · exact hs.kb_at.1
  refine ⟨rfl, kb', cap', K', hs', ?_, kept_new h2 (hkept.mono fun k _ e => ?_), h3.kept hkept hM (by omega), h4.kept hkept hM hb⟩
  · rcases hk' with rfl | hk'
    · exact h1
    · right; have := h2.size; omega
  · rcases e with rfl | rfl
    · exact .inl (.inl rfl)
    · rcases h1 with rfl | h1
      · exact .inl (.inr rfl)
      · exact .inr h1

/-- What a sum becomes by a piece of the text, told by the kept sums. -/
theorem add_math (l : List UInt8) (s a b : Nat) (hab : a ≤ b) (hb : b ≤ l.length) : sumS (l.take b) ^^^ stpN (8 * (b - a)) (sumS (l.take a) ^^^ s) = addS s ((l.take b).drop a) := by
  have h1 := addS_lin s (sumS (l.take a) ^^^ s) ((l.take b).drop a)
  have e1 : s ^^^ (sumS (l.take a) ^^^ s) = sumS (l.take a) := by rw [Nat.xor_comm (sumS _), xor_twice]
  have e2 : ((l.take b).drop a).length = b - a := by simp; omega
  rw [e1, e2, sum_piece l a b hab] at h1
  rw [h1, Nat.xor_assoc, Nat.xor_self, Nat.xor_zero]

set_option maxRecDepth 100000 in
set_option maxHeartbeats 2000000 in
theorem sadd_any (F : FirstSpec) (base S s a b kb0 : Nat) (l : List UInt8) (zv : Value) (w w0 : World) (hl : l.length ≤ 1000000) (hab : a ≤ b) (hbl : b ≤ l.length) (hba : b - a ≤ 65536) (hs : s < 4294967296)
    (hb : 1 < base) (hb0 : base ≤ w0.heap.size) (hkb : base ≤ kb0) (h : SumsUp w base S l zv w0 kb0) :
    Calls Tryz.prog 82 #[.pointer (some ⟨S, 0, none⟩), .int .i64 s, .int .i64 a, .int .i64 b] w fun e w' => e = .returned (.int .i64 (addS s ((l.take b).drop a) : Nat)) ∧ SumsUp w' base S l zv w0 kb0 := by
  have HM := Lib.hid (add_math l s a b hab hbl)
  have FA := fun w' h => Lib.hid (first_up F (S := S) (zv := zv) (n := a) (w := w') hl (by omega) hb hb0 hkb h)
  have FB := fun w' h => Lib.hid (first_up F (S := S) (zv := zv) (n := b) (w := w') hl hbl hb hb0 hkb h)
  have c2 := h.cell
  have hsa := sumS_lt (l.take a)
  have hsb := sumS_lt (l.take b)
  have e1 := i64_xor_nat (sumS (l.take a)) s (by omega) (by omega)
  have hx := Nat.xor_lt_two_pow (n := 32) (x := sumS (l.take a)) (y := s) (by omega) (by omega)
  have hst := stpN_lt (8 * (b - a)) (sumS (l.take a) ^^^ s) (by omega)
  have e2 := i64_xor_nat (sumS (l.take b)) (stpN (8 * (b - a)) (sumS (l.take a) ^^^ s)) (by omega) (by omega)
  rw [HM.out] at e2
  have p17 : (2 : Nat) ^ 17 = 131072 := by decide
  have h17 : b - a < 2 ^ 17 := by omega
  clear p17
  have M := fun w' hz hT => Lib.hid (move_any ((sumS (l.take a) ^^^ s : Nat) : Int) (sumS (l.take a) ^^^ s) (b - a) 17 base zv w' (by omega) (by omega) h17 (by omega) (by omega) hz hT)
  have W1 : IntKind.i64.wrap ((b : Int) - (a : Int)) = ((b - a : Nat) : Int) := by rw [IntWalk.i64_in _ (by omega)]; omega
  have H := Lib.hid h; clear h
  generalize sumS (l.take a) ^^^ s = x at *
  generalize sumS (l.take a) = sa at *
  generalize sumS (l.take b) = sb at *
  generalize stpN (8 * (b - a)) x = y at *
  generalize b - a = n at *
  generalize addS s ((l.take b).drop a) = r at *
  clear h17
  go_enter Tryz.func82, Tryz.ntmps82
  go_wp2
  go_region_held3 (fun w' => w'.cell? ⟨S, 2, none⟩ = some zv ∧ Hid (SumsUp w' base S l zv w0 kb0))
    (first
      | (go_split_ands; refine ⟨?_, ?_⟩ <;> first | assumption | exact cell_drew (by assumption) | exact Lib.hid (SumsUp.drew (Hid.out (by assumption))) | exact SumsUp.cell (by assumption) | exact Lib.hid (by assumption) | exact Lib.hid (SumsUp.drewN (Hid.out (by assumption)) _)))
    (first
      | (go_at_call_of 116 (Value.int .i64 b); go_split_ands; refine (FB _ (Hid.out (by assumption))).out.mono ?_; rintro e w' ⟨rfl, hup⟩)
      | (go_at_call_of 116 (Value.int .i64 a); go_split_ands; refine (FA _ (Hid.out (by assumption))).out.mono ?_; rintro e w' ⟨rfl, hup⟩)
      | (go_at_call 117; go_split_ands; refine (M _ (SumsUp.z (Hid.out (by assumption))) (SumsUp.bt (Hid.out (by assumption)))).out.mono ?_; rintro e w' ⟨m, rfl, rfl⟩))
  go_wp2
  go_ret
  exact ⟨rfl, SumsUp.drewN hup _⟩
end Go.Proofs.YtamiacmnobklaaaGreatDoor
/- The walk of Scan's closure, and of one by it. -/
set_option linter.unusedVariables false
namespace Go.Proofs.YtamiacmnobklaaaGreatDoor
open Go.RowKit

theorem SumsUp.old {w : World} {base S : Nat} {l : List UInt8} {zv : Value} {w0 : World} {kb0 : Nat} (h : SumsUp w base S l zv w0 kb0) {p : Addr} {v : Value} (hc : w0.cell? p = some v) (h1 : p.block ≠ S) (h2 : p.block ≠ kb0) : w.cell? p = some v := by
  obtain ⟨kb, cap, K, hs, _, hk, _⟩ := h
  rw [World.cell?_of_block (w := w0) (hk.block _ (World.block_lt_of_cell? w0 p hc) (fun e => e.elim h1 h2))]
  exact hc
theorem SumsAt.below {w w' : World} {base S : Nat} {l : List UInt8} {kb cap : Nat} {zv : Value} {K : List Nat} (h : SumsAt w base S l kb cap zv K) (hb : Below w.heap.size w w') : SumsAt w' base S l kb cap zv K := by
  refine ⟨(hb.block S (Array.getElem?_eq_some_iff.1 h.heap).1).trans h.heap, ?_, h.z.kept fun g _ hg => hb.block g hg, h.good, h.at'⟩
  refine ⟨h.own.1, ?_⟩
  rcases h.own.2 with hn | ⟨g, cap, cur, hv, hg, hgg, rest⟩
  · exact .inl hn
  · exact .inr ⟨g, cap, cur, hv, hg, (hb.block g (Array.getElem?_eq_some_iff.1 hgg).1).trans hgg, rest⟩
theorem SumsUp.below {w w' : World} {base S : Nat} {l : List UInt8} {zv : Value} {w0 : World} {kb0 : Nat} (h : SumsUp w base S l zv w0 kb0) (hb : Below w.heap.size w w') : SumsUp w' base S l zv w0 kb0 := by
  obtain ⟨kb, cap, K, hs, h1, hk, h3, h4⟩ := h
  exact ⟨kb, cap, K, hs.below hb, h1, hk.trans ⟨hb.os, hb.tape, hb.output, hb.size, fun k hk _ => hb.block k hk⟩, h3.below hb, h4.below hb⟩
theorem drop_piece (l : List UInt8) (at' a b : Nat) : (l.take (at' + b)).drop (at' + a) = ((l.drop at').take b).drop a := by
  rw [List.take_drop, List.drop_drop]

set_option maxHeartbeats 1000000 in
theorem scanAdd_any (F : FirstSpec) (base S s a b at' kb0 : Nat) (l : List UInt8) (zv : Value) (w w0 : World) (p q : Addr) (B : Int) (hB : B = b) (hl : l.length ≤ 1000000) (hab : a ≤ b) (hbl : at' + b ≤ l.length) (hba : b - a ≤ 65536) (hs : s < 4294967296)
    (hb : 1 < base) (hb0 : base ≤ w0.heap.size) (hkb : base ≤ kb0) (h : SumsUp w base S l zv w0 kb0)
    (hp : w0.cell? p = some (.pointer (some ⟨S, 0, none⟩))) (hq : w0.cell? q = some (.int .i64 at')) (hp1 : p.block ≠ S) (hp2 : p.block ≠ kb0) (hq1 : q.block ≠ S) (hq2 : q.block ≠ kb0) :
    Calls Tryz.prog 81 #[.int .i64 s, .int .i64 a, .int .i64 B, .pointer (some p), .pointer (some q)] w fun e w' => e = .returned (.int .i64 (addS s (((l.drop at').take b).drop a) : Nat)) ∧ SumsUp w' base S l zv w0 kb0 := by
  subst hB
  have C := Lib.hid (sadd_any F base S s (at' + a) (at' + b) kb0 l zv w w0 hl (by omega) hbl (by omega) hs hb hb0 hkb h)
  rw [drop_piece] at C
  have c1 := h.old hp hp1 hp2
  have c2 := h.old hq hq1 hq2
  have W1 : IntKind.i64.wrap ((at' : Int) + (a : Int)) = ((at' + a : Nat) : Int) := by rw [IntWalk.i64_in _ (by omega)]; omega
  have W2 : IntKind.i64.wrap ((at' : Int) + (b : Int)) = ((at' + b : Nat) : Int) := by rw [IntWalk.i64_in _ (by omega)]; omega
  generalize addS s (((l.drop at').take b).drop a) = r at *
  generalize at' + a = x at *
  generalize at' + b = y at *
  clear h hp hq
  go_enter Tryz.func81, Tryz.ntmps81
  go_wp2_with fail
  refine C.out.mono ?_
  rintro e w1 ⟨rfl, hup⟩
  go_wp2
  go_ret
  exact ⟨rfl, hup⟩

set_option maxRecDepth 100000 in
set_option maxHeartbeats 2000000 in
theorem scanOne_any (F : FirstSpec) (base S at' kb0 : Nat) (l m : List UInt8) (zv : Value) (w w0 : World) (p q : Addr) (hm : m = l.drop at') (hl : l.length ≤ 1000000) (hat : at' ≤ l.length)
    (hb : 1 < base) (hb0 : base ≤ w0.heap.size) (hkb : base ≤ kb0) (h : SumsUp w base S l zv w0 kb0)
    (hp : w0.cell? p = some (.pointer (some ⟨S, 0, none⟩))) (hq : w0.cell? q = some (.int .i64 at')) (hp1 : p.block ≠ S) (hp2 : p.block ≠ kb0) (hq1 : q.block ≠ S) (hq2 : q.block ≠ kb0) :
    Calls Tryz.prog 83 #[.string ⟨m.toArray⟩, .func (.func 81) #[] #[.pointer (some p), .pointer (some q)]] w fun e w' =>
      e = .returned (.tuple #[.string ⟨(oneS m).1.toArray⟩, .int .i64 (oneS m).2.1, .int .i64 (oneS m).2.2]) ∧ SumsUp w' base S l zv w0 kb0 := by
  have hml : m.length = l.length - at' := by rw [hm, List.length_drop]
  have L := Lib.hid (show (⟨m.toArray⟩ : ByteArray).size = m.length from rfl)
  have P := Lib.hid (pay_any m w (by omega))
  by_cases h0 : (payS m).2 = 0
  · obtain ⟨h1, h2, h3⟩ := payS_ok m h0
    obtain ⟨a, b, c, d, e4⟩ := take610 m (by omega)
    have E1 := slice_toArray m 2 6
    have E2 := slice_toArray m 6 10
    have E3 := slice_toArray m 10 (10 + (payS m).1)
    have hs := sumS_lt ((m.take 6).drop 2)
    have S1 := fun w ht => Lib.hid (sum_any ((m.take 6).drop 2) w (by simp; omega) ht)
    have A1 := fun w h => Lib.hid (scanAdd_any F base S (sumS ((m.take 6).drop 2)) 10 (10 + (payS m).1) at' kb0 l zv w w0 p q (10 + ((payS m).1 : Int)) (by omega) hl (by omega) (by omega) (by omega) hs hb hb0 hkb h hp hq hp1 hp2 hq1 hq2)
    have N1 := fun w => Lib.hid (number_any a b c d w)
    rw [← hm, ← sumS_append] at A1
    rw [e4] at E2
    have O := Lib.hid (show oneS m = if sumS ((m.take 6).drop 2 ++ (m.take (10 + (payS m).1)).drop 10) ≠ numL [a, b, c, d] then ([], 0, 6) else ((m.take (10 + (payS m).1)).drop 10, 10 + (payS m).1, 0) by
      unfold oneS; rw [if_neg (by omega), e4])
    rw [h0] at P
    clear h3 e4 h0 hm
    have B1 : (6 : Int) ≤ (m.length : Int) := by omega
    have B2 : (10 : Int) ≤ (m.length : Int) := by omega
    have hml2 : m.length ≤ 1000000 := by omega
    clear hml
    have T := fun w' => fun (h : SumsUp w' base S l zv w0 kb0) => (let ⟨_, _, _, _, _, _, h3, _⟩ := h; h3 : Tab w')
    have HT := Lib.hid T; clear T
    generalize (payS m).1 = n at *
    generalize sumS ((m.take 6).drop 2 ++ (m.take (10 + n)).drop 10) = s2 at *
    generalize (m.take (10 + n)).drop 10 = body at *
    generalize sumS ((m.take 6).drop 2) = s1 at *
    generalize (m.take 6).drop 2 = hd at *
    generalize numL [a, b, c, d] = r at *
    have H := Lib.hid h; clear h hp hq
    by_cases hq : s2 = r
    · have O2 := O.out
      rw [if_neg (by simpa using hq)] at O2
      rw [O2]
      clear O O2
      have hne : ((s2 : Int) != (r : Int)) = false := by simp [hq]
      clear hq
      go_enter Tryz.func83, Tryz.ntmps83
      go_wp2_with fail
      refine P.out.mono ?_
      rintro e w1 ⟨rfl, hb1⟩
      have H1 := Lib.hid (H.out.below hb1)
      clear H hb1
      go_wp2
      go_region_held3 (fun w' => Hid (SumsUp w' base S l zv w0 kb0))
        (first | assumption | exact Lib.hid (SumsUp.drew (Hid.out (by assumption))) | exact Lib.hid (by assumption) | exact Lib.hid (SumsUp.drewN (Hid.out (by assumption)) _))
        (first
          | (go_at_call 114; refine (S1 _ (HT.out _ (Hid.out (by assumption)))).out.mono ?_; rintro e w' ⟨rfl, rfl⟩)
          | (go_at_call 81; refine (A1 _ (Hid.out (by assumption))).out.mono ?_; rintro e w' ⟨rfl, hup⟩)
          | (go_at_call 119; refine (N1 _).out.mono ?_; rintro e w' ⟨k, rfl, rfl⟩))
      go_wp2
      go_ret3
      exact ⟨ret3 E3 (by omega) rfl, Hid.out (by assumption)⟩
    · have O2 := O.out
      rw [if_pos (by simpa using hq)] at O2
      rw [O2]
      clear O O2
      have hne : ((s2 : Int) != (r : Int)) = true := by simp; omega
      clear hq
      go_enter Tryz.func83, Tryz.ntmps83
      go_wp2_with fail
      refine P.out.mono ?_
      rintro e w1 ⟨rfl, hb1⟩
      have H1 := Lib.hid (H.out.below hb1)
      clear H hb1
      go_wp2
      go_region_held3 (fun w' => Hid (SumsUp w' base S l zv w0 kb0))
        (first | assumption | exact Lib.hid (SumsUp.drew (Hid.out (by assumption))) | exact Lib.hid (by assumption) | exact Lib.hid (SumsUp.drewN (Hid.out (by assumption)) _))
        (first
          | (go_at_call 114; refine (S1 _ (HT.out _ (Hid.out (by assumption)))).out.mono ?_; rintro e w' ⟨rfl, rfl⟩)
          | (go_at_call 81; refine (A1 _ (Hid.out (by assumption))).out.mono ?_; rintro e w' ⟨rfl, hup⟩)
          | (go_at_call 119; refine (N1 _).out.mono ?_; rintro e w' ⟨k, rfl, rfl⟩))
      go_wp2
      go_ret3
      exact ⟨ret3 rfl rfl rfl, Hid.out (by assumption)⟩
  · have O := Lib.hid (show oneS m = ([], 0, (payS m).2) by unfold oneS; rw [if_pos h0])
    have hz := payS_bad m h0
    rw [hz] at P
    rw [O.out]
    clear hz O hm
    have hne : (((payS m).2 : Int) != 0) = true := by simp; omega
    clear h0 hp hq
    generalize (payS m).2 = q at *
    have H := Lib.hid h; clear h
    go_enter Tryz.func83, Tryz.ntmps83
    go_wp2_with fail
    refine P.out.mono ?_
    rintro e w1 ⟨rfl, hb1⟩
    go_wp2
    go_ret3
    exact ⟨ret3 rfl rfl rfl, H.out.below hb1⟩
end Go.Proofs.YtamiacmnobklaaaGreatDoor
/- The walk of newSums. -/
set_option linter.unusedVariables false
namespace Go.Proofs.YtamiacmnobklaaaGreatDoor
open Go.RowKit

theorem bitLen_64k : Lib.bitLen 65536 = 17 := by decide +kernel
theorem zrow_slice {w : World} {base n : Nat} {v : Value} (h : ZRow w base v n) : ∃ p m cap, v = .slice p m cap := by
  rcases h.2 with ⟨rfl, _⟩ | ⟨g, cap, cur, rfl, _⟩
  · exact ⟨_, _, _, rfl⟩
  · exact ⟨_, _, _, rfl⟩
theorem newSums_at {w w1 : World} (l : List UInt8) (zv : Value) (hz : ZRow w1 (w.alloc (.cells #[.int .i64 0] 3)).heap.size zv 17) (hb : Below (w.alloc (.cells #[.int .i64 0] 3)).heap.size (w.alloc (.cells #[.int .i64 0] 3)) w1) (S : Nat) (hS : S = w1.heap.size) :
    SumsAt (w1.alloc (.cells #[.string ⟨l.toArray⟩, .slice (some ⟨w.heap.size, 0, none⟩) 1 1, zv] 161)) w.heap.size S l w.heap.size 1 zv [0] ∧
      Below w.heap.size w (w1.alloc (.cells #[.string ⟨l.toArray⟩, .slice (some ⟨w.heap.size, 0, none⟩) 1 1, zv] 161)) := by
  subst hS
  have hlt : w.heap.size < w1.heap.size := by have := hb.size; simp at this; omega
  have hblk : w1.heap[w.heap.size]? = some (.cells #[.int .i64 0] 3 (0, 0)) := by
    rw [hb.block w.heap.size (by simp)]
    exact heap_alloc_new _ _
  have hB0 : Below w.heap.size w (w.alloc (.cells #[.int .i64 0] 3)) := (Below.refl _ _).alloc (Nat.le_refl _) _
  refine ⟨⟨heap_alloc_new _ _, ?_, ?_, Good.start l, Nat.le_of_lt hlt⟩, hB0.trans ((hb.mono hB0.size).alloc (Nat.le_of_lt hlt) _)⟩
  · have own0 : OwnL encN w1 w.heap.size 3 (.slice (some ⟨w.heap.size, 0, none⟩) 1 1) [0] := by
      refine ⟨rfl, .inr ⟨w.heap.size, 1, _, rfl, Nat.le_refl _, hblk, ?_⟩⟩
      exact ⟨Nat.le_refl _, by decide, rfl, rfl⟩
    exact World.ownsRow.alloc own0 _
  · exact World.ownsRow.alloc (World.ownsRow.mono hz (by simp)) _

set_option maxRecDepth 100000 in
set_option maxHeartbeats 2000000 in
theorem newSums_any (l : List UInt8) (w : World) (ht : Tab w) (hT : BTab w) :
    Calls Tryz.prog 80 #[.string ⟨l.toArray⟩] w fun e w' => ∃ S kb cap zv, e = .returned (.pointer (some ⟨S, 0, none⟩)) ∧ SumsAt w' w.heap.size S l kb cap zv [0] ∧ Below w.heap.size w w' := by
  have hn : (65536 : Nat) ≤ 140737488351232 := by decide
  have Z := fun w hT ht => Lib.hid (zeros_any 65536 w hn ht hT)
  rw [bitLen_64k] at Z
  have hB0 : Below w.heap.size w (w.alloc (.cells #[.int .i64 0] 3)) := (Below.refl _ _).alloc (Nat.le_refl _) _
  have T := Lib.hid (ht.below hB0); clear ht
  have B := Lib.hid (hT.below hB0); clear hT hB0
  go_enter Tryz.func80, Tryz.ntmps80
  go_wp2_with fail
  refine (Z _ B.out T.out).out.mono ?_
  rintro e w1 ⟨zv, rfl, hz, hb1⟩
  obtain ⟨p, m, cap, rfl⟩ := zrow_slice hz
  have R := Lib.hid (newSums_at l _ hz hb1 _ rfl)
  clear hz hb1
  go_wp2
  go_ret
  exact ⟨_, _, _, _, rfl, R.out.1, R.out.2⟩
end Go.Proofs.YtamiacmnobklaaaGreatDoor

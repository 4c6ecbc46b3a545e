/- Several texts in one: ApartW, RefBookW, Books2W, RefBlocksW, RefSignW, RefRightW. -/
import Derived.Test.YtfblkhmhelmjlaaArgs3
import Derived.Test.YtfblkhmhelmjlaaBookW
import Derived.Test.YtfblkhmhelmjlaaFrame
import Derived.Test.YtfblkhmhelmjlaaGen
import Derived.Test.YtfblkhmhelmjlaaInfos
import Derived.Test.YtfblkhmhelmjlaaMarkMath
import Derived.Test.YtfblkhmhelmjlaaOwnL
import Derived.Test.YtfblkhmhelmjlaaRows
import Derived.Test.YtfblkhmhelmjlaaShelf
import Derived.Deep.CutBlock
import Derived.Deep.DeepCutAuto
import Derived.Deep.RegionHeld3
import Derived.IntWalk
import Derived.Laws.BitsAllLaws
import Derived.Laws.Rows
import Derived.Laws.Tables
import Derived.Lib.Hide
import Derived.Outline
import Derived.WalkKit
import Derived.WalkLawsBesides
import Derived.WalkSpells
import Derived.Test.YtfblkhmhelmjlaaNumberW
import Derived.Maps.AppendAt
import Derived.Test.YtfblkhmhelmjlaaSigAt
import Derived.Test.YtfblkhmhelmjlaaSignMath
import Derived.Test.YtfblkhmhelmjlaaSignW
import Derived.Test.YtfblkhmhelmjlaaWkX
import Derived.BigQuiet
import Derived.Deep.QuietTactic
import Derived.StillTailTactics
import Derived.Test.YtfblkhmhelmjlaaRollMath
import Derived.Test.YtfblkhmhelmjlaaSignAW
import Derived.Test.YtfblkhmhelmjlaaRightW
import Derived.Test.YtfblkhmhelmjlaaSameW
import Derived.BigRegion
import Derived.Deep.RegionLaw
/- The walk of the law MarksApart. -/
set_option linter.unusedVariables false
namespace Go.Proofs.Ytfblkhmhelmjlaa
open Go.RowKit

/-- The marks of the first so many. -/
def mL (ys : List Txt) (k : Nat) : List Txt := (ys.take k).map fun y => numM (noS (seenS ys) y)
theorem mL_length (ys : List Txt) (k : Nat) (h : k ≤ ys.length) : (mL ys k).length = k := by unfold mL; rw [List.length_map, List.length_take]; omega
theorem mL_step (ys : List Txt) (k : Nat) (h : k < ys.length) : mL ys (k + 1) = mL ys k ++ [numM (noS (seenS (ys.take k)) ys[k])] := by
  unfold mL
  rw [List.take_succ_eq_append_getElem h, List.map_append, noS_later ys k h]
  rfl
theorem own_after {w1 w2 : World} {base : Nat} {e : TypeId} {v : Value} {xs : List (List UInt8)} (h : OwnL encT w1 base e v xs) (hb : Below w1.heap.size w1 w2) : OwnL encT w2 base e v xs :=
  own_off h (Kept.of_below hb) (fun g cur hg _ hm => absurd (Array.getElem?_eq_some_iff.1 hg).1 (by omega))
/-- A map's block is no list's. -/
theorem IdealAt.no_cells {w : World} {p bm : Nat} {S : List Txt} (h : IdealAt w p bm S) {cur : Array Value} {e : TypeId} {fr : Nat × Nat} : w.heap[bm]? ≠ some (.cells cur e fr) := by
  obtain ⟨D, ⟨es, cl, hb, _⟩, _⟩ := h.map
  rw [hb]
  intro h
  cases h
theorem own_mark {w w' : World} {p bm base : Nat} {S : List Txt} {v : Value} {e : TypeId} {xs : List Txt} (h : IdealAt w p bm S) (hown : OwnL encT w base e v xs) (hk : Kept (· = bm) w w') : OwnL encT w' base e v xs :=
  own_off hown hk (fun g cur hg _ hm => by subst hm; exact h.no_cells hg)
theorem IdealAt.appended {w w' : World} {p bm base : Nat} {S : List Txt} {v : Value} {e : TypeId} {xs : List Txt} (h : IdealAt w p bm S) (hown : OwnL encT w base e v xs) (he : e ≠ 56) (hk : Kept (fun k => some k = v.ownBlock) w w') : IdealAt w' p bm S := by
  have key : ∀ g, some g = v.ownBlock → ∃ cur, w.heap[g]? = some (.cells cur e (0, 0)) := by
    intro g hg
    rcases hown.2 with ⟨rfl, _⟩ | ⟨g', cap, cur, rfl, _, hgg, _⟩
    · simp [Value.ownBlock] at hg
    · simp [Value.ownBlock] at hg
      subst hg
      exact ⟨cur, hgg⟩
  refine h.kept hk ?_ ?_
  · intro hp
    obtain ⟨cur, hcur⟩ := key p hp
    have := h.book
    unfold BookAt at this
    rw [hcur] at this
    simp at this
    exact he this.2
  · intro hp
    obtain ⟨cur, hcur⟩ := key bm hp
    exact h.no_cells hcur


/-- What holds in every world of the region that compares: four cells, and that nothing that was there has turned. -/
def Four (W0 : World) (a1 a2 a3 a4 : Addr) (x1 x2 x3 x4 : Txt) (w : World) : Prop :=
  w.cell? a1 = some (encT x1) ∧ w.cell? a2 = some (encT x2) ∧ w.cell? a3 = some (encT x3) ∧ w.cell? a4 = some (encT x4) ∧ Below W0.heap.size W0 w
theorem four_kept {W0 w1 w2 : World} {a1 a2 a3 a4 : Addr} {x1 x2 x3 x4 : Txt} (h1 : w1.cell? a1 = some (encT x1)) (h2 : w1.cell? a2 = some (encT x2)) (h3 : w1.cell? a3 = some (encT x3)) (h4 : w1.cell? a4 = some (encT x4))
    (hb : Below W0.heap.size W0 w1) (h : Below w1.heap.size w1 w2) : w2.cell? a1 = some (encT x1) ∧ w2.cell? a2 = some (encT x2) ∧ w2.cell? a3 = some (encT x3) ∧ w2.cell? a4 = some (encT x4) ∧ Below W0.heap.size W0 w2 :=
  ⟨(h.cell (World.block_lt_of_cell? w1 _ h1)).trans h1, (h.cell (World.block_lt_of_cell? w1 _ h2)).trans h2, (h.cell (World.block_lt_of_cell? w1 _ h3)).trans h3, (h.cell (World.block_lt_of_cell? w1 _ h4)).trans h4, below2 hb h⟩

end Go.Proofs.Ytfblkhmhelmjlaa
/- Walks of the document's own book, where it numbers. -/
set_option linter.unusedVariables false
namespace Go.Proofs.Ytfblkhmhelmjlaa
open Go.RowKit

/-- Where a list's row may lie behind an append. -/
def Moved (w : World) (v v' : Value) : Prop := ∀ g, v'.ownBlock = some g → v.ownBlock = some g ∨ w.heap.size ≤ g
theorem Moved.refl (w : World) (v : Value) : Moved w v v := fun g h => .inl h
section
variable {P : Program}
theorem append_elem_at {α : Type} {enc : α → Value} {w : World} {ops : Array Oper} {rest : List Oper} {o : Oper} {a : Act} {Q : Exit → Act → World → Prop} (hgd : o.guard = none) (s x : Operand) (t e : TypeId) (z : Value) (bytes : Nat)
    (ho : o.op = .call { callee := .builtin .append, args := #[s, x], argTypes := #[t, t] }) (ht : P.underlying t = some (.slice e))
    (hinfo : (P.info? e).map (fun i => (i.zero, i.size, i.bytes)) = some (some z, 1, bytes)) (hz : z.cells.size = 1)
    (base : Nat) (v : Value) (l : List α) (y : α) (hone : (enc y).oneCell' = true) (hs : a.eval s = v) (hown : OwnL enc w base e v l) (hx : a.eval x = .slice (some ⟨w.heap.size, 0, none⟩) 1 1)
    (hlen : (l.length + 1) * bytes ≤ 140737488355328) (hlen2 : l.length + 1 ≤ maxLen) (hbase : base ≤ w.heap.size)
    (h : ∀ v' w', OwnL enc w' base e v' (l ++ [y]) → Kept (fun k => v.ownBlock = some k) w w' → Moved w v v' → wpList P ops Q rest (a.put o.dst v') w') :
    wpList P ops Q (o :: rest) a (w.alloc (.cells #[enc y] e)) := by
  obtain ⟨i0, hi, hz0, hz1, hz2⟩ := info_parts hinfo
  refine wpList_append_own_at _ hgd s x t ho base e i0 z 1 bytes ht hi hz0 hz1 hz2 hz (by decide) v l.length (l.map enc) hs (World.ownsRow.alloc hown _) ⟨w.heap.size, 0, none⟩ 1 1 [enc y] hx rfl ?_ ?_ hlen2 hlen ?_ ?_
  · exact cell_one_new w (enc y) e
  · intro u hu; simp at hu; subst hu; exact hone
  · simp; omega
  · intro v' w' hown' hg _ hat
    refine h v' w' ?_ ?_ ?_
    · unfold OwnL
      rw [List.map_append, List.length_append]
      exact hown'
    · have k1 : Kept (fun k => v.ownBlock = some k) w (w.alloc (.cells #[enc y] e)) := (Kept.refl _ _).alloc _
      refine k1.trans ⟨hg.os, hg.tape, hg.output, hg.size, fun k hk hm => hg.block k hk (fun he => hm he.symm)⟩
    · intro g hg'
      rcases hat with h | h
      · exact .inl (by rw [← h]; exact hg')
      · right
        rw [hg'] at h
        simp at h
        omega
end

/-- The document's own book in block q, its list v. -/
structure RefAt (w : World) (base q : Nat) (v : Value) (S : List Txt) : Prop where
  book : w.heap[q]? = some (.cells #[.bool false, v] 35 (0, 0))
  own : OwnL encT w base 9 v S
  at' : base ≤ q
theorem RefAt.c0 {w : World} {base q : Nat} {v : Value} {S : List Txt} (h : RefAt w base q v S) : w.cell? ⟨q, 0, none⟩ = some (.bool false) := by rw [cell_of_row _ _ _ _ _ _ h.book]; rfl
theorem RefAt.c1 {w : World} {base q : Nat} {v : Value} {S : List Txt} (h : RefAt w base q v S) : w.cell? ⟨q, 1, none⟩ = some v := by rw [cell_of_row _ _ _ _ _ _ h.book]; rfl
theorem RefAt.kept {w w' : World} {M : Nat → Prop} {base q : Nat} {v : Value} {S : List Txt} (h : RefAt w base q v S) (hk : Kept M w w') (hq : ¬ M q) (hv : ∀ g, v.ownBlock = some g → ¬ M g) : RefAt w' base q v S :=
  ⟨hk.old h.book hq, own_off h.own hk (fun g cur _ hg => hv g hg), h.at'⟩
theorem RefAt.new {w w' : World} {base q : Nat} {v : Value} {S : List Txt} (h : RefAt w base q v S) (hb : Below w.heap.size w w') : RefAt w' base q v S := h.kept (Kept.new hb (fun _ => False)) id (fun _ _ => id)
/-- The list's row is no book. -/
theorem RefAt.ne {w : World} {base q : Nat} {v : Value} {S : List Txt} (h : RefAt w base q v S) {g : Nat} (hg : v.ownBlock = some g) : g ≠ q := by
  rintro rfl
  rcases h.own.2 with ⟨rfl, _⟩ | ⟨g', cap, cur, rfl, _, hgg, _⟩
  · simp [Value.ownBlock] at hg
  · simp [Value.ownBlock] at hg
    subst hg
    have := h.book
    rw [hgg] at this
    simp at this
theorem RefAt.lt {w : World} {base q : Nat} {v : Value} {S : List Txt} (h : RefAt w base q v S) : q < w.heap.size ∧ ∀ g, v.ownBlock = some g → base ≤ g ∧ g < w.heap.size := by
  refine ⟨(Array.getElem?_eq_some_iff.1 h.book).1, fun g hg => ?_⟩
  rcases h.own.2 with ⟨rfl, _⟩ | ⟨g', cap, cur, rfl, hb, hgg, _⟩
  · simp [Value.ownBlock] at hg
  · simp [Value.ownBlock] at hg
    subst hg
    exact ⟨hb, (Array.getElem?_eq_some_iff.1 hgg).1⟩

/-- The list has grown; its place in the book is written behind. -/
theorem RefAt.appended {w w3 : World} {base q : Nat} {v v' : Value} {S : List Txt} {s : Txt} (h : RefAt w base q v S) (hown : OwnL encT w3 base 9 v' (S ++ [s])) (hk : Kept (fun k => v.ownBlock = some k) w w3) :
    w3.frozen? ⟨q, 1, none⟩ = false ∧ w3.cell? ⟨q, 1, none⟩ = some v ∧ RefAt (w3.setCell ⟨q, 1, none⟩ v') base q v' (S ++ [s]) ∧ Kept (fun k => k = q ∨ v.ownBlock = some k) w (w3.setCell ⟨q, 1, none⟩ v') := by
  have hb : w3.heap[q]? = some (.cells #[.bool false, v] 35 (0, 0)) := hk.old h.book (fun e => h.ne e rfl)
  have k2 : Kept (fun k => k = q) w3 (w3.setCell ⟨q, 1, none⟩ v') := (Kept.refl _ _).setCell (by rfl) _
  refine ⟨frozen_of_row w3 q 1 _ _ hb, by rw [cell_of_row _ _ _ _ _ _ hb]; rfl, ⟨?_, ?_, h.at'⟩, (hk.mono (fun k _ e => .inr e)).trans (k2.mono (fun k _ e => .inl e))⟩
  · rw [heap_setCell_same w3 q 1 _ _ _ hb]; rfl
  · refine own_off hown k2 (fun g cur hg _ e => ?_)
    rw [e, hb] at hg
    simp at hg
theorem OwnL.shape {w : World} {base : Nat} {e : TypeId} {v : Value} {S : List Txt} (h : OwnL encT w base e v S) : ∃ a n c, v = .slice a n c := by
  obtain ⟨a, c, rfl, _⟩ := h.row
  exact ⟨_, _, _, rfl⟩
theorem idxOf_first (S : List Txt) (s : Txt) (k : Nat) (hk : k < S.length) (h : s ∉ S.take k) (he : S[k] = s) : S.idxOf s = k := by
  have e : S = S.take k ++ S.drop k := (List.take_append_drop _ _).symm
  rw [e, List.idxOf_append, if_neg h, List.drop_eq_getElem_cons hk, he, List.idxOf_cons_self, List.length_take]
  omega
theorem not_mem_take_succ (S : List Txt) (s : Txt) (k : Nat) (hk : k < S.length) (h : s ∉ S.take k) (he : S[k] ≠ s) : s ∉ S.take (k + 1) := by
  rw [List.take_succ_eq_append_getElem hk]
  intro hm
  rcases List.mem_append.1 hm with hm | hm
  · exact h hm
  · simp at hm; exact he hm.symm
/-- Where a text stands, or -1. -/
def placeS (S : List Txt) (s : Txt) : Int := if s ∈ S then ((S.idxOf s : Nat) : Int) else -1

set_option maxRecDepth 100000 in
theorem place_any (w : World) (base q : Nat) (v : Value) (S : List Txt) (s : Txt) (h : RefAt w base q v S) (hn : S.length ≤ 1000000) :
    Calls Try.prog 67 #[.pointer (some ⟨q, 0, none⟩), .string ⟨s.toArray⟩] w fun e w' => e = .returned (.int .i64 (placeS S s)) ∧ w = w' := by
  have c1 := h.c1
  rcases h.own.row.cases with ⟨rfl, a, cap, rfl⟩ | ⟨b, off, cap, rfl, hbb, hc⟩
  · clear h
    go_enter Try.func67, Try.ntmps67
    go_wp2
    refine wp_loop_rounds 1 ?_
    rw [rounds_succ]
    go_wp2
    go_ret
    exact ⟨rfl, rfl⟩
  · have HC := Lib.hid hc; clear hc h
    go_enter Try.func67, Try.ntmps67
    go_wp2
    go_loop [5] (fun i => ∃ k : Nat, k ≤ S.length ∧ i = .int .i64 k ∧ s ∉ S.take k) (fun i => S.length - (intOf i).toNat)
    case atStart => exact ⟨0, by omega, rfl, by simp⟩
    case round =>
      obtain ⟨k, hk, rfl, hno⟩ := hrel
      have Hno := Lib.hid hno; clear hno
      by_cases hlt : k < S.length
      · have hcell := HC.out k hlt
        by_cases he : S[k] = s
        · have P := Lib.hid (show placeS S s = (k : Int) by
            unfold placeS
            rw [if_pos (by rw [← he]; exact List.getElem_mem _), idxOf_first S s k hlt Hno.out he])
          rw [he] at hcell
          have hself : (s == s) = true := by simp
          clear he
          unfold encT at hcell
          go_wp2
          go_ret
          rw [P.out]
          exact ⟨rfl, rfl⟩
        · have Hn := Lib.hid (not_mem_take_succ S s k hlt Hno.out he)
          have hne : (S[k] == s) = false := by simp [he]
          generalize S[k] = y at *
          clear he
          unfold encT at hcell
          go_wp2
          go_round
          case rel => exact ⟨k + 1, by omega, by go_num, Hn.out⟩
          case measure => simp [intOf]; omega
      · have P := Lib.hid (show placeS S s = -1 by
          unfold placeS
          rw [if_neg]
          have := Hno.out
          rw [List.take_of_length_le (by omega)] at this
          exact this)
        go_wp2
        go_ret
        rw [P.out]
        exact ⟨rfl, rfl⟩

theorem placeS_in {S : List Txt} {s : Txt} (h : s ∈ S) : placeS S s = ((S.idxOf s : Nat) : Int) := if_pos h
theorem placeS_no {S : List Txt} {s : Txt} (h : s ∉ S) : placeS S s = -1 := if_neg h
theorem noS_idx (S : List Txt) (s : Txt) (k : Nat) (h : S.idxOf s = k) : noS S s = k + 1 := by unfold noS; rw [h]

set_option maxRecDepth 100000 in
set_option maxHeartbeats 800000 in
theorem refMark_any (w : World) (base q : Nat) (v : Value) (S : List Txt) (s : Txt) (h : RefAt w base q v S) (hn : S.length ≤ 1000000) (hbase : base ≤ w.heap.size) :
    Calls Try.prog 34 #[.pointer (some ⟨q, 0, none⟩), .string ⟨s.toArray⟩] w fun e w' => ∃ v', e = .returned (.string ⟨(numM (noS S s)).toArray⟩) ∧ RefAt w' base q v' (markS S s) ∧
      Kept (fun k => k = q ∨ v.ownBlock = some k) w w' ∧ Moved w v v' := by
  have c0 := h.c0
  have c1 := h.c1
  have PL := Lib.hid (place_any w base q v S s h hn)
  by_cases hs : s ∈ S
  · obtain ⟨k, hk⟩ : ∃ k, S.idxOf s = k := ⟨_, rfl⟩
    have hkl : k < S.length := by rw [← hk]; exact List.idxOf_lt_length_of_mem hs
    rw [placeS_in hs, hk] at PL
    have NM := fun w' => Lib.hid (number_any (k + 1) w' (by omega))
    have E := Lib.hid (noS_idx S s k hk)
    have E2 := Lib.hid (markS_in hs)
    have H := Lib.hid h; clear h hk hs
    go_enter Try.func34, Try.ntmps34
    go_wp2_with fail
    refine PL.out.mono ?_
    rintro e w' ⟨rfl, rfl⟩
    go_wp2_with fail
    refine (NM _).out.mono ?_
    rintro e w2 ⟨rfl, hb2⟩
    go_wp2
    go_ret
    rw [E.out, E2.out]
    exact ⟨v, rfl, H.out.new hb2, Kept.new hb2 _, Moved.refl _ _⟩
  · rw [placeS_no hs] at PL
    have NM := fun w' => Lib.hid (number_any (S.length + 1) w' (by omega))
    have E := Lib.hid (noS_new hs)
    have E2 := Lib.hid (markS_new hs)
    have H := Lib.hid h; clear hs
    obtain ⟨a, cap, rfl, _⟩ := h.own.row
    clear h
    go_enter Try.func34, Try.ntmps34
    go_wp2_with fail
    refine PL.out.mono ?_
    rintro e w' ⟨rfl, rfl⟩
    have c1b := cell_alloc1 c1 (.cells #[.string ⟨s.toArray⟩] 9)
    go_wp2_with (at_builtin; refine append_elem_at (enc := encT) (y := s) rfl _ _ 33 9 (.string ByteArray.empty) 16 (by rfl) Try.underlying33 info_str rfl base _ _ rfl (by rfl) H.out.own (by rfl) (by omega) (by unfold maxLen; omega) hbase ?_; intro v' w3 hown3 hk3 hmv; obtain ⟨a3, n3, cap3, rfl⟩ := hown3.shape; have NX := Lib.hid (H.out.appended hown3 hk3); clear hown3 hk3; have f1 := NX.out.1; have c2 := NX.out.2.1)
    refine (NM _).out.mono ?_
    rintro e w4 ⟨rfl, hb4⟩
    go_wp2
    go_ret
    rw [E.out, E2.out]
    exact ⟨_, rfl, NX.out.2.2.1.new hb4, NX.out.2.2.2.trans (Kept.new hb4 _), hmv⟩


end Go.Proofs.Ytfblkhmhelmjlaa
/- Books that mark: the document's ideal one. -/
set_option linter.unusedVariables false
namespace Go.Proofs.Ytfblkhmhelmjlaa
open Go.RowKit

/-- The document's ideal book: its list, and the texts. -/
abbrev RefSt := Value × List Txt
def AtR (base q : Nat) (w : World) (s : RefSt) : Prop := RefAt w base q s.1 s.2 ∧ base ≤ w.heap.size
def FR (q : Nat) (s : RefSt) (k : Nat) : Prop := k = q ∨ s.1.ownBlock = some k
def nxR (s : RefSt) (t : Txt) (s' : RefSt) : Prop := s'.2 = markS s.2 t
def mkR (s : RefSt) (t : Txt) : Txt := numM (noS s.2 t)
def okR (n : Nat) (s : RefSt) : Prop := s.2.length + n ≤ 1000000
theorem book_ref (base q : Nat) : BookI 34 (.pointer (some ⟨q, 0, none⟩)) (AtR base q) (FR q) nxR mkR okR := by
  refine ⟨fun w s t n hat hok ht => ?_, fun w s k hat hk => ?_, fun w w' s M hat hk hM => ?_⟩
  · refine (refMark_any w base q s.1 s.2 t hat.1 (by unfold okR at hok; omega) hat.2).mono ?_
    rintro e w' ⟨v', rfl, h1, h2, h3⟩
    refine ⟨(v', markS s.2 t), rfl, rfl, by have := markS_length s.2 t; unfold okR at *; simp only; omega, ⟨h1, Nat.le_trans hat.2 h2.size⟩, h2, fun k hk => ?_⟩
    rcases hk with rfl | hk
    · exact .inl (.inl rfl)
    · rcases h3 k hk with h | h
      · exact .inl (.inr h)
      · exact .inr h
  · rcases hk with rfl | hk
    · exact hat.1.lt.1
    · exact (hat.1.lt.2 k hk).2
  · exact ⟨hat.1.kept hk (hM _ (.inl rfl)) (fun g hg => hM _ (.inr hg)), Nat.le_trans hat.2 hk.size⟩
theorem marked_ref {s0 s : RefSt} {ts ms : List Txt} (h : Marked nxR mkR s0 ts ms s) : Marked nxI mkI s0.2 ts ms s.2 := by
  induction h with
  | nil => exact .nil
  | snoc h1 h2 ih => exact ih.snoc h2
end Go.Proofs.Ytfblkhmhelmjlaa
/- The walk of the document's Blocks. -/
set_option linter.unusedVariables false
namespace Go.Proofs.Ytfblkhmhelmjlaa
open Go.RowKit

theorem blk_slice (b : Nat) (l : Txt) (a e : Nat) (h : e = min (a + b) l.length) : (l.take e).drop a = (l.drop a).take b := by
  subst h
  rw [List.drop_take]
  rcases Nat.lt_or_ge (a + b) l.length with h | h
  · rw [Nat.min_eq_left (by omega), Nat.add_sub_cancel_left]
  · rw [Nat.min_eq_right h, List.take_of_length_le (l := l.drop a) (i := b) (by rw [List.length_drop]; omega), List.take_of_length_le (by rw [List.length_drop]; omega)]
set_option maxRecDepth 100000 in
set_option maxHeartbeats 1000000 in
theorem refBlocks_any (b : Nat) (l : Txt) (w : World) (hb : 16 ≤ b) (hb2 : b ≤ 1024) (hl : l.length ≤ 524288) :
    Calls Try.prog 59 #[.string ⟨l.toArray⟩, .int .i64 b] w fun e w' => ∃ v, e = .returned v ∧ OwnL encT w' w.heap.size 9 v (cutS b l) ∧ Below w.heap.size w w' := by
  have L := Lib.hid (show (⟨l.toArray⟩ : ByteArray).size = l.length from rfl)
  go_enter Try.func59, Try.ntmps59
  go_wp2
  go_loopw [5, 6] (fun v i wr => ∃ (a : Nat) (done : List Txt), i = .int .i64 a ∧ cutS b l = done ++ cutS b (l.drop a) ∧ done.length ≤ a ∧ a ≤ l.length + 1024 ∧ OwnL encT wr w.heap.size 9 v done ∧ Below w.heap.size w wr) (fun _ i _ => l.length + 2048 - (intOf i).toNat)
  case atStart => exact ⟨0, [], rfl, by rw [List.drop_zero]; rfl, by simp, by omega, OwnL.nil _ _ _ _, Below.refl _ _⟩
  case round =>
    obtain ⟨a, done, rfl, hsp, hdl, ha, hown, hbel⟩ := hrel
    have Hown := Lib.hid hown; clear hown
    have Hbel := Lib.hid hbel; clear hbel
    have Hsp := Lib.hid hsp; clear hsp
    by_cases hlt : a < l.length
    · have hwb := Hbel.out.size
      obtain ⟨e9, he9⟩ : ∃ e9, a + b = e9 := ⟨_, rfl⟩
      have W9 : IntKind.i64.wrap ((a : Int) + (b : Int)) = (e9 : Int) := by rw [IntKind.wrap_i64]; omega
      have NX := Lib.hid (show cutS b l = (done ++ [(l.drop a).take b]) ++ cutS b (l.drop e9) by
        rw [Hsp.out, cutS_cons b (l.drop a) (by omega) (by rw [List.length_drop]; omega), List.drop_drop, he9, List.append_assoc]; rfl)
      obtain ⟨wo, rfl⟩ : ∃ wo : World, wo = wr := ⟨_, rfl⟩
      have i0 : (0 : Int) ≤ (a : Int) := by omega
      by_cases hc : l.length < e9
      · have g1 : (l.length : Int) < (e9 : Int) := by omega
        have i1 : (a : Int) ≤ (l.length : Int) := by omega
        have E : (⟨l.toArray⟩ : ByteArray).extract a l.length = ⟨((l.drop a).take b).toArray⟩ := by rw [slice_toArray, blk_slice b l a l.length (by omega)]
        generalize (l.drop a).take b = t at *
        go_wp2_with (at_builtin; refine append_elem (enc := encT) (y := t) rfl _ _ 33 9 (.string ByteArray.empty) 16 (by rfl) Try.underlying33 info_str rfl w.heap.size _ _ rfl (by rfl) Hown.out (by rfl) (by omega) (by unfold maxLen; omega) (by omega) ?_; intro v' w3 hown3 hb3 hk3)
        have Hown3 := Lib.hid hown3; clear hown3
        go_wp2
        go_roundw
        case rel => exact ⟨e9, _, by go_num, NX.out, by rw [List.length_append, List.length_singleton]; omega, by omega, Hown3.out, Hbel.out.trans hb3⟩
        case measure => simp [intOf]; omega
      · have g1 : ¬ (l.length : Int) < (e9 : Int) := by omega
        have i1 : (a : Int) ≤ (e9 : Int) := by omega
        have i2 : (e9 : Int) ≤ (l.length : Int) := by omega
        have E : (⟨l.toArray⟩ : ByteArray).extract a e9 = ⟨((l.drop a).take b).toArray⟩ := by rw [slice_toArray, blk_slice b l a e9 (by omega)]
        generalize (l.drop a).take b = t at *
        go_wp2_with (at_builtin; refine append_elem (enc := encT) (y := t) rfl _ _ 33 9 (.string ByteArray.empty) 16 (by rfl) Try.underlying33 info_str rfl w.heap.size _ _ rfl (by rfl) Hown.out (by rfl) (by omega) (by unfold maxLen; omega) (by omega) ?_; intro v' w3 hown3 hb3 hk3)
        have Hown3 := Lib.hid hown3; clear hown3
        go_wp2
        go_roundw
        case rel => exact ⟨e9, _, by go_num, NX.out, by rw [List.length_append, List.length_singleton]; omega, by omega, Hown3.out, Hbel.out.trans hb3⟩
        case measure => simp [intOf]; omega
    · have g1 : ¬ (a : Int) < (l.length : Int) := by omega
      have HA := Lib.hid (show done = cutS b l by have := Hsp.out; rw [List.drop_of_length_le (by omega), cutS_nil, List.append_nil] at this; exact this.symm)
      go_wp2
      go_ret
      exact ⟨_, rfl, by rw [← HA.out]; exact Hown.out, Hbel.out⟩
end Go.Proofs.Ytfblkhmhelmjlaa
/- The walk of the document's Sign, by any book that marks. -/
set_option linter.unusedVariables false
namespace Go.Proofs.Ytfblkhmhelmjlaa
open Go.RowKit

/-- A book beside a list of texts of the call's own. -/
def AtRow {σ : Type} (At : World → σ → Prop) (F : σ → Nat → Prop) (B : Nat) (vb : Value) (ts : List Txt) (w : World) (s : σ) : Prop := At w s ∧ OwnL encT w B 9 vb ts ∧ ∀ g, vb.ownBlock = some g → ¬ F s g
def FRow {σ : Type} (F : σ → Nat → Prop) (vb : Value) (s : σ) (k : Nat) : Prop := F s k ∨ vb.ownBlock = some k
theorem BookI.row {mf : FuncId} {bp : Value} {σ : Type} {At : World → σ → Prop} {F : σ → Nat → Prop} {nx : σ → Txt → σ → Prop} {mk : σ → Txt → Txt} {ok : Nat → σ → Prop} (I : BookI mf bp At F nx mk ok) (B : Nat) (vb : Value) (ts : List Txt) :
    BookI mf bp (AtRow At F B vb ts) (FRow F vb) nx mk ok := by
  refine ⟨fun w s t n hat hok ht => ?_, fun w s k hat hk => ?_, fun w w' s M hat hk hM => ?_⟩
  · refine (I.mark w s t n hat.1 hok ht).mono ?_
    rintro e w' ⟨s', rfl, h1, h2, h3, h4, h5⟩
    refine ⟨s', rfl, h1, h2, ⟨h3, own_off hat.2.1 h4 (fun g _ _ hg => hat.2.2 g hg), fun g hg hf => ?_⟩, h4.mono (fun k _ h => .inl h), fun k hk => ?_⟩
    · rcases h5 g hf with h | h
      · exact hat.2.2 g hg h
      · have := (Array.getElem?_eq_some_iff.1 (own_cells hat.2.1 hg).2.choose_spec).1
        omega
    · rcases hk with hk | hk
      · rcases h5 k hk with h | h
        · exact .inl (.inl h)
        · exact .inr h
      · exact .inl (.inr hk)
  · rcases hk with hk | hk
    · exact I.lt _ _ _ hat.1 hk
    · exact (Array.getElem?_eq_some_iff.1 (own_cells hat.2.1 hk).2.choose_spec).1
  · exact ⟨I.kept _ _ _ _ hat.1 hk (fun k h => hM k (.inl h)), own_off hat.2.1 hk (fun g _ _ hg => hM g (.inr hg)), hat.2.2⟩
theorem blk_nonempty (b : Nat) (l : Txt) (hb : 0 < b) (h : 0 < (cutS b l).length) : 0 < l.length := by
  rcases Nat.eq_zero_or_pos l.length with h0 | h0
  · rw [List.eq_nil_of_length_eq_zero h0, cutS_nil] at h; simp at h
  · exact h0

/-- The loop's state where the document's Sign begins it. -/
theorem refSign_start {mf : FuncId} {bp : Value} {σ : Type} {At : World → σ → Prop} {F : σ → Nat → Prop} {nx : σ → Txt → σ → Prop} {mk : σ → Txt → Txt} {ok : Nat → σ → Prop} (I : BookI mf bp At F nx mk ok) {b : Nat} {l : Txt} {w w0 w1 : World} {s0 : σ} {vb : Value} (hAt : At w s0)
    (hF : ∀ k, F s0 k → k < w.heap.size) (hok : ok (cutS b l).length s0) (hB0 : Below w.heap.size w w0) (hS0 : SigAt w0 w.heap.size (w.heap.size + 1) b l.length (.slice none 0 0) (.slice none 0 0) [] [])
    (hR0 : w0.heap[w.heap.size]? = some (sigC 0 0 (.slice none 0 0) (.slice none 0 0))) (hZ0 : w0.heap.size = w.heap.size + 2) (hvb : OwnL encT w1 w0.heap.size 9 vb (cutS b l)) (hb1 : Below w0.heap.size w0 w1) :
    SignL (AtRow At F w0.heap.size vb (cutS b l)) (FRow F vb) nx mk ok w s0 b l.length l l [] [] [] s0 (.slice none 0 0) (.slice none 0 0) w1 := by
  have hb := hB0.trans (hb1.mono hB0.size)
  refine ⟨hS0.new hb1, (Kept.new hb1 (fun _ => False)).old hR0 id, .nil, hok, ⟨I.kept _ _ _ _ hAt (Kept.new hb (fun _ => False)) (fun _ _ => id), hvb, fun g hg hf => ?_⟩, Kept.new hb _, fun k hk => .inl hk, fun k hk => ?_, rfl, by simp⟩
  · have := hF g hf
    have := (own_cells hvb hg).1
    omega
  · have hk' : k < w.heap.size ∨ w0.heap.size ≤ k := by
      rcases hk with hk | hk
      · exact .inl (hF k hk)
      · exact .inr (own_cells hvb hk).1
    refine ⟨?_, by omega⟩
    rintro (e | e | e)
    · omega
    · simp [Value.ownBlock] at e
    · simp [Value.ownBlock] at e

set_option maxRecDepth 100000 in
set_option maxHeartbeats 4000000 in
theorem refSign_ok {bp : Value} {σ : Type} {At : World → σ → Prop} {F : σ → Nat → Prop} {nx : σ → Txt → σ → Prop} {mk : σ → Txt → Txt} {ok : Nat → σ → Prop} (I0 : BookI 34 bp At F nx mk ok)
    (b : Nat) (l : Txt) (w : World) (s0 : σ) (hb : 16 ≤ b) (hb2 : b ≤ 1024) (hl : l.length ≤ 524288) (hAt : At w s0) (hok : ok (cutS b l).length s0) :
    Calls Try.prog 32 #[bp, .string ⟨l.toArray⟩, .int .i64 b] w (SignPost At F nx mk s0 w b l) := by
  have L := Lib.hid (show (⟨l.toArray⟩ : ByteArray).size = l.length from rfl)
  have HI0 := Lib.hid I0
  have HAt := Lib.hid hAt; clear hAt
  have HOk := Lib.hid hok; clear hok
  have HF := Lib.hid (fun k hk => I0.lt w s0 k HAt.out hk)
  have RB := fun w' => Lib.hid (refBlocks_any b l w' hb hb2 hl)
  have HBL := Lib.hid (cutS_le b (by omega) l)
  have HB0 := Lib.hid (show Below w.heap.size w ((w.alloc (sigC 0 0 (.slice none 0 0) (.slice none 0 0))).alloc (sigC b l.length (.slice none 0 0) (.slice none 0 0))) from ((Below.refl _ _).alloc (Nat.le_refl _) _).alloc (by simp) _)
  have HS0 := Lib.hid (show SigAt ((w.alloc (sigC 0 0 (.slice none 0 0) (.slice none 0 0))).alloc (sigC b l.length (.slice none 0 0) (.slice none 0 0))) w.heap.size (w.heap.size + 1) b l.length (.slice none 0 0) (.slice none 0 0) [] [] from ⟨heap_alloc2_new _ _ _, OwnL.nil _ _ _ _, OwnL.nil _ _ _ _⟩)
  have HR0 := Lib.hid (show ((w.alloc (sigC 0 0 (.slice none 0 0) (.slice none 0 0))).alloc (sigC b l.length (.slice none 0 0) (.slice none 0 0))).heap[w.heap.size]? = some (sigC 0 0 (.slice none 0 0) (.slice none 0 0)) from heap_alloc2_old _ _ _)
  have HZ0 := Lib.hid (show ((w.alloc (sigC 0 0 (.slice none 0 0) (.slice none 0 0))).alloc (sigC b l.length (.slice none 0 0) (.slice none 0 0))).heap.size = w.heap.size + 2 by simp)
  go_enter Try.func32, Try.ntmps32
  go_wp2_with fail
  generalize ((w.alloc (.cells #[.int .i64 0, .int .i64 0, .slice none 0 0, .slice none 0 0] 59)).alloc (.cells #[.int .i64 b, .int .i64 l.length, .slice none 0 0, .slice none 0 0] 59)) = w0 at *
  refine (RB _).out.mono ?_
  rintro e w1 ⟨vb, rfl, hvb, hb1⟩
  obtain ⟨va, vn, vc, rfl⟩ := own_slice hvb
  have hvn : vn = (cutS b l).length := by simpa [lenV] using own_lenV hvb
  subst hvn
  have HI := Lib.hid (HI0.out.row w0.heap.size (.slice va (cutS b l).length vc) (cutS b l))
  have HL0 := Lib.hid (refSign_start HI0.out HAt.out HF.out HOk.out HB0.out HS0.out HR0.out HZ0.out hvb hb1)
  clear hvb hb1
  clear HB0 HS0 HR0
  go_wp2
  go_loopw [10] (fun v wr => ∃ (k : Nat) (rest : Txt) (done ms : List Txt) (s : σ) (vw vs : Value), v = .int .i64 k ∧ done.length = k ∧ SignL (AtRow At F w0.heap.size (.slice va (cutS b l).length vc) (cutS b l)) (FRow F (.slice va (cutS b l).length vc)) nx mk ok w s0 b l.length l rest done done ms s vw vs wr) (fun v _ => (cutS b l).length - (intOf v).toNat)
  case atStart => exact ⟨0, l, [], [], s0, _, _, rfl, rfl, HL0.out⟩
  case round =>
    obtain ⟨k, rest, done, ms, s, vw, vs, rfl, hdk, hL⟩ := hrel
    have hfit := hL.fit
    have HL := Lib.hid hL; clear hL
    have hspl : (cutS b l).length = k + (cutS b rest).length := by rw [HL.out.split, List.length_append, hdk]
    by_cases hlt : k < (cutS b l).length
    · have hk5 : k ≤ 600000 := by have := HBL.out; omega
      have hrl := blk_nonempty b rest (by omega) (by omega)
      have HB := Lib.hid (cutS_cons b rest (by omega) hrl)
      have HRL := Lib.hid (show 1 + (rest.drop b).length ≤ rest.length by rw [List.length_drop]; omega)
      have ht1 : (rest.take b).length ≤ 1024 := by rw [List.length_take]; omega
      have HT : (cutS b l)[k] = rest.take b := by
        have e := HL.out.split
        rw [HB.out] at e
        simp only [e]
        rw [List.getElem_append_right (by omega)]
        simp [hdk]
      have HHT := Lib.hid HT; clear HT
      clear hspl
      generalize rest.take b = t at *
      have SM := fun w' => Lib.hid ((wrefSum_any t w' (by omega)).mono (fun e w'' h => (⟨h.1, h.2 ▸ Below.refl _ _⟩ : e = _ ∧ Below w'.heap.size w' w'')))
      obtain ⟨x, hx⟩ : ∃ x, x = wk t := ⟨_, rfl⟩
      rw [← hx] at SM
      have HDX := Lib.hid (show (done ++ [t]).map wk = done.map wk ++ [x] by rw [List.map_append, hx]; rfl); clear hx
      obtain ⟨i0, hi0, hz0, hz1, hz2⟩ := info_parts info_i64
      have Hi := Lib.hid hi0; clear hi0
      have Z0 := Lib.hid hz0; clear hz0
      have Z1 := Lib.hid hz1; clear hz1
      have Z2 := Lib.hid hz2; clear hz2
      have hsz := HL.out.kept.size
      have hdl : done.length ≤ 524288 := by omega
      have HDK := Lib.hid hdk; clear hdk
      have d1 := HL.out.sig.c.2.2.1
      obtain ⟨aa, cc, hvv, hcells⟩ := OwnL.row HL.out.at'.2.1
      injection hvv with ha hn hc
      clear hn hc
      subst ha
      obtain ⟨gb, gf, rfl, _, hcell⟩ := hcells k hlt
      rw [HHT.out] at hcell
      have i1 : (0 : Int) ≤ (k : Int) := by omega
      have i2 : (k : Int) < ((cutS b l).length : Int) := by omega
      clear hcells
      go_upto_region 10 with fail
      go_cut [] (fun wx => ∃ vw', SignL (AtRow At F w0.heap.size (.slice (some ⟨gb, gf, none⟩) (cutS b l).length vc) (cutS b l)) (FRow F (.slice (some ⟨gb, gf, none⟩) (cutS b l).length vc)) nx mk ok w s0 b l.length l rest (done ++ [t]) done ms s vw' vs wx)
      case first =>
        have LD := Lib.hid (HL.out.grow HI.out (Below_drew (Below.refl _ wr)))
        go_region_law (first
            | (go_simp; go_at_call 60; refine (SM _).out.mono ?_; rintro e w1 ⟨rfl, hb1⟩; have L1 := Lib.hid (LD.out.grow HI.out hb1); have d2 := L1.out.sig.c.2.2.1; have d3 := cell_alloc1 d2 (.cells #[.int .i64 (x : Nat)] 3); have HO := Lib.hid (World.ownsRow.alloc L1.out.sig.own1 (.cells #[.int .i64 (x : Nat)] 3)); have HN := Lib.hid (news_new w1 (.int .i64 (x : Nat)) 3); have hsz1 := L1.out.kept.size; clear hb1)
            | ((with_reducible refine step_append_lies (o := ⟨some 43, _, _, _, _, _⟩) (w1.alloc (.cells #[.int .i64 (x : Nat)] 3)) rfl (.tmp 36) (.tmp 42) 57 rfl w.heap.size 3 i0 (.int .i64 0) 1 8 Try.underlying57 Hi.out Z0.out Z1.out Z2.out rfl (by decide) vw (done.map wk).length ((done.map wk).map encN) ?ev HO.out ⟨w1.heap.size, 0, none⟩ 1 1 [.int .i64 (x : Nat)] ?ex rfl HN.out ?oc (Nat.succ_pos 0) ?l1 ?l2 ?l3 (w1.heap.size + 1) ?l4 ?_)
               case ev => simp [Act.eval]
               case ex => simp [Act.eval]
               case oc => simp [Value.oneCell']
               case l1 => rw [List.length_map]; unfold maxLen; omega
               case l2 => rw [List.length_map]; omega
               case l3 => simp; omega
               case l4 => simp
               intro g cap w2 hown hgrow hat hlt2
               obtain ⟨f1, d4, PS⟩ := SigAt.push1 L1.out.sig hown hgrow hat
               simp only [List.length_map] at PS
               have HP := Lib.hid PS; clear PS hown hgrow hat hlt2))
        all_goals
          go_wp2_with fail
          go_meet
          exact ⟨_, L1.out.turned HI.out (by rw [HDX.out]; exact HP.out.1) HP.out.2.1 HP.out.2.2⟩
      case rest =>
        obtain ⟨vw', hLc⟩ := hcut
        have LC := Lib.hid hLc; clear hLc HL SM hsz d1 HDX hcell
        have hsz := LC.out.kept.size
        have d1 := LC.out.sig.c.2.2.2
        obtain ⟨aa, cc, hvv, hcells⟩ := OwnL.row LC.out.at'.2.1
        injection hvv with ha hn hc
        clear hn hc
        subst ha
        obtain ⟨gb', gf', hgg, _, hcell⟩ := hcells k hlt
        injection hgg with hgg
        injection hgg with hgg1 hgg2
        subst hgg1
        subst hgg2
        rw [HHT.out] at hcell
        clear hcells
        have LD := Lib.hid (LC.out.grow HI.out (Below_drew (Below.refl _ wc)))
        have hokD := LD.out.ok'
        rw [HB.out, List.length_cons] at hokD
        have MK := Lib.hid (HI.out.mark wc.drew s t _ LD.out.at' hokD ht1)
        have MSL := Lib.hid (LD.out.marked.length)
        obtain ⟨mt, hmt⟩ : ∃ mt, mt = mk s t := ⟨_, rfl⟩
        rw [← hmt] at MK
        have HMT := Lib.hid hmt; clear hmt hokD
        obtain ⟨i3, hi1, hy0, hy1, hy2⟩ := info_parts info_str
        have Hi1 := Lib.hid hi1; clear hi1
        have Y0 := Lib.hid hy0; clear hy0
        have Y1 := Lib.hid hy1; clear hy1
        have Y2 := Lib.hid hy2; clear hy2
        go_upto_region 11 with fail
        go_region_law (first
          | (go_simp; go_at_call 34; refine MK.out.mono ?_; rintro e w1 ⟨s', rfl, hnx, hok', hat', hk', hf'⟩; obtain ⟨SG, FIN⟩ := LD.out.marks HI.out HB.out HRL.out hnx hok' hat' hk' hf'; have HFIN := Lib.hid FIN; have HSG := Lib.hid SG; have d2 := SG.c.2.2.2; have d3 := cell_alloc1 d2 (.cells #[.string ⟨mt.toArray⟩] 9); have HO := Lib.hid (World.ownsRow.alloc SG.own2 (.cells #[.string ⟨mt.toArray⟩] 9)); have HN := Lib.hid (news_new w1 (.string ⟨mt.toArray⟩) 9); have hsz1 : wc.heap.size ≤ w1.heap.size := hk'.size; clear SG FIN hnx hok' hat' hk' hf')
          | ((with_reducible refine step_append_lies (o := ⟨some 54, _, _, _, _, _⟩) (w1.alloc (.cells #[.string ⟨mt.toArray⟩] 9)) rfl (.tmp 46) (.tmp 53) 33 rfl w.heap.size 9 i3 (.string ByteArray.empty) 1 16 Try.underlying33 Hi1.out Y0.out Y1.out Y2.out rfl (by decide) vs ms.length (ms.map encT) ?ev HO.out ⟨w1.heap.size, 0, none⟩ 1 1 [.string ⟨mt.toArray⟩] ?ex rfl HN.out ?oc (Nat.succ_pos 0) ?l1 ?l2 ?l3 (w1.heap.size + 1) ?l4 ?_)
             case ev => simp [Act.eval]
             case ex => simp [Act.eval]
             case oc => simp [Value.oneCell']
             case l1 => rw [MSL.out]; unfold maxLen; omega
             case l2 => rw [MSL.out]; omega
             case l3 => simp; omega
             case l4 => simp
             intro g cap w2 hown hgrow hat hlt2
             obtain ⟨f1, d4, PS⟩ := SigAt.push2 HSG.out hown hgrow hat
             have HP := Lib.hid PS; clear PS hown hgrow hat hlt2))
        all_goals
          have LE := Lib.hid (HFIN.out _ _ _ _ (by have := HP.out.1; rw [HMT.out] at this; exact this) HP.out.2.1 HP.out.2.2)
          go_wp2
          go_roundw
          case rel => exact ⟨k + 1, _, _, _, _, _, _, by go_num, by rw [List.length_append, HDK.out]; rfl, LE.out⟩
          case measure => simp [intOf]; omega
    · obtain ⟨a1, n1, k1, rfl⟩ := own_slice HL.out.sig.own1
      obtain ⟨a2, n2, k2, rfl⟩ := own_slice HL.out.sig.own2
      obtain ⟨s0', s1', s2', s3', s4', s5'⟩ := sig_store (b' := b) (n' := l.length) (vw' := .slice a1 n1 k1) (vs' := .slice a2 n2 k2) HL.out.res
      have S0 := s0'.1
      have S0f := s0'.2
      have S1 := s1'.1
      have S1f := s1'.2
      have S2 := s2'.1
      have S2f := s2'.2
      have S3 := s3'.1
      have S3f := s3'.2
      have S4 := Lib.hid s4'
      have S5 := Lib.hid s5'
      clear s0' s1' s2' s3' s4' s5'
      obtain ⟨c0, c1, c2, c3⟩ := HL.out.sig.c
      have hnl : ¬ (k : Int) < ((cutS b l).length : Int) := by omega
      have HD := Lib.hid (show done = cutS b l by
        have := HL.out.split
        rw [List.eq_nil_of_length_eq_zero (l := cutS b rest) (by omega), List.append_nil] at this
        exact this.symm)
      go_wp2
      refine bodyPost_ret (v := .tuple #[sigV b l.length (.slice a1 n1 k1) (.slice a2 n2 k2), .int .i64 0]) (results_row_tmp Try.results32 _ _ w.heap.size _ _ _ _ rfl S4.out Try.underlying59 rfl sig_info) rfl ?_
      have hk := S5.out
      have hn := HL.out.off_res
      have hnew : ∀ k, FRow F (.slice va (cutS b l).length vc) s k → F s0 k ∨ w.heap.size ≤ k := fun k hf => by
        rcases HL.out.new k hf with (h | h) | h
        · exact .inl h
        · have := (own_cells HL0.out.at'.2.1 h).1
          have := HZ0.out
          exact .inr (by omega)
        · exact .inr h
      refine ⟨_, _, ms, s, rfl, ?_, ?_, ?_, ?_, ?_, fun k hf => hnew k (.inl hf), ?_⟩
      · rw [← HD.out]; exact own_off HL.out.sig.own1 hk (fun g _ _ hg e => hn (.inr (.inl (by rw [← e]; exact hg))))
      · exact own_off HL.out.sig.own2 hk (fun g _ _ hg e => hn (.inr (.inr (by rw [← e]; exact hg))))
      · rw [← HD.out]; exact HL.out.marked
      · exact HI0.out.kept _ _ _ _ HL.out.at'.1 hk (fun k hf e => (HL.out.off k (.inl hf)).2 e)
      · have h0 := HL.out.kept
        refine ⟨hk.os.trans h0.os, hk.tape.trans h0.tape, hk.output.trans h0.output, Nat.le_trans h0.size hk.size, fun k hkl hm => (hk.block k (Nat.lt_of_lt_of_le hkl h0.size) (fun e => by omega)).trans (h0.block k hkl (fun hf => ?_))⟩
        rcases hf with hf | hf
        · exact hm hf
        · have := (own_cells HL0.out.at'.2.1 hf).1
          have := HZ0.out
          omega
      · exact fun k hf => ⟨fun e => (HL.out.off k (.inl hf)).1 (.inr (.inl e)), fun e => (HL.out.off k (.inl hf)).1 (.inr (.inr e))⟩
end Go.Proofs.Ytfblkhmhelmjlaa
/- The walk of the document's Right. -/
set_option linter.unusedVariables false
namespace Go.Proofs.Ytfblkhmhelmjlaa
open Go.RowKit

theorem all_take_succ {α : Type} (xs : List α) (p : α → Bool) (k : Nat) (hk : k < xs.length) (h : (xs.take k).all p = true) (hx : p xs[k] = true) : (xs.take (k + 1)).all p = true := by
  rw [List.take_succ_eq_append_getElem hk, List.all_append, h]; simpa using hx
theorem all_not {α : Type} (xs : List α) (p : α → Bool) (k : Nat) (hk : k < xs.length) (hx : p xs[k] = false) : xs.all p = false := by
  rw [List.all_eq_false]; exact ⟨xs[k], List.getElem_mem _, by simp [hx]⟩

set_option maxRecDepth 100000 in
set_option maxHeartbeats 2000000 in
theorem refRight_any (b n : Int) (ws : List Int) (ms : List Txt) (vw vs : Value) (N1 N2 : Nat → Prop) (w : World) (h1 : Row (Value.int .i64) N1 w vw ws) (h2 : Row encT N2 w vs ms) (hl1 : ws.length ≤ 1000000) (hl2 : ms.length ≤ 1000000) :
    Calls Try.prog 61 #[sigV b n vw vs] w fun e w' => e = .returned (.bool (rightS b n ws ms)) ∧ Below w.heap.size w w' := by
  have HB := Lib.hid ((Below.refl w.heap.size w).alloc (Nat.le_refl _) (sigC b n vw vs))
  obtain ⟨R, hR⟩ : ∃ R, R = rightS b n ws ms := ⟨_, rfl⟩
  rw [← hR]
  unfold rightS at hR
  by_cases b1 : b < 16
  · have e : R = false := by rw [hR, show okB b = false by simp [okB]; omega]; rfl
    subst e
    clear hR
    go_enter Try.func61, Try.ntmps61
    go_wp2
    go_ret
    exact ⟨rfl, HB.out⟩
  by_cases b2 : 1024 < b
  · have e : R = false := by rw [hR, show okB b = false by simp [okB]; omega]; rfl
    subst e
    clear hR
    go_enter Try.func61, Try.ntmps61
    go_wp2
    go_ret
    exact ⟨rfl, HB.out⟩
  by_cases n1 : n < 0
  · have e : R = false := by rw [hR, show okN n = false by simp [okN]; omega]; simp
    subst e
    clear hR
    go_enter Try.func61, Try.ntmps61
    go_wp2
    go_ret
    exact ⟨rfl, HB.out⟩
  by_cases n2 : 524288 < n
  · have e : R = false := by rw [hR, show okN n = false by simp [okN]; omega]; simp
    subst e
    clear hR
    go_enter Try.func61, Try.ntmps61
    go_wp2
    go_ret
    exact ⟨rfl, HB.out⟩
  obtain ⟨B, rfl⟩ : ∃ B : Nat, b = (B : Int) := ⟨b.toNat, by omega⟩
  obtain ⟨M, rfl⟩ : ∃ M : Nat, n = (M : Int) := ⟨n.toNat, by omega⟩
  obtain ⟨E1, E2, E4⟩ := nBlk_num M B (by omega) (by omega) (by omega)
  have E3 : ((M : Int) + (B : Int) - 1) / (B : Int) = ((nBlk M B : Nat) : Int) := by rw [show (M : Int) + B - 1 = ((M + B - 1 : Nat) : Int) by omega]; rfl
  rw [Int.toNat_natCast, Int.toNat_natCast, show okB (B : Int) = true by simp [okB]; omega, show okN (M : Int) = true by simp [okN]; omega, Bool.true_and, Bool.true_and] at hR
  have hb0 : ((B : Int) == 0) = false := by simp; omega
  have h1' : ∀ w', Below w.heap.size w w' → Row (Value.int .i64) N1 w' vw ws := fun w' hb' => h1.kept (Kept.new hb' (fun _ => False)) (fun _ _ => id)
  have h2' : ∀ w', Below w.heap.size w w' → Row encT N2 w' vs ms := fun w' hb' => h2.kept (Kept.new hb' (fun _ => False)) (fun _ _ => id)
  have H1 := Lib.hid (h1' _ HB.out)
  have H2 := Lib.hid (h2' _ HB.out)
  clear h1' h2'
  obtain ⟨a1, k1, rfl, _⟩ := h1
  obtain ⟨a2, k2, rfl, _⟩ := h2
  have G0 := Lib.hid (heap_alloc_new w (sigC B M (.slice a1 ws.length k1) (.slice a2 ms.length k2)))
  generalize nBlk M B = q at *
  have HR := Lib.hid hR; clear hR
  by_cases e1 : ws.length = q
  · have q1 : ((ws.length : Int) != (q : Int)) = false := by simp; omega
    by_cases e2 : ms.length = q
    · have q2 : ((ms.length : Int) != (q : Int)) = false := by simp; omega
      have HR2 := Lib.hid (show R = (ws.all sumOk && ms.all markOk) by rw [HR.out, decide_eq_true e1, decide_eq_true e2]; rfl)
      have HE1 := Lib.hid e1; clear e1
      have HE2 := Lib.hid e2; clear e2 HR
      have HU := Lib.hid (show ∀ w', w' = w.alloc (sigC B M (.slice a1 ws.length k1) (.slice a2 ms.length k2)) → Row (Value.int .i64) N1 w' (.slice a1 ws.length k1) ws ∧ Row encT N2 w' (.slice a2 ms.length k2) ms ∧ Below w.heap.size w w' ∧ w'.heap[w.heap.size]? = some (sigC B M (.slice a1 ws.length k1) (.slice a2 ms.length k2)) from fun w' e => by subst e; exact ⟨H1.out, H2.out, HB.out, G0.out⟩)
      clear H1 H2 HB G0
      go_enter Try.func61, Try.ntmps61
      go_wp2
      obtain ⟨w0, hw0⟩ : ∃ w0, w0 = w.alloc (sigC B M (.slice a1 ws.length k1) (.slice a2 ms.length k2)) := ⟨_, rfl⟩
      obtain ⟨r1, r2, hb0', g0⟩ := HU.out w0 hw0
      rw [← hw0]
      clear hw0 HU
      obtain ⟨_, _, hv1, hc1⟩ := r1
      injection hv1 with ea1 en1 ec1
      clear en1 ec1
      subst ea1
      obtain ⟨_, _, hv2, hc2⟩ := r2
      injection hv2 with ea2 en2 ec2
      clear en2 ec2
      subst ea2
      have HC1 := Lib.hid hc1
      have HC2 := Lib.hid hc2
      have B0 := Lib.hid hb0'
      have c2 := sig_c2 g0
      have c3 := sig_c3 g0
      clear hc1 hc2 hb0' g0
      go_loop [4] (fun i => ∃ k : Nat, k ≤ q ∧ i = .int .i64 k ∧ (ws.take k).all sumOk = true ∧ (ms.take k).all markOk = true) (fun i => q - (intOf i).toNat)
      case atStart => exact ⟨0, by omega, rfl, rfl, rfl⟩
      case round =>
        obtain ⟨k, hk, rfl, ha1, ha2⟩ := hrel
        have HA1 := Lib.hid ha1; clear ha1
        have HA2 := Lib.hid ha2; clear ha2
        by_cases hlt : k < q
        · have hk1 : k < ws.length := by rw [HE1.out]; exact hlt
          have hk2 : k < ms.length := by rw [HE2.out]; exact hlt
          obtain ⟨b1', o1, rfl, _, cc1⟩ := HC1.out k hk1
          obtain ⟨b2', o2, rfl, _, cc2⟩ := HC2.out k hk2
          unfold encT at cc2
          have NX1 := Lib.hid (all_take_succ ws sumOk k hk1 HA1.out)
          have NX2 := Lib.hid (all_take_succ ms markOk k hk2 HA2.out)
          have NO1 := Lib.hid (all_not ws sumOk k hk1)
          have NO2 := Lib.hid (all_not ms markOk k hk2)
          have i0 : (0 : Int) ≤ (k : Int) := by omega
          have i1 : (k : Int) < (ws.length : Int) := by omega
          have i2 : (k : Int) < (ms.length : Int) := by omega
          have i3 : (k : Int) < (q : Int) := by omega
          generalize ws[k] = x at *
          generalize ms[k] = t at *
          have L := Lib.hid (show (⟨t.toArray⟩ : ByteArray).size = t.length from rfl)
          by_cases x1 : x < 0
          · have e : R = false := by rw [HR2.out, NO1.out (by simp [sumOk]; omega)]; rfl
            subst e
            clear HR2
            go_wp2
            go_ret
            exact ⟨rfl, B0.out⟩
          by_cases x2 : 4294967295 < x
          · have e : R = false := by rw [HR2.out, NO1.out (by simp [sumOk]; omega)]; rfl
            subst e
            clear HR2
            go_wp2
            go_ret
            exact ⟨rfl, B0.out⟩
          by_cases t1 : t.length = 32
          · have t2 : ((t.length : Int) != 32) = false := by simp; omega
            have N1' := Lib.hid (NX1.out (by simp [sumOk]; omega))
            have N2' := Lib.hid (NX2.out (by simp [markOk]; exact t1))
            clear t1 NX1 NX2 NO1 NO2
            go_wp2
            go_round
            case rel => exact ⟨k + 1, by omega, by go_num, N1'.out, N2'.out⟩
            case measure => simp [intOf]; omega
          · have t2 : ((t.length : Int) != 32) = true := by simp; omega
            have e : R = false := by rw [HR2.out, NO2.out (by simp [markOk]; exact t1)]; simp
            subst e
            clear HR2 t1
            go_wp2
            go_ret
            exact ⟨rfl, B0.out⟩
        · have i3 : ¬ (k : Int) < (q : Int) := by omega
          have e : R = true := by
            rw [HR2.out]
            have h1 := HA1.out
            have h2 := HA2.out
            rw [List.take_of_length_le (by rw [HE1.out]; omega)] at h1
            rw [List.take_of_length_le (by rw [HE2.out]; omega)] at h2
            rw [h1, h2]
            rfl
          subst e
          clear HR2
          go_wp2
          go_ret
          exact ⟨rfl, B0.out⟩
    · have q2 : ((ms.length : Int) != (q : Int)) = true := by simp; omega
      have e : R = false := by rw [HR.out, decide_eq_false e2]; simp
      subst e
      clear HR e1 e2
      go_enter Try.func61, Try.ntmps61
      go_wp2
      go_ret
      exact ⟨rfl, HB.out⟩
  · have q1 : ((ws.length : Int) != (q : Int)) = true := by simp; omega
    have e : R = false := by rw [HR.out, decide_eq_false e1]; simp
    subst e
    clear HR e1
    go_enter Try.func61, Try.ntmps61
    go_wp2
    go_ret
    exact ⟨rfl, HB.out⟩
end Go.Proofs.Ytfblkhmhelmjlaa

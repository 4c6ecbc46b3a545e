/- Several texts in one: ApartW, RefBookW, Books2W. -/
import Derived.Test.YtcbodpcekjngbaaGreatArgs3
import Derived.Test.YtcbodpcekjngbaaGreatBookW
import Derived.Test.YtcbodpcekjngbaaGreatFrame
import Derived.Test.YtcbodpcekjngbaaGreatGen
import Derived.Test.YtcbodpcekjngbaaGreatInfos
import Derived.Test.YtcbodpcekjngbaaGreatMarkMath
import Derived.Test.YtcbodpcekjngbaaGreatOwnL
import Derived.Test.YtcbodpcekjngbaaGreatRows
import Derived.Test.YtcbodpcekjngbaaGreatShelf
import Derived.Deep.CutBlock
import Derived.Deep.DeepCutAuto
import Derived.Deep.RegionHeld3
import Derived.IntWalk
import Derived.Laws.BitsAllLaws
import Derived.Laws.Rows
import Derived.Laws.Tables
import Derived.Lib.Hide
import Derived.Outline
import Derived.WalkKit
import Derived.WalkLawsBesides
import Derived.WalkSpells
import Derived.Test.YtcbodpcekjngbaaGreatNumberW
import Derived.Maps.AppendAt
import Derived.Test.YtcbodpcekjngbaaGreatSigAt
import Derived.Test.YtcbodpcekjngbaaGreatSignMath
import Derived.Test.YtcbodpcekjngbaaGreatSignW
import Derived.Test.YtcbodpcekjngbaaGreatWkX
import Derived.BigQuiet
import Derived.Deep.QuietTactic
import Derived.StillTailTactics
/- The walk of the law MarksApart. -/
set_option linter.unusedVariables false
namespace Go.Proofs.YtcbodpcekjngbaaGreat
open Go.RowKit

/-- The marks of the first so many. -/
def mL (ys : List Txt) (k : Nat) : List Txt := (ys.take k).map fun y => numM (noS (seenS ys) y)
theorem mL_length (ys : List Txt) (k : Nat) (h : k ≤ ys.length) : (mL ys k).length = k := by unfold mL; rw [List.length_map, List.length_take]; omega
theorem mL_step (ys : List Txt) (k : Nat) (h : k < ys.length) : mL ys (k + 1) = mL ys k ++ [numM (noS (seenS (ys.take k)) ys[k])] := by
  unfold mL
  rw [List.take_succ_eq_append_getElem h, List.map_append, noS_later ys k h]
  rfl
theorem own_after {w1 w2 : World} {base : Nat} {e : TypeId} {v : Value} {xs : List (List UInt8)} (h : OwnL encT w1 base e v xs) (hb : Below w1.heap.size w1 w2) : OwnL encT w2 base e v xs :=
  own_off h (Kept.of_below hb) (fun g cur hg _ hm => absurd (Array.getElem?_eq_some_iff.1 hg).1 (by omega))
/-- A map's block is no list's. -/
theorem IdealAt.no_cells {w : World} {p bm : Nat} {S : List Txt} (h : IdealAt w p bm S) {cur : Array Value} {e : TypeId} {fr : Nat × Nat} : w.heap[bm]? ≠ some (.cells cur e fr) := by
  obtain ⟨D, ⟨es, cl, hb, _⟩, _⟩ := h.map
  rw [hb]
  intro h
  cases h
theorem own_mark {w w' : World} {p bm base : Nat} {S : List Txt} {v : Value} {e : TypeId} {xs : List Txt} (h : IdealAt w p bm S) (hown : OwnL encT w base e v xs) (hk : Kept (· = bm) w w') : OwnL encT w' base e v xs :=
  own_off hown hk (fun g cur hg _ hm => by subst hm; exact h.no_cells hg)
theorem IdealAt.appended {w w' : World} {p bm base : Nat} {S : List Txt} {v : Value} {e : TypeId} {xs : List Txt} (h : IdealAt w p bm S) (hown : OwnL encT w base e v xs) (he : e ≠ 63) (hk : Kept (fun k => some k = v.ownBlock) w w') : IdealAt w' p bm S := by
  have key : ∀ g, some g = v.ownBlock → ∃ cur, w.heap[g]? = some (.cells cur e (0, 0)) := by
    intro g hg
    rcases hown.2 with ⟨rfl, _⟩ | ⟨g', cap, cur, rfl, _, hgg, _⟩
    · simp [Value.ownBlock] at hg
    · simp [Value.ownBlock] at hg
      subst hg
      exact ⟨cur, hgg⟩
  refine h.kept hk ?_ ?_
  · intro hp
    obtain ⟨cur, hcur⟩ := key p hp
    have := h.book
    unfold BookAt at this
    rw [hcur] at this
    simp at this
    exact he this.2
  · intro hp
    obtain ⟨cur, hcur⟩ := key bm hp
    exact h.no_cells hcur


/-- What holds in every world of the region that compares: four cells, and that nothing that was there has turned. -/
def Four (W0 : World) (a1 a2 a3 a4 : Addr) (x1 x2 x3 x4 : Txt) (w : World) : Prop :=
  w.cell? a1 = some (encT x1) ∧ w.cell? a2 = some (encT x2) ∧ w.cell? a3 = some (encT x3) ∧ w.cell? a4 = some (encT x4) ∧ Below W0.heap.size W0 w
theorem four_kept {W0 w1 w2 : World} {a1 a2 a3 a4 : Addr} {x1 x2 x3 x4 : Txt} (h1 : w1.cell? a1 = some (encT x1)) (h2 : w1.cell? a2 = some (encT x2)) (h3 : w1.cell? a3 = some (encT x3)) (h4 : w1.cell? a4 = some (encT x4))
    (hb : Below W0.heap.size W0 w1) (h : Below w1.heap.size w1 w2) : w2.cell? a1 = some (encT x1) ∧ w2.cell? a2 = some (encT x2) ∧ w2.cell? a3 = some (encT x3) ∧ w2.cell? a4 = some (encT x4) ∧ Below W0.heap.size W0 w2 :=
  ⟨(h.cell (World.block_lt_of_cell? w1 _ h1)).trans h1, (h.cell (World.block_lt_of_cell? w1 _ h2)).trans h2, (h.cell (World.block_lt_of_cell? w1 _ h3)).trans h3, (h.cell (World.block_lt_of_cell? w1 _ h4)).trans h4, below2 hb h⟩

end Go.Proofs.YtcbodpcekjngbaaGreat
/- Walks of the document's own book, where it numbers. -/
set_option linter.unusedVariables false
namespace Go.Proofs.YtcbodpcekjngbaaGreat
open Go.RowKit

/-- Where a list's row may lie behind an append. -/
def Moved (w : World) (v v' : Value) : Prop := ∀ g, v'.ownBlock = some g → v.ownBlock = some g ∨ w.heap.size ≤ g
theorem Moved.refl (w : World) (v : Value) : Moved w v v := fun g h => .inl h
section
variable {P : Program}
theorem append_elem_at {α : Type} {enc : α → Value} {w : World} {ops : Array Oper} {rest : List Oper} {o : Oper} {a : Act} {Q : Exit → Act → World → Prop} (hgd : o.guard = none) (s x : Operand) (t e : TypeId) (z : Value) (bytes : Nat)
    (ho : o.op = .call { callee := .builtin .append, args := #[s, x], argTypes := #[t, t] }) (ht : P.underlying t = some (.slice e))
    (hinfo : (P.info? e).map (fun i => (i.zero, i.size, i.bytes)) = some (some z, 1, bytes)) (hz : z.cells.size = 1)
    (base : Nat) (v : Value) (l : List α) (y : α) (hone : (enc y).oneCell' = true) (hs : a.eval s = v) (hown : OwnL enc w base e v l) (hx : a.eval x = .slice (some ⟨w.heap.size, 0, none⟩) 1 1)
    (hlen : (l.length + 1) * bytes ≤ 140737488355328) (hlen2 : l.length + 1 ≤ maxLen) (hbase : base ≤ w.heap.size)
    (h : ∀ v' w', OwnL enc w' base e v' (l ++ [y]) → Kept (fun k => v.ownBlock = some k) w w' → Moved w v v' → wpList P ops Q rest (a.put o.dst v') w') :
    wpList P ops Q (o :: rest) a (w.alloc (.cells #[enc y] e)) := by
  obtain ⟨i0, hi, hz0, hz1, hz2⟩ := info_parts hinfo
  refine wpList_append_own_at _ hgd s x t ho base e i0 z 1 bytes ht hi hz0 hz1 hz2 hz (by decide) v l.length (l.map enc) hs (World.ownsRow.alloc hown _) ⟨w.heap.size, 0, none⟩ 1 1 [enc y] hx rfl ?_ ?_ hlen2 hlen ?_ ?_
  · exact cell_one_new w (enc y) e
  · intro u hu; simp at hu; subst hu; exact hone
  · simp; omega
  · intro v' w' hown' hg _ hat
    refine h v' w' ?_ ?_ ?_
    · unfold OwnL
      rw [List.map_append, List.length_append]
      exact hown'
    · have k1 : Kept (fun k => v.ownBlock = some k) w (w.alloc (.cells #[enc y] e)) := (Kept.refl _ _).alloc _
      refine k1.trans ⟨hg.os, hg.tape, hg.output, hg.size, fun k hk hm => hg.block k hk (fun he => hm he.symm)⟩
    · intro g hg'
      rcases hat with h | h
      · exact .inl (by rw [← h]; exact hg')
      · right
        rw [hg'] at h
        simp at h
        omega
end

/-- The document's own book in block q, its list v. -/
structure RefAt (w : World) (base q : Nat) (v : Value) (S : List Txt) : Prop where
  book : w.heap[q]? = some (.cells #[.bool false, v] 37 (0, 0))
  own : OwnL encT w base 9 v S
  at' : base ≤ q
theorem RefAt.c0 {w : World} {base q : Nat} {v : Value} {S : List Txt} (h : RefAt w base q v S) : w.cell? ⟨q, 0, none⟩ = some (.bool false) := by rw [cell_of_row _ _ _ _ _ _ h.book]; rfl
theorem RefAt.c1 {w : World} {base q : Nat} {v : Value} {S : List Txt} (h : RefAt w base q v S) : w.cell? ⟨q, 1, none⟩ = some v := by rw [cell_of_row _ _ _ _ _ _ h.book]; rfl
theorem RefAt.kept {w w' : World} {M : Nat → Prop} {base q : Nat} {v : Value} {S : List Txt} (h : RefAt w base q v S) (hk : Kept M w w') (hq : ¬ M q) (hv : ∀ g, v.ownBlock = some g → ¬ M g) : RefAt w' base q v S :=
  ⟨hk.old h.book hq, own_off h.own hk (fun g cur _ hg => hv g hg), h.at'⟩
theorem RefAt.new {w w' : World} {base q : Nat} {v : Value} {S : List Txt} (h : RefAt w base q v S) (hb : Below w.heap.size w w') : RefAt w' base q v S := h.kept (Kept.new hb (fun _ => False)) id (fun _ _ => id)
/-- The list's row is no book. -/
theorem RefAt.ne {w : World} {base q : Nat} {v : Value} {S : List Txt} (h : RefAt w base q v S) {g : Nat} (hg : v.ownBlock = some g) : g ≠ q := by
  rintro rfl
  rcases h.own.2 with ⟨rfl, _⟩ | ⟨g', cap, cur, rfl, _, hgg, _⟩
  · simp [Value.ownBlock] at hg
  · simp [Value.ownBlock] at hg
    subst hg
    have := h.book
    rw [hgg] at this
    simp at this
theorem RefAt.lt {w : World} {base q : Nat} {v : Value} {S : List Txt} (h : RefAt w base q v S) : q < w.heap.size ∧ ∀ g, v.ownBlock = some g → base ≤ g ∧ g < w.heap.size := by
  refine ⟨(Array.getElem?_eq_some_iff.1 h.book).1, fun g hg => ?_⟩
  rcases h.own.2 with ⟨rfl, _⟩ | ⟨g', cap, cur, rfl, hb, hgg, _⟩
  · simp [Value.ownBlock] at hg
  · simp [Value.ownBlock] at hg
    subst hg
    exact ⟨hb, (Array.getElem?_eq_some_iff.1 hgg).1⟩

/-- The list has grown; its place in the book is written behind. -/
theorem RefAt.appended {w w3 : World} {base q : Nat} {v v' : Value} {S : List Txt} {s : Txt} (h : RefAt w base q v S) (hown : OwnL encT w3 base 9 v' (S ++ [s])) (hk : Kept (fun k => v.ownBlock = some k) w w3) :
    w3.frozen? ⟨q, 1, none⟩ = false ∧ w3.cell? ⟨q, 1, none⟩ = some v ∧ RefAt (w3.setCell ⟨q, 1, none⟩ v') base q v' (S ++ [s]) ∧ Kept (fun k => k = q ∨ v.ownBlock = some k) w (w3.setCell ⟨q, 1, none⟩ v') := by
  have hb : w3.heap[q]? = some (.cells #[.bool false, v] 37 (0, 0)) := hk.old h.book (fun e => h.ne e rfl)
  have k2 : Kept (fun k => k = q) w3 (w3.setCell ⟨q, 1, none⟩ v') := (Kept.refl _ _).setCell (by rfl) _
  refine ⟨frozen_of_row w3 q 1 _ _ hb, by rw [cell_of_row _ _ _ _ _ _ hb]; rfl, ⟨?_, ?_, h.at'⟩, (hk.mono (fun k _ e => .inr e)).trans (k2.mono (fun k _ e => .inl e))⟩
  · rw [heap_setCell_same w3 q 1 _ _ _ hb]; rfl
  · refine own_off hown k2 (fun g cur hg _ e => ?_)
    rw [e, hb] at hg
    simp at hg
theorem OwnL.shape {w : World} {base : Nat} {e : TypeId} {v : Value} {S : List Txt} (h : OwnL encT w base e v S) : ∃ a n c, v = .slice a n c := by
  obtain ⟨a, c, rfl, _⟩ := h.row
  exact ⟨_, _, _, rfl⟩
theorem idxOf_first (S : List Txt) (s : Txt) (k : Nat) (hk : k < S.length) (h : s ∉ S.take k) (he : S[k] = s) : S.idxOf s = k := by
  have e : S = S.take k ++ S.drop k := (List.take_append_drop _ _).symm
  rw [e, List.idxOf_append, if_neg h, List.drop_eq_getElem_cons hk, he, List.idxOf_cons_self, List.length_take]
  omega
theorem not_mem_take_succ (S : List Txt) (s : Txt) (k : Nat) (hk : k < S.length) (h : s ∉ S.take k) (he : S[k] ≠ s) : s ∉ S.take (k + 1) := by
  rw [List.take_succ_eq_append_getElem hk]
  intro hm
  rcases List.mem_append.1 hm with hm | hm
  · exact h hm
  · simp at hm; exact he hm.symm
/-- Where a text stands, or -1. -/
def placeS (S : List Txt) (s : Txt) : Int := if s ∈ S then ((S.idxOf s : Nat) : Int) else -1

set_option maxRecDepth 100000 in
theorem place_any (w : World) (base q : Nat) (v : Value) (S : List Txt) (s : Txt) (h : RefAt w base q v S) (hn : S.length ≤ 1000000) :
    Calls Tryz.prog 78 #[.pointer (some ⟨q, 0, none⟩), .string ⟨s.toArray⟩] w fun e w' => e = .returned (.int .i64 (placeS S s)) ∧ w = w' := by
  have c1 := h.c1
  rcases h.own.row.cases with ⟨rfl, a, cap, rfl⟩ | ⟨b, off, cap, rfl, hbb, hc⟩
  · clear h
    go_enter Tryz.func78, Tryz.ntmps78
    go_wp2
    refine wp_loop_rounds 1 ?_
    rw [rounds_succ]
    go_wp2
    go_ret
    exact ⟨rfl, rfl⟩
  · have HC := Lib.hid hc; clear hc h
    go_enter Tryz.func78, Tryz.ntmps78
    go_wp2
    go_loop [5] (fun i => ∃ k : Nat, k ≤ S.length ∧ i = .int .i64 k ∧ s ∉ S.take k) (fun i => S.length - (intOf i).toNat)
    case atStart => exact ⟨0, by omega, rfl, by simp⟩
    case round =>
      obtain ⟨k, hk, rfl, hno⟩ := hrel
      have Hno := Lib.hid hno; clear hno
      by_cases hlt : k < S.length
      · have hcell := HC.out k hlt
        by_cases he : S[k] = s
        · have P := Lib.hid (show placeS S s = (k : Int) by
            unfold placeS
            rw [if_pos (by rw [← he]; exact List.getElem_mem _), idxOf_first S s k hlt Hno.out he])
          rw [he] at hcell
          have hself : (s == s) = true := by simp
          clear he
          unfold encT at hcell
          go_wp2
          go_ret
          rw [P.out]
          exact ⟨rfl, rfl⟩
        · have Hn := Lib.hid (not_mem_take_succ S s k hlt Hno.out he)
          have hne : (S[k] == s) = false := by simp [he]
          generalize S[k] = y at *
          clear he
          unfold encT at hcell
          go_wp2
          go_round
          case rel => exact ⟨k + 1, by omega, by go_num, Hn.out⟩
          case measure => simp [intOf]; omega
      · have P := Lib.hid (show placeS S s = -1 by
          unfold placeS
          rw [if_neg]
          have := Hno.out
          rw [List.take_of_length_le (by omega)] at this
          exact this)
        go_wp2
        go_ret
        rw [P.out]
        exact ⟨rfl, rfl⟩

theorem placeS_in {S : List Txt} {s : Txt} (h : s ∈ S) : placeS S s = ((S.idxOf s : Nat) : Int) := if_pos h
theorem placeS_no {S : List Txt} {s : Txt} (h : s ∉ S) : placeS S s = -1 := if_neg h
theorem noS_idx (S : List Txt) (s : Txt) (k : Nat) (h : S.idxOf s = k) : noS S s = k + 1 := by unfold noS; rw [h]

set_option maxRecDepth 100000 in
set_option maxHeartbeats 800000 in
theorem refMark_any (w : World) (base q : Nat) (v : Value) (S : List Txt) (s : Txt) (h : RefAt w base q v S) (hn : S.length ≤ 1000000) (hbase : base ≤ w.heap.size) :
    Calls Tryz.prog 43 #[.pointer (some ⟨q, 0, none⟩), .string ⟨s.toArray⟩] w fun e w' => ∃ v', e = .returned (.string ⟨(numM (noS S s)).toArray⟩) ∧ RefAt w' base q v' (markS S s) ∧
      Kept (fun k => k = q ∨ v.ownBlock = some k) w w' ∧ Moved w v v' := by
  have c0 := h.c0
  have c1 := h.c1
  have PL := Lib.hid (place_any w base q v S s h hn)
  by_cases hs : s ∈ S
  · obtain ⟨k, hk⟩ : ∃ k, S.idxOf s = k := ⟨_, rfl⟩
    have hkl : k < S.length := by rw [← hk]; exact List.idxOf_lt_length_of_mem hs
    rw [placeS_in hs, hk] at PL
    have NM := fun w' => Lib.hid (number_any (k + 1) w' (by omega))
    have E := Lib.hid (noS_idx S s k hk)
    have E2 := Lib.hid (markS_in hs)
    have H := Lib.hid h; clear h hk hs
    go_enter Tryz.func43, Tryz.ntmps43
    go_wp2_with fail
    refine PL.out.mono ?_
    rintro e w' ⟨rfl, rfl⟩
    go_wp2_with fail
    refine (NM _).out.mono ?_
    rintro e w2 ⟨rfl, hb2⟩
    go_wp2
    go_ret
    rw [E.out, E2.out]
    exact ⟨v, rfl, H.out.new hb2, Kept.new hb2 _, Moved.refl _ _⟩
  · rw [placeS_no hs] at PL
    have NM := fun w' => Lib.hid (number_any (S.length + 1) w' (by omega))
    have E := Lib.hid (noS_new hs)
    have E2 := Lib.hid (markS_new hs)
    have H := Lib.hid h; clear hs
    obtain ⟨a, cap, rfl, _⟩ := h.own.row
    clear h
    go_enter Tryz.func43, Tryz.ntmps43
    go_wp2_with fail
    refine PL.out.mono ?_
    rintro e w' ⟨rfl, rfl⟩
    have c1b := cell_alloc1 c1 (.cells #[.string ⟨s.toArray⟩] 9)
    go_wp2_with (at_builtin; refine append_elem_at (enc := encT) (y := s) rfl _ _ 23 9 (.string ByteArray.empty) 16 (by rfl) Tryz.underlying23 info_str rfl base _ _ rfl (by rfl) H.out.own (by rfl) (by omega) (by unfold maxLen; omega) hbase ?_; intro v' w3 hown3 hk3 hmv; obtain ⟨a3, n3, cap3, rfl⟩ := hown3.shape; have NX := Lib.hid (H.out.appended hown3 hk3); clear hown3 hk3; have f1 := NX.out.1; have c2 := NX.out.2.1)
    refine (NM _).out.mono ?_
    rintro e w4 ⟨rfl, hb4⟩
    go_wp2
    go_ret
    rw [E.out, E2.out]
    exact ⟨_, rfl, NX.out.2.2.1.new hb4, NX.out.2.2.2.trans (Kept.new hb4 _), hmv⟩


end Go.Proofs.YtcbodpcekjngbaaGreat
/- Books that mark: the document's ideal one. -/
set_option linter.unusedVariables false
namespace Go.Proofs.YtcbodpcekjngbaaGreat
open Go.RowKit

/-- The document's ideal book: its list, and the texts. -/
abbrev RefSt := Value × List Txt
def AtR (base q : Nat) (w : World) (s : RefSt) : Prop := RefAt w base q s.1 s.2 ∧ base ≤ w.heap.size
def FR (q : Nat) (s : RefSt) (k : Nat) : Prop := k = q ∨ s.1.ownBlock = some k
def nxR (s : RefSt) (t : Txt) (s' : RefSt) : Prop := s'.2 = markS s.2 t
def mkR (s : RefSt) (t : Txt) : Txt := numM (noS s.2 t)
def okR (n : Nat) (s : RefSt) : Prop := s.2.length + n ≤ 1000000
theorem book_ref (base q : Nat) : BookI 43 (.pointer (some ⟨q, 0, none⟩)) (AtR base q) (FR q) nxR mkR okR := by
  refine ⟨fun w s t n hat hok ht => ?_, fun w s k hat hk => ?_, fun w w' s M hat hk hM => ?_⟩
  · refine (refMark_any w base q s.1 s.2 t hat.1 (by unfold okR at hok; omega) hat.2).mono ?_
    rintro e w' ⟨v', rfl, h1, h2, h3⟩
    refine ⟨(v', markS s.2 t), rfl, rfl, by have := markS_length s.2 t; unfold okR at *; simp only; omega, ⟨h1, Nat.le_trans hat.2 h2.size⟩, h2, fun k hk => ?_⟩
    rcases hk with rfl | hk
    · exact .inl (.inl rfl)
    · rcases h3 k hk with h | h
      · exact .inl (.inr h)
      · exact .inr h
  · rcases hk with rfl | hk
    · exact hat.1.lt.1
    · exact (hat.1.lt.2 k hk).2
  · exact ⟨hat.1.kept hk (hM _ (.inl rfl)) (fun g hg => hM _ (.inr hg)), Nat.le_trans hat.2 hk.size⟩
theorem marked_ref {s0 s : RefSt} {ts ms : List Txt} (h : Marked nxR mkR s0 ts ms s) : Marked nxI mkI s0.2 ts ms s.2 := by
  induction h with
  | nil => exact .nil
  | snoc h1 h2 ih => exact ih.snoc h2
end Go.Proofs.YtcbodpcekjngbaaGreat

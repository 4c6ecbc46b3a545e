/- Walks of a book's own questions, and of what the ideal one numbers. -/
import Derived.Test.YtamiacmnobklaaaGreatDoorFrame
import Derived.Test.YtamiacmnobklaaaGreatDoorGen
import Derived.Test.YtamiacmnobklaaaGreatDoorIdealW
import Derived.Test.YtamiacmnobklaaaGreatDoorMarkMath
import Derived.Test.YtamiacmnobklaaaGreatDoorOwnL
import Derived.Test.YtamiacmnobklaaaGreatDoorRows
import Derived.Test.YtamiacmnobklaaaGreatDoorShelf
import Derived.BigQuiet
import Derived.BigRegion
import Derived.Deep.QuietTactic
import Derived.Deep.RegionLaw
import Derived.Laws.BitsAllLaws
import Derived.Lib.Hide
import Derived.Maps.OwnSet
import Derived.Maps.Views
import Derived.WalkKit
set_option linter.unusedVariables false
namespace Go.Proofs.YtamiacmnobklaaaGreatDoor
open Go.RowKit

theorem ret_bool {a b : Bool} (h : a = b) : Ending.returned (.bool a) = .returned (.bool b) := by rw [h]
/-- A book in block p. -/
def BookAt (w : World) (p : Nat) (a : Option Addr) (m : Option Nat) : Prop := w.heap[p]? = some (.cells #[.pointer a, .map m] 90 (0, 0))
theorem BookAt.c0 {w : World} {p : Nat} {a : Option Addr} {m : Option Nat} (h : BookAt w p a m) : w.cell? ⟨p, 0, none⟩ = some (.pointer a) := by rw [cell_of_row _ _ _ _ _ _ h]; rfl
theorem BookAt.c1 {w : World} {p : Nat} {a : Option Addr} {m : Option Nat} (h : BookAt w p a m) : w.cell? ⟨p, 1, none⟩ = some (.map m) := by rw [cell_of_row _ _ _ _ _ _ h]; rfl

theorem isReal_any (w : World) (p : Nat) (a : Option Addr) (m : Option Nat) (h : BookAt w p a m) :
    Calls Tryz.prog 45 #[.pointer (some ⟨p, 0, none⟩)] w fun e w' => e = .returned (.bool a.isSome) ∧ w = w' := by
  have c0 := h.c0
  cases a with
  | none =>
    go_enter Tryz.func45, Tryz.ntmps45
    go_wp2
    go_ret
    exact ⟨rfl, rfl⟩
  | some a =>
    go_enter Tryz.func45, Tryz.ntmps45
    go_wp2
    go_ret
    exact ⟨rfl, rfl⟩
theorem isReal_nil (w : World) : Calls Tryz.prog 45 #[.pointer none] w fun e w' => e = .returned (.bool false) ∧ w = w' := by
  go_enter Tryz.func45, Tryz.ntmps45
  go_wp2
  go_ret
  exact ⟨rfl, rfl⟩
theorem isIdeal_any (w : World) (p : Nat) (a : Option Addr) (m : Option Nat) (h : BookAt w p a m) :
    Calls Tryz.prog 47 #[.pointer (some ⟨p, 0, none⟩)] w fun e w' => e = .returned (.bool m.isSome) ∧ w = w' := by
  have c1 := h.c1
  have hneq := fun (w : World) (r : Option Nat) => run_neq_map_nil (P := Tryz.prog) w 70 9 3 r Tryz.underlying70
  cases m with
  | none =>
    go_enter Tryz.func47, Tryz.ntmps47
    go_wp2
    go_ret
    exact ⟨rfl, rfl⟩
  | some a =>
    go_enter Tryz.func47, Tryz.ntmps47
    go_wp2
    go_ret
    exact ⟨rfl, rfl⟩
theorem isIdeal_nil (w : World) : Calls Tryz.prog 47 #[.pointer none] w fun e w' => e = .returned (.bool false) ∧ w = w' := by
  go_enter Tryz.func47, Tryz.ntmps47
  go_wp2
  go_ret
  exact ⟨rfl, rfl⟩

/-! ### The ideal book -/
theorem keyLaw : Maps.Keyed Tryz.prog 9 := Maps.string_keyed Tryz.underlying9
theorem zeroInt (w : World) : (zeroValue 3).run Tryz.prog w = .ok (.int .i64 0) w := by kernel_rfl
abbrev litN (n : Nat) : DataW Unit := .lit (.int .i64 (n : Int))
/-- The map's reading is what S says. -/
structure MapIs (D : DataW Unit) (S : List Txt) : Prop where
  tidy : Maps.Tidy D
  size : Maps.size D = S.length
  has : ∀ s : Txt, Maps.has D (.string s) = decide (s ∈ S)
  at' : ∀ s : Txt, s ∈ S → D.atKey (.string s) (litN 0) = litN (noS S s)
theorem MapIs.start : MapIs (.map []) [] := ⟨Maps.tidy_empty, rfl, fun s => by simp [Maps.has], fun s h => by simp at h⟩
theorem MapIs.put {D : DataW Unit} {S : List Txt} (h : MapIs D S) (s : Txt) (hs : s ∉ S) : MapIs (D.put (.string s) (litN (S.length + 1))) (markS S s) := by
  have hk : WideAt.IsKeyLit (.string s) := trivial
  have hno : Maps.has D (.string s) = false := by rw [h.has]; exact decide_eq_false hs
  rw [markS_new hs]
  refine ⟨h.tidy.put hk _, ?_, fun t => ?_, fun t ht => ?_⟩
  · rw [Maps.size_put h.tidy, hno, h.size, List.length_append]; rfl
  · by_cases e : t = s
    · subst e
      rw [Maps.has_put_same h.tidy.isMap hk]
      simp
    · rw [Maps.has_put_other (fun e' => e (by injection e')), h.has]
      simp [e]
  · by_cases e : t = s
    · subst e
      rw [Maps.atKey_put_same h.tidy.isMap hk]
      have := noS_mark S t t (.inr rfl)
      rw [markS_new hs] at this
      rw [this, noS_new hs]
    · have ht' : t ∈ S := by simpa [e] using ht
      rw [Maps.atKey_put_other (fun e' => e (by injection e')), h.at' t ht']
      have := noS_mark S s t (.inl ht')
      rw [markS_new hs] at this
      rw [this]

/-- An ideal book in block p, its map in block bm. -/
structure IdealAt (w : World) (p bm : Nat) (S : List Txt) : Prop where
  book : BookAt w p none (some bm)
  map : ∃ D : DataW Unit, w.ownsMap Tryz.prog 9 (plainElem Tryz.prog 3) bm S.length D ∧ MapIs D S
theorem IdealAt.ne {w : World} {p bm : Nat} {S : List Txt} (h : IdealAt w p bm S) : p ≠ bm := by
  rintro rfl
  obtain ⟨D, ⟨es, cl, hb, _⟩, _⟩ := h.map
  have := h.book
  unfold BookAt at this
  rw [hb] at this
  cases this
theorem IdealAt.lt {w : World} {p bm : Nat} {S : List Txt} (h : IdealAt w p bm S) : p < w.heap.size ∧ bm < w.heap.size := by
  obtain ⟨D, hown, _⟩ := h.map
  exact ⟨(Array.getElem?_eq_some_iff.1 h.book).1, hown.lt⟩
theorem ownsMap_kept {w w' : World} {M : Nat → Prop} {bm n : Nat} {D : DataW Unit} (h : w.ownsMap Tryz.prog 9 (plainElem Tryz.prog 3) bm n D) (hk : Kept M w w') (hm : ¬ M bm) :
    w'.ownsMap Tryz.prog 9 (plainElem Tryz.prog 3) bm n D := by
  obtain ⟨es, cl, hb, rest⟩ := h
  exact ⟨es, cl, hk.old hb hm, rest⟩
theorem IdealAt.kept {w w' : World} {M : Nat → Prop} {p bm : Nat} {S : List Txt} (h : IdealAt w p bm S) (hk : Kept M w w') (hp : ¬ M p) (hm : ¬ M bm) : IdealAt w' p bm S := by
  obtain ⟨D, hown, hD⟩ := h.map
  exact ⟨hk.old h.book hp, D, ownsMap_kept hown hk hm, hD⟩
theorem Kept.of_grown {w w' : World} {b : Nat} (h : w.grownBy w' (some b)) : Kept (· = b) w w' := ⟨h.os, h.tape, h.output, h.size, fun k hk hm => h.block k hk (fun e => hm (by simpa using e))⟩

theorem clone_any (l : List UInt8) (w : World) (hl : l.length ≤ 140737488351232) :
    Calls Tryz.prog 42 #[.string ⟨l.toArray⟩] w fun e w' => e = .returned (.string ⟨l.toArray⟩) ∧ Below w.heap.size w w' := by
  have C := fun w' => Lib.hid (Tryz.stringslite_Clone ⟨l.toArray⟩ w' (by show l.length ≤ _; omega))
  go_enter Tryz.func42, Tryz.ntmps42
  go_wp2_with fail
  refine (C _).out.mono ?_
  rintro e w1 ⟨rfl, hb1⟩
  go_wp2
  go_ret
  exact ⟨rfl, hb1⟩

theorem number_in (w : World) (p bm : Nat) (S : List Txt) (s : Txt) (h : IdealAt w p bm S) (hs : s ∈ S) (hl : s.length ≤ 140737488351232) :
    Calls Tryz.prog 49 #[.pointer (some ⟨p, 0, none⟩), .string ⟨s.toArray⟩] w fun e w' => e = .returned (.int .i64 (noS S s : Nat)) ∧ w = w' := by
  obtain ⟨D, hown, hD⟩ := h.map
  have c1 := h.book.c1
  have hkey : keyOf Tryz.prog 9 (.string ⟨s.toArray⟩) = some (.string s) := WideMaps.keyOf_string_mk Tryz.underlying9 (s := ⟨s.toArray⟩) (by show s.length ≤ maxLen; unfold maxLen; omega)
  have e1 : Maps.has D (.string s) = true := by rw [hD.has]; exact decide_eq_true hs
  have E2 := Lib.hid (hD.at' s hs)
  have Hown := Lib.hid hown; clear hown
  clear h hD
  go_enter Tryz.func49, Tryz.ntmps49
  go_wp2_with (at_lookup; refine wpList_lookup_own_ok_int _ rfl _ _ 70 rfl 9 3 .i64 keyLaw Tryz.underlying70 Tryz.underlying3 (zeroInt _) bm S.length D rfl Hown.out _ _ rfl hkey ?_; intro c hat hwc; have Hat := Lib.hid hat; clear hat hwc)
  go_ret
  have := Hat.out.symm.trans E2.out
  simp only [litN, DataW.lit.injEq, Lit.int.injEq] at this
  rw [this.2]
  exact ⟨rfl, rfl⟩

theorem number_new (w : World) (p bm : Nat) (S : List Txt) (s : Txt) (h : IdealAt w p bm S) (hs : s ∉ S) (hl : s.length ≤ 140737488351232) (hn : S.length ≤ 1000000) :
    Calls Tryz.prog 49 #[.pointer (some ⟨p, 0, none⟩), .string ⟨s.toArray⟩] w fun e w' => e = .returned (.int .i64 (noS S s : Nat)) ∧ IdealAt w' p bm (markS S s) ∧ Kept (· = bm) w w' := by
  obtain ⟨D, hown, hD⟩ := h.map
  have c1 := h.book.c1
  have hne := h.ne
  have hlt := h.lt
  have hkey : keyOf Tryz.prog 9 (.string ⟨s.toArray⟩) = some (.string s) := WideMaps.keyOf_string_mk Tryz.underlying9 (s := ⟨s.toArray⟩) (by show s.length ≤ maxLen; unfold maxLen; omega)
  have e1 : Maps.has D (.string s) = false := by rw [hD.has]; exact decide_eq_false hs
  have E2 := Lib.hid hD.size
  have E3 := Lib.hid (noS_new hs)
  have UPD := Lib.hid (fun (w1 : World) (hb : Below w.heap.size w.drew w1) => show ∃ w2, (Instr.mapUpdate 70 (.map (some bm)) (.string ⟨s.toArray⟩) (.int .i64 ((S.length : Int) + 1))).run Tryz.prog w1 = .ok () w2 ∧ w1.cell? ⟨p, 1, none⟩ = some (.map (some bm)) ∧ IdealAt w2 p bm (markS S s) ∧ Kept (· = bm) w w2 by
    have k1 : Kept (fun _ => False) w w1 := (Kept.refl (fun _ => False) w).drew.trans ⟨hb.os, hb.tape, hb.output, hb.size, fun k hk _ => hb.block k hk⟩
    obtain ⟨w2, hrun, hown2, hg2⟩ := (ownsMap_kept hown k1 id).update keyLaw Tryz.underlying70 (by unfold maxLen; omega) hkey (val := .int .i64 ((S.length : Int) + 1)) (d := litN (S.length + 1)) (ps := []) (plainElem_int Tryz.underlying3 (WalkArith.wf_i64 (by omega)))
    refine ⟨w2, hrun, BookAt.c1 (a := none) (k1.old h.book id), ⟨?_, _, ?_, hD.put s hs⟩, (k1.mono (fun k _ hf => hf.elim)).trans (Kept.of_grown hg2)⟩
    · exact (Kept.of_grown hg2).old (k1.old h.book id) hne
    · rw [markS_new hs, List.length_append]; exact hown2)
  have Hown := Lib.hid hown; clear hown
  have CL := fun w' => Lib.hid (clone_any s w' hl)
  clear h hD hne hlt
  go_enter Tryz.func49, Tryz.ntmps49
  go_wp2_with (first
    | (at_lookup; refine wpList_lookup_own_ok_int _ rfl _ _ 70 rfl 9 3 .i64 keyLaw Tryz.underlying70 Tryz.underlying3 (zeroInt _) bm S.length D rfl Hown.out _ _ rfl hkey ?_; intro c hat hwc; clear hat hwc)
    | (at_len; refine wpList_len_own _ rfl _ 70 rfl 9 3 Tryz.underlying70 _ bm S.length D rfl Hown.out ?_; rw [E2.out]))
  go_region_with (go_at_call 42; refine (CL _).out.mono ?_; rintro e w1 ⟨rfl, hb1⟩; obtain ⟨w2, hrun, c2, h2⟩ := UPD.out w1 hb1)
  all_goals
    go_wp2
    go_ret
    rw [E3.out]
    exact ⟨rfl, h2⟩

/-- number, in one contract. -/
theorem bookNumber_any (w : World) (p bm : Nat) (S : List Txt) (s : Txt) (h : IdealAt w p bm S) (hl : s.length ≤ 140737488351232) (hn : S.length ≤ 1000000) :
    Calls Tryz.prog 49 #[.pointer (some ⟨p, 0, none⟩), .string ⟨s.toArray⟩] w fun e w' => e = .returned (.int .i64 (noS S s : Nat)) ∧ IdealAt w' p bm (markS S s) ∧ Kept (· = bm) w w' := by
  by_cases hs : s ∈ S
  · refine (number_in w p bm S s h hs hl).mono ?_
    rintro e w' ⟨rfl, rfl⟩
    rw [markS_in hs]
    exact ⟨rfl, h, Kept.refl _ _⟩
  · exact number_new w p bm S s h hs hl hn

theorem mark_ideal (w : World) (p bm : Nat) (S : List Txt) (s : Txt) (h : IdealAt w p bm S) (hl : s.length ≤ 140737488351232) (hn : S.length ≤ 1000000) :
    Calls Tryz.prog 20 #[.pointer (some ⟨p, 0, none⟩), .string ⟨s.toArray⟩] w fun e w' => e = .returned (.string ⟨(numM (noS S s)).toArray⟩) ∧ IdealAt w' p bm (markS S s) ∧ Kept (· = bm) w w' := by
  have C1 := fun w' h => Lib.hid (isReal_any w' p none (some bm) h)
  have C2 := fun w' h => Lib.hid (isIdeal_any w' p none (some bm) h)
  have C3 := Lib.hid (bookNumber_any w p bm S s h hl hn)
  have C4 := fun w' => Lib.hid (numbered_any (noS S s) w' (by have := noS_le S s; omega))
  have HB := Lib.hid h.book
  clear h
  go_enter Tryz.func20, Tryz.ntmps20
  go_wp2_with fail
  refine (C1 _ HB.out).out.mono ?_
  rintro e w' ⟨rfl, rfl⟩
  go_wp2_with fail
  refine (C2 _ HB.out).out.mono ?_
  rintro e w' ⟨rfl, rfl⟩
  go_wp2_with fail
  refine C3.out.mono ?_
  rintro e w1 ⟨rfl, hid1, hk1⟩
  go_wp2_with fail
  refine (C4 _).out.mono ?_
  rintro e w2 ⟨rfl, hb2⟩
  go_wp2
  go_ret
  have hlt := hid1.lt
  have k2 : Kept (fun _ => False) w1 w2 := Kept.new hb2 _
  exact ⟨rfl, hid1.kept k2 id id, hk1.trans (k2.mono (fun k _ hf => hf.elim))⟩

theorem is_ideal (w : World) (p bm : Nat) (S : List Txt) (s m : Txt) (h : IdealAt w p bm S) (hl : s.length ≤ 140737488351232) (hn : S.length ≤ 1000000) :
    Calls Tryz.prog 59 #[.pointer (some ⟨p, 0, none⟩), .string ⟨s.toArray⟩, .string ⟨m.toArray⟩] w fun e w' => e = .returned (.bool (isS S s m)) ∧ Below w.heap.size w w' := by
  have C1 := fun w' h => Lib.hid (isReal_any w' p none (some bm) h)
  have C2 := fun w' h => Lib.hid (isIdeal_any w' p none (some bm) h)
  have C4 := fun w' => Lib.hid (numbered_any (noS S s) w' (by have := noS_le S s; omega))
  have HB := Lib.hid h.book
  have c1 := h.book.c1
  obtain ⟨D, hown, hD⟩ := h.map
  have hkey : keyOf Tryz.prog 9 (.string ⟨s.toArray⟩) = some (.string s) := WideMaps.keyOf_string_mk Tryz.underlying9 (s := ⟨s.toArray⟩) (by show s.length ≤ maxLen; unfold maxLen; omega)
  have Hown := Lib.hid hown; clear hown
  clear h
  by_cases hs : s ∈ S
  · have e1 : Maps.has D (.string s) = true := by rw [hD.has]; exact decide_eq_true hs
    have E2 := Lib.hid (hD.at' s hs)
    clear hD
    go_enter Tryz.func59, Tryz.ntmps59
    go_wp2_with fail
    refine (C1 _ HB.out).out.mono ?_
    rintro e w' ⟨rfl, rfl⟩
    go_wp2_with fail
    refine (C2 _ HB.out).out.mono ?_
    rintro e w' ⟨rfl, rfl⟩
    go_wp2_with (at_lookup; refine wpList_lookup_own_ok_int _ rfl _ _ 70 rfl 9 3 .i64 keyLaw Tryz.underlying70 Tryz.underlying3 (zeroInt _) bm S.length D rfl Hown.out _ _ rfl hkey ?_; intro c hat hwc; have hc := hat.symm.trans E2.out; have hc2 : c = ((noS S s : Nat) : Int) := (by simpa [litN] using hc); clear hat hwc hc; subst hc2)
    refine (C4 _).out.mono ?_
    rintro e w2 ⟨rfl, hb2⟩
    go_wp2
    go_ret
    exact ⟨ret_bool (by unfold isS; rw [decide_eq_true hs, Bool.true_and, Bool.eq_iff_iff]; simp), hb2⟩
  · have e1 : Maps.has D (.string s) = false := by rw [hD.has]; exact decide_eq_false hs
    clear hD
    go_enter Tryz.func59, Tryz.ntmps59
    go_wp2_with fail
    refine (C1 _ HB.out).out.mono ?_
    rintro e w' ⟨rfl, rfl⟩
    go_wp2_with fail
    refine (C2 _ HB.out).out.mono ?_
    rintro e w' ⟨rfl, rfl⟩
    go_wp2_with (at_lookup; refine wpList_lookup_own_ok_int _ rfl _ _ 70 rfl 9 3 .i64 keyLaw Tryz.underlying70 Tryz.underlying3 (zeroInt _) bm S.length D rfl Hown.out _ _ rfl hkey ?_; intro c hat hwc; clear hat hwc)
    go_ret
    exact ⟨ret_bool (by unfold isS; rw [decide_eq_false hs, Bool.false_and]), Below.refl _ _⟩

/-! ### The books as they begin -/
theorem ideal_any (w : World) : Calls Tryz.prog 33 #[] w fun e w' => ∃ p bm, e = .returned (.pointer (some ⟨p, 0, none⟩)) ∧ IdealAt w' p bm [] ∧ w.heap.size ≤ p ∧ w.heap.size ≤ bm ∧ Below w.heap.size w w' := by
  have hmm := @run_makeMap Tryz.prog
  have hb : Below w.heap.size w ((w.alloc (.map #[] 0)).alloc (.cells #[.pointer none, .map (some w.heap.size)] 90)) := ((Below.refl _ _).alloc (Nat.le_refl _) _).alloc (by simp) _
  have H := Lib.hid hb; clear hb
  go_enter Tryz.func33, Tryz.ntmps33
  go_wp2
  go_ret
  refine ⟨w.heap.size + 1, w.heap.size, rfl, ⟨?_, .map [], ?_, MapIs.start⟩, by omega, by omega, H.out⟩
  · have := heap_alloc_new (w.alloc (.map #[] 0)) (.cells #[.pointer none, .map (some w.heap.size)] 90)
    rw [show (w.alloc (.map #[] 0)).heap.size = w.heap.size + 1 by simp] at this
    exact this
  · exact (World.ownsMap_made w Tryz.prog 9 _).alloc _

theorem mark_at (w : World) (p bm : Nat) (S : List Txt) (s : Txt) (n : Nat) (T : List Txt) (h : IdealAt w p bm S) (hl : s.length ≤ 140737488351232) (hn : S.length ≤ 1000000) (h1 : noS S s = n) (h2 : markS S s = T) :
    Calls Tryz.prog 20 #[.pointer (some ⟨p, 0, none⟩), .string ⟨s.toArray⟩] w fun e w' => e = .returned (.string ⟨(numM n).toArray⟩) ∧ IdealAt w' p bm T ∧ Kept (· = bm) w w' := by
  subst h1; subst h2; exact mark_ideal w p bm S s h hl hn
theorem IdealAt.new {w w' : World} {p bm : Nat} {S : List Txt} (h : IdealAt w p bm S) (hb : Below w.heap.size w w') : IdealAt w' p bm S := h.kept (Kept.new hb (fun _ => False)) id id

end Go.Proofs.YtamiacmnobklaaaGreatDoor

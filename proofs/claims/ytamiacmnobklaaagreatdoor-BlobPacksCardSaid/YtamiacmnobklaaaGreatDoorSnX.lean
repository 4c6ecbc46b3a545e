/- Several texts in one: AllW, ScanW, BlobUnW, BlobUnMath. -/
import Derived.Test.YtamiacmnobklaaaGreatDoorBdX
import Derived.Test.YtamiacmnobklaaaGreatDoorOnX
import Derived.Test.YtamiacmnobklaaaGreatDoorFrame
import Derived.Test.YtamiacmnobklaaaGreatDoorGen
import Derived.Test.YtamiacmnobklaaaGreatDoorInfos
import Derived.Test.YtamiacmnobklaaaGreatDoorOwnL
import Derived.Test.YtamiacmnobklaaaGreatDoorRows
import Derived.Test.YtamiacmnobklaaaGreatDoorShelf
import Derived.Test.YtamiacmnobklaaaGreatDoorCrX
import Derived.BigQuiet
import Derived.Laws.BitsAllLaws
import Derived.Lib.Hide
import Derived.Outline
import Derived.WalkKit
import Derived.WalkLawsBesides
import Derived.WalkSpells
import Derived.Test.YtamiacmnobklaaaGreatDoorMpX
import Derived.Test.YtamiacmnobklaaaGreatDoorFrmShelf
import Derived.Test.YtamiacmnobklaaaGreatDoorSmX
import Derived.Deep.AppendLies
import Derived.Deep.Onto
import Derived.Deep.QuietTactic
import Derived.IntWalk
import Derived.Laws.Externs
import Derived.Laws.Rows
import Derived.Laws.Tables
import Derived.Lib.AppendStr
import Derived.Lib.Builder
import Derived.Lib.Strings
import Derived.Lib.TrailingZeros
import Derived.Lib.Walk
import Derived.Test.YtamiacmnobklaaaGreatDoorArX
import Derived.Test.YtamiacmnobklaaaGreatDoorBldShelf
import Derived.Test.YtamiacmnobklaaaGreatDoorB1X
import Derived.Test.YtamiacmnobklaaaGreatDoorB2X
import Derived.Test.YtamiacmnobklaaaGreatDoorBookW
import Derived.Test.YtamiacmnobklaaaGreatDoorCdX
import Derived.Test.YtamiacmnobklaaaGreatDoorFtX
import Derived.Test.YtamiacmnobklaaaGreatDoorItX
import Derived.Test.YtamiacmnobklaaaGreatDoorMarkMath
import Derived.Test.YtamiacmnobklaaaGreatDoorProg
import Derived.Test.YtamiacmnobklaaaGreatDoorRiX
import Derived.Test.YtamiacmnobklaaaGreatDoorRefOfTW
import Derived.Test.YtamiacmnobklaaaGreatDoorRefReadW
import Derived.Test.YtamiacmnobklaaaGreatDoorRfX
import Derived.Test.YtamiacmnobklaaaGreatDoorRowN
import Derived.Test.YtamiacmnobklaaaGreatDoorSoX
import Derived.Test.YtamiacmnobklaaaGreatDoorTmX
import Derived.Test.YtamiacmnobklaaaGreatDoorAwX
import Derived.Test.YtamiacmnobklaaaGreatDoorTreeMath
import Derived.BigRegion
import Derived.Deep.Cut
import Derived.Deep.CutRange
import Derived.Deep.DeepCutAuto
import Derived.Deep.RegionHeld
import Derived.Deep.RegionLaw
import Derived.Deep.Slices
import Derived.Deep.Strs
import Derived.Laws.IdiomStrings
import Derived.Laws.OwnMore
import Derived.Laws.RangeAny
import Derived.Lib.SlicesS
import Derived.Lib.SmallJoins
import Derived.LoopIn
import Derived.LoopNIn
import Derived.LoopTactic
import Derived.OwnWalkIn
import Derived.RangeFuncBound
import Derived.RangeFuncCalls
import Derived.RangeFuncLeaves
import Derived.RangeFuncNested
import Derived.Shelf.Abstract
import Derived.Shelf.RegionOpen
import Derived.Shelf.Strings.SplitCore
import Derived.Sort.OwnSorted
import Derived.StillTail
import Derived.StillTailTactics
import Derived.TacticsInMore
import Derived.Test.YtamiacmnobklaaaGreatDoorRefMatchW9
import Derived.ChangeAlike
import Derived.Deep.CutBlock
import Derived.Deep.RegionHeld3
import Derived.RegionTactic
/- The walk of All. -/
set_option linter.unusedVariables false
namespace Go.Proofs.YtamiacmnobklaaaGreatDoor
open Go.RowKit

def framesB (xs : List (List UInt8)) : List UInt8 := xs.flatMap frameB
theorem framesB_take (xs : List (List UInt8)) (k : Nat) (h : k < xs.length) : framesB (xs.take (k + 1)) = framesB (xs.take k) ++ frameB xs[k] := by
  rw [List.take_succ_eq_append_getElem h]
  unfold framesB
  rw [List.flatMap_append, List.flatMap_cons, List.flatMap_nil, List.append_nil]
theorem framesB_length (xs : List (List UInt8)) (h : ∀ x ∈ xs, x.length ≤ 65536) : (framesB xs).length ≤ 65546 * xs.length := by
  induction xs with
  | nil => simp [framesB]
  | cons x xs ih =>
    have h1 := h x (by simp)
    have h2 := ih (fun y hy => h y (by simp [hy]))
    unfold framesB at h2 ⊢
    rw [List.flatMap_cons, List.length_append, frameB_length, List.length_cons]
    omega
/-- The frames, or that one is too long. -/
def allS (xs : List (List UInt8)) : List UInt8 × Nat := if ∀ x ∈ xs, x.length ≤ 65536 then (framesB xs, 0) else ([], 4)

theorem bld_new (w : World) : Bld (w.alloc (.cells #[.pointer none, .slice none 0 0] 107)) w.heap.size w.heap.size [] :=
  .inl ⟨Nat.le_refl _, .slice none 0 0, by show (w.heap.push _)[w.heap.size]? = _; simp, World.ownsRow_nil _ _ _ _, by simp [Value.ownBlock]⟩

theorem bldAt_kept {w w' : World} {B b : Nat} {p : Value} {l : List Value} (h : Lib.BuilderAt 107 5 B b p l w) (hb : Below w.heap.size w w') : Lib.BuilderAt 107 5 B b p l w' := by
  have hlt := h.lt
  obtain ⟨hB, v, hbk, hown, hne⟩ := h
  refine ⟨hB, v, (hb.block b hlt).trans hbk, ?_, hne⟩
  refine ⟨hown.1, ?_⟩
  rcases hown.2 with hn | ⟨g, cap, cur, rfl, hg, hgg, rest⟩
  · exact .inl hn
  · exact .inr ⟨g, cap, cur, rfl, hg, (hb.block g (Array.getElem?_eq_some_iff.1 hgg).1).trans hgg, rest⟩
theorem bld_kept {w w' : World} {B b : Nat} {l : List UInt8} (h : Bld w B b l) (hb : Below w.heap.size w w') : Bld w' B b l :=
  h.elim (fun h => .inl (bldAt_kept h hb)) (fun h => .inr (bldAt_kept h hb))

set_option maxRecDepth 100000 in
set_option maxHeartbeats 1000000 in
theorem all_any (v : Value) (xs : List (List UInt8)) (w : World) (hrow : Row encT (· < w.heap.size) w v xs) (hlen : xs.length ≤ 1000) (hx : ∀ x ∈ xs, x.length ≤ 140737488351232) (ht : Tab w) :
    Calls Tryz.prog 52 #[v] w fun e w' => e = .returned (.tuple #[.string ⟨(allS xs).1.toArray⟩, .int .i64 (allS xs).2]) ∧ Below w.heap.size w w' := by
  have T := Lib.hid ht; clear ht
  have HX := Lib.hid hx; clear hx
  have hb0 : Below w.heap.size w (w.alloc (.cells #[.pointer none, .slice none 0 0] 107)) := (Below.refl _ _).alloc (Nat.le_refl _) _
  have BN := bld_new w
  rcases hrow.cases with ⟨rfl, a, cap, rfl⟩ | ⟨b, off, cap, rfl, hbb, hc⟩
  · have S := Lib.hid (Tryz.Builder_String_any w.heap.size w.heap.size [] _ BN (by simp))
    clear BN
    go_enter Tryz.func52, Tryz.ntmps52
    go_wp2
    refine wp_loop_rounds 1 ?_
    rw [rounds_succ]
    go_wp2_with fail
    refine S.out.mono ?_
    rintro e w1 ⟨rfl, hb1⟩
    go_wp2
    go_ret2
    exact ⟨rfl, hb0.trans hb1⟩
  · have HC := Lib.hid hc; clear hc
    have BN := Lib.hid BN
    have HB := Lib.hid hbb
    go_enter Tryz.func52, Tryz.ntmps52
    go_wp2
    generalize w.alloc (.cells #[.pointer none, .slice none 0 0] 107) = W0 at *
    go_loopw [11] (fun i wr => ∃ k : Nat, k ≤ xs.length ∧ i = .int .i64 k ∧ (∀ x ∈ xs.take k, x.length ≤ 65536) ∧ Bld wr w.heap.size w.heap.size (framesB (xs.take k)) ∧ Below w.heap.size w wr) (fun i _ => xs.length - (intOf i).toNat)
    case atStart => exact ⟨0, Nat.zero_le _, rfl, by simp, BN.out, hb0⟩
    case round =>
      obtain ⟨k, hk, rfl, hsh, hbld, hbel⟩ := hrel
      have hlf := framesB_length _ hsh
      have htk : (xs.take k).length ≤ 1000 := by rw [List.length_take]; omega
      have Hsh := Lib.hid hsh; clear hsh
      have Hbld := Lib.hid hbld; clear hbld
      have Tr := Lib.hid (T.out.below hbel)
      have hbw := hbel.size
      by_cases hlt : k < xs.length
      · have hcell : wr.cell? ⟨b, off + k, none⟩ = some (encT xs[k]) := (hbel.cell (p := ⟨b, off + k, none⟩) HB.out).trans (HC.out k hlt)
        have hxk := HX.out _ (List.getElem_mem hlt)
        have St := Lib.hid (framesB_take xs k hlt)
        have Hts := Lib.hid (List.take_succ_eq_append_getElem hlt)
        have Hmem := Lib.hid (List.getElem_mem hlt)
        generalize xs[k] = x at *
        by_cases hs : x.length ≤ 65536
        · have F := Lib.hid (frame_ok x wr hs Tr.out)
          have hfl := frameB_length x
          generalize frameB x = f at *
          have Hfl := Lib.hid hfl; clear hfl
          go_wp2_with fail
          refine F.out.mono ?_
          rintro e w2 ⟨rfl, hb2⟩
          have hbld2 : Bld w2 w.heap.size w.heap.size (framesB (xs.take k)) := bld_kept Hbld.out hb2
          have Wr := Lib.hid (writeString_any w.heap.size w.heap.size _ f w2 hbld2 (by rw [Hfl.out]; omega) (Nat.le_trans hbw hb2.size))
          clear hbld2
          go_wp2_with fail
          refine Wr.out.mono ?_
          rintro e w3 ⟨rfl, hbld3, hb3⟩
          have Hbld3 := Lib.hid hbld3; clear hbld3
          go_wp2
          go_roundw
          case rel =>
            refine ⟨k + 1, by omega, by go_num, ?_, by rw [St.out]; exact Hbld3.out, hbel.trans ((hb2.mono hbw).trans hb3)⟩
            rw [Hts.out]
            intro y hy
            rcases List.mem_append.1 hy with h | h
            · exact Hsh.out y h
            · simp at h; subst h; exact hs
          case measure => simp [intOf]; omega
        · have F := Lib.hid (frame_no x wr (by omega) hxk)
          have R := Lib.hid (show allS xs = ([], 4) by unfold allS; rw [if_neg (fun h => hs (h x Hmem.out))])
          go_wp2_with fail
          refine F.out.mono ?_
          rintro e w2 ⟨rfl, rfl⟩
          go_wp2
          go_ret2
          rw [R.out]
          exact ⟨rfl, hbel⟩
      · have Sx := Lib.hid (show xs.take k = xs from List.take_of_length_le (by omega))
        have hbld4 := Hbld.out
        rw [Sx.out] at hbld4
        have S := Lib.hid (Tryz.Builder_String_any w.heap.size w.heap.size (framesB xs) wr hbld4 hbw)
        have R := Lib.hid (show allS xs = (framesB xs, 0) by
          have := Hsh.out
          rw [Sx.out] at this
          unfold allS; rw [if_pos this])
        clear hbld4
        go_wp2_with fail
        refine S.out.mono ?_
        rintro e w2 ⟨rfl, hb2⟩
        go_wp2
        go_ret2
        rw [R.out]
        exact ⟨rfl, hbel.trans hb2⟩
end Go.Proofs.YtamiacmnobklaaaGreatDoor
/- The walk of Scan. -/
set_option linter.unusedVariables false
namespace Go.Proofs.YtamiacmnobklaaaGreatDoor
open Go.RowKit

/-- All frames in bytes; from where on one may lack bytes; how many bytes ahead of that were in none. -/
def scanF : Nat → List UInt8 → List (List UInt8) × Nat × Nat
  | 0, _ => ([], 0, 0)
  | f + 1, l =>
    if (oneS l).2.2 = 3 then ([], 0, 0)
    else if (oneS l).2.2 = 0 then ((oneS l).1 :: (scanF f (l.drop (oneS l).2.1)).1, (oneS l).2.1 + (scanF f (l.drop (oneS l).2.1)).2.1, (scanF f (l.drop (oneS l).2.1)).2.2)
    else ((scanF f (l.drop 1)).1, 1 + (scanF f (l.drop 1)).2.1, 1 + (scanF f (l.drop 1)).2.2)
def scanS (l : List UInt8) : List (List UInt8) × Nat × Nat := scanF (l.length + 1) l
theorem oneS_ok (l : List UInt8) (h : (oneS l).2.2 = 0) : (oneS l).2.1 ≤ l.length ∧ 10 ≤ (oneS l).2.1 := by
  unfold oneS at h ⊢
  by_cases h0 : (payS l).2 = 0
  · have := payS_ok l h0
    rw [if_neg (by omega)] at h ⊢
    split at h
    · simp at h
    · rename_i h1
      rw [if_neg h1]
      simp only
      omega
  · rw [if_pos (by omega)] at h
    exact absurd h h0
theorem oneS_nil : oneS [] = ([], 0, 3) := by
  unfold oneS payS headBad
  simp

/-- A list of the call's own stands where only blocks of another type were turned. -/
theorem SumsAt.kb_int {w : World} {base S : Nat} {l : List UInt8} {kb cap : Nat} {zv : Value} {K : List Nat} (h : SumsAt w base S l kb cap zv K) : ∃ cur, w.heap[kb]? = some (.cells cur 3 (0, 0)) := by
  rcases h.own.2 with ⟨hv, _⟩ | ⟨g, c, cur, hv, hb, hgg, _⟩
  · cases hv
  · simp at hv
    obtain ⟨rfl, _⟩ := hv
    exact ⟨cur, hgg⟩
theorem SumsAt.off {w w' : World} {M : Nat → Prop} {base S : Nat} {l : List UInt8} {kb cap : Nat} {zv : Value} {K : List Nat} (h : SumsAt w base S l kb cap zv K) (hk : Kept M w w') (h1 : ¬ M S) (h2 : ¬ M kb)
    (h3 : ∀ g cur, w.heap[g]? = some (.cells cur 182 (0, 0)) → ¬ M g) : SumsAt w' base S l kb cap zv K :=
  ⟨hk.old h.heap h1, own_off h.own hk (fun g cur _ e => by simp [Value.ownBlock] at e; subst e; exact h2), own_off h.z hk (fun g cur hg _ => h3 g cur hg), h.good, h.at'⟩

/-- What stands between two rounds of Scan. -/
structure SP (w0 wr : World) (A S P : Nat) (l : List UInt8) (kb cap : Nat) (zv : Value) (K : List Nat) (a : Nat) (xs : List (List UInt8)) (fv : Value) : Prop where
  sums : SumsAt wr (A + 1) S l kb cap zv K
  cell : wr.heap[A]? = some (.cells #[.int .i64 a] 3 (0, 0))
  ptr : wr.heap[P]? = some (.cells #[.pointer (some ⟨S, 0, none⟩)] 128 (0, 0))
  found : OwnL encT wr A 9 fv xs
  tab : Tab wr
  btab : BTab wr
  below : Below A w0 wr
  lt : A < P
  hi : 1 < A
theorem SP.up {w0 wr w2 : World} {A S P : Nat} {l : List UInt8} {kb cap : Nat} {zv : Value} {K : List Nat} {a : Nat} {xs : List (List UInt8)} {fv : Value} (h : SP w0 wr A S P l kb cap zv K a xs fv) (hA : A ≤ w0.heap.size) (hu : SumsUp w2 (A + 1) S l zv wr kb) :
    ∃ kb' cap' K', SP w0 w2 A S P l kb' cap' zv K' a xs fv := by
  obtain ⟨kb', cap', K', hs, hkb, hk, ht, hT⟩ := hu
  obtain ⟨cur, hki⟩ := h.sums.kb_int
  have a1 := h.sums.at'
  have a2 := h.sums.kb_at
  refine ⟨kb', cap', K', hs, hk.old h.cell ?_, hk.old h.ptr ?_, own_off h.found hk ?_, ht, hT, h.below.trans (hk.below (Nat.le_trans hA h.below.size) ?_), h.lt, h.hi⟩
  · rintro (e | e) <;> omega
  · rintro (rfl | rfl)
    · have := h.ptr.symm.trans h.sums.heap; simp at this
    · have := h.ptr.symm.trans hki; simp at this
  · rintro g c hg _ (rfl | rfl)
    · have := hg.symm.trans h.sums.heap; simp at this
    · have := hg.symm.trans hki; simp at this
  · rintro k (rfl | rfl) <;> omega
theorem SP.found' {w0 wr w2 : World} {A S P : Nat} {l : List UInt8} {kb cap : Nat} {zv : Value} {K : List Nat} {a : Nat} {xs ys : List (List UInt8)} {fv fv' : Value} (h : SP w0 wr A S P l kb cap zv K a xs fv) (hA : A ≤ w0.heap.size)
    (hown : OwnL encT w2 A 9 fv' ys) (hb : Below A wr w2) (hk : Kept (fun k => some k = fv.ownBlock) wr w2) : SP w0 w2 A S P l kb cap zv K a ys fv' := by
  obtain ⟨cur, hki⟩ := h.sums.kb_int
  have hstr : ∀ g, some g = fv.ownBlock → ∃ c, wr.heap[g]? = some (.cells c 9 (0, 0)) := by
    intro g hg
    rcases h.found.2 with ⟨hv, _⟩ | ⟨g2, c, cur2, hv, _, hgg, _⟩
    · rw [hv] at hg; simp [Value.ownBlock] at hg
    · rw [hv] at hg; simp [Value.ownBlock] at hg; subst hg; exact ⟨_, hgg⟩
  refine ⟨h.sums.off hk ?_ ?_ ?_, hk.old h.cell ?_, hk.old h.ptr ?_, hown, ?_, ?_, h.below.trans hb, h.lt, h.hi⟩
  · intro e; obtain ⟨c, hc⟩ := hstr _ e; have := hc.symm.trans h.sums.heap; simp at this
  · intro e; obtain ⟨c, hc⟩ := hstr _ e; have := hc.symm.trans hki; simp at this
  · intro g c2 hg e; obtain ⟨c, hc⟩ := hstr _ e; have := hc.symm.trans hg; simp at this
  · intro e; obtain ⟨c, hc⟩ := hstr _ e; have := hc.symm.trans h.cell; simp at this
  · intro e; obtain ⟨c, hc⟩ := hstr _ e; have := hc.symm.trans h.ptr; simp at this
  · exact h.tab.kept hk (fun k e => (World.ownsRow.lt h.found k e.symm).1) (by have := h.hi; omega)
  · exact h.btab.kept hk (fun k e => (World.ownsRow.lt h.found k e.symm).1) h.hi
theorem SP.move {w0 wr : World} {A S P : Nat} {l : List UInt8} {kb cap : Nat} {zv : Value} {K : List Nat} {a : Nat} {xs : List (List UInt8)} {fv : Value} (h : SP w0 wr A S P l kb cap zv K a xs fv) (hA : A ≤ w0.heap.size) (b : Nat) (z : Int) (hz : z = b) :
    SP w0 (wr.setCell ⟨A, 0, none⟩ (.int .i64 z)) A S P l kb cap zv K b xs fv := by
  subst hz
  have hk : Kept (fun k => k = A) wr (wr.setCell ⟨A, 0, none⟩ (.int .i64 b)) := (Kept.refl (fun k => k = A) wr).setCell (p := ⟨A, 0, none⟩) rfl _
  have a1 := h.sums.at'
  have a2 := h.sums.kb_at
  have a3 := h.lt
  refine ⟨h.sums.off hk (by omega) (by omega) ?_, ?_, hk.old h.ptr (by omega), own_off h.found hk ?_, ?_, ?_, ?_, h.lt, h.hi⟩
  · rintro g c hg rfl; have := hg.symm.trans h.cell; simp at this
  · rw [heap_setCell_same wr A 0 _ _ _ h.cell]; rfl
  · rintro g c hg _ rfl; have := hg.symm.trans h.cell; simp at this
  · exact h.tab.kept hk (base := A) (fun k e => by omega) (by have := h.hi; omega)
  · exact h.btab.kept hk (base := A) (fun k e => by omega) h.hi
  · exact h.below.trans (hk.below (Nat.le_trans hA h.below.size) (by omega))

theorem scan_stop (f : Nat) (l : List UInt8) (h : (oneS l).2.2 = 3) : scanF (f + 1) l = ([], 0, 0) := by rw [scanF, if_pos h]
theorem scan_ok (f : Nat) (l : List UInt8) (h : (oneS l).2.2 = 0) : scanF (f + 1) l = ((oneS l).1 :: (scanF f (l.drop (oneS l).2.1)).1, (oneS l).2.1 + (scanF f (l.drop (oneS l).2.1)).2.1, (scanF f (l.drop (oneS l).2.1)).2.2) := by
  rw [scanF, if_neg (by omega), if_pos h]
theorem scan_lost (f : Nat) (l : List UInt8) (h : (oneS l).2.2 ≠ 0) (h3 : (oneS l).2.2 ≠ 3) : scanF (f + 1) l = ((scanF f (l.drop 1)).1, 1 + (scanF f (l.drop 1)).2.1, 1 + (scanF f (l.drop 1)).2.2) := by
  rw [scanF, if_neg h3, if_neg h]
/-- How far Scan has come. -/
structure ScanM (l : List UInt8) (f a b : Nat) (xs : List (List UInt8)) : Prop where
  le : a ≤ l.length
  fuel : l.length - a < f
  few : xs.length ≤ a
  lost : b ≤ a
  all : scanS l = (xs ++ (scanF f (l.drop a)).1, a + (scanF f (l.drop a)).2.1, b + (scanF f (l.drop a)).2.2)
theorem ScanM.start (l : List UInt8) : ScanM l (l.length + 1) 0 0 [] := ⟨Nat.zero_le _, by omega, Nat.le_refl _, Nat.le_refl _, by simp [scanS]⟩
theorem ScanM.stop {l : List UInt8} {f a b : Nat} {xs : List (List UInt8)} (h : ScanM l f a b xs) (h3 : (oneS (l.drop a)).2.2 = 3) : scanS l = (xs, a, b) := by
  obtain ⟨f, rfl⟩ : ∃ k, f = k + 1 := ⟨f - 1, by have := h.fuel; omega⟩
  rw [h.all, scan_stop f _ h3]
  simp
theorem ScanM.ok {l : List UInt8} {f a b : Nat} {xs : List (List UInt8)} (h : ScanM l f a b xs) (h0 : (oneS (l.drop a)).2.2 = 0) : ScanM l (f - 1) (a + (oneS (l.drop a)).2.1) b (xs ++ [(oneS (l.drop a)).1]) := by
  obtain ⟨f, rfl⟩ : ∃ k, f = k + 1 := ⟨f - 1, by have := h.fuel; omega⟩
  obtain ⟨h1, h2⟩ := oneS_ok _ h0
  rw [List.length_drop] at h1
  have h3 := h.le
  have h4 := h.fuel
  have h5 := h.few
  have h6 := h.lost
  refine ⟨by omega, by omega, by simp; omega, by omega, ?_⟩
  rw [h.all, scan_ok f _ h0, Nat.add_sub_cancel, List.drop_drop]
  simp [Nat.add_assoc]
theorem ScanM.miss {l : List UInt8} {f a b : Nat} {xs : List (List UInt8)} (h : ScanM l f a b xs) (h0 : (oneS (l.drop a)).2.2 ≠ 0) (h3 : (oneS (l.drop a)).2.2 ≠ 3) : ScanM l (f - 1) (a + 1) (b + 1) xs := by
  obtain ⟨f, rfl⟩ : ∃ k, f = k + 1 := ⟨f - 1, by have := h.fuel; omega⟩
  have hn : a < l.length := by
    rcases Nat.lt_or_ge a l.length with hlt | hge
    · exact hlt
    · rw [List.drop_eq_nil_of_le hge, oneS_nil] at h3
      exact absurd rfl h3
  have h4 := h.fuel
  have h5 := h.few
  have h6 := h.lost
  refine ⟨by omega, by omega, by omega, by omega, ?_⟩
  rw [h.all, scan_lost f _ h0 h3, Nat.add_sub_cancel, List.drop_drop]
  simp [Nat.add_assoc]

def cellNat (w : World) (A : Nat) : Nat := match w.cell? ⟨A, 0, none⟩ with | some v => (intOf v).toNat | none => 0
theorem cellNat_of {w : World} {A a : Nat} (h : w.cell? ⟨A, 0, none⟩ = some (.int .i64 (a : Nat))) : cellNat w A = a := by
  unfold cellNat; rw [h]; simp [intOf]
theorem SP.now {w0 wr : World} {A S P : Nat} {l : List UInt8} {kb cap : Nat} {zv : Value} {K : List Nat} {a : Nat} {xs : List (List UInt8)} {fv : Value} (h : SP w0 wr A S P l kb cap zv K a xs fv) : wr.cell? ⟨A, 0, none⟩ = some (.int .i64 a) := by
  rw [cell_of_row _ _ _ _ _ _ h.cell]; rfl
theorem SP.nowP {w0 wr : World} {A S P : Nat} {l : List UInt8} {kb cap : Nat} {zv : Value} {K : List Nat} {a : Nat} {xs : List (List UInt8)} {fv : Value} (h : SP w0 wr A S P l kb cap zv K a xs fv) : wr.cell? ⟨P, 0, none⟩ = some (.pointer (some ⟨S, 0, none⟩)) := by
  rw [cell_of_row _ _ _ _ _ _ h.ptr]; rfl
theorem SP.apart {w0 wr : World} {A S P : Nat} {l : List UInt8} {kb cap : Nat} {zv : Value} {K : List Nat} {a : Nat} {xs : List (List UInt8)} {fv : Value} (h : SP w0 wr A S P l kb cap zv K a xs fv) : P ≠ S ∧ P ≠ kb ∧ A ≠ S ∧ A ≠ kb := by
  obtain ⟨cur, hki⟩ := h.sums.kb_int
  have a1 := h.sums.at'
  have a2 := h.sums.kb_at
  refine ⟨?_, ?_, by omega, by omega⟩
  · rintro rfl; have := h.ptr.symm.trans h.sums.heap; simp at this
  · rintro rfl; have := h.ptr.symm.trans hki; simp at this

set_option maxRecDepth 100000 in
set_option maxHeartbeats 4000000 in
theorem scan_go (l : List UInt8) (w : World) (F : FirstSpec) (hl : l.length ≤ 1000000) (ht : Tab w) (hT : BTab w) (hw : 1 < w.heap.size) :
    Calls Tryz.prog 53 #[.string ⟨l.toArray⟩] w fun e w' => ∃ v, e = .returned (.tuple #[v, .int .i64 (scanS l).2.1, .int .i64 (scanS l).2.2]) ∧ OwnL encT w' w.heap.size 9 v (scanS l).1 ∧ Below w.heap.size w w' := by
  have hB0 : Below w.heap.size w (w.alloc (.cells #[.int .i64 0] 3)) := (Below.refl _ _).alloc (Nat.le_refl _) _
  have N := Lib.hid (newSums_any l _ (ht.below hB0) (hT.below hB0))
  have L := Lib.hid (show (⟨l.toArray⟩ : ByteArray).size = l.length from rfl)
  have HA : w.heap.size ≤ w.heap.size := Nat.le_refl _
  have START : Hid (∀ w1 S kb cap zv, SumsAt w1 (w.alloc (.cells #[.int .i64 0] 3)).heap.size S l kb cap zv [0] → Below (w.alloc (.cells #[.int .i64 0] 3)).heap.size (w.alloc (.cells #[.int .i64 0] 3)) w1 →
      SP w (w1.alloc (.cells #[.pointer (some ⟨S, 0, none⟩)] 128)) w.heap.size S w1.heap.size l kb cap zv [0] 0 [] (.slice none 0 0)) := by
    refine Lib.hid fun w1 S kb cap zv hs hb1 => ?_
    have h1 := hb1.size
    have h2 : (w.alloc (.cells #[.int .i64 0] 3)).heap.size = w.heap.size + 1 := by simp
    rw [h2] at hs hb1 h1
    have h3 : Below (w.heap.size + 1) w1 (w1.alloc (.cells #[.pointer (some ⟨S, 0, none⟩)] 128)) := (Below.refl _ _).alloc (by omega) _
    have h4 : Below w.heap.size w w1 := hB0.trans (hb1.mono (by omega))
    have h5 : Below w.heap.size w (w1.alloc (.cells #[.pointer (some ⟨S, 0, none⟩)] 128)) := h4.trans (h3.mono (by omega))
    refine ⟨hs.below ((Below.refl _ _).alloc (Nat.le_refl _) _), ?_, heap_alloc_new _ _, OwnL.nil _ _ _ _, ht.below h5, hT.below h5, h5, by omega, hw⟩
    rw [h3.block w.heap.size (by omega), hb1.block w.heap.size (by omega)]
    exact heap_alloc_new _ _
  clear hB0
  have O := fun f a b xs wr S P kb cap zv K fv (hm : ScanM l f a b xs) (h : SP w wr w.heap.size S P l kb cap zv K a xs fv) => Lib.hid (scanOne_any F (w.heap.size + 1) S a kb l (l.drop a) zv wr wr ⟨P, 0, none⟩ ⟨w.heap.size, 0, none⟩ rfl hl hm.le (by omega)
    (by have := h.below.size; have := (Array.getElem?_eq_some_iff.1 h.cell).1; omega) h.sums.kb_at.1 (SumsUp.start h.sums h.tab h.btab) h.nowP h.now h.apart.1 h.apart.2.1 h.apart.2.2.1 h.apart.2.2.2)
  have HO := Lib.hid O; clear O ht hT
  go_enter Tryz.func53, Tryz.ntmps53
  go_wp2_with fail
  refine N.out.mono ?_
  rintro e w1 ⟨S, kb, cap, zv, rfl, hs, hb1⟩
  have H1 := Lib.hid (START.out w1 S kb cap zv hs hb1)
  clear hs hb1 START N
  go_wp2
  generalize w1.heap.size = P at *
  go_loopw [5, 7] (fun v z wr => ∃ (f a b kb cap : Nat) (K : List Nat) (xs : List (List UInt8)), z = .int .i64 b ∧ ScanM l f a b xs ∧ SP w wr w.heap.size S P l kb cap zv K a xs v) (fun _ _ wr => l.length + 1 - cellNat wr w.heap.size)
  case atStart => exact ⟨_, 0, 0, kb, cap, [0], [], rfl, ScanM.start l, H1.out⟩
  case round =>
    clear H1
    obtain ⟨f, a, b, kb, cap, K, xs, rfl, hm, hsp⟩ := hrel
    have hO := HO.out f a b xs wr S P kb cap zv K _ hm hsp
    have c1 := hsp.now
    have hle := hm.le
    have B1 : (0 : Int) ≤ (a : Int) := by omega
    have B2 : (a : Int) ≤ (l.length : Int) := by omega
    have E := drop_toArray l a l.length (Nat.le_refl _)
    have M3 := Lib.hid (hm.stop)
    have M0 := Lib.hid (hm.ok)
    have M1 := Lib.hid (hm.miss)
    have hn0 := fun h => oneS_ok (l.drop a) h
    have hdl : (l.drop a).length = l.length - a := List.length_drop
    have hfew := hm.few
    have hlost := hm.lost
    have HSP := Lib.hid hsp
    clear hm hsp
    rw [hdl] at hn0
    clear hdl
    generalize (oneS (l.drop a)).1 = p1 at *
    generalize (oneS (l.drop a)).2.1 = n at *
    generalize (oneS (l.drop a)).2.2 = r at *
    generalize l.drop a = m at *
    have UP := Lib.hid (fun w2 h => HSP.out.up (w2 := w2) HA h)
    clear HSP HO
    by_cases h0 : r = 0
    · subst h0
      have M0' := Lib.hid (M0.out rfl)
      have hn := hn0 rfl
      clear M0 M1 M3 hn0
      go_wp2_with fail
      refine hO.out.mono ?_
      rintro e w2 ⟨rfl, hup⟩
      obtain ⟨kb', cap', K', hsp2⟩ := UP.out w2 hup
      have c2 := hsp2.now
      have Hown := Lib.hid hsp2.found
      have H2 := Lib.hid hsp2
      clear hsp2 hup UP hO
      have hsz : w.heap.size ≤ w2.heap.size := H2.out.below.size
      have W1 : IntKind.i64.wrap ((a : Int) + (n : Int)) = ((a + n : Nat) : Int) := by rw [IntWalk.i64_in _ (by omega)]; omega
      go_wp2_with (at_builtin; refine append_elem (enc := encT) (y := p1) rfl _ _ 54 9 (.string ⟨#[]⟩) 16 (by rfl) Tryz.underlying54 info_str rfl w.heap.size _ _ rfl (by rfl) Hown.out (by rfl) (by omega) (by unfold maxLen; omega) (by omega) ?_; intro v' w3 hown3 hb3 hk3; have H3 := Lib.hid (H2.out.found' HA hown3 hb3 hk3); have c3 := H3.out.now; have f3 := frozen_of_row _ w.heap.size 0 _ _ H3.out.cell; have H4 := Lib.hid (H3.out.move HA (a + n) ((a : Int) + (n : Int)) (by omega)); clear hown3 hb3 hk3 H2 Hown c2)
      go_roundw
      case rel => exact ⟨f - 1, a + n, b, kb', cap', K', xs ++ [p1], by go_num, M0'.out, H4.out⟩
      case measure =>
        rw [cellNat_of H4.out.now, cellNat_of c1]
        omega
    · by_cases h3 : r = 3
      · subst h3
        have M3' := Lib.hid (M3.out rfl)
        clear M0 M1 M3 hn0
        go_wp2_with fail
        refine hO.out.mono ?_
        rintro e w2 ⟨rfl, hup⟩
        obtain ⟨kb', cap', K', hsp2⟩ := UP.out w2 hup
        have c2 := hsp2.now
        have H2 := Lib.hid hsp2
        clear hsp2 hup UP hO
        go_wp2
        go_quiet (fail)
        go_wp2
        go_ret3
        rw [M3'.out]
        exact ⟨_, rfl, H2.out.found, Below_drewN H2.out.below _⟩
      · have M1' := Lib.hid (M1.out h0 h3)
        have N0 : ((r : Int) == 0) = false := by simp; omega
        have N3 : ((r : Int) == 3) = false := by simp; omega
        have W1 : IntKind.i64.wrap ((a : Int) + 1) = ((a + 1 : Nat) : Int) := by rw [IntWalk.i64_in _ (by omega)]; omega
        have W2 : IntKind.i64.wrap ((b : Int) + 1) = ((b + 1 : Nat) : Int) := by rw [IntWalk.i64_in _ (by omega)]; omega
        clear M0 M1 M3 hn0 h0 h3
        go_wp2_with fail
        refine hO.out.mono ?_
        rintro e w2 ⟨rfl, hup⟩
        obtain ⟨kb', cap', K', hsp2⟩ := UP.out w2 hup
        have c2 := hsp2.now
        have f2 := frozen_of_row _ w.heap.size 0 _ _ hsp2.cell
        have H2 := Lib.hid (hsp2.move HA (a + 1) ((a : Int) + 1) (by omega))
        clear hsp2 hup UP hO
        go_wp2
        go_roundw
        case rel => exact ⟨f - 1, a + 1, b + 1, kb', cap', K', xs, by go_num, M1'.out, H2.out⟩
        case measure =>
          rw [cellNat_of H2.out.now, cellNat_of c1]
          have := M1'.out.le
          omega
end Go.Proofs.YtamiacmnobklaaaGreatDoor
/- Landed blob: Unpack. -/
set_option linter.unusedVariables false
namespace Go.Proofs.YtamiacmnobklaaaGreatDoor
open Go.RowKit

/-- A text that was found. -/
def unStep (q : List Txt × List Ent × Nat) (x : Txt) : List Txt × List Ent × Nat :=
  if 1 ≤ cntE (markS q.1 x) q.2.1 x then (markS q.1 x, q.2.1, q.2.2) else (markS q.1 x, putE q.2.1 (mkS (markS q.1 x) x) x, q.2.2 + 1)
theorem scanF_len : ∀ (f : Nat) (l : List UInt8), (scanF f l).1.length ≤ l.length ∧ ∀ x ∈ (scanF f l).1, x.length ≤ l.length := by
  intro f
  induction f with
  | zero => intro l; exact ⟨Nat.zero_le _, fun x hx => by cases hx⟩
  | succ f ih =>
    intro l
    unfold scanF
    split
    · exact ⟨Nat.zero_le _, fun x hx => by cases hx⟩
    · split
      · rename_i h0
        have hk := oneS_ok l h0
        obtain ⟨a, b⟩ := ih (l.drop (oneS l).2.1)
        rw [List.length_drop] at a b
        refine ⟨by rw [List.length_cons]; omega, fun x hx => ?_⟩
        rcases List.mem_cons.1 hx with c | c
        · subst c
          unfold oneS
          split
          · exact Nat.zero_le _
          · split
            · exact Nat.zero_le _
            · dsimp only
              rw [List.length_drop, List.length_take]
              omega
        · have := b x c
          omega
      · obtain ⟨a, b⟩ := ih (l.drop 1)
        rw [List.length_drop] at a b
        exact ⟨by dsimp only; omega, fun x hx => by have := b x hx; omega⟩
theorem scanS_len (l : List UInt8) : (scanS l).1.length ≤ l.length ∧ ∀ x ∈ (scanS l).1, x.length ≤ l.length := scanF_len _ l
/-- A text is led to. -/
theorem blLead_any (w : World) (pb p bm : Nat) (N : Nat → Prop) (S : List Txt) (T : List Ent) (Ls : List (List FileD)) (K : Nat) (s : Txt) (h : BL w pb p bm N S T Ls K) (hK : K ≤ 100000) (hs : s.length ≤ 65536) (hm : s ∈ S) :
    Calls Tryz.prog 41 #[.pointer (some ⟨pb, 0, none⟩), .string ⟨(mkS S s).toArray⟩, .string ⟨s.toArray⟩] w fun e w' => e = .returned (.tuple #[]) ∧ ∃ N', BL w' pb p bm N' S (putE T (mkS S s) s) Ls (K + 1) ∧ BTurn w w' bm N N' := by
  have hsl := h.sl
  refine (bLead_any w pb p bm N S T _ (mkS S s) s h.bw (by rw [mkS_len]; omega) hs h.tb (by omega)).mono ?_
  rintro e w' ⟨rfl, N', h1, h2⟩
  refine ⟨rfl, N', ⟨h1, h.ts.put hm, h.live, fun u => ?_, by omega, h.tb.put _ _, Nat.le_succ_of_le h.ll⟩, h2⟩
  rw [cnt_put (by omega) hm]
  have := h.need u
  omega
set_option maxRecDepth 100000 in
set_option maxHeartbeats 2000000 in
theorem blUnpack_any (w : World) (pb p bm : Nat) (N : Nat → Prop) (S : List Txt) (T : List Ent) (Ls : List (List FileD)) (K : Nat) (l : Txt) (F : FirstSpec) (h : BL w pb p bm N S T Ls K) (hl : l.length ≤ 20000) (hK : K + 2 * l.length ≤ 90000) (ht : Tab w) (hT : BTab w) (hw : 1 < w.heap.size) :
    Calls Tryz.prog 26 #[.pointer (some ⟨pb, 0, none⟩), .string ⟨l.toArray⟩] w fun e w' => ∃ n : Nat, e = .returned (.tuple #[.int .i64 ((scanS l).1.length : Nat), .int .i64 (n : Nat), .int .i64 0]) ∧
      ∃ N' S' T', ((scanS l).1.foldl unStep (S, T, 0)) = (S', T', n) ∧ BL w' pb p bm N' S' T' Ls (K + 2 * (scanS l).1.length) ∧ BTurn w w' bm N N' := by
  have RD := Lib.hid (bReady_any w pb p bm N S T _ h.bw)
  have SC := Lib.hid (scan_go l w F (by omega) ht hT hw)
  obtain ⟨hxl, hxs⟩ := scanS_len l
  generalize (scanS l).1 = xs at *
  generalize (scanS l).2.1 = na at *
  generalize (scanS l).2.2 = nb at *
  have HXS := Lib.hid hxs
  have HH := Lib.hid h
  clear h hxs ht hT hw
  go_enter Tryz.func26, Tryz.ntmps26
  go_wp2_with fail
  refine RD.out.mono ?_
  rintro e w1 ⟨rfl, rfl⟩
  go_wp2_with fail
  refine SC.out.mono ?_
  rintro e w2 ⟨v2, rfl, ho2, hb2⟩
  have HR := Lib.hid (OwnL.row ho2)
  have hnl := fun g hg => (World.ownsRow.lt ho2 g hg)
  obtain ⟨ga, gm, gc, hv2⟩ := own_slice ho2
  have hgm := own_lenV ho2
  subst hv2
  have hgm' : gm = xs.length := hgm
  subst hgm'
  have HH2 := Lib.hid (HH.out.new hb2)
  have HT2 := Lib.hid (BTurn.of_new hb2 bm N)
  have hs2 := hb2.size
  have HNl := Lib.hid (show ∀ g, w.heap.size ≤ g → ¬ (N g ∨ g = bm) from fun g hg c => by
    rcases c with c | c
    · have := HH.out.bw.blob.lt.2 g c; omega
    · have := HH.out.bw.id.lt.2; omega)
  clear ho2 hb2 SC RD HH hgm
  go_wp2_with fail
  go_loopw [10, 25] (fun v10 v25 wr => ∃ (i n : Nat) (N' : Nat → Prop) (S' : List Txt) (T' : List Ent), i ≤ xs.length ∧ n ≤ i ∧ v10 = .int .i64 (n : Nat) ∧ v25 = .int .i64 (i : Nat) ∧ (xs.take i).foldl unStep (S, T, 0) = (S', T', n) ∧ BL wr pb p bm N' S' T' Ls (K + 2 * i) ∧ BTurn w2 wr bm N N') (fun _ v25 _ => xs.length - (intOf v25).toNat)
  case atStart => exact ⟨0, 0, N, S, T, Nat.zero_le _, Nat.zero_le _, rfl, rfl, rfl, HH2.out, BTurn.refl _ _ _⟩
  case round =>
    obtain ⟨i, n, N1, S1, T1, hi, hni, rfl, rfl, hfo, hbl, hbt⟩ := hrel
    have HF := Lib.hid hfo
    have HB := Lib.hid hbl
    have HT := Lib.hid hbt
    clear hfo hbl hbt HH2
    have i0 : (0 : Int) ≤ (i : Int) := by omega
    by_cases hlt : i < xs.length
    · have j1 : (i : Int) < (xs.length : Int) := by omega
      obtain ⟨a', cap', hv, hcs⟩ := HR.out.kept HT.out.kp (fun g hg => HNl.out g hg)
      obtain ⟨g, o, ea', _, d0⟩ := hcs i hlt
      injection hv with ea eb ec
      subst ea; subst ec; subst ea'
      clear eb hcs
      have hxl2 := HXS.out _ (List.getElem_mem hlt)
      have HFO := Lib.hid (show (xs.take (i + 1)).foldl unStep (S, T, 0) = unStep ((xs.take i).foldl unStep (S, T, 0)) xs[i] by
        rw [List.take_succ_eq_append_getElem hlt, List.foldl_append]; rfl)
      rw [HF.out] at HFO
      generalize xs[i] = x at *
      have d0 : wr.cell? ⟨g, o + i, none⟩ = some (.string ⟨x.toArray⟩) := d0
      have c0 : wr.cell? ⟨pb, 0, none⟩ = some (.pointer (some ⟨p, 0, none⟩)) := by obtain ⟨mt, v, D, β, hb⟩ := HB.out.bw.blob; exact hb.c0
      have MK := Lib.hid (blMark_any wr pb p bm N1 S1 T1 Ls (K + 2 * i) x HB.out (by omega) (by omega))
      go_wp2_with fail
      refine MK.out.mono ?_
      rintro e w3 ⟨rfl, h3, t3, k3⟩
      have H3 := Lib.hid h3
      have T3 := Lib.hid (HT.out.trans t3)
      have hml : (mkS S1 x).length = 32 := mkS_len S1 x
      have HMK := Lib.hid (mkS_mark (S := S1) x (s := x) (.inr rfl))
      obtain ⟨mt, v, D, β, hb⟩ := h3.bw.blob
      have c1 := hb.c1
      have hky := key_iff (S := markS S1 x) h3.bw.blob.tok (new_mark S1 x)
      rw [HMK.out] at hky
      have LD := Lib.hid (blLead_any w3 pb p bm N1 (markS S1 x) T1 Ls (K + 2 * i + 1) x h3 (by omega) (by omega) (new_mark S1 x))
      rw [HMK.out] at LD
      clear h3 t3 k3 c0 d0 MK HT HB
      by_cases hc : 1 ≤ cntE (markS S1 x) T1 x
      · have L := hb.look_in (hky.2 hc) (by omega)
        have HFN := Lib.hid (HFO.out.trans (by unfold unStep; rw [if_pos hc]))
        clear hb hky HFO LD hc
        generalize mkS S1 x = mk at *
        go_wp2_with fail
        go_roundw
        case rel => exact ⟨i + 1, n, N1, markS S1 x, T1, hlt, by omega, rfl, by go_num, HFN.out, H3.out.mono (by omega), T3.out⟩
        case measure => simp [intOf]; omega
      · have L := hb.look_no (fun k => hc (hky.1 k)) (by omega)
        have HFN := Lib.hid (HFO.out.trans (by unfold unStep; rw [if_neg hc]))
        dsimp only at HFN
        rw [HMK.out] at HFN
        clear hb hky HFO hc H3
        generalize mkS S1 x = mk at *
        go_wp2_with fail
        refine LD.out.mono ?_
        rintro e w4 ⟨rfl, N4, h4, t4⟩
        have H4 := Lib.hid h4
        have T4 := Lib.hid (T3.out.trans t4)
        clear h4 t4 LD c1 L
        go_wp2_with fail
        go_roundw
        case rel => exact ⟨i + 1, n + 1, N4, markS S1 x, _, hlt, by omega, by go_num, by go_num, HFN.out, H4.out.mono (by omega), T4.out⟩
        case measure => simp [intOf]; omega
    · have j1 : ¬ (i : Int) < (xs.length : Int) := by omega
      obtain rfl : i = xs.length := by omega
      rw [List.take_length] at HF
      have HTT := Lib.hid (HT2.out.trans HT.out)
      go_wp2_with fail
      go_ret3
      exact ⟨n, rfl, N1, S1, T1, HF.out, HB.out, HTT.out⟩
end Go.Proofs.YtamiacmnobklaaaGreatDoor
/- What Unpack keeps: each text once. -/
set_option linter.unusedVariables false
namespace Go.Proofs.YtamiacmnobklaaaGreatDoor
open Go.RowKit

def onceStep (A : List Txt) (x : Txt) : List Txt := if x ∈ A then A else A ++ [x]
theorem onceStep_mem (A : List Txt) (x u : Txt) : u ∈ onceStep A x ↔ u ∈ A ∨ u = x := by
  unfold onceStep
  split
  · rename_i h
    exact ⟨.inl, fun c => by rcases c with c | c; exact c; exact c ▸ h⟩
  · rw [List.mem_append, List.mem_singleton]
theorem once_mem (xs : List Txt) : ∀ (A : List Txt) (u : Txt), u ∈ xs.foldl onceStep A ↔ u ∈ A ∨ u ∈ xs := by
  induction xs with
  | nil => intro A u; simp
  | cons x r ih => intro A u; rw [List.foldl_cons, ih, onceStep_mem, List.mem_cons, or_assoc]
theorem once_len (xs : List Txt) : ∀ (A : List Txt), (xs.foldl onceStep A).length ≤ A.length + xs.length := by
  induction xs with
  | nil => intro A; simp
  | cons x r ih =>
    intro A
    rw [List.foldl_cons, List.length_cons]
    have := ih (onceStep A x)
    have h2 : (onceStep A x).length ≤ A.length + 1 := by unfold onceStep; split <;> simp
    omega
theorem un_inv (xs : List Txt) : ∀ (S : List Txt) (T : List Ent) (n : Nat) (A : List Txt), TS S T → TOk T → S.length + xs.length ≤ 900000 → (∀ x ∈ xs, x.length ≤ 65536) → (∀ u, cntE S T u = if u ∈ A then 1 else 0) → T.length = n → A.length = n →
    (∀ u, cntE (xs.foldl unStep (S, T, n)).1 (xs.foldl unStep (S, T, n)).2.1 u = if u ∈ xs.foldl onceStep A then 1 else 0) ∧ (xs.foldl unStep (S, T, n)).2.1.length = (xs.foldl unStep (S, T, n)).2.2 ∧ (xs.foldl onceStep A).length = (xs.foldl unStep (S, T, n)).2.2 := by
  induction xs with
  | nil => exact fun S T n A _ _ _ _ hc hl ha => ⟨hc, hl, ha⟩
  | cons x r ih =>
    intro S T n A ts tok hS hx hc hl ha
    rw [List.length_cons] at hS
    rw [List.foldl_cons, List.foldl_cons]
    have hm := markS_length S x
    have hc2 : ∀ u, cntE (markS S x) T u = if u ∈ A then 1 else 0 := fun u => by rw [cnt_mark ts (by omega), hc]
    by_cases h : x ∈ A
    · have h1 : 1 ≤ cntE (markS S x) T x := by rw [hc2, if_pos h]; omega
      rw [show unStep (S, T, n) x = (markS S x, T, n) by unfold unStep; rw [if_pos h1], show onceStep A x = A by unfold onceStep; rw [if_pos h]]
      exact ih _ _ _ _ (ts.mark x) tok (by omega) (fun y hy => hx y (by simp [hy])) hc2 hl ha
    · have h1 : ¬ 1 ≤ cntE (markS S x) T x := by rw [hc2, if_neg h]; omega
      have hk : mkS (markS S x) x ∉ keysE T := fun k => h1 ((key_iff tok (new_mark S x)).1 k)
      rw [show unStep (S, T, n) x = (markS S x, putE T (mkS (markS S x) x) x, n + 1) by unfold unStep; rw [if_neg h1], show onceStep A x = A ++ [x] by unfold onceStep; rw [if_neg h]]
      refine ih _ _ _ _ ((ts.mark x).put (new_mark S x)) (tok.put _ _ (hx x (by simp))) (by omega) (fun y hy => hx y (by simp [hy])) (fun u => ?_) ?_ ?_
      · rw [cnt_put (by omega) (new_mark S x), hc2]
        by_cases e : u = x
        · subst e
          rw [if_neg h, if_pos rfl, if_pos (by simp)]
        · rw [if_neg e]
          by_cases ha : u ∈ A
          · rw [if_pos ha, if_pos (by simp [ha])]
          · rw [if_neg ha, if_neg (by simp [ha, e])]
      · unfold putE
        rw [if_neg hk, List.length_append, hl]
        rfl
      · rw [List.length_append, ha]
        rfl
end Go.Proofs.YtamiacmnobklaaaGreatDoor

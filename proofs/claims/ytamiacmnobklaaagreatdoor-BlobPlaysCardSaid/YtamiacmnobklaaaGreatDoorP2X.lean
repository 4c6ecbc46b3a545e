/- Several texts in one: BlobRefsW, OwnPut, BlobAddW, BlobTextW, BlobStandW, BlobAddAll, BlobUnRoot. -/
import Derived.Test.YtamiacmnobklaaaGreatDoorBldShelf
import Derived.Test.YtamiacmnobklaaaGreatDoorB1X
import Derived.Test.YtamiacmnobklaaaGreatDoorLwX
import Derived.Test.YtamiacmnobklaaaGreatDoorB2X
import Derived.Test.YtamiacmnobklaaaGreatDoorP1X
import Derived.Test.YtamiacmnobklaaaGreatDoorBookW
import Derived.Test.YtamiacmnobklaaaGreatDoorFrame
import Derived.Test.YtamiacmnobklaaaGreatDoorGen
import Derived.Test.YtamiacmnobklaaaGreatDoorFtX
import Derived.Test.YtamiacmnobklaaaGreatDoorMarkMath
import Derived.Test.YtamiacmnobklaaaGreatDoorOwnL
import Derived.Test.YtamiacmnobklaaaGreatDoorProg
import Derived.Test.YtamiacmnobklaaaGreatDoorRiX
import Derived.Test.YtamiacmnobklaaaGreatDoorCdX
import Derived.Test.YtamiacmnobklaaaGreatDoorRfX
import Derived.Test.YtamiacmnobklaaaGreatDoorRowN
import Derived.Test.YtamiacmnobklaaaGreatDoorRows
import Derived.Test.YtamiacmnobklaaaGreatDoorShelf
import Derived.Test.YtamiacmnobklaaaGreatDoorSoX
import Derived.BigQuiet
import Derived.BigRegion
import Derived.Deep.AppendLies
import Derived.Deep.Cut
import Derived.Deep.CutBlock
import Derived.Deep.CutRange
import Derived.Deep.DeepCutAuto
import Derived.Deep.QuietTactic
import Derived.Deep.RegionHeld
import Derived.Deep.RegionLaw
import Derived.Deep.Slices
import Derived.Deep.Strs
import Derived.IntWalk
import Derived.Laws.BitsAllLaws
import Derived.Laws.Externs
import Derived.Laws.IdiomStrings
import Derived.Laws.OwnMore
import Derived.Laws.RangeAny
import Derived.Laws.Rows
import Derived.Laws.Tables
import Derived.Lib.AppendStr
import Derived.Lib.Builder
import Derived.Lib.Hide
import Derived.Lib.SlicesS
import Derived.Lib.SmallJoins
import Derived.Lib.Strings
import Derived.Lib.Walk
import Derived.LoopIn
import Derived.LoopNIn
import Derived.LoopTactic
import Derived.Outline
import Derived.OwnWalkIn
import Derived.RangeFuncBound
import Derived.RangeFuncCalls
import Derived.RangeFuncLeaves
import Derived.RangeFuncNested
import Derived.Shelf.Abstract
import Derived.Shelf.RegionOpen
import Derived.Shelf.Strings.SplitCore
import Derived.Sort.OwnSorted
import Derived.StillTail
import Derived.StillTailTactics
import Derived.TacticsInMore
import Derived.WalkKit
import Derived.WalkLawsBesides
import Derived.WalkSpells
import Derived.OpenShut
import Derived.ProofKit
import Derived.ShutString
import Derived.SizedLaws
import Derived.SliceStrings
import Derived.Test.YtamiacmnobklaaaGreatDoorItX
import Derived.Test.YtamiacmnobklaaaGreatDoorPtX
import Derived.Test.YtamiacmnobklaaaGreatDoorPthX
import Derived.Test.YtamiacmnobklaaaGreatDoorRefOfTW
import Derived.Test.YtamiacmnobklaaaGreatDoorRefReadW
import Derived.Test.YtamiacmnobklaaaGreatDoorTmX
import Derived.Test.YtamiacmnobklaaaGreatDoorTreeMath
import Derived.Test.YtamiacmnobklaaaGreatDoorArX
import Derived.Test.YtamiacmnobklaaaGreatDoorRefNumW
import Derived.Test.YtamiacmnobklaaaGreatDoorAwX
import Derived.ChangeAlike
import Derived.Deep.Draws
import Derived.Laws.Bits128
import Derived.Laws.ResultCell
import Derived.Maps.AppendAt
import Derived.Maps.OwnOps
import Derived.Maps.OwnSet
import Derived.Maps.RangeWalk
import Derived.Maps.Views
import Derived.RegionTactic
/- The plain model's texts: refs. -/
set_option linter.unusedVariables false
namespace Go.Proofs.YtamiacmnobklaaaGreatDoor
open Go.RowKit

/-- How many lead to a text, in the plain model. -/
def refsL : List (Txt × Int) → Txt → Int
  | [], _ => 0
  | x :: r, s => if x.1 = s then x.2 else refsL r s
theorem refsL_app {A B : List (Txt × Int)} {s : Txt} (h : ∀ x ∈ A, x.1 ≠ s) : refsL (A ++ B) s = refsL B s := by
  induction A with
  | nil => rfl
  | cons x r ih =>
    rw [List.cons_append, refsL, if_neg (h x (by simp)), ih (fun y hy => h y (by simp [hy]))]
set_option maxRecDepth 100000 in
set_option maxHeartbeats 1000000 in
theorem pRefs_any (w : World) (pp base : Nat) (P : List (Txt × Int)) (vt vr : Value) (s : Txt) (hx : PBox w pp vt vr) (ho : OwnN encTP 2 w base 69 vt P) (hP : P.length ≤ 1000000) :
    Calls Tryz.prog 57 #[.pointer (some ⟨pp, 0, none⟩), .string ⟨s.toArray⟩] w fun e w' => e = .returned (.int .i64 (refsL P s)) ∧ w = w' := by
  have hrow := OwnN.row encTP_ok ho
  obtain ⟨ta, tc, hvt, _⟩ := hrow.slice
  have x0 := hx.c0
  have HR := Lib.hid hrow
  rw [hvt] at x0 HR
  clear hrow hx ho
  go_enter Tryz.func57, Tryz.ntmps57
  go_wp2_with fail
  go_loopw [5] (fun v5 wr => ∃ (i : Nat), i ≤ P.length ∧ v5 = .int .i64 (i : Nat) ∧ w = wr ∧ (∀ x ∈ P.take i, x.1 ≠ s)) (fun v5 _ => P.length - (intOf v5).toNat)
  case atStart => exact ⟨0, Nat.zero_le _, rfl, rfl, fun r hr => by simp at hr⟩
  case round =>
    obtain ⟨i, hi, rfl, rfl, hno⟩ := hrel
    have HNO := Lib.hid hno
    clear hno
    by_cases hlt : i < P.length
    · have j1 : (i : Int) < (P.length : Int) := by omega
      have i0 : (0 : Int) ≤ (i : Int) := by omega
      obtain ⟨g, o, c', hv, hn, hel⟩ := HR.out.at hlt
      injection hv with ea eb ec
      subst ea; subst ec
      clear eb
      have HTK := Lib.hid (show P.take (i + 1) = P.take i ++ [P[i]] from by rw [List.take_succ_eq_append_getElem hlt])
      have HPD := Lib.hid (show P = P.take i ++ P[i] :: P.drop (i + 1) from by rw [← List.drop_eq_getElem_cons hlt, List.take_append_drop])
      have d0 := hel 0 _ rfl
      have d1 := hel 1 _ rfl
      rw [Nat.add_zero] at d0
      generalize P[i] = x at *
      obtain ⟨xt, xn⟩ := x
      dsimp only at d0 d1
      clear hel
      by_cases hq : xt = s
      · have q2 : (xt == s) = true := by simp [hq]
        have HRF := Lib.hid (show refsL P s = xn by rw [HPD.out, refsL_app HNO.out, refsL, if_pos hq])
        clear hq
        go_wp2_with fail
        go_ret
        exact ⟨by rw [HRF.out]; rfl, rfl⟩
      · have q2 : (xt == s) = false := by simp [hq]
        have HQ := Lib.hid hq
        clear hq
        go_wp2_with fail
        go_roundw
        case rel =>
          refine ⟨i + 1, hlt, by go_num, trivial, fun y hy => ?_⟩
          rw [HTK.out] at hy
          rcases List.mem_append.1 hy with c | c
          · exact HNO.out y c
          · rw [List.mem_singleton.1 c]; exact HQ.out
        case measure => simp [intOf]; omega
    · have j1 : ¬ (i : Int) < (P.length : Int) := by omega
      have HRF := Lib.hid (show refsL P s = 0 by
        have h1 := refsL_app (A := P) (B := []) (s := s) (fun x hx => HNO.out x (by rw [List.take_of_length_le (by omega)]; exact hx))
        rw [List.append_nil] at h1
        exact h1)
      go_wp2_with fail
      go_ret
      exact ⟨by rw [HRF.out]; rfl, rfl⟩
end Go.Proofs.YtamiacmnobklaaaGreatDoor
/- A struct of an own list, one field turned (as TreeIW has it; of no program). -/
set_option linter.unusedVariables false
namespace Go.Proofs.YtamiacmnobklaaaGreatDoor
open Go.RowKit

/-! ### A struct of an own list, one field turned -/
section
variable {α : Type} {enc : α → List Value} {k : Nat}
theorem flatN_setB (h : EncN enc k) : ∀ (l : List α) (i r : Nat) (u : Value) (y : α) (hi : i < l.length), r < k → enc y = (enc l[i]).set r u → (flatN enc l).set (i * k + r) u = flatN enc (l.set i y)
  | [], i, r, u, y, hi, _, _ => by simp at hi
  | x :: t, 0, r, u, y, hi, hr, he => by
    rw [Nat.zero_mul, Nat.zero_add, flatN_cons, List.set_cons_zero, flatN_cons, List.set_append_left _ _ (by rw [h.len]; exact hr)]
    rw [he]; rfl
  | x :: t, i + 1, r, u, y, hi, hr, he => by
    rw [flatN_cons, List.set_cons_succ, flatN_cons, List.set_append_right _ _ (by rw [h.len, Nat.add_mul]; omega), h.len, show (i + 1) * k + r - k = i * k + r by rw [Nat.add_mul]; omega]
    rw [flatN_setB h t i r u y (by simpa using hi) hr (by simpa using he)]
theorem OwnN.putB {w : World} {base : Nat} {e : TypeId} {g n c : Nat} {xs : List α} (hE : EncN enc k) (h : OwnN enc k w base e (.slice (some ⟨g, 0, none⟩) n c) xs) (i r : Nat) (u : Value) (y : α) (hi : i < xs.length) (hr : r < k) (hy : enc y = (enc xs[i]).set r u) :
    OwnN enc k (w.setCell ⟨g, i * k + r, none⟩ u) base e (.slice (some ⟨g, 0, none⟩) n c) (xs.set i y) ∧ Kept (· = g) w (w.setCell ⟨g, i * k + r, none⟩ u) := by
  have hn : n = xs.length := by
    rcases h.2 with ⟨h', _⟩ | ⟨g', cap', cur, h', _⟩
    · simp at h'
    · simp at h'; exact h'.2.1
  subst hn
  obtain ⟨h1, h2⟩ := World.ownsRow.stored h (i * k + r) u
  refine ⟨?_, ⟨h2.os, h2.tape, h2.output, h2.size, fun j hj hm => h2.block j hj (fun e => hm (Option.some.inj e))⟩⟩
  rw [flatN_setB hE xs i r u y hi hr hy] at h1
  unfold OwnN
  rw [List.length_set]
  exact h1
theorem OwnN.atB {w : World} {base : Nat} {e : TypeId} {v : Value} {xs : List α} (hE : EncN enc k) (h : OwnN enc k w base e v xs) (hx : xs ≠ []) : ∃ g c, v = .slice (some ⟨g, 0, none⟩) xs.length c ∧ xs.length ≤ c ∧ base ≤ g ∧ g < w.heap.size ∧ (∀ i (hi : i < xs.length), ElAt enc w g (i * k) xs[i]) ∧ ∀ j, w.frozen? ⟨g, j, none⟩ = false := by
  rcases h.2 with ⟨rfl, hn⟩ | ⟨g, cap, cur, rfl, hb, hg, hle, _⟩
  · exact absurd (List.eq_nil_of_length_eq_zero hn) hx
  · refine ⟨g, cap, rfl, hle, hb, (Array.getElem?_eq_some_iff.1 hg).1, fun i hi => ?_, fun j => World.ownsRow.frozenAt h j⟩
    obtain ⟨a', c', hv, _, hc⟩ := OwnN.row hE h
    injection hv with e1 e2 e3
    obtain ⟨g', o', he, _, hx⟩ := hc i hi
    rw [← e1] at he
    simp at he
    obtain ⟨rfl, rfl⟩ := he
    rw [Nat.zero_add] at hx
    exact hx
end
end Go.Proofs.YtamiacmnobklaaaGreatDoor
/- The plain model's texts: add. -/
set_option linter.unusedVariables false
namespace Go.Proofs.YtamiacmnobklaaaGreatDoor
open Go.RowKit

def addL : List (Txt × Int) → Txt → Int → List (Txt × Int)
  | [], s, n => [(s, n)]
  | x :: r, s, n => if x.1 = s then (x.1, x.2 + n) :: r else x :: addL r s n
theorem addL_app {A B : List (Txt × Int)} {s : Txt} {n : Int} (h : ∀ x ∈ A, x.1 ≠ s) : addL (A ++ B) s n = A ++ addL B s n := by
  induction A with
  | nil => rfl
  | cons x r ih => rw [List.cons_append, addL, if_neg (h x (by simp)), ih (fun y hy => h y (by simp [hy]))]; rfl
theorem refsL_add (P : List (Txt × Int)) (s : Txt) (n : Int) (u : Txt) : refsL (addL P s n) u = refsL P u + if u = s then n else 0 := by
  induction P with
  | nil =>
    by_cases e : s = u
    · subst e; simp [addL, refsL]
    · have e2 : ¬ u = s := fun c => e c.symm
      simp [addL, refsL, e, e2]
  | cons x r ih =>
    unfold addL
    by_cases h : x.1 = s
    · rw [if_pos h]
      by_cases e : x.1 = u
      · have e2 : u = s := e.symm.trans h
        simp only [refsL]
        rw [if_pos e, if_pos e, if_pos e2]
      · have e2 : ¬ u = s := fun c => e (h.trans c.symm)
        simp only [refsL]
        rw [if_neg e, if_neg e, if_neg e2, Int.add_zero]
    · rw [if_neg h]
      by_cases e : x.1 = u
      · have e2 : ¬ u = s := fun c => h (e.trans c)
        simp only [refsL]
        rw [if_pos e, if_pos e, if_neg e2, Int.add_zero]
      · simp only [refsL]
        rw [if_neg e, if_neg e, ih]
theorem addL_len (P : List (Txt × Int)) (s : Txt) (n : Int) : (addL P s n).length ≤ P.length + 1 := by
  induction P with
  | nil => simp [addL]
  | cons x r ih =>
    unfold addL
    split
    · simp
    · simp only [List.length_cons]; omega
section
variable {w0 w w' : World} {pw pb p bm pp : Nat} {N F : Nat → Prop} {S : List Txt} {T : List Ent} {Lc : List (List FileD)} {P P' : List (Txt × Int)} {Rs : List RootD} {vt vr : Value} {K : Nat}
/-- The texts' own block is turned in place. -/
theorem PW.put (h : PW w0 w pw pb p bm pp N F S T Lc P Rs vt vr K) (hk : Kept (fun k => vt.ownBlock = some k) w w') (ho : OwnN encTP 2 w' w0.heap.size 69 vt P') : PW w0 w' pw pb p bm pp N F S T Lc P' Rs vt vr K := by
  have tr : ∀ g, vr.ownBlock = some g → ∃ cur, w.heap[g]? = some (.cells cur 46 (0, 0)) := fun g hg => (h.orr.lt hg).2.2
  have tt : ∀ g, vt.ownBlock = some g → ∃ cur, w.heap[g]? = some (.cells cur 69 (0, 0)) := fun g hg => (h.ot.lt hg).2.2
  have hbk := h.bl.bw.id.book
  unfold BookAt at hbk
  have hpx := h.px
  have hwb := h.wb
  unfold PBox at hpx
  unfold WBox at hwb
  have n1 : ¬ vt.ownBlock = some pp := fun e => by obtain ⟨c, hc⟩ := tt _ e; exact block_ne hc hpx (by decide) rfl
  have n2 : ¬ vt.ownBlock = some p := fun e => by obtain ⟨c, hc⟩ := tt _ e; exact block_ne hc hbk (by decide) rfl
  have n3 : ¬ vt.ownBlock = some pw := fun e => by obtain ⟨c, hc⟩ := tt _ e; exact block_ne hc hwb (by decide) rfl
  have n4 : ∀ g, vr.ownBlock = some g → ¬ vt.ownBlock = some g := fun g hg e => by obtain ⟨c, hc⟩ := tr _ hg; obtain ⟨c', hc'⟩ := tt _ e; exact block_ne hc hc' (by decide) rfl
  exact ⟨h.bl.kept hk (fun g hg e => (h.dt g e).1 hg) n2 (fun e => (h.dt _ e).2 rfl), hk.old hwb n3, hk.old hpx n1, ho, h.orr.kept hk n4, fun r hr => (h.rows r hr).kept hk (fun g hg => (h.ff g hg).t), h.mks,
    fun g hg => ⟨(h.ff g hg).lo, Nat.lt_of_lt_of_le (h.ff g hg).lt hk.size, (h.ff g hg).n, (h.ff g hg).bm, (h.ff g hg).pp, (h.ff g hg).t, (h.ff g hg).r⟩, h.dt, h.dr, h.nn, h.nw, h.np, h.bmw, h.bmp, h.lo, h.lp,
    h.bel.trans (hk.below h.bel.size (fun k e => (h.ot.lt e).1))⟩
/-- A text more. -/
theorem PW.text (h : PW w0 w pw pb p bm pp N F S T Lc P Rs vt vr K) {w6 w7 : World} {v7 : Value} {x : Txt × Int} (hb : Below w.heap.size w w6) (ho : OwnN encTP 2 w7 w0.heap.size 69 v7 (P ++ [x])) (ht : TurnN w0.heap.size w6 vt w7 v7) :
    w7.frozen? ⟨pp, 0, none⟩ = false ∧ (∃ u, w7.cell? ⟨pp, 0, none⟩ = some u) ∧ PW w0 (w7.setCell ⟨pp, 0, none⟩ v7) pw pb p bm pp N F S T Lc (P ++ [x]) Rs v7 vr K ∧ Kept (fun k => vt.ownBlock = some k ∨ k = pp) w (w7.setCell ⟨pp, 0, none⟩ v7) := by
  have h6 := h.new hb
  have tr : ∀ g, vr.ownBlock = some g → ∃ cur, w6.heap[g]? = some (.cells cur 46 (0, 0)) := fun g hg => (h6.orr.lt hg).2.2
  have tt : ∀ g, vt.ownBlock = some g → ∃ cur, w6.heap[g]? = some (.cells cur 69 (0, 0)) := fun g hg => (h6.ot.lt hg).2.2
  have hbk := h6.bl.bw.id.book
  unfold BookAt at hbk
  have hpx := h6.px
  have hwb := h6.wb
  unfold PBox at hpx
  unfold WBox at hwb
  have hppl := (Array.getElem?_eq_some_iff.1 hpx).1
  have n1 : ¬ vt.ownBlock = some pp := fun e => by obtain ⟨c, hc⟩ := tt _ e; exact block_ne hc hpx (by decide) rfl
  have n2 : ¬ vt.ownBlock = some p := fun e => by obtain ⟨c, hc⟩ := tt _ e; exact block_ne hc hbk (by decide) rfl
  have n3 : ¬ vt.ownBlock = some pw := fun e => by obtain ⟨c, hc⟩ := tt _ e; exact block_ne hc hwb (by decide) rfl
  have n4 : ∀ g, vr.ownBlock = some g → ¬ vt.ownBlock = some g := fun g hg e => by obtain ⟨c, hc⟩ := tr _ hg; obtain ⟨c', hc'⟩ := tt _ e; exact block_ne hc hc' (by decide) rfl
  have n5 : p ≠ pp := block_ne hbk hpx (by decide)
  have n6 : pw ≠ pp := block_ne hwb hpx (by decide)
  have n7 : ∀ g, vr.ownBlock = some g → g ≠ pp := fun g hg => by obtain ⟨c', hc'⟩ := tr _ hg; exact block_ne hc' hpx (by decide)
  have hmv : ∀ g, v7.ownBlock = some g → vt.ownBlock = some g ∨ w6.heap.size ≤ g := ht.mov
  have n8 : ∀ g, v7.ownBlock = some g → g ≠ pp := fun g hg e => by
    rcases hmv g hg with c | c
    · exact n1 (e ▸ c)
    · omega
  have k2 : Kept (· = pp) w7 (w7.setCell ⟨pp, 0, none⟩ v7) := (Kept.refl (· = pp) w7).setCell rfl _
  have kk : Kept (fun k => vt.ownBlock = some k ∨ k = pp) w6 (w7.setCell ⟨pp, 0, none⟩ v7) := (ht.kept.mono (fun k _ e => .inl e)).trans (k2.mono (fun k _ e => .inr e))
  have hpx7 := ht.kept.old hpx n1
  have hpx8 : (w7.setCell ⟨pp, 0, none⟩ v7).heap[pp]? = some (.cells #[v7, vr] 44 (0, 0)) := by
    rw [heap_setCell_same w7 pp 0 _ _ _ hpx7]
    rfl
  have no : ∀ {g}, ¬ vt.ownBlock = some g → g ≠ pp → ¬ (vt.ownBlock = some g ∨ g = pp) := fun a b c => by rcases c with c | c; exact a c; exact b c
  refine ⟨frozen_of_row w7 pp 0 _ _ hpx7, ⟨_, by rw [cell_of_row _ _ _ _ _ _ hpx7]; rfl⟩, ⟨h6.bl.kept kk (fun g hg => no (fun e => (h6.dt g e).1 hg) (fun e => h6.np (e ▸ hg))) (no n2 n5) (no (fun e => (h6.dt _ e).2 rfl) h6.bmp),
    kk.old hwb (no n3 n6), hpx8, ho.kept k2 n8, h6.orr.kept kk (fun g hg => no (n4 g hg) (n7 g hg)), fun x hx => (h6.rows x hx).kept kk (fun g hg => no (h6.ff g hg).t (h6.ff g hg).pp), h6.mks, fun g hg => ?_, fun g hg => ?_, h6.dr, h6.nn, h6.nw, h6.np, h6.bmw, h6.bmp, h6.lo, h6.lp, h6.bel.trans (ht.bel.trans (k2.below (Nat.le_trans h6.bel.size ht.kept.size) (fun k e => by rw [e]; exact h6.lp)))⟩, (Kept.new hb _).trans kk⟩
  · have f := h6.ff g hg
    refine ⟨f.lo, Nat.lt_of_lt_of_le f.lt kk.size, f.n, f.bm, f.pp, fun e => ?_, f.r⟩
    rcases hmv g e with c | c
    · exact f.t c
    · have := f.lt; omega
  · rcases hmv g hg with c | c
    · exact h6.dt g c
    · exact ⟨fun n => by have := h6.bl.bw.blob.lt.2 g n; omega, fun e => by have := h6.bl.bw.id.lt.2; omega⟩
end
theorem info_textL : (Tryz.prog.info? 69).map (fun i => (i.zero, i.size, i.bytes)) = some (some (.agg #[.string ByteArray.empty, .int .i64 0]), 2, 24) := by kernel_rfl
set_option maxRecDepth 100000 in
set_option maxHeartbeats 2000000 in
theorem pAdd_any (w0 w : World) (pw pb p bm pp : Nat) (N F : Nat → Prop) (S : List Txt) (T : List Ent) (Lc : List (List FileD)) (P : List (Txt × Int)) (Rs : List RootD) (vt vr : Value) (K : Nat) (s : Txt) (n : Int) (h : PW w0 w pw pb p bm pp N F S T Lc P Rs vt vr K) (hP : P.length ≤ 100000) (hn : -1000000 ≤ n ∧ n ≤ 1000000) (hb : ∀ x ∈ P, -1000000000 ≤ x.2 ∧ x.2 ≤ 1000000000) :
    Calls Tryz.prog 58 #[.pointer (some ⟨pp, 0, none⟩), .string ⟨s.toArray⟩, .int .i64 n] w fun e w' => e = .returned (.tuple #[]) ∧ ∃ vt', PW w0 w' pw pb p bm pp N F S T Lc (addL P s n) Rs vt' vr K ∧ Kept (fun k => vt.ownBlock = some k ∨ k = pp) w w' := by
  have hrow := OwnN.row encTP_ok h.ot
  obtain ⟨ta, tc, hvt, _⟩ := hrow.slice
  subst hvt
  have HR := Lib.hid hrow
  have HE := Lib.hid h
  have HBP := Lib.hid hb
  have x0 := h.px.c0
  clear hrow h hb
  go_enter Tryz.func58, Tryz.ntmps58
  go_wp2_with fail
  go_loopw [6] (fun v6 wr => ∃ (i : Nat), i ≤ P.length ∧ v6 = .int .i64 (i : Nat) ∧ w = wr ∧ (∀ x ∈ P.take i, x.1 ≠ s)) (fun v6 _ => P.length - (intOf v6).toNat)
  case atStart => exact ⟨0, Nat.zero_le _, rfl, rfl, fun r hr => by simp at hr⟩
  case round =>
    obtain ⟨i, hi, rfl, rfl, hno⟩ := hrel
    have HNO := Lib.hid hno
    clear hno
    by_cases hlt : i < P.length
    · have j1 : (i : Int) < (P.length : Int) := by omega
      have i0 : (0 : Int) ≤ (i : Int) := by omega
      obtain ⟨g, c', hv, _, hbg, hgl, hel, hfz⟩ := OwnN.atB encTP_ok HE.out.ot (fun e => by rw [e] at hlt; simp at hlt)
      injection hv with ea eb ec
      subst ea; subst ec
      clear eb
      have hel1 := hel i hlt
      have hfz1 := hfz (i * 2 + 1)
      have HTK := Lib.hid (show P.take (i + 1) = P.take i ++ [P[i]] from by rw [List.take_succ_eq_append_getElem hlt])
      have HPD := Lib.hid (show P = P.take i ++ P[i] :: P.drop (i + 1) from by rw [← List.drop_eq_getElem_cons hlt, List.take_append_drop])
      have hbd := HBP.out _ (List.getElem_mem hlt)
      have HED := Lib.hid (HE.out.new (Below_drew (Below.refl _ _)))
      obtain ⟨hp1, hp2⟩ := OwnN.putB encTP_ok HED.out.ot i 1 (.int .i64 (P[i].2 + n)) (P[i].1, P[i].2 + n) hlt (by decide) (by simp [encTP])
      have HP1 := Lib.hid (HED.out.put (hp2.mono (fun k _ e => by rw [e]; rfl)) hp1)
      have HKP := Lib.hid (show Kept (fun k => (Value.slice (some ⟨g, 0, none⟩) P.length tc).ownBlock = some k ∨ k = pp) w _ from (Kept.new (Below_drew (Below.refl _ w)) _).trans (hp2.mono (fun k _ e => .inl (by rw [e]; rfl))))
      have HST := Lib.hid (show P.set i (P[i].1, P[i].2 + n) = P.take i ++ (P[i].1, P[i].2 + n) :: P.drop (i + 1) from by rw [List.set_eq_take_append_cons_drop, if_pos hlt])
      clear hp1 hp2 hel hfz
      generalize P[i] = x at *
      obtain ⟨xt, xn⟩ := x
      have d0 := hel1 0 _ rfl
      have d1 := hel1 1 _ rfl
      rw [Nat.add_zero] at d0
      dsimp only at d0 d1 hbd
      clear hel1
      by_cases hq : xt = s
      · have q2 : (xt == s) = true := by simp [hq]
        have HAD := Lib.hid (show addL P s n = P.take i ++ (xt, xn + n) :: P.drop (i + 1) by
          rw [HPD.out, addL_app HNO.out, addL, if_pos hq, ← HPD.out])
        have u0 : IntKind.i64.wrap (xn + n) = xn + n := IntWalk.i64_in _ (by omega)
        have u1 : wrap64 (xn + n) = xn + n := IntWalk.wrap64_in _ (by omega)
        have x0d : w.drew.cell? ⟨pp, 0, none⟩ = some (.slice (some ⟨g, 0, none⟩) P.length tc) := x0
        have d1d : w.drew.cell? ⟨g, i * 2 + 1, none⟩ = some (.int .i64 xn) := d1
        have f1d : w.drew.frozen? ⟨g, i * 2 + 1, none⟩ = false := hfz1
        rw [HST.out, ← HAD.out] at HP1
        clear hq HED HST HTK HPD hfz1
        go_wp2_with fail
        apply region_once0 (F := fun w' => Hid (PW w0 w' pw pb p bm pp N F S T Lc (addL P s n) Rs (.slice (some ⟨g, 0, none⟩) P.length tc) vr K) ∧ Hid (Kept (fun k => (Value.slice (some ⟨g, 0, none⟩) P.length tc).ownBlock = some k ∨ k = pp) w w'))
        case h =>
          go_region_with (fail)
          all_goals exact ⟨⟨HP1, HKP⟩, rfl⟩
        case hk =>
          rintro w4 ⟨he4, hk4⟩
          simp only [Exit.inBlock, Exit.then]
          go_wp2_with fail
          refine bodyPost_ret (results_none rfl _ _ _) rfl ?_
          exact ⟨rfl, _, he4.out, hk4.out⟩
      · have q2 : (xt == s) = false := by simp [hq]
        have HQ := Lib.hid hq
        clear hq HP1 HST HKP
        go_wp2_with fail
        go_roundw
        case rel =>
          refine ⟨i + 1, hlt, by go_num, trivial, fun y hy => ?_⟩
          rw [HTK.out] at hy
          rcases List.mem_append.1 hy with c | c
          · exact HNO.out y c
          · rw [List.mem_singleton.1 c]; exact HQ.out
        case measure => simp [intOf]; omega
    · have j1 : ¬ (i : Int) < (P.length : Int) := by omega
      have HAD := Lib.hid (show addL P s n = P ++ [(s, n)] by
        have h1 := addL_app (A := P) (B := []) (s := s) (n := n) (fun x hx => HNO.out x (by rw [List.take_of_length_le (by omega)]; exact hx))
        rw [List.append_nil] at h1
        exact h1)
      go_wp2_with (at_builtin; go_loud (refine append_new (enc := encTP) (k := 2) (w := w) (by rfl) (.tmp 47) (.tmp 51) 42 69 (.agg #[.string ByteArray.empty, .int .i64 0]) 24 (by rfl) Tryz.underlying42 info_textL (by rfl) (by decide) encTP_ok w0.heap.size _ P (s, n) (by rfl) HE.out.ot (by rfl) (by omega) (by unfold maxLen; omega) HE.out.bel.size _ (by rfl) ?_; intro v7 w7 hown7 ht7; obtain ⟨a7, m7, q7, hv7⟩ := own_slice hown7; subst hv7; obtain ⟨f7, ⟨u7, c7⟩, h7, k7⟩ := HE.out.text (Below.refl _ _) hown7 ht7; have H7 := Lib.hid h7; have K7 := Lib.hid k7; clear hown7 ht7 h7 k7))
      go_end0
      exact ⟨rfl, ⟨_, by rw [HAD.out]; exact H7.out⟩, K7.out⟩
end Go.Proofs.YtamiacmnobklaaaGreatDoor
/- Stage 11's laws: world.text. -/
set_option linter.unusedVariables false
namespace Go.Proofs.YtamiacmnobklaaaGreatDoor
open Go.RowKit

/-- The plain model counts as the blobs do. -/
def Rel (P : List (Txt × Int)) (S : List Txt) (T : List Ent) : Prop := ∀ u, refsL P u = (cntE S T u : Nat)
def InJ (J : Int) (P : List (Txt × Int)) : Prop := ∀ x ∈ P, -J ≤ x.2 ∧ x.2 ≤ J
theorem InJ.add {J : Int} {P : List (Txt × Int)} (h : InJ J P) (hJ : 0 ≤ J) {s : Txt} {n : Int} (hn : -1 ≤ n ∧ n ≤ 1) : InJ (J + 1) (addL P s n) := by
  induction P with
  | nil => intro x hx; rw [List.mem_singleton.1 hx]; dsimp only; omega
  | cons y r ih =>
    unfold addL
    have hy := h y (by simp)
    split
    · intro x hx
      rcases List.mem_cons.1 hx with c | c
      · subst c; dsimp only; omega
      · have := h x (by simp [c]); omega
    · intro x hx
      rcases List.mem_cons.1 hx with c | c
      · subst c; omega
      · exact ih (fun z hz => h z (by simp [hz])) x c
theorem InJ.wide {J : Int} {P : List (Txt × Int)} (h : InJ J P) {M : Int} (hJ : J ≤ M) : ∀ x ∈ P, -M ≤ x.2 ∧ x.2 ≤ M := fun x hx => by have := h x hx; omega
theorem InJ.mono {J : Int} {P : List (Txt × Int)} (h : InJ J P) {M : Int} (hJ : J ≤ M) : InJ M P := h.wide hJ
theorem cnt_le {k : Nat} {S : List Txt} {T : List Ent} (h : TB k T) (s : Txt) : cntE S T s ≤ k := by
  unfold cntE
  split
  · unfold refsE
    cases hg : getE T (mkS S s) with
    | none => exact Nat.zero_le _
    | some x =>
      unfold getE at hg
      exact h.ref x (List.mem_of_find?_eq_some hg)
  · exact Nat.zero_le _
theorem Rel.put {P : List (Txt × Int)} {S S' : List Txt} {T T' : List Ent} (h : Rel P S T) {y : Txt} (hc : ∀ u, cntE S' T' u = cntE S T u + if u = y then 1 else 0) : Rel (addL P y 1) S' T' := fun u => by
  rw [refsL_add, h u, hc u]
  split <;> simp
theorem Rel.drop {P : List (Txt × Int)} {S S' : List Txt} {T T' : List Ent} (h : Rel P S T) {y : Txt} (h1 : 1 ≤ cntE S T y) (hc : ∀ u, cntE S' T' u = cntE S T u - if u = y then 1 else 0) : Rel (addL P y (-1)) S' T' := fun u => by
  rw [refsL_add, h u, hc u]
  by_cases e : u = y
  · subst e; simp only [if_true]; omega
  · simp [e]
theorem Rel.same {P : List (Txt × Int)} {S S' : List Txt} {T T' : List Ent} (h : Rel P S T) (hc : ∀ u, cntE S' T' u = cntE S T u) : Rel P S' T' := fun u => by rw [h u, hc u]
theorem isS_self (S : List Txt) (y : Txt) (hy : y ∈ S) : isS S y (mkS S y) = true := by
  unfold isS mkS
  simp [hy]
set_option maxRecDepth 100000 in
set_option maxHeartbeats 4000000 in
theorem text11_any (w0 w : World) (pw pb p bm pp : Nat) (N F : Nat → Prop) (S : List Txt) (T : List Ent) (Lc : List (List FileD)) (P : List (Txt × Int)) (Rs : List RootD) (vt vr : Value) (K : Nat) (J : Int) (o : OpB) (h : PW w0 w pw pb p bm pp N F S T Lc P Rs vt vr K) (hrel : Rel P S T) (hj : InJ J P) (hJ : 0 ≤ J ∧ J ≤ 1000000) (hK : K ≤ 50000) (hP : P.length ≤ 50000) (ho : o.text.length ≤ 140737488351232) (hfr : o.kind = 1 → (needS S Lc).count (cutT o.text) = 0) :
    Calls Tryz.prog 34 #[.pointer (some ⟨pw, 0, none⟩), o.agg] w fun e w' => e = .returned (.bool true) ∧ ∃ N' S' T' P' vt', PW w0 w' pw pb p bm pp N' F S' T' Lc P' Rs vt' vr (K + 1) ∧ Rel P' S' T' ∧ InJ (J + 1) P' ∧ P'.length ≤ P.length + 1 ∧ (P' = P ∨ ∃ n, P' = addL P (cutT o.text) n) := by
  obtain ⟨ok, on, ot, oa, oc, of⟩ := o
  unfold OpB.agg
  dsimp only at ho hfr ⊢
  go_enter Tryz.func34, Tryz.ntmps34
  have hbA : Below w.heap.size w (w.alloc (.cells #[.int .i64 ok, .int .i64 on, .string ⟨ot.toArray⟩, .slice oa of.length oc] 28)) := (Below.refl _ w).alloc (Nat.le_refl _) _
  have hbx := heap_alloc_new w (.cells #[.int .i64 ok, .int .i64 on, .string ⟨ot.toArray⟩, .slice oa of.length oc] 28)
  have HE := Lib.hid (h.new hbA)
  have HR := Lib.hid hrel
  have HJ := Lib.hid hj
  clear h hbA hrel hj
  have CT := Lib.hid (fun X => cutB_any ot X ho)
  have hyl := cutT_len ot
  obtain ⟨y, hy⟩ : ∃ y, y = cutT ot := ⟨_, rfl⟩
  rw [← hy] at CT hyl hfr
  have HY := Lib.hid hy
  clear hy ho
  go_wp2_with fail
  generalize w.alloc (.cells #[.int .i64 ok, .int .i64 on, .string ⟨ot.toArray⟩, .slice oa of.length oc] 28) = wA at *
  obtain ⟨nb, hnb⟩ : ∃ nb, nb = w.heap.size := ⟨_, rfl⟩
  rw [← hnb] at hbx ⊢
  clear hnb
  refine (CT.out _).mono ?_
  rintro e w2 ⟨rfl, ew⟩
  subst ew
  have c2 := HE.out.wb.c2
  have c0 := HE.out.wb.c0
  have c1 := HE.out.wb.c1
  have b0 : wA.cell? ⟨nb, 0, none⟩ = some (.int .i64 ok) := by rw [cell_of_row _ _ _ _ _ _ hbx]; rfl
  have RF := Lib.hid (pRefs_any wA pp w0.heap.size P vt vr y HE.out.px HE.out.ot (by omega))
  rw [HR.out] at RF
  have MKS := Lib.hid (HE.out.mks_mark y)
  have hsl := HE.out.bl.sl
  clear CT hbx
  go_wp2_with fail
  refine RF.out.mono ?_
  rintro e w3 ⟨rfl, ew⟩
  subst ew
  clear RF
  obtain ⟨n, hn⟩ : ∃ n, n = cntE S T y := ⟨_, rfl⟩
  rw [← hn]
  have HN := Lib.hid hn
  have hnb : n ≤ 1000000 := by
    rw [hn]
    exact Nat.le_trans (cnt_le HE.out.bl.tb y) (by omega)
  clear hn
  by_cases h0 : ok = 0
  · subst h0
    have PT := Lib.hid (blPut_any wA pb p bm N S T Lc K y HE.out.bl (by omega) (by omega))
    go_wp2_with fail
    refine PT.out.mono ?_
    rintro e w4 ⟨rfl, N4, T4, h4, t4, k4⟩
    have HE4 := Lib.hid (HE.out.turn h4 t4 MKS.out)
    have HK4 := Lib.hid k4
    have AD := Lib.hid (pAdd_any w0 w4 pw pb p bm pp N4 F (markS S y) T4 Lc P Rs vt vr (K + 1) y 1 HE4.out (by omega) (by omega) (HJ.out.wide (by omega)))
    have c24 := HE4.out.wb.c2
    have HIS := Lib.hid (isS_self (markS S y) y (new_mark S y))
    rw [mkS_mark y (.inr rfl)] at HIS
    have IS := Lib.hid (fun X (h : IdealAt X p bm (markS S y)) => by
      have h5 := is_ideal X p bm (markS S y) y (mkS S y) h (by omega) (by have := markS_length S y; omega)
      rw [HIS.out] at h5
      exact h5)
    have RF := Lib.hid (fun X N5 T5 (h : BL X pb p bm N5 (markS S y) T5 Lc (K + 1)) => by
      have h5 := blRefs_any X pb p bm N5 (markS S y) T5 Lc (K + 1) y h (new_mark S y)
      rw [mkS_mark y (.inr rfl)] at h5
      exact h5)
    have hcy : cntE (markS S y) T4 y = n + 1 := by rw [k4, if_pos rfl, HN.out]
    have HCY := Lib.hid hcy
    generalize mkS S y = mk at *
    clear h4 t4 k4 PT HIS hcy c0 c1 c2 b0
    go_wp2_with fail
    refine AD.out.mono ?_
    rintro e w5 ⟨rfl, vt5, h5, _⟩
    have HE5 := Lib.hid h5
    have c15 := HE5.out.wb.c1
    clear h5 AD c24
    go_wp2_with fail
    refine (IS.out _ HE5.out.bl.bw.id).mono ?_
    rintro e w6 ⟨rfl, hb6⟩
    have HE6 := Lib.hid (HE5.out.new hb6)
    have c06 := HE6.out.wb.c0
    have RF6 := Lib.hid (RF.out w6 N4 T4 HE6.out.bl)
    rw [HCY.out] at RF6
    clear hb6 IS RF c15 HE5
    go_wp2_with fail
    refine RF6.out.mono ?_
    rintro e w7 ⟨rfl, ew⟩
    subst ew
    have HRL := Lib.hid (HR.out.put HK4.out)
    have HJL := Lib.hid (HJ.out.add hJ.1 (s := y) (n := 1) (by omega))
    have HPL := Lib.hid (addL_len P y 1)
    clear RF6 HK4 HCY HR HJ HN
    have u1 : wrap64 ((n : Int) + 1) = (n : Int) + 1 := IntWalk.wrap64_in _ (by omega)
    go_wp2_with fail
    go_ret
    exact ⟨rfl, _, _, _, _, _, HE6.out, HRL.out, HJL.out, HPL.out, .inr ⟨1, by rw [HY.out]⟩⟩
  · have MK := Lib.hid (blMark_any wA pb p bm N S T Lc K y HE.out.bl (by omega) (by omega))
    have RF := Lib.hid (fun X N5 T5 (h : BL X pb p bm N5 (markS S y) T5 Lc (K + 1)) => by
      have h5 := blRefs_any X pb p bm N5 (markS S y) T5 Lc (K + 1) y h (new_mark S y)
      rw [mkS_mark y (.inr rfl)] at h5
      exact h5)
    have DR := Lib.hid (fun X (h : BL X pb p bm N (markS S y) T Lc (K + 1)) hn => by
      have h5 := blDrop_any X pb p bm N (markS S y) T Lc (K + 1) y h (by omega) (new_mark S y) hn
      rw [mkS_mark y (.inr rfl)] at h5
      exact h5)
    have GT := Lib.hid (fun X (h : BL X pb p bm N (markS S y) T Lc (K + 1)) => by
      have h5 := blGet_any X pb p bm N (markS S y) T Lc (K + 1) y h (by omega) (new_mark S y)
      rw [mkS_mark y (.inr rfl)] at h5
      exact h5)
    have HNM := Lib.hid (needS_mark (S := S) y HE.out.bl.live)
    generalize hmk : mkS S y = mk at *
    clear hmk
    have q0 : (ok == 0) = false := by simp [h0]
    by_cases h1 : ok = 1
    · subst h1
      have hfr2 := hfr rfl
      clear hfr
      go_wp2_with fail
      refine MK.out.mono ?_
      rintro e w4 ⟨rfl, h4, t4, k4⟩
      have HE4 := Lib.hid (HE.out.turn h4 t4 MKS.out)
      have HK4 := Lib.hid k4
      have hcy : cntE (markS S y) T y = n := by rw [k4, HN.out]
      have DR4 := Lib.hid (DR.out w4 HE4.out.bl (by rw [HNM.out, hcy]; omega))
      rw [hcy] at DR4
      have HCY := Lib.hid hcy
      have c04 := HE4.out.wb.c0
      have HM4 := Lib.hid HE4.out.mks
      clear h4 t4 k4 MK GT DR hcy c0 c1 c2 b0
      by_cases hn0 : n = 0
      · rw [if_neg (by omega)] at DR4
        have qn : ((n : Int) == 0) = true := by simp [hn0]
        go_wp2_with fail
        refine DR4.out.mono ?_
        rintro e w5 ⟨rfl, N5, T5, h5, t5, k5⟩
        have HE5 := Lib.hid (HE4.out.turn h5 t5 HM4.out)
        have HRL := Lib.hid (HR.out.same (S' := markS S y) (T' := T5) (fun u => by
          rw [k5, HK4.out]
          by_cases e : u = y
          · rw [e, ← HN.out, hn0, if_pos rfl]
          · rw [if_neg e]; omega))
        clear h5 t5 k5 DR4
        go_wp2_with fail
        go_ret
        exact ⟨rfl, _, _, _, _, _, HE5.out, HRL.out, HJ.out.mono (by omega), by omega, .inl rfl⟩
      · rw [if_pos (by omega)] at DR4
        have qn : ((n : Int) == 0) = false := by simp [hn0]
        go_wp2_with fail
        refine DR4.out.mono ?_
        rintro e w5 ⟨rfl, N5, T5, h5, t5, k5⟩
        have HE5 := Lib.hid (HE4.out.turn h5 t5 HM4.out)
        have hk5 : ∀ u, cntE (markS S y) T5 u = cntE S T u - if u = y then 1 else 0 := fun u => by rw [k5, HK4.out]
        have HRL := Lib.hid (HR.out.drop (by rw [← HN.out]; omega) hk5)
        have HC5 := Lib.hid (show cntE (markS S y) T5 y = n - 1 by rw [hk5, if_pos rfl, HN.out])
        have AD := Lib.hid (pAdd_any w0 w5 pw pb p bm pp N5 F (markS S y) T5 Lc P Rs vt vr (K + 1) y (-1) HE5.out (by omega) (by omega) (HJ.out.wide (by omega)))
        have c25 := HE5.out.wb.c2
        clear h5 t5 k5 hk5 DR4 c04
        go_wp2_with fail
        refine AD.out.mono ?_
        rintro e w6 ⟨rfl, vt6, h6, _⟩
        have HE6 := Lib.hid h6
        have c06 := HE6.out.wb.c0
        have RF6 := Lib.hid (RF.out w6 N5 T5 HE6.out.bl)
        rw [HC5.out] at RF6
        clear h6 AD c25
        have HJL := Lib.hid (HJ.out.add hJ.1 (s := y) (n := -1) (by omega))
        have HPL := Lib.hid (addL_len P y (-1))
        go_wp2_with fail
        refine RF6.out.mono ?_
        rintro e w7 ⟨rfl, ew⟩
        subst ew
        have u1 : wrap64 ((n : Int) - 1) = (n : Int) - 1 := IntWalk.wrap64_in _ (by omega)
        have u2 : (((n - 1 : Nat) : Int) == (n : Int) - 1) = true := by rw [beq_iff_eq]; omega
        clear RF6 RF HR HJ HN HC5
        go_wp2_with fail
        go_ret
        exact ⟨rfl, _, _, _, _, _, HE6.out, HRL.out, HJL.out, HPL.out, .inr ⟨-1, by rw [HY.out]⟩⟩
    · have q1 : (ok == 1) = false := by simp [h1]
      go_wp2_with fail
      refine MK.out.mono ?_
      rintro e w4 ⟨rfl, h4, t4, k4⟩
      have HE4 := Lib.hid (HE.out.turn h4 t4 MKS.out)
      have HRL := Lib.hid (HR.out.same k4)
      have hcy : cntE (markS S y) T y = n := by rw [k4, HN.out]
      have HCY := Lib.hid hcy
      have GT4 := Lib.hid (GT.out w4 HE4.out.bl)
      rw [hcy] at GT4
      have c04 := HE4.out.wb.c0
      clear h4 t4 k4 MK GT DR hcy c0 c1 c2 b0
      by_cases hn0 : n = 0
      · have qn : ((n : Int) == 0) = true := by simp [hn0]
        go_wp2_with fail
        refine GT4.out.mono ?_
        rintro e w5 ⟨gv, hg, rfl, hb5⟩
        rw [if_neg (by omega)] at hg
        rw [hg]
        have HE5 := Lib.hid (HE4.out.new hb5)
        have c05 := HE5.out.wb.c0
        have RF5 := Lib.hid (RF.out w5 N T HE5.out.bl)
        rw [HCY.out, hn0] at RF5
        clear hg hb5 GT4 RF c04
        go_wp2_with fail
        refine RF5.out.mono ?_
        rintro e w6 ⟨rfl, ew⟩
        subst ew
        go_wp2_with fail
        go_ret
        exact ⟨rfl, _, _, _, _, _, HE5.out, HRL.out, HJ.out.mono (by omega), by omega, .inl rfl⟩
      · have qn : ((n : Int) == 0) = false := by simp [hn0]
        go_wp2_with fail
        refine GT4.out.mono ?_
        rintro e w5 ⟨gv, hg, rfl, hb5⟩
        rw [if_pos (by omega)] at hg
        rw [hg]
        have HE5 := Lib.hid (HE4.out.new hb5)
        have c05 := HE5.out.wb.c0
        have RF5 := Lib.hid (RF.out w5 N T HE5.out.bl)
        rw [HCY.out] at RF5
        clear hg hb5 GT4 RF c04
        go_wp2_with fail
        refine RF5.out.mono ?_
        rintro e w6 ⟨rfl, ew⟩
        subst ew
        go_wp2_with fail
        go_ret
        exact ⟨rfl, _, _, _, _, _, HE5.out, HRL.out, HJ.out.mono (by omega), by omega, .inl rfl⟩
end Go.Proofs.YtamiacmnobklaaaGreatDoor
/- Stage 11's laws: world.stands. -/
set_option linter.unusedVariables false
namespace Go.Proofs.YtamiacmnobklaaaGreatDoor
open Go.RowKit

/-- The texts that something leads to. -/
def liveP (P : List (Txt × Int)) : List Txt := (P.filter (fun x => decide (0 < x.2))).map (·.1)
theorem liveP_snoc (P : List (Txt × Int)) (x : Txt × Int) : liveP (P ++ [x]) = if 0 < x.2 then liveP P ++ [x.1] else liveP P := by
  unfold liveP
  rw [List.filter_append]
  by_cases h : 0 < x.2 <;> simp [h]
theorem refsL_mem {P : List (Txt × Int)} (hn : (P.map (·.1)).Nodup) (s : Txt) : s ∈ liveP P ↔ 0 < refsL P s := by
  induction P with
  | nil => simp [liveP, refsL]
  | cons x r ih =>
    rw [List.map_cons, List.nodup_cons] at hn
    have hh := ih hn.2
    have hc : s ∈ liveP (x :: r) ↔ (0 < x.2 ∧ s = x.1) ∨ s ∈ liveP r := by
      unfold liveP
      rw [List.filter_cons]
      by_cases h : 0 < x.2 <;> simp [h]
    rw [hc, refsL]
    by_cases e : x.1 = s
    · rw [if_pos e]
      have hno : s ∉ liveP r := fun c => by
        obtain ⟨y, hy, hy2⟩ := List.mem_map.1 c
        exact hn.1 (List.mem_map.2 ⟨y, (List.mem_filter.1 hy).1, hy2.trans e.symm⟩)
      exact ⟨fun c => by rcases c with c | c; exact c.1; exact absurd c hno, fun c => .inl ⟨c, e.symm⟩⟩
    · rw [if_neg e, ← hh]
      exact ⟨fun c => by rcases c with c | c; exact absurd c.2.symm e; exact c, .inr⟩
theorem liveP_nodup {P : List (Txt × Int)} (hn : (P.map (·.1)).Nodup) : (liveP P).Nodup := by
  unfold liveP
  exact (List.filter_sublist.map _).nodup hn
theorem addL_keys (P : List (Txt × Int)) (s : Txt) (n : Int) (h : (P.map (·.1)).Nodup) : ((addL P s n).map (·.1)).Nodup ∧ ∀ u, u ∈ (addL P s n).map (·.1) ↔ u ∈ P.map (·.1) ∨ u = s := by
  induction P with
  | nil => simp [addL]
  | cons x r ih =>
    rw [List.map_cons, List.nodup_cons] at h
    unfold addL
    by_cases e : x.1 = s
    · rw [if_pos e]
      refine ⟨by rw [List.map_cons, List.nodup_cons]; exact h, fun u => ?_⟩
      simp only [List.map_cons, List.mem_cons]
      constructor
      · exact .inl
      · rintro (c | c)
        · exact c
        · exact .inl (c.trans e.symm)
    · rw [if_neg e]
      obtain ⟨a, b⟩ := ih h.2
      refine ⟨?_, fun u => ?_⟩
      · rw [List.map_cons, List.nodup_cons]
        exact ⟨fun c => by rcases (b _).1 c with d | d; exact h.1 d; exact e d, a⟩
      · rw [List.map_cons, List.mem_cons, b, List.map_cons, List.mem_cons, or_assoc]
theorem live_size {P : List (Txt × Int)} {S : List Txt} {T : List Ent} (hT : TOk T) (hts : TS S T) (hS : S.length ≤ 1000000) (hr : Rel P S T) (hn : (P.map (·.1)).Nodup) : T.length = (liveP P).length ∧ sumE T = ((liveP P).map (·.length)).sum :=
  tab_size hT hts hS (liveP_nodup hn) (fun s => by rw [refsL_mem hn, hr s]; omega)
set_option maxRecDepth 100000 in
set_option maxHeartbeats 4000000 in
theorem stands_any (w0 w : World) (pw pb p bm pp : Nat) (N F : Nat → Prop) (S : List Txt) (T : List Ent) (Lc : List (List FileD)) (P : List (Txt × Int)) (Rs : List RootD) (vt vr : Value) (K : Nat) (h : PW w0 w pw pb p bm pp N F S T Lc P Rs vt vr K) (hrel : Rel P S T) (hnd : (P.map (·.1)).Nodup) (hln : ∀ x ∈ P, x.1.length ≤ 65536) (hK : K ≤ 50000) (hP : P.length ≤ 50000) (hR : Rs.length ≤ 50000) (hlv : (Rs.filter (·.is)).length = Lc.length) :
    Calls Tryz.prog 10 #[.pointer (some ⟨pw, 0, none⟩)] w fun e w' => e = .returned (.bool true) ∧ Below w.heap.size w w' := by
  have HE := Lib.hid h
  obtain ⟨z1, z2⟩ := live_size h.bl.bw.blob.tok h.bl.ts (by have := h.bl.sl; omega) hrel hnd
  have HZ := Lib.hid (show T.length = (liveP P).length ∧ sumE T = ((liveP P).map (·.length)).sum from ⟨z1, z2⟩)
  have HLN := Lib.hid hln
  have HLV := Lib.hid hlv
  have c2 := h.wb.c2
  have x0 := h.px.c0
  have x1 := h.px.c1
  have hrt := OwnN.row encTP_ok h.ot
  have hrr := OwnN.row encR_ok h.orr
  obtain ⟨ta, tc, hvt, _⟩ := hrt.slice
  obtain ⟨ra, rc, hvr, _⟩ := hrr.slice
  have HT := Lib.hid hrt
  have HR := Lib.hid hrr
  rw [hvt] at x0 HT
  rw [hvr] at x1 HR
  clear h hrel hnd hln hlv z1 z2 hrt hrr
  go_enter Tryz.func10, Tryz.ntmps10
  go_wp2_with fail
  go_loopw [3, 4, 5] (fun v3 v4 v5 wr => ∃ (i b : Nat), i ≤ P.length ∧ v5 = .int .i64 (i : Nat) ∧ v3 = .int .i64 ((liveP (P.take i)).length : Nat) ∧ v4 = .int .i64 (b : Nat) ∧ b = ((liveP (P.take i)).map (·.length)).sum ∧ b ≤ 65536 * i ∧ (liveP (P.take i)).length ≤ i ∧ w = wr) (fun _ _ v5 _ => P.length - (intOf v5).toNat)
  case atStart => exact ⟨0, 0, Nat.zero_le _, rfl, rfl, rfl, rfl, Nat.le_refl _, Nat.le_refl _, rfl⟩
  case round =>
    obtain ⟨i, b, hi, rfl, rfl, rfl, hb, hbi, hni, rfl⟩ := hrel
    have HB := Lib.hid hb
    clear hb
    have i0 : (0 : Int) ≤ (i : Int) := by omega
    by_cases hlt : i < P.length
    · have j1 : (i : Int) < (P.length : Int) := by omega
      obtain ⟨g, o, c', hv, hn, hel⟩ := HT.out.at hlt
      injection hv with ea eb ec
      subst ea; subst ec
      clear eb
      have HTK := Lib.hid (show liveP (P.take (i + 1)) = if 0 < P[i].2 then liveP (P.take i) ++ [P[i].1] else liveP (P.take i) from by rw [List.take_succ_eq_append_getElem hlt, liveP_snoc])
      have hxl := HLN.out _ (List.getElem_mem hlt)
      have d0 := hel 0 _ rfl
      have d1 := hel 1 _ rfl
      rw [Nat.add_zero] at d0
      generalize liveP (P.take i) = U at *
      generalize P[i] = x at *
      obtain ⟨xt, xn⟩ := x
      dsimp only at d0 d1 hxl HTK
      clear hel
      by_cases hq : 0 < xn
      · have HTN := Lib.hid (HTK.out.trans (if_pos hq))
        have SD := Lib.hid (show (⟨xt.toArray⟩ : ByteArray).size = xt.length from rfl)
        clear HTK
        go_wp2_with fail
        go_roundw
        case rel =>
          refine ⟨i + 1, b + xt.length, hlt, by go_num, ?_, by go_num, ?_, by omega, ?_, trivial⟩
          · rw [HTN.out, List.length_append]; go_num
          · rw [HTN.out, List.map_append, List.sum_append, HB.out]; simp
          · rw [HTN.out, List.length_append]; simp; omega
        case measure => simp [intOf]; omega
      · have HTN := Lib.hid (HTK.out.trans (if_neg hq))
        clear HTK
        go_wp2_with fail
        go_roundw
        case rel =>
          refine ⟨i + 1, b, hlt, by go_num, by rw [HTN.out], rfl, by rw [HTN.out]; exact HB.out, by omega, by rw [HTN.out]; omega, trivial⟩
        case measure => simp [intOf]; omega
    · have j1 : ¬ (i : Int) < (P.length : Int) := by omega
      rw [List.take_of_length_le (by omega)] at HB hni ⊢
      have hbb : b ≤ 65536 * 50000 := by omega
      go_wp2_with fail
      go_loopw [6, 7] (fun v6 v7 wr => ∃ (k : Nat), k ≤ Rs.length ∧ v7 = .int .i64 (k : Nat) ∧ v6 = .int .i64 (((Rs.take k).filter (·.is)).length : Nat) ∧ ((Rs.take k).filter (·.is)).length ≤ k ∧ w = wr) (fun _ v7 _ => Rs.length - (intOf v7).toNat)
      case atStart => exact ⟨0, Nat.zero_le _, rfl, rfl, Nat.le_refl _, rfl⟩
      case round =>
        obtain ⟨k, hk, rfl, rfl, hnk, rfl⟩ := hrel
        have k0 : (0 : Int) ≤ (k : Int) := by omega
        by_cases hkl : k < Rs.length
        · have j2 : (k : Int) < (Rs.length : Int) := by omega
          obtain ⟨g, o, c', hv, hn, hel⟩ := HR.out.at hkl
          injection hv with ea eb ec
          subst ea; subst ec
          clear eb
          have HTK := Lib.hid (show ((Rs.take (k + 1)).filter (·.is)).length = ((Rs.take k).filter (·.is)).length + if Rs[k].is = true then 1 else 0 from by
            rw [List.take_succ_eq_append_getElem hkl, List.filter_append, List.length_append]
            by_cases hq : Rs[k].is = true <;> simp [hq])
          have d2 := hel 2 _ rfl
          generalize ((Rs.take k).filter (·.is)).length = nk at *
          generalize Rs[k] = r at *
          obtain ⟨a, c, l, m, is⟩ := r
          dsimp only at d2 HTK
          clear hel
          cases is with
          | true =>
            have HTN := Lib.hid (HTK.out.trans (by rw [if_pos rfl]))
            clear HTK
            go_wp2_with fail
            go_roundw
            case rel => exact ⟨k + 1, hkl, by go_num, by rw [HTN.out]; go_num, by rw [HTN.out]; omega, trivial⟩
            case measure => simp [intOf]; omega
          | false =>
            have HTN := Lib.hid (HTK.out.trans (by rw [if_neg (by decide), Nat.add_zero]))
            clear HTK
            go_wp2_with fail
            go_roundw
            case rel => exact ⟨k + 1, hkl, by go_num, by rw [HTN.out], by rw [HTN.out]; omega, trivial⟩
            case measure => simp [intOf]; omega
        · have j2 : ¬ (k : Int) < (Rs.length : Int) := by omega
          rw [List.take_of_length_le (by omega), HLV.out]
          have c0 := HE.out.wb.c0
          have hll := HE.out.bl.ll
          have BC := Lib.hid (bCount_any w pb p bm N S T _ HE.out.bl.bw)
          rw [HZ.out.1] at BC
          have BB := Lib.hid (bBytes_any w pb p bm N S T _ HE.out.bl.bw (k := K) HE.out.bl.tb (by omega))
          rw [HZ.out.2, ← HB.out] at BB
          have BR := Lib.hid (fun X (h : PW w0 X pw pb p bm pp N F S T Lc P Rs vt vr K) => bRoots_any X pb p bm N S T _ h.bl.bw (by rw [List.length_map]; omega))
          clear HB HZ
          go_wp2_with fail
          refine BC.out.mono ?_
          rintro e w2 ⟨rfl, ew⟩
          subst ew
          go_wp2_with fail
          refine BB.out.mono ?_
          rintro e w2 ⟨rfl, hb2⟩
          have HE2 := Lib.hid (HE.out.new hb2)
          have HB2 := Lib.hid hb2
          have c02 := HE2.out.wb.c0
          clear hb2 BC BB
          go_wp2_with fail
          refine (BR.out _ HE2.out).mono ?_
          rintro e w3 ⟨v3, rfl, ho3, hb3⟩
          obtain ⟨a3, c3, hv3, _⟩ := (OwnN.row encZB_ok ho3).slice
          subst hv3
          have HB3 := Lib.hid (HB2.out.trans (hb3.mono HB2.out.size))
          clear hb3 ho3 BR
          rw [List.length_map]
          go_wp2_with fail
          go_ret
          exact ⟨rfl, HB3.out⟩
end Go.Proofs.YtamiacmnobklaaaGreatDoor
/- The plain model: all files' texts counted. -/
set_option linter.unusedVariables false
namespace Go.Proofs.YtamiacmnobklaaaGreatDoor
open Go.RowKit

def addAllL (P : List (Txt × Int)) (l : List FileD) (n : Int) : List (Txt × Int) := l.foldl (fun Q x => addL Q x.data n) P
theorem addAllL_snoc (P : List (Txt × Int)) (l : List FileD) (x : FileD) (n : Int) : addAllL P (l ++ [x]) n = addL (addAllL P l n) x.data n := by unfold addAllL; rw [List.foldl_append]; rfl
theorem refsL_addAll (n : Int) (u : Txt) : ∀ (l : List FileD) (P : List (Txt × Int)), refsL (addAllL P l n) u = refsL P u + n * ((l.map (·.data)).count u : Nat)
  | [], P => by simp [addAllL]
  | x :: r, P => by
    show refsL (addAllL (addL P x.data n) r n) u = _
    rw [refsL_addAll n u r, refsL_add, List.map_cons, List.count_cons]
    by_cases e : u = x.data
    · subst e
      simp only [if_true, beq_self_eq_true]
      rw [Int.natCast_add, Int.mul_add]
      omega
    · have hb : (x.data == u) = false := by rw [beq_eq_false_iff_ne]; exact fun c => e c.symm
      rw [if_neg e, hb]
      simp
theorem addAllL_len (n : Int) : ∀ (l : List FileD) (P : List (Txt × Int)), (addAllL P l n).length ≤ P.length + l.length
  | [], P => by simp [addAllL]
  | x :: r, P => by
    show (addAllL (addL P x.data n) r n).length ≤ _
    have h1 := addAllL_len n r (addL P x.data n)
    have h2 := addL_len P x.data n
    rw [List.length_cons]
    omega
theorem addAllL_keys (n : Int) : ∀ (l : List FileD) (P : List (Txt × Int)), (P.map (·.1)).Nodup → ((addAllL P l n).map (·.1)).Nodup ∧ ∀ u, u ∈ (addAllL P l n).map (·.1) ↔ u ∈ P.map (·.1) ∨ u ∈ l.map (·.data)
  | [], P, h => ⟨h, fun u => by simp [addAllL]⟩
  | x :: r, P, h => by
    obtain ⟨a, b⟩ := addL_keys P x.data n h
    obtain ⟨c, d⟩ := addAllL_keys n r (addL P x.data n) a
    refine ⟨c, fun u => ?_⟩
    show u ∈ (addAllL (addL P x.data n) r n).map (·.1) ↔ _
    rw [d, b, List.map_cons, List.mem_cons, or_assoc]
theorem InJ.addAll {n : Int} (hn : -1 ≤ n ∧ n ≤ 1) : ∀ (l : List FileD) {J : Int} {P : List (Txt × Int)}, InJ J P → 0 ≤ J → InJ (J + l.length) (addAllL P l n)
  | [], J, P, h, _ => by simpa [addAllL] using h
  | x :: r, J, P, h, hJ => by
    have h2 := InJ.addAll hn r (h.add hJ (s := x.data) hn) (by omega)
    have e : J + ((x :: r).length : Nat) = J + 1 + (r.length : Nat) := by rw [List.length_cons]; omega
    rw [e]
    exact h2
end Go.Proofs.YtamiacmnobklaaaGreatDoor
/- A root of the plain model that goes: the first of its mark that is still. -/
set_option linter.unusedVariables false
namespace Go.Proofs.YtamiacmnobklaaaGreatDoor
open Go.RowKit

def RootD.gone (r : RootD) : RootD := ⟨r.a, r.c, r.l, r.m, false⟩
def unRoot : List RootD → Txt → List RootD
  | [], _ => []
  | r :: t, m => if r.is = true ∧ r.m = m then r.gone :: t else r :: unRoot t m
def liveR (Rs : List RootD) : List (List FileD) := (Rs.filter (·.is)).map (·.l)
theorem unRoot_len (Rs : List RootD) (m : Txt) : (unRoot Rs m).length = Rs.length := by
  induction Rs with
  | nil => rfl
  | cons r t ih => unfold unRoot; split <;> simp [ih]
theorem unRoot_mem {Rs : List RootD} {m : Txt} {r : RootD} (h : r ∈ unRoot Rs m) : ∃ r0 ∈ Rs, r.a = r0.a ∧ r.c = r0.c ∧ r.l = r0.l ∧ r.m = r0.m := by
  induction Rs with
  | nil => cases h
  | cons x t ih =>
    unfold unRoot at h
    split at h
    · rcases List.mem_cons.1 h with c | c
      · exact ⟨x, by simp, by rw [c]; exact ⟨rfl, rfl, rfl, rfl⟩⟩
      · exact ⟨r, by simp [c], rfl, rfl, rfl, rfl⟩
    · rcases List.mem_cons.1 h with c | c
      · exact ⟨x, by simp, by rw [c]; exact ⟨rfl, rfl, rfl, rfl⟩⟩
      · obtain ⟨r0, h0, h1⟩ := ih c
        exact ⟨r0, by simp [h0], h1⟩
theorem liveR_cons (r : RootD) (t : List RootD) : liveR (r :: t) = if r.is = true then r.l :: liveR t else liveR t := by
  unfold liveR
  rw [List.filter_cons]
  by_cases h : r.is = true <;> simp [h]
/-- No root of that mark is still: none goes. -/
theorem unRoot_no {Rs : List RootD} {m : Txt} (h : ∀ r ∈ Rs, ¬ (r.is = true ∧ r.m = m)) : unRoot Rs m = Rs := by
  induction Rs with
  | nil => rfl
  | cons r t ih =>
    unfold unRoot
    rw [if_neg (h r (by simp)), ih (fun x hx => h x (by simp [hx]))]
/-- The lists that are still, one less. -/
theorem unRoot_live {S : List Txt} (hS : S.length ≤ 1000000) {Rs : List RootD} (hm : ∀ r ∈ Rs, r.m = mkT S r.l ∧ LiveS S r.l) {l : List FileD} (hl : LiveS S l) {A B : List (List FileD)} (e1 : liveR Rs = A ++ l :: B) (e2 : ((liveR Rs).map (mkT S)).erase (mkT S l) = (A ++ B).map (mkT S)) : liveR (unRoot Rs (mkT S l)) = A ++ B := by
  have hlive : ∀ k ∈ liveR Rs, LiveS S k := fun k hk => by
    obtain ⟨r, hr, rfl⟩ := List.mem_map.1 hk
    exact (hm r (List.mem_filter.1 hr).1).2
  have key : (liveR (unRoot Rs (mkT S l))).map (mkT S) = ((liveR Rs).map (mkT S)).erase (mkT S l) := by
    clear e1 e2 hlive
    induction Rs with
    | nil => rfl
    | cons r t ih =>
      have ih2 := ih (fun x hx => hm x (by simp [hx]))
      obtain ⟨h1, h2⟩ := hm r (by simp)
      unfold unRoot
      by_cases hi : r.is = true
      · by_cases hq : r.m = mkT S l
        · rw [if_pos ⟨hi, hq⟩, liveR_cons, liveR_cons, if_pos hi, if_neg (by simp [RootD.gone]), List.map_cons, ← h1, hq, List.erase_cons_head]
        · rw [if_neg (fun c => hq c.2), liveR_cons, liveR_cons, if_pos hi, if_pos hi, List.map_cons, List.map_cons, ih2, List.erase_cons_tail (by rw [← h1]; simpa using hq)]
      · rw [if_neg (fun c => hi c.1), liveR_cons, liveR_cons, if_neg hi, if_neg hi, ih2]
  rw [e2] at key
  have inj : ∀ (X Y : List (List FileD)), (∀ k ∈ X, LiveS S k) → (∀ k ∈ Y, LiveS S k) → X.map (mkT S) = Y.map (mkT S) → X = Y := by
    intro X
    induction X with
    | nil => intro Y _ _ h; cases Y with
      | nil => rfl
      | cons y q => simp at h
    | cons x p ih =>
      intro Y hX hY h
      cases Y with
      | nil => simp at h
      | cons y q =>
        rw [List.map_cons, List.map_cons] at h
        injection h with h1 h2
        rw [mkT_inj hS (hX x (by simp)) (hY y (by simp)) h1, ih q (fun k hk => hX k (by simp [hk])) (fun k hk => hY k (by simp [hk])) h2]
  refine inj _ _ (fun k hk => ?_) (fun k hk => hlive k ?_) key
  · obtain ⟨r, hr, rfl⟩ := List.mem_map.1 hk
    obtain ⟨r0, h0, _, _, h3, _⟩ := unRoot_mem (List.mem_filter.1 hr).1
    rw [h3]
    exact (hm r0 h0).2
  · rw [e1]
    rcases List.mem_append.1 hk with c | c <;> simp [c]
end Go.Proofs.YtamiacmnobklaaaGreatDoor

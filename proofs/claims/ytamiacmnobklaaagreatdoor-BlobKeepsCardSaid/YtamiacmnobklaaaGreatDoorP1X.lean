/- Several texts in one: BlobPlainW, BlobFreeW, BlobNextW. -/
import Derived.Test.YtamiacmnobklaaaGreatDoorArX
import Derived.Test.YtamiacmnobklaaaGreatDoorBldShelf
import Derived.Test.YtamiacmnobklaaaGreatDoorB1X
import Derived.Test.YtamiacmnobklaaaGreatDoorLwX
import Derived.Test.YtamiacmnobklaaaGreatDoorB2X
import Derived.Test.YtamiacmnobklaaaGreatDoorBookW
import Derived.Test.YtamiacmnobklaaaGreatDoorFtX
import Derived.Test.YtamiacmnobklaaaGreatDoorFrame
import Derived.Test.YtamiacmnobklaaaGreatDoorGen
import Derived.Test.YtamiacmnobklaaaGreatDoorItX
import Derived.Test.YtamiacmnobklaaaGreatDoorPtX
import Derived.Test.YtamiacmnobklaaaGreatDoorMarkMath
import Derived.Test.YtamiacmnobklaaaGreatDoorOwnL
import Derived.Test.YtamiacmnobklaaaGreatDoorPthX
import Derived.Test.YtamiacmnobklaaaGreatDoorProg
import Derived.Test.YtamiacmnobklaaaGreatDoorRiX
import Derived.Test.YtamiacmnobklaaaGreatDoorCdX
import Derived.Test.YtamiacmnobklaaaGreatDoorRefOfTW
import Derived.Test.YtamiacmnobklaaaGreatDoorRefReadW
import Derived.Test.YtamiacmnobklaaaGreatDoorRowN
import Derived.Test.YtamiacmnobklaaaGreatDoorRows
import Derived.Test.YtamiacmnobklaaaGreatDoorShelf
import Derived.Test.YtamiacmnobklaaaGreatDoorSoX
import Derived.Test.YtamiacmnobklaaaGreatDoorTmX
import Derived.Test.YtamiacmnobklaaaGreatDoorTreeMath
import Derived.BigQuiet
import Derived.BigRegion
import Derived.Deep.AppendLies
import Derived.Deep.Cut
import Derived.Deep.CutRange
import Derived.Deep.DeepCutAuto
import Derived.Deep.QuietTactic
import Derived.Deep.RegionLaw
import Derived.Deep.Slices
import Derived.Deep.Strs
import Derived.IntWalk
import Derived.Laws.BitsAllLaws
import Derived.Laws.Externs
import Derived.Laws.IdiomStrings
import Derived.Laws.OwnMore
import Derived.Laws.RangeAny
import Derived.Laws.Rows
import Derived.Laws.Tables
import Derived.Lib.AppendStr
import Derived.Lib.Builder
import Derived.Lib.Hide
import Derived.Lib.SlicesS
import Derived.Lib.SmallJoins
import Derived.Lib.Strings
import Derived.Lib.Walk
import Derived.LoopTactic
import Derived.Outline
import Derived.Shelf.Strings.SplitCore
import Derived.Sort.OwnSorted
import Derived.StillTail
import Derived.StillTailTactics
import Derived.WalkKit
import Derived.WalkLawsBesides
import Derived.WalkSpells
import Derived.Test.YtamiacmnobklaaaGreatDoorRfX
import Derived.Test.YtamiacmnobklaaaGreatDoorRefNumW
import Derived.Deep.CutBlock
import Derived.Deep.RegionHeld
import Derived.LoopIn
import Derived.LoopNIn
import Derived.OwnWalkIn
import Derived.RangeFuncBound
import Derived.RangeFuncCalls
import Derived.RangeFuncLeaves
import Derived.RangeFuncNested
import Derived.Shelf.Abstract
import Derived.Shelf.RegionOpen
import Derived.TacticsInMore
/- Stage 11's laws: the world with its plain model. -/
set_option linter.unusedVariables false
namespace Go.Proofs.YtamiacmnobklaaaGreatDoor
open Go.RowKit

structure RootD where
  a : Option Addr
  c : Nat
  l : List FileD
  m : Txt
  is : Bool
def RootD.fv (r : RootD) : Value := .slice r.a r.l.length r.c
def encR (r : RootD) : List Value := [.slice r.a r.l.length r.c, .string ⟨r.m.toArray⟩, .bool r.is]
theorem encR_ok : EncN encR 3 := ⟨fun _ => rfl, fun x u hu => by simp [encR] at hu; rcases hu with rfl | rfl | rfl <;> rfl⟩
def encTP (x : Txt × Int) : List Value := [.string ⟨x.1.toArray⟩, .int .i64 x.2]
theorem encTP_ok : EncN encTP 2 := ⟨fun _ => rfl, fun x u hu => by simp [encTP] at hu; rcases hu with rfl | rfl <;> rfl⟩
theorem block_ne {w : World} {g k : Nat} {c c' : Array Value} {t t' : TypeId} {x x' : Nat × Nat} (h : w.heap[g]? = some (.cells c t x)) (h' : w.heap[k]? = some (.cells c' t' x')) (ht : t ≠ t') : g ≠ k := by
  rintro rfl
  rw [h] at h'
  injection h' with h'
  injection h' with _ e _
  exact ht e
/-- Where a list of files lies that nothing turns. -/
structure Off (w0 w : World) (bm pp : Nat) (N : Nat → Prop) (vt vr : Value) (g : Nat) : Prop where
  lo : w0.heap.size ≤ g
  lt : g < w.heap.size
  n : ¬ N g
  bm : g ≠ bm
  pp : g ≠ pp
  t : vt.ownBlock ≠ some g
  r : vr.ownBlock ≠ some g
/-- Blobs, the law's world, its plain model: texts with how many lead to them, roots. -/
structure PW (w0 w : World) (pw pb p bm pp : Nat) (N F : Nat → Prop) (S : List Txt) (T : List Ent) (Lc : List (List FileD)) (P : List (Txt × Int)) (Rs : List RootD) (vt vr : Value) (K : Nat) : Prop where
  bl : BL w pb p bm N S T Lc K
  wb : WBox w pw pb p pp
  px : PBox w pp vt vr
  ot : OwnN encTP 2 w w0.heap.size 69 vt P
  orr : OwnN encR 3 w w0.heap.size 46 vr Rs
  rows : ∀ r ∈ Rs, RowN encF 3 F w r.fv r.l
  mks : ∀ r ∈ Rs, r.m = mkT S r.l ∧ LiveS S r.l
  ff : ∀ g, F g → Off w0 w bm pp N vt vr g
  dt : ∀ g, vt.ownBlock = some g → ¬ N g ∧ g ≠ bm
  dr : ∀ g, vr.ownBlock = some g → ¬ N g ∧ g ≠ bm
  nn : ∀ k, N k → w0.heap.size ≤ k
  nw : ¬ N pw
  np : ¬ N pp
  bmw : bm ≠ pw
  bmp : bm ≠ pp
  lo : w0.heap.size ≤ bm
  lp : w0.heap.size ≤ pp
  bel : Below w0.heap.size w0 w
section
variable {w0 w w' : World} {pw pb p bm pp : Nat} {N N' F : Nat → Prop} {S S' : List Txt} {T T' : List Ent} {Lc Lc' : List (List FileD)} {P : List (Txt × Int)} {Rs : List RootD} {vt vr : Value} {K K' : Nat}
theorem PW.start (h : FreshW w0 w pw pb p bm pp N) : PW w0 w pw pb p bm pp N (fun _ => False) [] [] [] [] [] (.slice none 0 0) (.slice none 0 0) 0 :=
  ⟨h.bl, h.wb, h.pbx, OwnN.nil _ _ _ _ _, OwnN.nil _ _ _ _ _, fun r hr => (by cases hr), fun r hr => (by cases hr), fun g hg => hg.elim, fun g hg => by simp [Value.ownBlock] at hg, fun g hg => by simp [Value.ownBlock] at hg, h.nn, h.nw, h.np, h.bmw, h.bmp, h.lo.1, h.lo.2.2, h.bel⟩
theorem PW.new (h : PW w0 w pw pb p bm pp N F S T Lc P Rs vt vr K) (hb : Below w.heap.size w w') : PW w0 w' pw pb p bm pp N F S T Lc P Rs vt vr K :=
  ⟨h.bl.new hb, (Kept.new hb (fun _ => False)).old h.wb id, (Kept.new hb (fun _ => False)).old h.px id, h.ot.new hb, h.orr.new hb, fun r hr => (h.rows r hr).keep hb, h.mks,
    fun g hg => ⟨(h.ff g hg).lo, Nat.lt_of_lt_of_le (h.ff g hg).lt hb.size, (h.ff g hg).n, (h.ff g hg).bm, (h.ff g hg).pp, (h.ff g hg).t, (h.ff g hg).r⟩, h.dt, h.dr, h.nn, h.nw, h.np, h.bmw, h.bmp, h.lo, h.lp, h.bel.trans (hb.mono h.bel.size)⟩
theorem PW.mono (h : PW w0 w pw pb p bm pp N F S T Lc P Rs vt vr K) {J : Nat} (hJ : K ≤ J) : PW w0 w pw pb p bm pp N F S T Lc P Rs vt vr J :=
  ⟨h.bl.mono hJ, h.wb, h.px, h.ot, h.orr, h.rows, h.mks, h.ff, h.dt, h.dr, h.nn, h.nw, h.np, h.bmw, h.bmp, h.lo, h.lp, h.bel⟩
/-- A call of the blobs. -/
theorem PW.turn (h : PW w0 w pw pb p bm pp N F S T Lc P Rs vt vr K) (hbl : BL w' pb p bm N' S' T' Lc' K') (ht : BTurn w w' bm N N') (hm : ∀ r ∈ Rs, r.m = mkT S' r.l ∧ LiveS S' r.l) : PW w0 w' pw pb p bm pp N' F S' T' Lc' P Rs vt vr K' := by
  have hpw := (Array.getElem?_eq_some_iff.1 h.wb).1
  have hpp := (Array.getElem?_eq_some_iff.1 h.px).1
  have no : ∀ {g}, ¬ N g → g ≠ bm → ¬ (N g ∨ g = bm) := fun a b c => by rcases c with c | c; exact a c; exact b c
  refine ⟨hbl, ht.kp.old h.wb (no h.nw h.bmw.symm), ht.kp.old h.px (no h.np h.bmp.symm), h.ot.kept ht.kp (fun g hg => no (h.dt g hg).1 (h.dt g hg).2), h.orr.kept ht.kp (fun g hg => no (h.dr g hg).1 (h.dr g hg).2),
    fun r hr => (h.rows r hr).kept ht.kp (fun g hg => no (h.ff g hg).n (h.ff g hg).bm), hm, fun g hg => ?_, fun g hg => ?_, fun g hg => ?_, ht.from h.bel.size h.nn, ht.off h.nw hpw, ht.off h.np hpp, h.bmw, h.bmp, h.lo, h.lp, h.bel.trans (ht.below h.bel.size h.nn h.lo)⟩
  · have f := h.ff g hg
    exact ⟨f.lo, Nat.lt_of_lt_of_le f.lt ht.kp.size, ht.off f.n f.lt, f.bm, f.pp, f.t, f.r⟩
  · exact ⟨ht.off (h.dt g hg).1 (h.ot.lt hg).2.1, (h.dt g hg).2⟩
  · exact ⟨ht.off (h.dr g hg).1 (h.orr.lt hg).2.1, (h.dr g hg).2⟩
/-- One root more. -/
theorem PW.root (h : PW w0 w pw pb p bm pp N F S T Lc P Rs vt vr K) {w6 w7 : World} {v7 : Value} {r : RootD} {G : Nat → Prop} (hb : Below w.heap.size w w6) (hr : RowN encF 3 G w6 r.fv r.l) (hG : ∀ g, G g → Off w0 w6 bm pp N vt vr g)
    (hmk : r.m = mkT S r.l ∧ LiveS S r.l) (ho : OwnN encR 3 w7 w0.heap.size 46 v7 (Rs ++ [r])) (ht : TurnN w0.heap.size w6 vr w7 v7) :
    w7.cell? ⟨pw, 2, none⟩ = some (.pointer (some ⟨pp, 0, none⟩)) ∧ w7.frozen? ⟨pp, 1, none⟩ = false ∧ (∃ u, w7.cell? ⟨pp, 1, none⟩ = some u) ∧ PW w0 (w7.setCell ⟨pp, 1, none⟩ v7) pw pb p bm pp N (fun g => F g ∨ G g) S T Lc P (Rs ++ [r]) vt v7 K := by
  have h6 := h.new hb
  have tr : ∀ g, vr.ownBlock = some g → ∃ cur, w6.heap[g]? = some (.cells cur 46 (0, 0)) := fun g hg => (h6.orr.lt hg).2.2
  have tt : ∀ g, vt.ownBlock = some g → ∃ cur, w6.heap[g]? = some (.cells cur 69 (0, 0)) := fun g hg => (h6.ot.lt hg).2.2
  have hbk := h6.bl.bw.id.book
  unfold BookAt at hbk
  have hpx := h6.px
  have hwb := h6.wb
  unfold PBox at hpx
  unfold WBox at hwb
  have hppl := (Array.getElem?_eq_some_iff.1 hpx).1
  have n1 : ¬ vr.ownBlock = some pp := fun e => by obtain ⟨c, hc⟩ := tr _ e; exact block_ne hc hpx (by decide) rfl
  have n2 : ¬ vr.ownBlock = some p := fun e => by obtain ⟨c, hc⟩ := tr _ e; exact block_ne hc hbk (by decide) rfl
  have n3 : ¬ vr.ownBlock = some pw := fun e => by obtain ⟨c, hc⟩ := tr _ e; exact block_ne hc hwb (by decide) rfl
  have n4 : ∀ g, vt.ownBlock = some g → ¬ vr.ownBlock = some g := fun g hg e => by obtain ⟨c, hc⟩ := tr _ e; obtain ⟨c', hc'⟩ := tt _ hg; exact block_ne hc hc' (by decide) rfl
  have n5 : p ≠ pp := block_ne hbk hpx (by decide)
  have n6 : pw ≠ pp := block_ne hwb hpx (by decide)
  have n7 : ∀ g, vt.ownBlock = some g → g ≠ pp := fun g hg => by obtain ⟨c', hc'⟩ := tt _ hg; exact block_ne hc' hpx (by decide)
  have hmv : ∀ g, v7.ownBlock = some g → vr.ownBlock = some g ∨ w6.heap.size ≤ g := ht.mov
  have n8 : ∀ g, v7.ownBlock = some g → g ≠ pp := fun g hg e => by
    rcases hmv g hg with c | c
    · exact n1 (e ▸ c)
    · omega
  have k2 : Kept (· = pp) w7 (w7.setCell ⟨pp, 1, none⟩ v7) := (Kept.refl (· = pp) w7).setCell rfl _
  have kk : Kept (fun k => vr.ownBlock = some k ∨ k = pp) w6 (w7.setCell ⟨pp, 1, none⟩ v7) := (ht.kept.mono (fun k _ e => .inl e)).trans (k2.mono (fun k _ e => .inr e))
  have hpx7 := ht.kept.old hpx n1
  have hpx8 : (w7.setCell ⟨pp, 1, none⟩ v7).heap[pp]? = some (.cells #[vt, v7] 44 (0, 0)) := by
    rw [heap_setCell_same w7 pp 1 _ _ _ hpx7]
    rfl
  have no : ∀ {g}, ¬ vr.ownBlock = some g → g ≠ pp → ¬ (vr.ownBlock = some g ∨ g = pp) := fun a b c => by rcases c with c | c; exact a c; exact b c
  refine ⟨(show WBox w7 pw pb p pp from ht.kept.old hwb n3).c2, frozen_of_row w7 pp 1 _ _ hpx7, ⟨_, by rw [cell_of_row _ _ _ _ _ _ hpx7]; rfl⟩, ⟨h6.bl.kept kk (fun g hg => no (fun e => (h6.dr g e).1 hg) (fun e => h6.np (e ▸ hg))) (no n2 n5) (no (fun e => (h6.dr _ e).2 rfl) h6.bmp),
    kk.old hwb (no n3 n6), hpx8, h6.ot.kept kk (fun g hg => no (n4 g hg) (n7 g hg)), ho.kept k2 n8, fun x hx => ?_, fun x hx => ?_, fun g hg => ?_, h6.dt, fun g hg => ?_, h6.nn, h6.nw, h6.np, h6.bmw, h6.bmp, h6.lo, h6.lp, h6.bel.trans (ht.bel.trans (k2.below (Nat.le_trans h6.bel.size ht.kept.size) (fun k e => by rw [e]; exact h6.lp)))⟩⟩
  · rcases List.mem_append.1 hx with c | c
    · exact ((h6.rows x c).kept kk (fun g hg => no (h6.ff g hg).r (h6.ff g hg).pp)).mono (fun g hg => .inl hg)
    · rw [List.mem_singleton.1 c]
      exact (hr.kept kk (fun g hg => no (hG g hg).r (hG g hg).pp)).mono (fun g hg => .inr hg)
  · rcases List.mem_append.1 hx with c | c
    · exact h6.mks x c
    · rw [List.mem_singleton.1 c]; exact hmk
  · have f : Off w0 w6 bm pp N vt vr g := by rcases hg with c | c; exact h6.ff g c; exact hG g c
    refine ⟨f.lo, Nat.lt_of_lt_of_le f.lt kk.size, f.n, f.bm, f.pp, f.t, fun e => ?_⟩
    rcases hmv g e with c | c
    · exact f.r c
    · have := f.lt; omega
  · rcases hmv g hg with c | c
    · exact h6.dr g c
    · exact ⟨fun n => by have := h6.bl.bw.blob.lt.2 g n; omega, fun e => by have := h6.bl.bw.id.lt.2; omega⟩
theorem PW.fresh_rows (h : PW w0 w pw pb p bm pp N F S T Lc P Rs vt vr K) {w6 : World} (hb : Below w.heap.size w w6) (g : Nat) (hg : w.heap.size ≤ g ∧ g < w6.heap.size) : Off w0 w6 bm pp N vt vr g := by
  have hpp := (Array.getElem?_eq_some_iff.1 h.px).1
  exact ⟨Nat.le_trans h.bel.size hg.1, hg.2, fun n => by have := h.bl.bw.blob.lt.2 g n; omega, fun e => by have := h.bl.bw.id.lt.2; omega, fun e => by omega, fun e => by have := (h.ot.lt e).2.1; omega, fun e => by have := (h.orr.lt e).2.1; omega⟩
end
theorem manifest11_any (w : World) (pw pb p bm pp : Nat) (N : Nat → Prop) (S : List Txt) (T : List Ent) (Lc : List (List FileD)) (K : Nat) (l : List FileD) (hwb : WBox w pw pb p pp) (hbl : BL w pb p bm N S T Lc K) (hK : K ≤ 100000) (hl : LiveS S l) :
    Calls Tryz.prog 44 #[.pointer (some ⟨pw, 0, none⟩), .string ⟨(mkT S l).toArray⟩] w fun e w' => ∃ g, (g = if 1 ≤ cntE S T (mfS S l) then mfS S l else []) ∧ e = .returned (.string ⟨g.toArray⟩) ∧ Below w.heap.size w w' := by
  have GT := Lib.hid (blGet_any w pb p bm N S T Lc K (mfS S l) hbl hK hl.man)
  have c0 := hwb.c0
  clear hbl hl
  unfold mkT
  generalize mkS S (mfS S l) = mk at *
  obtain ⟨gf, hgf⟩ : ∃ g : Txt, g = if 1 ≤ cntE S T (mfS S l) then mfS S l else [] := ⟨_, rfl⟩
  rw [← hgf]
  have HGF := Lib.hid hgf
  clear hgf
  go_enter Tryz.func44, Tryz.ntmps44
  go_wp2_with fail
  refine GT.out.mono ?_
  rintro e w2 ⟨g, hg, rfl, hb⟩
  have eg : g.1 = gf := by rw [HGF.out, hg]; split <;> rfl
  obtain ⟨g1, g2⟩ := g
  dsimp only at eg
  subst eg
  clear hg
  go_wp2_with fail
  go_ret
  exact ⟨_, rfl, rfl, hb⟩
end Go.Proofs.YtamiacmnobklaaaGreatDoor
/- Stage 11's laws: free. -/
set_option linter.unusedVariables false
namespace Go.Proofs.YtamiacmnobklaaaGreatDoor
open Go.RowKit

def OpB.agg (x : OpB) : Value := .agg #[.int .i64 x.kind, .int .i64 x.n, .string ⟨x.text.toArray⟩, .slice x.fa x.files.length x.fc]
/-- Nothing is taken away that a root needs. -/
def freeB (S : List Txt) (Rs : List RootD) (o : OpB) : Prop := o.kind = 1 → ∀ r ∈ Rs, r.is = true → cutT o.text ∉ occS S r.l
def FreeV (S : List Txt) (Rs : List RootD) (o : OpB) (v : Value) : Prop := ∃ b : Bool, v = .bool b ∧ (b = true ↔ freeB S Rs o)
theorem occ_no {S : List Txt} {l : List FileD} {s : Txt} : s ∉ occS S l ↔ mfS S l ≠ s ∧ ∀ x ∈ l, x.data ≠ s := by
  unfold occS
  rw [List.mem_cons, not_or]
  constructor
  · rintro ⟨a, b⟩
    exact ⟨fun e => a e.symm, fun x hx e => b (List.mem_map.2 ⟨x, hx, e⟩)⟩
  · rintro ⟨a, b⟩
    exact ⟨fun e => a e.symm, fun c => by obtain ⟨x, hx, e⟩ := List.mem_map.1 c; exact b x hx e⟩
set_option maxRecDepth 100000 in
set_option maxHeartbeats 2000000 in
theorem free_any (w0 w : World) (pw pb p bm pp : Nat) (N F : Nat → Prop) (S : List Txt) (T : List Ent) (Lc : List (List FileD)) (P : List (Txt × Int)) (Rs : List RootD) (vt vr : Value) (K : Nat) (o : OpB) (h : PW w0 w pw pb p bm pp N F S T Lc P Rs vt vr K) (hK : K ≤ 100000) (hlv : ∀ r ∈ Rs, r.is = true → r.l ∈ Lc) (hR : Rs.length ≤ 100000) (ho : o.text.length ≤ 140737488351232) (hk : -9223372036854775808 ≤ o.kind ∧ o.kind ≤ 9223372036854775807) (hl : ∀ r ∈ Rs, r.l.length ≤ 12) :
    Calls Tryz.prog 18 #[.pointer (some ⟨pw, 0, none⟩), o.agg] w fun e w' => ∃ v, e = .returned v ∧ FreeV S Rs o v ∧ Below w.heap.size w w' := by
  obtain ⟨ok, on, ot, oa, oc, of⟩ := o
  unfold OpB.agg
  dsimp only at ho hk ⊢
  go_enter Tryz.func18, Tryz.ntmps18
  have hbx := heap_alloc_new w (.cells #[.int .i64 ok, .int .i64 on, .string ⟨ot.toArray⟩, .slice oa of.length oc] 28)
  have hbA : Below w.heap.size w (w.alloc (.cells #[.int .i64 ok, .int .i64 on, .string ⟨ot.toArray⟩, .slice oa of.length oc] 28)) := (Below.refl _ w).alloc (Nat.le_refl _) _
  by_cases h1 : ok = 1
  · subst h1
    have HE := Lib.hid (h.new hbA)
    have HB := Lib.hid hbA
    have HLV := Lib.hid hlv
    have HLN := Lib.hid hl
    clear h hlv hbA hl
    have CT := Lib.hid (fun X => cutB_any ot X ho)
    obtain ⟨s, hs⟩ : ∃ s, s = cutT ot := ⟨_, rfl⟩
    rw [← hs] at CT
    have HS := Lib.hid hs
    clear hs ho
    go_wp2_with fail
    generalize w.alloc (.cells #[.int .i64 1, .int .i64 on, .string ⟨ot.toArray⟩, .slice oa of.length oc] 28) = wA at *
    refine (CT.out _).mono ?_
    rintro e w2 ⟨rfl, rfl⟩
    clear CT hbx
    go_wp2_with fail
    go_loopw [6] (fun v6 wr => ∃ (i : Nat), i ≤ Rs.length ∧ v6 = .int .i64 (i : Nat) ∧ Below wA.heap.size wA wr ∧ (∀ r ∈ Rs.take i, r.is = true → s ∉ occS S r.l)) (fun v6 _ => Rs.length - (intOf v6).toNat)
    case atStart => exact ⟨0, Nat.zero_le _, rfl, Below.refl _ _, fun r hr => by simp at hr⟩
    case round =>
      obtain ⟨i, hi, rfl, hb, hno⟩ := hrel
      have HE2 := Lib.hid (HE.out.new hb)
      have HB2 := Lib.hid (HB.out.trans (hb.mono HB.out.size))
      have HBR := Lib.hid hb
      have HNO := Lib.hid hno
      clear hb hno
      have c2 := HE2.out.wb.c2
      have x1 := HE2.out.px.c1
      have hrow := OwnN.row encR_ok HE2.out.orr
      obtain ⟨ra, rc, hvr, _⟩ := hrow.slice
      have HRO := Lib.hid hrow
      rw [hvr] at x1 HRO
      clear hrow
      by_cases hlt : i < Rs.length
      · have j1 : (i : Int) < (Rs.length : Int) := by omega
        have i0 : (0 : Int) ≤ (i : Int) := by omega
        obtain ⟨g, o, c', hv, hn, hel⟩ := HRO.out.at hlt
        injection hv with ea eb ec
        subst ea; subst ec
        clear eb
        have hrm := List.getElem_mem hlt
        have HTK := Lib.hid (show Rs.take (i + 1) = Rs.take i ++ [Rs[i]] from by rw [List.take_succ_eq_append_getElem hlt])
        have HMK := Lib.hid (HE2.out.mks _ hrm)
        have HRW := Lib.hid (HE2.out.rows _ hrm)
        have HLI := Lib.hid (HLV.out _ hrm)
        have HLL := Lib.hid (HLN.out _ hrm)
        have HRM := Lib.hid hrm
        clear hrm
        generalize Rs[i] = r at *
        obtain ⟨a, c, l, m, is⟩ := r
        dsimp only [RootD.fv] at HMK HRW HLI HLL
        have d0 := hel 0 _ rfl
        have d1 := hel 1 _ rfl
        have d2 := hel 2 _ rfl
        rw [Nat.add_zero] at d0
        dsimp only at d0 d1 d2
        clear hel
        cases is with
        | false =>
          go_wp2_with fail
          go_roundw
          case rel =>
            refine ⟨i + 1, hlt, by go_num, HBR.out, fun r hr => ?_⟩
            rw [HTK.out] at hr
            rcases List.mem_append.1 hr with c | c
            · exact HNO.out r c
            · rw [List.mem_singleton.1 c]; intro e; cases e
          case measure => simp [intOf]; omega
        | true =>
          go_wp2_with fail
          have hm := HMK.out.1
          subst hm
          have MT := Lib.hid (manifest11_any wr pw pb p bm pp N S T Lc K l HE2.out.wb HE2.out.bl hK HMK.out.2)
          have hc1 : 1 ≤ cntE S T (mfS S l) := Nat.le_trans (List.one_le_count_iff.2 (needS_in (HLI.out trivial) (by simp [occS]))) (HE2.out.bl.need _)
          rw [if_pos hc1] at MT
          clear hc1
          obtain ⟨mf, hmf⟩ : ∃ mf, mf = mfS S l := ⟨_, rfl⟩
          rw [← hmf] at MT
          have HMF := Lib.hid hmf
          generalize mkT S l = mk at *
          clear hmf
          refine MT.out.mono ?_
          rintro e w3 ⟨g0, hg0, rfl, hb3⟩
          rw [hg0]
          clear hg0 g0
          have HE3 := Lib.hid (HE2.out.new hb3)
          have HB3 := Lib.hid (HB2.out.trans (hb3.mono HB2.out.size))
          have HBR3 := Lib.hid (HBR.out.trans (hb3.mono HBR.out.size))
          have HRO3 := Lib.hid (HRO.out.keep hb3)
          have HRW3 := Lib.hid (HRW.out.keep hb3)
          have c2' := (hb3.cell (p := ⟨pw, 2, none⟩) (World.block_lt_of_cell? wr _ c2)).trans c2
          have x1' := (hb3.cell (p := ⟨pp, 1, none⟩) (World.block_lt_of_cell? wr _ x1)).trans x1
          have d0' := (hb3.cell (p := ⟨g, o + i * 3, none⟩) (World.block_lt_of_cell? wr _ d0)).trans d0
          clear hb3 MT HE2 HB2 HRO HRW HBR c2 x1 d0 d1 d2
          by_cases hq : mf = s
          · have HQ := Lib.hid hq
            have q2 : (mf == s) = true := by simp [hq]
            go_wp2_with fail
            go_ret
            refine ⟨_, rfl, ⟨false, rfl, ?_⟩, HB3.out⟩
            simp only [Bool.false_eq_true, false_iff]
            intro hall
            refine (occ_no.1 (hall rfl _ HRM.out rfl)).1 ?_
            dsimp only
            rw [← HMF.out, HQ.out, HS.out]
          · have HQ := Lib.hid hq
            have q2 : (mf == s) = false := by simp [hq]
            go_wp2_with fail
            go_loopw [7] (fun v7 wr => ∃ (k : Nat), k ≤ l.length ∧ v7 = .int .i64 (k : Nat) ∧ w3 = wr ∧ ∀ x ∈ l.take k, x.data ≠ s) (fun v7 _ => l.length - (intOf v7).toNat)
            case atStart => exact ⟨0, Nat.zero_le _, rfl, rfl, fun r hr => by simp at hr⟩
            case round =>
              have hll := HLL.out
              obtain ⟨k, hk', rfl, rfl, hno⟩ := hrel
              have HNK := Lib.hid hno
              clear hno
              by_cases hlk : k < l.length
              · have j2 : (k : Int) < (l.length : Int) := by omega
                have k0 : (0 : Int) ≤ (k : Int) := by omega
                obtain ⟨gf, of', cf, hvf, hnf, helf⟩ := HRW3.out.at hlk
                injection hvf with ea eb ec
                subst ea; subst ec
                clear eb
                have HTL := Lib.hid (show l.take (k + 1) = l.take k ++ [l[k]] from by rw [List.take_succ_eq_append_getElem hlk])
                have HXM := Lib.hid (List.getElem_mem hlk)
                generalize l[k] = x at *
                obtain ⟨xp, xm, xd⟩ := x
                have f2 := helf 2 _ rfl
                dsimp only at f2
                clear helf
                by_cases hxd : xd = s
                · have HXD := Lib.hid hxd
                  have q3 : (xd == s) = true := by simp [hxd]
                  go_wp2_with fail
                  go_ret
                  refine ⟨_, rfl, ⟨false, rfl, ?_⟩, HB3.out⟩
                  simp only [Bool.false_eq_true, false_iff]
                  intro hall
                  refine (occ_no.1 (hall rfl _ HRM.out rfl)).2 _ HXM.out ?_
                  dsimp only
                  rw [HXD.out, HS.out]
                · have HXD := Lib.hid hxd
                  have q3 : (xd == s) = false := by simp [hxd]
                  go_wp2_with fail
                  go_roundw
                  case rel =>
                    refine ⟨k + 1, hlk, by go_num, trivial, fun y hy => ?_⟩
                    rw [HTL.out] at hy
                    rcases List.mem_append.1 hy with c | c
                    · exact HNK.out y c
                    · rw [List.mem_singleton.1 c]; exact HXD.out
                  case measure => simp [intOf]; omega
              · have j2 : ¬ (k : Int) < (l.length : Int) := by omega
                have HNL := Lib.hid (show ∀ x ∈ l, x.data ≠ s from fun x hx => HNK.out x (by rw [List.take_of_length_le (by omega)]; exact hx))
                go_wp2_with fail
                go_roundw
                case rel =>
                  refine ⟨i + 1, hlt, by go_num, HBR3.out, fun r hr => ?_⟩
                  rw [HTK.out] at hr
                  rcases List.mem_append.1 hr with c | c
                  · exact HNO.out r c
                  · rw [List.mem_singleton.1 c]
                    intro _
                    refine occ_no.2 ⟨?_, HNL.out⟩
                    dsimp only
                    rw [← HMF.out]
                    exact HQ.out
                case measure => simp [intOf]; omega
      · have j1 : ¬ (i : Int) < (Rs.length : Int) := by omega
        go_wp2_with fail
        go_ret
        refine ⟨_, rfl, ⟨true, rfl, ?_⟩, HB2.out⟩
        simp only [true_iff]
        intro _ r hr
        dsimp only
        rw [← HS.out]
        exact HNO.out r (by rw [List.take_of_length_le (by omega)]; exact hr)
  · have q1 : (ok != 1) = true := by simp [h1]
    go_wp2_with fail
    go_ret
    exact ⟨_, rfl, ⟨true, rfl, by simp [freeB, h1]⟩, hbA⟩
end Go.Proofs.YtamiacmnobklaaaGreatDoor
/- A root more in the plain model: what a region that draws is told. -/
set_option linter.unusedVariables false
namespace Go.Proofs.YtamiacmnobklaaaGreatDoor
open Go.RowKit

theorem RowN.inP {α : Type} {enc : α → List Value} {k : Nat} {N : Nat → Prop} {w : World} {v : Value} {xs : List α} (hE : EncN enc k) (hk : 0 < k) (h : RowN enc k N w v xs) : RowN enc k (fun g => N g ∧ g < w.heap.size) w v xs := by
  obtain ⟨a, c, rfl, hl, hc⟩ := h
  refine ⟨a, c, rfl, hl, fun i hi => ?_⟩
  obtain ⟨g, o, rfl, hn, hx⟩ := hc i hi
  refine ⟨g, o, rfl, ⟨hn, ?_⟩, hx⟩
  have hlen : 0 < (enc xs[i]).length := by rw [hE.len]; exact hk
  exact World.block_lt_of_cell? w _ (hx 0 _ (List.getElem?_eq_getElem hlen))
/-- A region whose orders all end alike: what follows is walked once. -/
theorem region_once {α β : Type} {P : Program} {c : Code} {Q : Exit → Act → World → Prop} {a : Act} {w : World} (A : α → β → Act) (F : α → β → World → Prop) (h : c.wp P (Exit.then (fun a' w' => ∃ x y, F x y w' ∧ a' = A x y) Q) a w)
    (hk : ∀ x y w', F x y w' → Q .normal (A x y) w') : c.wp P Q a w :=
  wp_mono h (fun e a w hh => by
    cases e with
    | normal => obtain ⟨x, y, hf, rfl⟩ := hh; exact hk x y w hf
    | _ => exact hh)
theorem region_once0 {P : Program} {c : Code} {Q : Exit → Act → World → Prop} {a : Act} {w : World} (A : Act) (F : World → Prop) (h : c.wp P (Exit.then (fun a' w' => F w' ∧ a' = A) Q) a w)
    (hk : ∀ w', F w' → Q .normal A w') : c.wp P Q a w :=
  wp_mono h (fun e a w hh => by
    cases e with
    | normal => obtain ⟨hf, rfl⟩ := hh; exact hk w hf
    | _ => exact hh)
theorem region_once1 {α : Type} {P : Program} {c : Code} {Q : Exit → Act → World → Prop} {a : Act} {w : World} (A : α → Act) (F : α → World → Prop) (h : c.wp P (Exit.then (fun a' w' => ∃ x, F x w' ∧ a' = A x) Q) a w)
    (hk : ∀ x w', F x w' → Q .normal (A x) w') : c.wp P Q a w :=
  wp_mono h (fun e a w hh => by
    cases e with
    | normal => obtain ⟨x, hf, rfl⟩ := hh; exact hk x w hf
    | _ => exact hh)
theorem region_once4 {α β γ δ : Type} {P : Program} {c : Code} {Q : Exit → Act → World → Prop} {a : Act} {w : World} (A : α → β → γ → δ → Act) (F : α → β → γ → δ → World → Prop) (h : c.wp P (Exit.then (fun a' w' => ∃ x y g cc, F x y g cc w' ∧ a' = A x y g cc) Q) a w)
    (hk : ∀ x y g cc w', F x y g cc w' → Q .normal (A x y g cc) w') : c.wp P Q a w :=
  wp_mono h (fun e a w hh => by
    cases e with
    | normal => obtain ⟨x, y, g, cc, hf, rfl⟩ := hh; exact hk x y g cc w hf
    | _ => exact hh)
theorem region_once5 {α β γ δ ε : Type} {P : Program} {c : Code} {Q : Exit → Act → World → Prop} {a : Act} {w : World} (A : α → β → γ → δ → ε → Act) (F : α → β → γ → δ → ε → World → Prop) (h : c.wp P (Exit.then (fun a' w' => ∃ x y g cc q, F x y g cc q w' ∧ a' = A x y g cc q) Q) a w)
    (hk : ∀ x y g cc q w', F x y g cc q w' → Q .normal (A x y g cc q) w') : c.wp P Q a w :=
  wp_mono h (fun e a w hh => by
    cases e with
    | normal => obtain ⟨x, y, g, cc, q, hf, rfl⟩ := hh; exact hk x y g cc q w hf
    | _ => exact hh)
theorem live_all (k : List FileD) : ∀ {S : List Txt} {l : List FileD}, LiveS S l → LiveS (markAll S k) l ∧ mkT (markAll S k) l = mkT S l := by
  induction k with
  | nil => exact fun h => ⟨h, rfl⟩
  | cons x r ih =>
    intro S l h
    rw [markAll_cons]
    obtain ⟨a, b⟩ := ih (h.mark x.data)
    exact ⟨a, b.trans (mkT_mark _ h)⟩
theorem live_save (k : List FileD) {S : List Txt} {l : List FileD} (h : LiveS S l) : LiveS (saveS S k) l ∧ mkT (saveS S k) l = mkT S l := by
  obtain ⟨a, b⟩ := live_all k h
  exact ⟨a.mark _, (mkT_mark _ a).trans b⟩
theorem PW.mks_save {w0 w : World} {pw pb p bm pp : Nat} {N F : Nat → Prop} {S : List Txt} {T : List Ent} {Lc : List (List FileD)} {P : List (Txt × Int)} {Rs : List RootD} {vt vr : Value} {K : Nat} (h : PW w0 w pw pb p bm pp N F S T Lc P Rs vt vr K) (k : List FileD) : ∀ r ∈ Rs, r.m = mkT (saveS S k) r.l ∧ LiveS (saveS S k) r.l := fun r hr => by
  obtain ⟨a, b⟩ := h.mks r hr
  obtain ⟨c, d⟩ := live_save k b
  exact ⟨a.trans d.symm, c⟩
theorem PW.mks_mark {w0 w : World} {pw pb p bm pp : Nat} {N F : Nat → Prop} {S : List Txt} {T : List Ent} {Lc : List (List FileD)} {P : List (Txt × Int)} {Rs : List RootD} {vt vr : Value} {K : Nat} (h : PW w0 w pw pb p bm pp N F S T Lc P Rs vt vr K) (s : Txt) : ∀ r ∈ Rs, r.m = mkT (markS S s) r.l ∧ LiveS (markS S s) r.l := fun r hr => by
  obtain ⟨a, b⟩ := h.mks r hr
  exact ⟨a.trans (mkT_mark _ b).symm, b.mark _⟩
theorem info_root : (Tryz.prog.info? 46).map (fun i => (i.zero, i.size, i.bytes)) = some (some (.agg #[.slice none 0 0, .string ByteArray.empty, .bool false]), 3, 48) := by kernel_rfl
section
variable {w0 w w' : World} {pw pb p bm pp : Nat} {N N' F : Nat → Prop} {S S' : List Txt} {T T' : List Ent} {Lc Lc' : List (List FileD)} {P : List (Txt × Int)} {Rs : List RootD} {vt vr : Value} {K K' : Nat}
theorem PW.addF (h : PW w0 w pw pb p bm pp N F S T Lc P Rs vt vr K) {G : Nat → Prop} (hG : ∀ g, G g → Off w0 w bm pp N vt vr g) : PW w0 w pw pb p bm pp N (fun g => F g ∨ G g) S T Lc P Rs vt vr K :=
  ⟨h.bl, h.wb, h.px, h.ot, h.orr, fun r hr => (h.rows r hr).mono (fun g hg => .inl hg), h.mks, fun g hg => by rcases hg with c | c; exact h.ff g c; exact hG g c, h.dt, h.dr, h.nn, h.nw, h.np, h.bmw, h.bmp, h.lo, h.lp, h.bel⟩
theorem PW.next (h : PW w0 w pw pb p bm pp N F S T Lc P Rs vt vr K) {w6 : World} {r : RootD} {G : Nat → Prop} (hb : Below w.heap.size w w6) (hr : RowN encF 3 G w6 r.fv r.l) (hG : ∀ g, G g → Off w0 w6 bm pp N vt vr g) (hmk : r.m = mkT S r.l ∧ LiveS S r.l) :
    w6.cell? ⟨pw, 2, none⟩ = some (.pointer (some ⟨pp, 0, none⟩)) ∧ w6.cell? ⟨pp, 1, none⟩ = some vr ∧
    (w6.alloc (.cells #[.slice r.a r.l.length r.c, .string ⟨r.m.toArray⟩, .bool r.is] 46)).cell? ⟨pw, 2, none⟩ = some (.pointer (some ⟨pp, 0, none⟩)) ∧ (w6.alloc (.cells #[.slice r.a r.l.length r.c, .string ⟨r.m.toArray⟩, .bool r.is] 46)).cell? ⟨pp, 1, none⟩ = some vr ∧
    Hid (OwnN encR 3 (w6.alloc (.cells #[.slice r.a r.l.length r.c, .string ⟨r.m.toArray⟩, .bool r.is] 46)) w0.heap.size 46 vr Rs) ∧
    Hid (ElAt encR (w6.alloc (.cells #[.slice r.a r.l.length r.c, .string ⟨r.m.toArray⟩, .bool r.is] 46)) w6.heap.size 0 r) ∧
    Hid (w0.heap.size ≤ (w6.alloc (.cells #[.slice r.a r.l.length r.c, .string ⟨r.m.toArray⟩, .bool r.is] 46)).heap.size) ∧
    Hid (∀ (v7 : Value) (w7 : World), OwnN encR 3 w7 w0.heap.size 46 v7 (Rs ++ [r]) → TurnN w0.heap.size (w6.alloc (.cells #[.slice r.a r.l.length r.c, .string ⟨r.m.toArray⟩, .bool r.is] 46)) vr w7 v7 →
      w7.cell? ⟨pw, 2, none⟩ = some (.pointer (some ⟨pp, 0, none⟩)) ∧ w7.frozen? ⟨pp, 1, none⟩ = false ∧ (∃ u, w7.cell? ⟨pp, 1, none⟩ = some u) ∧ Hid (PW w0 (w7.setCell ⟨pp, 1, none⟩ v7) pw pb p bm pp N (fun g => F g ∨ G g) S T Lc P (Rs ++ [r]) vt v7 K)) := by
  have h6 := h.new hb
  have hal : Below w6.heap.size w6 (w6.alloc (.cells #[.slice r.a r.l.length r.c, .string ⟨r.m.toArray⟩, .bool r.is] 46)) := (Below.refl _ w6).alloc (Nat.le_refl _) _
  have h7 := h6.new hal
  refine ⟨h6.wb.c2, h6.px.c1, h7.wb.c2, h7.px.c1, Lib.hid h7.orr, Lib.hid (fun i u hu => ?_), Lib.hid h7.bel.size, Lib.hid (fun v7 w7 ho ht => ?_)⟩
  · rw [cell_of_row _ _ _ _ _ _ (heap_alloc_new _ _), Nat.zero_add, List.getElem?_toArray]
    exact hu
  · have hG7 : ∀ g, G g → Off w0 (w6.alloc (.cells #[.slice r.a r.l.length r.c, .string ⟨r.m.toArray⟩, .bool r.is] 46)) bm pp N vt vr g := fun g hg =>
      ⟨(hG g hg).lo, Nat.lt_of_lt_of_le (hG g hg).lt hal.size, (hG g hg).n, (hG g hg).bm, (hG g hg).pp, (hG g hg).t, (hG g hg).r⟩
    obtain ⟨a0, a, b, c⟩ := h.root (hb.trans (hal.mono hb.size)) (hr.keep hal) hG7 hmk ho ht
    exact ⟨a0, a, b, Lib.hid c⟩
theorem PW.fewRow (h : PW w0 w pw pb p bm pp N F S T Lc P Rs vt vr K) {w6 : World} {v : Value} {l : List FileD} (hb : Below w.heap.size w w6) (ho : OwnN encF 3 w6 w.heap.size 80 v l) :
    RowN encF 3 (fun g => w.heap.size ≤ g ∧ g < w6.heap.size) w6 v l ∧ (∀ g, (w.heap.size ≤ g ∧ g < w6.heap.size) → Off w0 w6 bm pp N vt vr g) ∧ PW w0 w6 pw pb p bm pp N F S T Lc P Rs vt vr K :=
  ⟨RowN.inP encF_ok (by decide) (OwnN.row encF_ok ho), h.fresh_rows hb, h.new hb⟩
end
end Go.Proofs.YtamiacmnobklaaaGreatDoor

/- Several texts in one: BlobPTextW, BlobGoneW, BlobFgtW. -/
import Derived.Test.YtamiacmnobklaaaGreatDoorArX
import Derived.Test.YtamiacmnobklaaaGreatDoorBldShelf
import Derived.Test.YtamiacmnobklaaaGreatDoorP2X
import Derived.Test.YtamiacmnobklaaaGreatDoorLwX
import Derived.Test.YtamiacmnobklaaaGreatDoorP1X
import Derived.Test.YtamiacmnobklaaaGreatDoorB2X
import Derived.Test.YtamiacmnobklaaaGreatDoorB1X
import Derived.Test.YtamiacmnobklaaaGreatDoorBlobPSaveW
import Derived.Test.YtamiacmnobklaaaGreatDoorFrame
import Derived.Test.YtamiacmnobklaaaGreatDoorGen
import Derived.Test.YtamiacmnobklaaaGreatDoorFtX
import Derived.Test.YtamiacmnobklaaaGreatDoorMarkMath
import Derived.Test.YtamiacmnobklaaaGreatDoorOwnL
import Derived.Test.YtamiacmnobklaaaGreatDoorProg
import Derived.Test.YtamiacmnobklaaaGreatDoorRiX
import Derived.Test.YtamiacmnobklaaaGreatDoorCdX
import Derived.Test.YtamiacmnobklaaaGreatDoorRowN
import Derived.Test.YtamiacmnobklaaaGreatDoorRows
import Derived.Test.YtamiacmnobklaaaGreatDoorShelf
import Derived.Test.YtamiacmnobklaaaGreatDoorSoX
import Derived.Test.YtamiacmnobklaaaGreatDoorTreeMath
import Derived.BigQuiet
import Derived.BigRegion
import Derived.Deep.AppendLies
import Derived.Deep.Cut
import Derived.Deep.CutBlock
import Derived.Deep.CutRange
import Derived.Deep.DeepCutAuto
import Derived.Deep.QuietTactic
import Derived.Deep.RegionHeld
import Derived.Deep.RegionLaw
import Derived.Deep.Slices
import Derived.Deep.Strs
import Derived.IntWalk
import Derived.Laws.BitsAllLaws
import Derived.Laws.Externs
import Derived.Laws.IdiomStrings
import Derived.Laws.OwnMore
import Derived.Laws.RangeAny
import Derived.Laws.Rows
import Derived.Laws.Tables
import Derived.Lib.AppendStr
import Derived.Lib.Builder
import Derived.Lib.Hide
import Derived.Lib.SlicesS
import Derived.Lib.SmallJoins
import Derived.Lib.Strings
import Derived.Lib.Walk
import Derived.LoopIn
import Derived.LoopNIn
import Derived.LoopTactic
import Derived.Maps.OwnOps
import Derived.Maps.OwnSet
import Derived.Maps.RangeWalk
import Derived.Maps.Views
import Derived.Outline
import Derived.OwnWalkIn
import Derived.RangeFuncBound
import Derived.RangeFuncCalls
import Derived.RangeFuncLeaves
import Derived.RangeFuncNested
import Derived.Shelf.Abstract
import Derived.Shelf.RegionOpen
import Derived.Shelf.Strings.SplitCore
import Derived.Sort.OwnSorted
import Derived.StillTail
import Derived.StillTailTactics
import Derived.TacticsInMore
import Derived.WalkKit
import Derived.WalkLawsBesides
import Derived.WalkSpells
import Derived.Test.YtamiacmnobklaaaGreatDoorBookW
import Derived.Test.YtamiacmnobklaaaGreatDoorPtX
import Derived.Test.YtamiacmnobklaaaGreatDoorPthX
import Derived.Test.YtamiacmnobklaaaGreatDoorRefMatchW9
import Derived.Test.YtamiacmnobklaaaGreatDoorRefReadW
import Derived.Test.YtamiacmnobklaaaGreatDoorTmX
/- Stage 11's laws: world.text, told by what stands between two calls. -/
set_option linter.unusedVariables false
namespace Go.Proofs.YtamiacmnobklaaaGreatDoor
open Go.RowKit

theorem textS_any (w0 w : World) (pw pb p bm pp : Nat) (N F : Nat → Prop) (S : List Txt) (T : List Ent) (Lc : List (List FileD)) (P : List (Txt × Int)) (Rs : List RootD) (vt vr : Value) (K : Nat) (J : Int) (o : OpB) (h : PW w0 w pw pb p bm pp N F S T Lc P Rs vt vr K) (hst : Stand S T Lc P Rs J) (hJ : 0 ≤ J ∧ J ≤ 100000) (hK : K ≤ 40000) (hP : P.length ≤ 40000) (ho : o.text.length ≤ 140737488351232) (hfr : o.kind = 1 → (needS S Lc).count (cutT o.text) = 0) :
    Calls Tryz.prog 34 #[.pointer (some ⟨pw, 0, none⟩), o.agg] w fun e w' => e = .returned (.bool true) ∧ ∃ N' S' T' P' vt', PW w0 w' pw pb p bm pp N' F S' T' Lc P' Rs vt' vr (K + 1) ∧ Stand S' T' Lc P' Rs (J + 1) ∧ P'.length ≤ P.length + 1 := by
  refine (text11_any w0 w pw pb p bm pp N F S T Lc P Rs vt vr K J o h hst.rel hst.inj (by omega) (by omega) (by omega) ho hfr).mono ?_
  rintro e w' ⟨rfl, N', S', T', P', vt', h1, h2, h3, h4, h5⟩
  refine ⟨rfl, N', S', T', P', vt', h1, ⟨h2, h3, ?_, ?_, hst.lv⟩, h4⟩
  · rcases h5 with c | ⟨n, c⟩
    · rw [c]; exact hst.nd
    · rw [c]; exact (addL_keys P _ n hst.nd).1
  · rcases h5 with c | ⟨n, c⟩
    · rw [c]; exact hst.ln
    · rw [c]
      intro u hu
      rcases ((addL_keys P _ n hst.nd).2 u).1 hu with d | d
      · exact hst.ln u d
      · rw [d]
        have := cutT_len o.text
        omega
/-- What free tells: nothing that a root needs is dropped. -/
theorem free_count {S : List Txt} {T : List Ent} {Lc : List (List FileD)} {P : List (Txt × Int)} {Rs : List RootD} {J : Int} (hst : Stand S T Lc P Rs J) {o : OpB} (hf : freeB S Rs o) : o.kind = 1 → (needS S Lc).count (cutT o.text) = 0 := fun hk => by
  rw [List.count_eq_zero]
  intro hm
  obtain ⟨l, hl, hs⟩ := List.mem_flatMap.1 hm
  rw [← hst.lv] at hl
  obtain ⟨r, hr, rfl⟩ := List.mem_map.1 hl
  exact hf hk r (List.mem_filter.1 hr).1 (List.mem_filter.1 hr).2 hs
end Go.Proofs.YtamiacmnobklaaaGreatDoor
/- The plain model: a root's mark of being is turned in place. -/
set_option linter.unusedVariables false
namespace Go.Proofs.YtamiacmnobklaaaGreatDoor
open Go.RowKit

/-- The roots' own block is turned in place; each root has its list and its mark as one had. -/
theorem PW.putR {w0 w w' : World} {pw pb p bm pp : Nat} {N F : Nat → Prop} {S : List Txt} {T : List Ent} {Lc : List (List FileD)} {P : List (Txt × Int)} {Rs Rs' : List RootD} {vt vr : Value} {K : Nat} (h : PW w0 w pw pb p bm pp N F S T Lc P Rs vt vr K) (hk : Kept (fun k => vr.ownBlock = some k) w w') (ho : OwnN encR 3 w' w0.heap.size 46 vr Rs') (hm : ∀ r ∈ Rs', ∃ r0 ∈ Rs, r.a = r0.a ∧ r.c = r0.c ∧ r.l = r0.l ∧ r.m = r0.m) : PW w0 w' pw pb p bm pp N F S T Lc P Rs' vt vr K := by
  have tr : ∀ g, vr.ownBlock = some g → ∃ cur, w.heap[g]? = some (.cells cur 46 (0, 0)) := fun g hg => (h.orr.lt hg).2.2
  have tt : ∀ g, vt.ownBlock = some g → ∃ cur, w.heap[g]? = some (.cells cur 69 (0, 0)) := fun g hg => (h.ot.lt hg).2.2
  have hbk := h.bl.bw.id.book
  unfold BookAt at hbk
  have hpx := h.px
  have hwb := h.wb
  unfold PBox at hpx
  unfold WBox at hwb
  have n1 : ¬ vr.ownBlock = some pp := fun e => by obtain ⟨c, hc⟩ := tr _ e; exact block_ne hc hpx (by decide) rfl
  have n2 : ¬ vr.ownBlock = some p := fun e => by obtain ⟨c, hc⟩ := tr _ e; exact block_ne hc hbk (by decide) rfl
  have n3 : ¬ vr.ownBlock = some pw := fun e => by obtain ⟨c, hc⟩ := tr _ e; exact block_ne hc hwb (by decide) rfl
  have n4 : ∀ g, vt.ownBlock = some g → ¬ vr.ownBlock = some g := fun g hg e => by obtain ⟨c, hc⟩ := tt _ hg; obtain ⟨c', hc'⟩ := tr _ e; exact block_ne hc' hc (by decide) rfl
  refine ⟨h.bl.kept hk (fun g hg e => (h.dr g e).1 hg) n2 (fun e => (h.dr _ e).2 rfl), hk.old hwb n3, hk.old hpx n1, h.ot.kept hk n4, ho, fun r hr => ?_, fun r hr => ?_,
    fun g hg => ⟨(h.ff g hg).lo, Nat.lt_of_lt_of_le (h.ff g hg).lt hk.size, (h.ff g hg).n, (h.ff g hg).bm, (h.ff g hg).pp, (h.ff g hg).t, (h.ff g hg).r⟩, h.dt, h.dr, h.nn, h.nw, h.np, h.bmw, h.bmp, h.lo, h.lp,
    h.bel.trans (hk.below h.bel.size (fun k e => (h.orr.lt e).1))⟩
  · obtain ⟨r0, h0, e1, e2, e3, _⟩ := hm r hr
    have := (h.rows r0 h0).kept hk (fun g hg => (h.ff g hg).r)
    unfold RootD.fv at this ⊢
    rw [e1, e2, e3]
    exact this
  · obtain ⟨r0, h0, _, _, e3, e4⟩ := hm r hr
    rw [e3, e4]
    exact h.mks r0 h0
end Go.Proofs.YtamiacmnobklaaaGreatDoor
/- Stage 11's laws: Forget of a root's mark, told by the roots. -/
set_option linter.unusedVariables false
namespace Go.Proofs.YtamiacmnobklaaaGreatDoor
open Go.RowKit

/-- A root of that mark is still. -/
def Found (Rs : List RootD) (m : Txt) : Prop := ∃ r ∈ Rs, r.is = true ∧ r.m = m
theorem unRoot_at {Rs : List RootD} {m : Txt} : ∀ {i : Nat} (hi : i < Rs.length), (∀ r ∈ Rs.take i, ¬ (r.is = true ∧ r.m = m)) → Rs[i].is = true ∧ Rs[i].m = m → unRoot Rs m = Rs.set i Rs[i].gone := by
  induction Rs with
  | nil => intro i hi; simp at hi
  | cons r t ih =>
    intro i hi hno hy
    cases i with
    | zero =>
      rw [List.getElem_cons_zero] at hy
      unfold unRoot
      rw [if_pos hy]
      rfl
    | succ i =>
      rw [List.getElem_cons_succ] at hy
      unfold unRoot
      rw [if_neg (hno r (by simp)), ih (by simpa using hi) (fun x hx => hno x (by simp [hx])) hy]
      rfl
theorem liveR_mem {Rs : List RootD} {l : List FileD} : l ∈ liveR Rs ↔ ∃ r ∈ Rs, r.is = true ∧ r.l = l := by
  unfold liveR
  rw [List.mem_map]
  constructor
  · rintro ⟨r, hr, e⟩
    exact ⟨r, (List.mem_filter.1 hr).1, (List.mem_filter.1 hr).2, e⟩
  · rintro ⟨r, hr, h, e⟩
    exact ⟨r, List.mem_filter.2 ⟨hr, h⟩, e⟩
/-- What Forget leaves, told by the roots. -/
structure FgtR (w w' : World) (pb p bm : Nat) (N N' : Nat → Prop) (S : List Txt) (T T' : List Ent) (Lc Lc' : List (List FileD)) (Rs : List RootD) (l : List FileD) (K : Nat) (z : Int) : Prop where
  bl : BL w' pb p bm N' S T' Lc' K
  bt : BTurn w w' bm N N'
  yes : Found Rs (mkT S l) → z = 0 ∧ liveR (unRoot Rs (mkT S l)) = Lc' ∧ ∀ u, cntE S T' u = cntE S T u - (occS S l).count u ∧ (occS S l).count u ≤ cntE S T u
  no : ¬ Found Rs (mkT S l) → z = 8 ∧ Lc' = Lc ∧ T' = T
theorem forget_roots (w : World) (pb p bm : Nat) (N : Nat → Prop) (S : List Txt) (T : List Ent) (Lc : List (List FileD)) (Rs : List RootD) (K : Nat) (l : List FileD) (h : BL w pb p bm N S T Lc K) (hK : K ≤ 100000) (hl : LiveS S l) (hm : ∀ r ∈ Rs, r.m = mkT S r.l ∧ LiveS S r.l) (hlv : liveR Rs = Lc) :
    Calls Tryz.prog 31 #[.pointer (some ⟨pb, 0, none⟩), .string ⟨(mkT S l).toArray⟩] w fun e w' => ∃ z N' T' Lc', e = .returned (.int .i64 z) ∧ (z = 0 ∨ z = 8) ∧ FgtR w w' pb p bm N N' S T T' Lc Lc' Rs l K z := by
  have hsl := h.sl
  have hS : S.length ≤ 1000000 := by omega
  by_cases hf : Found Rs (mkT S l)
  · have hin : l ∈ Lc := by
      obtain ⟨r, hr, h1, h2⟩ := hf
      obtain ⟨h3, h4⟩ := hm r hr
      rw [← hlv, liveR_mem]
      exact ⟨r, hr, h1, mkT_inj hS h4 hl (h3.symm.trans h2)⟩
    refine (blForget_any w pb p bm N S T Lc K l h hK hin).mono ?_
    rintro e w' ⟨rfl, N', T', A, B, e1, e2, h1, h2, h3⟩
    refine ⟨0, N', T', A ++ B, rfl, .inl rfl, h1, h2, fun _ => ⟨rfl, unRoot_live hS hm hl (hlv.trans e1) (by rw [hlv]; exact e2), fun u => ⟨h3 u, ?_⟩⟩, fun c => absurd hf c⟩
    have h4 := h.need u
    rw [e1, need_split] at h4
    omega
  · have hno : mkT S l ∉ Lc.map (mkT S) := fun c => by
      obtain ⟨k, hk, e⟩ := List.mem_map.1 c
      rw [← hlv, liveR_mem] at hk
      obtain ⟨r, hr, h1, h2⟩ := hk
      exact hf ⟨r, hr, h1, by rw [(hm r hr).1, h2, e]⟩
    refine (bForget_no w pb p bm N S T _ (mkT S l) h.bw (by rw [List.length_map]; have := h.ll; omega) hno).mono ?_
    rintro e w' ⟨rfl, rfl⟩
    exact ⟨8, N, T, Lc, rfl, .inr rfl, h, BTurn.refl _ _ _, fun c => absurd c hf, fun _ => ⟨rfl, rfl, rfl⟩⟩
/-- The plain model behind a root's going. -/
theorem Stand.gone {S : List Txt} {T T' : List Ent} {Lc Lc' : List (List FileD)} {P : List (Txt × Int)} {Rs Rs' : List RootD} {J : Int} {l : List FileD} (h : Stand S T Lc P Rs J) (hJ : 0 ≤ J) (hl : l.length ≤ 12) (hc : ∀ u, cntE S T' u = cntE S T u - (occS S l).count u ∧ (occS S l).count u ≤ cntE S T u) (hlv : liveR Rs' = Lc') (hdl : ∀ x ∈ l, x.data.length ≤ 65536) (hml : (mfS S l).length ≤ 65536) :
    Stand S T' Lc' (addL (addAllL P l (-1)) (mfS S l) (-1)) Rs' (J + 13) := by
  have hij := InJ.addAll (n := -1) (by omega) l h.inj hJ
  obtain ⟨n1, n2⟩ := addAllL_keys (-1) l P h.nd
  obtain ⟨n3, n4⟩ := addL_keys (addAllL P l (-1)) (mfS S l) (-1) n1
  refine ⟨fun u => ?_, (hij.add (by omega) (s := mfS S l) (n := -1) (by omega)).mono (by omega), n3, fun u hu => ?_, hlv⟩
  · obtain ⟨h1, h2⟩ := hc u
    rw [refsL_add, refsL_addAll, h.rel u, h1]
    unfold occS at h2 ⊢
    rw [List.count_cons] at h2 ⊢
    by_cases e : u = mfS S l
    · rw [if_pos e]
      subst e
      simp at h2 ⊢
      omega
    · have hb : (mfS S l == u) = false := by rw [beq_eq_false_iff_ne]; exact fun c => e c.symm
      rw [if_neg e]
      rw [hb] at h2 ⊢
      simp at h2 ⊢
      omega
  · rcases (n4 u).1 hu with c | c
    · rcases (n2 u).1 c with d | d
      · exact h.ln u d
      · obtain ⟨x, hx, rfl⟩ := List.mem_map.1 d
        exact hdl x hx
    · rw [c]; exact hml
end Go.Proofs.YtamiacmnobklaaaGreatDoor

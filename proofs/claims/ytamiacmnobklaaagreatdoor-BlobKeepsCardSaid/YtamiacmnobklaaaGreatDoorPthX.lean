/- Several texts in one: PiecesW, RangeTW, NameTW, PathTW. -/
import Derived.Test.YtamiacmnobklaaaGreatDoorFrame
import Derived.Test.YtamiacmnobklaaaGreatDoorGen
import Derived.Test.YtamiacmnobklaaaGreatDoorMarkMath
import Derived.Test.YtamiacmnobklaaaGreatDoorOwnL
import Derived.Test.YtamiacmnobklaaaGreatDoorProg
import Derived.Test.YtamiacmnobklaaaGreatDoorCdX
import Derived.Test.YtamiacmnobklaaaGreatDoorRowN
import Derived.Test.YtamiacmnobklaaaGreatDoorRows
import Derived.Test.YtamiacmnobklaaaGreatDoorShelf
import Derived.Test.YtamiacmnobklaaaGreatDoorTreeMath
import Derived.BigQuiet
import Derived.Deep.RegionHeld
import Derived.Lib.Hide
import Derived.LoopIn
import Derived.LoopNIn
import Derived.OwnWalkIn
import Derived.RangeFuncBound
import Derived.RangeFuncCalls
import Derived.RangeFuncLeaves
import Derived.RangeFuncNested
import Derived.Shelf.Abstract
import Derived.Shelf.RegionOpen
import Derived.TacticsInMore
import Derived.WalkKit
import Derived.WalkLawsBesides
import Derived.WalkSpells
import Derived.Laws.RangeAny
import Derived.LoopTactic
/- The library's SplitSeq at a slash, walked: the pieces come one by one, whatever is done with them. -/
set_option linter.unusedVariables false
namespace Go.Proofs.YtamiacmnobklaaaGreatDoor
open Go.RowKit
attribute [local go_sem] Oper.semAt_some

theorem namesG_pre : ∀ (a cur r : Txt), (∀ c ∈ a, c ≠ 47) → namesG cur (a ++ r) = namesG (cur ++ a) r
  | [], cur, r, _ => by simp
  | c :: a, cur, r, h => by
    have hc : ¬ c = 47 := h c (by simp)
    have e : namesG cur (c :: (a ++ r)) = namesG (cur ++ [c]) (a ++ r) := by
      show (if c = 47 then _ else _) = _
      rw [if_neg hc]
    show namesG cur (c :: (a ++ r)) = _
    rw [e, namesG_pre a (cur ++ [c]) r (fun x hx => h x (by simp [hx])), List.append_assoc]; rfl
theorem names_none (u : Txt) (h : ∀ c ∈ u, c ≠ 47) : namesS u = [u] := by
  unfold namesS
  have := namesG_pre u [] [] h
  rw [List.append_nil, List.nil_append] at this
  rw [this]; rfl
theorem names_some (a r : Txt) (h : ∀ c ∈ a, c ≠ 47) : namesS (a ++ 47 :: r) = a :: namesS r := by
  unfold namesS
  rw [namesG_pre a [] (47 :: r) h, List.nil_append]
  show (if (47 : UInt8) = 47 then _ else _) = _
  rw [if_pos rfl]
theorem idx_none : ∀ u : Txt, (∀ c ∈ u, c ≠ 47) → Lib.indexByte u 47 = -1
  | [], _ => rfl
  | b :: l, h => by
    have hb : (b == 47) = false := beq_eq_false_iff_ne.2 (h b (by simp))
    unfold Lib.indexByte
    rw [idx_none l (fun c hc => h c (by simp [hc])), if_neg (by rw [hb]; decide)]
    rfl
theorem idx_some : ∀ (a r : Txt), (∀ c ∈ a, c ≠ 47) → Lib.indexByte (a ++ 47 :: r) 47 = (a.length : Int)
  | [], r, _ => by simp [Lib.indexByte]
  | b :: l, r, h => by
    have hb : (b == 47) = false := beq_eq_false_iff_ne.2 (h b (by simp))
    have ih := idx_some l r (fun c hc => h c (by simp [hc]))
    show (if b == 47 then (0 : Int) else if Lib.indexByte (l ++ 47 :: r) 47 == -1 then -1 else Lib.indexByte (l ++ 47 :: r) 47 + 1) = _
    rw [ih, if_neg (by rw [hb]; decide), if_neg (by rw [beq_iff_eq]; omega)]
    simp [List.length_cons]
theorem slash_cases : ∀ u : Txt, (∀ c ∈ u, c ≠ 47) ∨ ∃ a r, u = a ++ 47 :: r ∧ ∀ c ∈ a, c ≠ 47
  | [] => .inl (fun c h => by simp at h)
  | b :: l => by
    by_cases hb : b = 47
    · exact .inr ⟨[], l, by rw [hb]; rfl, fun c h => by simp at h⟩
    · rcases slash_cases l with h | ⟨a, r, h, h'⟩
      · exact .inl (fun c hc => by simp at hc; rcases hc with rfl | hc; exact hb; exact h c hc)
      · exact .inr ⟨b :: a, r, by rw [h]; rfl, fun c hc => by simp at hc; rcases hc with rfl | hc; exact hb; exact h' c hc⟩
theorem namesS_pos (u : Txt) : 0 < (namesS u).length := by
  rcases slash_cases u with h | ⟨a, r, h, h'⟩
  · rw [names_none u h]; simp
  · rw [h, names_some a r h']; simp
/-- What the iterator has captured: the separator, what is left, the bytes of the separator that a piece keeps. -/
structure PB (W : World) (bp bs bv : Nat) (t : Txt) : Prop where
  p : W.cell? ⟨bp, 0, none⟩ = some (.string ⟨#[47]⟩)
  s : W.cell? ⟨bs, 0, none⟩ = some (.string ⟨t.toArray⟩)
  v : W.cell? ⟨bv, 0, none⟩ = some (.int .i64 0)
  f : W.frozen? ⟨bs, 0, none⟩ = false
theorem PB.below {W W' : World} {bp bs bv n0 : Nat} {t : Txt} (h : PB W bp bs bv t) (hb : Below n0 W W') (h1 : bp < n0) (h2 : bs < n0) (h3 : bv < n0) : PB W' bp bs bv t :=
  ⟨(hb.cell (p := ⟨bp, 0, none⟩) h1).trans h.p, (hb.cell (p := ⟨bs, 0, none⟩) h2).trans h.s, (hb.cell (p := ⟨bv, 0, none⟩) h3).trans h.v, (hb.frozen (p := ⟨bs, 0, none⟩) h2).trans h.f⟩
theorem PB.set {W : World} {bp bs bv : Nat} {t u : Txt} (h : PB W bp bs bv t) (h1 : bp ≠ bs) (h3 : bv ≠ bs) : PB (W.setCell ⟨bs, 0, none⟩ (.string ⟨u.toArray⟩)) bp bs bv u :=
  ⟨(World.cell?_setCell_far _ _ _ _ (fun e => h1 e.symm)).trans h.p, World.cell?_setCell_same' _ _ _ (by rw [h.s]; rfl), (World.cell?_setCell_far _ _ _ _ (fun e => h3 e.symm)).trans h.v, by rw [World.frozen?_setCell]; exact h.f⟩
def leftAt (W : World) (bs : Nat) : Nat := match W.cell? ⟨bs, 0, none⟩ with
  | some (.string b) => b.size
  | _ => 0
theorem PB.left {W : World} {bp bs bv : Nat} {t : Txt} (h : PB W bp bs bv t) : leftAt W bs = t.length := by unfold leftAt; rw [h.s]; rfl

set_option maxRecDepth 100000 in
set_option maxHeartbeats 1000000 in
theorem pieces_in (l bp bs bv n0 : Nat) (h1 : bp < n0) (h2 : bs < n0) (h3 : bv < n0) (h4 : bp ≠ bs) (h5 : bv ≠ bs) (t : Txt) (names : List Txt) (hn : names = namesS t) (ht : t.length ≤ 140737488351232)
    (J : Nat → World → Prop) (Jx : World → Prop) (hJ : ∀ k W v, J k W → J k (W.setCell ⟨bs, 0, none⟩ v))
    (hY : ∀ k (hk : k < names.length) W, J k W → YieldAt Fence.wide 1 Tryz.prog l #[.string ⟨names[k].toArray⟩] W fun e W' => (e = .returned (.bool true) ∧ J (k + 1) W' ∧ Below n0 W W') ∨ (e = .returned (.bool false) ∧ Jx W'))
    (W : World) (hPB : PB W bp bs bv t) (h0 : J 0 W) :
    CallsIn Fence.wide 2 Tryz.prog 168 #[.func (.yield l) #[] #[], .pointer (some ⟨bp, 0, none⟩), .pointer (some ⟨bs, 0, none⟩), .pointer (some ⟨bv, 0, none⟩)] W fun e W' => (∃ v, e = .returned v) ∧ (J names.length W' ∨ Jx W') := by
  have HY := Lib.hid hY; clear hY
  have HJ := Lib.hid hJ; clear hJ
  have HP := Lib.hid hPB
  have cp := hPB.p
  clear hPB
  refine callsIn_of_wp Tryz.func168 rfl trivial ?_ rfl
  simp only [Tryz.ntmps168, List.size_toArray, List.length_cons, List.length_nil, Nat.reduceAdd, Nat.reduceSub, Array.replicate_succ, Array.replicate_zero, List.push_toArray, List.append_toArray, List.nil_append, List.cons_append]
  gi_wp2
  gi_loopw [7, 8] (fun v7 v8 wr => ∃ (k : Nat) (u : Txt), k < names.length ∧ Hid (names.drop k = namesS u) ∧ u.length ≤ 140737488351232 ∧ Hid (PB wr bp bs bv u) ∧ Hid (J k wr)) (fun v7 v8 wr => leftAt wr bs)
  case atStart => exact ⟨0, t, by rw [hn]; exact namesS_pos t, Lib.hid (by rw [hn]; rfl), ht, HP, Lib.hid h0⟩
  case round =>
    clear HP h0 cp
    obtain ⟨k, u, hk, HN, hu, HP, HJ0⟩ := hrel
    have cp := HP.out.p
    have cs := HP.out.s
    have cv := HP.out.v
    have fs := HP.out.f
    have IX := fun w' => Lib.hid (Tryz.strings_Index_one ⟨u.toArray⟩ 47 w')
    rcases slash_cases u with hno | ⟨a, r, he, hno⟩
    · have HL := Lib.hid (show names.length = k + 1 ∧ names[k] = u by
        have h := HN.out
        rw [names_none u hno, List.drop_eq_getElem_cons hk] at h
        injection h with e1 e2
        have := congrArg List.length e2
        simp at this
        exact ⟨by omega, e1⟩)
      have IX2 : ∀ w', Hid (Calls Tryz.prog 170 #[.string ⟨u.toArray⟩, .string ⟨#[47]⟩] w' fun e w1 => e = .returned (.int .i64 (-1)) ∧ w1 = w') := fun w' => by
        have h := (IX w').out
        rw [show Lib.indexByte (⟨u.toArray⟩ : ByteArray).data.toList 47 = -1 from idx_none u hno] at h
        exact Lib.hid h
      clear IX
      obtain ⟨fn, tmps, assign, body, hy, hR⟩ := HY.out k hk wr HJ0.out
      rw [HL.out.2] at hy
      gi_wp2_with (refine ⟨trivial, ?_⟩; gi_at_call 170; refine (callsIn_wide.2 (IX2 _).out).mono ?_; rintro e w' ⟨rfl, rfl⟩)
      refine hR.mono ?_
      rintro e W3 (⟨rfl, hJ3, hk3⟩ | ⟨rfl, hJx3⟩)
      · gi_wp2
        go_end0
        exact ⟨⟨_, rfl⟩, .inl (by rw [HL.out.1]; exact hJ3)⟩
      · gi_wp2
        go_end0
        exact ⟨⟨_, rfl⟩, .inr hJx3⟩
    · have HL := Lib.hid (show k + 1 < names.length ∧ names[k] = a ∧ names.drop (k + 1) = namesS r by
        have h := HN.out
        rw [he, names_some a r hno, List.drop_eq_getElem_cons hk] at h
        injection h with e1 e2
        have h3 := congrArg List.length e2
        have h4 := namesS_pos r
        rw [List.length_drop] at h3
        exact ⟨by omega, e1, e2⟩)
      have IX2 : ∀ w', Hid (Calls Tryz.prog 170 #[.string ⟨u.toArray⟩, .string ⟨#[47]⟩] w' fun e w1 => e = .returned (.int .i64 (a.length : Nat)) ∧ w1 = w') := fun w' => by
        have h := (IX w').out
        rw [show Lib.indexByte (⟨u.toArray⟩ : ByteArray).data.toList 47 = (a.length : Int) by rw [he]; exact idx_some a r hno] at h
        exact Lib.hid h
      clear IX
      have hul : u.length = a.length + r.length + 1 := by rw [he]; simp; omega
      have x1 : (⟨u.toArray⟩ : ByteArray).extract 0 a.length = ⟨a.toArray⟩ := by
        rw [take_toArray, he, List.take_left]
      have x2 : (⟨u.toArray⟩ : ByteArray).extract (a.length + 1) u.length = ⟨r.toArray⟩ := by
        rw [drop_toArray _ _ _ (Nat.le_refl _), he, show a.length + 1 = (a ++ [47]).length by simp, show a ++ 47 :: r = (a ++ [47]) ++ r by simp, List.drop_left]
      obtain ⟨fn, tmps, assign, body, hy, hR⟩ := HY.out k hk wr HJ0.out
      rw [HL.out.2.1] at hy
      have SU := Lib.hid (show (⟨u.toArray⟩ : ByteArray).size = u.length from rfl)
      obtain ⟨n1, hn1⟩ : ∃ n1, n1 = a.length := ⟨_, rfl⟩
      rw [← hn1] at x1 x2 IX2 hul
      have j0 : (0 : Int) ≤ (n1 : Int) := by omega
      have j1 : (n1 : Int) ≤ (u.length : Int) := by omega
      have j2 : (n1 : Int) + 1 ≤ (u.length : Int) := by omega
      have HUL := Lib.hid hul
      clear he hno hn1 hul
      gi_wp2_with (refine ⟨trivial, ?_⟩; gi_at_call 170; refine (callsIn_wide.2 (IX2 _).out).mono ?_; rintro e w' ⟨rfl, rfl⟩)
      refine hR.mono ?_
      rintro e W3 (⟨rfl, hJ3, hk3⟩ | ⟨rfl, hJx3⟩)
      · have HP3 := Lib.hid (HP.out.below hk3 h1 h2 h3)
        have HJ3 := Lib.hid hJ3
        have cp3 := HP3.out.p
        have cs3 := HP3.out.s
        have cv3 := HP3.out.v
        have fs3 := HP3.out.f
        have HP4 := Lib.hid (HP3.out.set (u := r) h4 h5)
        have HJ4 := Lib.hid (HJ.out _ _ (.string ⟨r.toArray⟩) HJ3.out)
        have LU := Lib.hid (HP.out.left)
        clear hJ3 hk3 cp cs cv fs HP HJ0
        gi_wp2
        go_roundw
        case rel => exact ⟨k + 1, r, HL.out.1, Lib.hid HL.out.2.2, by have := HUL.out; omega, HP4, HJ4⟩
        case measure => rw [HP4.out.left, LU.out]; have := HUL.out; omega
      · gi_wp2
        refine bodyPost_ret (results_none rfl _ _ _) rfl ?_
        exact ⟨⟨_, rfl⟩, .inr hJx3⟩
end Go.Proofs.YtamiacmnobklaaaGreatDoor
/- A range over the library's SplitSeq at a slash: the pieces come to the body one by one. -/
set_option linter.unusedVariables false
namespace Go.Proofs.YtamiacmnobklaaaGreatDoor
open Go.RowKit
attribute [local go_sem] Oper.semAt_some

theorem Kept.putObj {M : Nat → Prop} {a w : World} (h : Kept M a w) {l : Nat} (hl : M l) (o : Obj) : Kept M a (w.putObj l o) :=
  h.trans ⟨rfl, rfl, rfl, by simp, fun k _ hm => World.putObj_heap_other (fun e => hm (e ▸ hl))⟩
set_option maxHeartbeats 1000000 in
theorem wp_pieces {g : Operand} {p : Tmp} {assign body : Code} {Q : Exit → Act → World → Prop} {a : Act} {w : World} (bp bs bv R : Nat) (s : Txt) (hs : s.length ≤ 140737488351232)
    (hg : a.eval g = .func (.func 168) #[] #[.pointer (some ⟨bp, 0, none⟩), .pointer (some ⟨bs, 0, none⟩), .pointer (some ⟨bv, 0, none⟩)])
    (hPB : PB w bp bs bv s) (h1 : bp < w.heap.size) (h2 : bs < w.heap.size) (h3 : bv < w.heap.size) (h4 : bp ≠ bs) (h5 : bv ≠ bs) (hR : R < w.heap.size)
    (I : Nat → World → Prop) (Ix : World → Prop) (hI : ∀ k W W', I k W → Kept (fun b => b = bs ∨ w.heap.size ≤ b) W W' → I k W') (hIx : ∀ W W', Ix W → Kept (fun b => b = bs ∨ w.heap.size ≤ b) W W' → Ix W')
    (h0 : I 0 w) (a₁ : Txt → Act)
    (hassign : ∀ (l : Nat) (x : Txt) (W : World) (K : Act → World → Prop), K (a₁ x) W →
      assign.wpIn (Fence.wide.inRound l) 1 Tryz.prog (Exit.then K (fun _ _ _ => False)) { tmps := a.tmps.setIfInBounds p (.string ⟨x.toArray⟩), defers := [] } W)
    (hbody : ∀ (l k : Nat) (hk : k < (namesS s).length) (W : World), I k W → body.wpIn (Fence.wide.inRound l) 1 Tryz.prog (fun e _ W' => match e with
      | .normal => Below W.heap.size W W' ∧ I (k + 1) W'
      | .ret => Kept (· = R) W W' ∧ Ix W'
      | _ => False) (a₁ (namesS s)[k]) W)
    (hdone : ∀ (D : Nat) (W : World), w.heap.size ≤ D → I (namesS s).length W → W.heap[D]? = some (.deferred (some [])) → Q .normal { a with defers := { target := .collected D, args := #[] } :: a.defers } W)
    (hstop : ∀ (D : Nat) (W : World), w.heap.size ≤ D → Ix W → W.heap[D]? = some (.deferred (some [])) → Code.ret.wpIn Fence.wide 3 Tryz.prog Q { a with defers := { target := .collected D, args := #[] } :: a.defers } W) :
    (Code.rangeFunc g #[p] assign body).wpIn Fence.wide 3 Tryz.prog Q a w := by
  refine wpIn_rangeFunc ?_
  intro fn hfn
  obtain ⟨r0, hr0⟩ : ∃ r0 : Loop, r0 = { state := .ready, pending := none, fn, tmps := a.tmps, params := #[p], assign, body, defers := w.heap.size } := ⟨_, rfl⟩
  obtain ⟨W1, hW1⟩ : ∃ W1, (w.alloc (.deferred (some []))).alloc (.loop r0) = W1 := ⟨_, rfl⟩
  have hL1 : W1.heap[w.heap.size + 1]? = some (.loop r0) := by
    rw [← hW1]
    have h := World.alloc_heap_new (w.alloc (.deferred (some []))) (.loop r0)
    rwa [World.size_alloc] at h
  have hD1 : W1.heap[w.heap.size]? = some (.deferred (some [])) := by
    rw [← hW1]
    exact (Below.heap_alloc _ _ _ (by simp)).trans (World.alloc_heap_new w _)
  have hb1 : Below w.heap.size w W1 := by rw [← hW1]; exact ((Below.refl _ w).alloc (Nat.le_refl _) _).alloc (by simp) _
  have hk1 : Kept (fun b => b = bs ∨ w.heap.size ≤ b) w W1 := (Kept.of_below hb1).mono (fun k _ h => .inr h)
  refine ⟨w.heap.size + 1, [{ target := .collected w.heap.size, args := #[] }], W1, { target := .fn (.func 168) #[.pointer (some ⟨bp, 0, none⟩), .pointer (some ⟨bs, 0, none⟩), .pointer (some ⟨bv, 0, none⟩)], args := #[.func (.yield (w.heap.size + 1)) #[] #[]] }, W1, 168,
    #[.func (.yield (w.heap.size + 1)) #[] #[]] ++ #[.pointer (some ⟨bp, 0, none⟩), .pointer (some ⟨bs, 0, none⟩), .pointer (some ⟨bv, 0, none⟩)], W1, ?_, ?_, fun _ _ => trivial, ?_, fun h => by simp [Fence.wide] at h, ?_⟩
  · rw [← hW1, hr0]; exact run_enterLoop_outer _ _ _ _ _
  · simp only [resolve, hg]
    simp [go_sem]
  · simp [invoke, go_sem]
  · have hloop : ∀ (W : World) (r : Loop) (o : Obj), W.heap[w.heap.size + 1]? = some (.loop r) → W.heap[w.heap.size]? = some (.deferred (some [])) →
        (W.putObj (w.heap.size + 1) o).heap[w.heap.size + 1]? = some o ∧ (W.putObj (w.heap.size + 1) o).heap[w.heap.size]? = some (.deferred (some [])) ∧ Kept (fun b => b = bs ∨ w.heap.size ≤ b) W (W.putObj (w.heap.size + 1) o) :=
      fun W r o hl hd => ⟨World.putObj_heap_same (Array.getElem?_eq_some_iff.1 hl).1, (World.putObj_heap_other (by omega)).trans hd, (Kept.refl _ W).putObj (.inr (by omega)) o⟩
    have hloop' : ∀ (W : World) (o : Obj), w.heap.size + 1 < W.heap.size → W.heap[w.heap.size]? = some (.deferred (some [])) →
        (W.putObj (w.heap.size + 1) o).heap[w.heap.size + 1]? = some o ∧ (W.putObj (w.heap.size + 1) o).heap[w.heap.size]? = some (.deferred (some [])) ∧ Kept (fun b => b = bs ∨ w.heap.size ≤ b) W (W.putObj (w.heap.size + 1) o) :=
      fun W o hl hd => ⟨World.putObj_heap_same hl, (World.putObj_heap_other (by omega)).trans hd, (Kept.refl _ W).putObj (.inr (by omega)) o⟩
    refine (pieces_in (w.heap.size + 1) bp bs bv w.heap.size h1 h2 h3 h4 h5 s (namesS s) rfl hs
      (fun k W => I k W ∧ W.heap[w.heap.size + 1]? = some (.loop r0) ∧ W.heap[w.heap.size]? = some (.deferred (some [])))
      (fun W => Ix W ∧ W.heap[w.heap.size + 1]? = some (.loop { r0 with state := .done, pending := some .ret }) ∧ W.heap[w.heap.size]? = some (.deferred (some [])))
      (fun k W v hj => ⟨hI k W _ hj.1 ((Kept.refl _ W).setCell (p := ⟨bs, 0, none⟩) (.inl rfl) v), (Below.heap_setCell _ _ _ _ (by simp; omega)).trans hj.2.1, (Below.heap_setCell _ _ _ _ (by simp; omega)).trans hj.2.2⟩)
      ?_ W1 (hPB.below hb1 h1 h2 h3) ⟨hI 0 w W1 h0 hk1, hL1, hD1⟩).mono ?_
    · rintro k hk W ⟨hi, hl, hd⟩
      have hy : (Instr.yield (w.heap.size + 1) #[.string ⟨(namesS s)[k].toArray⟩]).run Tryz.prog W = .ok (.round (w.heap.size + 1) fn (a.tmps.setIfInBounds p (.string ⟨(namesS s)[k].toArray⟩)) assign body) W := by
        have h := run_yield (P := Tryz.prog) (args := #[.string ⟨(namesS s)[k].toArray⟩]) hl (by rw [hr0]; rfl)
        rw [hr0] at h
        simpa using h
      obtain ⟨hl2, hd2, hk2⟩ := hloop W r0 (.loop { r0 with state := .busy }) hl hd
      have hlt : w.heap.size + 1 < W.heap.size := (Array.getElem?_eq_some_iff.1 hl).1
      have hput : ∀ (V : World) (o : Obj), w.heap.size + 1 < V.heap.size → Below w.heap.size V (V.putObj (w.heap.size + 1) o) := fun V o hV =>
        (Below.refl _ V).grown (grownBy_putObj' V _ _) (by omega) (fun k e => by cases e; omega)
      have hb2 := hput W (.loop { r0 with state := .busy }) hlt
      have hs2 : (W.putObj (w.heap.size + 1) (.loop { r0 with state := .busy })).heap.size = W.heap.size := World.putObj_size
      refine ⟨fn, _, assign, body, hy, roundIn_of_wpIn hfn ?_⟩
      refine hassign _ _ W _ ⟨_, run_beginRound hl (by rw [hr0]), ?_⟩
      refine wpIn_mono (hbody _ k hk _ (hI k W _ hi hk2)) ?_
      rintro e a3 W3 hp
      cases e with
      | normal =>
        obtain ⟨hb3, hi3⟩ := hp
        have hl3 := (hb3.block (w.heap.size + 1) (by rw [hs2]; exact hlt)).trans hl2
        have hd3 := (hb3.block w.heap.size (by rw [hs2]; omega)).trans hd2
        have hs3 := hb3.size
        obtain ⟨hl4, hd4, hk4⟩ := hloop' W3 (.loop r0) (by omega) hd3
        have he : (Instr.endRound (w.heap.size + 1) none).run Tryz.prog W3 = .ok (.bool true) (W3.putObj (w.heap.size + 1) (.loop r0)) := by
          have h := run_endRound (P := Tryz.prog) none hl3
          rw [hr0] at h ⊢
          exact h
        exact ⟨_, _, he, .inl ⟨rfl, ⟨hI _ W3 _ hi3 hk4, hl4, hd4⟩, (hb2.trans (hb3.mono (by omega))).trans (hput W3 _ (by omega))⟩⟩
      | ret =>
        obtain ⟨hk3, hi3⟩ := hp
        have hl3 := (hk3.block (w.heap.size + 1) (by rw [hs2]; exact hlt) (by omega)).trans hl2
        have hd3 := (hk3.block w.heap.size (by rw [hs2]; omega) (by omega)).trans hd2
        have hs3 := hk3.size
        obtain ⟨hl4, hd4, hk4⟩ := hloop' W3 (.loop { r0 with state := .done, pending := some .ret }) (by omega) hd3
        have he : (Instr.endRound (w.heap.size + 1) (some .ret)).run Tryz.prog W3 = .ok (.bool false) (W3.putObj (w.heap.size + 1) (.loop { r0 with state := .done, pending := some .ret })) := by
          have h := run_endRound (P := Tryz.prog) (some .ret) hl3
          exact h
        exact ⟨_, _, he, .inr ⟨rfl, hIx W3 _ hi3 hk4, hl4, hd4⟩⟩
      | exit id => exact hp.elim
      | goto t => exact hp.elim
      | panic ch => exact hp.elim
      | outgrown => exact hp.elim
    · rintro e W2 ⟨⟨v, rfl⟩, (⟨hi, hl, hd⟩ | ⟨hi, hl, hd⟩)⟩
      · obtain ⟨hl4, hd4, hk4⟩ := hloop W2 _ (.loop { r0 with state := .exhausted }) hl hd
        refine ⟨none, _, ?_, hdone w.heap.size _ (Nat.le_refl _) (hI _ W2 _ hi hk4) hd4⟩
        have h := run_endLoop (P := Tryz.prog) hl (by rw [hr0]; simp)
        rw [h, hr0]
      · obtain ⟨hl4, hd4, hk4⟩ := hloop W2 _ (.loop { r0 with state := .exhausted, pending := some .ret }) hl hd
        exact ⟨some .ret, _, run_endLoop (P := Tryz.prog) hl (by simp), hstop w.heap.size _ (Nat.le_refl _) (hIx W2 _ hi hk4) hd4⟩
end Go.Proofs.YtamiacmnobklaaaGreatDoor
/- Landed tree: isName, walked: a name is gone through sign by sign. -/
set_option linter.unusedVariables false
namespace Go.Proofs.YtamiacmnobklaaaGreatDoor
open Go.RowKit

theorem Below_iter (w : World) (s : ByteArray) (p : Nat) : Below w.heap.size w (w.iter s p) := (Below.refl _ w).alloc (Nat.le_refl _) _
set_option maxRecDepth 100000 in
set_option maxHeartbeats 1000000 in
theorem isName_any (s : Txt) (w : World) (hs : s.length ≤ 140737488351232) :
    Calls Tryz.prog 151 #[.string ⟨s.toArray⟩] w fun e w' => e = .returned (.bool (nameS s)) ∧ Below w.heap.size w w' := by
  have SA := Lib.hid (show (⟨s.toArray⟩ : ByteArray).size = s.length from rfl)
  by_cases h0 : s = []
  · subst h0
    go_enter Tryz.func151, Tryz.ntmps151
    go_wp2_with fail
    go_ret
    exact ⟨rfl, Below.refl _ _⟩
  by_cases h1 : 32 < s.length
  · have HR := Lib.hid (show nameS s = false by unfold nameS; rw [decide_eq_false (by omega)]; simp)
    rw [HR.out]
    have j1 : (32 : Int) < (s.length : Int) := by omega
    go_enter Tryz.func151, Tryz.ntmps151
    go_wp2_with fail
    go_ret
    exact ⟨rfl, Below.refl _ _⟩
  by_cases h2 : s = [46]
  · subst h2
    go_enter Tryz.func151, Tryz.ntmps151
    go_wp2_with fail
    go_ret
    exact ⟨rfl, Below.refl _ _⟩
  by_cases h3 : s = [46, 46]
  · subst h3
    go_enter Tryz.func151, Tryz.ntmps151
    go_wp2_with fail
    go_ret
    exact ⟨rfl, Below.refl _ _⟩
  have HR := Lib.hid (show nameS s = s.all okC by unfold nameS; rw [decide_eq_true (by omega), beq_eq_false_iff_ne.2 h0, beq_eq_false_iff_ne.2 h2, beq_eq_false_iff_ne.2 h3]; simp)
  rw [HR.out]
  obtain ⟨res, hres⟩ : ∃ res, res = s.all okC := ⟨_, rfl⟩
  rw [← hres]
  have H0 := Lib.hid (show (s.drop 0).all okC = res from hres.symm)
  clear HR hres
  have j1 : ¬ (32 : Int) < (s.length : Int) := by omega
  have q0 : s.isEmpty = false := by cases s <;> simp_all
  have q2 : (s == [46]) = false := beq_eq_false_iff_ne.2 h2
  have q3 : (s == [46, 46]) = false := beq_eq_false_iff_ne.2 h3
  clear h0 h1 h2 h3
  go_enter Tryz.func151, Tryz.ntmps151
  go_wp2_with fail
  clear q0 q2 q3
  go_loopw [4] (fun v4 wr => ∃ k : Nat, k ≤ s.length ∧ wr = w.iter ⟨s.toArray⟩ k ∧ Hid ((s.drop k).all okC = res)) (fun v4 wr => s.length - wr.iterPos w.heap.size)
  case atStart => exact ⟨0, by omega, rfl, H0⟩
  case round =>
    clear H0
    obtain ⟨k, hk, rfl, HA⟩ := hrel
    have HW := Lib.hid (fun p => Below_iter w ⟨s.toArray⟩ p)
    by_cases hlt : k < s.length
    · have HC := Lib.hid (show (s.drop k).all okC = (okC s[k] && (s.drop (k + 1)).all okC) by rw [List.drop_eq_getElem_cons hlt]; rfl)
      have hby := s[k].toNat_lt
      by_cases ha : s[k].toNat < 128
      · have hn : ∀ ty, (Instr.next (.pointer (some ⟨w.heap.size, 0, none⟩)) true ty).run Tryz.prog (w.iter ⟨s.toArray⟩ k) = .ok (.tuple #[.bool true, .int .i64 k, .int .i32 (s[k].toNat : Nat)]) (w.iter ⟨s.toArray⟩ (k + 1)) := fun ty => run_next_ascii (P := Tryz.prog) w ⟨s.toArray⟩ k ty hlt ha
        by_cases hc : 33 ≤ s[k].toNat ∧ s[k].toNat ≤ 126
        · have HR := Lib.hid (show (s.drop (k + 1)).all okC = res by
            rw [← HA.out, HC.out]
            have : okC s[k] = true := by unfold okC; rw [decide_eq_true hc.1, decide_eq_true hc.2]; rfl
            rw [this, Bool.true_and])
          clear HC
          generalize s[k].toNat = c at *
          have c1 : ¬ (c : Int) < 33 := by omega
          have c2 : ¬ (126 : Int) < (c : Int) := by omega
          go_wp2_with fail
          go_roundw
          case rel => exact ⟨k + 1, hlt, rfl, HR⟩
          case measure => simp only [World.iterPos_iter]; omega
        · have HR := Lib.hid (show false = res by
            rw [← HA.out, HC.out]
            have : okC s[k] = false := by
              unfold okC
              by_cases h : 33 ≤ s[k].toNat
              · rw [decide_eq_false (show ¬ s[k].toNat ≤ 126 from fun h' => hc ⟨h, h'⟩), Bool.and_false]
              · rw [decide_eq_false h, Bool.false_and]
            rw [this, Bool.false_and])
          clear HC
          generalize s[k].toNat = c at *
          by_cases c1 : (c : Int) < 33
          · go_wp2_with fail
            go_ret
            exact ⟨by rw [← HR.out]; rfl, HW.out _⟩
          · have c2 : (126 : Int) < (c : Int) := by omega
            go_wp2_with fail
            go_ret
            exact ⟨by rw [← HR.out]; rfl, HW.out _⟩
      · have hn := fun ty => run_next_any (P := Tryz.prog) w ⟨s.toArray⟩ k ty hlt
        have hd := (decode_high ⟨s.toArray⟩ k hlt (by show 128 ≤ s[k].toNat; omega)).1
        have HR := Lib.hid (show false = res by
          rw [← HA.out, HC.out]
          have : okC s[k] = false := by unfold okC; rw [decide_eq_false (show ¬ s[k].toNat ≤ 126 by omega), Bool.and_false]
          rw [this, Bool.false_and])
        clear HC
        generalize (Utf8.decode ⟨s.toArray⟩ k).1 = c at *
        generalize (Utf8.decode ⟨s.toArray⟩ k).2 = d at *
        have c1 : ¬ (c : Int) < 33 := by omega
        have c2 : (126 : Int) < (c : Int) := by omega
        go_wp2_with fail
        go_ret
        exact ⟨by rw [← HR.out]; rfl, HW.out _⟩
    · obtain rfl : k = s.length := by omega
      have hn := fun ty => run_next_end (P := Tryz.prog) w ⟨s.toArray⟩ s.length ty (by show ¬ s.length < s.length; omega)
      have HR := Lib.hid (show true = res by rw [← HA.out, List.drop_eq_nil_of_le (Nat.le_refl _)]; rfl)
      go_wp2_with fail
      go_ret
      exact ⟨by rw [← HR.out]; rfl, HW.out _⟩
end Go.Proofs.YtamiacmnobklaaaGreatDoor
/- Landed tree: Path, walked: a range over the library's iterator. -/
set_option linter.unusedVariables false
namespace Go.Proofs.YtamiacmnobklaaaGreatDoor
open Go.RowKit
attribute [local go_sem] Oper.semAt_some

/-- The world with the three boxes of the iterator. -/
def boxW (w : World) (s : Txt) : World := ((w.alloc (.cells #[.string ⟨s.toArray⟩] 9)).alloc (.cells #[.string ⟨#[47]⟩] 9)).alloc (.cells #[.int .i64 0] 3)
theorem boxW_below (w : World) (s : Txt) : Below w.heap.size w (boxW w s) := (((Below.refl _ w).alloc (Nat.le_refl _) _).alloc (by simp) _).alloc (by simp; omega) _
theorem boxW_size (w : World) (s : Txt) : (boxW w s).heap.size = w.heap.size + 3 := by unfold boxW; simp
theorem cell1 (w : World) (v : Value) (t : TypeId) : (w.alloc (.cells #[v] t)).cell? ⟨w.heap.size, 0, none⟩ = some v := by
  rw [cell_of_row _ _ _ _ _ _ (heap_alloc_new _ _)]; rfl
theorem frozen1 (w : World) (v : Value) (t : TypeId) : (w.alloc (.cells #[v] t)).frozen? ⟨w.heap.size, 0, none⟩ = false := frozen_of_row _ _ _ _ _ (heap_alloc_new _ _)
theorem boxW_pb (w : World) (s : Txt) : PB (boxW w s) (w.heap.size + 1) w.heap.size (w.heap.size + 2) s := by
  have e1 : (w.alloc (.cells #[.string ⟨s.toArray⟩] 9)).heap.size = w.heap.size + 1 := by simp
  have e2 : ((w.alloc (.cells #[.string ⟨s.toArray⟩] 9)).alloc (.cells #[.string ⟨#[47]⟩] 9)).heap.size = w.heap.size + 2 := by simp
  have c2 := cell1 (w.alloc (.cells #[.string ⟨s.toArray⟩] 9)) (.string ⟨#[47]⟩) 9
  have c3 := cell1 ((w.alloc (.cells #[.string ⟨s.toArray⟩] 9)).alloc (.cells #[.string ⟨#[47]⟩] 9)) (.int .i64 0) 3
  have b : Below (w.heap.size + 1) (w.alloc (.cells #[.string ⟨s.toArray⟩] 9)) (boxW w s) := ((Below.refl _ _).alloc (by simp) _).alloc (by simp) _
  rw [e1] at c2
  rw [e2] at c3
  exact ⟨cell_alloc1 c2 _, (b.cell (p := ⟨w.heap.size, 0, none⟩) (Nat.lt_succ_self _)).trans (cell1 _ _ _), c3, (b.frozen (p := ⟨w.heap.size, 0, none⟩) (Nat.lt_succ_self _)).trans (frozen1 _ _ _)⟩
theorem results_cell1 {P : Program} {fn : Func} {p : Tmp} {ty : TypeId} {d : TypeDesc} (h : fn.results = #[.cell p ty]) (tmps : Array Value) (w : World) (a : Addr) (v : Value) (hp : tmps.getD p undef = .pointer (some a))
    (hu : P.underlying ty = some d) (hd : (match d with | .struct _ | .array _ _ => true | _ => false) = false) (hc : w.cell? a = some v) : (results fn tmps).run P w = .ok v w := by
  have hg : (isAgg ty).run P w = .ok false w := by
    unfold isAgg
    rw [Sem.run_bind, run_underlying hu]
    cases d <;> simp_all [Result.andThen]
  have hl : (loadVar ty a).run P w = .ok v w := by
    unfold loadVar
    simp [Sem.run_bind, hg, Result.andThen, go_sem, hc]
  simp only [results, h]
  have hp' : tmps[p]?.getD undef = .pointer (some a) := by simpa using hp
  simp [hp', asAddr, hl]
set_option maxRecDepth 100000 in
theorem splitSeq_any (s : Txt) (w : World) :
    Calls Tryz.prog 150 #[.string ⟨s.toArray⟩, .string ⟨#[47]⟩] w fun e w' => e = .returned (.func (.func 168) #[] #[.pointer (some ⟨w.heap.size + 1, 0, none⟩), .pointer (some ⟨w.heap.size, 0, none⟩), .pointer (some ⟨w.heap.size + 2, 0, none⟩)]) ∧ w' = boxW w s := by
  have SP : ∀ w', Calls Tryz.prog 163 #[.string ⟨s.toArray⟩, .string ⟨#[47]⟩, .int .i64 0] w' fun e w1 => e = .returned (.func (.func 168) #[] #[.pointer (some ⟨w'.heap.size + 1, 0, none⟩), .pointer (some ⟨w'.heap.size, 0, none⟩), .pointer (some ⟨w'.heap.size + 2, 0, none⟩)]) ∧ w1 = boxW w' s := by
    intro w'
    go_enter Tryz.func163, Tryz.ntmps163
    go_wp2_with fail
    go_ret
    exact ⟨by simp, rfl⟩
  go_enter Tryz.func150, Tryz.ntmps150
  go_wp2_with fail
  refine (SP _).mono ?_
  rintro e w1 ⟨rfl, rfl⟩
  go_wp2_with fail
  go_ret
  exact ⟨rfl, rfl⟩
theorem names_len (s x : Txt) (h : x ∈ namesS s) : x.length ≤ s.length := by
  have key : ∀ (t cur : Txt), ∀ y ∈ namesG cur t, y.length ≤ cur.length + t.length := by
    intro t
    induction t with
    | nil => intro cur y hy; simp [namesG] at hy; rw [hy]; simp
    | cons c t ih =>
      intro cur y hy
      unfold namesG at hy
      split at hy
      · simp at hy
        rcases hy with rfl | hy
        · simp
        · have := ih [] y hy; simp at this ⊢; omega
      · have := ih _ y hy; simp at this ⊢; omega
  have := key s [] x h
  simpa using this
set_option maxRecDepth 100000 in
set_option maxHeartbeats 1000000 in
theorem path_any (s : Txt) (w : World) (hs : s.length ≤ 140737488351232) :
    Calls Tryz.prog 128 #[.string ⟨s.toArray⟩] w fun e w' => e = .returned (.int .i64 (pathS s)) ∧ Below w.heap.size w w' := by
  have SA := Lib.hid (show (⟨s.toArray⟩ : ByteArray).size = s.length from rfl)
  refine (callsIn_wide (n := 3)).1 ?_
  refine callsIn_of_wp_marks Tryz.func128 rfl trivial ?_ rfl
  simp only [Tryz.ntmps128, List.size_toArray, List.length_cons, List.length_nil, Nat.reduceAdd, Nat.reduceSub, Array.replicate_succ, Array.replicate_zero, List.push_toArray, List.append_toArray, List.nil_append, List.cons_append]
  by_cases h200 : 200 < s.length
  · have HR := Lib.hid (show pathS s = 4 by unfold pathS; rw [if_pos h200])
    rw [HR.out]
    have j1 : (200 : Int) < (s.length : Int) := by omega
    gi_wp2
    exact ⟨_, results_cell1 Tryz.results128 _ _ _ _ rfl Tryz.underlying37 rfl (cell1 _ _ _), rfl, (Below.refl _ _).alloc (Nat.le_refl _) _⟩
  · have j1 : ¬ (200 : Int) < (s.length : Int) := by omega
    have SP := fun w' => Lib.hid (splitSeq_any s w')
    gi_wp2_with (refine ⟨trivial, ?_⟩; gi_at_call 150; refine (callsIn_wide.2 (SP _).out).mono ?_; rintro e w' ⟨rfl, rfl⟩)
    have SZ := Lib.hid (show (boxW (w.alloc (.cells #[.int .i64 0] 37)) s).heap.size = w.heap.size + 4 by rw [boxW_size]; simp)
    have PB0 := Lib.hid (show PB (boxW (w.alloc (.cells #[.int .i64 0] 37)) s) (w.heap.size + 2) (w.heap.size + 1) (w.heap.size + 3) s by
      have h := boxW_pb (w.alloc (.cells #[.int .i64 0] 37)) s
      rwa [World.size_alloc] at h)
    have BL := boxW_below (w.alloc (.cells #[.int .i64 0] 37)) s
    rw [World.size_alloc] at BL
    have HBW := Lib.hid (((Below.refl _ w).alloc (Nat.le_refl _) (.cells #[.int .i64 0] 37)).trans (BL.mono (Nat.le_succ _)))
    have HC0 := Lib.hid ((BL.cell (p := ⟨w.heap.size, 0, none⟩) (Nat.lt_succ_self _)).trans (cell1 w (.int .i64 0) 37))
    have HF0 := Lib.hid ((BL.frozen (p := ⟨w.heap.size, 0, none⟩) (Nat.lt_succ_self _)).trans (frozen1 w (.int .i64 0) 37))
    clear BL
    generalize boxW (w.alloc (.cells #[.int .i64 0] 37)) s = w1 at *
    have IN := fun (x : Txt) (hx : x.length ≤ 140737488351232) (w' : World) => Lib.hid (isName_any x w' hx)
    have HX := Lib.hid (show ∀ x ∈ namesS s, x.length ≤ 140737488351232 from fun x hx => by have := names_len s x hx; omega)
    refine wp_pieces (w.heap.size + 2) (w.heap.size + 1) (w.heap.size + 3) w.heap.size s hs rfl PB0.out (by rw [SZ.out]; omega) (by rw [SZ.out]; omega) (by rw [SZ.out]; omega) (by omega) (by omega) (by rw [SZ.out]; omega)
      (fun k W => Below w.heap.size w W ∧ W.cell? ⟨w.heap.size, 0, none⟩ = some (.int .i64 0) ∧ W.frozen? ⟨w.heap.size, 0, none⟩ = false ∧ w.heap.size < W.heap.size ∧ ∀ j (hj : j < (namesS s).length), j < k → nameS (namesS s)[j] = true)
      (fun W => Below w.heap.size w W ∧ W.cell? ⟨w.heap.size, 0, none⟩ = some (.int .i64 10) ∧ w.heap.size < W.heap.size ∧ pathS s = 10)
      ?hI ?hIx ⟨HBW.out, HC0.out, HF0.out, by rw [SZ.out]; omega, fun j hj h => by omega⟩
      (fun x => { tmps := #[.string ⟨s.toArray⟩, undef, .pointer (some ⟨w.heap.size, 0, none⟩), .string ⟨x.toArray⟩, .string ⟨s.toArray⟩, .int .i64 s.length, .bool false, .string ⟨s.toArray⟩, .func (.func 168) #[] #[.pointer (some ⟨w.heap.size + 2, 0, none⟩), .pointer (some ⟨w.heap.size + 1, 0, none⟩), .pointer (some ⟨w.heap.size + 3, 0, none⟩)], .string ⟨x.toArray⟩, undef, undef, undef], defers := [] })
      ?assign ?body ?done ?stop
    case hI =>
      rintro k W W' ⟨h1, h2, h3, h4, h5⟩ hk
      have hne : ¬ (w.heap.size = w.heap.size + 1 ∨ w1.heap.size ≤ w.heap.size) := by have := SZ.out; omega
      have hblk := hk.block w.heap.size h4 hne
      exact ⟨h1.trans (hk.below h1.size (fun b hb => by have := SZ.out; omega)), (World.cell?_of_block (w := W) (a := ⟨w.heap.size, 0, none⟩) hblk).trans h2, (World.frozen?_of_block (w := W) (a := ⟨w.heap.size, 0, none⟩) hblk).trans h3, by have := hk.size; omega, h5⟩
    case hIx =>
      rintro W W' ⟨h1, h2, h4, h5⟩ hk
      have hne : ¬ (w.heap.size = w.heap.size + 1 ∨ w1.heap.size ≤ w.heap.size) := by have := SZ.out; omega
      have hblk := hk.block w.heap.size h4 hne
      exact ⟨h1.trans (hk.below h1.size (fun b hb => by have := SZ.out; omega)), (World.cell?_of_block (w := W) (a := ⟨w.heap.size, 0, none⟩) hblk).trans h2, by have := hk.size; omega, h5⟩
    case assign =>
      intro l x W K hK
      gi_wp2
      exact hK
    case body =>
      rintro l k hk W ⟨h1, h2, h3, h4, h5⟩
      have INk := Lib.hid (IN _ (HX.out _ (List.getElem_mem hk)) W).out
      have H1 := Lib.hid h1
      have H5 := Lib.hid h5
      have HK := Lib.hid (show ∀ b, b = nameS (namesS s)[k] → b = false → pathS s = 10 from fun b hb hf => by
        unfold pathS
        rw [if_neg h200, if_neg]
        intro hall
        rw [List.all_eq_true] at hall
        have := hall _ (List.getElem_mem hk)
        rw [← hb, hf] at this
        cases this)
      have HS := Lib.hid (show ∀ b, b = nameS (namesS s)[k] → b = true → ∀ j (hj : j < (namesS s).length), j < k + 1 → nameS (namesS s)[j] = true from fun b hb ht j hj hjk => by
        by_cases e : j = k
        · subst e; rw [← hb, ht]
        · exact h5 j hj (by omega))
      clear h1 h5 IN HX
      obtain ⟨b, hb⟩ : ∃ b, b = nameS (namesS s)[k] := ⟨_, rfl⟩
      rw [← hb] at INk
      have HKb := Lib.hid (HK.out b hb)
      have HSb := Lib.hid (HS.out b hb)
      clear HK HS hb
      generalize (namesS s)[k] = x at *
      cases b with
      | true =>
        gi_wp2_with (refine ⟨trivial, ?_⟩; gi_at_call 151; refine (CallsIn.inRound l (callsIn_wide.2 INk.out)).mono ?_; rintro e w' ⟨rfl, hb'⟩)
        have hsz := hb'.size
        exact ⟨H1.out.trans (hb'.mono H1.out.size), (hb'.cell (p := ⟨w.heap.size, 0, none⟩) h4).trans h2, (hb'.frozen (p := ⟨w.heap.size, 0, none⟩) h4).trans h3, by omega, HSb.out trivial⟩
      | false =>
        gi_wp2_with (refine ⟨trivial, ?_⟩; gi_at_call 151; refine (CallsIn.inRound l (callsIn_wide.2 INk.out)).mono ?_; rintro e w' ⟨rfl, hb'⟩; have c2 := (hb'.cell (p := ⟨w.heap.size, 0, none⟩) h4).trans h2; have f2 := (hb'.frozen (p := ⟨w.heap.size, 0, none⟩) h4).trans h3)
        have hsz := hb'.size
        exact ⟨(Kept.new hb' (fun x => x = w.heap.size)).setCell (p := ⟨w.heap.size, 0, none⟩) rfl _, (H1.out.trans (hb'.mono H1.out.size)).setCell (p := ⟨w.heap.size, 0, none⟩) (Nat.le_refl _) _, by omega, HKb.out trivial⟩
    case done =>
      rintro D W hD ⟨h1, h2, h3, h4, h5⟩ hK
      have HR := Lib.hid (show pathS s = 0 by
        unfold pathS
        rw [if_neg h200, if_pos]
        rw [List.all_eq_true]
        intro x hx
        obtain ⟨j, hj, rfl⟩ := List.mem_iff_getElem.1 hx
        exact h5 j hj hj)
      clear h5
      have hD2 : (W.setCell ⟨w.heap.size, 0, none⟩ (.int .i64 0)).heap[D]? = some (.deferred (some [])) := (Below.heap_setCell _ _ _ _ (by have := SZ.out; simp; omega)).trans hK
      have hc2 : (W.setCell ⟨w.heap.size, 0, none⟩ (.int .i64 0)).cell? ⟨w.heap.size, 0, none⟩ = some (.int .i64 0) := World.cell?_setCell_same' _ _ _ (by rw [h2]; rfl)
      have hB2 := Lib.hid (h1.setCell (p := ⟨w.heap.size, 0, none⟩) (Nat.le_refl _) (.int .i64 0))
      clear h1
      gi_wp2
      generalize W.setCell ⟨w.heap.size, 0, none⟩ (.int .i64 0) = W2 at *
      have hP : Below w.heap.size W2 (W2.putObj D (.deferred none)) := (Below.refl _ W2).grown (grownBy_putObj' W2 _ _) (by have := hB2.out.size; omega) (fun k e => by cases e; have := SZ.out; omega)
      refine ⟨by simp, .inl ⟨_, _, rfl, run_takeDeferred hD2, ?_⟩⟩
      refine ⟨_, results_cell1 Tryz.results128 _ _ _ _ rfl Tryz.underlying37 rfl ((World.cell?_of_block (w := W2) (a := ⟨w.heap.size, 0, none⟩) (World.putObj_heap_other (by have := SZ.out; simp; omega))).trans hc2), ?_, hB2.out.trans hP⟩
      rw [HR.out]
    case stop =>
      rintro D W hD ⟨h1, h2, h4, h5⟩ hK
      gi_wp2
      have hP : Below w.heap.size W (W.putObj D (.deferred none)) := (Below.refl _ W).grown (grownBy_putObj' W _ _) (by omega) (fun k e => by cases e; have := SZ.out; omega)
      refine ⟨by simp, .inl ⟨_, _, rfl, run_takeDeferred hK, ?_⟩⟩
      refine ⟨_, results_cell1 Tryz.results128 _ _ _ _ rfl Tryz.underlying37 rfl ((World.cell?_of_block (w := W) (a := ⟨w.heap.size, 0, none⟩) (World.putObj_heap_other (by have := SZ.out; simp; omega))).trans h2), ?_, h1.trans hP⟩
      rw [h5]
end Go.Proofs.YtamiacmnobklaaaGreatDoor

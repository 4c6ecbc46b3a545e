/- Several texts in one: ReadItW, OfTW. -/
import Derived.Test.YtamiacmnobklaaaGreatDoorBldShelf
import Derived.Test.YtamiacmnobklaaaGreatDoorFtX
import Derived.Test.YtamiacmnobklaaaGreatDoorFrame
import Derived.Test.YtamiacmnobklaaaGreatDoorGen
import Derived.Test.YtamiacmnobklaaaGreatDoorMarkMath
import Derived.Test.YtamiacmnobklaaaGreatDoorOmX
import Derived.Test.YtamiacmnobklaaaGreatDoorOwnL
import Derived.Test.YtamiacmnobklaaaGreatDoorPtX
import Derived.Test.YtamiacmnobklaaaGreatDoorPickedTW
import Derived.Test.YtamiacmnobklaaaGreatDoorProg
import Derived.Test.YtamiacmnobklaaaGreatDoorCdX
import Derived.Test.YtamiacmnobklaaaGreatDoorRefMbW
import Derived.Test.YtamiacmnobklaaaGreatDoorRefNumW
import Derived.Test.YtamiacmnobklaaaGreatDoorRefOfTW
import Derived.Test.YtamiacmnobklaaaGreatDoorRefReadW
import Derived.Test.YtamiacmnobklaaaGreatDoorRowN
import Derived.Test.YtamiacmnobklaaaGreatDoorRows
import Derived.Test.YtamiacmnobklaaaGreatDoorShelf
import Derived.Test.YtamiacmnobklaaaGreatDoorSoX
import Derived.Test.YtamiacmnobklaaaGreatDoorTmX
import Derived.Test.YtamiacmnobklaaaGreatDoorTBytesW
import Derived.Test.YtamiacmnobklaaaGreatDoorTreeMath
import Derived.BigQuiet
import Derived.BigRegion
import Derived.Deep.Cut
import Derived.Deep.CutRange
import Derived.Deep.DeepCutAuto
import Derived.Deep.QuietTactic
import Derived.Deep.RegionHeld
import Derived.Deep.Slices
import Derived.Deep.Strs
import Derived.Laws.Externs
import Derived.Laws.OwnMore
import Derived.Laws.RangeAny
import Derived.Laws.ResultCell
import Derived.Lib.AppendStr
import Derived.Lib.Builder
import Derived.Lib.Hide
import Derived.Lib.SmallJoins
import Derived.Lib.Strings
import Derived.Lib.Walk
import Derived.LoopIn
import Derived.LoopNIn
import Derived.LoopTactic
import Derived.Outline
import Derived.OwnWalkIn
import Derived.RangeFuncBound
import Derived.RangeFuncCalls
import Derived.RangeFuncLeaves
import Derived.RangeFuncNested
import Derived.Shelf.Abstract
import Derived.Shelf.RegionOpen
import Derived.Shelf.Strings.SplitCore
import Derived.StillTail
import Derived.TacticsInMore
import Derived.WalkKit
import Derived.WalkLawsBesides
import Derived.WalkSpells
import Derived.Test.YtamiacmnobklaaaGreatDoorArX
import Derived.Test.YtamiacmnobklaaaGreatDoorPthX
import Derived.Test.YtamiacmnobklaaaGreatDoorRfX
import Derived.Test.YtamiacmnobklaaaGreatDoorTcX
import Derived.Laws.IdiomStrings
/- Landed tree: readItem, walked. -/
set_option linter.unusedVariables false
namespace Go.Proofs.YtamiacmnobklaaaGreatDoor
open Go.RowKit

def zeroI : ItemD := ⟨[], 0, 0, []⟩
/-- What readItem tells: the item, the error, the reader behind it. -/
def readS (s : RS) (last : Txt) : ItemD × Int :=
  if (oneR s).r.e ≠ 0 then (zeroI, (oneR s).r.e) else if shareBad last (oneR s).n (oneR s).rest then (zeroI, 5) else (⟨last.take (oneR s).n.toNat ++ (oneR s).rest, (oneR s).mode, (oneR s).size, (oneR s).mark⟩, 0)
/-- An item in block b. -/
def IB (w : World) (b : Nat) (x : ItemD) : Prop := w.heap[b]? = some (.cells #[.string ⟨x.path.toArray⟩, .int .i64 x.mode, .int .i64 x.size, .string ⟨x.mark.toArray⟩] 78 (0, 0))
section
variable {w w' : World} {b : Nat} {x : ItemD}
theorem IB.c0 (h : IB w b x) : w.cell? ⟨b, 0, none⟩ = some (.string ⟨x.path.toArray⟩) := by rw [cell_of_row _ _ _ _ _ _ h]; rfl
theorem IB.c1 (h : IB w b x) : w.cell? ⟨b, 1, none⟩ = some (.int .i64 x.mode) := by rw [cell_of_row _ _ _ _ _ _ h]; rfl
theorem IB.c2 (h : IB w b x) : w.cell? ⟨b, 2, none⟩ = some (.int .i64 x.size) := by rw [cell_of_row _ _ _ _ _ _ h]; rfl
theorem IB.c3 (h : IB w b x) : w.cell? ⟨b, 3, none⟩ = some (.string ⟨x.mark.toArray⟩) := by rw [cell_of_row _ _ _ _ _ _ h]; rfl
theorem IB.f (h : IB w b x) (j : Nat) : w.frozen? ⟨b, j, none⟩ = false := frozen_of_row _ _ _ _ _ h
theorem IB.lt (h : IB w b x) : b < w.heap.size := (Array.getElem?_eq_some_iff.1 h).1
theorem IB.kept {M : Nat → Prop} (h : IB w b x) (hk : Kept M w w') (hm : ¬ M b) : IB w' b x := hk.old h hm
theorem IB.s0 (h : IB w b x) (p : Txt) : IB (w.setCell ⟨b, 0, none⟩ (.string ⟨p.toArray⟩)) b ⟨p, x.mode, x.size, x.mark⟩ := heap_setCell_same w b 0 _ _ _ h
theorem IB.s1 (h : IB w b x) (m : Int) : IB (w.setCell ⟨b, 1, none⟩ (.int .i64 m)) b ⟨x.path, m, x.size, x.mark⟩ := heap_setCell_same w b 1 _ _ _ h
theorem IB.s2 (h : IB w b x) (z : Int) : IB (w.setCell ⟨b, 2, none⟩ (.int .i64 z)) b ⟨x.path, x.mode, z, x.mark⟩ := heap_setCell_same w b 2 _ _ _ h
theorem IB.s3 (h : IB w b x) (k : Txt) : IB (w.setCell ⟨b, 3, none⟩ (.string ⟨k.toArray⟩)) b ⟨x.path, x.mode, x.size, k⟩ := heap_setCell_same w b 3 _ _ _ h
end
theorem setCell_kept (w : World) (b j : Nat) (v : Value) : Kept (· = b) w (w.setCell ⟨b, j, none⟩ v) := (Kept.refl (· = b) w).setCell (p := ⟨b, j, none⟩) rfl v
/-- The state between two steps. -/
structure RI (w W : World) (g : Nat) (s : RS) (x : ItemD) : Prop where
  rd : Rd W g s
  i4 : IB W w.heap.size zeroI
  i6 : IB W (w.heap.size + 1) x
  kp : Kept (· = g) w W
  lt : g < w.heap.size
theorem Kept.on_new {w a b : World} {g : Nat} {N : Nat → Prop} (h : Kept (· = g) w a) (k : Kept N a b) (hn : ∀ i, i < w.heap.size → N i → i = g) : Kept (· = g) w b :=
  ⟨k.os.trans h.os, k.tape.trans h.tape, k.output.trans h.output, Nat.le_trans h.size k.size, fun i hi hm => (k.block i (Nat.lt_of_lt_of_le hi h.size) (fun n => hm (hn i hi n))).trans (h.block i hi hm)⟩
section
variable {w W W' : World} {g : Nat} {s s' : RS} {x : ItemD}
theorem RI.does (h : RI w W g s x) (hr : Rd W' g s') (hk : Kept (· = g) W W') : RI w W' g s' x :=
  ⟨hr, h.i4.kept hk (fun e => by have := h.lt; omega), h.i6.kept hk (fun e => by have := h.lt; omega), h.kp.on_new hk (fun _ _ e => e), h.lt⟩
theorem RI.new (h : RI w W g s x) (hb : Below W.heap.size W W') : RI w W' g s x :=
  ⟨h.rd.kept (Kept.new hb (fun _ => False)) id, h.i4.kept (Kept.new hb (fun _ => False)) id, h.i6.kept (Kept.new hb (fun _ => False)) id, h.kp.on_new (Kept.new hb (fun _ => False)) (fun _ _ e => e.elim), h.lt⟩
theorem RI.put (h : RI w W g s x) {j : Nat} {v : Value} {y : ItemD} (hy : IB (W.setCell ⟨w.heap.size + 1, j, none⟩ v) (w.heap.size + 1) y) : RI w (W.setCell ⟨w.heap.size + 1, j, none⟩ v) g s y :=
  ⟨h.rd.kept (setCell_kept W _ j v) (fun e => by have := h.lt; omega), h.i4.kept (setCell_kept W _ j v) (fun e => by omega), hy, h.kp.on_new (setCell_kept W _ j v) (fun i hi e => by omega), h.lt⟩
end
/-- An item stored into the result's block, field by field. -/
def putI (W : World) (b : Nat) (y : ItemD) : World := (((W.setCell ⟨b, 0, none⟩ (.string ⟨y.path.toArray⟩)).setCell ⟨b, 1, none⟩ (.int .i64 y.mode)).setCell ⟨b, 2, none⟩ (.int .i64 y.size)).setCell ⟨b, 3, none⟩ (.string ⟨y.mark.toArray⟩)
theorem putI_ib {W : World} {b : Nat} {x : ItemD} (h : IB W b x) (y : ItemD) : IB (putI W b y) b y := (((h.s0 y.path).s1 y.mode).s2 y.size).s3 y.mark
theorem putI_kept (W : World) (b : Nat) (y : ItemD) : Kept (· = b) W (putI W b y) := (((setCell_kept W b 0 _).trans (setCell_kept _ b 1 _)).trans (setCell_kept _ b 2 _)).trans (setCell_kept _ b 3 _)
theorem item_size : (Tryz.prog.info? 78).map (·.size) = some 4 := by kernel_rfl
theorem results_item {fn : Func} {p u : Tmp} (h : fn.results = #[.cell p 78, .tmp u]) (tmps : Array Value) (w : World) (b : Nat) (y : ItemD) (hp : tmps.getD p undef = .pointer (some ⟨b, 0, none⟩)) (hy : IB w b y) :
    (results fn tmps).run Tryz.prog w = .ok (.tuple #[.agg #[.string ⟨y.path.toArray⟩, .int .i64 y.mode, .int .i64 y.size, .string ⟨y.mark.toArray⟩], tmps.getD u undef]) w := by
  rw [results_cell_tmp h, hp]
  have hl := run_loadVar_row (P := Tryz.prog) w b 78 78 _ _ _ hy Tryz.underlying78 rfl item_size
  simp [asAddr, Result.andThen, hl]
theorem rCount_small (s : RS) (most : Nat) (h : s.ok) : ∃ c : Nat, (rCount s (most : Int)).1 = (c : Int) ∧ c ≤ most := by
  obtain ⟨c, hc, _, _⟩ := rCount_nat s (most : Int) h
  refine ⟨c, hc, ?_⟩
  rcases rCount_cases s (most : Int) h with ⟨h1, _⟩ | ⟨_, h2, h3⟩
  · omega
  · rw [h2] at hc; omega
theorem rRaw_len32 (s : RS) : (rRaw s 32).1.length ≤ 32 := by
  by_cases he : s.e = 0
  · by_cases hl : 32 ≤ s.l.length
    · have := rRaw_all s 32 he hl
      rw [show ((32 : Nat) : Int) = 32 from rfl] at this
      rw [this, List.length_take]; omega
    · rw [rRaw_long s 32 (by decide) (by omega)]; simp
  · rw [rRaw_err s 32 he]; simp
/-- What of one item is read, step by step. -/
theorem oneR_steps (s : RS) (h : s.ok) : ∃ (c : Nat) (s1 : RS) (t : Txt) (s2 : RS) (md : Int) (s3 : RS) (sz : Int) (s4 : RS) (mk : Txt) (s5 : RS), rCount s 200 = ((c : Int), s1) ∧ rText s1 200 = (t, s2) ∧ rNum s2 = (md, s3) ∧ rNum s3 = (sz, s4) ∧ rRaw s4 32 = (mk, s5) ∧
    oneR s = ⟨(c : Int), t, md, sz, mk, s5⟩ ∧ c ≤ 200 ∧ t.length ≤ 200 ∧ mk.length ≤ 32 ∧ s1.ok ∧ s2.ok ∧ s3.ok ∧ s4.ok ∧ s5.ok := by
  obtain ⟨c, hc, hc2⟩ := rCount_small s 200 h
  have k1 := rCount_ok s 200 h
  have k2 := rText_ok (rCount s 200).2 200 k1
  have k3 := rNum_ok _ k2
  have k4 := rNum_ok _ k3
  have k5 := rRaw_ok _ 32 k4
  have hc' : (rCount s 200).1 = (c : Int) := hc
  refine ⟨c, (rCount s 200).2, (rText (rCount s 200).2 200).1, (rText (rCount s 200).2 200).2, (rNum (rText (rCount s 200).2 200).2).1, (rNum (rText (rCount s 200).2 200).2).2, (rNum (rNum (rText (rCount s 200).2 200).2).2).1, (rNum (rNum (rText (rCount s 200).2 200).2).2).2,
    (rRaw (rNum (rNum (rText (rCount s 200).2 200).2).2).2 32).1, (rRaw (rNum (rNum (rText (rCount s 200).2 200).2).2).2 32).2, Prod.ext hc' rfl, rfl, rfl, rfl, rfl, ?_, hc2, rText_len_le _ k1 200, rRaw_len32 _, k1, k2, k3, k4, k5⟩
  unfold oneR
  dsimp only
  rw [hc']
theorem readS_of {s : RS} {last : Txt} {n : Int} {t : Txt} {md sz : Int} {mk : Txt} {r : RS} (h : oneR s = ⟨n, t, md, sz, mk, r⟩) :
    readS s last = if r.e ≠ 0 then (zeroI, r.e) else if shareBad last n t then (zeroI, 5) else (⟨last.take n.toNat ++ t, md, sz, mk⟩, 0) := by
  unfold readS
  rw [h]
set_option maxRecDepth 100000 in
set_option maxHeartbeats 2000000 in
theorem readItem_any (w : World) (g : Nat) (s : RS) (last : Txt) (h : Rd w g s) (hok : s.ok) (hl : last.length ≤ 1000000) :
    Calls Tryz.prog 95 #[ptr g, .string ⟨last.toArray⟩] w fun e w' => e = .returned (.tuple #[.agg #[.string ⟨(readS s last).1.path.toArray⟩, .int .i64 (readS s last).1.mode, .int .i64 (readS s last).1.size, .string ⟨(readS s last).1.mark.toArray⟩], .int .i64 (readS s last).2]) ∧ Rd w' g (oneR s).r ∧ Kept (· = g) w w' := by
  obtain ⟨c, s1, t, s2, md, s3, sz, s4, mk, s5, h1, h2, h3, h4, h5, hor, hc, ht, hmk, ok1, ok2, ok3, ok4, ok5⟩ := oneR_steps s hok
  have HRS := Lib.hid (readS_of (last := last) hor)
  have HR5 := Lib.hid (show (oneR s).r = s5 by rw [hor])
  rw [HR5.out]
  have CN := Lib.hid (fun w' (hr : Rd w' g s) => count_any w' g s 200 hr hok)
  have TX := Lib.hid (fun w' (hr : Rd w' g s1) => text_any w' g s1 200 hr ok1)
  have N1 := Lib.hid (fun w' (hr : Rd w' g s2) => rnum_any w' g s2 hr ok2)
  have N2 := Lib.hid (fun w' (hr : Rd w' g s3) => rnum_any w' g s3 hr ok3)
  have RW := Lib.hid (fun w' (hr : Rd w' g s4) => raw_any w' g s4 32 hr ok4)
  have ER := Lib.hid (fun w' (hr : Rd w' g s5) => err_any w' g s5 hr)
  rw [h1] at CN
  rw [h2] at TX
  rw [h3] at N1
  rw [h4] at N2
  rw [h5] at RW
  generalize readS s last = res at *
  have hb0 : Below w.heap.size w (w.alloc (.cells #[.string ⟨#[]⟩, .int .i64 0, .int .i64 0, .string ⟨#[]⟩] 78)) := (Below.refl _ w).alloc (Nat.le_refl _) _
  have hb1 := hb0.alloc (by simp) (.cells #[.string ⟨#[]⟩, .int .i64 0, .int .i64 0, .string ⟨#[]⟩] 78)
  have R0 := Lib.hid (show RI w ((w.alloc (.cells #[.string ⟨#[]⟩, .int .i64 0, .int .i64 0, .string ⟨#[]⟩] 78)).alloc (.cells #[.string ⟨#[]⟩, .int .i64 0, .int .i64 0, .string ⟨#[]⟩] 78)) g s zeroI from
    ⟨h.kept (Kept.new hb1 (fun _ => False)) id, (Below.heap_alloc _ _ _ (by simp)).trans (heap_alloc_new w _), by
      have := heap_alloc_new (w.alloc (.cells #[.string ⟨#[]⟩, .int .i64 0, .int .i64 0, .string ⟨#[]⟩] 78)) (.cells #[.string ⟨#[]⟩, .int .i64 0, .int .i64 0, .string ⟨#[]⟩] 78)
      rw [World.size_alloc] at this
      exact this, Kept.new hb1 _, h.lt⟩)
  go_enter Tryz.func95, Tryz.ntmps95
  clear h1 h2 h3 h4 h5 hor hb0 hb1 h hok
  go_wp2_with fail
  generalize (w.alloc (.cells #[.string ⟨#[]⟩, .int .i64 0, .int .i64 0, .string ⟨#[]⟩] 78)).alloc (.cells #[.string ⟨#[]⟩, .int .i64 0, .int .i64 0, .string ⟨#[]⟩] 78) = w0 at *
  refine (CN.out w0 R0.out.rd).mono ?_
  rintro e w1 ⟨rfl, hr1, hk1⟩
  have R1 := Lib.hid (R0.out.does hr1 hk1)
  clear hr1 hk1 R0 CN
  go_wp2_with fail
  refine (TX.out w1 R1.out.rd).mono ?_
  rintro e w2 ⟨rfl, hr2, hk2⟩
  have R2 := Lib.hid (R1.out.does hr2 hk2)
  clear hr2 hk2 R1 TX
  go_wp2_with fail
  refine (N1.out w2 R2.out.rd).mono ?_
  rintro e w3 ⟨rfl, hr3, hk3⟩
  have R3 := Lib.hid (R2.out.does hr3 hk3)
  have c3 := R3.out.i6.c1
  have f3 := R3.out.i6.f 1
  have R3' := Lib.hid (R3.out.put (R3.out.i6.s1 md))
  clear hr3 hk3 R2 N1
  go_wp2_with fail
  generalize w3.setCell ⟨w.heap.size + 1, 1, none⟩ (.int .i64 md) = w3' at *
  clear c3 f3 R3
  refine (N2.out w3' R3'.out.rd).mono ?_
  rintro e w4 ⟨rfl, hr4, hk4⟩
  have R4 := Lib.hid (R3'.out.does hr4 hk4)
  have c4 := R4.out.i6.c2
  have f4 := R4.out.i6.f 2
  have R4' := Lib.hid (R4.out.put (R4.out.i6.s2 sz))
  clear hr4 hk4 R3' N2
  go_wp2_with fail
  generalize w4.setCell ⟨w.heap.size + 1, 2, none⟩ (.int .i64 sz) = w4' at *
  clear c4 f4 R4
  refine (RW.out w4' R4'.out.rd).mono ?_
  rintro e w5 ⟨rfl, hr5, hk5⟩
  have R5 := Lib.hid (R4'.out.does hr5 hk5)
  have CL := Lib.hid (tclone_any mk w5 (by omega))
  clear hr5 hk5 R4' RW
  go_wp2_with fail
  refine CL.out.mono ?_
  rintro e w6 ⟨rfl, hb6⟩
  have R6 := Lib.hid (R5.out.new hb6)
  have c6 := R6.out.i6.c3
  have f6 := R6.out.i6.f 3
  have R6' := Lib.hid (R6.out.put (R6.out.i6.s3 mk))
  clear hb6 R5 CL
  go_wp2_with fail
  generalize w6.setCell ⟨w.heap.size + 1, 3, none⟩ (.string ⟨mk.toArray⟩) = w7 at *
  clear c6 f6 R6
  refine (ER.out w7 R6'.out.rd).mono ?_
  rintro e w8 ⟨rfl, rfl⟩
  have HLT := Lib.hid R6'.out.lt
  have z0 := R6'.out.i4.c0
  have z1 := R6'.out.i4.c1
  have z2 := R6'.out.i4.c2
  have z3 := R6'.out.i4.c3
  have y0 := R6'.out.i4.f 0
  have y1 := R6'.out.i4.f 1
  have y2 := R6'.out.i4.f 2
  have y3 := R6'.out.i4.f 3
  have PT := Lib.hid (fun y => putI_ib R6'.out.i4 y)
  have PR := Lib.hid (fun y => R6'.out.rd.kept (putI_kept w8 w.heap.size y) (fun e => by have := HLT.out; omega))
  have PK := Lib.hid (fun y => R6'.out.kp.on_new (putI_kept w8 w.heap.size y) (fun i hi e => by omega))
  by_cases he : s5.e = 0
  · have q1 : (s5.e != 0) = false := by simp [he]
    by_cases hcl : last.length < c
    · have q2 : (last.length : Int) < (c : Int) := by omega
      have HF := Lib.hid (show res = (zeroI, 5) by rw [HRS.out, if_neg (fun h => h he), if_pos (show shareBad last (c : Int) t from .inl q2)])
      clear he hcl
      generalize s5.e = e5 at *
      unfold zeroI at z0 z1 z2 z3
      dsimp only at z0 z1 z2 z3
      go_wp2_with fail
      exact bodyPost_ret (results_item Tryz.results95 _ _ w.heap.size zeroI rfl (PT.out zeroI)) rfl ⟨by rw [HF.out]; rfl, PR.out zeroI, PK.out zeroI⟩
    · have q2 : ¬ (last.length : Int) < (c : Int) := by omega
      have q3 : (c : Int) ≤ (last.length : Int) := by omega
      have q4 : (0 : Int) ≤ (c : Int) := by omega
      have EX := Lib.hid (show (⟨last.toArray⟩ : ByteArray).extract 0 c = ⟨(last.take c).toArray⟩ from take_toArray last c)
      have SL := Lib.hid (show (⟨last.toArray⟩ : ByteArray).size = last.length from rfl)
      have hsum : ¬ 9223372036854775807 < (last.take c).length + t.length := by rw [List.length_take]; omega
      have HRS2 := Lib.hid (show res = if sharedS last (last.take c ++ t) = c then (⟨last.take c ++ t, md, sz, mk⟩, 0) else (zeroI, 5) by
        rw [HRS.out, if_neg (fun h => h he)]
        have e1 : ((c : Int)).toNat = c := by omega
        by_cases hsh : sharedS last (last.take c ++ t) = c
        · rw [if_neg (show ¬ shareBad last (c : Int) t from by unfold shareBad; rw [e1]; omega), if_pos hsh, e1]
        · rw [if_pos (show shareBad last (c : Int) t from by unfold shareBad; rw [e1]; omega), if_neg hsh])
      have hpl : (last.take c ++ t).length ≤ 1000400 := by rw [List.length_append, List.length_take]; omega
      generalize s5.e = e5 at *
      clear HRS he hcl z0 z1 z2 z3 y0 y1 y2 y3 PT PR PK
      have CP := fun w' => Lib.hid (tclone_any (last.take c ++ t) w' (by omega))
      have AL := fun w' => Lib.hid (alike_any last (last.take c ++ t) w' (by omega) (by omega))
      generalize sharedS last (last.take c ++ t) = sh at *
      have HCAT := Lib.hid (cat2 (last.take c) t)
      generalize last.take c = tk at *
      go_wp2_with fail
      rw [EX.out, HCAT.out]
      clear HCAT
      generalize tk ++ t = pth at *
      refine (CP _).out.mono ?_
      rintro e w9 ⟨rfl, hb9⟩
      have R9 := Lib.hid (R6'.out.new hb9)
      have c9 := R9.out.i6.c0
      have f9 := R9.out.i6.f 0
      have R9' := Lib.hid (R9.out.put (R9.out.i6.s0 pth))
      clear hb9 R6' CP
      go_wp2_with fail
      generalize w9.setCell ⟨w.heap.size + 1, 0, none⟩ (.string ⟨pth.toArray⟩) = w10 at *
      clear c9 f9 R9
      have c10 := R9'.out.i6.c0
      dsimp only at c10
      go_wp2_with fail
      refine (AL _).out.mono ?_
      rintro e w11 ⟨rfl, hb11⟩
      have R11 := Lib.hid (R9'.out.new hb11)
      clear hb11 R9' AL c10
      have z0 := R11.out.i4.c0
      have z1 := R11.out.i4.c1
      have z2 := R11.out.i4.c2
      have z3 := R11.out.i4.c3
      have y0 := R11.out.i4.f 0
      have y1 := R11.out.i4.f 1
      have y2 := R11.out.i4.f 2
      have y3 := R11.out.i4.f 3
      have PT := Lib.hid (fun y => putI_ib R11.out.i4 y)
      have PR := Lib.hid (fun y => R11.out.rd.kept (putI_kept w11 w.heap.size y) (fun e => by have := HLT.out; omega))
      have PK := Lib.hid (fun y => R11.out.kp.on_new (putI_kept w11 w.heap.size y) (fun i hi e => by omega))
      unfold zeroI at z0 z1 z2 z3
      dsimp only at z0 z1 z2 z3
      by_cases hsh : sh = c
      · have q5 : ((sh : Int) != (c : Int)) = false := by rw [hsh]; simp
        have HF := Lib.hid (show res = (⟨pth, md, sz, mk⟩, 0) by rw [HRS2.out, if_pos hsh])
        have x0 := R11.out.i6.c0
        have x1 := R11.out.i6.c1
        have x2 := R11.out.i6.c2
        have x3 := R11.out.i6.c3
        dsimp only at x0 x1 x2 x3
        clear hsh HRS2
        go_wp2_with fail
        exact bodyPost_ret (results_item Tryz.results95 _ _ w.heap.size ⟨pth, md, sz, mk⟩ rfl (PT.out ⟨pth, md, sz, mk⟩)) rfl ⟨by rw [HF.out]; rfl, PR.out ⟨pth, md, sz, mk⟩, PK.out ⟨pth, md, sz, mk⟩⟩
      · have q5 : ((sh : Int) != (c : Int)) = true := by rw [bne_iff_ne]; omega
        have HF := Lib.hid (show res = (zeroI, 5) by rw [HRS2.out, if_neg hsh])
        clear hsh HRS2
        go_wp2_with fail
        exact bodyPost_ret (results_item Tryz.results95 _ _ w.heap.size zeroI rfl (PT.out zeroI)) rfl ⟨by rw [HF.out]; rfl, PR.out zeroI, PK.out zeroI⟩
  · have q1 : (s5.e != 0) = true := by simp [he]
    have HF := Lib.hid (show res = (zeroI, s5.e) by rw [HRS.out, if_pos he])
    generalize s5.e = e5 at *
    unfold zeroI at z0 z1 z2 z3
    dsimp only at z0 z1 z2 z3
    clear he
    go_wp2_with fail
    exact bodyPost_ret (results_item Tryz.results95 _ _ w.heap.size zeroI rfl (PT.out zeroI)) rfl ⟨by rw [HF.out]; rfl, PR.out zeroI, PK.out zeroI⟩
end Go.Proofs.YtamiacmnobklaaaGreatDoor
/- Landed tree: Of, walked. -/
set_option linter.unusedVariables false
namespace Go.Proofs.YtamiacmnobklaaaGreatDoor
open Go.RowKit

/-- Item by item: as readItem tells it. -/
theorem ofF_step (k : Nat) (r : RS) (last : Txt) (out : List ItemD) : ofF (k + 1) r last out =
    if (readS r last).2 ≠ 0 then ([], (readS r last).2, (oneR r).r) else ofF k (oneR r).r (readS r last).1.path (out ++ [(readS r last).1]) := by
  show (if (oneR r).r.e ≠ 0 then ([], (oneR r).r.e, (oneR r).r) else if shareBad last (oneR r).n (oneR r).rest then ([], 5, (oneR r).r) else _) = _
  by_cases h1 : (oneR r).r.e ≠ 0
  · have e : readS r last = (zeroI, (oneR r).r.e) := by unfold readS; rw [if_pos h1]
    rw [e, if_pos h1, if_pos h1]
  · by_cases h2 : shareBad last (oneR r).n (oneR r).rest
    · have e : readS r last = (zeroI, 5) := by unfold readS; rw [if_neg h1, if_pos h2]
      rw [e, if_neg h1, if_pos h2, if_pos (show ((5 : Int) ≠ 0) from by decide)]
    · have e : readS r last = (⟨last.take (oneR r).n.toNat ++ (oneR r).rest, (oneR r).mode, (oneR r).size, (oneR r).mark⟩, 0) := by unfold readS; rw [if_neg h1, if_neg h2]
      rw [e, if_neg h1, if_neg h2, if_neg (show ¬ ((0 : Int) ≠ 0) from by decide)]
theorem readS_len (r : RS) (last : Txt) (h : r.ok) (hl : last.length ≤ 400) : (readS r last).1.path.length ≤ 400 ∧ (readS r last).1.mark.length ≤ 32 := by
  obtain ⟨c, s1, t, s2, md, s3, sz, s4, mk, s5, _, _, _, _, _, hor, hc, ht, hmk, _⟩ := oneR_steps r h
  rw [readS_of hor]
  by_cases h1 : s5.e ≠ 0
  · rw [if_pos h1]; exact ⟨by simp [zeroI], by simp [zeroI]⟩
  · rw [if_neg h1]
    by_cases h2 : shareBad last (c : Int) t
    · rw [if_pos h2]; exact ⟨by simp [zeroI], by simp [zeroI]⟩
    · rw [if_neg h2]
      refine ⟨?_, hmk⟩
      show (last.take ((c : Int)).toNat ++ t).length ≤ 400
      rw [List.length_append, List.length_take]
      omega
theorem readS_itok (r : RS) (last : Txt) (h : r.ok) (hl : last.length ≤ 400) : ItemOk (readS r last).1 := by
  obtain ⟨hp, hk⟩ := readS_len r last h hl
  obtain ⟨c, s1, t, s2, md, s3, sz, s4, mk, s5, _, _, h3, h4, _, hor, _, _, _, _, k2, k3, _⟩ := oneR_steps r h
  obtain ⟨m, hm, hm2⟩ := rNum_natT s2 k2
  obtain ⟨z, hz, hz2⟩ := rNum_natT s3 k3
  rw [h3] at hm
  rw [h4] at hz
  dsimp only at hm hz
  have key : (readS r last).1.mode = md ∧ (readS r last).1.size = sz ∨ (readS r last).1.mode = 0 ∧ (readS r last).1.size = 0 := by
    rw [readS_of hor]
    by_cases h1 : s5.e ≠ 0
    · rw [if_pos h1]; exact .inr ⟨rfl, rfl⟩
    · rw [if_neg h1]
      by_cases h2 : shareBad last (c : Int) t
      · rw [if_pos h2]; exact .inr ⟨rfl, rfl⟩
      · rw [if_neg h2]; exact .inl ⟨rfl, rfl⟩
  refine ⟨by omega, ?_, ?_, by omega⟩ <;> rcases key with ⟨a, b⟩ | ⟨a, b⟩ <;> omega
theorem OwnN.rd {w w' : World} {base g : Nat} {v : Value} {xs : List ItemD} {s : RS} (h : OwnN encI 4 w base 78 v xs) (hr : Rd w g s) (hk : Kept (· = g) w w') : OwnN encI 4 w' base 78 v xs := by
  refine own_off h hk (fun g' cur hg _ e => ?_)
  have e' : g' = g := e
  subst e'
  rw [show w.heap[g']? = _ from hr] at hg
  injection hg with hg
  injection hg with _ hg _
  exact absurd hg (by decide)
theorem OwnN.ne_rd {w : World} {base g : Nat} {v : Value} {xs : List ItemD} {s : RS} (h : OwnN encI 4 w base 78 v xs) (hr : Rd w g s) : ¬ v.ownBlock = some g := by
  intro e
  obtain ⟨_, _, cur, hc⟩ := h.lt e
  rw [show w.heap[g]? = _ from hr] at hc
  injection hc with hc
  injection hc with _ hc _
  exact absurd hc (by decide)
theorem oneR_left (s : RS) (h : s.ok) : (oneR s).r.ok := by
  obtain ⟨_, _, _, _, _, _, _, _, _, _, _, _, _, _, _, hor, _, _, _, _, _, _, _, k⟩ := oneR_steps s h
  rw [hor]; exact k
set_option maxRecDepth 100000 in
set_option maxHeartbeats 2000000 in
theorem tOf_at (s : Txt) (w : World) (hs : s.length ≤ 100000) :
    Calls Tryz.prog 62 #[.string ⟨s.toArray⟩] w fun e w' => ∃ v', e = .returned (.tuple #[v', .int .i64 (ofS s).2]) ∧ RowN encI 4 (w.heap.size ≤ ·) w' v' (ofS s).1 ∧ Below w.heap.size w w' := by
  have hok0 : (⟨s, 0⟩ : RS).ok := .inl rfl
  have RD := Lib.hid (read_any s w)
  have CN := Lib.hid (fun w' (hr : Rd w' w.heap.size ⟨s, 0⟩) => count_any w' w.heap.size ⟨s, 0⟩ 256 hr hok0)
  obtain ⟨c0, hc0, hc256⟩ := rCount_small ⟨s, 0⟩ 256 hok0
  have hc0' : (rCount ⟨s, 0⟩ 256).1 = (c0 : Int) := hc0
  have hok1 := rCount_ok ⟨s, 0⟩ 256 hok0
  have HOF := Lib.hid (show ofS s = ofEnd (ofF c0 (rCount ⟨s, 0⟩ 256).2 [] []).1 (ofF c0 (rCount ⟨s, 0⟩ 256).2 [] []).2.1 (ofF c0 (rCount ⟨s, 0⟩ 256).2 [] []).2.2 by
    unfold ofS
    rw [hc0', Int.toNat_natCast])
  rw [hc0'] at CN
  generalize (rCount ⟨s, 0⟩ 256).2 = s1 at *
  generalize ofS s = res at *
  obtain ⟨FIN, hF⟩ : ∃ FIN, FIN = ofF c0 s1 [] [] := ⟨_, rfl⟩
  rw [← hF] at HOF
  have HF0 := Lib.hid (show ofF (c0 - 0) s1 [] [] = FIN from hF.symm)
  clear hF
  clear hc0 hc0' hok0
  go_enter Tryz.func62, Tryz.ntmps62
  go_wp2_with fail
  refine RD.out.mono ?_
  rintro e w1 ⟨rfl, hr1, hb1⟩
  have CN1 := Lib.hid (CN.out w1 hr1)
  have HB1 := Lib.hid hb1
  have hlt1 := hr1.lt
  clear hr1 hb1 RD CN
  go_wp2_with fail
  refine CN1.out.mono ?_
  rintro e w2 ⟨rfl, hr2, hk2⟩
  have HR2 := Lib.hid hr2
  have HB2 := Lib.hid (HB1.out.trans (hk2.below HB1.out.size (fun k e => by omega)))
  clear hr2 hk2 CN1 HB1 hlt1
  obtain ⟨g, hg⟩ : ∃ g, g = w.heap.size := ⟨_, rfl⟩
  rw [← hg] at HR2 ⊢
  have hgw : w.heap.size ≤ g := by omega
  clear hg
  go_wp2_with fail
  go_loopw [4, 6, 15] (fun v4 v6 v15 wr => ∃ (i : Nat) (out : List ItemD) (last : Txt) (r : RS), v15 = .int .i64 i ∧ i ≤ c0 ∧ OwnN encI 4 wr w.heap.size 78 v4 out ∧ v6 = .string ⟨last.toArray⟩ ∧ Rd wr g r ∧ r.ok ∧ last.length ≤ 400 ∧ out.length = i ∧ (∀ x ∈ out, ItemOk x) ∧ Hid (ofF (c0 - i) r last out = FIN) ∧ Below w.heap.size w wr) (fun _ _ v15 _ => c0 - (intOf v15).toNat)
  case atStart => exact ⟨0, [], [], s1, rfl, by omega, OwnN.nil _ _ _ _ _, rfl, HR2.out, hok1, by simp, rfl, fun x h => by simp at h, HF0, HB2.out⟩
  case round =>
    clear HR2 HB2 HF0 hok1
    obtain ⟨i, out, last, r, rfl, hi, hown, rfl, hrd, hrok, hll, hol, hio, HA, hbel⟩ := hrel
    have HB := Lib.hid hbel
    have HR := Lib.hid hrd
    have HO := Lib.hid hown
    have HIO := Lib.hid hio
    clear hbel hrd hown hio
    have i0 : (0 : Int) ≤ (i : Int) := by omega
    have hol2 : out.length ≤ 256 := by omega
    have HOL := Lib.hid hol
    clear hol
    obtain ⟨oa, om, oc, hv4⟩ := own_slice HO.out
    subst hv4
    by_cases hlt : i < c0
    · have j1 : (i : Int) < (c0 : Int) := by omega
      have RI := Lib.hid (readItem_any wr g r last HR.out hrok (by omega))
      have hrok2 := oneR_left r hrok
      have HIT := Lib.hid (readS_itok r last hrok hll)
      obtain ⟨hpl, hkl⟩ := readS_len r last hrok hll
      have HST := Lib.hid (show ofF (c0 - i) r last out = if (readS r last).2 ≠ 0 then ([], (readS r last).2, (oneR r).r) else ofF (c0 - (i + 1)) (oneR r).r (readS r last).1.path (out ++ [(readS r last).1]) by
        rw [show c0 - i = (c0 - (i + 1)) + 1 by omega]; exact ofF_step _ r last out)
      generalize readS r last = rs at *
      generalize (oneR r).r = r2 at *
      obtain ⟨⟨p, md, sz, mk⟩, er⟩ := rs
      dsimp only at RI HIT HST hpl hkl
      by_cases her : er = 0
      · have q1 : (er != 0) = false := by simp [her]
        have HN := Lib.hid (show ofF (c0 - (i + 1)) r2 p (out ++ [⟨p, md, sz, mk⟩]) = FIN by rw [← HA.out, HST.out]; exact (if_neg (fun h => h her)).symm)
        clear her HST HA
        go_wp2_with fail
        refine RI.out.mono ?_
        rintro e w3 ⟨rfl, hr3, hk3⟩
        have HO3 := Lib.hid (OwnN.rd HO.out HR.out hk3)
        have HB3 := Lib.hid (HB.out.trans (hk3.below HB.out.size (fun k e => by omega)))
        have hbw : Below w3.heap.size w3 (w3.alloc (.cells #[.string ⟨p.toArray⟩, .int .i64 md, .int .i64 sz, .string ⟨mk.toArray⟩] 78)) := (Below.refl _ w3).alloc (Nat.le_refl _) _
        have HNW := Lib.hid (heap_alloc_new w3 (.cells #[.string ⟨p.toArray⟩, .int .i64 md, .int .i64 sz, .string ⟨mk.toArray⟩] 78))
        have HO4 := Lib.hid (HO3.out.new hbw)
        have HR4 := Lib.hid (hr3.kept (Kept.new hbw (fun _ => False)) id)
        have HB4 := Lib.hid (HB3.out.trans (hbw.mono HB3.out.size))
        have HON := Lib.hid (fun e => (OwnN.lt HO3.out (g := w3.heap.size) e).2.1)
        have HSZ := Lib.hid (show (w3.alloc (.cells #[.string ⟨p.toArray⟩, .int .i64 md, .int .i64 sz, .string ⟨mk.toArray⟩] 78)).heap.size = w3.heap.size + 1 by simp)
        have HNR := Lib.hid (HO4.out.ne_rd HR4.out)
        clear hr3 hk3 HO3 HB3 hbw RI HO HR HB
        go_wp2_with (at_builtin; go_loud (refine append_new (enc := encI) (k := 4) (w := (w3.alloc (.cells #[.string ⟨p.toArray⟩, .int .i64 md, .int .i64 sz, .string ⟨mk.toArray⟩] 78))) (by rfl) (.tmp 26) (.tmp 28) 74 78 (.agg #[.string ByteArray.empty, .int .i64 0, .int .i64 0, .string ByteArray.empty]) 48 (by rfl) Tryz.underlying74 info_item (by rfl) (by decide) encI_ok w.heap.size _ out ⟨p, md, sz, mk⟩ (by rfl) HO4.out (by rw [HSZ.out]; rfl) (by omega) (by unfold maxLen; omega) HB4.out.size _ (by rfl) ?_; intro v7 w7 hown7 ht7; have c9 : w7.cell? ⟨w3.heap.size, 0, none⟩ = some (.string ⟨p.toArray⟩) := (cell_of_row _ _ _ _ _ _ (ht7.kept.old HNW.out (fun e => by have := HON.out e; omega))).trans rfl; have HR7 := Lib.hid (HR4.out.kept ht7.kept HNR.out); obtain ⟨va7, vm7, vc7, rfl⟩ := own_slice hown7; have HO7 := Lib.hid hown7; have HB7 := Lib.hid (HB4.out.trans ht7.bel); clear hown7 ht7))
        have HW7 := Lib.hid c9
        go_roundw
        case rel => exact ⟨i + 1, out ++ [⟨p, md, sz, mk⟩], p, r2, by go_num, hlt, HO7.out, rfl, HR7.out, hrok2, hpl, by rw [List.length_append]; have := HOL.out; simp; omega, fun x hx => by
          rw [List.mem_append, List.mem_singleton] at hx
          rcases hx with hx | rfl
          · exact HIO.out x hx
          · exact HIT.out, HN, HB7.out⟩
        case measure => simp [intOf]; omega
      · have q1 : (er != 0) = true := by simp [her]
        have HE := Lib.hid (show FIN = ([], er, r2) by rw [← HA.out, HST.out]; exact if_pos her)
        have HRE := Lib.hid (show res = ([], er) by rw [HOF.out, HE.out]; unfold ofEnd; (try dsimp only); rw [if_pos her])
        clear her HST HA
        go_wp2_with fail
        refine RI.out.mono ?_
        rintro e w3 ⟨rfl, hr3, hk3⟩
        have HB3 := Lib.hid (HB.out.trans (hk3.below HB.out.size (fun k e => by omega)))
        clear hr3 hk3 RI HO HR HB
        have hbw : Below w3.heap.size w3 (w3.alloc (.cells #[.string ⟨p.toArray⟩, .int .i64 md, .int .i64 sz, .string ⟨mk.toArray⟩] 78)) := (Below.refl _ w3).alloc (Nat.le_refl _) _
        have HB4 := Lib.hid (HB3.out.trans (hbw.mono HB3.out.size))
        clear hbw
        go_wp2_with fail
        go_ret2
        exact ⟨_, by rw [HRE.out]; rfl, by rw [HRE.out]; exact RowN.nil _ _ _ _, HB4.out⟩
    · have hic : i = c0 := by omega
      subst hic
      have j1 : ¬ (i : Int) < (i : Int) := by omega
      have HE := Lib.hid (show FIN = (out, 0, r) by rw [← HA.out, show i - i = 0 by omega]; rfl)
      have EN := Lib.hid (end_any wr g r HR.out)
      have HRE := Lib.hid (show res = if (rEnd r).e ≠ 0 then ([], (rEnd r).e) else if rightS out ≠ 0 then ([], rightS out) else (out, 0) by rw [HOF.out, HE.out]; unfold ofEnd; (try dsimp only); rw [if_neg (by simp)])
      have RT0 := Lib.hid (fun w' (h : RowN encI 4 (fun _ => True) w' (.slice oa om oc) out) => tRight_any _ out w' h HIO.out (by omega))
      clear HA HE HOF hrok hll
      generalize (rEnd r).e = ee at *
      generalize rightS out = rs at *
      go_wp2_with fail
      refine EN.out.mono ?_
      rintro e w2 ⟨rfl, hr2, hk2⟩
      have HO2 := Lib.hid (OwnN.rd HO.out HR.out hk2)
      have HB2 := Lib.hid (HB.out.trans (hk2.below HB.out.size (fun k e => by omega)))
      clear hr2 hk2 EN HO HB HR
      by_cases hen : ee = 0
      · have m1 : (ee != 0) = false := by simp [hen]
        rw [if_neg (fun h => h hen)] at HRE
        have RT := Lib.hid (RT0.out w2 ((OwnN.row encI_ok HO2.out).mono (fun _ _ => trivial)))
        clear hen RT0
        go_wp2_with fail
        refine RT.out.mono ?_
        rintro e w3 ⟨rfl, hb3⟩
        have HO3 := Lib.hid (HO2.out.new hb3)
        have HB3 := Lib.hid (HB2.out.trans (hb3.mono HB2.out.size))
        clear hb3 RT HO2 HB2
        by_cases hrs : rs = 0
        · have m2 : (rs != 0) = false := by simp [hrs]
          rw [if_neg (fun h => h hrs)] at HRE
          clear hrs
          go_wp2_with fail
          go_ret2
          exact ⟨_, by rw [HRE.out]; rfl, by rw [HRE.out]; exact OwnN.row encI_ok HO3.out, HB3.out⟩
        · have m2 : (rs != 0) = true := by simp [hrs]
          rw [if_pos hrs] at HRE
          go_wp2_with fail
          go_ret2
          exact ⟨_, by rw [HRE.out]; rfl, by rw [HRE.out]; exact RowN.nil _ _ _ _, HB3.out⟩
      · have m1 : (ee != 0) = true := by simp [hen]
        rw [if_pos hen] at HRE
        go_wp2_with fail
        go_ret2
        exact ⟨_, by rw [HRE.out]; rfl, by rw [HRE.out]; exact RowN.nil _ _ _ _, HB2.out⟩
theorem tOf_any (s : Txt) (w : World) (hs : s.length ≤ 100000) :
    Calls Tryz.prog 62 #[.string ⟨s.toArray⟩] w fun e w' => ∃ v', e = .returned (.tuple #[v', .int .i64 (ofS s).2]) ∧ RowN encI 4 (fun _ => True) w' v' (ofS s).1 ∧ Below w.heap.size w w' :=
  (tOf_at s w hs).mono fun e w' ⟨v', h1, h2, h3⟩ => ⟨v', h1, h2.mono (fun _ _ => trivial), h3⟩
end Go.Proofs.YtamiacmnobklaaaGreatDoor

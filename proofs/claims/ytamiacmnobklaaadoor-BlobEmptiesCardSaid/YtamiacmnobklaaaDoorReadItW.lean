/- Landed tree: readItem, walked. -/
import Derived.Test.YtamiacmnobklaaaDoorBldShelf
import Derived.Test.YtamiacmnobklaaaDoorFtX
import Derived.Test.YtamiacmnobklaaaDoorFrame
import Derived.Test.YtamiacmnobklaaaDoorGen
import Derived.Test.YtamiacmnobklaaaDoorMarkMath
import Derived.Test.YtamiacmnobklaaaDoorOfTMath
import Derived.Test.YtamiacmnobklaaaDoorOwnL
import Derived.Test.YtamiacmnobklaaaDoorPtX
import Derived.Test.YtamiacmnobklaaaDoorPickedTW
import Derived.Test.YtamiacmnobklaaaDoorProg
import Derived.Test.YtamiacmnobklaaaDoorCdX
import Derived.Test.YtamiacmnobklaaaDoorRefMbW
import Derived.Test.YtamiacmnobklaaaDoorRefOfTW
import Derived.Test.YtamiacmnobklaaaDoorRowN
import Derived.Test.YtamiacmnobklaaaDoorRows
import Derived.Test.YtamiacmnobklaaaDoorShelf
import Derived.Test.YtamiacmnobklaaaDoorSoX
import Derived.Test.YtamiacmnobklaaaDoorSortMath
import Derived.Test.YtamiacmnobklaaaDoorTBytesW
import Derived.Test.YtamiacmnobklaaaDoorTreeMath
import Derived.BigQuiet
import Derived.BigRegion
import Derived.Deep.Cut
import Derived.Deep.CutBlock
import Derived.Deep.CutRange
import Derived.Deep.DeepCutAuto
import Derived.Deep.QuietTactic
import Derived.Deep.RegionHeld
import Derived.Deep.Slices
import Derived.Deep.Strs
import Derived.Laws.Externs
import Derived.Laws.OwnMore
import Derived.Laws.RangeAny
import Derived.Laws.ResultCell
import Derived.Lib.AppendStr
import Derived.Lib.Builder
import Derived.Lib.Hide
import Derived.Lib.SmallJoins
import Derived.Lib.Strings
import Derived.Lib.Walk
import Derived.LoopIn
import Derived.LoopNIn
import Derived.LoopTactic
import Derived.Outline
import Derived.OwnWalkIn
import Derived.RangeFuncBound
import Derived.RangeFuncCalls
import Derived.RangeFuncLeaves
import Derived.RangeFuncNested
import Derived.Shelf.Abstract
import Derived.Shelf.RegionOpen
import Derived.Shelf.Strings.SplitCore
import Derived.StillTail
import Derived.TacticsInMore
import Derived.WalkKit
import Derived.WalkLawsBesides
import Derived.WalkSpells
set_option linter.unusedVariables false
namespace Go.Proofs.YtamiacmnobklaaaDoor
open Go.RowKit

def zeroI : ItemD := ⟨[], 0, 0, []⟩
/-- What readItem tells: the item, the error, the reader behind it. -/
def readS (s : RS) (last : Txt) : ItemD × Int :=
  if (oneR s).r.e ≠ 0 then (zeroI, (oneR s).r.e) else if shareBad last (oneR s).n (oneR s).rest then (zeroI, 5) else (⟨last.take (oneR s).n.toNat ++ (oneR s).rest, (oneR s).mode, (oneR s).size, (oneR s).mark⟩, 0)
/-- An item in block b. -/
def IB (w : World) (b : Nat) (x : ItemD) : Prop := w.heap[b]? = some (.cells #[.string ⟨x.path.toArray⟩, .int .i64 x.mode, .int .i64 x.size, .string ⟨x.mark.toArray⟩] 67 (0, 0))
section
variable {w w' : World} {b : Nat} {x : ItemD}
theorem IB.c0 (h : IB w b x) : w.cell? ⟨b, 0, none⟩ = some (.string ⟨x.path.toArray⟩) := by rw [cell_of_row _ _ _ _ _ _ h]; rfl
theorem IB.c1 (h : IB w b x) : w.cell? ⟨b, 1, none⟩ = some (.int .i64 x.mode) := by rw [cell_of_row _ _ _ _ _ _ h]; rfl
theorem IB.c2 (h : IB w b x) : w.cell? ⟨b, 2, none⟩ = some (.int .i64 x.size) := by rw [cell_of_row _ _ _ _ _ _ h]; rfl
theorem IB.c3 (h : IB w b x) : w.cell? ⟨b, 3, none⟩ = some (.string ⟨x.mark.toArray⟩) := by rw [cell_of_row _ _ _ _ _ _ h]; rfl
theorem IB.f (h : IB w b x) (j : Nat) : w.frozen? ⟨b, j, none⟩ = false := frozen_of_row _ _ _ _ _ h
theorem IB.lt (h : IB w b x) : b < w.heap.size := (Array.getElem?_eq_some_iff.1 h).1
theorem IB.kept {M : Nat → Prop} (h : IB w b x) (hk : Kept M w w') (hm : ¬ M b) : IB w' b x := hk.old h hm
theorem IB.s0 (h : IB w b x) (p : Txt) : IB (w.setCell ⟨b, 0, none⟩ (.string ⟨p.toArray⟩)) b ⟨p, x.mode, x.size, x.mark⟩ := heap_setCell_same w b 0 _ _ _ h
theorem IB.s1 (h : IB w b x) (m : Int) : IB (w.setCell ⟨b, 1, none⟩ (.int .i64 m)) b ⟨x.path, m, x.size, x.mark⟩ := heap_setCell_same w b 1 _ _ _ h
theorem IB.s2 (h : IB w b x) (z : Int) : IB (w.setCell ⟨b, 2, none⟩ (.int .i64 z)) b ⟨x.path, x.mode, z, x.mark⟩ := heap_setCell_same w b 2 _ _ _ h
theorem IB.s3 (h : IB w b x) (k : Txt) : IB (w.setCell ⟨b, 3, none⟩ (.string ⟨k.toArray⟩)) b ⟨x.path, x.mode, x.size, k⟩ := heap_setCell_same w b 3 _ _ _ h
end
theorem setCell_kept (w : World) (b j : Nat) (v : Value) : Kept (· = b) w (w.setCell ⟨b, j, none⟩ v) := (Kept.refl (· = b) w).setCell (p := ⟨b, j, none⟩) rfl v
/-- The state between two steps. -/
structure RI (w W : World) (g : Nat) (s : RS) (x : ItemD) : Prop where
  rd : Rd W g s
  i4 : IB W w.heap.size zeroI
  i6 : IB W (w.heap.size + 1) x
  kp : Kept (· = g) w W
  lt : g < w.heap.size
theorem Kept.on_new {w a b : World} {g : Nat} {N : Nat → Prop} (h : Kept (· = g) w a) (k : Kept N a b) (hn : ∀ i, i < w.heap.size → N i → i = g) : Kept (· = g) w b :=
  ⟨k.os.trans h.os, k.tape.trans h.tape, k.output.trans h.output, Nat.le_trans h.size k.size, fun i hi hm => (k.block i (Nat.lt_of_lt_of_le hi h.size) (fun n => hm (hn i hi n))).trans (h.block i hi hm)⟩
section
variable {w W W' : World} {g : Nat} {s s' : RS} {x : ItemD}
theorem RI.does (h : RI w W g s x) (hr : Rd W' g s') (hk : Kept (· = g) W W') : RI w W' g s' x :=
  ⟨hr, h.i4.kept hk (fun e => by have := h.lt; omega), h.i6.kept hk (fun e => by have := h.lt; omega), h.kp.on_new hk (fun _ _ e => e), h.lt⟩
theorem RI.new (h : RI w W g s x) (hb : Below W.heap.size W W') : RI w W' g s x :=
  ⟨h.rd.kept (Kept.new hb (fun _ => False)) id, h.i4.kept (Kept.new hb (fun _ => False)) id, h.i6.kept (Kept.new hb (fun _ => False)) id, h.kp.on_new (Kept.new hb (fun _ => False)) (fun _ _ e => e.elim), h.lt⟩
theorem RI.put (h : RI w W g s x) {j : Nat} {v : Value} {y : ItemD} (hy : IB (W.setCell ⟨w.heap.size + 1, j, none⟩ v) (w.heap.size + 1) y) : RI w (W.setCell ⟨w.heap.size + 1, j, none⟩ v) g s y :=
  ⟨h.rd.kept (setCell_kept W _ j v) (fun e => by have := h.lt; omega), h.i4.kept (setCell_kept W _ j v) (fun e => by omega), hy, h.kp.on_new (setCell_kept W _ j v) (fun i hi e => by omega), h.lt⟩
end
/-- An item stored into the result's block, field by field. -/
def putI (W : World) (b : Nat) (y : ItemD) : World := (((W.setCell ⟨b, 0, none⟩ (.string ⟨y.path.toArray⟩)).setCell ⟨b, 1, none⟩ (.int .i64 y.mode)).setCell ⟨b, 2, none⟩ (.int .i64 y.size)).setCell ⟨b, 3, none⟩ (.string ⟨y.mark.toArray⟩)
theorem putI_ib {W : World} {b : Nat} {x : ItemD} (h : IB W b x) (y : ItemD) : IB (putI W b y) b y := (((h.s0 y.path).s1 y.mode).s2 y.size).s3 y.mark
theorem putI_kept (W : World) (b : Nat) (y : ItemD) : Kept (· = b) W (putI W b y) := (((setCell_kept W b 0 _).trans (setCell_kept _ b 1 _)).trans (setCell_kept _ b 2 _)).trans (setCell_kept _ b 3 _)
theorem item_size : (Tryd.prog.info? 67).map (·.size) = some 4 := by kernel_rfl
theorem results_item {fn : Func} {p u : Tmp} (h : fn.results = #[.cell p 67, .tmp u]) (tmps : Array Value) (w : World) (b : Nat) (y : ItemD) (hp : tmps.getD p undef = .pointer (some ⟨b, 0, none⟩)) (hy : IB w b y) :
    (results fn tmps).run Tryd.prog w = .ok (.tuple #[.agg #[.string ⟨y.path.toArray⟩, .int .i64 y.mode, .int .i64 y.size, .string ⟨y.mark.toArray⟩], tmps.getD u undef]) w := by
  rw [results_cell_tmp h, hp]
  have hl := run_loadVar_row (P := Tryd.prog) w b 67 67 _ _ _ hy Tryd.underlying67 rfl item_size
  simp [asAddr, Result.andThen, hl]
theorem rCount_small (s : RS) (most : Nat) (h : s.ok) : ∃ c : Nat, (rCount s (most : Int)).1 = (c : Int) ∧ c ≤ most := by
  obtain ⟨c, hc, _, _⟩ := rCount_nat s (most : Int) h
  refine ⟨c, hc, ?_⟩
  rcases rCount_cases s (most : Int) h with ⟨h1, _⟩ | ⟨_, h2, h3⟩
  · omega
  · rw [h2] at hc; omega
theorem rRaw_len32 (s : RS) : (rRaw s 32).1.length ≤ 32 := by
  by_cases he : s.e = 0
  · by_cases hl : 32 ≤ s.l.length
    · have := rRaw_all s 32 he hl
      rw [show ((32 : Nat) : Int) = 32 from rfl] at this
      rw [this, List.length_take]; omega
    · rw [rRaw_long s 32 (by decide) (by omega)]; simp
  · rw [rRaw_err s 32 he]; simp
/-- What of one item is read, step by step. -/
theorem oneR_steps (s : RS) (h : s.ok) : ∃ (c : Nat) (s1 : RS) (t : Txt) (s2 : RS) (md : Int) (s3 : RS) (sz : Int) (s4 : RS) (mk : Txt) (s5 : RS), rCount s 200 = ((c : Int), s1) ∧ rText s1 200 = (t, s2) ∧ rNum s2 = (md, s3) ∧ rNum s3 = (sz, s4) ∧ rRaw s4 32 = (mk, s5) ∧
    oneR s = ⟨(c : Int), t, md, sz, mk, s5⟩ ∧ c ≤ 200 ∧ t.length ≤ 200 ∧ mk.length ≤ 32 ∧ s1.ok ∧ s2.ok ∧ s3.ok ∧ s4.ok ∧ s5.ok := by
  obtain ⟨c, hc, hc2⟩ := rCount_small s 200 h
  have k1 := rCount_ok s 200 h
  have k2 := rText_ok (rCount s 200).2 200 k1
  have k3 := rNum_ok _ k2
  have k4 := rNum_ok _ k3
  have k5 := rRaw_ok _ 32 k4
  have hc' : (rCount s 200).1 = (c : Int) := hc
  refine ⟨c, (rCount s 200).2, (rText (rCount s 200).2 200).1, (rText (rCount s 200).2 200).2, (rNum (rText (rCount s 200).2 200).2).1, (rNum (rText (rCount s 200).2 200).2).2, (rNum (rNum (rText (rCount s 200).2 200).2).2).1, (rNum (rNum (rText (rCount s 200).2 200).2).2).2,
    (rRaw (rNum (rNum (rText (rCount s 200).2 200).2).2).2 32).1, (rRaw (rNum (rNum (rText (rCount s 200).2 200).2).2).2 32).2, Prod.ext hc' rfl, rfl, rfl, rfl, rfl, ?_, hc2, rText_len_le _ k1 200, rRaw_len32 _, k1, k2, k3, k4, k5⟩
  unfold oneR
  dsimp only
  rw [hc']
theorem readS_of {s : RS} {last : Txt} {n : Int} {t : Txt} {md sz : Int} {mk : Txt} {r : RS} (h : oneR s = ⟨n, t, md, sz, mk, r⟩) :
    readS s last = if r.e ≠ 0 then (zeroI, r.e) else if shareBad last n t then (zeroI, 5) else (⟨last.take n.toNat ++ t, md, sz, mk⟩, 0) := by
  unfold readS
  rw [h]
set_option maxRecDepth 100000 in
set_option maxHeartbeats 2000000 in
theorem readItem_any (w : World) (g : Nat) (s : RS) (last : Txt) (h : Rd w g s) (hok : s.ok) (hl : last.length ≤ 1000000) :
    Calls Tryd.prog 59 #[ptr g, .string ⟨last.toArray⟩] w fun e w' => e = .returned (.tuple #[.agg #[.string ⟨(readS s last).1.path.toArray⟩, .int .i64 (readS s last).1.mode, .int .i64 (readS s last).1.size, .string ⟨(readS s last).1.mark.toArray⟩], .int .i64 (readS s last).2]) ∧ Rd w' g (oneR s).r ∧ Kept (· = g) w w' := by
  obtain ⟨c, s1, t, s2, md, s3, sz, s4, mk, s5, h1, h2, h3, h4, h5, hor, hc, ht, hmk, ok1, ok2, ok3, ok4, ok5⟩ := oneR_steps s hok
  have HRS := Lib.hid (readS_of (last := last) hor)
  have HR5 := Lib.hid (show (oneR s).r = s5 by rw [hor])
  rw [HR5.out]
  have CN := Lib.hid (fun w' (hr : Rd w' g s) => count_any w' g s 200 hr hok)
  have TX := Lib.hid (fun w' (hr : Rd w' g s1) => text_any w' g s1 200 hr ok1)
  have N1 := Lib.hid (fun w' (hr : Rd w' g s2) => rnum_any w' g s2 hr ok2)
  have N2 := Lib.hid (fun w' (hr : Rd w' g s3) => rnum_any w' g s3 hr ok3)
  have RW := Lib.hid (fun w' (hr : Rd w' g s4) => raw_any w' g s4 32 hr ok4)
  have ER := Lib.hid (fun w' (hr : Rd w' g s5) => err_any w' g s5 hr)
  rw [h1] at CN
  rw [h2] at TX
  rw [h3] at N1
  rw [h4] at N2
  rw [h5] at RW
  generalize readS s last = res at *
  have hb0 : Below w.heap.size w (w.alloc (.cells #[.string ⟨#[]⟩, .int .i64 0, .int .i64 0, .string ⟨#[]⟩] 67)) := (Below.refl _ w).alloc (Nat.le_refl _) _
  have hb1 := hb0.alloc (by simp) (.cells #[.string ⟨#[]⟩, .int .i64 0, .int .i64 0, .string ⟨#[]⟩] 67)
  have R0 := Lib.hid (show RI w ((w.alloc (.cells #[.string ⟨#[]⟩, .int .i64 0, .int .i64 0, .string ⟨#[]⟩] 67)).alloc (.cells #[.string ⟨#[]⟩, .int .i64 0, .int .i64 0, .string ⟨#[]⟩] 67)) g s zeroI from
    ⟨h.kept (Kept.new hb1 (fun _ => False)) id, (Below.heap_alloc _ _ _ (by simp)).trans (heap_alloc_new w _), by
      have := heap_alloc_new (w.alloc (.cells #[.string ⟨#[]⟩, .int .i64 0, .int .i64 0, .string ⟨#[]⟩] 67)) (.cells #[.string ⟨#[]⟩, .int .i64 0, .int .i64 0, .string ⟨#[]⟩] 67)
      rw [World.size_alloc] at this
      exact this, Kept.new hb1 _, h.lt⟩)
  go_enter Tryd.func59, Tryd.ntmps59
  clear h1 h2 h3 h4 h5 hor hb0 hb1 h hok
  go_wp2_with fail
  generalize (w.alloc (.cells #[.string ⟨#[]⟩, .int .i64 0, .int .i64 0, .string ⟨#[]⟩] 67)).alloc (.cells #[.string ⟨#[]⟩, .int .i64 0, .int .i64 0, .string ⟨#[]⟩] 67) = w0 at *
  refine (CN.out w0 R0.out.rd).mono ?_
  rintro e w1 ⟨rfl, hr1, hk1⟩
  have R1 := Lib.hid (R0.out.does hr1 hk1)
  clear hr1 hk1 R0 CN
  go_wp2_with fail
  refine (TX.out w1 R1.out.rd).mono ?_
  rintro e w2 ⟨rfl, hr2, hk2⟩
  have R2 := Lib.hid (R1.out.does hr2 hk2)
  clear hr2 hk2 R1 TX
  go_wp2_with fail
  refine (N1.out w2 R2.out.rd).mono ?_
  rintro e w3 ⟨rfl, hr3, hk3⟩
  have R3 := Lib.hid (R2.out.does hr3 hk3)
  have c3 := R3.out.i6.c1
  have f3 := R3.out.i6.f 1
  have R3' := Lib.hid (R3.out.put (R3.out.i6.s1 md))
  clear hr3 hk3 R2 N1
  go_wp2_with fail
  generalize w3.setCell ⟨w.heap.size + 1, 1, none⟩ (.int .i64 md) = w3' at *
  clear c3 f3 R3
  refine (N2.out w3' R3'.out.rd).mono ?_
  rintro e w4 ⟨rfl, hr4, hk4⟩
  have R4 := Lib.hid (R3'.out.does hr4 hk4)
  have c4 := R4.out.i6.c2
  have f4 := R4.out.i6.f 2
  have R4' := Lib.hid (R4.out.put (R4.out.i6.s2 sz))
  clear hr4 hk4 R3' N2
  go_wp2_with fail
  generalize w4.setCell ⟨w.heap.size + 1, 2, none⟩ (.int .i64 sz) = w4' at *
  clear c4 f4 R4
  refine (RW.out w4' R4'.out.rd).mono ?_
  rintro e w5 ⟨rfl, hr5, hk5⟩
  have R5 := Lib.hid (R4'.out.does hr5 hk5)
  have CL := Lib.hid (tclone_any mk w5 (by omega))
  clear hr5 hk5 R4' RW
  go_wp2_with fail
  refine CL.out.mono ?_
  rintro e w6 ⟨rfl, hb6⟩
  have R6 := Lib.hid (R5.out.new hb6)
  have c6 := R6.out.i6.c3
  have f6 := R6.out.i6.f 3
  have R6' := Lib.hid (R6.out.put (R6.out.i6.s3 mk))
  clear hb6 R5 CL
  go_wp2_with fail
  generalize w6.setCell ⟨w.heap.size + 1, 3, none⟩ (.string ⟨mk.toArray⟩) = w7 at *
  clear c6 f6 R6
  refine (ER.out w7 R6'.out.rd).mono ?_
  rintro e w8 ⟨rfl, rfl⟩
  have HLT := Lib.hid R6'.out.lt
  have z0 := R6'.out.i4.c0
  have z1 := R6'.out.i4.c1
  have z2 := R6'.out.i4.c2
  have z3 := R6'.out.i4.c3
  have y0 := R6'.out.i4.f 0
  have y1 := R6'.out.i4.f 1
  have y2 := R6'.out.i4.f 2
  have y3 := R6'.out.i4.f 3
  have PT := Lib.hid (fun y => putI_ib R6'.out.i4 y)
  have PR := Lib.hid (fun y => R6'.out.rd.kept (putI_kept w8 w.heap.size y) (fun e => by have := HLT.out; omega))
  have PK := Lib.hid (fun y => R6'.out.kp.on_new (putI_kept w8 w.heap.size y) (fun i hi e => by omega))
  by_cases he : s5.e = 0
  · have q1 : (s5.e != 0) = false := by simp [he]
    by_cases hcl : last.length < c
    · have q2 : (last.length : Int) < (c : Int) := by omega
      have HF := Lib.hid (show res = (zeroI, 5) by rw [HRS.out, if_neg (fun h => h he), if_pos (show shareBad last (c : Int) t from .inl q2)])
      clear he hcl
      generalize s5.e = e5 at *
      unfold zeroI at z0 z1 z2 z3
      dsimp only at z0 z1 z2 z3
      go_wp2_with fail
      exact bodyPost_ret (results_item Tryd.results59 _ _ w.heap.size zeroI rfl (PT.out zeroI)) rfl ⟨by rw [HF.out]; rfl, PR.out zeroI, PK.out zeroI⟩
    · have q2 : ¬ (last.length : Int) < (c : Int) := by omega
      have q3 : (c : Int) ≤ (last.length : Int) := by omega
      have q4 : (0 : Int) ≤ (c : Int) := by omega
      have EX := Lib.hid (show (⟨last.toArray⟩ : ByteArray).extract 0 c = ⟨(last.take c).toArray⟩ from take_toArray last c)
      have SL := Lib.hid (show (⟨last.toArray⟩ : ByteArray).size = last.length from rfl)
      have hsum : ¬ 9223372036854775807 < (last.take c).length + t.length := by rw [List.length_take]; omega
      have HRS2 := Lib.hid (show res = if sharedS last (last.take c ++ t) = c then (⟨last.take c ++ t, md, sz, mk⟩, 0) else (zeroI, 5) by
        rw [HRS.out, if_neg (fun h => h he)]
        have e1 : ((c : Int)).toNat = c := by omega
        by_cases hsh : sharedS last (last.take c ++ t) = c
        · rw [if_neg (show ¬ shareBad last (c : Int) t from by unfold shareBad; rw [e1]; omega), if_pos hsh, e1]
        · rw [if_pos (show shareBad last (c : Int) t from by unfold shareBad; rw [e1]; omega), if_neg hsh])
      have hpl : (last.take c ++ t).length ≤ 1000400 := by rw [List.length_append, List.length_take]; omega
      generalize s5.e = e5 at *
      clear HRS he hcl z0 z1 z2 z3 y0 y1 y2 y3 PT PR PK
      have CP := fun w' => Lib.hid (tclone_any (last.take c ++ t) w' (by omega))
      have AL := fun w' => Lib.hid (alike_any last (last.take c ++ t) w' (by omega) (by omega))
      generalize sharedS last (last.take c ++ t) = sh at *
      have HCAT := Lib.hid (cat2 (last.take c) t)
      generalize last.take c = tk at *
      go_wp2_with fail
      rw [EX.out, HCAT.out]
      clear HCAT
      generalize tk ++ t = pth at *
      refine (CP _).out.mono ?_
      rintro e w9 ⟨rfl, hb9⟩
      have R9 := Lib.hid (R6'.out.new hb9)
      have c9 := R9.out.i6.c0
      have f9 := R9.out.i6.f 0
      have R9' := Lib.hid (R9.out.put (R9.out.i6.s0 pth))
      clear hb9 R6' CP
      go_wp2_with fail
      generalize w9.setCell ⟨w.heap.size + 1, 0, none⟩ (.string ⟨pth.toArray⟩) = w10 at *
      clear c9 f9 R9
      have c10 := R9'.out.i6.c0
      dsimp only at c10
      go_wp2_with fail
      refine (AL _).out.mono ?_
      rintro e w11 ⟨rfl, hb11⟩
      have R11 := Lib.hid (R9'.out.new hb11)
      clear hb11 R9' AL c10
      have z0 := R11.out.i4.c0
      have z1 := R11.out.i4.c1
      have z2 := R11.out.i4.c2
      have z3 := R11.out.i4.c3
      have y0 := R11.out.i4.f 0
      have y1 := R11.out.i4.f 1
      have y2 := R11.out.i4.f 2
      have y3 := R11.out.i4.f 3
      have PT := Lib.hid (fun y => putI_ib R11.out.i4 y)
      have PR := Lib.hid (fun y => R11.out.rd.kept (putI_kept w11 w.heap.size y) (fun e => by have := HLT.out; omega))
      have PK := Lib.hid (fun y => R11.out.kp.on_new (putI_kept w11 w.heap.size y) (fun i hi e => by omega))
      unfold zeroI at z0 z1 z2 z3
      dsimp only at z0 z1 z2 z3
      by_cases hsh : sh = c
      · have q5 : ((sh : Int) != (c : Int)) = false := by rw [hsh]; simp
        have HF := Lib.hid (show res = (⟨pth, md, sz, mk⟩, 0) by rw [HRS2.out, if_pos hsh])
        have x0 := R11.out.i6.c0
        have x1 := R11.out.i6.c1
        have x2 := R11.out.i6.c2
        have x3 := R11.out.i6.c3
        dsimp only at x0 x1 x2 x3
        clear hsh HRS2
        go_wp2_with fail
        exact bodyPost_ret (results_item Tryd.results59 _ _ w.heap.size ⟨pth, md, sz, mk⟩ rfl (PT.out ⟨pth, md, sz, mk⟩)) rfl ⟨by rw [HF.out]; rfl, PR.out ⟨pth, md, sz, mk⟩, PK.out ⟨pth, md, sz, mk⟩⟩
      · have q5 : ((sh : Int) != (c : Int)) = true := by rw [bne_iff_ne]; omega
        have HF := Lib.hid (show res = (zeroI, 5) by rw [HRS2.out, if_neg hsh])
        clear hsh HRS2
        go_wp2_with fail
        exact bodyPost_ret (results_item Tryd.results59 _ _ w.heap.size zeroI rfl (PT.out zeroI)) rfl ⟨by rw [HF.out]; rfl, PR.out zeroI, PK.out zeroI⟩
  · have q1 : (s5.e != 0) = true := by simp [he]
    have HF := Lib.hid (show res = (zeroI, s5.e) by rw [HRS.out, if_pos he])
    generalize s5.e = e5 at *
    unfold zeroI at z0 z1 z2 z3
    dsimp only at z0 z1 z2 z3
    clear he
    go_wp2_with fail
    exact bodyPost_ret (results_item Tryd.results59 _ _ w.heap.size zeroI rfl (PT.out zeroI)) rfl ⟨by rw [HF.out]; rfl, PR.out zeroI, PK.out zeroI⟩
end Go.Proofs.YtamiacmnobklaaaDoor

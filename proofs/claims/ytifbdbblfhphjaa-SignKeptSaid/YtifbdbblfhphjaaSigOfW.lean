/- The walk of Of: what bytes are as a signature. -/
import Derived.Test.YtifbdbblfhphjaaBookW
import Derived.Test.YtifbdbblfhphjaaFrame
import Derived.Test.YtifbdbblfhphjaaGen
import Derived.Test.YtifbdbblfhphjaaInfos
import Derived.Test.YtifbdbblfhphjaaLists
import Derived.Test.YtifbdbblfhphjaaMarkMath
import Derived.Test.YtifbdbblfhphjaaOwnL
import Derived.Test.YtifbdbblfhphjaaParts
import Derived.Test.YtifbdbblfhphjaaReadMath
import Derived.Test.YtifbdbblfhphjaaReadNumW
import Derived.Test.YtifbdbblfhphjaaReadW
import Derived.Test.YtifbdbblfhphjaaRightW
import Derived.Test.YtifbdbblfhphjaaRows
import Derived.Test.YtifbdbblfhphjaaSameW
import Derived.Test.YtifbdbblfhphjaaShelf
import Derived.Test.YtifbdbblfhphjaaSigAt
import Derived.Test.YtifbdbblfhphjaaSigOwnW
import Derived.Test.YtifbdbblfhphjaaSignAW
import Derived.Test.YtifbdbblfhphjaaSignMath
import Derived.Test.YtifbdbblfhphjaaSignW
import Derived.Test.YtifbdbblfhphjaaWeak2W
import Derived.BigQuiet
import Derived.Deep.QuietTactic
import Derived.Deep.RegionHeld3
import Derived.IntWalk
import Derived.Laws.BitsAllLaws
import Derived.Laws.Rows
import Derived.Laws.Tables
import Derived.Lib.Hide
import Derived.Outline
import Derived.StillTailTactics
import Derived.WalkKit
import Derived.WalkLawsBesides
import Derived.WalkSpells
set_option linter.unusedVariables false
namespace Go.Proofs.Ytifbdbblfhphjaa
open Go.RowKit

/-! ### Plain mathematics -/
def itL {α : Type} (next : RS → α × RS) : Nat → List α → RS → List α × RS
  | 0, acc, s => (acc, s)
  | k + 1, acc, s => itL next k (acc ++ [(next s).1]) (next s).2
def nextC (s : RS) : Int × RS := rCount s 4294967295
def nextM (s : RS) : Txt × RS := rRaw s 32
structure OfR where
  e : Int
  b : Nat
  n : Nat
  ws : List Int
  ms : List Txt
def ofZ (e : Int) : OfR := ⟨e, 0, 0, [], []⟩
/-- Behind the two numbers. -/
def ofTail (B M : Nat) (s : RS) : OfR :=
  if (rEnd (itL nextM (nBlk M B) [] (itL nextC (nBlk M B) [] s).2).2).e ≠ 0 then ofZ (rEnd (itL nextM (nBlk M B) [] (itL nextC (nBlk M B) [] s).2).2).e
  else ⟨0, B, M, (itL nextC (nBlk M B) [] s).1, (itL nextM (nBlk M B) [] (itL nextC (nBlk M B) [] s).2).1⟩
theorem ofTail_eq (B M : Nat) (s : RS) : ofTail B M s = if (rEnd (itL nextM (nBlk M B) [] (itL nextC (nBlk M B) [] s).2).2).e ≠ 0 then ofZ (rEnd (itL nextM (nBlk M B) [] (itL nextC (nBlk M B) [] s).2).2).e
  else ⟨0, B, M, (itL nextC (nBlk M B) [] s).1, (itL nextM (nBlk M B) [] (itL nextC (nBlk M B) [] s).2).1⟩ := rfl
def ofHead (a c : Int) (s : RS) : OfR :=
  if s.e ≠ 0 then ofZ s.e else if okB a = true ∧ okN c = true then ofTail a.toNat c.toNat s else ofZ 5
/-- What bytes are as a signature. -/
def ofS (S : Txt) : OfR := ofHead (rNum ⟨S, 0⟩).1 (rNum (rNum ⟨S, 0⟩).2).1 (rNum (rNum ⟨S, 0⟩).2).2
def OfPost (w : World) (r : OfR) (e : Ending) (w' : World) : Prop :=
  ∃ vw vs, e = .returned (.tuple #[sigV r.b r.n vw vs, .int .i64 r.e]) ∧ Row (Value.int .i64) (w.heap.size ≤ ·) w' vw r.ws ∧ Row encT (w.heap.size ≤ ·) w' vs r.ms ∧ Below w.heap.size w w'
theorem itL_len {α : Type} (next : RS → α × RS) (k : Nat) : ∀ (acc : List α) (s : RS), (itL next k acc s).1.length = acc.length + k := by
  induction k with
  | zero => intro acc s; rfl
  | succ k ih => intro acc s; unfold itL; rw [ih, List.length_append, List.length_singleton]; omega
theorem itL_ok {α : Type} (next : RS → α × RS) (hn : ∀ s, s.ok → (next s).2.ok) (k : Nat) : ∀ (acc : List α) (s : RS), s.ok → (itL next k acc s).2.ok := by
  induction k with
  | zero => intro acc s h; exact h
  | succ k ih => intro acc s h; unfold itL; exact ih _ _ (hn s h)
theorem rRaw_len (s : RS) (m : Nat) : (rRaw s (m : Int)).1.length ≤ m := by
  unfold rRaw
  split
  · simp
  · split
    · simp
    · split
      · simp
      · rw [Int.toNat_natCast, List.length_take]; omega
theorem nextM_len (s : RS) : (nextM s).1.length ≤ 32 := rRaw_len s 32
theorem nextC_nat (s : RS) (h : s.ok) : ∃ c : Nat, (nextC s).1 = (c : Int) := by
  obtain ⟨c, hc, _⟩ := rCount_nat s 4294967295 h
  exact ⟨c, hc⟩

/-! ### A signature that is read -/
theorem sig_set0 {w : World} {p : Nat} {b n : Int} {vw vs : Value} (h : w.heap[p]? = some (sigC b n vw vs)) (b' : Int) : (w.setCell ⟨p, 0, none⟩ (.int .i64 b')).heap[p]? = some (sigC b' n vw vs) := by
  rw [heap_setCell_same w p 0 _ _ _ h]; rfl
theorem sig_set1 {w : World} {p : Nat} {b n : Int} {vw vs : Value} (h : w.heap[p]? = some (sigC b n vw vs)) (n' : Int) : (w.setCell ⟨p, 1, none⟩ (.int .i64 n')).heap[p]? = some (sigC b n' vw vs) := by
  rw [heap_setCell_same w p 1 _ _ _ h]; rfl
/-- A reader: behind what is left alone it is as it was; its block's type. -/
structure RdI (R : World → Nat → RS → Prop) : Prop where
  kept : ∀ (w w' : World) (g : Nat) (s : RS) (M : Nat → Prop), R w g s → Kept M w w' → ¬ M g → R w' g s
  ty : ∀ (w : World) (g : Nat) (s : RS), R w g s → ∃ cs T, w.heap[g]? = some (.cells cs T (0, 0)) ∧ T ≠ 3 ∧ T ≠ 9 ∧ T ≠ 31
theorem rdI_rd : RdI Rd :=
  ⟨fun _ _ _ _ _ h hk hm => h.kept hk hm, fun w g s h => ⟨_, _, h, by decide, by decide, by decide⟩⟩
structure OfL (R : World → Nat → RS → Prop) (w : World) (p g : Nat) (b n : Int) (vw vs : Value) (ws : List Nat) (ms : List Txt) (s : RS) (wr : World) : Prop where
  sig : SigAt wr w.heap.size p b n vw vs ws ms
  res : wr.heap[w.heap.size]? = some (sigC 0 0 (.slice none 0 0) (.slice none 0 0))
  rd : R wr g s
  ok : s.ok
  bel : Below w.heap.size w wr
  pb : w.heap.size < p
  gb : w.heap.size ≤ g
section
variable {R : World → Nat → RS → Prop} {w wr w1 w2 : World} {o : Obj} {p g : Nat} {b n : Int} {vw vs : Value} {ws : List Nat} {ms : List Txt} {s s' : RS}
theorem OfL.off_rd (I : RdI R) (h : OfL R w p g b n vw vs ws ms s wr) : ¬ footS p vw vs g ∧ g ≠ w.heap.size := by
  obtain ⟨cs, T, hg, h1, h2, h3⟩ := I.ty _ _ _ h.rd
  refine ⟨?_, fun e => ?_⟩
  · rintro (e | e | e)
    · rw [e, h.sig.heap] at hg; injection hg with hg; injection hg with _ e2; exact h3 e2.symm
    · obtain ⟨_, cur, hc⟩ := own_cells h.sig.own1 e; rw [hc] at hg; injection hg with hg; injection hg with _ e2; exact h1 e2.symm
    · obtain ⟨_, cur, hc⟩ := own_cells h.sig.own2 e; rw [hc] at hg; injection hg with hg; injection hg with _ e2; exact h2 e2.symm
  · rw [e, h.res] at hg; injection hg with hg; injection hg with _ e2; exact h3 e2.symm
theorem OfL.off_res (h : OfL R w p g b n vw vs ws ms s wr) : ¬ footS p vw vs w.heap.size := by
  rintro (e | e | e)
  · have := h.pb; omega
  · obtain ⟨_, cur, hc⟩ := own_cells h.sig.own1 e
    rw [h.res] at hc
    simp at hc
  · obtain ⟨_, cur, hc⟩ := own_cells h.sig.own2 e
    rw [h.res] at hc
    simp at hc
theorem OfL.foot_new (h : OfL R w p g b n vw vs ws ms s wr) {k : Nat} (hk : footS p vw vs k) : w.heap.size ≤ k := by
  rcases hk with e | e | e
  · have := h.pb; omega
  · exact (own_cells h.sig.own1 e).1
  · exact (own_cells h.sig.own2 e).1
theorem OfL.read (I : RdI R) (h : OfL R w p g b n vw vs ws ms s wr) (hr : R w1 g s') (hok : s'.ok) (hk : Kept (· = g) wr w1) : OfL R w p g b n vw vs ws ms s' w1 :=
  ⟨h.sig.kept hk (fun k hf e => (h.off_rd I).1 (e ▸ hf)), hk.old h.res (fun e => (h.off_rd I).2 e.symm), hr, hok, h.bel.trans (hk.below h.bel.size (fun k e => by have := h.gb; omega)), h.pb, h.gb⟩
theorem OfL.new (I : RdI R) (h : OfL R w p g b n vw vs ws ms s wr) (hb : Below wr.heap.size wr w1) : OfL R w p g b n vw vs ws ms s w1 :=
  ⟨h.sig.new hb, (Kept.new hb (fun _ => False)).old h.res id, I.kept _ _ _ _ (fun _ => False) h.rd (Kept.new hb _) id, h.ok, h.bel.trans (hb.mono h.bel.size), h.pb, h.gb⟩
theorem OfL.set (I : RdI R) {j : Nat} {u : Value} {b' n' : Int} (h : OfL R w p g b n vw vs ws ms s wr) (hh : (wr.setCell ⟨p, j, none⟩ u).heap[p]? = some (sigC b' n' vw vs)) : OfL R w p g b' n' vw vs ws ms s (wr.setCell ⟨p, j, none⟩ u) := by
  have hk : Kept (· = p) wr (wr.setCell ⟨p, j, none⟩ u) := (Kept.refl _ wr).setCell (by rfl) u
  have hp := h.pb
  refine ⟨⟨hh, own_off h.sig.own1 hk (fun g' _ _ hg' e => h.sig.ne.1 g' hg' e), own_off h.sig.own2 hk (fun g' _ _ hg' e => h.sig.ne.2.1 g' hg' e)⟩, hk.old h.res (fun e => by omega), I.kept _ _ _ _ _ h.rd hk (fun e => (h.off_rd I).1 (.inl e)), h.ok, h.bel.trans (hk.below h.bel.size (fun k e => by omega)), h.pb, h.gb⟩
theorem OfL.push1 (I : RdI R) {x g' c : Nat} (h : OfL R w p g b n vw vs ws ms s wr)
    (hown : w2.ownsRow w.heap.size 3 1 (.slice (some ⟨g', 0, none⟩) (ws.length + 1) c) (ws.length + 1) (ws.map encN ++ [encN x])) (hg : (wr.alloc o).grownBy w2 vw.ownBlock) (hat : vw.ownBlock = some g' ∨ g' = wr.heap.size + 1) :
    w2.frozen? ⟨p, 2, none⟩ = false ∧ w2.cell? ⟨p, 2, none⟩ = some vw ∧ OfL R w p g b n (.slice (some ⟨g', 0, none⟩) (ws.length + 1) c) vs (ws ++ [x]) ms s (w2.setCell ⟨p, 2, none⟩ (.slice (some ⟨g', 0, none⟩) (ws.length + 1) c)) := by
  obtain ⟨f, c', hs, hk, _⟩ := SigAt.push1 h.sig hown hg hat
  exact ⟨f, c', hs, hk.old h.res h.off_res, I.kept _ _ _ _ _ h.rd hk (h.off_rd I).1, h.ok, h.bel.trans (hk.below h.bel.size (fun k hf => h.foot_new hf)), h.pb, h.gb⟩
theorem OfL.push2 (I : RdI R) {x : Txt} {g' c : Nat} (h : OfL R w p g b n vw vs ws ms s wr)
    (hown : w2.ownsRow w.heap.size 9 1 (.slice (some ⟨g', 0, none⟩) (ms.length + 1) c) (ms.length + 1) (ms.map encT ++ [encT x])) (hg : (wr.alloc o).grownBy w2 vs.ownBlock) (hat : vs.ownBlock = some g' ∨ g' = wr.heap.size + 1) :
    w2.frozen? ⟨p, 3, none⟩ = false ∧ w2.cell? ⟨p, 3, none⟩ = some vs ∧ OfL R w p g b n vw (.slice (some ⟨g', 0, none⟩) (ms.length + 1) c) ws (ms ++ [x]) s (w2.setCell ⟨p, 3, none⟩ (.slice (some ⟨g', 0, none⟩) (ms.length + 1) c)) := by
  obtain ⟨f, c', hs, hk, _⟩ := SigAt.push2 h.sig hown hg hat
  exact ⟨f, c', hs, hk.old h.res h.off_res, I.kept _ _ _ _ _ h.rd hk (h.off_rd I).1, h.ok, h.bel.trans (hk.below h.bel.size (fun k hf => h.foot_new hf)), h.pb, h.gb⟩
end
theorem zero_post (w w' : World) (e : Int) (hb : Below w.heap.size w w') : OfPost w (ofZ e) (.returned (.tuple #[sigV 0 0 (.slice none 0 0) (.slice none 0 0), .int .i64 e])) w' :=
  ⟨_, _, rfl, Row.nil _ _ _, Row.nil _ _ _, hb⟩
/-- The result's cells written: what is kept. -/
theorem OfL.done {R : World → Nat → RS → Prop} {w wr w1 : World} {p g : Nat} {b n : Int} {vw vs : Value} {ws : List Nat} {ms : List Txt} {s : RS} (h : OfL R w p g b n vw vs ws ms s wr) (hk : Kept (fun k => k = w.heap.size) wr w1) : Below w.heap.size w w1 :=
  h.bel.trans (hk.below h.bel.size (fun k e => by omega))

set_option maxRecDepth 100000 in
set_option maxHeartbeats 4000000 in
theorem sigOf_any (S : Txt) (w : World) (hS : S.length ≤ 1000000) :
    Calls Try.prog 31 #[.string ⟨S.toArray⟩] w (OfPost w (ofS S)) := by
  have I := Lib.hid rdI_rd
  have RA := Lib.hid (read_any S ((w.alloc (sigC 0 0 (.slice none 0 0) (.slice none 0 0))).alloc (sigC 0 0 (.slice none 0 0) (.slice none 0 0))))
  have hsz : ((w.alloc (sigC 0 0 (.slice none 0 0) (.slice none 0 0))).alloc (sigC 0 0 (.slice none 0 0) (.slice none 0 0))).heap.size = w.heap.size + 2 := by simp
  have HB := Lib.hid (show Below w.heap.size w ((w.alloc (sigC 0 0 (.slice none 0 0) (.slice none 0 0))).alloc (sigC 0 0 (.slice none 0 0) (.slice none 0 0))) from ((Below.refl _ _).alloc (Nat.le_refl _) _).alloc (by simp) _)
  have G0 := Lib.hid (show ((w.alloc (sigC 0 0 (.slice none 0 0) (.slice none 0 0))).alloc (sigC 0 0 (.slice none 0 0) (.slice none 0 0))).heap[w.heap.size + 1]? = some (sigC 0 0 (.slice none 0 0) (.slice none 0 0)) from heap_alloc2_new _ _ _)
  have R0 := Lib.hid (show ((w.alloc (sigC 0 0 (.slice none 0 0) (.slice none 0 0))).alloc (sigC 0 0 (.slice none 0 0) (.slice none 0 0))).heap[w.heap.size]? = some (sigC 0 0 (.slice none 0 0) (.slice none 0 0)) from heap_alloc2_old _ _ _)
  have E := Lib.hid (show ofS S = ofHead (rNum ⟨S, 0⟩).1 (rNum (rNum ⟨S, 0⟩).2).1 (rNum (rNum ⟨S, 0⟩).2).2 from rfl)
  have K1 := Lib.hid (rNum_ok ⟨S, 0⟩ (.inl rfl))
  go_enter Try.func31, Try.ntmps31
  go_wp2_with fail
  refine RA.out.mono ?_
  rintro e w1 ⟨rfl, hr, hb⟩
  have L0 := Lib.hid (show OfL Rd w (w.heap.size + 1) (w.heap.size + 2) 0 0 (.slice none 0 0) (.slice none 0 0) [] [] ⟨S, 0⟩ w1 from ⟨⟨old_of hb G0.out, OwnL.nil _ _ _ _, OwnL.nil _ _ _ _⟩, old_of hb R0.out, by rw [hsz] at hr; exact hr, .inl rfl, HB.out.trans (hb.mono HB.out.size), by omega, by omega⟩)
  rw [hsz]
  clear hr hb RA hsz HB G0 R0
  have N1 := Lib.hid (rnum_any w1 (w.heap.size + 2) ⟨S, 0⟩ L0.out.rd (.inl rfl))
  generalize (rNum ⟨S, 0⟩).1 = a at *
  generalize (rNum ⟨S, 0⟩).2 = s1 at *
  have K2 := Lib.hid (rNum_ok s1 K1.out)
  go_wp2_with fail
  refine N1.out.mono ?_
  rintro e w2 ⟨rfl, hr2, hk2⟩
  have L1 := Lib.hid (L0.out.read I.out hr2 K1.out hk2)
  have f0 := frozen_of_row w2 (w.heap.size + 1) 0 _ _ L1.out.sig.heap
  have c0 := L1.out.sig.c.1
  have L2 := Lib.hid (L1.out.set I.out (sig_set0 L1.out.sig.heap a))
  clear L0 L1 N1 hr2 hk2
  go_upto_region 4 with fail
  generalize w2.setCell ⟨w.heap.size + 1, 0, none⟩ (.int .i64 a) = w3 at *
  clear f0 c0
  have N2 := Lib.hid (rnum_any w3 (w.heap.size + 2) s1 L2.out.rd K1.out)
  generalize (rNum s1).1 = c at *
  generalize (rNum s1).2 = s2 at *
  go_wp2_with fail
  refine N2.out.mono ?_
  rintro e w4 ⟨rfl, hr2, hk2⟩
  have L3 := Lib.hid (L2.out.read I.out hr2 K2.out hk2)
  have f0 := frozen_of_row w4 (w.heap.size + 1) 1 _ _ L3.out.sig.heap
  have c0 := L3.out.sig.c.2.1
  have L4 := Lib.hid (L3.out.set I.out (sig_set1 L3.out.sig.heap c))
  clear L2 L3 N2 hr2 hk2 K1
  go_upto_region 5 with fail
  generalize w4.setCell ⟨w.heap.size + 1, 1, none⟩ (.int .i64 c) = w5 at *
  clear f0 c0 K2
  have ER := Lib.hid (err_any w5 (w.heap.size + 2) s2 L4.out.rd)
  go_wp2_with fail
  refine ER.out.mono ?_
  rintro e w6 ⟨rfl, rfl⟩
  by_cases he : s2.e = 0
  · have q0 : (s2.e != 0) = false := by simp [he]
    have HH := Lib.hid (show ofHead a c s2 = if okB a = true ∧ okN c = true then ofTail a.toNat c.toNat s2 else ofZ 5 from if_neg (fun h => h he))
    have c0 := L4.out.sig.c.1
    have c1 := L4.out.sig.c.2.1
    have IB := fun w' => Lib.hid (show Calls _ _ _ w' fun e w'' => e = .returned (.bool (okB a)) ∧ w' = w'' from isBlock_any a w')
    have IS := fun w' => Lib.hid (show Calls _ _ _ w' fun e w'' => e = .returned (.bool (okN c)) ∧ w' = w'' from isSize_any c w')
    clear he
    by_cases hb : okB a = true
    · by_cases hn : okN c = true
      · have HE := Lib.hid (show ofHead a c s2 = ofTail a.toNat c.toNat s2 by rw [HH.out, if_pos ⟨hb, hn⟩])
        have hb2 := (okB_iff a).1 hb
        have hn2 := (okN_iff c).1 hn
        rw [hb] at IB
        rw [hn] at IS
        clear hb hn HH
        obtain ⟨B, rfl⟩ : ∃ B : Nat, a = (B : Int) := ⟨a.toNat, by omega⟩
        obtain ⟨M, rfl⟩ : ∃ M : Nat, c = (M : Int) := ⟨c.toNat, by omega⟩
        rw [Int.toNat_natCast, Int.toNat_natCast] at HE
        have c2 := L4.out.sig.c.2.2.1
        have c3 := L4.out.sig.c.2.2.2
        have BL := fun w' => Lib.hid (blocks_any M B (.slice none 0 0) (.slice none 0 0) w' (by omega) (by omega) (by omega))
        have BL2 := fun vw vs w' => Lib.hid (blocks_any M B vw vs w' (by omega) (by omega) (by omega))
        have hN := (nBlk_num M B (by omega) (by omega) (by omega)).2.2
        have HT := Lib.hid (ofTail_eq B M s2)
        generalize ofTail B M s2 = rr at *
        generalize nBlk M B = N at *
        go_wp2_with fail
        refine (IB _).out.mono ?_
        rintro e w7 ⟨rfl, rfl⟩
        go_wp2_with fail
        refine (IS _).out.mono ?_
        rintro e w7 ⟨rfl, rfl⟩
        go_wp2_with fail
        refine (BL _).out.mono ?_
        rintro e w8 ⟨rfl, hb8⟩
        have L5 := Lib.hid (L4.out.new I.out hb8)
        clear L4 hb8 c0 c1 c2 c3 BL IB IS ER
        obtain ⟨i0, hi0, hz0, hz1, hz2⟩ := info_parts info_i64
        have Hi := Lib.hid hi0; clear hi0
        have Z0 := Lib.hid hz0; clear hz0
        have Z1 := Lib.hid hz1; clear hz1
        have Z2 := Lib.hid hz2; clear hz2
        go_wp2
        go_loopw [34] (fun v wr => ∃ (k : Nat) (vw : Value) (wn : List Nat) (t : RS), k ≤ N ∧ v = .int .i64 k ∧ wn.length = k ∧ OfL Rd w (w.heap.size + 1) (w.heap.size + 2) B M vw (.slice none 0 0) wn [] t wr ∧ itL nextC N [] s2 = itL nextC (N - k) (wn.map (fun n : Nat => (n : Int))) t) (fun v _ => N - (intOf v).toNat)
        case atStart => exact ⟨0, _, [], s2, by omega, rfl, rfl, L5.out, rfl⟩
        case round =>
          obtain ⟨k, vw, wn, t, hk, rfl, hwn, hL, heq⟩ := hrel
          have HWN := Lib.hid hwn; clear hwn
          have HL := Lib.hid hL; clear hL
          have HQ := Lib.hid heq; clear heq
          by_cases hlt : k < N
          · obtain ⟨f, hf⟩ : ∃ f, N - k = f + 1 := ⟨N - k - 1, by omega⟩
            rw [hf] at HQ
            have HF := Lib.hid hf; clear hf
            obtain ⟨x, hx⟩ := nextC_nat t HL.out.ok
            have LD := Lib.hid (HL.out.new I.out (Below_drew (Below.refl _ wr)))
            have CN := Lib.hid (count_any wr.drew (w.heap.size + 2) t 4294967295 LD.out.rd LD.out.ok)
            have OK1 := Lib.hid (rCount_ok t 4294967295 LD.out.ok)
            have HQ2 := Lib.hid (show itL nextC (f + 1) (wn.map (fun n : Nat => (n : Int))) t = itL nextC f ((wn ++ [x]).map (fun n : Nat => (n : Int))) (rCount t 4294967295).2 by
              rw [List.map_append]; show itL nextC f (_ ++ [(nextC t).1]) _ = _; rw [hx]; rfl)
            have hx1 : (rCount t 4294967295).1 = (x : Int) := hx
            rw [hx1] at CN
            generalize (rCount t 4294967295).2 = t1 at *
            clear hx hx1
            have d1 := HL.out.sig.c.2.2.1
            go_upto_region 11 with fail
            go_region_law (first
              | ((with_reducible refine step_append_lies (o := ⟨some 41, _, _, _, _, _⟩) (w1.alloc (.cells #[.int .i64 (x : Nat)] 3)) rfl (.tmp 37) (.tmp 40) 28 rfl w.heap.size 3 i0 (.int .i64 0) 1 8 Try.underlying28 Hi.out Z0.out Z1.out Z2.out rfl (by decide) vw wn.length (wn.map encN) ?ev HO.out ⟨w1.heap.size, 0, none⟩ 1 1 [.int .i64 (x : Nat)] ?ex rfl HNW.out ?oc (Nat.succ_pos 0) ?l1 ?l2 ?l3 (w1.heap.size + 1) ?l4 ?_)
                 case ev => simp [Act.eval]
                 case ex => simp [Act.eval]
                 case oc => simp [Value.oneCell']
                 case l1 => rw [HWN.out]; unfold maxLen; omega
                 case l2 => rw [HWN.out]; omega
                 case l3 => simp; omega
                 case l4 => simp
                 intro g' cap w2 hown hgrow hat hlt2
                 obtain ⟨f1, d4, PS⟩ := OfL.push1 I.out L1.out hown hgrow hat
                 have HP := Lib.hid PS; clear PS hown hgrow hat hlt2)
              | (go_simp; go_at_call 61; (with_reducible refine CN.out.mono ?_); rintro e w1 ⟨rfl, hr1, hk1⟩; have L1 := Lib.hid (LD.out.read I.out hr1 OK1.out hk1); have d2 := L1.out.sig.c.2.2.1; have d3 := cell_alloc1 d2 (.cells #[.int .i64 (x : Nat)] 3); have HO := Lib.hid (World.ownsRow.alloc L1.out.sig.own1 (.cells #[.int .i64 (x : Nat)] 3)); have HNW := Lib.hid (news_new w1 (.int .i64 (x : Nat)) 3); have hsz1 := L1.out.bel.size; clear hr1 hk1))
            all_goals
              go_wp2
              go_roundw
              case rel => exact ⟨k + 1, _, wn ++ [x], t1, by omega, by go_num, by rw [List.length_append, HWN.out]; rfl, HP.out, by rw [HQ.out, HQ2.out, show N - (k + 1) = f by have := HF.out; omega]⟩
              case measure => simp [intOf]; omega
          · have i1 : ¬ (k : Int) < (N : Int) := by omega
            obtain rfl : k = N := by omega
            rw [Nat.sub_self] at HQ
            have HQ1 := Lib.hid (show itL nextC k [] s2 = (wn.map (fun n : Nat => (n : Int)), t) from HQ.out); clear HQ
            obtain ⟨a1, m1, k1, rfl⟩ := own_slice HL.out.sig.own1
            obtain ⟨e0, e1, e2, e3⟩ := HL.out.sig.c
            go_wp2_with fail
            refine (BL2 _ _ _).out.mono ?_
            rintro e w8 ⟨rfl, hb8⟩
            have L6 := Lib.hid (HL.out.new I.out hb8)
            clear HL hb8 e0 e1 e2 e3
            obtain ⟨i1', hi1, hy0, hy1, hy2⟩ := info_parts info_str
            have Hi1 := Lib.hid hi1; clear hi1
            have Y0 := Lib.hid hy0; clear hy0
            have Y1 := Lib.hid hy1; clear hy1
            have Y2 := Lib.hid hy2; clear hy2
            go_wp2
            go_loopw [46] (fun v wr => ∃ (j : Nat) (vs : Value) (ms : List Txt) (u : RS), j ≤ k ∧ v = .int .i64 j ∧ ms.length = j ∧ (∀ m ∈ ms, m.length ≤ 32) ∧ OfL Rd w (w.heap.size + 1) (w.heap.size + 2) B M (.slice a1 m1 k1) vs wn ms u wr ∧ itL nextM k [] t = itL nextM (k - j) ms u) (fun v _ => k - (intOf v).toNat)
            case atStart => exact ⟨0, _, [], t, by omega, rfl, rfl, by simp, L6.out, rfl⟩
            case round =>
              obtain ⟨j, vs, ms, u, hj, rfl, hms, hm32, hL, heq⟩ := hrel
              have HMS := Lib.hid hms; clear hms
              have HM32 := Lib.hid hm32; clear hm32
              have HL2 := Lib.hid hL; clear hL
              have HQ := Lib.hid heq; clear heq
              by_cases hlt : j < k
              · obtain ⟨f, hf⟩ : ∃ f, k - j = f + 1 := ⟨k - j - 1, by omega⟩
                rw [hf] at HQ
                have HF := Lib.hid hf; clear hf
                have LD := Lib.hid (HL2.out.new I.out (Below_drew (Below.refl _ wr)))
                have CN := Lib.hid (raw_any wr.drew (w.heap.size + 2) u 32 LD.out.rd LD.out.ok)
                have OK1 := Lib.hid (rRaw_ok u 32 LD.out.ok)
                have HX := Lib.hid (nextM_len u)
                have HQ2 := Lib.hid (show itL nextM (f + 1) ms u = itL nextM f (ms ++ [(nextM u).1]) (rRaw u 32).2 from rfl)
                rw [show rRaw u 32 = nextM u from rfl] at CN OK1 HQ2
                generalize (nextM u).1 = x at *
                generalize (nextM u).2 = u1 at *
                have d1 := HL2.out.sig.c.2.2.2
                go_upto_region 15 with fail
                go_region_law (first
                  | ((with_reducible refine step_append_lies (o := ⟨some 53, _, _, _, _, _⟩) (w1.alloc (.cells #[.string ⟨x.toArray⟩] 9)) rfl (.tmp 49) (.tmp 52) 29 rfl w.heap.size 9 i1' (.string ByteArray.empty) 1 16 Try.underlying29 Hi1.out Y0.out Y1.out Y2.out rfl (by decide) vs ms.length (ms.map encT) ?ev HO.out ⟨w1.heap.size, 0, none⟩ 1 1 [.string ⟨x.toArray⟩] ?ex rfl HNW.out ?oc (Nat.succ_pos 0) ?l1 ?l2 ?l3 (w1.heap.size + 1) ?l4 ?_)
                     case ev => simp [Act.eval]
                     case ex => simp [Act.eval]
                     case oc => simp [Value.oneCell']
                     case l1 => rw [HMS.out]; unfold maxLen; omega
                     case l2 => rw [HMS.out]; omega
                     case l3 => simp; omega
                     case l4 => simp
                     intro g' cap w2 hown hgrow hat hlt2
                     obtain ⟨f1, d4, PS⟩ := OfL.push2 I.out L1.out hown hgrow hat
                     have HP := Lib.hid PS; clear PS hown hgrow hat hlt2)
                  | (go_simp; go_at_call 62; (with_reducible refine CN.out.mono ?_); rintro e w1 ⟨rfl, hr1, hk1⟩; have L1 := Lib.hid (LD.out.read I.out hr1 OK1.out hk1); have d2 := L1.out.sig.c.2.2.2; have d3 := cell_alloc1 d2 (.cells #[.string ⟨x.toArray⟩] 9); have HO := Lib.hid (World.ownsRow.alloc L1.out.sig.own2 (.cells #[.string ⟨x.toArray⟩] 9)); have HNW := Lib.hid (news_new w1 (.string ⟨x.toArray⟩) 9); have hsz1 := L1.out.bel.size; clear hr1 hk1))
                all_goals
                  go_wp2
                  go_roundw
                  case rel => exact ⟨j + 1, _, ms ++ [x], u1, by omega, by go_num, by rw [List.length_append, HMS.out]; rfl, fun m hm => (List.mem_append.1 hm).elim (HM32.out m) (fun h => by rw [List.mem_singleton.1 h]; exact HX.out), HP.out, by rw [HQ.out, HQ2.out, show k - (j + 1) = f by have := HF.out; omega]⟩
                  case measure => simp [intOf]; omega
              · have i2 : ¬ (j : Int) < (k : Int) := by omega
                obtain rfl : j = k := by omega
                rw [Nat.sub_self] at HQ
                have HQ3 := Lib.hid (show itL nextM j [] t = (ms, u) from HQ.out); clear HQ
                have HT2 := Lib.hid (show rr = if (rEnd u).e ≠ 0 then ofZ (rEnd u).e else ⟨0, B, M, wn.map (fun n : Nat => (n : Int)), ms⟩ by
                  rw [HT.out, HQ1.out]; dsimp only; rw [HQ3.out])
                have EN := Lib.hid (end_any wr (w.heap.size + 2) u HL2.out.rd)
                have OK2 := Lib.hid (rEnd_ok u HL2.out.ok)
                generalize rEnd u = u2 at *
                clear HT HQ1 HQ3
                obtain ⟨a2, m2, k2, rfl⟩ := own_slice HL2.out.sig.own2
                go_wp2_with fail
                refine EN.out.mono ?_
                rintro e w9 ⟨rfl, hr9, hk9⟩
                have L7 := Lib.hid (HL2.out.read I.out hr9 OK2.out hk9)
                clear hr9 hk9 HL2
                by_cases he : u2.e = 0
                · have q1 : (u2.e != 0) = false := by simp [he]
                  have HT3 := Lib.hid (show rr = ⟨0, B, M, wn.map (fun n : Nat => (n : Int)), ms⟩ by rw [HT2.out, if_neg (fun h => h he)])
                  clear HT2 he
                  obtain ⟨e0, e1, e2, e3⟩ := L7.out.sig.c
                  have OW := Lib.hid (own_any B M _ ms _ _ _ _ w9 (row_int L7.out.sig.own1.row) L7.out.sig.own2.row (by rw [List.length_map, HWN.out]; omega) (by rw [HMS.out]; omega) (fun m hm => by have := HM32.out m hm; omega))
                  go_wp2_with fail
                  refine OW.out.mono ?_
                  rintro e w10 ⟨vw', vs', rfl, ho1, ho2, hb10⟩
                  have L8 := Lib.hid (L7.out.new I.out hb10)
                  have HS := L7.out.bel.size
                  have R1 := Lib.hid ((ho1.row).mono (M := (w.heap.size ≤ ·)) (fun k h => by omega))
                  have R2 := Lib.hid ((ho2.row).mono (M := (w.heap.size ≤ ·)) (fun k h => by omega))
                  have HO1 := Lib.hid ho1
                  have HO2 := Lib.hid ho2
                  obtain ⟨a3, m3, k3, rfl⟩ := own_slice ho1
                  obtain ⟨a4, m4, k4, rfl⟩ := own_slice ho2
                  clear e0 e1 e2 e3 ho1 ho2 hb10 L7 OW
                  obtain ⟨s0', s1', s2', s3', s4', s5'⟩ := sig_store (b' := B) (n' := M) (vw' := .slice a3 m3 k3) (vs' := .slice a4 m4 k4) L8.out.res
                  have S0 := s0'.1
                  have S0f := s0'.2
                  have S1 := s1'.1
                  have S1f := s1'.2
                  have S2 := s2'.1
                  have S2f := s2'.2
                  have S3 := s3'.1
                  have S3f := s3'.2
                  have S4 := Lib.hid s4'
                  have S5 := Lib.hid s5'
                  clear s0' s1' s2' s3' s4' s5'
                  go_wp2
                  refine bodyPost_ret (v := .tuple #[sigV B M (.slice a3 m3 k3) (.slice a4 m4 k4), .int .i64 0]) (results_row_tmp Try.results31 _ _ w.heap.size _ _ _ _ rfl S4.out Try.underlying31 rfl sig_info) rfl ?_
                  rw [E.out, HE.out, HT3.out]
                  have hres := L8.out.res
                  have off1 : ∀ g' cur, w10.heap[g']? = some (.cells cur 3 (0, 0)) → g' ≠ w.heap.size := fun g' cur hg e => by rw [e, hres] at hg; simp at hg
                  have off2 : ∀ g' cur, w10.heap[g']? = some (.cells cur 9 (0, 0)) → g' ≠ w.heap.size := fun g' cur hg e => by rw [e, hres] at hg; simp at hg
                  exact ⟨_, _, rfl, (OwnL.row (own_back (own_off HO1.out S5.out (fun g' cur hg _ e => off1 g' cur hg e)) HS)), (OwnL.row (own_back (own_off HO2.out S5.out (fun g' cur hg _ e => off2 g' cur hg e)) HS)), L8.out.done S5.out⟩
                · have q1 : (u2.e != 0) = true := by simp [he]
                  have HT3 := Lib.hid (show rr = ofZ u2.e by rw [HT2.out, if_pos he])
                  clear HT2 he
                  obtain ⟨s0', s1', s2', s3', s4', s5'⟩ := sig_store (b' := 0) (n' := 0) (vw' := .slice none 0 0) (vs' := .slice none 0 0) L7.out.res
                  have S0 := s0'.1
                  have S0f := s0'.2
                  have S1 := s1'.1
                  have S1f := s1'.2
                  have S2 := s2'.1
                  have S2f := s2'.2
                  have S3 := s3'.1
                  have S3f := s3'.2
                  have S4 := Lib.hid s4'
                  have S5 := Lib.hid s5'
                  clear s0' s1' s2' s3' s4' s5'
                  go_wp2
                  refine bodyPost_ret (v := .tuple #[sigV 0 0 (.slice none 0 0) (.slice none 0 0), .int .i64 u2.e]) (results_row_tmp Try.results31 _ _ w.heap.size _ _ _ _ rfl S4.out Try.underlying31 rfl sig_info) rfl ?_
                  rw [E.out, HE.out, HT3.out]
                  exact zero_post _ _ _ (L7.out.done S5.out)
      · have HE := Lib.hid (show ofHead a c s2 = ofZ 5 by rw [HH.out, if_neg (fun h => hn h.2)])
        rw [hb] at IB
        rw [Bool.not_eq_true] at hn
        rw [hn] at IS
        clear hb hn HH
        obtain ⟨s0', s1', s2', s3', s4', s5'⟩ := sig_store (b' := 0) (n' := 0) (vw' := .slice none 0 0) (vs' := .slice none 0 0) L4.out.res
        have S0 := s0'.1
        have S0f := s0'.2
        have S1 := s1'.1
        have S1f := s1'.2
        have S2 := s2'.1
        have S2f := s2'.2
        have S3 := s3'.1
        have S3f := s3'.2
        have S4 := Lib.hid s4'
        have S5 := Lib.hid s5'
        clear s0' s1' s2' s3' s4' s5'
        go_wp2_with fail
        refine (IB _).out.mono ?_
        rintro e w7 ⟨rfl, rfl⟩
        go_wp2_with fail
        refine (IS _).out.mono ?_
        rintro e w7 ⟨rfl, rfl⟩
        go_wp2
        refine bodyPost_ret (v := .tuple #[sigV 0 0 (.slice none 0 0) (.slice none 0 0), .int .i64 5]) (results_row_tmp Try.results31 _ _ w.heap.size _ _ _ _ rfl S4.out Try.underlying31 rfl sig_info) rfl ?_
        rw [E.out, HE.out]
        exact zero_post _ _ _ (L4.out.done S5.out)
    · have HE := Lib.hid (show ofHead a c s2 = ofZ 5 by rw [HH.out, if_neg (fun h => hb h.1)])
      rw [Bool.not_eq_true] at hb
      rw [hb] at IB
      clear hb HH
      obtain ⟨s0', s1', s2', s3', s4', s5'⟩ := sig_store (b' := 0) (n' := 0) (vw' := .slice none 0 0) (vs' := .slice none 0 0) L4.out.res
      have S0 := s0'.1
      have S0f := s0'.2
      have S1 := s1'.1
      have S1f := s1'.2
      have S2 := s2'.1
      have S2f := s2'.2
      have S3 := s3'.1
      have S3f := s3'.2
      have S4 := Lib.hid s4'
      have S5 := Lib.hid s5'
      clear s0' s1' s2' s3' s4' s5'
      go_wp2_with fail
      refine (IB _).out.mono ?_
      rintro e w7 ⟨rfl, rfl⟩
      go_wp2
      refine bodyPost_ret (v := .tuple #[sigV 0 0 (.slice none 0 0) (.slice none 0 0), .int .i64 5]) (results_row_tmp Try.results31 _ _ w.heap.size _ _ _ _ rfl S4.out Try.underlying31 rfl sig_info) rfl ?_
      rw [E.out, HE.out]
      exact zero_post _ _ _ (L4.out.done S5.out)
  · have q0 : (s2.e != 0) = true := by simp [he]
    have HE := Lib.hid (show ofHead a c s2 = ofZ s2.e from if_pos he)
    obtain ⟨s0', s1', s2', s3', s4', s5'⟩ := sig_store (b' := 0) (n' := 0) (vw' := .slice none 0 0) (vs' := .slice none 0 0) L4.out.res
    have S0 := s0'.1
    have S0f := s0'.2
    have S1 := s1'.1
    have S1f := s1'.2
    have S2 := s2'.1
    have S2f := s2'.2
    have S3 := s3'.1
    have S3f := s3'.2
    have S4 := Lib.hid s4'
    have S5 := Lib.hid s5'
    clear s0' s1' s2' s3' s4' s5' he
    go_wp2_with fail
    refine ER.out.mono ?_
    rintro e w6 ⟨rfl, rfl⟩
    go_wp2
    refine bodyPost_ret (v := .tuple #[sigV 0 0 (.slice none 0 0) (.slice none 0 0), .int .i64 s2.e]) (results_row_tmp Try.results31 _ _ w.heap.size _ _ _ _ rfl S4.out Try.underlying31 rfl sig_info) rfl ?_
    rw [E.out]
    show OfPost w (ofHead a c s2) _ _
    rw [HE.out]
    exact zero_post _ _ _ (L4.out.done S5.out)
end Go.Proofs.Ytifbdbblfhphjaa

/- Several texts in one: ReadDMath, ReadStW. -/
import Derived.Test.YtpkgjokehgihjaaGreatMkX
import Derived.Test.YtpkgjokehgihjaaGreatBookW
import Derived.Test.YtpkgjokehgihjaaGreatCdX
import Derived.Test.YtpkgjokehgihjaaGreatDelX
import Derived.Test.YtpkgjokehgihjaaGreatFrame
import Derived.Test.YtpkgjokehgihjaaGreatGen
import Derived.Test.YtpkgjokehgihjaaGreatMarkMath
import Derived.Test.YtpkgjokehgihjaaGreatOfMath
import Derived.Test.YtpkgjokehgihjaaGreatOwnL
import Derived.Test.YtpkgjokehgihjaaGreatPtX
import Derived.Test.YtpkgjokehgihjaaGreatRows
import Derived.Test.YtpkgjokehgihjaaGreatShelf
import Derived.Test.YtpkgjokehgihjaaGreatSigAt
import Derived.Test.YtpkgjokehgihjaaGreatSigOfW
import Derived.Test.YtpkgjokehgihjaaGreatSignMath
import Derived.BigQuiet
import Derived.BigRegion
import Derived.Deep.CutBlock
import Derived.Deep.DeepCutAuto
import Derived.Deep.QuietTactic
import Derived.Deep.RegionHeld3
import Derived.Deep.RegionLaw
import Derived.IntWalk
import Derived.Laws.BitsAllLaws
import Derived.Laws.Rows
import Derived.Laws.Tables
import Derived.Lib.Hide
import Derived.Outline
import Derived.StillTailTactics
import Derived.WalkKit
import Derived.WalkLawsBesides
import Derived.WalkSpells
import Derived.Test.YtpkgjokehgihjaaGreatProg
import Derived.Test.YtpkgjokehgihjaaGreatRollMath
import Derived.Maps.OwnSet
import Derived.Maps.Views
import Derived.OpenShut
import Derived.ProofKit
import Derived.ShutString
import Derived.SizedLaws
import Derived.SliceStrings
/- What bytes are as a delta, as plain mathematics; there and back. Of no program. -/
set_option linter.unusedVariables false
namespace Go.Proofs.YtpkgjokehgihjaaGreat
open Go.RowKit

def stepR (s : RS) : DSt × RS :=
  if (rNum s).1 % 2 = 0 then (⟨0, 0, (rRaw (rNum s).2 ((rNum s).1 / 2)).1⟩, (rRaw (rNum s).2 ((rNum s).1 / 2)).2)
  else (⟨(rNum (rNum s).2).1, (rNum s).1 / 2, []⟩, (rNum (rNum s).2).2)
theorem stepR_ok (s : RS) (h : s.ok) : (stepR s).2.ok := by
  unfold stepR
  split
  · exact rRaw_ok _ _ (rNum_ok s h)
  · exact rNum_ok _ (rNum_ok s h)
/-- The steps, read from the left: an error, or the steps and what is left. -/
def loopR : Nat → List DSt → RS → Int × List DSt × RS
  | 0, acc, s => (0, acc, s)
  | k + 1, acc, s => if (stepR s).2.e ≠ 0 then ((stepR s).2.e, [], s) else if stS (stepR s).1 = true then loopR k (acc ++ [(stepR s).1]) (stepR s).2 else (5, [], s)
theorem loopR_next (k : Nat) (acc : List DSt) (s : RS) : loopR (k + 1) acc s = if (stepR s).2.e ≠ 0 then ((stepR s).2.e, [], s) else if stS (stepR s).1 = true then loopR k (acc ++ [(stepR s).1]) (stepR s).2 else (5, [], s) := rfl
structure DlR where
  e : Int
  bm : Txt
  mm : Txt
  n : Int
  l : List DSt
def dlZ (e : Int) : DlR := ⟨e, [], [], 0, []⟩
def tailR (bm mm : Txt) (n : Int) (r : Int × List DSt × RS) : DlR :=
  if r.1 ≠ 0 then dlZ r.1 else if (rEnd r.2.2).e ≠ 0 then dlZ (rEnd r.2.2).e else if rightD bm mm n r.2.1 = true then ⟨0, bm, mm, n, r.2.1⟩ else dlZ 5
/-- What bytes are as a delta. -/
def readD (S : Txt) : DlR :=
  tailR (rRaw ⟨S, 0⟩ 32).1 (rRaw (rRaw ⟨S, 0⟩ 32).2 32).1 (rNum (rRaw (rRaw ⟨S, 0⟩ 32).2 32).2).1
    (loopR (rNum (rNum (rRaw (rRaw ⟨S, 0⟩ 32).2 32).2).2).1.toNat [] (rNum (rNum (rRaw (rRaw ⟨S, 0⟩ 32).2 32).2).2).2)

theorem raw_app (a t : Txt) (n : Nat) (h : a.length = n) : rRaw ⟨a ++ t, 0⟩ (n : Int) = (a, ⟨t, 0⟩) := by
  rw [rRaw_all _ n rfl (by rw [List.length_append]; omega)]
  rw [← h, List.take_left' rfl, List.drop_left' rfl]
theorem stepR_fore (x : DSt) (h : stS x = true) (t : Txt) : stepR ⟨stB x ++ t, 0⟩ = (x, ⟨t, 0⟩) := by
  obtain ⟨p, n, u⟩ := x
  unfold stS at h
  unfold stB
  dsimp only at h ⊢
  by_cases hu : u = []
  · subst hu
    rw [if_neg (by simp)] at h
    have h0 := of_decide_eq_true h
    obtain ⟨q, rfl⟩ : ∃ q : Nat, n = (q : Int) := ⟨n.toNat, by omega⟩
    obtain ⟨r, rfl⟩ : ∃ r : Nat, p = (r : Int) := ⟨p.toNat, by omega⟩
    rw [if_pos rfl, List.append_assoc, show (2 * (q : Int) + 1).toNat = 2 * q + 1 by omega, Int.toNat_natCast]
    unfold stepR
    rw [rNum_nb (2 * q + 1) _ (by omega)]
    dsimp only
    rw [if_neg (by omega), rNum_nb r t (by omega)]
    simp only [Prod.mk.injEq, DSt.mk.injEq, and_true, true_and]
    omega
  · rw [if_pos hu] at h
    obtain ⟨h1, h2, h3⟩ := of_decide_eq_true h
    subst h2; subst h3
    rw [if_neg hu, List.append_assoc]
    unfold stepR
    rw [rNum_nb (2 * u.length) _ (by omega)]
    dsimp only
    rw [if_pos (by omega), show ((2 * u.length : Nat) : Int) / 2 = (u.length : Int) by omega, raw_app u t u.length rfl]
theorem loopR_fore : ∀ (l acc : List DSt) (t : Txt), (∀ x ∈ l, stS x = true) → loopR l.length acc ⟨bodyB l ++ t, 0⟩ = (0, acc ++ l, ⟨t, 0⟩) := by
  intro l
  induction l with
  | nil => intro acc t _; unfold bodyB loopR; simp
  | cons x l ih =>
    intro acc t h
    have hx := h x (by simp)
    have e : bodyB (x :: l) = stB x ++ bodyB l := by unfold bodyB; simp
    rw [List.length_cons, loopR_next, e, List.append_assoc, stepR_fore x hx]
    dsimp only
    rw [if_neg (by simp), if_pos hx, ih _ _ (fun y hy => h y (by simp [hy]))]
    simp
/-- Read of Bytes. -/
theorem readD_bytes {bm mm : Txt} {n : Int} {l : List DSt} {M : Nat} (h : RightDIs bm mm n l M) : readD (bytesD bm mm M l) = ⟨0, bm, mm, n, l⟩ := by
  have hn := h.n
  have hn2 := h.n2
  have hl := h.len
  unfold readD bytesD headB
  simp only [List.append_assoc]
  rw [show (32 : Int) = ((32 : Nat) : Int) from rfl, raw_app bm _ 32 h.b]
  dsimp only
  rw [raw_app mm _ 32 h.m]
  dsimp only
  rw [rNum_nb M _ (by omega)]
  dsimp only
  rw [rNum_nb l.length _ (by omega)]
  dsimp only
  have e2 := loopR_fore l [] [] h.st
  rw [List.append_nil] at e2
  rw [Int.toNat_natCast, e2]
  unfold tailR
  dsimp only
  rw [if_neg (by simp), if_neg (by simp [rEnd]), List.nil_append, ← hn, if_pos h.right]
theorem stepR_back (s : RS) (hs : s.ok) (he : (stepR s).2.e = 0) (hx : stS (stepR s).1 = true) : s.l = stB (stepR s).1 ++ (stepR s).2.l := by
  have h0 : (rNum s).2.e = 0 := by
    by_cases k : (rNum s).2.e = 0
    · exact k
    · unfold stepR at he
      split at he
      · rw [rRaw_err _ _ k] at he; exact he
      · rw [rNum_of_err _ (rNum_ok s hs) k] at he; exact he
  obtain ⟨q, hq, hv, hl⟩ := rNum_split s hs h0
  have ok1 := rNum_ok s hs
  unfold stepR at he hx ⊢
  rw [hv] at he hx ⊢
  generalize (rNum s).2 = s1 at *
  split
  · rename_i hc
    rw [if_pos hc] at he hx
    dsimp only at he hx ⊢
    have hr : rRaw s1 ((q : Int) / 2) = (s1.l.take (q / 2), ⟨s1.l.drop (q / 2), 0⟩) ∧ q / 2 ≤ s1.l.length := by
      rw [show (q : Int) / 2 = ((q / 2 : Nat) : Int) by omega] at he ⊢
      by_cases hlt : (s1.l.length : Int) < ((q / 2 : Nat) : Int)
      · rw [rRaw_long s1 _ (by omega) hlt] at he
        exact absurd he (rFail_e s1 3 (by decide))
      · exact ⟨rRaw_all s1 (q / 2) h0 (by omega), by omega⟩
    rw [hr.1] at hx ⊢
    dsimp only at hx ⊢
    have hlen : (s1.l.take (q / 2)).length = q / 2 := by rw [List.length_take]; omega
    have hsp : s1.l.take (q / 2) ++ s1.l.drop (q / 2) = s1.l := List.take_append_drop _ _
    generalize s1.l.take (q / 2) = u at *
    unfold stB
    dsimp only
    have hu : u ≠ [] := by
      rintro rfl
      unfold stS at hx
      dsimp only at hx
      rw [if_neg (by simp)] at hx
      have := of_decide_eq_true hx
      omega
    rw [if_neg hu, List.append_assoc, hsp, hlen, show 2 * (q / 2) = q by omega]
    exact hl
  · rename_i hc
    rw [if_neg hc] at he hx
    dsimp only at he hx ⊢
    obtain ⟨r, hr, hrv, hrl⟩ := rNum_split s1 ok1 he
    rw [hrv] at hx ⊢
    unfold stB
    dsimp only
    rw [if_pos rfl, List.append_assoc, Int.toNat_natCast, ← hrl, show (2 * ((q : Int) / 2) + 1).toNat = q by omega]
    exact hl
theorem loopR_back (k : Nat) : ∀ (acc : List DSt) (s : RS), s.ok → (loopR k acc s).1 = 0 → ∃ ys, (loopR k acc s).2.1 = acc ++ ys ∧ ys.length = k ∧ (∀ y ∈ ys, stS y = true) ∧ s.l = bodyB ys ++ (loopR k acc s).2.2.l ∧ (loopR k acc s).2.2.ok := by
  induction k with
  | zero => intro acc s hs _; exact ⟨[], by simp [loopR], rfl, by simp, by simp [loopR, bodyB], hs⟩
  | succ k ih =>
    intro acc s hs he
    rw [loopR_next] at he ⊢
    by_cases h0 : (stepR s).2.e = 0
    · rw [if_neg (fun c => c h0)] at he ⊢
      by_cases h1 : stS (stepR s).1 = true
      · rw [if_pos h1] at he ⊢
        obtain ⟨ys, e1, e2, e3, e4, e5⟩ := ih _ _ (stepR_ok s hs) he
        refine ⟨(stepR s).1 :: ys, by rw [e1]; simp, by simp [e2], fun y hy => ?_, ?_, e5⟩
        · rcases List.mem_cons.1 hy with rfl | hy
          · exact h1
          · exact e3 y hy
        · have e : bodyB ((stepR s).1 :: ys) = stB (stepR s).1 ++ bodyB ys := by unfold bodyB; simp
          rw [e, List.append_assoc, ← e4]
          exact stepR_back s hs h0 h1
      · rw [if_neg h1] at he; dsimp only at he; exact absurd he (by decide)
    · rw [if_pos h0] at he; exact absurd he h0
theorem raw_back (s : RS) (m : Nat) (he : (rRaw s (m : Int)).2.e = 0) : s.e = 0 ∧ (rRaw s (m : Int)).1.length = m ∧ s.l = (rRaw s (m : Int)).1 ++ (rRaw s (m : Int)).2.l := by
  by_cases h0 : s.e = 0
  · by_cases hl : (s.l.length : Int) < (m : Int)
    · rw [rRaw_long s _ (by omega) hl] at he
      exact absurd he (rFail_e s 3 (by decide))
    · rw [rRaw_all s m h0 (by omega)]
      exact ⟨h0, by rw [List.length_take]; omega, (List.take_append_drop m s.l).symm⟩
  · rw [rRaw_err s _ h0] at he; exact absurd he h0
/-- Bytes of Read. -/
theorem readD_back (S : Txt) (h : (readD S).e = 0) : ∃ M, RightDIs (readD S).bm (readD S).mm (readD S).n (readD S).l M ∧ bytesD (readD S).bm (readD S).mm M (readD S).l = S := by
  unfold readD at h ⊢
  have ok0 : RS.ok ⟨S, 0⟩ := .inl rfl
  have ok1 := rRaw_ok ⟨S, 0⟩ 32 ok0
  have ok2 := rRaw_ok _ 32 ok1
  have ok3 := rNum_ok _ ok2
  have ok4 := rNum_ok _ ok3
  unfold tailR at h ⊢
  split at h
  · rename_i c; exact absurd h c
  · rename_i c1
    rw [if_neg c1]
    split at h
    · rename_i c; exact absurd h c
    · rename_i c2
      rw [if_neg c2]
      split at h
      · rename_i c3
        rw [if_pos c3]
        dsimp only
        obtain ⟨ys, y1, y2, y3, y4, y5⟩ := loopR_back _ [] _ ok4 (by simpa using c1)
        have hend := rEnd_e _ (by simpa using c2)
        have hendl := rEnd_l _ (by simpa using c2)
        rw [hendl, List.append_nil] at y4
        have e4 : (rNum (rNum (rRaw (rRaw ⟨S, 0⟩ 32).2 32).2).2).2.e = 0 := by
          by_cases k : (rNum (rNum (rRaw (rRaw ⟨S, 0⟩ 32).2 32).2).2).2.e = 0
          · exact k
          · exfalso
            have hz : (rNum (rNum (rRaw (rRaw ⟨S, 0⟩ 32).2 32).2).2).1.toNat = 0 := by
              have : ys.length = 0 := by
                have hl0 : (rNum (rNum (rRaw (rRaw ⟨S, 0⟩ 32).2 32).2).2).2.l = [] := by
                  rcases ok4 with c | c
                  · exact absurd c k
                  · exact c
                rw [hl0] at y4
                cases ys with
                | nil => rfl
                | cons y ys =>
                  have hp : 1 ≤ (stB y).length := by
                    unfold stB
                    split
                    · have := (nb_length (2 * y.len + 1).toNat).1; rw [List.length_append]; omega
                    · have := (nb_length (2 * y.txt.length)).1; rw [List.length_append]; omega
                  have := congrArg List.length y4
                  unfold bodyB at this
                  rw [List.map_cons, List.flatten_cons, List.length_append, List.length_nil] at this
                  omega
              omega
            rw [hz] at hend
            exact k hend
        have e3 : (rNum (rRaw (rRaw ⟨S, 0⟩ 32).2 32).2).2.e = 0 := by
          by_cases k : (rNum (rRaw (rRaw ⟨S, 0⟩ 32).2 32).2).2.e = 0
          · exact k
          · rw [rNum_of_err _ ok3 k] at e4; exact absurd e4 k
        have e2 : (rRaw (rRaw ⟨S, 0⟩ 32).2 32).2.e = 0 := by
          by_cases k : (rRaw (rRaw ⟨S, 0⟩ 32).2 32).2.e = 0
          · exact k
          · rw [rNum_of_err _ ok2 k] at e3; exact absurd e3 k
        obtain ⟨q4, a4, b4, l4⟩ := rNum_split _ ok3 e4
        obtain ⟨q3, a3, b3, l3⟩ := rNum_split _ ok2 e3
        obtain ⟨a2, b2, l2⟩ := raw_back _ 32 e2
        obtain ⟨a1, b1, l1⟩ := raw_back _ 32 a2
        rw [y1, List.nil_append] at c3 ⊢
        obtain ⟨M, hM⟩ := rightD_is c3
        refine ⟨M, hM, ?_⟩
        have hMn := hM.n
        rw [b3] at hMn
        have hq3 : q3 = M := by omega
        rw [b4, Int.toNat_natCast] at y2
        unfold bytesD headB
        rw [y2, ← hq3, List.append_assoc, List.append_assoc, List.append_assoc, ← y4, ← l4, ← l3]
        have l2' : (rRaw ⟨S, 0⟩ 32).2.l = (rRaw (rRaw ⟨S, 0⟩ 32).2 32).1 ++ (rRaw (rRaw ⟨S, 0⟩ 32).2 32).2.l := l2
        rw [← l2']
        exact l1.symm
      · exact absurd h (by decide)
end Go.Proofs.YtpkgjokehgihjaaGreat
/- The walk of the reading of one step. -/
set_option linter.unusedVariables false
namespace Go.Proofs.YtpkgjokehgihjaaGreat
open Go.RowKit

theorem rNum_nat (s : RS) (h : s.ok) : ∃ c : Nat, (rNum s).1 = (c : Int) ∧ c ≤ 4611686018427387903 := by
  by_cases he : (rNum s).2.e = 0
  · obtain ⟨q, hq, hv, _⟩ := rNum_split s h he
    exact ⟨q, hv, hq⟩
  · exact ⟨0, rNumF_zero 9 0 0 s rfl (by decide) he, by decide⟩
theorem rRaw_len_le (s : RS) (n : Int) : (rRaw s n).1.length ≤ s.l.length := by
  unfold rRaw
  split
  · simp
  · split
    · simp
    · split
      · simp
      · rw [List.length_take]; omega
theorem three_store {w : World} {p : Nat} {ty : TypeId} {x0 x1 x2 : Value} (h : w.heap[p]? = some (.cells #[x0, x1, x2] ty (0, 0))) (y0 y1 y2 : Value) :
    (w.cell? ⟨p, 0, none⟩ = some x0 ∧ w.frozen? ⟨p, 0, none⟩ = false) ∧
    ((w.setCell ⟨p, 0, none⟩ y0).cell? ⟨p, 1, none⟩ = some x1 ∧ (w.setCell ⟨p, 0, none⟩ y0).frozen? ⟨p, 1, none⟩ = false) ∧
    (((w.setCell ⟨p, 0, none⟩ y0).setCell ⟨p, 1, none⟩ y1).cell? ⟨p, 2, none⟩ = some x2 ∧ ((w.setCell ⟨p, 0, none⟩ y0).setCell ⟨p, 1, none⟩ y1).frozen? ⟨p, 2, none⟩ = false) ∧
    (((w.setCell ⟨p, 0, none⟩ y0).setCell ⟨p, 1, none⟩ y1).setCell ⟨p, 2, none⟩ y2).heap[p]? = some (.cells #[y0, y1, y2] ty (0, 0)) ∧
    Kept (fun k => k = p) w (((w.setCell ⟨p, 0, none⟩ y0).setCell ⟨p, 1, none⟩ y1).setCell ⟨p, 2, none⟩ y2) := by
  have h1 := heap_setCell_same w p 0 _ _ y0 h
  have h2 := heap_setCell_same _ p 1 _ _ y1 h1
  have h3 := heap_setCell_same _ p 2 _ _ y2 h2
  refine ⟨⟨?_, frozen_of_row w p 0 _ _ h⟩, ⟨?_, frozen_of_row _ p 1 _ _ h1⟩, ⟨?_, frozen_of_row _ p 2 _ _ h2⟩, h3, ?_⟩
  · rw [cell_of_row _ _ _ _ _ _ h]; rfl
  · rw [cell_of_row _ _ _ _ _ _ h1]; rfl
  · rw [cell_of_row _ _ _ _ _ _ h2]; rfl
  · exact (((Kept.refl _ _).setCell (by rfl) _).setCell (by rfl) _).setCell (by rfl) _
theorem Kept.trans_new {M N : Nat → Prop} {a b c : World} (h : Kept M a b) (k : Kept N b c) (hn : ∀ i, i < a.heap.size → N i → M i) : Kept M a c :=
  ⟨k.os.trans h.os, k.tape.trans h.tape, k.output.trans h.output, Nat.le_trans h.size k.size, fun i hi hm => (k.block i (Nat.lt_of_lt_of_le hi h.size) (fun n => hm (hn i hi n))).trans (h.block i hi hm)⟩
theorem st_info : (Tryz.prog.info? 42).map (·.size) = some 3 := by kernel_rfl
end Go.Proofs.YtpkgjokehgihjaaGreat

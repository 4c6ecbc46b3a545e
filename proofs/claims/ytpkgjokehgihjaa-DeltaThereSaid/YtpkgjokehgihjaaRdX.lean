/- Several texts in one: DeltaBackW, ReadDMath, ReadStW, ReadDW. -/
import Derived.Test.YtpkgjokehgihjaaRnX
import Derived.Test.YtpkgjokehgihjaaBldShelf
import Derived.Test.YtpkgjokehgihjaaDelX
import Derived.Test.YtpkgjokehgihjaaMarkMath
import Derived.Test.YtpkgjokehgihjaaTabX
import Derived.Test.YtpkgjokehgihjaaProg
import Derived.Test.YtpkgjokehgihjaaRows
import Derived.Test.YtpkgjokehgihjaaShelf
import Derived.Test.YtpkgjokehgihjaaSigAt
import Derived.Test.YtpkgjokehgihjaaSignMath
import Derived.Test.YtpkgjokehgihjaaSignedW
import Derived.Test.YtpkgjokehgihjaaSortX
import Derived.Test.YtpkgjokehgihjaaSortEW
import Derived.Test.YtpkgjokehgihjaaStepW
import Derived.BigQuiet
import Derived.BigRegion
import Derived.ChangeAlike
import Derived.Deep.CutBlock
import Derived.Deep.DeepCutAuto
import Derived.Deep.Draws
import Derived.Deep.LoopGhost
import Derived.Deep.QuietTactic
import Derived.Deep.RegionHeld3
import Derived.Deep.RegionLaw
import Derived.IntWalk
import Derived.Laws.Bits128
import Derived.Laws.BitsAllLaws
import Derived.Laws.Externs
import Derived.Laws.IdiomStrings
import Derived.Laws.MakeOwn
import Derived.Laws.Rows
import Derived.Laws.Tables
import Derived.Lib.AppendStr
import Derived.Lib.Builder
import Derived.Lib.Hide
import Derived.Lib.Strings
import Derived.Lib.Walk
import Derived.Maps.OwnSet
import Derived.Maps.Views
import Derived.OpenShut
import Derived.Outline
import Derived.ProofKit
import Derived.RegionTactic
import Derived.ShutString
import Derived.SizedLaws
import Derived.SliceStrings
import Derived.Sort.Walk0
import Derived.StillTailTactics
import Derived.WalkKit
import Derived.WalkLawsBesides
import Derived.WalkSpells
import Derived.Test.YtpkgjokehgihjaaMkX
import Derived.Test.YtpkgjokehgihjaaBookW
import Derived.Test.YtpkgjokehgihjaaCdX
import Derived.Test.YtpkgjokehgihjaaFrame
import Derived.Test.YtpkgjokehgihjaaGen
import Derived.Test.YtpkgjokehgihjaaOfMath
import Derived.Test.YtpkgjokehgihjaaOwnL
import Derived.Test.YtpkgjokehgihjaaPtX
import Derived.Test.YtpkgjokehgihjaaSigOfW
import Derived.Test.YtpkgjokehgihjaaRollX
import Derived.Test.YtpkgjokehgihjaaRollMath
import Derived.Test.YtpkgjokehgihjaaRowKeep
import Derived.Test.YtpkgjokehgihjaaWkX
import Derived.Test.YtpkgjokehgihjaaCmpW
import Derived.Test.YtpkgjokehgihjaaNewTabW
import Derived.Test.YtpkgjokehgihjaaOdX
import Derived.Test.YtpkgjokehgihjaaRightDW
import Derived.Test.YtpkgjokehgihjaaSameW
import Derived.Test.YtpkgjokehgihjaaSigOwnW
import Derived.Test.YtpkgjokehgihjaaSortFW
/- The walks of the laws DeltaBack and DeltaWrong. -/
set_option linter.unusedVariables false
namespace Go.Proofs.Ytpkgjokehgihjaa
open Go.RowKit

theorem st_ok {x : DSt} (h : stS x = true) : StOk x := by
  unfold stS at h
  split at h
  · have := of_decide_eq_true h; exact ⟨by omega, by omega, by omega, by omega, by omega⟩
  · rename_i c; have := of_decide_eq_true h; simp at c; exact ⟨by omega, by omega, by omega, by omega, by rw [c]; simp⟩
theorem BackS.stok {basis s : Txt} {l : List DSt} (h : BackS basis s l) : ∀ x ∈ l, StOk x := fun x hx => st_ok (h.good x hx).1
theorem BackS.apply {basis s : Txt} {l : List DSt} (h : BackS basis s l) (hs : s.length ≤ 524288) {is : Txt → Txt → Bool} {bm mm : Txt} (h1 : bm.length = 32) (h2 : mm.length = 32) (hb : is basis bm = true) (hm : is s mm = true) :
    applyS is basis bm mm s.length l = (0, s) := by
  unfold applyS
  rw [h.right hs h1 h2, if_neg (by simp), hb, if_neg (by simp), h.run hs, if_neg (by simp), if_pos hm]
theorem BackS.wrong {basis s other : Txt} {l : List DSt} (h : BackS basis s l) (hs : s.length ≤ 524288) {is : Txt → Txt → Bool} {bm mm : Txt} (h1 : bm.length = 32) (h2 : mm.length = 32) (hb : is other bm = false) :
    applyS is other bm mm s.length l = (13, []) := by
  unfold applyS
  rw [h.right hs h1 h2, if_neg (by simp), hb, if_pos rfl]


end Go.Proofs.Ytpkgjokehgihjaa
/- What bytes are as a delta, as plain mathematics; there and back. Of no program. -/
set_option linter.unusedVariables false
namespace Go.Proofs.Ytpkgjokehgihjaa
open Go.RowKit

def stepR (s : RS) : DSt × RS :=
  if (rNum s).1 % 2 = 0 then (⟨0, 0, (rRaw (rNum s).2 ((rNum s).1 / 2)).1⟩, (rRaw (rNum s).2 ((rNum s).1 / 2)).2)
  else (⟨(rNum (rNum s).2).1, (rNum s).1 / 2, []⟩, (rNum (rNum s).2).2)
theorem stepR_ok (s : RS) (h : s.ok) : (stepR s).2.ok := by
  unfold stepR
  split
  · exact rRaw_ok _ _ (rNum_ok s h)
  · exact rNum_ok _ (rNum_ok s h)
/-- The steps, read from the left: an error, or the steps and what is left. -/
def loopR : Nat → List DSt → RS → Int × List DSt × RS
  | 0, acc, s => (0, acc, s)
  | k + 1, acc, s => if (stepR s).2.e ≠ 0 then ((stepR s).2.e, [], s) else if stS (stepR s).1 = true then loopR k (acc ++ [(stepR s).1]) (stepR s).2 else (5, [], s)
theorem loopR_next (k : Nat) (acc : List DSt) (s : RS) : loopR (k + 1) acc s = if (stepR s).2.e ≠ 0 then ((stepR s).2.e, [], s) else if stS (stepR s).1 = true then loopR k (acc ++ [(stepR s).1]) (stepR s).2 else (5, [], s) := rfl
structure DlR where
  e : Int
  bm : Txt
  mm : Txt
  n : Int
  l : List DSt
def dlZ (e : Int) : DlR := ⟨e, [], [], 0, []⟩
def tailR (bm mm : Txt) (n : Int) (r : Int × List DSt × RS) : DlR :=
  if r.1 ≠ 0 then dlZ r.1 else if (rEnd r.2.2).e ≠ 0 then dlZ (rEnd r.2.2).e else if rightD bm mm n r.2.1 = true then ⟨0, bm, mm, n, r.2.1⟩ else dlZ 5
/-- What bytes are as a delta. -/
def readD (S : Txt) : DlR :=
  tailR (rRaw ⟨S, 0⟩ 32).1 (rRaw (rRaw ⟨S, 0⟩ 32).2 32).1 (rNum (rRaw (rRaw ⟨S, 0⟩ 32).2 32).2).1
    (loopR (rNum (rNum (rRaw (rRaw ⟨S, 0⟩ 32).2 32).2).2).1.toNat [] (rNum (rNum (rRaw (rRaw ⟨S, 0⟩ 32).2 32).2).2).2)

theorem raw_app (a t : Txt) (n : Nat) (h : a.length = n) : rRaw ⟨a ++ t, 0⟩ (n : Int) = (a, ⟨t, 0⟩) := by
  rw [rRaw_all _ n rfl (by rw [List.length_append]; omega)]
  rw [← h, List.take_left' rfl, List.drop_left' rfl]
theorem stepR_fore (x : DSt) (h : stS x = true) (t : Txt) : stepR ⟨stB x ++ t, 0⟩ = (x, ⟨t, 0⟩) := by
  obtain ⟨p, n, u⟩ := x
  unfold stS at h
  unfold stB
  dsimp only at h ⊢
  by_cases hu : u = []
  · subst hu
    rw [if_neg (by simp)] at h
    have h0 := of_decide_eq_true h
    obtain ⟨q, rfl⟩ : ∃ q : Nat, n = (q : Int) := ⟨n.toNat, by omega⟩
    obtain ⟨r, rfl⟩ : ∃ r : Nat, p = (r : Int) := ⟨p.toNat, by omega⟩
    rw [if_pos rfl, List.append_assoc, show (2 * (q : Int) + 1).toNat = 2 * q + 1 by omega, Int.toNat_natCast]
    unfold stepR
    rw [rNum_nb (2 * q + 1) _ (by omega)]
    dsimp only
    rw [if_neg (by omega), rNum_nb r t (by omega)]
    simp only [Prod.mk.injEq, DSt.mk.injEq, and_true, true_and]
    omega
  · rw [if_pos hu] at h
    obtain ⟨h1, h2, h3⟩ := of_decide_eq_true h
    subst h2; subst h3
    rw [if_neg hu, List.append_assoc]
    unfold stepR
    rw [rNum_nb (2 * u.length) _ (by omega)]
    dsimp only
    rw [if_pos (by omega), show ((2 * u.length : Nat) : Int) / 2 = (u.length : Int) by omega, raw_app u t u.length rfl]
theorem loopR_fore : ∀ (l acc : List DSt) (t : Txt), (∀ x ∈ l, stS x = true) → loopR l.length acc ⟨bodyB l ++ t, 0⟩ = (0, acc ++ l, ⟨t, 0⟩) := by
  intro l
  induction l with
  | nil => intro acc t _; unfold bodyB loopR; simp
  | cons x l ih =>
    intro acc t h
    have hx := h x (by simp)
    have e : bodyB (x :: l) = stB x ++ bodyB l := by unfold bodyB; simp
    rw [List.length_cons, loopR_next, e, List.append_assoc, stepR_fore x hx]
    dsimp only
    rw [if_neg (by simp), if_pos hx, ih _ _ (fun y hy => h y (by simp [hy]))]
    simp
/-- Read of Bytes. -/
theorem readD_bytes {bm mm : Txt} {n : Int} {l : List DSt} {M : Nat} (h : RightDIs bm mm n l M) : readD (bytesD bm mm M l) = ⟨0, bm, mm, n, l⟩ := by
  have hn := h.n
  have hn2 := h.n2
  have hl := h.len
  unfold readD bytesD headB
  simp only [List.append_assoc]
  rw [show (32 : Int) = ((32 : Nat) : Int) from rfl, raw_app bm _ 32 h.b]
  dsimp only
  rw [raw_app mm _ 32 h.m]
  dsimp only
  rw [rNum_nb M _ (by omega)]
  dsimp only
  rw [rNum_nb l.length _ (by omega)]
  dsimp only
  have e2 := loopR_fore l [] [] h.st
  rw [List.append_nil] at e2
  rw [Int.toNat_natCast, e2]
  unfold tailR
  dsimp only
  rw [if_neg (by simp), if_neg (by simp [rEnd]), List.nil_append, ← hn, if_pos h.right]
theorem stepR_back (s : RS) (hs : s.ok) (he : (stepR s).2.e = 0) (hx : stS (stepR s).1 = true) : s.l = stB (stepR s).1 ++ (stepR s).2.l := by
  have h0 : (rNum s).2.e = 0 := by
    by_cases k : (rNum s).2.e = 0
    · exact k
    · unfold stepR at he
      split at he
      · rw [rRaw_err _ _ k] at he; exact he
      · rw [rNum_of_err _ (rNum_ok s hs) k] at he; exact he
  obtain ⟨q, hq, hv, hl⟩ := rNum_split s hs h0
  have ok1 := rNum_ok s hs
  unfold stepR at he hx ⊢
  rw [hv] at he hx ⊢
  generalize (rNum s).2 = s1 at *
  split
  · rename_i hc
    rw [if_pos hc] at he hx
    dsimp only at he hx ⊢
    have hr : rRaw s1 ((q : Int) / 2) = (s1.l.take (q / 2), ⟨s1.l.drop (q / 2), 0⟩) ∧ q / 2 ≤ s1.l.length := by
      rw [show (q : Int) / 2 = ((q / 2 : Nat) : Int) by omega] at he ⊢
      by_cases hlt : (s1.l.length : Int) < ((q / 2 : Nat) : Int)
      · rw [rRaw_long s1 _ (by omega) hlt] at he
        exact absurd he (rFail_e s1 3 (by decide))
      · exact ⟨rRaw_all s1 (q / 2) h0 (by omega), by omega⟩
    rw [hr.1] at hx ⊢
    dsimp only at hx ⊢
    have hlen : (s1.l.take (q / 2)).length = q / 2 := by rw [List.length_take]; omega
    have hsp : s1.l.take (q / 2) ++ s1.l.drop (q / 2) = s1.l := List.take_append_drop _ _
    generalize s1.l.take (q / 2) = u at *
    unfold stB
    dsimp only
    have hu : u ≠ [] := by
      rintro rfl
      unfold stS at hx
      dsimp only at hx
      rw [if_neg (by simp)] at hx
      have := of_decide_eq_true hx
      omega
    rw [if_neg hu, List.append_assoc, hsp, hlen, show 2 * (q / 2) = q by omega]
    exact hl
  · rename_i hc
    rw [if_neg hc] at he hx
    dsimp only at he hx ⊢
    obtain ⟨r, hr, hrv, hrl⟩ := rNum_split s1 ok1 he
    rw [hrv] at hx ⊢
    unfold stB
    dsimp only
    rw [if_pos rfl, List.append_assoc, Int.toNat_natCast, ← hrl, show (2 * ((q : Int) / 2) + 1).toNat = q by omega]
    exact hl
theorem loopR_back (k : Nat) : ∀ (acc : List DSt) (s : RS), s.ok → (loopR k acc s).1 = 0 → ∃ ys, (loopR k acc s).2.1 = acc ++ ys ∧ ys.length = k ∧ (∀ y ∈ ys, stS y = true) ∧ s.l = bodyB ys ++ (loopR k acc s).2.2.l ∧ (loopR k acc s).2.2.ok := by
  induction k with
  | zero => intro acc s hs _; exact ⟨[], by simp [loopR], rfl, by simp, by simp [loopR, bodyB], hs⟩
  | succ k ih =>
    intro acc s hs he
    rw [loopR_next] at he ⊢
    by_cases h0 : (stepR s).2.e = 0
    · rw [if_neg (fun c => c h0)] at he ⊢
      by_cases h1 : stS (stepR s).1 = true
      · rw [if_pos h1] at he ⊢
        obtain ⟨ys, e1, e2, e3, e4, e5⟩ := ih _ _ (stepR_ok s hs) he
        refine ⟨(stepR s).1 :: ys, by rw [e1]; simp, by simp [e2], fun y hy => ?_, ?_, e5⟩
        · rcases List.mem_cons.1 hy with rfl | hy
          · exact h1
          · exact e3 y hy
        · have e : bodyB ((stepR s).1 :: ys) = stB (stepR s).1 ++ bodyB ys := by unfold bodyB; simp
          rw [e, List.append_assoc, ← e4]
          exact stepR_back s hs h0 h1
      · rw [if_neg h1] at he; dsimp only at he; exact absurd he (by decide)
    · rw [if_pos h0] at he; exact absurd he h0
theorem raw_back (s : RS) (m : Nat) (he : (rRaw s (m : Int)).2.e = 0) : s.e = 0 ∧ (rRaw s (m : Int)).1.length = m ∧ s.l = (rRaw s (m : Int)).1 ++ (rRaw s (m : Int)).2.l := by
  by_cases h0 : s.e = 0
  · by_cases hl : (s.l.length : Int) < (m : Int)
    · rw [rRaw_long s _ (by omega) hl] at he
      exact absurd he (rFail_e s 3 (by decide))
    · rw [rRaw_all s m h0 (by omega)]
      exact ⟨h0, by rw [List.length_take]; omega, (List.take_append_drop m s.l).symm⟩
  · rw [rRaw_err s _ h0] at he; exact absurd he h0
/-- Bytes of Read. -/
theorem readD_back (S : Txt) (h : (readD S).e = 0) : ∃ M, RightDIs (readD S).bm (readD S).mm (readD S).n (readD S).l M ∧ bytesD (readD S).bm (readD S).mm M (readD S).l = S := by
  unfold readD at h ⊢
  have ok0 : RS.ok ⟨S, 0⟩ := .inl rfl
  have ok1 := rRaw_ok ⟨S, 0⟩ 32 ok0
  have ok2 := rRaw_ok _ 32 ok1
  have ok3 := rNum_ok _ ok2
  have ok4 := rNum_ok _ ok3
  unfold tailR at h ⊢
  split at h
  · rename_i c; exact absurd h c
  · rename_i c1
    rw [if_neg c1]
    split at h
    · rename_i c; exact absurd h c
    · rename_i c2
      rw [if_neg c2]
      split at h
      · rename_i c3
        rw [if_pos c3]
        dsimp only
        obtain ⟨ys, y1, y2, y3, y4, y5⟩ := loopR_back _ [] _ ok4 (by simpa using c1)
        have hend := rEnd_e _ (by simpa using c2)
        have hendl := rEnd_l _ (by simpa using c2)
        rw [hendl, List.append_nil] at y4
        have e4 : (rNum (rNum (rRaw (rRaw ⟨S, 0⟩ 32).2 32).2).2).2.e = 0 := by
          by_cases k : (rNum (rNum (rRaw (rRaw ⟨S, 0⟩ 32).2 32).2).2).2.e = 0
          · exact k
          · exfalso
            have hz : (rNum (rNum (rRaw (rRaw ⟨S, 0⟩ 32).2 32).2).2).1.toNat = 0 := by
              have : ys.length = 0 := by
                have hl0 : (rNum (rNum (rRaw (rRaw ⟨S, 0⟩ 32).2 32).2).2).2.l = [] := by
                  rcases ok4 with c | c
                  · exact absurd c k
                  · exact c
                rw [hl0] at y4
                cases ys with
                | nil => rfl
                | cons y ys =>
                  have hp : 1 ≤ (stB y).length := by
                    unfold stB
                    split
                    · have := (nb_length (2 * y.len + 1).toNat).1; rw [List.length_append]; omega
                    · have := (nb_length (2 * y.txt.length)).1; rw [List.length_append]; omega
                  have := congrArg List.length y4
                  unfold bodyB at this
                  rw [List.map_cons, List.flatten_cons, List.length_append, List.length_nil] at this
                  omega
              omega
            rw [hz] at hend
            exact k hend
        have e3 : (rNum (rRaw (rRaw ⟨S, 0⟩ 32).2 32).2).2.e = 0 := by
          by_cases k : (rNum (rRaw (rRaw ⟨S, 0⟩ 32).2 32).2).2.e = 0
          · exact k
          · rw [rNum_of_err _ ok3 k] at e4; exact absurd e4 k
        have e2 : (rRaw (rRaw ⟨S, 0⟩ 32).2 32).2.e = 0 := by
          by_cases k : (rRaw (rRaw ⟨S, 0⟩ 32).2 32).2.e = 0
          · exact k
          · rw [rNum_of_err _ ok2 k] at e3; exact absurd e3 k
        obtain ⟨q4, a4, b4, l4⟩ := rNum_split _ ok3 e4
        obtain ⟨q3, a3, b3, l3⟩ := rNum_split _ ok2 e3
        obtain ⟨a2, b2, l2⟩ := raw_back _ 32 e2
        obtain ⟨a1, b1, l1⟩ := raw_back _ 32 a2
        rw [y1, List.nil_append] at c3 ⊢
        obtain ⟨M, hM⟩ := rightD_is c3
        refine ⟨M, hM, ?_⟩
        have hMn := hM.n
        rw [b3] at hMn
        have hq3 : q3 = M := by omega
        rw [b4, Int.toNat_natCast] at y2
        unfold bytesD headB
        rw [y2, ← hq3, List.append_assoc, List.append_assoc, List.append_assoc, ← y4, ← l4, ← l3]
        have l2' : (rRaw ⟨S, 0⟩ 32).2.l = (rRaw (rRaw ⟨S, 0⟩ 32).2 32).1 ++ (rRaw (rRaw ⟨S, 0⟩ 32).2 32).2.l := l2
        rw [← l2']
        exact l1.symm
      · exact absurd h (by decide)
end Go.Proofs.Ytpkgjokehgihjaa
/- The walk of the reading of one step. -/
set_option linter.unusedVariables false
namespace Go.Proofs.Ytpkgjokehgihjaa
open Go.RowKit

theorem rNum_nat (s : RS) (h : s.ok) : ∃ c : Nat, (rNum s).1 = (c : Int) ∧ c ≤ 4611686018427387903 := by
  by_cases he : (rNum s).2.e = 0
  · obtain ⟨q, hq, hv, _⟩ := rNum_split s h he
    exact ⟨q, hv, hq⟩
  · exact ⟨0, rNumF_zero 9 0 0 s rfl (by decide) he, by decide⟩
theorem rRaw_len_le (s : RS) (n : Int) : (rRaw s n).1.length ≤ s.l.length := by
  unfold rRaw
  split
  · simp
  · split
    · simp
    · split
      · simp
      · rw [List.length_take]; omega
theorem three_store {w : World} {p : Nat} {ty : TypeId} {x0 x1 x2 : Value} (h : w.heap[p]? = some (.cells #[x0, x1, x2] ty (0, 0))) (y0 y1 y2 : Value) :
    (w.cell? ⟨p, 0, none⟩ = some x0 ∧ w.frozen? ⟨p, 0, none⟩ = false) ∧
    ((w.setCell ⟨p, 0, none⟩ y0).cell? ⟨p, 1, none⟩ = some x1 ∧ (w.setCell ⟨p, 0, none⟩ y0).frozen? ⟨p, 1, none⟩ = false) ∧
    (((w.setCell ⟨p, 0, none⟩ y0).setCell ⟨p, 1, none⟩ y1).cell? ⟨p, 2, none⟩ = some x2 ∧ ((w.setCell ⟨p, 0, none⟩ y0).setCell ⟨p, 1, none⟩ y1).frozen? ⟨p, 2, none⟩ = false) ∧
    (((w.setCell ⟨p, 0, none⟩ y0).setCell ⟨p, 1, none⟩ y1).setCell ⟨p, 2, none⟩ y2).heap[p]? = some (.cells #[y0, y1, y2] ty (0, 0)) ∧
    Kept (fun k => k = p) w (((w.setCell ⟨p, 0, none⟩ y0).setCell ⟨p, 1, none⟩ y1).setCell ⟨p, 2, none⟩ y2) := by
  have h1 := heap_setCell_same w p 0 _ _ y0 h
  have h2 := heap_setCell_same _ p 1 _ _ y1 h1
  have h3 := heap_setCell_same _ p 2 _ _ y2 h2
  refine ⟨⟨?_, frozen_of_row w p 0 _ _ h⟩, ⟨?_, frozen_of_row _ p 1 _ _ h1⟩, ⟨?_, frozen_of_row _ p 2 _ _ h2⟩, h3, ?_⟩
  · rw [cell_of_row _ _ _ _ _ _ h]; rfl
  · rw [cell_of_row _ _ _ _ _ _ h1]; rfl
  · rw [cell_of_row _ _ _ _ _ _ h2]; rfl
  · exact (((Kept.refl _ _).setCell (by rfl) _).setCell (by rfl) _).setCell (by rfl) _
theorem Kept.trans_new {M N : Nat → Prop} {a b c : World} (h : Kept M a b) (k : Kept N b c) (hn : ∀ i, i < a.heap.size → N i → M i) : Kept M a c :=
  ⟨k.os.trans h.os, k.tape.trans h.tape, k.output.trans h.output, Nat.le_trans h.size k.size, fun i hi hm => (k.block i (Nat.lt_of_lt_of_le hi h.size) (fun n => hm (hn i hi n))).trans (h.block i hi hm)⟩
theorem st_info : (Try.prog.info? 61).map (·.size) = some 3 := by kernel_rfl
set_option maxRecDepth 100000 in
set_option maxHeartbeats 1000000 in
theorem readStep_any (w : World) (g : Nat) (s : RS) (h : Rd w g s) (hok : s.ok) :
    Calls Try.prog 46 #[ptr g] w (Does w g (stV (stepR s).1) (stepR s).2) := by
  have hb := below_self_alloc w (stO ⟨0, 0, []⟩)
  have H0 := Lib.hid (show Rd (w.alloc (stO ⟨0, 0, []⟩)) g s from h.kept (Kept.new hb (fun _ => False)) id)
  have HG0 := Lib.hid (heap_alloc_new w (stO ⟨0, 0, []⟩))
  have HLT := Lib.hid h.lt
  have K0 := Lib.hid (Kept.of_alloc w (stO ⟨0, 0, []⟩))
  have NM := Lib.hid (rnum_any _ g s H0.out hok)
  have OK1 := rNum_ok s hok
  obtain ⟨c, hc, hcm⟩ := rNum_nat s hok
  have HS := Lib.hid (show stepR s = if (rNum s).1 % 2 = 0 then (⟨0, 0, (rRaw (rNum s).2 ((rNum s).1 / 2)).1⟩, (rRaw (rNum s).2 ((rNum s).1 / 2)).2)
    else (⟨(rNum (rNum s).2).1, (rNum s).1 / 2, []⟩, (rNum (rNum s).2).2) from rfl)
  rw [hc] at NM HS
  generalize (rNum s).2 = s1 at *
  generalize stepR s = res at *
  clear hb h hok hc
  have I1 : ∀ j, (w.alloc (stO ⟨0, 0, []⟩)).frozen? ⟨w.heap.size, j, none⟩ = false := fun j => frozen_of_row _ _ _ _ _ HG0.out
  by_cases hm : c % 2 = 0
  · have hmi : (c : Int) % 2 = 0 := by omega
    have qm : ((c : Int) % 2 == 0) = true := by simp [hmi]
    rw [if_pos hmi] at HS
    have RW := fun w' hr => Lib.hid (raw_any w' g s1 ((c : Int) / 2) hr OK1)
    generalize rRaw s1 ((c : Int) / 2) = rr at *
    obtain ⟨t, s2⟩ := rr
    dsimp only at HS RW
    go_enter Try.func46, Try.ntmps46
    go_wp2_with fail
    generalize w.alloc (.cells #[.int .i64 0, .int .i64 0, .string ⟨#[]⟩] 61) = w0 at *
    refine NM.out.mono ?_
    rintro e w1 ⟨rfl, hr1, hk1⟩
    have HG1 := Lib.hid (hk1.old HG0.out (fun e => by have := HLT.out; omega))
    have RW1 := RW w1 hr1
    have K1 := Lib.hid (show Kept (· = g) w w1 from (K0.out.mono (fun k _ hk => hk.elim)).trans hk1)
    clear RW NM hr1 hk1 HG0 I1 H0 K0
    go_wp2_with fail
    refine RW1.out.mono ?_
    rintro e w2 ⟨rfl, hr2, hk2⟩
    have HG2 := hk2.old HG1.out (fun e => by have := HLT.out; omega)
    obtain ⟨⟨a0, b0⟩, ⟨a1, b1⟩, ⟨a2, b2⟩, S4, S5⟩ := three_store HG2 (.int .i64 0) (.int .i64 0) (.string ⟨t.toArray⟩)
    have HR2 := Lib.hid (hr2.kept S5 (fun e => by have := HLT.out; omega))
    have HK2 := Lib.hid ((K1.out.trans hk2).trans_new S5 (fun k hk e => by omega))
    have H4 := Lib.hid S4
    clear HG2 S4 S5 hr2 hk2 HG1 RW1 K1
    go_wp2_with fail
    refine bodyPost_ret (v := stV ⟨0, 0, t⟩) (results_cell_row Try.results46 _ _ w.heap.size _ _ _ _ rfl H4.out Try.underlying61 rfl st_info) rfl ?_
    rw [HS.out]
    exact ⟨rfl, HR2.out, HK2.out⟩
  · have hmi : ¬ (c : Int) % 2 = 0 := by omega
    have qm : ((c : Int) % 2 == 0) = false := by simp [hmi]
    rw [if_neg hmi] at HS
    have RW := fun w' hr => Lib.hid (rnum_any w' g s1 hr OK1)
    generalize rNum s1 = rr at *
    obtain ⟨q, s2⟩ := rr
    dsimp only at HS RW
    go_enter Try.func46, Try.ntmps46
    go_wp2_with fail
    generalize w.alloc (.cells #[.int .i64 0, .int .i64 0, .string ⟨#[]⟩] 61) = w0 at *
    refine NM.out.mono ?_
    rintro e w1 ⟨rfl, hr1, hk1⟩
    have HG1 := Lib.hid (hk1.old HG0.out (fun e => by have := HLT.out; omega))
    have RW1 := RW w1 hr1
    have K1 := Lib.hid (show Kept (· = g) w w1 from (K0.out.mono (fun k _ hk => hk.elim)).trans hk1)
    clear RW NM hr1 hk1 HG0 I1 H0 K0
    go_wp2_with fail
    refine RW1.out.mono ?_
    rintro e w2 ⟨rfl, hr2, hk2⟩
    have HG2 := hk2.old HG1.out (fun e => by have := HLT.out; omega)
    obtain ⟨⟨a0, b0⟩, ⟨a1, b1⟩, ⟨a2, b2⟩, S4, S5⟩ := three_store HG2 (.int .i64 q) (.int .i64 ((c : Int) / 2)) (.string ⟨#[]⟩)
    have HR2 := Lib.hid (hr2.kept S5 (fun e => by have := HLT.out; omega))
    have HK2 := Lib.hid ((K1.out.trans hk2).trans_new S5 (fun k hk e => by omega))
    have H4 := Lib.hid S4
    clear HG2 S4 S5 hr2 hk2 HG1 RW1 K1
    go_wp2_with fail
    refine bodyPost_ret (v := stV ⟨q, (c : Int) / 2, []⟩) (results_cell_row Try.results46 _ _ w.heap.size _ _ _ _ rfl H4.out Try.underlying61 rfl st_info) rfl ?_
    rw [HS.out]
    exact ⟨rfl, HR2.out, HK2.out⟩
end Go.Proofs.Ytpkgjokehgihjaa
/- The walk of Read: the delta that bytes are. -/
set_option linter.unusedVariables false
namespace Go.Proofs.Ytpkgjokehgihjaa
open Go.RowKit

structure RdL (w wr : World) (bm mm : Txt) (n : Int) (v : Value) (ls : List DSt) (s : RS) : Prop where
  dl : wr.heap[w.heap.size + 1]? = some (delC bm mm n v)
  res : wr.heap[w.heap.size]? = some (delC [] [] 0 (.slice none 0 0))
  own : OwnS wr w.heap.size v ls
  rd : Rd wr (w.heap.size + 2) s
  ok : s.ok
  bel : Below w.heap.size w wr
section
variable {w wr w1 : World} {bm mm : Txt} {n : Int} {v : Value} {ls : List DSt} {s s' : RS}
theorem RdL.new (h : RdL w wr bm mm n v ls s) (hb : Below wr.heap.size wr w1) : RdL w w1 bm mm n v ls s :=
  ⟨old_of hb h.dl, old_of hb h.res, h.own.new hb, h.rd.kept (Kept.new hb (fun _ => False)) id, h.ok, h.bel.trans (hb.mono h.bel.size)⟩
theorem RdL.read (h : RdL w wr bm mm n v ls s) (hr : Rd w1 (w.heap.size + 2) s') (hok : s'.ok) (hk : Kept (· = w.heap.size + 2) wr w1) : RdL w w1 bm mm n v ls s' :=
  ⟨hk.old h.dl (by omega), hk.old h.res (by omega), h.own.kept hk (fun g hg e => own_ne h.own h.rd (by decide) (e ▸ hg)), hr, hok, h.bel.trans (hk.below h.bel.size (fun k e => by omega))⟩
theorem RdL.set {j : Nat} {u : Value} {bm' mm' : Txt} {n' : Int} (h : RdL w wr bm mm n v ls s) (hh : (wr.setCell ⟨w.heap.size + 1, j, none⟩ u).heap[w.heap.size + 1]? = some (delC bm' mm' n' v)) : RdL w (wr.setCell ⟨w.heap.size + 1, j, none⟩ u) bm' mm' n' v ls s := by
  have hk : Kept (· = w.heap.size + 1) wr (wr.setCell ⟨w.heap.size + 1, j, none⟩ u) := (Kept.refl _ wr).setCell (by rfl) u
  exact ⟨hh, hk.old h.res (by omega), h.own.kept hk (fun g hg e => own_ne h.own h.dl (by decide) (e ▸ hg)), h.rd.kept hk (by omega), h.ok, h.bel.trans (hk.below h.bel.size (fun k e => by omega))⟩
theorem RdL.set0 (h : RdL w wr bm mm n v ls s) (t : Txt) : RdL w (wr.setCell ⟨w.heap.size + 1, 0, none⟩ (.string ⟨t.toArray⟩)) t mm n v ls s := h.set (by rw [heap_setCell_same _ _ _ _ _ _ h.dl]; rfl)
theorem RdL.set1 (h : RdL w wr bm mm n v ls s) (t : Txt) : RdL w (wr.setCell ⟨w.heap.size + 1, 1, none⟩ (.string ⟨t.toArray⟩)) bm t n v ls s := h.set (by rw [heap_setCell_same _ _ _ _ _ _ h.dl]; rfl)
theorem RdL.set2 (h : RdL w wr bm mm n v ls s) (m : Int) : RdL w (wr.setCell ⟨w.heap.size + 1, 2, none⟩ (.int .i64 m)) bm mm m v ls s := h.set (by rw [heap_setCell_same _ _ _ _ _ _ h.dl]; rfl)
theorem RdL.push {x : DSt} {v' : Value} (h : RdL w wr bm mm n v ls s) (ho : OwnS w1 w.heap.size v' (ls ++ [x])) (ht : TurnS w.heap.size wr v w1 v') : RdL w (w1.setCell ⟨w.heap.size + 1, 3, none⟩ v') bm mm n v' (ls ++ [x]) s ∧ w1.cell? ⟨w.heap.size + 1, 3, none⟩ = some v ∧ w1.frozen? ⟨w.heap.size + 1, 3, none⟩ = false := by
  have hd := ht.kept.old h.dl (fun e => own_ne h.own h.dl (by decide) e)
  have hk : Kept (· = w.heap.size + 1) w1 (w1.setCell ⟨w.heap.size + 1, 3, none⟩ v') := (Kept.refl _ w1).setCell (by rfl) v'
  have hrd := h.rd.kept ht.kept (fun e => own_ne h.own h.rd (by decide) e)
  have hres := ht.kept.old h.res (fun e => own_ne h.own h.res (by decide) e)
  refine ⟨⟨by rw [heap_setCell_same _ _ _ _ _ _ hd]; rfl, hk.old hres (by omega), ho.kept hk (fun g hg e => own_ne ho hd (by decide) (e ▸ hg)), hrd.kept hk (by omega), h.ok, (h.bel.trans ht.bel).trans (hk.below (h.bel.trans ht.bel).size (fun k e => by omega))⟩, ?_, frozen_of_row _ _ _ _ _ hd⟩
  rw [cell_of_row _ _ _ _ _ _ hd]; rfl
end
/-- What Read tells. -/
def RdPost (w : World) (r : DlR) (e : Ending) (w' : World) : Prop :=
  ∃ v, e = .returned (.tuple #[delV r.bm r.mm r.n v, .int .i64 r.e]) ∧ OwnS w' w.heap.size v r.l ∧ Below w.heap.size w w'
theorem rdZ_post (w w' : World) (e : Int) (hb : Below w.heap.size w w') : RdPost w (dlZ e) (.returned (.tuple #[delV [] [] 0 (.slice none 0 0), .int .i64 e])) w' :=
  ⟨_, rfl, OwnS.nil _ _, hb⟩
theorem stB_pos (x : DSt) : 1 ≤ (stB x).length := by
  unfold stB
  split
  · have := (nb_length (2 * x.len + 1).toNat).1; rw [List.length_append]; omega
  · have := (nb_length (2 * x.txt.length)).1; rw [List.length_append]; omega
theorem readD_eq (S : Txt) : readD S = tailR (rRaw ⟨S, 0⟩ 32).1 (rRaw (rRaw ⟨S, 0⟩ 32).2 32).1 (rNum (rRaw (rRaw ⟨S, 0⟩ 32).2 32).2).1
    (loopR (rNum (rNum (rRaw (rRaw ⟨S, 0⟩ 32).2 32).2).2).1.toNat [] (rNum (rNum (rRaw (rRaw ⟨S, 0⟩ 32).2 32).2).2).2) := rfl
theorem rRaw_left (s : RS) (n : Int) : (rRaw s n).2.l.length ≤ s.l.length := by
  unfold rRaw
  split
  · exact Nat.le_refl _
  · split
    · simp
    · split
      · simp
      · rw [List.length_drop]; omega
theorem rNum_left (s : RS) (h : s.ok) : (rNum s).2.l.length ≤ s.l.length := by
  by_cases he : (rNum s).2.e = 0
  · have := rNum_less s h he; omega
  · have := rNum_ok s h
    rcases this with c | c
    · exact absurd c he
    · rw [c]; simp

theorem stepR_stok (s : RS) (h : s.ok) (hl : s.l.length ≤ 1000000) : StOk (stepR s).1 := by
  obtain ⟨c, hc, hcm⟩ := rNum_nat s h
  unfold stepR
  rw [hc]
  split
  · have h1 := rRaw_len_le (rNum s).2 ((c : Int) / 2)
    have h2 := rNum_left s h
    exact ⟨by dsimp only; omega, by dsimp only; omega, by dsimp only; omega, by dsimp only; omega, by dsimp only; omega⟩
  · obtain ⟨d, hd, hdm⟩ := rNum_nat _ (rNum_ok s h)
    rw [hd]
    exact ⟨by dsimp only; omega, by dsimp only; omega, by dsimp only; omega, by dsimp only; omega, by simp⟩

set_option maxRecDepth 100000 in
set_option maxHeartbeats 4000000 in
theorem readD_any (S : Txt) (w : World) (hS : S.length ≤ 1000000) :
    Calls Try.prog 19 #[.string ⟨S.toArray⟩] w (RdPost w (readD S)) := by
  have RA := Lib.hid (read_any S ((w.alloc (delC [] [] 0 (.slice none 0 0))).alloc (delC [] [] 0 (.slice none 0 0))))
  have hsz : ((w.alloc (delC [] [] 0 (.slice none 0 0))).alloc (delC [] [] 0 (.slice none 0 0))).heap.size = w.heap.size + 2 := by simp
  have HB := Lib.hid (show Below w.heap.size w ((w.alloc (delC [] [] 0 (.slice none 0 0))).alloc (delC [] [] 0 (.slice none 0 0))) from ((Below.refl _ _).alloc (Nat.le_refl _) _).alloc (by simp) _)
  have G0 := Lib.hid (show ((w.alloc (delC [] [] 0 (.slice none 0 0))).alloc (delC [] [] 0 (.slice none 0 0))).heap[w.heap.size + 1]? = some (delC [] [] 0 (.slice none 0 0)) from heap_alloc2_new _ _ _)
  have R0 := Lib.hid (show ((w.alloc (delC [] [] 0 (.slice none 0 0))).alloc (delC [] [] 0 (.slice none 0 0))).heap[w.heap.size]? = some (delC [] [] 0 (.slice none 0 0)) from heap_alloc2_old _ _ _)
  have E := Lib.hid (readD_eq S)
  generalize readD S = res at *
  have K0 : RS.ok ⟨S, 0⟩ := .inl rfl
  have L0l : (⟨S, 0⟩ : RS).l.length ≤ S.length := Nat.le_refl _
  have K1 := rRaw_ok ⟨S, 0⟩ 32 K0
  have T1 := rRaw_len_le ⟨S, 0⟩ 32
  have L1l := Nat.le_trans (rRaw_left ⟨S, 0⟩ 32) L0l
  go_enter Try.func19, Try.ntmps19
  go_wp2_with fail
  refine RA.out.mono ?_
  rintro e w1 ⟨rfl, hr, hb⟩
  have L0 := Lib.hid (show RdL w w1 [] [] 0 (.slice none 0 0) [] ⟨S, 0⟩ from ⟨old_of hb G0.out, old_of hb R0.out, OwnS.nil _ _, by rw [hsz] at hr; exact hr, K0, HB.out.trans (hb.mono HB.out.size)⟩)
  rw [hsz]
  clear hr hb RA hsz HB G0 R0 L0l
  have N1 := Lib.hid (raw_any w1 (w.heap.size + 2) ⟨S, 0⟩ 32 L0.out.rd K0)
  generalize (rRaw ⟨S, 0⟩ 32).1 = bm at *
  generalize (rRaw ⟨S, 0⟩ 32).2 = s1 at *
  have K2 := rRaw_ok s1 32 K1
  have T2 := rRaw_len_le s1 32
  have L2l := Nat.le_trans (rRaw_left s1 32) L1l
  go_wp2_with fail
  refine N1.out.mono ?_
  rintro e w2 ⟨rfl, hr2, hk2⟩
  have L1 := Lib.hid (L0.out.read hr2 K1 hk2)
  have CL := Lib.hid (rclone_any bm w2 (by omega))
  clear L0 N1 hr2 hk2 K0
  go_wp2_with fail
  refine CL.out.mono ?_
  rintro e w3 ⟨rfl, hb3⟩
  have L2 := Lib.hid (L1.out.new hb3)
  have f0 := frozen_of_row w3 (w.heap.size + 1) 0 _ _ L2.out.dl
  have c0 := (delO_cells L2.out.dl).1
  have L3 := Lib.hid (L2.out.set0 bm)
  clear L1 L2 CL hb3
  go_upto_region 4 with fail
  generalize w3.setCell ⟨w.heap.size + 1, 0, none⟩ (.string ⟨bm.toArray⟩) = w4 at *
  clear f0 c0
  have N2 := Lib.hid (raw_any w4 (w.heap.size + 2) s1 32 L3.out.rd K1)
  generalize (rRaw s1 32).1 = mm at *
  generalize (rRaw s1 32).2 = s2 at *
  have K3 := rNum_ok s2 K2
  have L3l := Nat.le_trans (rNum_left s2 K2) L2l
  go_wp2_with fail
  refine N2.out.mono ?_
  rintro e w5 ⟨rfl, hr5, hk5⟩
  have L5 := Lib.hid (L3.out.read hr5 K2 hk5)
  have CL := Lib.hid (rclone_any mm w5 (by omega))
  clear L3 N2 hr5 hk5
  go_wp2_with fail
  refine CL.out.mono ?_
  rintro e w6 ⟨rfl, hb6⟩
  have L6 := Lib.hid (L5.out.new hb6)
  have f0 := frozen_of_row w6 (w.heap.size + 1) 1 _ _ L6.out.dl
  have c0 := (delO_cells L6.out.dl).2.1
  have L7 := Lib.hid (L6.out.set1 mm)
  clear L5 L6 CL hb6
  go_upto_region 5 with fail
  generalize w6.setCell ⟨w.heap.size + 1, 1, none⟩ (.string ⟨mm.toArray⟩) = w7 at *
  clear f0 c0
  have N3 := Lib.hid (rnum_any w7 (w.heap.size + 2) s2 L7.out.rd K2)
  obtain ⟨M, hM, hMm⟩ := rNum_nat s2 K2
  rw [hM] at E N3
  clear hM
  generalize (rNum s2).2 = s3 at *
  have K4 := rNum_ok s3 K3
  have L4l := Nat.le_trans (rNum_left s3 K3) L3l
  go_wp2_with fail
  refine N3.out.mono ?_
  rintro e w8 ⟨rfl, hr8, hk8⟩
  have L8 := Lib.hid (L7.out.read hr8 K3 hk8)
  have f0 := frozen_of_row w8 (w.heap.size + 1) 2 _ _ L8.out.dl
  have c0 := (delO_cells L8.out.dl).2.2.1
  have L9 := Lib.hid (L8.out.set2 M)
  clear L7 L8 N3 hr8 hk8
  go_upto_region 6 with fail
  generalize w8.setCell ⟨w.heap.size + 1, 2, none⟩ (.int .i64 M) = w9 at *
  clear f0 c0
  have N4 := Lib.hid (rnum_any w9 (w.heap.size + 2) s3 L9.out.rd K3)
  obtain ⟨N, hN, hNm⟩ := rNum_nat s3 K3
  rw [hN] at E N4
  rw [Int.toNat_natCast] at E
  clear hN
  generalize (rNum s3).2 = s4 at *
  go_wp2_with fail
  refine N4.out.mono ?_
  rintro e w10 ⟨rfl, hr10, hk10⟩
  have L10 := Lib.hid (L9.out.read hr10 K4 hk10)
  have hbml : bm.length ≤ 1000000 := by omega
  have hmml : mm.length ≤ 1000000 := by omega
  clear L9 N4 hr10 hk10 K1 K2 K3 T1 T2 L1l L2l L3l
  go_wp2_with fail
  go_loopw [24] (fun i wr => ∃ (k : Nat) (v : Value) (ls : List DSt) (t : RS), k ≤ N ∧ i = .int .i64 k ∧ ls.length = k ∧ RdL w wr bm mm M v ls t ∧ k + t.l.length ≤ S.length ∧ (∀ x ∈ ls, stS x = true) ∧ loopR N [] s4 = loopR (N - k) ls t) (fun i _ => N - (intOf i).toNat)
  case atStart => exact ⟨0, _, [], s4, by omega, rfl, rfl, L10.out, by omega, by simp, rfl⟩
  case round =>
    obtain ⟨k, v, ls, t, hk, rfl, hls, hL, hkl, hall, heq⟩ := hrel
    have HALL := Lib.hid hall; clear hall
    have HL := Lib.hid hL; clear hL
    have HQ := Lib.hid heq; clear heq
    have HLS := Lib.hid hls; clear hls
    by_cases hlt : k < N
    · have i1 : (k : Int) < (N : Int) := by omega
      obtain ⟨f, hf⟩ : ∃ f, N - k = f + 1 := ⟨N - k - 1, by omega⟩
      rw [hf, loopR_next] at HQ
      have HF := Lib.hid hf; clear hf
      have RS1 := Lib.hid (readStep_any wr (w.heap.size + 2) t HL.out.rd HL.out.ok)
      have OK1 := stepR_ok t HL.out.ok
      have SO1 := stepR_stok t HL.out.ok (by omega)
      have SB := Lib.hid (fun h1 h2 => stepR_back t HL.out.ok h1 h2)
      generalize (stepR t).1 = x at *
      generalize (stepR t).2 = t1 at *
      go_wp2_with fail
      refine RS1.out.mono ?_
      rintro e w11 ⟨rfl, hr11, hk11⟩
      have L11 := Lib.hid (HL.out.read hr11 OK1 hk11)
      have bx := below_self_alloc w11 (stO x)
      have L12 := Lib.hid (L11.out.new bx)
      have ER := Lib.hid (err_any _ (w.heap.size + 2) t1 L12.out.rd)
      have X0 := stO_at w11 x
      have XH := Lib.hid (heap_alloc_new w11 (stO x))
      clear RS1 hr11 hk11 HL
      go_wp2_with fail
      refine ER.out.mono ?_
      rintro e w12 ⟨rfl, rfl⟩
      clear ER
      obtain ⟨px, lx, tx⟩ := x
      generalize w11.alloc (stO ⟨px, lx, tx⟩) = w12 at *
      obtain ⟨x0, x1, x2⟩ := X0
      dsimp only at x0 x1 x2
      rw [Nat.zero_add] at x1 x2
      by_cases he : t1.e = 0
      · have q0 : (t1.e != 0) = false := by simp [he]
        rw [if_neg (fun c => c he)] at HQ
        have IS := Lib.hid (isStep_any ⟨px, lx, tx⟩ w12 SO1)
        cases hs : stS ⟨px, lx, tx⟩ with
        | false =>
          rw [hs] at IS HQ
          rw [if_neg (by simp)] at HQ
          have HR := Lib.hid (show res = dlZ 5 by rw [E.out, HQ.out]; rfl)
          clear E HQ SB SO1
          go_wp2_with fail
          refine IS.out.mono ?_
          rintro e w13 ⟨rfl, hb13⟩
          have L13 := Lib.hid (L12.out.new hb13)
          obtain ⟨⟨S0, S0f⟩, ⟨S1, S1f⟩, ⟨S2, S2f⟩, ⟨S3, S3f⟩, s4', s5'⟩ := four_store L13.out.res (.string ⟨#[]⟩) (.string ⟨#[]⟩) (.int .i64 0) (.slice none 0 0)
          have S4 := Lib.hid s4'
          have HB := Lib.hid (L13.out.bel.trans (s5'.below L13.out.bel.size (fun k e => by omega)))
          clear s4' s5' L13 L12 L11 hb13 IS
          go_wp2_with fail
          refine bodyPost_ret (v := .tuple #[delV [] [] 0 (.slice none 0 0), .int .i64 5]) (results_row_tmp Try.results19 _ _ w.heap.size _ _ _ _ rfl S4.out Try.underlying24 rfl del_info) rfl ?_
          rw [HR.out]
          exact rdZ_post _ _ 5 HB.out
        | true =>
          rw [if_pos hs] at HQ
          rw [hs] at IS
          have SBX := SB.out he hs
          have SBP := stB_pos ⟨px, lx, tx⟩
          have HLL := Lib.hid (show k + 1 + t1.l.length ≤ S.length by
            have := congrArg List.length SBX
            rw [List.length_append] at this
            omega)
          have htl := SO1.t
          dsimp only at htl
          clear SBX SBP SB
          go_wp2_with fail
          refine IS.out.mono ?_
          rintro e w13 ⟨rfl, hb13⟩
          have L13 := Lib.hid (L12.out.new hb13)
          have y0 := (hb13.cell (World.block_lt_of_cell? w12 _ x0)).trans x0
          have y1 := (hb13.cell (World.block_lt_of_cell? w12 _ x1)).trans x1
          have y2 := (hb13.cell (World.block_lt_of_cell? w12 _ x2)).trans x2
          have CL := Lib.hid (rclone_any tx w13 (by omega))
          have hb13b := hb13
          clear L12 L11 hb13 IS x0 x1 x2
          go_wp2_with fail
          refine CL.out.mono ?_
          rintro e w14 ⟨rfl, hb14⟩
          have L14 := Lib.hid (L13.out.new hb14)
          have z0 := (hb14.cell (World.block_lt_of_cell? w13 _ y0)).trans y0
          have z1 := (hb14.cell (World.block_lt_of_cell? w13 _ y1)).trans y1
          have z2 := (hb14.cell (World.block_lt_of_cell? w13 _ y2)).trans y2
          have hb14b := hb14
          clear L13 hb14 CL y0 y1 y2
          have XH14 := Lib.hid ((Kept.new hb14b (fun _ => False)).old ((Kept.new hb13b (fun _ => False)).old XH.out id) id)
          have f2 := frozen_of_row w14 w11.heap.size 2 _ _ XH14.out
          have HSS := Lib.hid (setCell_self z2)
          have c3 := (delO_cells L14.out.dl).2.2.2
          have hll := HLS.out
          have hbase := L14.out.bel.size
          go_upto_region 15 with fail
          rw [HSS.out]
          go_wp2_with (at_builtin; refine append_st (w := w14) (by rfl) (.tmp 43) (.tmp 45) 22 _ (by rfl) Try.underlying22 info_step (by rfl) w.heap.size v ls ⟨px, lx, tx⟩ (by rfl) L14.out.own (by rfl) (by omega) hbase ?_; intro v' w15 hown htn; obtain ⟨va, vm, vc, rfl⟩ := own_slice hown; obtain ⟨PS, pc, pf⟩ := L14.out.push hown htn; have HP := Lib.hid PS; clear PS hown htn)
          go_wp2_with fail
          go_roundw
          case rel => exact ⟨k + 1, _, ls ++ [⟨px, lx, tx⟩], t1, by omega, by go_num, by rw [List.length_append, HLS.out]; rfl, HP.out, HLL.out, fun y hy => (List.mem_append.1 hy).elim (HALL.out y) (fun h => by rw [List.mem_singleton.1 h]; exact hs), by rw [HQ.out, show N - (k + 1) = f by have := HF.out; omega]⟩
          case measure => simp [intOf]; omega
      · have q0 : (t1.e != 0) = true := by simp [he]
        rw [if_pos he] at HQ
        have HR := Lib.hid (show res = dlZ t1.e by rw [E.out, HQ.out]; unfold tailR; rw [if_pos he])
        obtain ⟨⟨S0, S0f⟩, ⟨S1, S1f⟩, ⟨S2, S2f⟩, ⟨S3, S3f⟩, s4', s5'⟩ := four_store L12.out.res (.string ⟨#[]⟩) (.string ⟨#[]⟩) (.int .i64 0) (.slice none 0 0)
        have S4 := Lib.hid s4'
        have HB := Lib.hid (L12.out.bel.trans (s5'.below L12.out.bel.size (fun k e => by omega)))
        clear s4' s5' L12 L11 E HQ SB he
        go_wp2_with fail
        refine bodyPost_ret (v := .tuple #[delV [] [] 0 (.slice none 0 0), .int .i64 t1.e]) (results_row_tmp Try.results19 _ _ w.heap.size _ _ _ _ rfl S4.out Try.underlying24 rfl del_info) rfl ?_
        rw [HR.out]
        exact rdZ_post _ _ _ HB.out
    · obtain rfl : k = N := by omega
      have i1 : ¬ (k : Int) < (k : Int) := by omega
      rw [Nat.sub_self] at HQ
      have HQ1 := Lib.hid (show loopR k [] s4 = (0, ls, t) from HQ.out)
      have HT := Lib.hid (show res = if (rEnd t).e ≠ 0 then dlZ (rEnd t).e else if rightD bm mm M ls = true then ⟨0, bm, mm, M, ls⟩ else dlZ 5 by
        rw [E.out, HQ1.out]; unfold tailR; rw [if_neg (by simp)])
      have EN := Lib.hid (end_any wr (w.heap.size + 2) t HL.out.rd)
      have OK2 := rEnd_ok t HL.out.ok
      generalize rEnd t = u at *
      clear E HQ HQ1 L10
      go_wp2_with fail
      refine EN.out.mono ?_
      rintro e w11 ⟨rfl, hr11, hk11⟩
      have L11 := Lib.hid (HL.out.read hr11 OK2 hk11)
      clear HL EN hr11 hk11
      by_cases he : u.e = 0
      · have q0 : (u.e != 0) = false := by simp [he]
        rw [if_neg (fun c => c he)] at HT
        have hll := HLS.out
        have RT := Lib.hid (rightD_any _ bm mm M v ls w11 L11.out.own.row (fun x hx => st_ok (HALL.out x hx)) (by omega) (by omega) (by omega) (by omega) (by omega))
        obtain ⟨c0, c1, c2, c3⟩ := delO_cells L11.out.dl
        cases hr : rightD bm mm M ls with
        | false =>
          rw [hr] at RT HT
          have HR := Lib.hid (show res = dlZ 5 by rw [HT.out, if_neg (by simp)])
          clear HT
          go_wp2_with fail
          refine RT.out.mono ?_
          rintro e w12 ⟨rfl, hb12⟩
          have L12 := Lib.hid (L11.out.new hb12)
          obtain ⟨⟨S0, S0f⟩, ⟨S1, S1f⟩, ⟨S2, S2f⟩, ⟨S3, S3f⟩, s4', s5'⟩ := four_store L12.out.res (.string ⟨#[]⟩) (.string ⟨#[]⟩) (.int .i64 0) (.slice none 0 0)
          have S4 := Lib.hid s4'
          have HB := Lib.hid (L12.out.bel.trans (s5'.below L12.out.bel.size (fun k e => by omega)))
          clear s4' s5' L11 L12 hb12 RT c0 c1 c2 c3
          go_wp2_with fail
          refine bodyPost_ret (v := .tuple #[delV [] [] 0 (.slice none 0 0), .int .i64 5]) (results_row_tmp Try.results19 _ _ w.heap.size _ _ _ _ rfl S4.out Try.underlying24 rfl del_info) rfl ?_
          rw [HR.out]
          exact rdZ_post _ _ 5 HB.out
        | true =>
          rw [hr] at RT HT
          have HR := Lib.hid (show res = ⟨0, bm, mm, M, ls⟩ by rw [HT.out, if_pos rfl])
          clear HT
          obtain ⟨av, mv, cv, rfl⟩ := own_slice L11.out.own
          go_wp2_with fail
          refine RT.out.mono ?_
          rintro e w12 ⟨rfl, hb12⟩
          have L12 := Lib.hid (L11.out.new hb12)
          obtain ⟨⟨S0, S0f⟩, ⟨S1, S1f⟩, ⟨S2, S2f⟩, ⟨S3, S3f⟩, s4', s5'⟩ := four_store L12.out.res (.string ⟨bm.toArray⟩) (.string ⟨mm.toArray⟩) (.int .i64 M) (.slice av mv cv)
          obtain ⟨d0, d1, d2, d3⟩ := delO_cells L12.out.dl
          have S4 := Lib.hid s4'
          have HB := Lib.hid (L12.out.bel.trans (s5'.below L12.out.bel.size (fun k e => by omega)))
          have HO := Lib.hid (L12.out.own.kept s5' (fun g hg e => own_ne L12.out.own L12.out.res (by decide) (e ▸ hg)))
          clear s4' s5' L11 L12 hb12 RT c0 c1 c2 c3
          go_wp2_with fail
          refine bodyPost_ret (v := .tuple #[delV bm mm M (.slice av mv cv), .int .i64 0]) (results_row_tmp Try.results19 _ _ w.heap.size _ _ _ _ rfl S4.out Try.underlying24 rfl del_info) rfl ?_
          rw [HR.out]
          exact ⟨_, rfl, HO.out, HB.out⟩
      · have q0 : (u.e != 0) = true := by simp [he]
        have HR := Lib.hid (show res = dlZ u.e by rw [HT.out, if_pos he])
        obtain ⟨⟨S0, S0f⟩, ⟨S1, S1f⟩, ⟨S2, S2f⟩, ⟨S3, S3f⟩, s4', s5'⟩ := four_store L11.out.res (.string ⟨#[]⟩) (.string ⟨#[]⟩) (.int .i64 0) (.slice none 0 0)
        have S4 := Lib.hid s4'
        have HB := Lib.hid (L11.out.bel.trans (s5'.below L11.out.bel.size (fun k e => by omega)))
        clear s4' s5' L11 HT he
        go_wp2_with fail
        refine bodyPost_ret (v := .tuple #[delV [] [] 0 (.slice none 0 0), .int .i64 u.e]) (results_row_tmp Try.results19 _ _ w.heap.size _ _ _ _ rfl S4.out Try.underlying24 rfl del_info) rfl ?_
        rw [HR.out]
        exact rdZ_post _ _ _ HB.out
end Go.Proofs.Ytpkgjokehgihjaa

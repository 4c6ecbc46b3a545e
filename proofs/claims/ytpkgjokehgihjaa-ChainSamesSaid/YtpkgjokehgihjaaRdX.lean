/- Several texts in one: OfMath, ReadDMath, ReadStW. -/
import Derived.Test.YtpkgjokehgihjaaBytesW
import Derived.Test.YtpkgjokehgihjaaCdX
import Derived.Test.YtpkgjokehgihjaaFrame
import Derived.Test.YtpkgjokehgihjaaGen
import Derived.Test.YtpkgjokehgihjaaMarkMath
import Derived.Test.YtpkgjokehgihjaaOwnL
import Derived.Test.YtpkgjokehgihjaaPtX
import Derived.Test.YtpkgjokehgihjaaRightW
import Derived.Test.YtpkgjokehgihjaaRows
import Derived.Test.YtpkgjokehgihjaaShelf
import Derived.Test.YtpkgjokehgihjaaSigAt
import Derived.Test.YtpkgjokehgihjaaSigOfW
import Derived.Test.YtpkgjokehgihjaaSignAW
import Derived.Test.YtpkgjokehgihjaaSignMath
import Derived.BigQuiet
import Derived.BigRegion
import Derived.Deep.CutBlock
import Derived.Deep.DeepCutAuto
import Derived.Deep.QuietTactic
import Derived.Deep.RegionLaw
import Derived.IntWalk
import Derived.Laws.BitsAllLaws
import Derived.Laws.Rows
import Derived.Laws.Tables
import Derived.Lib.Hide
import Derived.Maps.OwnSet
import Derived.Maps.Views
import Derived.Outline
import Derived.StillTailTactics
import Derived.WalkKit
import Derived.WalkLawsBesides
import Derived.WalkSpells
import Derived.Test.YtpkgjokehgihjaaMkX
import Derived.Test.YtpkgjokehgihjaaBookW
import Derived.Test.YtpkgjokehgihjaaDelX
import Derived.Deep.RegionHeld3
import Derived.Test.YtpkgjokehgihjaaRollX
import Derived.Test.YtpkgjokehgihjaaProg
import Derived.Test.YtpkgjokehgihjaaRollMath
import Derived.Test.YtpkgjokehgihjaaRowKeep
import Derived.Test.YtpkgjokehgihjaaStepW
import Derived.Test.YtpkgjokehgihjaaWkX
/- Plain mathematics of Of: loops that stop at an error tell the same; Of and Bytes, there and back. -/
set_option linter.unusedVariables false
namespace Go.Proofs.Ytpkgjokehgihjaa
open Go.RowKit

theorem nextC_err (s : RS) (h : s.ok) (he : s.e ≠ 0) : (nextC s).2 = s := by
  unfold nextC rCount
  rw [rNum_of_err s h he, if_neg (by show ¬ (4294967295 : Int) < 0; omega), if_pos he]
theorem nextM_err (s : RS) (he : s.e ≠ 0) : (nextM s).2 = s := by
  unfold nextM
  rw [rRaw_err s 32 he]
theorem itL_err {α : Type} (next : RS → α × RS) (s : RS) (h : (next s).2 = s) (k : Nat) : ∀ acc : List α, (itL next k acc s).2 = s := by
  induction k with
  | zero => intro acc; rfl
  | succ k ih => intro acc; unfold itL; rw [h]; exact ih _
theorem rEnd_e (s : RS) (he : (rEnd s).e = 0) : s.e = 0 := by
  by_cases h0 : s.e = 0
  · exact h0
  · unfold rEnd at he
    split at he
    · unfold rFail at he
      rw [if_neg h0] at he
      exact absurd he h0
    · exact he
theorem rEnd_l (s : RS) (he : (rEnd s).e = 0) : s.l = [] := by
  by_cases h0 : s.l = []
  · exact h0
  · unfold rEnd at he
    rw [if_pos h0] at he
    exact absurd he (rFail_e s 4 (by decide))
theorem rNum_nonneg (s : RS) (h : s.ok) (he : (rNum s).2.e = 0) : 0 ≤ (rNum s).1 := by
  obtain ⟨q, _, hq, _⟩ := rNum_split s h he
  omega
theorem ofTail_of {B M : Nat} {s t u : RS} {W : List Int} {ms : List Txt} (h1 : (itL nextC (nBlk M B) [] s).2 = t) (h2 : t.e = 0 → (itL nextC (nBlk M B) [] s).1 = W) (h3 : (itL nextM (nBlk M B) [] t).2 = u) (h4 : u.e = 0 → (itL nextM (nBlk M B) [] t).1 = ms) :
    ofTail B M s = if (rEnd u).e ≠ 0 then ofZ (rEnd u).e else ⟨0, B, M, W, ms⟩ := by
  rw [ofTail_eq, h1, h3]
  by_cases he : (rEnd u).e = 0
  · have hu := rEnd_e u he
    have ht : t.e = 0 := by
      by_cases h : t.e = 0
      · exact h
      · have := itL_err nextM t (nextM_err t h) (nBlk M B) []
        rw [h3] at this
        rw [this] at hu
        exact hu
    rw [if_neg (fun h => h he), if_neg (fun h => h he), h2 ht, h4 hu]
  · rw [if_pos he, if_pos he]
/-- What is read is what is made. -/
theorem nextC_back (s : RS) (hs : s.ok) (he : (nextC s).2.e = 0) : ∃ q : Nat, (nextC s).1 = (q : Int) ∧ q ≤ 4294967295 ∧ s.l = nb q ++ (nextC s).2.l := by
  unfold nextC at he ⊢
  rcases rCount_cases s 4294967295 hs with ⟨_, h2⟩ | ⟨h1, h2, h3⟩
  · exact absurd he h2
  · obtain ⟨q, hq, hv, hsl⟩ := rNum_split s hs (by rw [← h2]; exact he)
    refine ⟨q, by rw [h2, hv], ?_, by rw [h2]; exact hsl⟩
    omega
theorem nextM_back (s : RS) (he : (nextM s).2.e = 0) : (nextM s).1.length = 32 ∧ s.l = (nextM s).1 ++ (nextM s).2.l := by
  unfold nextM at he ⊢
  by_cases h0 : s.e = 0
  · by_cases hl : (s.l.length : Int) < 32
    · rw [rRaw_long s 32 (by decide) hl] at he
      exact absurd he (rFail_e s 3 (by decide))
    · have := rRaw_all s 32 h0 (by omega)
      rw [show ((32 : Nat) : Int) = 32 from rfl] at this
      rw [this]
      exact ⟨by rw [List.length_take]; omega, (List.take_append_drop 32 s.l).symm⟩
  · rw [rRaw_err s 32 h0] at he; exact absurd he h0
theorem itL_back {α : Type} {next : RS → α × RS} {E : α → Txt} {Q : α → Prop} (hb : ∀ s : RS, s.ok → (next s).2.e = 0 → Q (next s).1 ∧ s.l = E (next s).1 ++ (next s).2.l) (hok : ∀ s : RS, s.ok → (next s).2.ok) (herr : ∀ s : RS, s.ok → s.e ≠ 0 → (next s).2 = s) (k : Nat) :
    ∀ (acc : List α) (s : RS), s.ok → (itL next k acc s).2.e = 0 → ∃ ys, (itL next k acc s).1 = acc ++ ys ∧ ys.length = k ∧ (∀ y ∈ ys, Q y) ∧ s.l = (ys.map E).flatten ++ (itL next k acc s).2.l := by
  induction k with
  | zero => intro acc s _ _; exact ⟨[], by simp [itL], rfl, by simp, by simp [itL]⟩
  | succ k ih =>
    intro acc s hs he
    unfold itL at he ⊢
    have h0 : (next s).2.e = 0 := by
      by_cases h : (next s).2.e = 0
      · exact h
      · rw [itL_err next (next s).2 (herr _ (hok s hs) h)] at he
        exact absurd he h
    obtain ⟨q1, q2⟩ := hb s hs h0
    obtain ⟨ys, e1, e2, e3, e4⟩ := ih (acc ++ [(next s).1]) (next s).2 (hok s hs) he
    refine ⟨(next s).1 :: ys, by rw [e1]; simp, by simp [e2], fun y hy => ?_, ?_⟩
    · rcases List.mem_cons.1 hy with rfl | hy
      · exact q1
      · exact e3 y hy
    · rw [List.map_cons, List.flatten_cons, List.append_assoc, ← e4]; exact q2
theorem itL_fore {α : Type} {next : RS → α × RS} {E : α → Txt} (xs : List α) : ∀ (acc : List α) (t : Txt), (∀ x ∈ xs, ∀ t : Txt, next ⟨E x ++ t, 0⟩ = (x, ⟨t, 0⟩)) → itL next xs.length acc ⟨(xs.map E).flatten ++ t, 0⟩ = (acc ++ xs, ⟨t, 0⟩) := by
  induction xs with
  | nil => intro acc t _; simp [itL]
  | cons x xs ih =>
    intro acc t h
    rw [List.length_cons]
    unfold itL
    rw [List.map_cons, List.flatten_cons, List.append_assoc, h x (by simp)]
    rw [ih _ _ (fun y hy => h y (by simp [hy]))]
    simp
theorem nextC_fore (x : Int) (h : 0 ≤ x ∧ x ≤ 4294967295) (t : Txt) : nextC ⟨nbZ x ++ t, 0⟩ = (x, ⟨t, 0⟩) := by
  obtain ⟨q, rfl⟩ : ∃ q : Nat, x = (q : Int) := ⟨x.toNat, by omega⟩
  unfold nextC rCount nbZ
  rw [Int.toNat_natCast, rNum_nb q t (by omega), if_neg (by show ¬ (4294967295 : Int) < (q : Int); omega), if_neg (by simp)]
theorem nextM_fore (m : Txt) (h : m.length = 32) (t : Txt) : nextM ⟨m ++ t, 0⟩ = (m, ⟨t, 0⟩) := by
  unfold nextM
  have := rRaw_all ⟨m ++ t, 0⟩ 32 rfl (by rw [List.length_append]; omega)
  rw [show ((32 : Nat) : Int) = 32 from rfl] at this
  rw [this]
  rw [show (32 : Nat) = m.length from h.symm, List.take_left', List.drop_left'] <;> rfl
/-- Of of Bytes. -/
theorem ofS_bytes {B M : Nat} {ws : List Int} {ms : List Txt} (h : RightIs B M ws ms B M) : ofS (bytesS B M ws ms) = ⟨0, B, M, ws, ms⟩ := by
  have hb1 := h.b1
  have hb2 := h.b2
  have hn2 := h.n2
  unfold ofS bytesS
  rw [List.append_assoc, List.append_assoc, rNum_nb B _ (by omega)]
  dsimp only
  rw [rNum_nb M _ (by omega)]
  dsimp only
  unfold ofHead
  rw [if_neg (by simp), if_pos ⟨(okB_iff _).2 (by omega), (okN_iff _).2 (by omega)⟩, Int.toNat_natCast, Int.toNat_natCast, ofTail_eq, ← h.lw, itL_fore ws [] _ (fun x hx t => nextC_fore x (h.w x hx) t)]
  dsimp only
  have e2 := itL_fore (next := nextM) (E := id) ms [] [] (fun x hx t => nextM_fore x (h.m x hx) t)
  rw [List.map_id, List.append_nil] at e2
  rw [h.lw, ← h.lm, e2]
  simp [rEnd]
/-- Bytes of Of. -/
theorem ofS_back (S : Txt) (h : (ofS S).e = 0) : ∃ B M ws ms, ofS S = ⟨0, B, M, ws, ms⟩ ∧ RightIs B M ws ms B M ∧ rightS B M ws ms = true ∧ bytesS B M ws ms = S := by
  have hs0 : RS.ok ⟨S, 0⟩ := .inl rfl
  have ok1 := rNum_ok ⟨S, 0⟩ hs0
  have ok2 := rNum_ok (rNum ⟨S, 0⟩).2 ok1
  unfold ofS at h ⊢
  unfold ofHead at h ⊢
  by_cases he : (rNum (rNum ⟨S, 0⟩).2).2.e = 0
  · rw [if_neg (fun k => k he)] at h ⊢
    by_cases hbn : okB (rNum ⟨S, 0⟩).1 = true ∧ okN (rNum (rNum ⟨S, 0⟩).2).1 = true
    · rw [if_pos hbn] at h ⊢
      obtain ⟨c, hc, hcv, hcl⟩ := rNum_split _ ok1 he
      have he1 : (rNum ⟨S, 0⟩).2.e = 0 := by
        by_cases k : (rNum ⟨S, 0⟩).2.e = 0
        · exact k
        · rw [rNum_of_err _ ok1 k] at he; exact absurd he k
      obtain ⟨a, ha, hav, hal⟩ := rNum_split _ hs0 he1
      rw [hav, hcv] at hbn h ⊢
      rw [Int.toNat_natCast, Int.toNat_natCast] at h ⊢
      rw [okB_iff, okN_iff] at hbn
      rw [ofTail_eq] at h ⊢
      have hq := (nBlk_num c a (by omega) (by omega) (by omega)).2.2
      obtain ⟨N, hN⟩ : ∃ N, N = nBlk c a := ⟨_, rfl⟩
      rw [← hN] at h hq ⊢
      obtain ⟨s2, hs2⟩ : ∃ s2, s2 = (rNum (rNum ⟨S, 0⟩).2).2 := ⟨_, rfl⟩
      rw [← hs2] at h hcl ok2 he ⊢
      by_cases hend : (rEnd (itL nextM N [] (itL nextC N [] s2).2).2).e = 0
      · rw [if_neg (fun k => k hend)] at h ⊢
        have hu := rEnd_e _ hend
        have hul := rEnd_l _ hend
        have okc := itL_ok nextC (fun s hs => rCount_ok s _ hs) N [] s2 ok2
        have ht : (itL nextC N [] s2).2.e = 0 := by
          by_cases k : (itL nextC N [] s2).2.e = 0
          · exact k
          · rw [itL_err nextM _ (nextM_err _ k)] at hu; exact hu
        obtain ⟨ws, w1, w2, w3, w4⟩ := itL_back (next := nextC) (E := nbZ) (Q := fun x : Int => 0 ≤ x ∧ x ≤ 4294967295) (fun s hs k => by obtain ⟨q, q1, q2, q3⟩ := nextC_back s hs k; rw [q1]; exact ⟨⟨by omega, by omega⟩, by unfold nbZ; rw [Int.toNat_natCast]; exact q3⟩) (fun s hs => rCount_ok s _ hs) nextC_err N [] s2 ok2 ht
        obtain ⟨ms, m1, m2, m3, m4⟩ := itL_back (next := nextM) (E := id) (Q := fun x : Txt => x.length = 32) (fun s hs k => nextM_back s k) (fun s hs => rRaw_ok s _ hs) (fun s _ k => nextM_err s k) N [] (itL nextC N [] s2).2 okc hu
        rw [List.nil_append] at w1 m1
        rw [w1, m1]
        have hR : RightIs (a : Int) (c : Int) ws ms a c := ⟨rfl, rfl, by omega, by omega, by omega, w3, m3, by rw [w2, hN], by rw [m2, hN], by rw [← hN]; exact hq⟩
        refine ⟨a, c, ws, ms, rfl, hR, ?_, ?_⟩
        · unfold rightS
          rw [Int.toNat_natCast, Int.toNat_natCast, decide_eq_true hR.lw, decide_eq_true hR.lm, (okB_iff _).2 (by omega), (okN_iff _).2 (by omega)]
          simp only [Bool.and_true, Bool.true_and, Bool.and_eq_true, List.all_eq_true]
          exact ⟨fun x hx => decide_eq_true (w3 x hx), fun x hx => decide_eq_true (m3 x hx)⟩
        · have hm4 : (itL nextC N [] s2).2.l = ms.flatten := by
            rw [m4, hul, List.map_id, List.append_nil]
          rw [hm4] at w4
          rw [w4] at hcl
          rw [hcl] at hal
          unfold bytesS
          rw [List.append_assoc, List.append_assoc]
          exact hal.symm
      · rw [if_pos hend] at h; exact absurd h hend
    · rw [if_neg hbn] at h; exact absurd h (by decide)
  · rw [if_pos he] at h; exact absurd h he
theorem ofS_len (S : Txt) : (ofS S).ws.length ≤ 40000 ∧ (ofS S).ms.length ≤ 40000 := by
  by_cases h : (ofS S).e = 0
  · obtain ⟨B, M, ws, ms, e, hR, _⟩ := ofS_back S h
    rw [e]
    have h1 := hR.lw
    have h2 := hR.lm
    have h3 := hR.q
    exact ⟨by show ws.length ≤ _; omega, by show ms.length ≤ _; omega⟩
  · unfold ofS at h ⊢
    unfold ofHead at h ⊢
    split
    · exact ⟨by show 0 ≤ _; omega, by show 0 ≤ _; omega⟩
    · split
      · rename_i h1 h2
        rw [if_neg h1, if_pos h2] at h
        rw [ofTail_eq] at h ⊢
        split
        · exact ⟨by show 0 ≤ _; omega, by show 0 ≤ _; omega⟩
        · rename_i h3
          rw [if_neg h3] at h
          exact absurd rfl h
      · exact ⟨by show 0 ≤ _; omega, by show 0 ≤ _; omega⟩
end Go.Proofs.Ytpkgjokehgihjaa
/- What bytes are as a delta, as plain mathematics; there and back. Of no program. -/
set_option linter.unusedVariables false
namespace Go.Proofs.Ytpkgjokehgihjaa
open Go.RowKit

def stepR (s : RS) : DSt × RS :=
  if (rNum s).1 % 2 = 0 then (⟨0, 0, (rRaw (rNum s).2 ((rNum s).1 / 2)).1⟩, (rRaw (rNum s).2 ((rNum s).1 / 2)).2)
  else (⟨(rNum (rNum s).2).1, (rNum s).1 / 2, []⟩, (rNum (rNum s).2).2)
theorem stepR_ok (s : RS) (h : s.ok) : (stepR s).2.ok := by
  unfold stepR
  split
  · exact rRaw_ok _ _ (rNum_ok s h)
  · exact rNum_ok _ (rNum_ok s h)
/-- The steps, read from the left: an error, or the steps and what is left. -/
def loopR : Nat → List DSt → RS → Int × List DSt × RS
  | 0, acc, s => (0, acc, s)
  | k + 1, acc, s => if (stepR s).2.e ≠ 0 then ((stepR s).2.e, [], s) else if stS (stepR s).1 = true then loopR k (acc ++ [(stepR s).1]) (stepR s).2 else (5, [], s)
theorem loopR_next (k : Nat) (acc : List DSt) (s : RS) : loopR (k + 1) acc s = if (stepR s).2.e ≠ 0 then ((stepR s).2.e, [], s) else if stS (stepR s).1 = true then loopR k (acc ++ [(stepR s).1]) (stepR s).2 else (5, [], s) := rfl
structure DlR where
  e : Int
  bm : Txt
  mm : Txt
  n : Int
  l : List DSt
def dlZ (e : Int) : DlR := ⟨e, [], [], 0, []⟩
def tailR (bm mm : Txt) (n : Int) (r : Int × List DSt × RS) : DlR :=
  if r.1 ≠ 0 then dlZ r.1 else if (rEnd r.2.2).e ≠ 0 then dlZ (rEnd r.2.2).e else if rightD bm mm n r.2.1 = true then ⟨0, bm, mm, n, r.2.1⟩ else dlZ 5
/-- What bytes are as a delta. -/
def readD (S : Txt) : DlR :=
  tailR (rRaw ⟨S, 0⟩ 32).1 (rRaw (rRaw ⟨S, 0⟩ 32).2 32).1 (rNum (rRaw (rRaw ⟨S, 0⟩ 32).2 32).2).1
    (loopR (rNum (rNum (rRaw (rRaw ⟨S, 0⟩ 32).2 32).2).2).1.toNat [] (rNum (rNum (rRaw (rRaw ⟨S, 0⟩ 32).2 32).2).2).2)

theorem raw_app (a t : Txt) (n : Nat) (h : a.length = n) : rRaw ⟨a ++ t, 0⟩ (n : Int) = (a, ⟨t, 0⟩) := by
  rw [rRaw_all _ n rfl (by rw [List.length_append]; omega)]
  rw [← h, List.take_left' rfl, List.drop_left' rfl]
theorem stepR_fore (x : DSt) (h : stS x = true) (t : Txt) : stepR ⟨stB x ++ t, 0⟩ = (x, ⟨t, 0⟩) := by
  obtain ⟨p, n, u⟩ := x
  unfold stS at h
  unfold stB
  dsimp only at h ⊢
  by_cases hu : u = []
  · subst hu
    rw [if_neg (by simp)] at h
    have h0 := of_decide_eq_true h
    obtain ⟨q, rfl⟩ : ∃ q : Nat, n = (q : Int) := ⟨n.toNat, by omega⟩
    obtain ⟨r, rfl⟩ : ∃ r : Nat, p = (r : Int) := ⟨p.toNat, by omega⟩
    rw [if_pos rfl, List.append_assoc, show (2 * (q : Int) + 1).toNat = 2 * q + 1 by omega, Int.toNat_natCast]
    unfold stepR
    rw [rNum_nb (2 * q + 1) _ (by omega)]
    dsimp only
    rw [if_neg (by omega), rNum_nb r t (by omega)]
    simp only [Prod.mk.injEq, DSt.mk.injEq, and_true, true_and]
    omega
  · rw [if_pos hu] at h
    obtain ⟨h1, h2, h3⟩ := of_decide_eq_true h
    subst h2; subst h3
    rw [if_neg hu, List.append_assoc]
    unfold stepR
    rw [rNum_nb (2 * u.length) _ (by omega)]
    dsimp only
    rw [if_pos (by omega), show ((2 * u.length : Nat) : Int) / 2 = (u.length : Int) by omega, raw_app u t u.length rfl]
theorem loopR_fore : ∀ (l acc : List DSt) (t : Txt), (∀ x ∈ l, stS x = true) → loopR l.length acc ⟨bodyB l ++ t, 0⟩ = (0, acc ++ l, ⟨t, 0⟩) := by
  intro l
  induction l with
  | nil => intro acc t _; unfold bodyB loopR; simp
  | cons x l ih =>
    intro acc t h
    have hx := h x (by simp)
    have e : bodyB (x :: l) = stB x ++ bodyB l := by unfold bodyB; simp
    rw [List.length_cons, loopR_next, e, List.append_assoc, stepR_fore x hx]
    dsimp only
    rw [if_neg (by simp), if_pos hx, ih _ _ (fun y hy => h y (by simp [hy]))]
    simp
/-- Read of Bytes. -/
theorem readD_bytes {bm mm : Txt} {n : Int} {l : List DSt} {M : Nat} (h : RightDIs bm mm n l M) : readD (bytesD bm mm M l) = ⟨0, bm, mm, n, l⟩ := by
  have hn := h.n
  have hn2 := h.n2
  have hl := h.len
  unfold readD bytesD headB
  simp only [List.append_assoc]
  rw [show (32 : Int) = ((32 : Nat) : Int) from rfl, raw_app bm _ 32 h.b]
  dsimp only
  rw [raw_app mm _ 32 h.m]
  dsimp only
  rw [rNum_nb M _ (by omega)]
  dsimp only
  rw [rNum_nb l.length _ (by omega)]
  dsimp only
  have e2 := loopR_fore l [] [] h.st
  rw [List.append_nil] at e2
  rw [Int.toNat_natCast, e2]
  unfold tailR
  dsimp only
  rw [if_neg (by simp), if_neg (by simp [rEnd]), List.nil_append, ← hn, if_pos h.right]
theorem stepR_back (s : RS) (hs : s.ok) (he : (stepR s).2.e = 0) (hx : stS (stepR s).1 = true) : s.l = stB (stepR s).1 ++ (stepR s).2.l := by
  have h0 : (rNum s).2.e = 0 := by
    by_cases k : (rNum s).2.e = 0
    · exact k
    · unfold stepR at he
      split at he
      · rw [rRaw_err _ _ k] at he; exact he
      · rw [rNum_of_err _ (rNum_ok s hs) k] at he; exact he
  obtain ⟨q, hq, hv, hl⟩ := rNum_split s hs h0
  have ok1 := rNum_ok s hs
  unfold stepR at he hx ⊢
  rw [hv] at he hx ⊢
  generalize (rNum s).2 = s1 at *
  split
  · rename_i hc
    rw [if_pos hc] at he hx
    dsimp only at he hx ⊢
    have hr : rRaw s1 ((q : Int) / 2) = (s1.l.take (q / 2), ⟨s1.l.drop (q / 2), 0⟩) ∧ q / 2 ≤ s1.l.length := by
      rw [show (q : Int) / 2 = ((q / 2 : Nat) : Int) by omega] at he ⊢
      by_cases hlt : (s1.l.length : Int) < ((q / 2 : Nat) : Int)
      · rw [rRaw_long s1 _ (by omega) hlt] at he
        exact absurd he (rFail_e s1 3 (by decide))
      · exact ⟨rRaw_all s1 (q / 2) h0 (by omega), by omega⟩
    rw [hr.1] at hx ⊢
    dsimp only at hx ⊢
    have hlen : (s1.l.take (q / 2)).length = q / 2 := by rw [List.length_take]; omega
    have hsp : s1.l.take (q / 2) ++ s1.l.drop (q / 2) = s1.l := List.take_append_drop _ _
    generalize s1.l.take (q / 2) = u at *
    unfold stB
    dsimp only
    have hu : u ≠ [] := by
      rintro rfl
      unfold stS at hx
      dsimp only at hx
      rw [if_neg (by simp)] at hx
      have := of_decide_eq_true hx
      omega
    rw [if_neg hu, List.append_assoc, hsp, hlen, show 2 * (q / 2) = q by omega]
    exact hl
  · rename_i hc
    rw [if_neg hc] at he hx
    dsimp only at he hx ⊢
    obtain ⟨r, hr, hrv, hrl⟩ := rNum_split s1 ok1 he
    rw [hrv] at hx ⊢
    unfold stB
    dsimp only
    rw [if_pos rfl, List.append_assoc, Int.toNat_natCast, ← hrl, show (2 * ((q : Int) / 2) + 1).toNat = q by omega]
    exact hl
theorem loopR_back (k : Nat) : ∀ (acc : List DSt) (s : RS), s.ok → (loopR k acc s).1 = 0 → ∃ ys, (loopR k acc s).2.1 = acc ++ ys ∧ ys.length = k ∧ (∀ y ∈ ys, stS y = true) ∧ s.l = bodyB ys ++ (loopR k acc s).2.2.l ∧ (loopR k acc s).2.2.ok := by
  induction k with
  | zero => intro acc s hs _; exact ⟨[], by simp [loopR], rfl, by simp, by simp [loopR, bodyB], hs⟩
  | succ k ih =>
    intro acc s hs he
    rw [loopR_next] at he ⊢
    by_cases h0 : (stepR s).2.e = 0
    · rw [if_neg (fun c => c h0)] at he ⊢
      by_cases h1 : stS (stepR s).1 = true
      · rw [if_pos h1] at he ⊢
        obtain ⟨ys, e1, e2, e3, e4, e5⟩ := ih _ _ (stepR_ok s hs) he
        refine ⟨(stepR s).1 :: ys, by rw [e1]; simp, by simp [e2], fun y hy => ?_, ?_, e5⟩
        · rcases List.mem_cons.1 hy with rfl | hy
          · exact h1
          · exact e3 y hy
        · have e : bodyB ((stepR s).1 :: ys) = stB (stepR s).1 ++ bodyB ys := by unfold bodyB; simp
          rw [e, List.append_assoc, ← e4]
          exact stepR_back s hs h0 h1
      · rw [if_neg h1] at he; dsimp only at he; exact absurd he (by decide)
    · rw [if_pos h0] at he; exact absurd he h0
theorem raw_back (s : RS) (m : Nat) (he : (rRaw s (m : Int)).2.e = 0) : s.e = 0 ∧ (rRaw s (m : Int)).1.length = m ∧ s.l = (rRaw s (m : Int)).1 ++ (rRaw s (m : Int)).2.l := by
  by_cases h0 : s.e = 0
  · by_cases hl : (s.l.length : Int) < (m : Int)
    · rw [rRaw_long s _ (by omega) hl] at he
      exact absurd he (rFail_e s 3 (by decide))
    · rw [rRaw_all s m h0 (by omega)]
      exact ⟨h0, by rw [List.length_take]; omega, (List.take_append_drop m s.l).symm⟩
  · rw [rRaw_err s _ h0] at he; exact absurd he h0
/-- Bytes of Read. -/
theorem readD_back (S : Txt) (h : (readD S).e = 0) : ∃ M, RightDIs (readD S).bm (readD S).mm (readD S).n (readD S).l M ∧ bytesD (readD S).bm (readD S).mm M (readD S).l = S := by
  unfold readD at h ⊢
  have ok0 : RS.ok ⟨S, 0⟩ := .inl rfl
  have ok1 := rRaw_ok ⟨S, 0⟩ 32 ok0
  have ok2 := rRaw_ok _ 32 ok1
  have ok3 := rNum_ok _ ok2
  have ok4 := rNum_ok _ ok3
  unfold tailR at h ⊢
  split at h
  · rename_i c; exact absurd h c
  · rename_i c1
    rw [if_neg c1]
    split at h
    · rename_i c; exact absurd h c
    · rename_i c2
      rw [if_neg c2]
      split at h
      · rename_i c3
        rw [if_pos c3]
        dsimp only
        obtain ⟨ys, y1, y2, y3, y4, y5⟩ := loopR_back _ [] _ ok4 (by simpa using c1)
        have hend := rEnd_e _ (by simpa using c2)
        have hendl := rEnd_l _ (by simpa using c2)
        rw [hendl, List.append_nil] at y4
        have e4 : (rNum (rNum (rRaw (rRaw ⟨S, 0⟩ 32).2 32).2).2).2.e = 0 := by
          by_cases k : (rNum (rNum (rRaw (rRaw ⟨S, 0⟩ 32).2 32).2).2).2.e = 0
          · exact k
          · exfalso
            have hz : (rNum (rNum (rRaw (rRaw ⟨S, 0⟩ 32).2 32).2).2).1.toNat = 0 := by
              have : ys.length = 0 := by
                have hl0 : (rNum (rNum (rRaw (rRaw ⟨S, 0⟩ 32).2 32).2).2).2.l = [] := by
                  rcases ok4 with c | c
                  · exact absurd c k
                  · exact c
                rw [hl0] at y4
                cases ys with
                | nil => rfl
                | cons y ys =>
                  have hp : 1 ≤ (stB y).length := by
                    unfold stB
                    split
                    · have := (nb_length (2 * y.len + 1).toNat).1; rw [List.length_append]; omega
                    · have := (nb_length (2 * y.txt.length)).1; rw [List.length_append]; omega
                  have := congrArg List.length y4
                  unfold bodyB at this
                  rw [List.map_cons, List.flatten_cons, List.length_append, List.length_nil] at this
                  omega
              omega
            rw [hz] at hend
            exact k hend
        have e3 : (rNum (rRaw (rRaw ⟨S, 0⟩ 32).2 32).2).2.e = 0 := by
          by_cases k : (rNum (rRaw (rRaw ⟨S, 0⟩ 32).2 32).2).2.e = 0
          · exact k
          · rw [rNum_of_err _ ok3 k] at e4; exact absurd e4 k
        have e2 : (rRaw (rRaw ⟨S, 0⟩ 32).2 32).2.e = 0 := by
          by_cases k : (rRaw (rRaw ⟨S, 0⟩ 32).2 32).2.e = 0
          · exact k
          · rw [rNum_of_err _ ok2 k] at e3; exact absurd e3 k
        obtain ⟨q4, a4, b4, l4⟩ := rNum_split _ ok3 e4
        obtain ⟨q3, a3, b3, l3⟩ := rNum_split _ ok2 e3
        obtain ⟨a2, b2, l2⟩ := raw_back _ 32 e2
        obtain ⟨a1, b1, l1⟩ := raw_back _ 32 a2
        rw [y1, List.nil_append] at c3 ⊢
        obtain ⟨M, hM⟩ := rightD_is c3
        refine ⟨M, hM, ?_⟩
        have hMn := hM.n
        rw [b3] at hMn
        have hq3 : q3 = M := by omega
        rw [b4, Int.toNat_natCast] at y2
        unfold bytesD headB
        rw [y2, ← hq3, List.append_assoc, List.append_assoc, List.append_assoc, ← y4, ← l4, ← l3]
        have l2' : (rRaw ⟨S, 0⟩ 32).2.l = (rRaw (rRaw ⟨S, 0⟩ 32).2 32).1 ++ (rRaw (rRaw ⟨S, 0⟩ 32).2 32).2.l := l2
        rw [← l2']
        exact l1.symm
      · exact absurd h (by decide)
end Go.Proofs.Ytpkgjokehgihjaa
/- The walk of the reading of one step. -/
set_option linter.unusedVariables false
namespace Go.Proofs.Ytpkgjokehgihjaa
open Go.RowKit

theorem rNum_nat (s : RS) (h : s.ok) : ∃ c : Nat, (rNum s).1 = (c : Int) ∧ c ≤ 4611686018427387903 := by
  by_cases he : (rNum s).2.e = 0
  · obtain ⟨q, hq, hv, _⟩ := rNum_split s h he
    exact ⟨q, hv, hq⟩
  · exact ⟨0, rNumF_zero 9 0 0 s rfl (by decide) he, by decide⟩
theorem rRaw_len_le (s : RS) (n : Int) : (rRaw s n).1.length ≤ s.l.length := by
  unfold rRaw
  split
  · simp
  · split
    · simp
    · split
      · simp
      · rw [List.length_take]; omega
theorem three_store {w : World} {p : Nat} {ty : TypeId} {x0 x1 x2 : Value} (h : w.heap[p]? = some (.cells #[x0, x1, x2] ty (0, 0))) (y0 y1 y2 : Value) :
    (w.cell? ⟨p, 0, none⟩ = some x0 ∧ w.frozen? ⟨p, 0, none⟩ = false) ∧
    ((w.setCell ⟨p, 0, none⟩ y0).cell? ⟨p, 1, none⟩ = some x1 ∧ (w.setCell ⟨p, 0, none⟩ y0).frozen? ⟨p, 1, none⟩ = false) ∧
    (((w.setCell ⟨p, 0, none⟩ y0).setCell ⟨p, 1, none⟩ y1).cell? ⟨p, 2, none⟩ = some x2 ∧ ((w.setCell ⟨p, 0, none⟩ y0).setCell ⟨p, 1, none⟩ y1).frozen? ⟨p, 2, none⟩ = false) ∧
    (((w.setCell ⟨p, 0, none⟩ y0).setCell ⟨p, 1, none⟩ y1).setCell ⟨p, 2, none⟩ y2).heap[p]? = some (.cells #[y0, y1, y2] ty (0, 0)) ∧
    Kept (fun k => k = p) w (((w.setCell ⟨p, 0, none⟩ y0).setCell ⟨p, 1, none⟩ y1).setCell ⟨p, 2, none⟩ y2) := by
  have h1 := heap_setCell_same w p 0 _ _ y0 h
  have h2 := heap_setCell_same _ p 1 _ _ y1 h1
  have h3 := heap_setCell_same _ p 2 _ _ y2 h2
  refine ⟨⟨?_, frozen_of_row w p 0 _ _ h⟩, ⟨?_, frozen_of_row _ p 1 _ _ h1⟩, ⟨?_, frozen_of_row _ p 2 _ _ h2⟩, h3, ?_⟩
  · rw [cell_of_row _ _ _ _ _ _ h]; rfl
  · rw [cell_of_row _ _ _ _ _ _ h1]; rfl
  · rw [cell_of_row _ _ _ _ _ _ h2]; rfl
  · exact (((Kept.refl _ _).setCell (by rfl) _).setCell (by rfl) _).setCell (by rfl) _
theorem Kept.trans_new {M N : Nat → Prop} {a b c : World} (h : Kept M a b) (k : Kept N b c) (hn : ∀ i, i < a.heap.size → N i → M i) : Kept M a c :=
  ⟨k.os.trans h.os, k.tape.trans h.tape, k.output.trans h.output, Nat.le_trans h.size k.size, fun i hi hm => (k.block i (Nat.lt_of_lt_of_le hi h.size) (fun n => hm (hn i hi n))).trans (h.block i hi hm)⟩
theorem st_info : (Try.prog.info? 61).map (·.size) = some 3 := by kernel_rfl
set_option maxRecDepth 100000 in
set_option maxHeartbeats 1000000 in
theorem readStep_any (w : World) (g : Nat) (s : RS) (h : Rd w g s) (hok : s.ok) :
    Calls Try.prog 46 #[ptr g] w (Does w g (stV (stepR s).1) (stepR s).2) := by
  have hb := below_self_alloc w (stO ⟨0, 0, []⟩)
  have H0 := Lib.hid (show Rd (w.alloc (stO ⟨0, 0, []⟩)) g s from h.kept (Kept.new hb (fun _ => False)) id)
  have HG0 := Lib.hid (heap_alloc_new w (stO ⟨0, 0, []⟩))
  have HLT := Lib.hid h.lt
  have K0 := Lib.hid (Kept.of_alloc w (stO ⟨0, 0, []⟩))
  have NM := Lib.hid (rnum_any _ g s H0.out hok)
  have OK1 := rNum_ok s hok
  obtain ⟨c, hc, hcm⟩ := rNum_nat s hok
  have HS := Lib.hid (show stepR s = if (rNum s).1 % 2 = 0 then (⟨0, 0, (rRaw (rNum s).2 ((rNum s).1 / 2)).1⟩, (rRaw (rNum s).2 ((rNum s).1 / 2)).2)
    else (⟨(rNum (rNum s).2).1, (rNum s).1 / 2, []⟩, (rNum (rNum s).2).2) from rfl)
  rw [hc] at NM HS
  generalize (rNum s).2 = s1 at *
  generalize stepR s = res at *
  clear hb h hok hc
  have I1 : ∀ j, (w.alloc (stO ⟨0, 0, []⟩)).frozen? ⟨w.heap.size, j, none⟩ = false := fun j => frozen_of_row _ _ _ _ _ HG0.out
  by_cases hm : c % 2 = 0
  · have hmi : (c : Int) % 2 = 0 := by omega
    have qm : ((c : Int) % 2 == 0) = true := by simp [hmi]
    rw [if_pos hmi] at HS
    have RW := fun w' hr => Lib.hid (raw_any w' g s1 ((c : Int) / 2) hr OK1)
    generalize rRaw s1 ((c : Int) / 2) = rr at *
    obtain ⟨t, s2⟩ := rr
    dsimp only at HS RW
    go_enter Try.func46, Try.ntmps46
    go_wp2_with fail
    generalize w.alloc (.cells #[.int .i64 0, .int .i64 0, .string ⟨#[]⟩] 61) = w0 at *
    refine NM.out.mono ?_
    rintro e w1 ⟨rfl, hr1, hk1⟩
    have HG1 := Lib.hid (hk1.old HG0.out (fun e => by have := HLT.out; omega))
    have RW1 := RW w1 hr1
    have K1 := Lib.hid (show Kept (· = g) w w1 from (K0.out.mono (fun k _ hk => hk.elim)).trans hk1)
    clear RW NM hr1 hk1 HG0 I1 H0 K0
    go_wp2_with fail
    refine RW1.out.mono ?_
    rintro e w2 ⟨rfl, hr2, hk2⟩
    have HG2 := hk2.old HG1.out (fun e => by have := HLT.out; omega)
    obtain ⟨⟨a0, b0⟩, ⟨a1, b1⟩, ⟨a2, b2⟩, S4, S5⟩ := three_store HG2 (.int .i64 0) (.int .i64 0) (.string ⟨t.toArray⟩)
    have HR2 := Lib.hid (hr2.kept S5 (fun e => by have := HLT.out; omega))
    have HK2 := Lib.hid ((K1.out.trans hk2).trans_new S5 (fun k hk e => by omega))
    have H4 := Lib.hid S4
    clear HG2 S4 S5 hr2 hk2 HG1 RW1 K1
    go_wp2_with fail
    refine bodyPost_ret (v := stV ⟨0, 0, t⟩) (results_cell_row Try.results46 _ _ w.heap.size _ _ _ _ rfl H4.out Try.underlying61 rfl st_info) rfl ?_
    rw [HS.out]
    exact ⟨rfl, HR2.out, HK2.out⟩
  · have hmi : ¬ (c : Int) % 2 = 0 := by omega
    have qm : ((c : Int) % 2 == 0) = false := by simp [hmi]
    rw [if_neg hmi] at HS
    have RW := fun w' hr => Lib.hid (rnum_any w' g s1 hr OK1)
    generalize rNum s1 = rr at *
    obtain ⟨q, s2⟩ := rr
    dsimp only at HS RW
    go_enter Try.func46, Try.ntmps46
    go_wp2_with fail
    generalize w.alloc (.cells #[.int .i64 0, .int .i64 0, .string ⟨#[]⟩] 61) = w0 at *
    refine NM.out.mono ?_
    rintro e w1 ⟨rfl, hr1, hk1⟩
    have HG1 := Lib.hid (hk1.old HG0.out (fun e => by have := HLT.out; omega))
    have RW1 := RW w1 hr1
    have K1 := Lib.hid (show Kept (· = g) w w1 from (K0.out.mono (fun k _ hk => hk.elim)).trans hk1)
    clear RW NM hr1 hk1 HG0 I1 H0 K0
    go_wp2_with fail
    refine RW1.out.mono ?_
    rintro e w2 ⟨rfl, hr2, hk2⟩
    have HG2 := hk2.old HG1.out (fun e => by have := HLT.out; omega)
    obtain ⟨⟨a0, b0⟩, ⟨a1, b1⟩, ⟨a2, b2⟩, S4, S5⟩ := three_store HG2 (.int .i64 q) (.int .i64 ((c : Int) / 2)) (.string ⟨#[]⟩)
    have HR2 := Lib.hid (hr2.kept S5 (fun e => by have := HLT.out; omega))
    have HK2 := Lib.hid ((K1.out.trans hk2).trans_new S5 (fun k hk e => by omega))
    have H4 := Lib.hid S4
    clear HG2 S4 S5 hr2 hk2 HG1 RW1 K1
    go_wp2_with fail
    refine bodyPost_ret (v := stV ⟨q, (c : Int) / 2, []⟩) (results_cell_row Try.results46 _ _ w.heap.size _ _ _ _ rfl H4.out Try.underlying61 rfl st_info) rfl ?_
    rw [HS.out]
    exact ⟨rfl, HR2.out, HK2.out⟩
end Go.Proofs.Ytpkgjokehgihjaa

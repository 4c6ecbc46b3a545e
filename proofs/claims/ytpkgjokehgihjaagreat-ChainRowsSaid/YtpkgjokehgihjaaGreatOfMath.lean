/- Plain mathematics of Of: loops that stop at an error tell the same; Of and Bytes, there and back. -/
import Derived.Test.YtpkgjokehgihjaaGreatBytesW
import Derived.Test.YtpkgjokehgihjaaGreatCdX
import Derived.Test.YtpkgjokehgihjaaGreatFrame
import Derived.Test.YtpkgjokehgihjaaGreatGen
import Derived.Test.YtpkgjokehgihjaaGreatMarkMath
import Derived.Test.YtpkgjokehgihjaaGreatOwnL
import Derived.Test.YtpkgjokehgihjaaGreatPtX
import Derived.Test.YtpkgjokehgihjaaGreatRightW
import Derived.Test.YtpkgjokehgihjaaGreatRows
import Derived.Test.YtpkgjokehgihjaaGreatShelf
import Derived.Test.YtpkgjokehgihjaaGreatSigAt
import Derived.Test.YtpkgjokehgihjaaGreatSigOfW
import Derived.Test.YtpkgjokehgihjaaGreatSignAW
import Derived.Test.YtpkgjokehgihjaaGreatSignMath
import Derived.BigQuiet
import Derived.BigRegion
import Derived.Deep.CutBlock
import Derived.Deep.DeepCutAuto
import Derived.Deep.QuietTactic
import Derived.Deep.RegionLaw
import Derived.IntWalk
import Derived.Laws.BitsAllLaws
import Derived.Laws.Rows
import Derived.Laws.Tables
import Derived.Lib.Hide
import Derived.Maps.OwnSet
import Derived.Maps.Views
import Derived.Outline
import Derived.StillTailTactics
import Derived.WalkKit
import Derived.WalkLawsBesides
import Derived.WalkSpells
set_option linter.unusedVariables false
namespace Go.Proofs.YtpkgjokehgihjaaGreat
open Go.RowKit

theorem nextC_err (s : RS) (h : s.ok) (he : s.e ≠ 0) : (nextC s).2 = s := by
  unfold nextC rCount
  rw [rNum_of_err s h he, if_neg (by show ¬ (4294967295 : Int) < 0; omega), if_pos he]
theorem nextM_err (s : RS) (he : s.e ≠ 0) : (nextM s).2 = s := by
  unfold nextM
  rw [rRaw_err s 32 he]
theorem itL_err {α : Type} (next : RS → α × RS) (s : RS) (h : (next s).2 = s) (k : Nat) : ∀ acc : List α, (itL next k acc s).2 = s := by
  induction k with
  | zero => intro acc; rfl
  | succ k ih => intro acc; unfold itL; rw [h]; exact ih _
theorem rEnd_e (s : RS) (he : (rEnd s).e = 0) : s.e = 0 := by
  by_cases h0 : s.e = 0
  · exact h0
  · unfold rEnd at he
    split at he
    · unfold rFail at he
      rw [if_neg h0] at he
      exact absurd he h0
    · exact he
theorem rEnd_l (s : RS) (he : (rEnd s).e = 0) : s.l = [] := by
  by_cases h0 : s.l = []
  · exact h0
  · unfold rEnd at he
    rw [if_pos h0] at he
    exact absurd he (rFail_e s 4 (by decide))
theorem rNum_nonneg (s : RS) (h : s.ok) (he : (rNum s).2.e = 0) : 0 ≤ (rNum s).1 := by
  obtain ⟨q, _, hq, _⟩ := rNum_split s h he
  omega
theorem ofTail_of {B M : Nat} {s t u : RS} {W : List Int} {ms : List Txt} (h1 : (itL nextC (nBlk M B) [] s).2 = t) (h2 : t.e = 0 → (itL nextC (nBlk M B) [] s).1 = W) (h3 : (itL nextM (nBlk M B) [] t).2 = u) (h4 : u.e = 0 → (itL nextM (nBlk M B) [] t).1 = ms) :
    ofTail B M s = if (rEnd u).e ≠ 0 then ofZ (rEnd u).e else ⟨0, B, M, W, ms⟩ := by
  rw [ofTail_eq, h1, h3]
  by_cases he : (rEnd u).e = 0
  · have hu := rEnd_e u he
    have ht : t.e = 0 := by
      by_cases h : t.e = 0
      · exact h
      · have := itL_err nextM t (nextM_err t h) (nBlk M B) []
        rw [h3] at this
        rw [this] at hu
        exact hu
    rw [if_neg (fun h => h he), if_neg (fun h => h he), h2 ht, h4 hu]
  · rw [if_pos he, if_pos he]
/-- What is read is what is made. -/
theorem nextC_back (s : RS) (hs : s.ok) (he : (nextC s).2.e = 0) : ∃ q : Nat, (nextC s).1 = (q : Int) ∧ q ≤ 4294967295 ∧ s.l = nb q ++ (nextC s).2.l := by
  unfold nextC at he ⊢
  rcases rCount_cases s 4294967295 hs with ⟨_, h2⟩ | ⟨h1, h2, h3⟩
  · exact absurd he h2
  · obtain ⟨q, hq, hv, hsl⟩ := rNum_split s hs (by rw [← h2]; exact he)
    refine ⟨q, by rw [h2, hv], ?_, by rw [h2]; exact hsl⟩
    omega
theorem nextM_back (s : RS) (he : (nextM s).2.e = 0) : (nextM s).1.length = 32 ∧ s.l = (nextM s).1 ++ (nextM s).2.l := by
  unfold nextM at he ⊢
  by_cases h0 : s.e = 0
  · by_cases hl : (s.l.length : Int) < 32
    · rw [rRaw_long s 32 (by decide) hl] at he
      exact absurd he (rFail_e s 3 (by decide))
    · have := rRaw_all s 32 h0 (by omega)
      rw [show ((32 : Nat) : Int) = 32 from rfl] at this
      rw [this]
      exact ⟨by rw [List.length_take]; omega, (List.take_append_drop 32 s.l).symm⟩
  · rw [rRaw_err s 32 h0] at he; exact absurd he h0
theorem itL_back {α : Type} {next : RS → α × RS} {E : α → Txt} {Q : α → Prop} (hb : ∀ s : RS, s.ok → (next s).2.e = 0 → Q (next s).1 ∧ s.l = E (next s).1 ++ (next s).2.l) (hok : ∀ s : RS, s.ok → (next s).2.ok) (herr : ∀ s : RS, s.ok → s.e ≠ 0 → (next s).2 = s) (k : Nat) :
    ∀ (acc : List α) (s : RS), s.ok → (itL next k acc s).2.e = 0 → ∃ ys, (itL next k acc s).1 = acc ++ ys ∧ ys.length = k ∧ (∀ y ∈ ys, Q y) ∧ s.l = (ys.map E).flatten ++ (itL next k acc s).2.l := by
  induction k with
  | zero => intro acc s _ _; exact ⟨[], by simp [itL], rfl, by simp, by simp [itL]⟩
  | succ k ih =>
    intro acc s hs he
    unfold itL at he ⊢
    have h0 : (next s).2.e = 0 := by
      by_cases h : (next s).2.e = 0
      · exact h
      · rw [itL_err next (next s).2 (herr _ (hok s hs) h)] at he
        exact absurd he h
    obtain ⟨q1, q2⟩ := hb s hs h0
    obtain ⟨ys, e1, e2, e3, e4⟩ := ih (acc ++ [(next s).1]) (next s).2 (hok s hs) he
    refine ⟨(next s).1 :: ys, by rw [e1]; simp, by simp [e2], fun y hy => ?_, ?_⟩
    · rcases List.mem_cons.1 hy with rfl | hy
      · exact q1
      · exact e3 y hy
    · rw [List.map_cons, List.flatten_cons, List.append_assoc, ← e4]; exact q2
theorem itL_fore {α : Type} {next : RS → α × RS} {E : α → Txt} (xs : List α) : ∀ (acc : List α) (t : Txt), (∀ x ∈ xs, ∀ t : Txt, next ⟨E x ++ t, 0⟩ = (x, ⟨t, 0⟩)) → itL next xs.length acc ⟨(xs.map E).flatten ++ t, 0⟩ = (acc ++ xs, ⟨t, 0⟩) := by
  induction xs with
  | nil => intro acc t _; simp [itL]
  | cons x xs ih =>
    intro acc t h
    rw [List.length_cons]
    unfold itL
    rw [List.map_cons, List.flatten_cons, List.append_assoc, h x (by simp)]
    rw [ih _ _ (fun y hy => h y (by simp [hy]))]
    simp
theorem nextC_fore (x : Int) (h : 0 ≤ x ∧ x ≤ 4294967295) (t : Txt) : nextC ⟨nbZ x ++ t, 0⟩ = (x, ⟨t, 0⟩) := by
  obtain ⟨q, rfl⟩ : ∃ q : Nat, x = (q : Int) := ⟨x.toNat, by omega⟩
  unfold nextC rCount nbZ
  rw [Int.toNat_natCast, rNum_nb q t (by omega), if_neg (by show ¬ (4294967295 : Int) < (q : Int); omega), if_neg (by simp)]
theorem nextM_fore (m : Txt) (h : m.length = 32) (t : Txt) : nextM ⟨m ++ t, 0⟩ = (m, ⟨t, 0⟩) := by
  unfold nextM
  have := rRaw_all ⟨m ++ t, 0⟩ 32 rfl (by rw [List.length_append]; omega)
  rw [show ((32 : Nat) : Int) = 32 from rfl] at this
  rw [this]
  rw [show (32 : Nat) = m.length from h.symm, List.take_left', List.drop_left'] <;> rfl
/-- Of of Bytes. -/
theorem ofS_bytes {B M : Nat} {ws : List Int} {ms : List Txt} (h : RightIs B M ws ms B M) : ofS (bytesS B M ws ms) = ⟨0, B, M, ws, ms⟩ := by
  have hb1 := h.b1
  have hb2 := h.b2
  have hn2 := h.n2
  unfold ofS bytesS
  rw [List.append_assoc, List.append_assoc, rNum_nb B _ (by omega)]
  dsimp only
  rw [rNum_nb M _ (by omega)]
  dsimp only
  unfold ofHead
  rw [if_neg (by simp), if_pos ⟨(okB_iff _).2 (by omega), (okN_iff _).2 (by omega)⟩, Int.toNat_natCast, Int.toNat_natCast, ofTail_eq, ← h.lw, itL_fore ws [] _ (fun x hx t => nextC_fore x (h.w x hx) t)]
  dsimp only
  have e2 := itL_fore (next := nextM) (E := id) ms [] [] (fun x hx t => nextM_fore x (h.m x hx) t)
  rw [List.map_id, List.append_nil] at e2
  rw [h.lw, ← h.lm, e2]
  simp [rEnd]
/-- Bytes of Of. -/
theorem ofS_back (S : Txt) (h : (ofS S).e = 0) : ∃ B M ws ms, ofS S = ⟨0, B, M, ws, ms⟩ ∧ RightIs B M ws ms B M ∧ rightS B M ws ms = true ∧ bytesS B M ws ms = S := by
  have hs0 : RS.ok ⟨S, 0⟩ := .inl rfl
  have ok1 := rNum_ok ⟨S, 0⟩ hs0
  have ok2 := rNum_ok (rNum ⟨S, 0⟩).2 ok1
  unfold ofS at h ⊢
  unfold ofHead at h ⊢
  by_cases he : (rNum (rNum ⟨S, 0⟩).2).2.e = 0
  · rw [if_neg (fun k => k he)] at h ⊢
    by_cases hbn : okB (rNum ⟨S, 0⟩).1 = true ∧ okN (rNum (rNum ⟨S, 0⟩).2).1 = true
    · rw [if_pos hbn] at h ⊢
      obtain ⟨c, hc, hcv, hcl⟩ := rNum_split _ ok1 he
      have he1 : (rNum ⟨S, 0⟩).2.e = 0 := by
        by_cases k : (rNum ⟨S, 0⟩).2.e = 0
        · exact k
        · rw [rNum_of_err _ ok1 k] at he; exact absurd he k
      obtain ⟨a, ha, hav, hal⟩ := rNum_split _ hs0 he1
      rw [hav, hcv] at hbn h ⊢
      rw [Int.toNat_natCast, Int.toNat_natCast] at h ⊢
      rw [okB_iff, okN_iff] at hbn
      rw [ofTail_eq] at h ⊢
      have hq := (nBlk_num c a (by omega) (by omega) (by omega)).2.2
      obtain ⟨N, hN⟩ : ∃ N, N = nBlk c a := ⟨_, rfl⟩
      rw [← hN] at h hq ⊢
      obtain ⟨s2, hs2⟩ : ∃ s2, s2 = (rNum (rNum ⟨S, 0⟩).2).2 := ⟨_, rfl⟩
      rw [← hs2] at h hcl ok2 he ⊢
      by_cases hend : (rEnd (itL nextM N [] (itL nextC N [] s2).2).2).e = 0
      · rw [if_neg (fun k => k hend)] at h ⊢
        have hu := rEnd_e _ hend
        have hul := rEnd_l _ hend
        have okc := itL_ok nextC (fun s hs => rCount_ok s _ hs) N [] s2 ok2
        have ht : (itL nextC N [] s2).2.e = 0 := by
          by_cases k : (itL nextC N [] s2).2.e = 0
          · exact k
          · rw [itL_err nextM _ (nextM_err _ k)] at hu; exact hu
        obtain ⟨ws, w1, w2, w3, w4⟩ := itL_back (next := nextC) (E := nbZ) (Q := fun x : Int => 0 ≤ x ∧ x ≤ 4294967295) (fun s hs k => by obtain ⟨q, q1, q2, q3⟩ := nextC_back s hs k; rw [q1]; exact ⟨⟨by omega, by omega⟩, by unfold nbZ; rw [Int.toNat_natCast]; exact q3⟩) (fun s hs => rCount_ok s _ hs) nextC_err N [] s2 ok2 ht
        obtain ⟨ms, m1, m2, m3, m4⟩ := itL_back (next := nextM) (E := id) (Q := fun x : Txt => x.length = 32) (fun s hs k => nextM_back s k) (fun s hs => rRaw_ok s _ hs) (fun s _ k => nextM_err s k) N [] (itL nextC N [] s2).2 okc hu
        rw [List.nil_append] at w1 m1
        rw [w1, m1]
        have hR : RightIs (a : Int) (c : Int) ws ms a c := ⟨rfl, rfl, by omega, by omega, by omega, w3, m3, by rw [w2, hN], by rw [m2, hN], by rw [← hN]; exact hq⟩
        refine ⟨a, c, ws, ms, rfl, hR, ?_, ?_⟩
        · unfold rightS
          rw [Int.toNat_natCast, Int.toNat_natCast, decide_eq_true hR.lw, decide_eq_true hR.lm, (okB_iff _).2 (by omega), (okN_iff _).2 (by omega)]
          simp only [Bool.and_true, Bool.true_and, Bool.and_eq_true, List.all_eq_true]
          exact ⟨fun x hx => decide_eq_true (w3 x hx), fun x hx => decide_eq_true (m3 x hx)⟩
        · have hm4 : (itL nextC N [] s2).2.l = ms.flatten := by
            rw [m4, hul, List.map_id, List.append_nil]
          rw [hm4] at w4
          rw [w4] at hcl
          rw [hcl] at hal
          unfold bytesS
          rw [List.append_assoc, List.append_assoc]
          exact hal.symm
      · rw [if_pos hend] at h; exact absurd h hend
    · rw [if_neg hbn] at h; exact absurd h (by decide)
  · rw [if_pos he] at h; exact absurd h he
theorem ofS_len (S : Txt) : (ofS S).ws.length ≤ 40000 ∧ (ofS S).ms.length ≤ 40000 := by
  by_cases h : (ofS S).e = 0
  · obtain ⟨B, M, ws, ms, e, hR, _⟩ := ofS_back S h
    rw [e]
    have h1 := hR.lw
    have h2 := hR.lm
    have h3 := hR.q
    exact ⟨by show ws.length ≤ _; omega, by show ms.length ≤ _; omega⟩
  · unfold ofS at h ⊢
    unfold ofHead at h ⊢
    split
    · exact ⟨by show 0 ≤ _; omega, by show 0 ≤ _; omega⟩
    · split
      · rename_i h1 h2
        rw [if_neg h1, if_pos h2] at h
        rw [ofTail_eq] at h ⊢
        split
        · exact ⟨by show 0 ≤ _; omega, by show 0 ≤ _; omega⟩
        · rename_i h3
          rw [if_neg h3] at h
          exact absurd rfl h
      · exact ⟨by show 0 ≤ _; omega, by show 0 ≤ _; omega⟩
end Go.Proofs.YtpkgjokehgihjaaGreat

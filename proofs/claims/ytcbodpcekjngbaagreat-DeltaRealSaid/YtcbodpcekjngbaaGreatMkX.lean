/- Several texts in one: BackMath, StepsEqW, SentW. -/
import Derived.Test.YtcbodpcekjngbaaGreatDelX
import Derived.Test.YtcbodpcekjngbaaGreatGen
import Derived.Test.YtcbodpcekjngbaaGreatMarkMath
import Derived.Test.YtcbodpcekjngbaaGreatRollMath
import Derived.Test.YtcbodpcekjngbaaGreatSignMath
import Derived.Test.YtcbodpcekjngbaaGreatFrame
import Derived.Test.YtcbodpcekjngbaaGreatOwnL
import Derived.Test.YtcbodpcekjngbaaGreatProg
import Derived.Test.YtcbodpcekjngbaaGreatRows
import Derived.BigQuiet
import Derived.Deep.QuietTactic
import Derived.IntWalk
import Derived.Laws.Rows
import Derived.Laws.Tables
import Derived.Lib.Hide
import Derived.Outline
import Derived.WalkKit
import Derived.WalkLawsBesides
import Derived.WalkSpells
import Derived.OpenShut
import Derived.ProofKit
import Derived.ShutString
import Derived.SizedLaws
import Derived.SliceStrings
/- Plain mathematics: steps that make a text are no more than its bytes. -/
set_option linter.unusedVariables false
namespace Go.Proofs.YtcbodpcekjngbaaGreat
open Go.RowKit

theorem mk_bound' {x : DSt} (h : stS x = true) : 1 ≤ mkS x ∧ mkS x ≤ 524288 := by
  unfold stS at h; unfold mkS
  split at h
  · rename_i c; have := of_decide_eq_true h; have : 0 < x.txt.length := List.length_pos_iff.2 c; omega
  · rename_i c; have := of_decide_eq_true h; simp at c; rw [c]; simp; omega
theorem good_len {n : Nat} : ∀ (l : List DSt), goodS n l → (l.length : Int) ≤ (l.map mkS).sum := by
  intro l
  induction l with
  | nil => intro _; simp
  | cons x l ih =>
    intro h
    have h1 := ih (fun y hy => h y (by simp [hy]))
    have h2 := (mk_bound' (h x (by simp)).1).1
    rw [List.map_cons, List.sum_cons, List.length_cons]; omega
theorem BackS.len {basis s : Txt} {l : List DSt} (h : BackS basis s l) : l.length ≤ s.length := by
  have h1 := good_len l h.good
  rw [sum_good l h.good, h.out] at h1
  omega
theorem dtake_len (l : List DSt) (a n : Int) : (takeS l a n).length ≤ l.length + 1 := by
  rcases List.eq_nil_or_concat l with rfl | ⟨m, x, rfl⟩
  · rw [take_nil]; simp
  · rw [List.concat_eq_append, take_snoc]
    split <;> simp
theorem gather_len (l : List DSt) (s : Txt) : (gatherS l s).length ≤ l.length + s.length := by
  unfold gatherS
  have := cutS_le 4096 (by decide) s
  rw [List.length_append, List.length_map]; omega
theorem srch_len (mt : Txt → Int → Int) (B : Nat) (hB : 0 < B) (s : Txt) : ∀ (f at' fr : Nat) (wanted : Int) (l : List DSt), fr ≤ at' → fr ≤ s.length → l.length ≤ fr →
    (srchS mt B s f at' fr wanted l).1.length ≤ (srchS mt B s f at' fr wanted l).2.1 ∧ (srchS mt B s f at' fr wanted l).2.1 ≤ s.length := by
  intro f
  induction f with
  | zero => intro at' fr wanted l h1 h2 h3; exact ⟨h3, h2⟩
  | succ f ih =>
    intro at' fr wanted l h1 h2 h3
    by_cases hin : at' + B ≤ s.length
    · by_cases hneg : mt (win s B at') wanted < 0
      · rw [srch_no _ _ _ _ _ _ _ _ hin hneg]; exact ih _ _ _ _ (by omega) h2 h3
      · rw [srch_yes _ _ _ _ _ _ _ _ _ hin rfl hneg]
        have a1 := dtake_len (gatherS l (segS s fr at')) (mt (win s B at') wanted * B) B
        have a2 := gather_len l (segS s fr at')
        have a3 := seg_len s fr at' (by omega)
        exact ih _ _ _ _ (Nat.le_refl _) hin (by omega)
    · rw [srch_end _ _ _ _ _ _ _ _ hin]; exact ⟨h3, h2⟩
theorem steps_len (mt : Txt → Int → Int) (T : Txt → Bool) (M B : Nat) (hB : 0 < B) (s : Txt) : (stepsS mt T M B s).length ≤ s.length + 1 := by
  obtain ⟨h1, h2⟩ := srch_len mt B hB s (s.length + 1) 0 0 0 [] (Nat.le_refl _) (Nat.zero_le _) (Nat.le_refl _)
  unfold stepsS restS
  generalize (srchS mt B s (s.length + 1) 0 0 0 []).1 = l at *
  generalize (srchS mt B s (s.length + 1) 0 0 0 []).2.1 = fr at *
  split
  · have a1 := dtake_len (gatherS l (segS s fr (s.length - M % B))) ((M - M % B : Nat) : Int) ((M % B : Nat) : Int)
    have a2 := gather_len l (segS s fr (s.length - M % B))
    have a3 := seg_len s fr (s.length - M % B) (by omega)
    omega
  · have a2 := gather_len l (s.drop fr)
    rw [List.length_drop] at a2
    omega
end Go.Proofs.YtcbodpcekjngbaaGreat
/- The walk of the document's Steps: two lists of the same steps are one. -/
set_option linter.unusedVariables false
namespace Go.Proofs.YtcbodpcekjngbaaGreat
open Go.RowKit

set_option maxRecDepth 100000 in
set_option maxHeartbeats 1000000 in
theorem stepsEq_any (N1 N2 : Nat → Prop) (v1 v2 : Value) (l : List DSt) (w : World) (h1 : RowS N1 w v1 l) (h2 : RowS N2 w v2 l) (hl : l.length ≤ 2000000) :
    Calls Tryz.prog 11 #[v1, v2] w fun e w' => e = .returned (.bool true) ∧ Below w.heap.size w w' := by
  obtain ⟨a1, c1, rfl, hc1⟩ := h1
  obtain ⟨a2, c2, rfl, hc2⟩ := h2
  have HC1 := Lib.hid hc1; clear hc1
  have HC2 := Lib.hid hc2; clear hc2
  have q0 : ((l.length : Int) != (l.length : Int)) = false := by simp
  go_enter Tryz.func11, Tryz.ntmps11
  go_wp2
  go_loopw [5] (fun i wr => ∃ k : Nat, k ≤ l.length ∧ i = .int .i64 k ∧ Below w.heap.size w wr) (fun i _ => l.length - (intOf i).toNat)
  case atStart => exact ⟨0, by omega, rfl, Below.refl _ _⟩
  case round =>
    obtain ⟨k, hk, rfl, hbel⟩ := hrel
    have HB := Lib.hid hbel; clear hbel
    by_cases hlt : k < l.length
    · obtain ⟨g1, o1, rfl, _, hs1⟩ := HC1.out k hlt
      obtain ⟨g2, o2, rfl, _, hs2⟩ := HC2.out k hlt
      have hs1' := hs1.new HB.out
      have hs2' := hs2.new HB.out
      clear hs1 hs2
      generalize l[k] = x at *
      obtain ⟨p, m, t⟩ := x
      obtain ⟨e0, e1, e2⟩ := hs1'
      obtain ⟨f0, f1, f2⟩ := hs2'
      dsimp only at e0 e1 e2 f0 f1 f2
      have i1 : (k : Int) < (l.length : Int) := by omega
      have i0 : (0 : Int) ≤ (k : Int) := by omega
      go_wp2_with fail
      go_quiet (fail)
      have HBQ := Lib.hid (HB.out.trans ((Below_drewN (Below.refl wr.heap.size wr) nq).mono HB.out.size))
      generalize wr.drewN nq = w3 at *
      go_wp2_with fail
      go_roundw
      case rel => exact ⟨k + 1, by omega, by go_num, HBQ.out⟩
      case measure => simp [intOf]; omega
    · obtain rfl : k = l.length := by omega
      have i1 : ¬ (l.length : Int) < (l.length : Int) := by omega
      go_wp2_with fail
      go_ret
      exact ⟨rfl, HB.out⟩
end Go.Proofs.YtcbodpcekjngbaaGreat
/- Walks of the law's cut and of Sent. -/
set_option linter.unusedVariables false
namespace Go.Proofs.YtcbodpcekjngbaaGreat
open Go.RowKit

set_option maxRecDepth 100000 in
set_option maxHeartbeats 1000000 in
theorem cutD_any (s : List UInt8) (n : Nat) (w : World) (hn : n ≤ 1000000) (hl : s.length ≤ 140737488351232) :
    Calls Tryz.prog 6 #[.string ⟨s.toArray⟩, .int .i64 n] w fun e w' => e = .returned (.string ⟨(s.take n).toArray⟩) ∧ w = w' := by
  have L := Lib.hid (show (⟨s.toArray⟩ : ByteArray).size = s.length from rfl)
  by_cases h : n < s.length
  · have E := take_toArray s n
    go_enter Tryz.func6, Tryz.ntmps6
    go_wp2
    go_ret
    exact ⟨rfl, rfl⟩
  · have E := Lib.hid (show s.take n = s from List.take_of_length_le (by omega))
    go_enter Tryz.func6, Tryz.ntmps6
    go_wp2
    go_ret
    rw [E.out]
    exact ⟨rfl, rfl⟩

theorem sent_take_succ (l : List DSt) (k : Nat) (hk : k < l.length) : sentS (l.take (k + 1)) = sentS (l.take k) + l[k].txt.length := by
  rw [List.take_add_one, List.getElem?_eq_getElem hk, Option.toList, sent_append, sent_one]
theorem sent_take_le (l : List DSt) (k : Nat) : sentS (l.take k) ≤ sentS l := by
  have := sent_append (l.take k) (l.drop k)
  rw [List.take_append_drop] at this
  omega
end Go.Proofs.YtcbodpcekjngbaaGreat

/- A region that draws its order whose head reads and calls what may make memory, and whose tail stands in one forced order: the head walked once, then the tail as it stands. Of no program. -/
import Derived.Test.YtamiacmnobklaaaDoorGen
import Derived.Test.YtamiacmnobklaaaDoorQuietBelow
import Derived.Test.YtamiacmnobklaaaDoorQuietTail
set_option linter.unusedVariables false
namespace Go.Proofs.YtamiacmnobklaaaDoor
open Go.RowKit
section
variable {P : Program}
theorem wp_region_below_tail {id : Nat} {Q : Exit → Act → World → Prop} {a : Act} {w : World} {o : Oper} {l : List Oper} {v : Value} (n : Nat) (hm : P.follows .mixedOrders = true) (hB : quietTailB .any (o :: l).toArray (n + 1) = true)
    (hQ : ∀ c a w, Q (.panic c) (a.put o.dst v) w → Q (.panic c) a w) (hy : Yields P (o :: l).toArray o v a)
    (h : wpQuiet P (o :: l).toArray (fun w' => ∃ p : BelowOf w, w' = p.w) (fun a' => ∀ w', (∃ p : BelowOf w, w' = p.w) → wpList P (o :: l).toArray Q (l.drop n) a' w') (l.take n) (a.put o.dst v)) : (Code.region id (o :: l).toArray true).wp P Q a w := by
  simp only [quietTailB, Bool.and_eq_true, decide_eq_true_eq] at hB
  obtain ⟨⟨⟨⟨⟨⟨⟨hsel, _⟩, hn⟩, hs⟩, hc⟩, hf⟩, hr⟩, hlex⟩ := hB
  have hnl : n < l.length := by simpa using hn
  have ht : (l.take n).length = n := by rw [List.length_take]; omega
  have hd : (l.drop n).length = (o :: l).toArray.size - (n + 1) := by rw [List.length_drop, List.size_toArray, List.length_cons]; omega
  have inv0 : HeadInv .any (o :: l).toArray (n + 1) (Array.replicate (o :: l).toArray.size false) := by
    refine ⟨by simp, fun j oj _ hj => ?_, fun t _ hj => getD_in (by simpa using hj) (getD_replicate_false _ _)⟩
    rw [getD_replicate_false] at hj
    cases hj
  have inv := inv0.set (by simpa using hr) (Nat.succ_pos n)
  have z : ((Array.replicate (o :: l).toArray.size false).setIfInBounds 0 true).getD 0 false = true := by simp
  have H := anyHead_lex (g := (o :: l).toArray.size - (n + 1)) hsel hs hc hn (l.take n) 1 _ _ (fun j hj => by
    rw [ht] at hj
    rw [List.getElem?_take_of_lt hj, Nat.add_comm 1 j]
    simp) (by rw [ht, Nat.add_comm]) inv z (by rw [ht]; exact hlex) h
  have R := anyHead_any (C := fun w' => ∃ p : BelowOf w, w' = p.w) (Q' := Q) (g := (o :: l).toArray.size - (n + 1)) (fun seen a' w' hw' hL => by
    have := wpAny_of_seq (md := .any) (Q' := Q) (l.drop n) (n + 1) seen a' w' (fun j => by rw [List.getElem?_drop, show n + 1 + j = (n + j) + 1 by omega]; simp) (by rw [hd]; exact hL.1) (hL.2 w' hw')
    rwa [hd] at this) _ _ _ _ (show ∃ p : BelowOf w, w.drew = p.w from ⟨⟨w.drew, Below_drew (Below.refl _ _)⟩, rfl⟩) H
  refine wp_region_any hm ?_
  have e : (o :: l).toArray.size = ((l.take n).length + ((o :: l).toArray.size - (n + 1))) + 1 := by
    rw [ht, List.size_toArray, List.length_cons]; omega
  have T := wpAny_take (md := .any) (oi := o) (by simp) hsel hf hr hQ hy R
  rw [← e] at T
  exact T
end
end Go.Proofs.YtamiacmnobklaaaDoor

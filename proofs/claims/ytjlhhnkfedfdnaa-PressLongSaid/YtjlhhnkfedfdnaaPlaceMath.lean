/- Plain mathematics of chains of places: what the chains hold, and that going along one finds the longest copy. Of no program. -/
import Derived.Test.YtjlhhnkfedfdnaaCodeMath
import Derived.Test.YtjlhhnkfedfdnaaMarkMath
import Derived.Test.YtjlhhnkfedfdnaaPressMath
import Derived.Deep.Draws
import Derived.Laws.Bits128
import Derived.Laws.IdiomStrings
import Derived.Lib.AppendStr
import Derived.Lib.Hide
import Derived.WalkKit
set_option linter.unusedVariables false
namespace Go.Proofs.Ytjlhhnkfedfdnaa
open Go.RowKit

/-- The first bytes at a place, as a number. -/
def wordOf (s : Txt) (p : Nat) : Nat → Nat
  | 0 => 0
  | i + 1 => wordOf s p i * 256 + (s.getD (p + i) 0).toNat
theorem wordOf_lt (s : Txt) (p : Nat) : ∀ i, wordOf s p i < 256 ^ i
  | 0 => by simp [wordOf]
  | i + 1 => by
    have h := wordOf_lt s p i
    have hb := (s.getD (p + i) 0).toNat_lt
    show wordOf s p i * 256 + (s.getD (p + i) 0).toNat < 256 ^ (i + 1)
    rw [Nat.pow_succ]
    omega
theorem wordOf_eq (s : Txt) (p q : Nat) : ∀ i, (∀ k, k < i → s[p + k]? = s[q + k]?) → wordOf s p i = wordOf s q i
  | 0, _ => rfl
  | i + 1, h => by
    show wordOf s p i * 256 + (s.getD (p + i) 0).toNat = wordOf s q i * 256 + (s.getD (q + i) 0).toNat
    rw [wordOf_eq s p q i (fun k hk => h k (by omega)), List.getD_eq_getElem?_getD, List.getD_eq_getElem?_getD, h i (by omega)]
/-- The chain's number. -/
def hashS (s : Txt) (p : Nat) : Nat := wordOf s p 4 * 2654435769 % 4294967296 / 524288
theorem hashS_lt (s : Txt) (p : Nat) : hashS s p < 8192 := by unfold hashS; omega
theorem hashS_eq {s : Txt} {p q : Nat} (h : ∀ k, k < 4 → s[p + k]? = s[q + k]?) : hashS s p = hashS s q := by unfold hashS; rw [wordOf_eq s p q 4 h]
/-- Of a chain the last place ahead of one, and 1; 0: none. -/
def lastC (s : Txt) (c : Nat) : Nat → Nat
  | 0 => 0
  | n + 1 => if n + 4 ≤ s.length ∧ hashS s n = c then n + 1 else lastC s c n
theorem lastC_le (s : Txt) (c : Nat) : ∀ n, lastC s c n ≤ n
  | 0 => Nat.le_refl _
  | n + 1 => by
    unfold lastC
    split
    · exact Nat.le_refl _
    · have := lastC_le s c n; omega
theorem lastC_is (s : Txt) (c : Nat) : ∀ n, lastC s c n ≠ 0 → lastC s c n - 1 + 4 ≤ s.length ∧ hashS s (lastC s c n - 1) = c
  | 0, h => absurd rfl h
  | n + 1, h => by
    unfold lastC at h ⊢
    by_cases hc : n + 4 ≤ s.length ∧ hashS s n = c
    · rw [if_pos hc]; exact hc
    · rw [if_neg hc] at h ⊢; exact lastC_is s c n h
theorem lastC_none (s : Txt) (c : Nat) : ∀ n q, lastC s c n ≤ q → q < n → ¬ (q + 4 ≤ s.length ∧ hashS s q = c)
  | 0, q, _, h => by omega
  | n + 1, q, h1, h2 => by
    unfold lastC at h1
    by_cases hc : n + 4 ≤ s.length ∧ hashS s n = c
    · rw [if_pos hc] at h1; omega
    · rw [if_neg hc] at h1
      by_cases e : q = n
      · rw [e]; exact hc
      · exact lastC_none s c n q h1 (by omega)
def upd (f : Nat → Nat) (k v : Nat) : Nat → Nat := fun i => if i = k then v else f i
/-- What the chains hold when so many places were added. -/
structure PlInv (s : Txt) (at' : Nat) (L A : Nat → Nat) : Prop where
  last : ∀ c, c < 8192 → L c = lastC s c at'
  ahead : ∀ p, p < at' → p + 4 ≤ s.length → at' ≤ p + 4096 → A (p % 4096) = lastC s (hashS s p) p
theorem PlInv.start (s : Txt) : PlInv s 0 (fun _ => 0) (fun _ => 0) := ⟨fun _ _ => rfl, fun p h => by omega⟩
theorem PlInv.skip {s : Txt} {at' : Nat} {L A : Nat → Nat} (h : PlInv s at' L A) (hn : ¬ at' + 4 ≤ s.length) : PlInv s (at' + 1) L A := by
  refine ⟨fun c hc => ?_, fun p h1 h2 h3 => h.ahead p (by omega) h2 (by omega)⟩
  have e : lastC s c (at' + 1) = if at' + 4 ≤ s.length ∧ hashS s at' = c then at' + 1 else lastC s c at' := rfl
  rw [e, if_neg (fun x => hn x.1)]
  exact h.last c hc
theorem PlInv.add {s : Txt} {at' : Nat} {L A : Nat → Nat} (h : PlInv s at' L A) (hn : at' + 4 ≤ s.length) : PlInv s (at' + 1) (upd L (hashS s at') (at' + 1)) (upd A (at' % 4096) (L (hashS s at'))) := by
  refine ⟨fun c hc => ?_, fun p h1 h2 h3 => ?_⟩
  · have e : lastC s c (at' + 1) = if at' + 4 ≤ s.length ∧ hashS s at' = c then at' + 1 else lastC s c at' := rfl
    rw [e]
    unfold upd
    by_cases hc2 : c = hashS s at'
    · rw [if_pos hc2, if_pos ⟨hn, hc2.symm⟩]
    · rw [if_neg hc2, if_neg (fun x => hc2 x.2.symm)]
      exact h.last c hc
  · unfold upd
    by_cases e : p = at'
    · rw [e, if_pos rfl]
      exact h.last _ (hashS_lt s at')
    · rw [if_neg (by omega)]
      exact h.ahead p (by omega) h2 (by omega)
/-- The places of the chain from x on, so far back. -/
def PSet (s : Txt) (at' x : Nat) (d : Nat) : Prop := ∃ q, q + d = at' ∧ 1 ≤ d ∧ d ≤ 4096 ∧ x ≤ q ∧ q + 4 ≤ s.length ∧ hashS s q = hashS s at'
theorem PSet.start (s : Txt) (at' d : Nat) : ¬ PSet s at' (lastC s (hashS s at') at') d := by
  rintro ⟨q, h1, h2, h3, h4, h5, h6⟩
  exact lastC_none s _ at' q h4 (by omega) ⟨h5, h6⟩
theorem PSet.next {s : Txt} {at' x : Nat} (hx : x ≠ 0) (hxa : x ≤ at') (h4 : x - 1 + 4 ≤ s.length) (hh : hashS s (x - 1) = hashS s at') (hd : at' - (x - 1) ≤ 4096) (e : Nat) : PSet s at' (lastC s (hashS s at') (x - 1)) e ↔ PSet s at' x e ∨ e = at' - (x - 1) := by
  constructor
  · rintro ⟨q, h1, h2, h3, h4, h5, h6⟩
    by_cases hq : x ≤ q
    · exact .inl ⟨q, h1, h2, h3, hq, h5, h6⟩
    · by_cases hq2 : q = x - 1
      · right; omega
      · exact absurd ⟨h5, h6⟩ (lastC_none s _ (x - 1) q h4 (by omega))
  · rintro (⟨q, h1, h2, h3, h4, h5, h6⟩ | he)
    · have := lastC_le s (hashS s at') (x - 1)
      exact ⟨q, h1, h2, h3, by omega, h5, h6⟩
    · have := lastC_le s (hashS s at') (x - 1)
      exact ⟨x - 1, by omega, by omega, by omega, this, h4, hh⟩
theorem PSet.less {s : Txt} {at' x : Nat} (hx : x ≠ 0) (hxa : x ≤ at') (e : Nat) (h : PSet s at' x e) : e < at' - (x - 1) := by
  obtain ⟨q, h1, h2, h3, h4, h5, h6⟩ := h
  omega
theorem BestIn.best2 {s : Txt} {at' : Nat} {P : Nat → Prop} {c : Nat × Nat} (h : BestIn s at' P c) (hP : ∀ e, P e → 1 ≤ e ∧ e ≤ at' ∧ e ≤ 4096) (hall : ∀ d, 1 ≤ d → d ≤ at' → d ≤ 4096 → 4 ≤ alk s (at' - d) at' → P d ∨ (alk s (at' - d) at' ≤ c.2 ∧ c.1 < d)) : c = Go.Proofs.Ytjlhhnkfedfdnaa.best s at' := by
  have h3c := h.three
  refine Best.uniq ⟨h.none, fun h0 => ?_, fun d h1 h2 h3 => ?_⟩ (best_spec s at')
  · obtain ⟨g1, g2, g3, g4⟩ := h.some h0
    obtain ⟨p1, p2, p3⟩ := hP _ g1
    refine ⟨p1, p2, p3, g2, g3, fun d h1 hlt => ?_⟩
    by_cases h4 : 4 ≤ alk s (at' - d) at'
    · rcases hall d h1 (by omega) (by omega) h4 with h5 | h5
      · exact g4 d h5 hlt
      · omega
    · omega
  · by_cases h4 : 4 ≤ alk s (at' - d) at'
    · rcases hall d h1 h2 h3 h4 with h5 | h5
      · exact h.all d h5
      · exact h5.1
    · omega
/-- What the walk holds: a length of 0 means none. -/
def cOf (b n : Nat) : Nat × Nat := if n = 0 then (0, 3) else (b, n)
structure Goes (s : Txt) (at' x b n : Nat) : Prop where
  xle : x ≤ at'
  xis : x ≠ 0 → x - 1 + 4 ≤ s.length ∧ hashS s (x - 1) = hashS s at'
  nb : n = 0 → b = 0
  nb2 : n ≠ 0 → b ≠ 0
  inn : BestIn s at' (PSet s at' x) (cOf b n)
theorem Goes.start (s : Txt) (at' : Nat) : Goes s at' (lastC s (hashS s at') at') 0 0 := by
  refine ⟨lastC_le _ _ _, fun h => lastC_is _ _ _ h, fun _ => rfl, fun h => absurd rfl h, ?_⟩
  refine ⟨fun _ => rfl, fun h => absurd rfl h, fun d hd => absurd hd (PSet.start s at' d)⟩
theorem Goes.four {s : Txt} {at' x b n : Nat} (h : Goes s at' x b n) (hn : n ≠ 0) : 4 ≤ n ∧ b ≤ at' ∧ b ≤ 4096 ∧ n = alk s (at' - b) at' := by
  have hc : cOf b n = (b, n) := if_neg hn
  have hs := h.inn.some (by rw [hc]; exact h.nb2 hn)
  rw [hc] at hs
  obtain ⟨⟨q, h1, h2, h3, _⟩, h4, h5, _⟩ := hs
  dsimp only at *
  exact ⟨h4, by omega, h3, h5⟩
theorem Goes.most {s : Txt} {at' x b n : Nat} (h : Goes s at' x b n) : n ≤ 259 ∧ at' + n ≤ max s.length at' := by
  by_cases hn : n = 0
  · subst hn; omega
  · obtain ⟨h1, h2, h3, h4⟩ := h.four hn
    have := (alk_spec s (at' - b) at').le
    have := (alk_spec s (at' - b) at').len (by omega)
    omega
/-- One place further along the chain: m bytes stand alike there. -/
theorem Goes.next {s : Txt} {at' x b n : Nat} (h : Goes s at' x b n) (hx : x ≠ 0) (hd : at' - (x - 1) ≤ 4096) :
    (n < alk s (x - 1) at' ∧ 4 ≤ alk s (x - 1) at' → Goes s at' (lastC s (hashS s at') (x - 1)) (at' - (x - 1)) (alk s (x - 1) at')) ∧ (¬ (n < alk s (x - 1) at' ∧ 4 ≤ alk s (x - 1) at') → Goes s at' (lastC s (hashS s at') (x - 1)) b n) := by
  have hxle := h.xle
  obtain ⟨h4, hh⟩ := h.xis hx
  have hl := lastC_le s (hashS s at') (x - 1)
  have hin := h.inn.next (Q := PSet s at' (lastC s (hashS s at') (x - 1))) (d := at' - (x - 1)) (by omega) (fun e he => PSet.less hx hxle e he) (PSet.next hx hxle h4 hh hd)
  have e1 : at' - (at' - (x - 1)) = x - 1 := by omega
  unfold updB at hin
  rw [e1] at hin
  constructor
  · rintro ⟨h5, h6⟩
    have hc : (cOf b n).2 < alk s (x - 1) at' := by unfold cOf; split <;> dsimp only <;> omega
    rw [if_pos hc] at hin
    refine ⟨by omega, fun h0 => lastC_is _ _ _ h0, fun h0 => by omega, fun _ => by omega, ?_⟩
    have e2 : cOf (at' - (x - 1)) (alk s (x - 1) at') = (at' - (x - 1), alk s (x - 1) at') := if_neg (by omega)
    rw [e2]
    exact hin
  · intro h5
    have hc : ¬ (cOf b n).2 < alk s (x - 1) at' := by
      unfold cOf
      split
      · dsimp only; omega
      · rename_i hn; have := (h.four hn).1; dsimp only; omega
    rw [if_neg hc] at hin
    exact ⟨by omega, fun h0 => lastC_is _ _ _ h0, h.nb, h.nb2, hin⟩
theorem Goes.done {s : Txt} {at' x b n : Nat} (h : Goes s at' x b n) (hend : x = 0 ∨ 4096 < at' - (x - 1) ∨ (n ≠ 0 ∧ min 259 (s.length - at') ≤ n)) : cOf b n = best s at' := by
  have hxle := h.xle
  refine h.inn.best2 (fun e he => ?_) (fun d h1 h2 h3 h4 => ?_)
  · obtain ⟨q, g1, g2, g3, _⟩ := he
    exact ⟨g2, by omega, g3⟩
  · have ha := alk_spec s (at' - d) at'
    have hlen := ha.len (by omega)
    have hle := ha.le
    have hh : hashS s (at' - d) = hashS s at' := hashS_eq (fun k hk => ha.eq k (by omega))
    by_cases hq : x ≤ at' - d
    · exact .inl ⟨at' - d, by omega, h1, h3, hq, by omega, hh⟩
    · rcases hend with h5 | h5 | ⟨h5, h6⟩
      · omega
      · omega
      · right
        have hc : cOf b n = (b, n) := if_neg h5
        have hs := h.inn.some (by rw [hc]; exact h.nb2 h5)
        rw [hc] at hs ⊢
        obtain ⟨⟨q, g1, g2, g3, g4, _⟩, _⟩ := hs
        dsimp only at *
        omega
/-- Where fewer bytes than a copy has are left there is none. -/
theorem best_short {s : Txt} {at' : Nat} (h : s.length < at' + 4) : best s at' = (0, 3) := by
  have hb := best_spec s at'
  by_cases h0 : (best s at').1 = 0
  · have := hb.none h0
    exact Prod.ext h0 this
  · have h1 := (best_copy h0).len
    have h2 := (best_copy h0).s1
    omega
/-- What is told: a length of 0 where there is none. -/
def lenB (c : Nat × Nat) : Nat := if c.1 = 0 then 0 else c.2
theorem lenB_cOf {s : Txt} {at' x b n : Nat} (h : Goes s at' x b n) : (cOf b n).1 = b ∧ lenB (cOf b n) = n := by
  unfold cOf lenB
  by_cases hn : n = 0
  · rw [if_pos hn]; exact ⟨(h.nb hn).symm, by rw [if_pos rfl, hn]⟩
  · rw [if_neg hn]; exact ⟨rfl, if_neg (h.nb2 hn)⟩
end Go.Proofs.Ytjlhhnkfedfdnaa

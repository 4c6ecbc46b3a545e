/- Plain mathematics of loosing what was pressed; that it is the text again. Of no program. -/
import Derived.Test.YtjlhhnkfedfdnaaCodeMath
import Derived.Test.YtjlhhnkfedfdnaaMarkMath
import Derived.Test.YtjlhhnkfedfdnaaPressMath
import Derived.Test.YtjlhhnkfedfdnaaReadMath
import Derived.Test.YtjlhhnkfedfdnaaRoundTrip
import Derived.Deep.Draws
import Derived.Laws.Bits128
import Derived.Laws.IdiomStrings
import Derived.Lib.AppendStr
import Derived.Lib.Hide
import Derived.WalkKit
set_option linter.unusedVariables false
namespace Go.Proofs.Ytjlhhnkfedfdnaa
open Go.RowKit

/-- So many bytes more, each from so far back. -/
def copyF : Nat → Nat → Txt → Txt
  | 0, _, b => b
  | n + 1, k, b => copyF n k (b ++ [b.getD (b.length - k) 0])
theorem copyF_len (n k : Nat) : ∀ b : Txt, (copyF n k b).length = b.length + n := by
  induction n with
  | zero => intro b; rfl
  | succ n ih => intro b; show (copyF n k _).length = _; rw [ih, List.length_append, List.length_singleton]; omega
theorem copyF_take {s : Txt} {k : Nat} : ∀ (n m at' : Nat), k ≤ at' → 1 ≤ k → at' + n ≤ s.length → (∀ i, i < n → s[at' - k + i]? = s[at' + i]?) → copyF n k (s.take at') = s.take (at' + n)
  | 0, m, at', _, _, _, _ => rfl
  | n + 1, m, at', h1, h2, h3, h => by
    have e : s.take at' ++ [(s.take at').getD ((s.take at').length - k) 0] = s.take (at' + 1) := by
      have hl : (s.take at').length = at' := by rw [List.length_take]; omega
      rw [hl, List.take_succ_eq_append_getElem (by omega), List.getD_eq_getElem?_getD, List.getElem?_take, if_pos (by omega)]
      have := h 0 (by omega)
      rw [Nat.add_zero, Nat.add_zero] at this
      rw [this, List.getElem?_eq_getElem (by omega)]
      rfl
    show copyF n k (s.take at' ++ [_]) = _
    rw [e, copyF_take n m (at' + 1) (by omega) h2 (by omega) (fun i hi => by
      have := h (i + 1) (by omega)
      rw [show at' + 1 - k + i = at' - k + (i + 1) by omega, show at' + 1 + i = at' + (i + 1) by omega]
      exact this)]
    congr 1
    omega
/-- The reader behind a gathered piece's number; behind a copy's two. -/
def evR (size : Nat) (b : Txt) (q : Int × RS) : RS := if q.2.e = 0 ∧ (q.1 = 0 ∨ ((size - b.length : Nat) : Int) < q.1 / 2) then ⟨[], 5⟩ else q.2
def odR (size : Nat) (b : Txt) (n : Int) (q : Int × RS) : RS := if q.2.e = 0 ∧ ((b.length : Int) < q.1 + 1 ∨ 4096 < q.1 + 1 ∨ 255 < n / 2 ∨ ((size - b.length : Nat) : Int) < n / 2 + 4) then ⟨[], 5⟩ else q.2
/-- Piece by piece, as long as bytes lack. -/
def looseF (size : Nat) : Nat → RS → Txt → RS × Txt
  | 0, r, b => (r, b)
  | f + 1, r, b =>
    if r.e = 0 ∧ b.length < size then
      if (rNum r).1 % 2 = 0 then looseF size f (rRaw (evR size b (rNum r)) ((rNum r).1 / 2)).2 (b ++ (rRaw (evR size b (rNum r)) ((rNum r).1 / 2)).1)
      else looseF size f (odR size b (rNum r).1 (rNum (rNum r).2)) (if (odR size b (rNum r).1 (rNum (rNum r).2)).e = 0 then copyF ((rNum r).1 / 2 + 4).toNat ((rNum (rNum r).2).1 + 1).toNat b else b)
    else (r, b)
theorem looseF_even {size f : Nat} {r : RS} {b : Txt} {n : Int} {q : RS} (h : r.e = 0 ∧ b.length < size) (e : rNum r = (n, q)) (h2 : n % 2 = 0) : looseF size (f + 1) r b = looseF size f (rRaw (evR size b (n, q)) (n / 2)).2 (b ++ (rRaw (evR size b (n, q)) (n / 2)).1) := by
  have s : looseF size (f + 1) r b = if r.e = 0 ∧ b.length < size then
      if (rNum r).1 % 2 = 0 then looseF size f (rRaw (evR size b (rNum r)) ((rNum r).1 / 2)).2 (b ++ (rRaw (evR size b (rNum r)) ((rNum r).1 / 2)).1)
      else looseF size f (odR size b (rNum r).1 (rNum (rNum r).2)) (if (odR size b (rNum r).1 (rNum (rNum r).2)).e = 0 then copyF ((rNum r).1 / 2 + 4).toNat ((rNum (rNum r).2).1 + 1).toNat b else b)
    else (r, b) := rfl
  rw [s, if_pos h, e, if_pos h2]
theorem looseF_odd {size f : Nat} {r : RS} {b : Txt} {n : Int} {q : RS} (h : r.e = 0 ∧ b.length < size) (e : rNum r = (n, q)) (h2 : ¬ n % 2 = 0) : looseF size (f + 1) r b = looseF size f (odR size b n (rNum q)) (if (odR size b n (rNum q)).e = 0 then copyF (n / 2 + 4).toNat ((rNum q).1 + 1).toNat b else b) := by
  have s : looseF size (f + 1) r b = if r.e = 0 ∧ b.length < size then
      if (rNum r).1 % 2 = 0 then looseF size f (rRaw (evR size b (rNum r)) ((rNum r).1 / 2)).2 (b ++ (rRaw (evR size b (rNum r)) ((rNum r).1 / 2)).1)
      else looseF size f (odR size b (rNum r).1 (rNum (rNum r).2)) (if (odR size b (rNum r).1 (rNum (rNum r).2)).e = 0 then copyF ((rNum r).1 / 2 + 4).toNat ((rNum (rNum r).2).1 + 1).toNat b else b)
    else (r, b) := rfl
  rw [s, if_pos h, e, if_neg h2]
/-- What Loose tells. -/
def looseS (s : Txt) : Txt × Int :=
  let c := rCount ⟨s, 0⟩ 1048576
  let x := looseF c.1.toNat (s.length + 1) c.2 []
  if (rEnd x.1).e ≠ 0 then ([], (rEnd x.1).e) else (x.2, 0)
theorem looseF_end (size f : Nat) (r : RS) (b : Txt) (h : ¬ (r.e = 0 ∧ b.length < size)) : looseF size f r b = (r, b) := by
  cases f with
  | zero => rfl
  | succ f => exact if_neg h
theorem loose_plain (size f : Nat) (t rest b : Txt) (ht : t ≠ []) (hb : b.length + t.length ≤ size) (hm : t.length ≤ 1048576) : looseF size (f + 1) ⟨plainS t ++ rest, 0⟩ b = looseF size f ⟨rest, 0⟩ (b ++ t) := by
  have h0 : 0 < t.length := List.length_pos_iff.2 ht
  have e : rNum ⟨plainS t ++ rest, 0⟩ = (((2 * t.length : Nat) : Int), (⟨t ++ rest, 0⟩ : RS)) := by
    unfold plainS
    rw [if_neg ht, List.append_assoc]
    exact rNum_nb _ _ (by omega)
  have ev : evR size b (((2 * t.length : Nat) : Int), (⟨t ++ rest, 0⟩ : RS)) = ⟨t ++ rest, 0⟩ := by
    unfold evR
    rw [if_neg (by dsimp only; omega)]
  rw [looseF_even ⟨rfl, by omega⟩ e (by omega), ev, show ((2 * t.length : Nat) : Int) / 2 = (t.length : Int) by omega, rRaw_all _ _ rfl (by simp)]
  dsimp only
  rw [List.take_left' rfl, List.drop_left' rfl]
theorem loose_copy (size f n k : Nat) (rest b : Txt) (h1 : 1 ≤ k) (h2 : k ≤ b.length) (h3 : k ≤ 4096) (h4 : 4 ≤ n) (h5 : n ≤ 259) (hb : b.length + n ≤ size) : looseF size (f + 1) ⟨copyE n k ++ rest, 0⟩ b = looseF size f ⟨rest, 0⟩ (copyF n k b) := by
  have e : rNum ⟨copyE n k ++ rest, 0⟩ = (((2 * (n - 4) + 1 : Nat) : Int), (⟨nb (k - 1) ++ rest, 0⟩ : RS)) := by
    unfold copyE
    rw [List.append_assoc]
    exact rNum_nb _ _ (by omega)
  have e2 : rNum ⟨nb (k - 1) ++ rest, 0⟩ = (((k - 1 : Nat) : Int), (⟨rest, 0⟩ : RS)) := rNum_nb _ _ (by omega)
  have ev : odR size b ((2 * (n - 4) + 1 : Nat) : Int) (((k - 1 : Nat) : Int), (⟨rest, 0⟩ : RS)) = ⟨rest, 0⟩ := by
    unfold odR
    rw [if_neg (by dsimp only; omega)]
  rw [looseF_odd ⟨rfl, by omega⟩ e (by omega), e2, ev, if_pos rfl, show (((2 * (n - 4) + 1 : Nat) : Int) / 2 + 4).toNat = n by omega, show (((k - 1 : Nat) : Int) + 1).toNat = k by omega]
theorem plain_pos {t : Txt} (h : t ≠ []) : 0 < (plainS t).length := by
  unfold plainS; rw [if_neg h, List.length_append]; have := (nb_length (2 * t.length)).1; omega
theorem copy_pos (n k : Nat) : 0 < (copyE n k).length := by unfold copyE; rw [List.length_append]; have := (nb_length (2 * (n - 4) + 1)).1; omega
theorem loose_enc (s : Txt) (hs : s.length ≤ 1048576) : ∀ (g at' : Nat) (held : Txt) (f : Nat), s.length - at' ≤ g → at' ≤ s.length → held.length ≤ at' → s.take (at' - held.length) ++ held = s.take at' → (encP held (stepsP s at')).length < f →
    looseF s.length f ⟨encP held (stepsP s at'), 0⟩ (s.take (at' - held.length)) = (⟨[], 0⟩, s) := by
  intro g
  induction g with
  | zero =>
    intro at' held f h1 h2 h3 h4 hf
    obtain rfl : at' = s.length := by omega
    rw [stepsP_end (by omega)] at hf ⊢
    rw [List.take_length] at h4
    by_cases ht : held = []
    · subst ht
      show looseF _ _ ⟨plainS [], 0⟩ _ = _
      rw [looseF_end _ _ _ _ (by rintro ⟨_, h⟩; rw [List.length_take] at h; simp at h)]
      simp [plainS]
    · obtain ⟨f, rfl⟩ : ∃ k, f = k + 1 := ⟨f - 1, by omega⟩
      have e : (⟨encP held [], 0⟩ : RS) = ⟨plainS held ++ [], 0⟩ := by rw [List.append_nil]; rfl
      rw [e, loose_plain _ _ _ _ _ ht (by rw [List.length_take]; omega) (by omega), h4]
      exact looseF_end _ _ _ _ (by rintro ⟨_, h⟩; omega)
  | succ g ih =>
    intro at' held f h1 h2 h3 h4 hf
    by_cases hlt : at' < s.length
    · by_cases hb : (best s at').1 = 0
      · rw [stepsP_one hlt hb] at hf ⊢
        have hl : (held ++ [s[at']]).length = held.length + 1 := by simp
        have := ih (at' + 1) (held ++ [s[at']]) f (by omega) (by omega) (by rw [hl]; omega) (by
          rw [hl, Nat.add_sub_add_right, ← List.append_assoc, h4, List.take_succ_eq_append_getElem hlt]) hf
        rw [hl, Nat.add_sub_add_right] at this
        exact this
      · have hc := best_copy hb
        rw [stepsP_copy hlt hb] at hf ⊢
        have hcl := hc.len
        have e0 : encP held (.inr ((best s at').2, (best s at').1) :: stepsP s (at' + (best s at').2)) = plainS held ++ (copyE (best s at').2 (best s at').1 ++ encP [] (stepsP s (at' + (best s at').2))) := by
          rw [← List.append_assoc]; rfl
        rw [e0] at hf ⊢
        have hcp := copy_pos (best s at').2 (best s at').1
        have key : ∀ f, (copyE (best s at').2 (best s at').1).length + (encP [] (stepsP s (at' + (best s at').2))).length < f → looseF s.length f ⟨copyE (best s at').2 (best s at').1 ++ encP [] (stepsP s (at' + (best s at').2)), 0⟩ (s.take at') = (⟨[], 0⟩, s) := by
          intro f hf
          obtain ⟨f, rfl⟩ : ∃ k, f = k + 1 := ⟨f - 1, by omega⟩
          have hta : (s.take at').length = at' := by rw [List.length_take]; omega
          rw [loose_copy _ _ _ _ _ _ hc.b1 (by rw [hta]; exact hc.b2) hc.b3 hc.s1 hc.s2 (by rw [hta]; exact hcl), copyF_take _ 0 _ hc.b2 hc.b1 hcl hc.eq]
          have hs1 := hc.s1
          exact ih (at' + (best s at').2) [] f (by omega) hcl (by simp) (by simp) (by omega)
        by_cases ht : held = []
        · subst ht
          have e1 : plainS [] = [] := rfl
          rw [e1, List.nil_append] at hf ⊢
          rw [List.length_append] at hf
          rw [List.length_nil, Nat.sub_zero]
          exact key f hf
        · have hp := plain_pos ht
          rw [List.length_append, List.length_append] at hf
          obtain ⟨f, rfl⟩ : ∃ k, f = k + 1 := ⟨f - 1, by omega⟩
          rw [loose_plain _ _ _ _ _ ht (by rw [List.length_take]; omega) (by omega), h4]
          exact key f (by omega)
    · exact ih at' held f (by omega) h2 h3 h4 hf
/-- What was pressed comes out again. -/
theorem loose_press (s : Txt) (hs : s.length ≤ 1048576) : looseS (pressS s) = (s, 0) := by
  have e : rNum ⟨pressS s, 0⟩ = ((s.length : Int), (⟨encP [] (stepsP s 0), 0⟩ : RS)) := rNum_nb _ _ (by omega)
  have ec : rCount ⟨pressS s, 0⟩ 1048576 = ((s.length : Int), (⟨encP [] (stepsP s 0), 0⟩ : RS)) := by
    unfold rCount
    rw [e]
    dsimp only
    rw [if_neg (by omega), if_neg (by simp)]
  have h := loose_enc s hs s.length 0 [] ((pressS s).length + 1) (by omega) (by omega) (by simp) (by simp) (by unfold pressS; rw [List.length_append]; omega)
  unfold looseS
  rw [ec]
  dsimp only
  rw [Int.toNat_natCast]
  simp only [List.length_nil, Nat.sub_zero, List.take_zero] at h
  rw [h]
  rfl
/-! ### Wrapped -/
def wrapS (s : Txt) : Txt := if (pressS s).length < s.length then 90 :: pressS s else 82 :: s
def openS : Txt → Txt × Int
  | [] => ([], 3)
  | c :: t => if c = 82 then (t, 0) else if c = 90 then looseS t else ([], 5)
theorem open_wrap (s : Txt) (hs : s.length ≤ 1048576) : openS (wrapS s) = (s, 0) := by
  unfold wrapS
  split
  · show (if (90 : UInt8) = 82 then (pressS s, (0 : Int)) else if (90 : UInt8) = 90 then looseS (pressS s) else ([], 5)) = _
    rw [if_neg (by decide), if_pos rfl, loose_press s hs]
  · rfl
theorem wrap_len (s : Txt) : (wrapS s).length ≤ s.length + 1 := by
  unfold wrapS
  split
  · rw [List.length_cons]; omega
  · rw [List.length_cons]; omega
end Go.Proofs.Ytjlhhnkfedfdnaa

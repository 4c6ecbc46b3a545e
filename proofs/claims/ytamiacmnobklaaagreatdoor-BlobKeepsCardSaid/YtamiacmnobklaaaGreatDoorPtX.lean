/- Several texts in one: Parts, Lists, PartsMath. -/
import Derived.Test.YtamiacmnobklaaaGreatDoorCdX
import Derived.Test.YtamiacmnobklaaaGreatDoorGen
import Derived.Test.YtamiacmnobklaaaGreatDoorOwnL
import Derived.Test.YtamiacmnobklaaaGreatDoorRows
import Derived.BigQuiet
import Derived.Lib.Hide
import Derived.OpenShut
import Derived.ProofKit
import Derived.ShutString
import Derived.SizedLaws
import Derived.SliceStrings
import Derived.WalkKit
import Derived.WalkLawsBesides
import Derived.WalkSpells
import Derived.Test.YtamiacmnobklaaaGreatDoorCodeNumW
import Derived.Test.YtamiacmnobklaaaGreatDoorFrame
import Derived.Test.YtamiacmnobklaaaGreatDoorAwX
/- Lists of numbers and of texts: read. (Written by gen/parts.py.) -/
set_option linter.unusedVariables false
namespace Go.Proofs.YtamiacmnobklaaaGreatDoor
open Go.RowKit

/-! ### Plain mathematics -/
theorem rNum_of_err (s : RS) (h : s.ok) (he : s.e ≠ 0) : rNum s = (0, s) := by
  have hl : s.l = [] := by
    rcases h with h | h
    · exact absurd h he
    · exact h
  have b : rByte s = (0, s) := by unfold rByte; rw [hl]; simp [rFail, he]
  have b1 : (rByte s).1 = ((0 : Nat) : Int) := by rw [b]; rfl
  have b2 : (rByte s).2 = s := by rw [b]
  exact rNumF_err b1 b2 (by rw [← Bool.not_eq_true, rBad_iff]; omega) he
theorem rNum_e (s : RS) (h : s.ok) (he : (rNum s).2.e = 0) : s.e = 0 := by
  by_cases h0 : s.e = 0
  · exact h0
  · rw [rNum_of_err s h h0] at he; exact he
theorem rNum_split (s : RS) (h : s.ok) (he : (rNum s).2.e = 0) : ∃ q : Nat, q ≤ 4611686018427387903 ∧ (rNum s).1 = (q : Int) ∧ s.l = nb q ++ (rNum s).2.l := by
  have h0 := rNum_e s h he
  obtain ⟨l, e⟩ := s
  simp only at h0
  subst h0
  exact rNum_back l he
theorem rCount_cases (s : RS) (most : Int) (h : s.ok) :
    ((rCount s most).1 = 0 ∧ (rCount s most).2.e ≠ 0) ∨ ((rCount s most).2.e = 0 ∧ rCount s most = rNum s ∧ (rNum s).1 ≤ most) := by
  unfold rCount
  split
  · exact .inl ⟨rfl, rFail_e _ _ (by decide)⟩
  · split
    · rename_i h2; exact .inl ⟨rfl, h2⟩
    · rename_i h1 h2
      exact .inr ⟨by simpa using h2, rfl, by omega⟩
theorem rCount_nat (s : RS) (most : Int) (h : s.ok) : ∃ c : Nat, (rCount s most).1 = (c : Int) ∧ c ≤ 4611686018427387903 ∧ ((rCount s most).2.e ≠ 0 → c = 0) := by
  rcases rCount_cases s most h with ⟨h1, h2⟩ | ⟨h1, h2, h3⟩
  · exact ⟨0, h1, by decide, fun _ => rfl⟩
  · rw [h2] at h1 ⊢
    obtain ⟨q, hq, hv, _⟩ := rNum_split s h h1
    exact ⟨q, hv, hq, fun h => absurd h1 h⟩
theorem rNum_less (s : RS) (h : s.ok) (he : (rNum s).2.e = 0) : (rNum s).2.l.length + 1 ≤ s.l.length := by
  obtain ⟨q, _, _, hs⟩ := rNum_split s h he
  have := (nb_length q).1
  rw [hs, List.length_append]
  omega
theorem rCount_less (s : RS) (most : Int) (h : s.ok) (he : (rCount s most).2.e = 0) : (rCount s most).2.l.length + 1 ≤ s.l.length := by
  rcases rCount_cases s most h with ⟨h1, h2⟩ | ⟨h1, h2, h3⟩
  · exact absurd he h2
  · rw [h2] at he ⊢; exact rNum_less s h he
theorem rRaw_e (s : RS) (n : Int) (he : (rRaw s n).2.e = 0) : s.e = 0 ∧ 0 ≤ n ∧ n ≤ s.l.length ∧ rRaw s n = (s.l.take n.toNat, ⟨s.l.drop n.toNat, 0⟩) := by
  unfold rRaw at he ⊢
  by_cases h0 : s.e = 0
  · rw [if_neg (by simp [h0])] at he ⊢
    by_cases h1 : n < 0
    · rw [if_pos h1] at he; exact absurd he (by decide)
    · rw [if_neg h1] at he ⊢
      by_cases h2 : (s.l.length : Int) < n
      · rw [if_pos h2] at he; exact absurd he (by decide)
      · rw [if_neg h2]; exact ⟨h0, by omega, by omega, rfl⟩
  · rw [if_pos h0] at he; exact absurd he h0
theorem rText_less (s : RS) (most : Int) (h : s.ok) (he : (rText s most).2.e = 0) : (rText s most).2.l.length + 1 ≤ s.l.length := by
  unfold rText at he ⊢
  obtain ⟨h0, _, _, hr⟩ := rRaw_e _ _ he
  have := rCount_less s most h h0
  rw [hr]
  simp only [List.length_drop]
  omega

def rLoop {α : Type} (next : RS → α × RS) : Nat → List α → RS → List α × RS
  | 0, acc, s => (acc, s)
  | k + 1, acc, s => if (next s).2.e = 0 then rLoop next k (acc ++ [(next s).1]) (next s).2 else ([], (next s).2)
def rParts {α : Type} (next : RS → α × RS) (s : RS) (most : Int) : List α × RS := rLoop next (rCount s most).1.toNat [] (rCount s most).2
theorem rLoop_ok {α : Type} (next : RS → α × RS) (hn : ∀ s, s.ok → (next s).2.ok) (k : Nat) : ∀ (acc : List α) (s : RS), s.ok → (rLoop next k acc s).2.ok := by
  induction k with
  | zero => intro acc s h; exact h
  | succ k ih =>
    intro acc s h
    unfold rLoop; split
    · exact ih _ _ (hn s h)
    · exact hn s h
theorem rParts_ok {α : Type} (next : RS → α × RS) (hn : ∀ s, s.ok → (next s).2.ok) (s : RS) (most : Int) (h : s.ok) : (rParts next s most).2.ok := rLoop_ok next hn _ _ _ (rCount_ok s most h)

/-- What a call may write that reads on and makes a list: the reader's block, and new ones. -/
abbrev OrNew (g B : Nat) : Nat → Prop := fun k => k = g ∨ B ≤ k






end Go.Proofs.YtamiacmnobklaaaGreatDoor
/- Lists of numbers and of texts: made. (Written by gen/lists.py.) -/
set_option linter.unusedVariables false
namespace Go.Proofs.YtamiacmnobklaaaGreatDoor
open Go.RowKit

/-- A part's bytes and error. -/
def intE (n : Int) : List UInt8 × Int := if n < 0 ∨ 4611686018427387903 < n then ([], 2) else (nb n.toNat, 0)
def textE (l : List UInt8) : List UInt8 × Int := if 1048576 < l.length then ([], 4) else (tb l, 0)
theorem intE_len (n : Int) : (intE n).1.length ≤ 1048586 := by
  unfold intE; split
  · simp
  · have := (nb_length n.toNat).2; simp only; omega
theorem textE_len (l : List UInt8) : (textE l).1.length ≤ 1048586 := by
  unfold textE; split
  · simp
  · have := (nb_length l.length).2; simp only [tb, List.length_append]; omega
/-- The parts' bytes behind others, or the first part's error. -/
def lsE {α : Type} (enc : α → List UInt8 × Int) : List UInt8 → List α → List UInt8 × Int
  | acc, [] => (acc, 0)
  | acc, x :: xs => if (enc x).2 = 0 then lsE enc (acc ++ (enc x).1) xs else ([], (enc x).2)
theorem lsE_at {α : Type} (enc : α → List UInt8 × Int) (acc : List UInt8) (xs : List α) (k : Nat) (h : k < xs.length) :
    lsE enc acc (xs.drop k) = if (enc xs[k]).2 = 0 then lsE enc (acc ++ (enc xs[k]).1) (xs.drop (k + 1)) else ([], (enc xs[k]).2) := by
  rw [List.drop_eq_getElem_cons h]; rfl
def listE {α : Type} (enc : α → List UInt8 × Int) (xs : List α) : List UInt8 × Int := lsE enc (nb xs.length) xs

theorem addInt_any (base : Nat) (n : Int) (v : Value) (l : List UInt8) (w : World) (hl : l.length < 70368740000000) (hb : base ≤ w.heap.size) (hown : Own w base 5 v l) :
    Calls Tryz.prog 132 #[v, .int .i64 n] w fun e w' => ∃ v', e = .returned (.tuple #[v', .int .i64 (intE n).2]) ∧
      ((intE n).2 = 0 → Own w' base 5 v' (l ++ (intE n).1)) ∧ Below base w w' := by
  by_cases h : n < 0 ∨ 4611686018427387903 < n
  · have e1 : intE n = ([], 2) := by unfold intE; rw [if_pos h]
    rw [e1]
    refine (addNum_no n v w h).mono ?_
    rintro e w' ⟨rfl, rfl⟩
    exact ⟨_, rfl, fun h => absurd h (by decide), Below.refl _ _⟩
  · obtain ⟨m, rfl⟩ := Int.eq_ofNat_of_zero_le (show 0 ≤ n by omega)
    have e1 : intE (m : Int) = (nb m, 0) := by unfold intE; rw [if_neg h]; simp
    rw [e1]
    refine (addNum_any base m v l w (by omega) (by omega) hb hown).mono ?_
    rintro e w' ⟨v', rfl, ho, hbl⟩
    exact ⟨_, rfl, fun _ => ho, hbl⟩

theorem addStr_any (base : Nat) (s : List UInt8) (v : Value) (l : List UInt8) (w : World) (hl : l.length < 70368740000000) (hb : base ≤ w.heap.size) (hown : Own w base 5 v l) :
    Calls Tryz.prog 104 #[v, .string ⟨s.toArray⟩] w fun e w' => ∃ v', e = .returned (.tuple #[v', .int .i64 (textE s).2]) ∧
      ((textE s).2 = 0 → Own w' base 5 v' (l ++ (textE s).1)) ∧ Below base w w' := by
  by_cases h : 1048576 < s.length
  · have e1 : textE s = ([], 4) := by unfold textE; rw [if_pos h]
    rw [e1]
    refine (addText_no v s w h).mono ?_
    rintro e w' ⟨rfl, rfl⟩
    exact ⟨_, rfl, fun h => absurd h (by decide), Below.refl _ _⟩
  · have e1 : textE s = (tb s, 0) := by unfold textE; rw [if_neg h]
    rw [e1]
    refine (addText_ok base v l s w hl (by omega) hb hown).mono ?_
    rintro e w' ⟨v', rfl, ho, hbl⟩
    exact ⟨_, rfl, fun _ => ho, hbl⟩











theorem Row.below {α : Type} {enc : α → Value} {w w' : World} {v : Value} {xs : List α} (h : Row enc (· < w.heap.size) w v xs) (hb : Below w.heap.size w w') : Row enc (· < w'.heap.size) w' v xs :=
  (h.kept (Kept.of_below hb) (fun k hk hm => by omega)).mono fun k hk => Nat.lt_of_lt_of_le hk hb.size

end Go.Proofs.YtamiacmnobklaaaGreatDoor
/- Lists that were made are read again; what is read is what would be made. Plain mathematics. -/
set_option linter.unusedVariables false
namespace Go.Proofs.YtamiacmnobklaaaGreatDoor
open Go.RowKit

theorem rNumF_zero (f : Nat) : ∀ (k : Nat) (acc : Int) (s : RS), f + k = 9 → 1 ≤ f → (rNumF f k acc s).2.e ≠ 0 → (rNumF f k acc s).1 = 0 := by
  induction f with
  | zero => intro k acc s _ h; omega
  | succ f ih =>
    intro k acc s hfk _ he
    obtain ⟨r0, r1⟩ := rByte_range s
    obtain ⟨c, hc⟩ := Int.eq_ofNat_of_zero_le r0
    cases hb : rBad k (c : Int) with
    | true => rw [rNumF_bad hc rfl hb]
    | false =>
      by_cases h0 : (rByte s).2.e = 0
      · by_cases hlt : (c : Int) < 128
        · rw [rNumF_end hc rfl hb h0 hlt] at he
          exact absurd h0 he
        · rw [rNumF_go hc rfl hb h0 hlt] at he ⊢
          refine ih _ _ _ (by omega) ?_ he
          have hb' : ¬ ((c ≤ 0 ∧ 0 < k) ∨ (63 < c ∧ k = 8)) := by rw [← rBad_iff, hb]; simp
          omega
      · rw [rNumF_err hc rfl hb h0]
theorem rNum_zero (s : RS) (he : (rNum s).2.e ≠ 0) : (rNum s).1 = 0 := rNumF_zero 9 0 0 s rfl (by decide) he

/-- What 'next' reads is what E would make. -/
def Back {α : Type} (E : α → List UInt8 × Int) (next : RS → α × RS) : Prop := ∀ s : RS, s.ok → (next s).2.e = 0 → (E (next s).1).2 = 0 ∧ s.l = (E (next s).1).1 ++ (next s).2.l

theorem rLoop_back {α : Type} {E : α → List UInt8 × Int} {next : RS → α × RS} (hb : Back E next) (hok : ∀ s, s.ok → (next s).2.ok) (k : Nat) : ∀ (acc : List α) (s : RS), s.ok → (rLoop next k acc s).2.e = 0 →
    s.e = 0 ∧ True → ∃ ys flat, (rLoop next k acc s).1 = acc ++ ys ∧ ys.length = k ∧ s.l = flat ++ (rLoop next k acc s).2.l ∧ ∀ pre, lsE E pre ys = (pre ++ flat, 0) := by
  induction k with
  | zero => intro acc s _ _ _; exact ⟨[], [], by simp [rLoop], rfl, by simp [rLoop], fun pre => by simp [lsE]⟩
  | succ k ih =>
    intro acc s hs he _
    unfold rLoop at he ⊢
    by_cases h0 : (next s).2.e = 0
    · rw [if_pos h0] at he ⊢
      obtain ⟨e1, e2⟩ := hb s hs h0
      obtain ⟨ys, flat, h1, h2, h3, h4⟩ := ih (acc ++ [(next s).1]) (next s).2 (hok s hs) he ⟨h0, trivial⟩
      refine ⟨(next s).1 :: ys, (E (next s).1).1 ++ flat, by rw [h1]; simp, by simp [h2], ?_, fun pre => ?_⟩
      · rw [List.append_assoc, ← h3]; exact e2
      · rw [lsE, if_pos e1, h4]; simp
    · rw [if_neg h0] at he; exact absurd he h0

theorem rLoop_e {α : Type} {next : RS → α × RS} (k : Nat) (acc : List α) (s : RS) (hn : ∀ s : RS, s.ok → (next s).2.e = 0 → s.e = 0) (hok : s.ok) (he : (rLoop next k acc s).2.e = 0) (hk : s.e ≠ 0 → k = 0) : s.e = 0 := by
  by_cases h0 : s.e = 0
  · exact h0
  · have := hk h0
    subst this
    exact he

theorem parts_back {α : Type} {E : α → List UInt8 × Int} {next : RS → α × RS} (hb : Back E next) (hok : ∀ s, s.ok → (next s).2.ok) (s : RS) (most : Int) (hs : s.ok) (he : (rParts next s most).2.e = 0) :
    (listE E (rParts next s most).1).2 = 0 ∧ s.l = (listE E (rParts next s most).1).1 ++ (rParts next s most).2.l ∧ ((rParts next s most).1.length : Int) ≤ most := by
  obtain ⟨c, hc, hcm, hc0⟩ := rCount_nat s most hs
  have hoc := rCount_ok s most hs
  unfold rParts at he ⊢
  rw [hc] at he ⊢
  simp only [Int.toNat_natCast] at he ⊢
  have h0 : (rCount s most).2.e = 0 := by
    by_cases h : (rCount s most).2.e = 0
    · exact h
    · have := hc0 h; subst this; exact he
  rcases rCount_cases s most hs with ⟨_, h2⟩ | ⟨h1, h2, h3⟩
  · exact absurd h0 h2
  · obtain ⟨q, hq, hv, hsl⟩ := rNum_split s hs (by rw [← h2]; exact h0)
    have hqc : q = c := by rw [h2, hv] at hc; omega
    subst hqc
    obtain ⟨ys, flat, g1, g2, g3, g4⟩ := rLoop_back hb hok q [] (rCount s most).2 hoc he ⟨h0, trivial⟩
    rw [g1]
    simp only [List.nil_append]
    have e1 : listE E ys = (nb q ++ flat, 0) := by unfold listE; rw [g2, g4]
    rw [e1]
    refine ⟨rfl, ?_, by rw [g2]; omega⟩
    rw [hsl, List.append_assoc]
    congr 1
    rw [← h2]; exact g3

theorem back_int : Back intE rNum := by
  intro s hs he
  obtain ⟨q, hq, hv, hsl⟩ := rNum_split s hs he
  have e1 : intE (q : Int) = (nb q, 0) := by unfold intE; rw [if_neg (by omega)]; simp
  rw [hv, e1]
  exact ⟨rfl, hsl⟩
theorem back_text (each : Int) (h : each ≤ 1048576) : Back textE (rText · each) := by
  intro s hs he
  change (rRaw (rCount s each).2 (rCount s each).1).2.e = 0 at he
  show (textE (rRaw (rCount s each).2 (rCount s each).1).1).2 = 0 ∧ s.l = (textE (rRaw (rCount s each).2 (rCount s each).1).1).1 ++ (rRaw (rCount s each).2 (rCount s each).1).2.l
  obtain ⟨h0, h1, h2, h3⟩ := rRaw_e _ _ he
  rcases rCount_cases s each hs with ⟨_, g2⟩ | ⟨_, g2, g3⟩
  · exact absurd h0 g2
  · obtain ⟨q, hq, hv, hsl⟩ := rNum_split s hs (by rw [← g2]; exact h0)
    have hcq : (rCount s each).1 = (q : Int) := by rw [g2, hv]
    rw [h3, hcq]
    simp only [Int.toNat_natCast]
    have hql : q ≤ (rCount s each).2.l.length := by omega
    have hlen : ((rCount s each).2.l.take q).length = q := by rw [List.length_take]; omega
    have e1 : textE ((rCount s each).2.l.take q) = (tb ((rCount s each).2.l.take q), 0) := by
      unfold textE; rw [if_neg (by rw [hlen]; omega)]
    rw [e1]
    refine ⟨rfl, ?_⟩
    unfold tb
    rw [hlen, List.append_assoc, List.take_append_drop, hsl, g2]

/-- What E made 'next' reads, where Q holds. -/
def Fore {α : Type} (Q : α → Prop) (E : α → List UInt8 × Int) (next : RS → α × RS) : Prop := ∀ (x : α) (t : List UInt8), Q x → (E x).2 = 0 → next ⟨(E x).1 ++ t, 0⟩ = (x, (⟨t, 0⟩ : RS))

theorem lsE_fore {α : Type} {Q : α → Prop} {E : α → List UInt8 × Int} {next : RS → α × RS} (hf : Fore Q E next) : ∀ (xs : List α) (pre : List UInt8), (∀ x ∈ xs, Q x) → (lsE E pre xs).2 = 0 →
    ∃ flat, (lsE E pre xs).1 = pre ++ flat ∧ ∀ (acc : List α) (t : List UInt8), rLoop next xs.length acc ⟨flat ++ t, 0⟩ = (acc ++ xs, (⟨t, 0⟩ : RS)) := by
  intro xs
  induction xs with
  | nil => intro pre _ _; exact ⟨[], by simp [lsE], fun acc t => by simp [rLoop]⟩
  | cons x xs ih =>
    intro pre hq he
    rw [lsE] at he ⊢
    by_cases h0 : (E x).2 = 0
    · rw [if_pos h0] at he ⊢
      obtain ⟨flat, h1, h2⟩ := ih (pre ++ (E x).1) (fun y hy => hq y (List.mem_cons_of_mem _ hy)) he
      refine ⟨(E x).1 ++ flat, by rw [h1]; simp, fun acc t => ?_⟩
      have hx := hf x (flat ++ t) (hq x List.mem_cons_self) h0
      rw [List.append_assoc, List.length_cons, rLoop, hx]
      simp only [if_true]
      rw [h2]
      simp
    · rw [if_neg h0] at he; exact absurd he h0

theorem parts_fore {α : Type} {Q : α → Prop} {E : α → List UInt8 × Int} {next : RS → α × RS} (hf : Fore Q E next) (xs : List α) (t : List UInt8) (most : Int) (hq : ∀ x ∈ xs, Q x) (he : (listE E xs).2 = 0)
    (hl : xs.length ≤ 4611686018427387903) (hm : (xs.length : Int) ≤ most) : rParts next ⟨(listE E xs).1 ++ t, 0⟩ most = (xs, (⟨t, 0⟩ : RS)) := by
  obtain ⟨flat, h1, h2⟩ := lsE_fore hf xs (nb xs.length) hq he
  have h3 : (listE E xs).1 = nb xs.length ++ flat := h1
  have hn : rNum ⟨(listE E xs).1 ++ t, 0⟩ = ((xs.length : Int), (⟨flat ++ t, 0⟩ : RS)) := by
    rw [h3, List.append_assoc]; exact rNum_nb _ _ hl
  have hc : rCount ⟨(listE E xs).1 ++ t, 0⟩ most = ((xs.length : Int), (⟨flat ++ t, 0⟩ : RS)) := by
    unfold rCount; rw [hn, if_neg (by simpa using hm), if_neg (by simp)]
  unfold rParts
  rw [hc]
  simp only [Int.toNat_natCast]
  rw [h2]
  simp

theorem fore_int : Fore (fun _ => True) intE rNum := by
  intro n t _ he
  unfold intE at he ⊢
  by_cases h : n < 0 ∨ 4611686018427387903 < n
  · rw [if_pos h] at he; exact absurd he (by decide)
  · rw [if_neg h]
    obtain ⟨m, rfl⟩ := Int.eq_ofNat_of_zero_le (show 0 ≤ n by omega)
    simp only [Int.toNat_natCast]
    exact rNum_nb m t (by omega)
theorem fore_text (each : Int) : Fore (fun l : List UInt8 => (l.length : Int) ≤ each) textE (rText · each) := by
  intro l t hl he
  unfold textE at he ⊢
  by_cases h : 1048576 < l.length
  · rw [if_pos h] at he; exact absurd he (by decide)
  · rw [if_neg h]
    exact rText_tb l t (by omega) each hl

theorem rLoop_err {α : Type} {next : RS → α × RS} (k : Nat) : ∀ (acc : List α) (s : RS), s.e = 0 → (rLoop next k acc s).2.e ≠ 0 → (rLoop next k acc s).1 = [] := by
  induction k with
  | zero => intro acc s h he; exact absurd h he
  | succ k ih =>
    intro acc s h he
    unfold rLoop at he ⊢
    by_cases h0 : (next s).2.e = 0
    · rw [if_pos h0] at he ⊢; exact ih _ _ h0 he
    · rw [if_neg h0]
theorem parts_err {α : Type} {next : RS → α × RS} (s : RS) (most : Int) (hs : s.ok) (he : (rParts next s most).2.e ≠ 0) : (rParts next s most).1 = [] := by
  obtain ⟨c, hc, hcm, hc0⟩ := rCount_nat s most hs
  unfold rParts at he ⊢
  rw [hc] at he ⊢
  simp only [Int.toNat_natCast] at he ⊢
  by_cases h0 : (rCount s most).2.e = 0
  · exact rLoop_err c [] _ h0 he
  · have := hc0 h0; subst this; rfl

/-- What the law asks of a list that was read: bytes that are made of it are those that were read. -/
theorem parts_canon {α : Type} {E : α → List UInt8 × Int} {next : RS → α × RS} (hb : Back E next) (hok : ∀ s, s.ok → (next s).2.ok) (L : List UInt8) :
    (rParts next ⟨L, 0⟩ 4000).1.length ≤ 4000 ∧ ((rParts next ⟨L, 0⟩ 4000).2.e = 0 → L = (listE E (rParts next ⟨L, 0⟩ 4000).1).1 ++ (rParts next ⟨L, 0⟩ 4000).2.l) := by
  by_cases he : (rParts next ⟨L, 0⟩ 4000).2.e = 0
  · obtain ⟨h1, h2, h3⟩ := parts_back hb hok ⟨L, 0⟩ 4000 (.inl rfl) he
    exact ⟨by omega, fun _ => h2⟩
  · rw [parts_err _ _ (.inl rfl) he]
    exact ⟨by simp, fun h => absurd h he⟩
/-- What lies ahead of what is left, as the law cuts it out. -/
theorem cut_eq (L pre t : List UInt8) (h : L = pre ++ t) : t.length ≤ L.length ∧ (pre == L.take (L.length - t.length)) = true := by
  subst h
  simp
end Go.Proofs.YtamiacmnobklaaaGreatDoor

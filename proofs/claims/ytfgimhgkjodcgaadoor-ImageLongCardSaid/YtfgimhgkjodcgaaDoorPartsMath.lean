/- Lists that were made are read again; what is read is what would be made. Plain mathematics. -/
import Derived.Test.YtfgimhgkjodcgaaDoorCodeMath
import Derived.Test.YtfgimhgkjodcgaaDoorFrame
import Derived.Test.YtfgimhgkjodcgaaDoorGen
import Derived.Test.YtfgimhgkjodcgaaDoorLists
import Derived.Test.YtfgimhgkjodcgaaDoorOwnL
import Derived.Test.YtfgimhgkjodcgaaDoorParts
import Derived.Test.YtfgimhgkjodcgaaDoorReadMath
import Derived.Test.YtfgimhgkjodcgaaDoorReadW
import Derived.Test.YtfgimhgkjodcgaaDoorRoundTrip
import Derived.Test.YtfgimhgkjodcgaaDoorRows
import Derived.Test.YtfgimhgkjodcgaaDoorText
import Derived.BigQuiet
import Derived.Lib.Hide
import Derived.WalkKit
import Derived.WalkLawsBesides
import Derived.WalkSpells
set_option linter.unusedVariables false
namespace Go.Proofs.YtfgimhgkjodcgaaDoor
open Go.RowKit

theorem rNumF_zero (f : Nat) : ∀ (k : Nat) (acc : Int) (s : RS), f + k = 9 → 1 ≤ f → (rNumF f k acc s).2.e ≠ 0 → (rNumF f k acc s).1 = 0 := by
  induction f with
  | zero => intro k acc s _ h; omega
  | succ f ih =>
    intro k acc s hfk _ he
    obtain ⟨r0, r1⟩ := rByte_range s
    obtain ⟨c, hc⟩ := Int.eq_ofNat_of_zero_le r0
    cases hb : rBad k (c : Int) with
    | true => rw [rNumF_bad hc rfl hb]
    | false =>
      by_cases h0 : (rByte s).2.e = 0
      · by_cases hlt : (c : Int) < 128
        · rw [rNumF_end hc rfl hb h0 hlt] at he
          exact absurd h0 he
        · rw [rNumF_go hc rfl hb h0 hlt] at he ⊢
          refine ih _ _ _ (by omega) ?_ he
          have hb' : ¬ ((c ≤ 0 ∧ 0 < k) ∨ (63 < c ∧ k = 8)) := by rw [← rBad_iff, hb]; simp
          omega
      · rw [rNumF_err hc rfl hb h0]
theorem rNum_zero (s : RS) (he : (rNum s).2.e ≠ 0) : (rNum s).1 = 0 := rNumF_zero 9 0 0 s rfl (by decide) he

/-- What 'next' reads is what E would make. -/
def Back {α : Type} (E : α → List UInt8 × Int) (next : RS → α × RS) : Prop := ∀ s : RS, s.ok → (next s).2.e = 0 → (E (next s).1).2 = 0 ∧ s.l = (E (next s).1).1 ++ (next s).2.l

theorem rLoop_back {α : Type} {E : α → List UInt8 × Int} {next : RS → α × RS} (hb : Back E next) (hok : ∀ s, s.ok → (next s).2.ok) (k : Nat) : ∀ (acc : List α) (s : RS), s.ok → (rLoop next k acc s).2.e = 0 →
    s.e = 0 ∧ True → ∃ ys flat, (rLoop next k acc s).1 = acc ++ ys ∧ ys.length = k ∧ s.l = flat ++ (rLoop next k acc s).2.l ∧ ∀ pre, lsE E pre ys = (pre ++ flat, 0) := by
  induction k with
  | zero => intro acc s _ _ _; exact ⟨[], [], by simp [rLoop], rfl, by simp [rLoop], fun pre => by simp [lsE]⟩
  | succ k ih =>
    intro acc s hs he _
    unfold rLoop at he ⊢
    by_cases h0 : (next s).2.e = 0
    · rw [if_pos h0] at he ⊢
      obtain ⟨e1, e2⟩ := hb s hs h0
      obtain ⟨ys, flat, h1, h2, h3, h4⟩ := ih (acc ++ [(next s).1]) (next s).2 (hok s hs) he ⟨h0, trivial⟩
      refine ⟨(next s).1 :: ys, (E (next s).1).1 ++ flat, by rw [h1]; simp, by simp [h2], ?_, fun pre => ?_⟩
      · rw [List.append_assoc, ← h3]; exact e2
      · rw [lsE, if_pos e1, h4]; simp
    · rw [if_neg h0] at he; exact absurd he h0

theorem rLoop_e {α : Type} {next : RS → α × RS} (k : Nat) (acc : List α) (s : RS) (hn : ∀ s : RS, s.ok → (next s).2.e = 0 → s.e = 0) (hok : s.ok) (he : (rLoop next k acc s).2.e = 0) (hk : s.e ≠ 0 → k = 0) : s.e = 0 := by
  by_cases h0 : s.e = 0
  · exact h0
  · have := hk h0
    subst this
    exact he

theorem parts_back {α : Type} {E : α → List UInt8 × Int} {next : RS → α × RS} (hb : Back E next) (hok : ∀ s, s.ok → (next s).2.ok) (s : RS) (most : Int) (hs : s.ok) (he : (rParts next s most).2.e = 0) :
    (listE E (rParts next s most).1).2 = 0 ∧ s.l = (listE E (rParts next s most).1).1 ++ (rParts next s most).2.l ∧ ((rParts next s most).1.length : Int) ≤ most := by
  obtain ⟨c, hc, hcm, hc0⟩ := rCount_nat s most hs
  have hoc := rCount_ok s most hs
  unfold rParts at he ⊢
  rw [hc] at he ⊢
  simp only [Int.toNat_natCast] at he ⊢
  have h0 : (rCount s most).2.e = 0 := by
    by_cases h : (rCount s most).2.e = 0
    · exact h
    · have := hc0 h; subst this; exact he
  rcases rCount_cases s most hs with ⟨_, h2⟩ | ⟨h1, h2, h3⟩
  · exact absurd h0 h2
  · obtain ⟨q, hq, hv, hsl⟩ := rNum_split s hs (by rw [← h2]; exact h0)
    have hqc : q = c := by rw [h2, hv] at hc; omega
    subst hqc
    obtain ⟨ys, flat, g1, g2, g3, g4⟩ := rLoop_back hb hok q [] (rCount s most).2 hoc he ⟨h0, trivial⟩
    rw [g1]
    simp only [List.nil_append]
    have e1 : listE E ys = (nb q ++ flat, 0) := by unfold listE; rw [g2, g4]
    rw [e1]
    refine ⟨rfl, ?_, by rw [g2]; omega⟩
    rw [hsl, List.append_assoc]
    congr 1
    rw [← h2]; exact g3

theorem back_int : Back intE rNum := by
  intro s hs he
  obtain ⟨q, hq, hv, hsl⟩ := rNum_split s hs he
  have e1 : intE (q : Int) = (nb q, 0) := by unfold intE; rw [if_neg (by omega)]; simp
  rw [hv, e1]
  exact ⟨rfl, hsl⟩
theorem back_text (each : Int) (h : each ≤ 1048576) : Back textE (rText · each) := by
  intro s hs he
  change (rRaw (rCount s each).2 (rCount s each).1).2.e = 0 at he
  show (textE (rRaw (rCount s each).2 (rCount s each).1).1).2 = 0 ∧ s.l = (textE (rRaw (rCount s each).2 (rCount s each).1).1).1 ++ (rRaw (rCount s each).2 (rCount s each).1).2.l
  obtain ⟨h0, h1, h2, h3⟩ := rRaw_e _ _ he
  rcases rCount_cases s each hs with ⟨_, g2⟩ | ⟨_, g2, g3⟩
  · exact absurd h0 g2
  · obtain ⟨q, hq, hv, hsl⟩ := rNum_split s hs (by rw [← g2]; exact h0)
    have hcq : (rCount s each).1 = (q : Int) := by rw [g2, hv]
    rw [h3, hcq]
    simp only [Int.toNat_natCast]
    have hql : q ≤ (rCount s each).2.l.length := by omega
    have hlen : ((rCount s each).2.l.take q).length = q := by rw [List.length_take]; omega
    have e1 : textE ((rCount s each).2.l.take q) = (tb ((rCount s each).2.l.take q), 0) := by
      unfold textE; rw [if_neg (by rw [hlen]; omega)]
    rw [e1]
    refine ⟨rfl, ?_⟩
    unfold tb
    rw [hlen, List.append_assoc, List.take_append_drop, hsl, g2]

/-- What E made 'next' reads, where Q holds. -/
def Fore {α : Type} (Q : α → Prop) (E : α → List UInt8 × Int) (next : RS → α × RS) : Prop := ∀ (x : α) (t : List UInt8), Q x → (E x).2 = 0 → next ⟨(E x).1 ++ t, 0⟩ = (x, (⟨t, 0⟩ : RS))

theorem lsE_fore {α : Type} {Q : α → Prop} {E : α → List UInt8 × Int} {next : RS → α × RS} (hf : Fore Q E next) : ∀ (xs : List α) (pre : List UInt8), (∀ x ∈ xs, Q x) → (lsE E pre xs).2 = 0 →
    ∃ flat, (lsE E pre xs).1 = pre ++ flat ∧ ∀ (acc : List α) (t : List UInt8), rLoop next xs.length acc ⟨flat ++ t, 0⟩ = (acc ++ xs, (⟨t, 0⟩ : RS)) := by
  intro xs
  induction xs with
  | nil => intro pre _ _; exact ⟨[], by simp [lsE], fun acc t => by simp [rLoop]⟩
  | cons x xs ih =>
    intro pre hq he
    rw [lsE] at he ⊢
    by_cases h0 : (E x).2 = 0
    · rw [if_pos h0] at he ⊢
      obtain ⟨flat, h1, h2⟩ := ih (pre ++ (E x).1) (fun y hy => hq y (List.mem_cons_of_mem _ hy)) he
      refine ⟨(E x).1 ++ flat, by rw [h1]; simp, fun acc t => ?_⟩
      have hx := hf x (flat ++ t) (hq x List.mem_cons_self) h0
      rw [List.append_assoc, List.length_cons, rLoop, hx]
      simp only [if_true]
      rw [h2]
      simp
    · rw [if_neg h0] at he; exact absurd he h0

theorem parts_fore {α : Type} {Q : α → Prop} {E : α → List UInt8 × Int} {next : RS → α × RS} (hf : Fore Q E next) (xs : List α) (t : List UInt8) (most : Int) (hq : ∀ x ∈ xs, Q x) (he : (listE E xs).2 = 0)
    (hl : xs.length ≤ 4611686018427387903) (hm : (xs.length : Int) ≤ most) : rParts next ⟨(listE E xs).1 ++ t, 0⟩ most = (xs, (⟨t, 0⟩ : RS)) := by
  obtain ⟨flat, h1, h2⟩ := lsE_fore hf xs (nb xs.length) hq he
  have h3 : (listE E xs).1 = nb xs.length ++ flat := h1
  have hn : rNum ⟨(listE E xs).1 ++ t, 0⟩ = ((xs.length : Int), (⟨flat ++ t, 0⟩ : RS)) := by
    rw [h3, List.append_assoc]; exact rNum_nb _ _ hl
  have hc : rCount ⟨(listE E xs).1 ++ t, 0⟩ most = ((xs.length : Int), (⟨flat ++ t, 0⟩ : RS)) := by
    unfold rCount; rw [hn, if_neg (by simpa using hm), if_neg (by simp)]
  unfold rParts
  rw [hc]
  simp only [Int.toNat_natCast]
  rw [h2]
  simp

theorem fore_int : Fore (fun _ => True) intE rNum := by
  intro n t _ he
  unfold intE at he ⊢
  by_cases h : n < 0 ∨ 4611686018427387903 < n
  · rw [if_pos h] at he; exact absurd he (by decide)
  · rw [if_neg h]
    obtain ⟨m, rfl⟩ := Int.eq_ofNat_of_zero_le (show 0 ≤ n by omega)
    simp only [Int.toNat_natCast]
    exact rNum_nb m t (by omega)
theorem fore_text (each : Int) : Fore (fun l : List UInt8 => (l.length : Int) ≤ each) textE (rText · each) := by
  intro l t hl he
  unfold textE at he ⊢
  by_cases h : 1048576 < l.length
  · rw [if_pos h] at he; exact absurd he (by decide)
  · rw [if_neg h]
    exact rText_tb l t (by omega) each hl

theorem rLoop_err {α : Type} {next : RS → α × RS} (k : Nat) : ∀ (acc : List α) (s : RS), s.e = 0 → (rLoop next k acc s).2.e ≠ 0 → (rLoop next k acc s).1 = [] := by
  induction k with
  | zero => intro acc s h he; exact absurd h he
  | succ k ih =>
    intro acc s h he
    unfold rLoop at he ⊢
    by_cases h0 : (next s).2.e = 0
    · rw [if_pos h0] at he ⊢; exact ih _ _ h0 he
    · rw [if_neg h0]
theorem parts_err {α : Type} {next : RS → α × RS} (s : RS) (most : Int) (hs : s.ok) (he : (rParts next s most).2.e ≠ 0) : (rParts next s most).1 = [] := by
  obtain ⟨c, hc, hcm, hc0⟩ := rCount_nat s most hs
  unfold rParts at he ⊢
  rw [hc] at he ⊢
  simp only [Int.toNat_natCast] at he ⊢
  by_cases h0 : (rCount s most).2.e = 0
  · exact rLoop_err c [] _ h0 he
  · have := hc0 h0; subst this; rfl

/-- What the law asks of a list that was read: bytes that are made of it are those that were read. -/
theorem parts_canon {α : Type} {E : α → List UInt8 × Int} {next : RS → α × RS} (hb : Back E next) (hok : ∀ s, s.ok → (next s).2.ok) (L : List UInt8) :
    (rParts next ⟨L, 0⟩ 4000).1.length ≤ 4000 ∧ ((rParts next ⟨L, 0⟩ 4000).2.e = 0 → L = (listE E (rParts next ⟨L, 0⟩ 4000).1).1 ++ (rParts next ⟨L, 0⟩ 4000).2.l) := by
  by_cases he : (rParts next ⟨L, 0⟩ 4000).2.e = 0
  · obtain ⟨h1, h2, h3⟩ := parts_back hb hok ⟨L, 0⟩ 4000 (.inl rfl) he
    exact ⟨by omega, fun _ => h2⟩
  · rw [parts_err _ _ (.inl rfl) he]
    exact ⟨by simp, fun h => absurd h he⟩
/-- What lies ahead of what is left, as the law cuts it out. -/
theorem cut_eq (L pre t : List UInt8) (h : L = pre ++ t) : t.length ≤ L.length ∧ (pre == L.take (L.length - t.length)) = true := by
  subst h
  simp
end Go.Proofs.YtfgimhgkjodcgaaDoor

/- Plain mathematics: two manifests gone through side by side tell what the document's Between tells. Of no program. -/
import Derived.Test.YtkfkfpfnpfpkaaaDoorArgs3
import Derived.Test.YtkfkfpfnpfpkaaaDoorFrame
import Derived.Test.YtkfkfpfnpfpkaaaDoorGen
import Derived.Test.YtkfkfpfnpfpkaaaDoorMarkMath
import Derived.Test.YtkfkfpfnpfpkaaaDoorOwnL
import Derived.Test.YtkfkfpfnpfpkaaaDoorPlaceTW
import Derived.Test.YtkfkfpfnpfpkaaaDoorReadW
import Derived.Test.YtkfkfpfnpfpkaaaDoorRowN
import Derived.Test.YtkfkfpfnpfpkaaaDoorRows
import Derived.Test.YtkfkfpfnpfpkaaaDoorTreeMath
import Derived.BigQuiet
import Derived.Deep.Cut
import Derived.Deep.CutRange
import Derived.Deep.DeepCutAuto
import Derived.Deep.QuietTactic
import Derived.Deep.Slices
import Derived.Deep.Strs
import Derived.Lib.Hide
import Derived.Lib.SmallJoins
import Derived.WalkKit
import Derived.WalkLawsBesides
import Derived.WalkSpells
set_option linter.unusedVariables false
namespace Go.Proofs.YtkfkfpfnpfpkaaaDoor
open Go.RowKit

theorem ord_tr {a b c : Txt} (h : ordS a b < 0) (k : ordS b c < 0) : ordS a c < 0 := by
  have T := ordS_trans a b c (by omega) (by omega)
  rcases Int.lt_or_eq_of_le T.1 with e | e
  · exact e
  · have := (T.2 e).1; omega
theorem ord_ne {a b : Txt} (h : ordS a b < 0) : a ≠ b := by
  rintro rfl
  rw [ordS_self] at h; omega
theorem togF_sorted : ∀ (l : List Txt) (q : Txt), togF (some q) l = 0 → (q :: l).Pairwise (fun x y => ordS x y < 0)
  | [], q, _ => List.pairwise_singleton _ _
  | p :: r, q, h => by
    unfold togF at h
    by_cases h1 : pathS p ≠ 0
    · rw [if_pos h1] at h; exact absurd h h1
    · rw [if_neg h1] at h
      dsimp only at h
      by_cases h2 : ordS p q < 0
      · rw [if_pos h2] at h; exact absurd h (by decide)
      · rw [if_neg h2] at h
        by_cases h3 : p = q ∨ withinS p q = true
        · rw [if_pos h3] at h; exact absurd h (by decide)
        · rw [if_neg h3] at h
          have ih := togF_sorted r p h
          have e := ordS_neg p q
          have hqp : ordS q p < 0 := by
            rcases Int.lt_or_eq_of_le (show ordS q p ≤ 0 by omega) with c | c
            · exact c
            · exact absurd (ordS_eq _ _ c).symm (fun e => h3 (.inl e))
          rw [List.pairwise_cons]
          refine ⟨fun y hy => ?_, ih⟩
          simp at hy
          rcases hy with rfl | hy
          · exact hqp
          · rw [List.pairwise_cons] at ih
            exact ord_tr hqp (ih.1 y hy)
/-- Paths one behind the other. -/
def Asc (l : List ItemD) : Prop := l.Pairwise (fun x y => ordS x.path y.path < 0)
theorem asc_right {l : List ItemD} (h : rightS l = 0) : Asc l := by
  unfold rightS at h
  by_cases h1 : togS (l.map (·.path)) ≠ 0
  · rw [if_pos h1] at h; exact absurd h h1
  · have h2 : togS (l.map (·.path)) = 0 := Decidable.not_not.1 h1
    unfold togS at h2
    by_cases h3 : 256 < (l.map (·.path)).length
    · rw [if_pos h3] at h2; exact absurd h2 (by decide)
    · rw [if_neg h3] at h2
      unfold Asc
      refine (List.pairwise_map (f := fun x : ItemD => x.path) (R := fun x y => ordS x y < 0)).1 ?_
      change togF none (l.map (fun x => x.path)) = 0 at h2
      generalize l.map (fun x => x.path) = m at h2 ⊢
      cases m with
      | nil => exact List.Pairwise.nil
      | cons p r =>
        unfold togF at h2
        by_cases h4 : pathS p ≠ 0
        · rw [if_pos h4] at h2; exact absurd h2 h4
        · rw [if_neg h4] at h2
          exact togF_sorted r p h2
def turnedS (x y : ItemD) : Int := if x.size ≠ y.size ∨ x.mark ≠ y.mark then 3 else if x.mode ≠ y.mode then 4 else 0
def chg1 (x y : ItemD) : List ChgD := if turnedS x y ≠ 0 then [⟨turnedS x y, x.path⟩] else []
def mergeS : List ItemD → List ItemD → List ChgD
  | [], [] => []
  | x :: a, [] => ⟨1, x.path⟩ :: mergeS a []
  | [], y :: b => ⟨2, y.path⟩ :: mergeS [] b
  | x :: a, y :: b => if ordS x.path y.path < 0 then ⟨1, x.path⟩ :: mergeS a (y :: b) else if 0 < ordS x.path y.path then ⟨2, y.path⟩ :: mergeS (x :: a) b else chg1 x y ++ mergeS a b
termination_by a b => a.length + b.length
def mergeU : List ItemD → List ItemD → List FileD
  | [], [] => []
  | x :: a, [] => bareS x :: mergeU a []
  | [], y :: b => bareS y :: mergeU [] b
  | x :: a, y :: b => if ordS x.path y.path < 0 then bareS x :: mergeU a (y :: b) else if 0 < ordS x.path y.path then bareS y :: mergeU (x :: a) b else bareS x :: mergeU a b
termination_by a b => a.length + b.length
theorem atS_cons_ne {x : ItemD} {l : List ItemD} {p : Txt} (h : x.path ≠ p) : atS (x :: l) p = atS l p := by
  unfold atS
  rw [List.find?_cons_of_neg (by simpa using h)]
theorem atS_cons_eq (x : ItemD) (l : List ItemD) : atS (x :: l) x.path = some x := by
  unfold atS
  rw [List.find?_cons_of_pos (by simp)]
theorem atS_none {l : List ItemD} {p : Txt} (h : ∀ x ∈ l, x.path ≠ p) : atS l p = none := by
  unfold atS
  rw [List.find?_eq_none]
  intro x hx
  simpa using h x hx
theorem mergeU_mem : ∀ n (a b : List ItemD), a.length + b.length = n → ∀ f ∈ mergeU a b, (∃ x ∈ a, f = bareS x) ∨ ∃ y ∈ b, f = bareS y := by
  intro n
  induction n using Nat.strongRecOn with
  | ind n ih =>
    intro a b hn f hf
    match a, b with
    | [], [] => rw [mergeU] at hf; simp at hf
    | x :: a, [] =>
      rw [mergeU] at hf; simp only [List.mem_cons] at hf
      rcases hf with rfl | hf
      · exact .inl ⟨x, by simp, rfl⟩
      · rcases ih (a.length + ([] : List ItemD).length) (by simp at hn ⊢; omega) a [] rfl f hf with ⟨z, hz, e⟩ | ⟨z, hz, e⟩
        · exact .inl ⟨z, by simp [hz], e⟩
        · simp at hz
    | [], y :: b =>
      rw [mergeU] at hf; simp only [List.mem_cons] at hf
      rcases hf with rfl | hf
      · exact .inr ⟨y, by simp, rfl⟩
      · rcases ih (([] : List ItemD).length + b.length) (by simp at hn ⊢; omega) [] b rfl f hf with ⟨z, hz, e⟩ | ⟨z, hz, e⟩
        · simp at hz
        · exact .inr ⟨z, by simp [hz], e⟩
    | x :: a, y :: b =>
      rw [mergeU] at hf
      split at hf
      · simp only [List.mem_cons] at hf
        rcases hf with rfl | hf
        · exact .inl ⟨x, by simp, rfl⟩
        · rcases ih (a.length + (y :: b).length) (by simp at hn ⊢; omega) a (y :: b) rfl f hf with ⟨z, hz, e⟩ | ⟨z, hz, e⟩
          · exact .inl ⟨z, by simp [hz], e⟩
          · exact .inr ⟨z, hz, e⟩
      · split at hf
        · simp only [List.mem_cons] at hf
          rcases hf with rfl | hf
          · exact .inr ⟨y, by simp, rfl⟩
          · rcases ih ((x :: a).length + b.length) (by simp at hn ⊢; omega) (x :: a) b rfl f hf with ⟨z, hz, e⟩ | ⟨z, hz, e⟩
            · exact .inl ⟨z, hz, e⟩
            · exact .inr ⟨z, by simp [hz], e⟩
        · simp only [List.mem_cons] at hf
          rcases hf with rfl | hf
          · exact .inl ⟨x, by simp, rfl⟩
          · rcases ih (a.length + b.length) (by simp at hn ⊢; omega) a b rfl f hf with ⟨z, hz, e⟩ | ⟨z, hz, e⟩
            · exact .inl ⟨z, by simp [hz], e⟩
            · exact .inr ⟨z, by simp [hz], e⟩
theorem Asc.tail {x : ItemD} {l : List ItemD} (h : Asc (x :: l)) : Asc l := (List.pairwise_cons.1 h).2
theorem Asc.head {x : ItemD} {l : List ItemD} (h : Asc (x :: l)) : ∀ y ∈ l, ordS x.path y.path < 0 := (List.pairwise_cons.1 h).1
/-- All that is merged stands behind a path, if both lists do. -/
theorem mergeU_behind {a b : List ItemD} {p : Txt} (ha : ∀ x ∈ a, ordS p x.path < 0) (hb : ∀ y ∈ b, ordS p y.path < 0) : ∀ f ∈ mergeU a b, ordS p f.path < 0 := by
  intro f hf
  rcases mergeU_mem _ a b rfl f hf with ⟨z, hz, rfl⟩ | ⟨z, hz, rfl⟩
  · exact ha z hz
  · exact hb z hz
theorem chgS_congr {a b a' b' : List ItemD} {f : FileD} (h1 : atS a f.path = atS a' f.path) (h2 : atS b f.path = atS b' f.path) : chgS a b f = chgS a' b' f := by
  unfold chgS kindS
  rw [h1, h2]
theorem chg_gone {a b : List ItemD} {f : FileD} (h : atS b f.path = none) : chgS a b f = [⟨1, f.path⟩] := by
  unfold chgS kindS
  rw [h]; rfl
theorem chg_came {a b : List ItemD} {f : FileD} {y : ItemD} (h : atS b f.path = some y) (h2 : atS a f.path = none) : chgS a b f = [⟨2, f.path⟩] := by
  unfold chgS kindS
  rw [h, h2]; rfl
theorem chg_both {a b : List ItemD} {f : FileD} {x y : ItemD} (h : atS b f.path = some y) (h2 : atS a f.path = some x) (hp : f.path = x.path) : chgS a b f = chg1 x y := by
  unfold chgS kindS chg1 turnedS
  rw [h, h2, hp]
  by_cases e1 : x.size ≠ y.size ∨ x.mark ≠ y.mark
  · simp only [if_pos e1]; rfl
  · simp only [if_neg e1]
    by_cases e2 : x.mode ≠ y.mode
    · simp only [if_pos e2]; rfl
    · simp only [if_neg e2]; rfl
/-- In order; together; what became of each. -/
theorem merge_is : ∀ n (a b : List ItemD), a.length + b.length = n → Asc a → Asc b →
    (mergeU a b).Pairwise (fun f g => ordS f.path g.path < 0) ∧ (mergeU a b).Perm (a.map bareS ++ (b.filter (fun y => (atS a y.path).isNone)).map bareS) ∧ ((mergeU a b).map (chgS a b)).flatten = mergeS a b := by
  intro n
  induction n using Nat.strongRecOn with
  | ind n ih =>
    intro a b hn ha hb
    match a, b with
    | [], [] => rw [mergeU, mergeS]; exact ⟨List.Pairwise.nil, List.Perm.refl _, rfl⟩
    | x :: a, [] =>
      obtain ⟨h1, h2, h3⟩ := ih (a.length + ([] : List ItemD).length) (by simp at hn ⊢; omega) a [] rfl ha.tail hb
      have hbh := mergeU_behind (b := []) (p := x.path) ha.head (fun y hy => by simp at hy)
      rw [mergeU, mergeS]
      refine ⟨List.pairwise_cons.2 ⟨hbh, h1⟩, ?_, ?_⟩
      · simpa using h2
      · rw [List.map_cons, List.flatten_cons, chg_gone (by rfl), ← h3]
        refine congrArg (List.cons _) (congrArg List.flatten (List.map_congr_left (fun f hf => ?_)))
        exact chgS_congr (atS_cons_ne (ord_ne (hbh f hf))) rfl
    | [], y :: b =>
      obtain ⟨h1, h2, h3⟩ := ih (([] : List ItemD).length + b.length) (by simp at hn ⊢; omega) [] b rfl ha hb.tail
      have hbh := mergeU_behind (a := []) (p := y.path) (fun y hy => by simp at hy) hb.head
      rw [mergeU, mergeS]
      refine ⟨List.pairwise_cons.2 ⟨hbh, h1⟩, ?_, ?_⟩
      · have e : ∀ l : List ItemD, l.filter (fun y => (atS [] y.path).isNone) = l := fun l => List.filter_eq_self.2 (fun y _ => rfl)
        rw [e] at h2 ⊢
        simpa using h2
      · rw [List.map_cons, List.flatten_cons, chg_came (y := y) (atS_cons_eq y b) rfl, ← h3]
        refine congrArg (List.cons _) (congrArg List.flatten (List.map_congr_left (fun f hf => ?_)))
        exact chgS_congr rfl (atS_cons_ne (ord_ne (hbh f hf)))
    | x :: a, y :: b =>
      rw [mergeU, mergeS]
      split
      · rename_i hlt
        obtain ⟨h1, h2, h3⟩ := ih (a.length + (y :: b).length) (by simp at hn ⊢; omega) a (y :: b) rfl ha.tail hb
        have hyb : ∀ z ∈ y :: b, ordS x.path z.path < 0 := by
          intro z hz
          simp at hz
          rcases hz with rfl | hz
          · exact hlt
          · exact ord_tr hlt (hb.head z hz)
        have hbh := mergeU_behind (p := x.path) ha.head hyb
        refine ⟨List.pairwise_cons.2 ⟨hbh, h1⟩, ?_, ?_⟩
        · have e : (y :: b).filter (fun z => (atS (x :: a) z.path).isNone) = (y :: b).filter (fun z => (atS a z.path).isNone) :=
            List.filter_congr (fun z hz => by rw [atS_cons_ne (ord_ne (hyb z hz))])
          rw [e, List.map_cons, List.cons_append]
          exact h2.cons _
        · rw [List.map_cons, List.flatten_cons, chg_gone (f := bareS x) (atS_none (fun z hz => (ord_ne (hyb z hz)).symm)), ← h3]
          refine congrArg (List.cons _) (congrArg List.flatten (List.map_congr_left (fun f hf => ?_)))
          exact chgS_congr (atS_cons_ne (ord_ne (hbh f hf))) rfl
      · rename_i hlt
        split
        · rename_i hgt
          have hyx : ordS y.path x.path < 0 := by rw [ordS_neg]; omega
          obtain ⟨h1, h2, h3⟩ := ih ((x :: a).length + b.length) (by simp at hn ⊢; omega) (x :: a) b rfl ha hb.tail
          have hxa : ∀ z ∈ x :: a, ordS y.path z.path < 0 := by
            intro z hz
            simp at hz
            rcases hz with rfl | hz
            · exact hyx
            · exact ord_tr hyx (ha.head z hz)
          have hbh := mergeU_behind (p := y.path) hxa hb.head
          have hn0 : atS (x :: a) y.path = none := atS_none (fun z hz => (ord_ne (hxa z hz)).symm)
          refine ⟨List.pairwise_cons.2 ⟨hbh, h1⟩, ?_, ?_⟩
          · rw [List.filter_cons_of_pos (by rw [hn0]; rfl), List.map_cons]
            exact (h2.cons _).trans List.perm_middle.symm
          · rw [List.map_cons, List.flatten_cons, chg_came (f := bareS y) (y := y) (atS_cons_eq y b) hn0, ← h3]
            refine congrArg (List.cons _) (congrArg List.flatten (List.map_congr_left (fun f hf => ?_)))
            exact chgS_congr rfl (atS_cons_ne (ord_ne (hbh f hf)))
        · rename_i hgt
          have hxy : x.path = y.path := ordS_eq _ _ (by omega)
          obtain ⟨h1, h2, h3⟩ := ih (a.length + b.length) (by simp at hn ⊢; omega) a b rfl ha.tail hb.tail
          have hxb : ∀ z ∈ b, ordS x.path z.path < 0 := fun z hz => by rw [hxy]; exact hb.head z hz
          have hbh := mergeU_behind (p := x.path) ha.head hxb
          refine ⟨List.pairwise_cons.2 ⟨hbh, h1⟩, ?_, ?_⟩
          · rw [List.filter_cons_of_neg (by rw [← hxy, atS_cons_eq]; simp), List.map_cons, List.cons_append]
            have e : b.filter (fun z => (atS (x :: a) z.path).isNone) = b.filter (fun z => (atS a z.path).isNone) :=
              List.filter_congr (fun z hz => by rw [atS_cons_ne (ord_ne (hxb z hz))])
            rw [e]
            exact h2.cons _
          · rw [List.map_cons, List.flatten_cons, chg_both (f := bareS x) (x := x) (y := y) (by show atS (y :: b) x.path = _; rw [hxy, atS_cons_eq]) (atS_cons_eq x a) rfl, ← h3]
            congr 2
            refine List.map_congr_left (fun f hf => ?_)
            exact chgS_congr (atS_cons_ne (ord_ne (hbh f hf))) (atS_cons_ne (by rw [← hxy]; exact ord_ne (hbh f hf)))
theorem insS_perm (x : FileD) : ∀ l : List FileD, (insS x l).Perm (x :: l)
  | [] => List.Perm.refl _
  | y :: r => by
    unfold insS
    split
    · exact List.Perm.refl _
    · exact ((insS_perm x r).cons y).trans (List.Perm.swap x y r)
theorem insS_asc (x : FileD) : ∀ l : List FileD, l.Pairwise (fun f g => ordS f.path g.path ≤ 0) → (insS x l).Pairwise (fun f g => ordS f.path g.path ≤ 0)
  | [], _ => List.pairwise_singleton _ _
  | y :: r, h => by
    have h' := List.pairwise_cons.1 h
    unfold insS
    split
    · rename_i hlt
      rw [List.pairwise_cons]
      refine ⟨fun z hz => ?_, h⟩
      simp at hz
      rcases hz with rfl | hz
      · omega
      · exact (ordS_trans _ _ _ (by omega) (h'.1 z hz)).1
    · rename_i hlt
      rw [List.pairwise_cons]
      refine ⟨fun z hz => ?_, insS_asc x r h'.2⟩
      rw [(insS_perm x r).mem_iff] at hz
      simp at hz
      rcases hz with rfl | hz
      · rw [ordS_neg]; omega
      · exact h'.1 z hz
theorem sortS_perm_asc : ∀ (l acc : List FileD), acc.Pairwise (fun f g => ordS f.path g.path ≤ 0) → (l.foldl (fun acc x => insS x acc) acc).Perm (l ++ acc) ∧ (l.foldl (fun acc x => insS x acc) acc).Pairwise (fun f g => ordS f.path g.path ≤ 0)
  | [], acc, h => ⟨List.Perm.refl _, h⟩
  | x :: r, acc, h => by
    obtain ⟨h1, h2⟩ := sortS_perm_asc r (insS x acc) (insS_asc x acc h)
    refine ⟨h1.trans ?_, h2⟩
    exact ((insS_perm x acc).append_left r).trans List.perm_middle
theorem merge_all {a b : List ItemD} (ha : Asc a) (hb : Asc b) : mergeU a b = allS a b := by
  obtain ⟨h1, h2, h3⟩ := merge_is _ a b rfl ha hb
  obtain ⟨k1, k2⟩ := sortS_perm_asc (a.map bareS ++ (b.filter (fun y => (atS a y.path).isNone)).map bareS) [] List.Pairwise.nil
  rw [List.append_nil] at k1
  refine List.Perm.eq_of_pairwise (le := fun f g : FileD => ordS f.path g.path ≤ 0) (fun f g hf hg q1 q2 => ?_) (h1.imp (fun h => by omega)) k2 (h2.trans k1.symm)
  have e : f.path = g.path := ordS_eq _ _ (by have := ordS_neg f.path g.path; omega)
  have hf' : ∃ z, f = bareS z := by rcases mergeU_mem _ a b rfl f hf with ⟨z, _, h⟩ | ⟨z, _, h⟩ <;> exact ⟨z, h⟩
  have hg' : ∃ z, g = bareS z := by
    rcases mergeU_mem _ a b rfl g ((h2.trans k1.symm).mem_iff.2 hg) with ⟨z, _, h⟩ | ⟨z, _, h⟩ <;> exact ⟨z, h⟩
  obtain ⟨z, rfl⟩ := hf'
  obtain ⟨y, rfl⟩ := hg'
  unfold bareS at e ⊢
  dsimp only at e
  rw [e]
theorem between_merge {a b : List ItemD} (ha : rightS a = 0) (hb : rightS b = 0) : betweenS a b = mergeS a b := by
  unfold betweenS betweenE
  rw [if_neg (by rw [if_neg (by omega)]; omega), ← merge_all (asc_right ha) (asc_right hb)]
  exact (merge_is _ a b rfl (asc_right ha) (asc_right hb)).2.2
end Go.Proofs.YtkfkfpfnpfpkaaaDoor

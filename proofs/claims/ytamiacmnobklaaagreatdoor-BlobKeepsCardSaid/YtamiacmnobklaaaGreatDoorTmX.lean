/- Several texts in one: SortMath, SortTMath. -/
import Derived.Test.YtamiacmnobklaaaGreatDoorFrame
import Derived.Test.YtamiacmnobklaaaGreatDoorGen
import Derived.Test.YtamiacmnobklaaaGreatDoorOwnL
import Derived.Test.YtamiacmnobklaaaGreatDoorRowN
import Derived.Test.YtamiacmnobklaaaGreatDoorRows
import Derived.Test.YtamiacmnobklaaaGreatDoorTreeMath
import Derived.BigQuiet
import Derived.Lib.Hide
import Derived.WalkKit
import Derived.WalkLawsBesides
import Derived.WalkSpells
/- Plain mathematics of the library's stable sort over numbers: functions from places to numbers, turned, merged. Of no program. -/
set_option linter.unusedVariables false
namespace Go.Proofs.YtamiacmnobklaaaGreatDoor

/-! ### An order whose ties the numbers break -/
structure SWo (lt : Nat → Nat → Bool) : Prop where
  irr : ∀ x, lt x x = false
  tr : ∀ x y z, lt x y = true → lt y z = true → lt x z = true
  neg : ∀ x y z, lt x y = false → lt y z = false → lt x z = false
def Ltn (lt : Nat → Nat → Bool) (x y : Nat) : Prop := lt x y = true ∨ (lt y x = false ∧ x < y)
section
variable {lt : Nat → Nat → Bool}
theorem SWo.asym (H : SWo lt) {x y : Nat} (h : lt x y = true) : lt y x = false := by
  cases hh : lt y x with
  | false => rfl
  | true => have := H.tr x y x h hh; rw [H.irr] at this; cases this
theorem Ltn.trans (H : SWo lt) {x y z : Nat} (h : Ltn lt x y) (k : Ltn lt y z) : Ltn lt x z := by
  rcases h with h | ⟨h, h'⟩ <;> rcases k with k | ⟨k, k'⟩
  · exact .inl (H.tr _ _ _ h k)
  · left
    cases e : lt x z with
    | true => rfl
    | false => have := H.neg x z y e k; rw [this] at h; cases h
  · left
    cases e : lt x z with
    | true => rfl
    | false => have := H.neg y x z h e; rw [this] at k; cases k
  · exact .inr ⟨H.neg _ _ _ k h, Nat.lt_trans h' k'⟩
theorem Ltn.irr (H : SWo lt) (x : Nat) : ¬ Ltn lt x x := by
  rintro (h | ⟨_, h⟩)
  · rw [H.irr] at h; cases h
  · omega
/-- Of numbers y behind x: y is told ahead only by the order itself. -/
theorem Ltn.of_not {x y : Nat} (hn : x < y) (h : lt y x = false) : Ltn lt x y := .inr ⟨h, hn⟩
theorem Ltn.lt_of {x y : Nat} (hn : x < y) (h : Ltn lt y x) : lt y x = true := by
  rcases h with h | ⟨_, h⟩
  · exact h
  · omega
theorem Ltn.not_of (H : SWo lt) {x y : Nat} (h : Ltn lt x y) : lt y x = false := by
  rcases h with h | ⟨h, _⟩
  · exact H.asym h
  · exact h
end

/-! ### Pieces -/
def seg (d : Nat → Nat) (a b : Nat) : List Nat := (List.range' a (b - a)).map d
theorem seg_append (d : Nat → Nat) {a m b : Nat} (h1 : a ≤ m) (h2 : m ≤ b) : seg d a b = seg d a m ++ seg d m b := by
  unfold seg
  rw [← List.map_append]
  congr 1
  have := List.range'_append_1 (s := a) (m := m - a) (n := b - m)
  rw [show a + (m - a) = m by omega] at this
  rw [this]
  congr 1; omega
theorem seg_congr {d e : Nat → Nat} {a b : Nat} (h : ∀ k, a ≤ k → k < b → d k = e k) : seg d a b = seg e a b := by
  unfold seg
  apply List.map_congr_left
  intro k hk
  rw [List.mem_range'_1] at hk
  exact h k hk.1 (by omega)
theorem seg_shift (d : Nat → Nat) (a b c : Nat) : seg (fun k => d (k + c)) a b = seg d (a + c) (b + c) := by
  unfold seg
  rw [show b + c - (a + c) = b - a by omega, Nat.add_comm a c, ← List.map_add_range', List.map_map]
  apply List.map_congr_left
  intro k _
  simp [Nat.add_comm]
theorem mem_seg {d : Nat → Nat} {a b x : Nat} : x ∈ seg d a b ↔ ∃ k, a ≤ k ∧ k < b ∧ d k = x := by
  unfold seg
  rw [List.mem_map]
  constructor
  · rintro ⟨k, hk, rfl⟩
    rw [List.mem_range'_1] at hk
    exact ⟨k, hk.1, by omega, rfl⟩
  · rintro ⟨k, h1, h2, rfl⟩
    exact ⟨k, by rw [List.mem_range'_1]; omega, rfl⟩

/-! ### Turned: what lies in [a, m) and in [m, b) change places -/
def rot (d : Nat → Nat) (a m b : Nat) : Nat → Nat := fun k => if a ≤ k ∧ k < a + (b - m) then d (k + (m - a)) else if a + (b - m) ≤ k ∧ k < b then d (k - (b - m)) else d k
theorem rot_left (d : Nat → Nat) (a b : Nat) : rot d a a b = d := by
  funext k; unfold rot; grind
theorem rot_right (d : Nat → Nat) (a m : Nat) : rot d a m m = d := by
  funext k; unfold rot; grind
theorem rot_perm (d : Nat → Nat) {a0 a m b b0 : Nat} (h0 : a0 ≤ a) (h1 : a ≤ m) (h2 : m ≤ b) (h3 : b ≤ b0) : (seg (rot d a m b) a0 b0).Perm (seg d a0 b0) := by
  rw [seg_append _ h0 (show a ≤ b0 by omega), seg_append _ (show a ≤ b by omega) h3, seg_append _ (show a ≤ a + (b - m) by omega) (show a + (b - m) ≤ b by omega),
    seg_append d h0 (show a ≤ b0 by omega), seg_append d (show a ≤ b by omega) h3, seg_append d h1 h2]
  have e1 : seg (rot d a m b) a0 a = seg d a0 a := seg_congr (fun k hk1 hk2 => by unfold rot; grind)
  have e2 : seg (rot d a m b) b b0 = seg d b b0 := seg_congr (fun k hk1 hk2 => by unfold rot; grind)
  have e3 : seg (rot d a m b) a (a + (b - m)) = seg d m b := by
    have := seg_shift d a (a + (b - m)) (m - a)
    rw [show a + (m - a) = m by omega, show a + (b - m) + (m - a) = b by omega] at this
    rw [← this]
    exact seg_congr (fun k hk1 hk2 => by unfold rot; grind)
  have e4 : seg (rot d a m b) (a + (b - m)) b = seg d a m := by
    have := seg_shift (rot d a m b) a m (b - m)
    rw [show m + (b - m) = b by omega] at this
    rw [← this]
    exact seg_congr (fun k hk1 hk2 => by show rot d a m b (k + (b - m)) = d k; unfold rot; grind)
  rw [e1, e2, e3, e4]
  exact List.Perm.append_left _ (List.Perm.append_right _ List.perm_append_comm)
def sw (d : Nat → Nat) (i j : Nat) : Nat → Nat := fun k => if k = i then d j else if k = j then d i else d k
/-- One more place to the right. -/
theorem sw_rot_r (d : Nat → Nat) {a k : Nat} (h : a ≤ k) : sw (rot d a (a + 1) (k + 1)) k (k + 1) = rot d a (a + 1) (k + 2) := by
  funext t; unfold sw rot; grind
/-- One more place to the left. -/
theorem sw_rot_l (d : Nat → Nat) {k m : Nat} (h : k + 1 ≤ m) : sw (rot d (k + 1) m (m + 1)) (k + 1) k = rot d k m (m + 1) := by
  funext t; unfold sw rot; grind
/-- n places from a on and from b on change. -/
def swr (d : Nat → Nat) (a b n : Nat) : Nat → Nat := fun k => if a ≤ k ∧ k < a + n then d (k - a + b) else if b ≤ k ∧ k < b + n then d (k - b + a) else d k
theorem swr_zero (d : Nat → Nat) (a b : Nat) : swr d a b 0 = d := by
  funext k; unfold swr; grind
theorem swr_succ (d : Nat → Nat) {a b n i : Nat} (h : i < n) (hd : a + n ≤ b) : sw (swr d a b i) (a + i) (b + i) = swr d a b (i + 1) := by
  funext k; unfold sw swr; grind
theorem rot_big (d : Nat → Nat) {m i j : Nat} (h1 : i ≤ m) (h2 : j < i) (h0 : 0 < j) : rot (swr d (m - i) m j) (m - (i - j)) m (m + j) = rot d (m - i) m (m + j) := by
  funext k; unfold swr rot; grind
theorem rot_small (d : Nat → Nat) {m i j : Nat} (h1 : i ≤ m) (h2 : i < j) (h0 : 0 < i) : rot (swr d (m - i) (m + j - i) i) (m - i) m (m + (j - i)) = rot d (m - i) m (m + j) := by
  funext k; unfold swr rot; grind
theorem rot_even (d : Nat → Nat) {m i : Nat} (h1 : i ≤ m) : swr d (m - i) m i = rot d (m - i) m (m + i) := by
  funext k; unfold swr rot; grind

/-! ### Sorted pieces -/
def Sorted (lt : Nat → Nat → Bool) (d : Nat → Nat) (a b : Nat) : Prop := ∀ i j, a ≤ i → i < j → j < b → Ltn lt (d i) (d j)
def Lows (d : Nat → Nat) (a m b : Nat) : Prop := ∀ i j, a ≤ i → i < m → m ≤ j → j < b → d i < d j
structure Merged (lt : Nat → Nat → Bool) (d : Nat → Nat) (a b : Nat) (e : Nat → Nat) : Prop where
  off : ∀ k, k < a ∨ b ≤ k → e k = d k
  perm : (seg e a b).Perm (seg d a b)
  sorted : Sorted lt e a b
theorem Merged.mem {lt : Nat → Nat → Bool} {d e : Nat → Nat} {a b : Nat} (h : Merged lt d a b e) {k : Nat} (h1 : a ≤ k) (h2 : k < b) : ∃ k', a ≤ k' ∧ k' < b ∧ d k' = e k :=
  mem_seg.1 (h.perm.mem_iff.1 (mem_seg.2 ⟨k, h1, h2, rfl⟩))
theorem Merged.self {lt : Nat → Nat → Bool} {d : Nat → Nat} {a b : Nat} (h : Sorted lt d a b) : Merged lt d a b d := ⟨fun _ _ => rfl, List.Perm.refl _, h⟩
section
variable {lt : Nat → Nat → Bool} {d : Nat → Nat} {a m b : Nat}
/-- One number ahead is let in. -/
theorem merge_one_l (H : SWo lt) {i : Nat} (hs : Sorted lt d (a + 1) b) (hl : Lows d a (a + 1) b) (h1 : a + 1 ≤ i) (h2 : i ≤ b) (hlt : ∀ k, a + 1 ≤ k → k < i → lt (d k) (d a) = true) (hge : ∀ k, i ≤ k → k < b → lt (d k) (d a) = false) : Merged lt d a b (rot d a (a + 1) i) := by
  refine ⟨fun k hk => by unfold rot; grind, rot_perm d (Nat.le_refl _) (by omega) h1 h2, fun x y hx hxy hy => ?_⟩
  have key : ∀ k, a ≤ k → k < b → rot d a (a + 1) i k = if k < i - 1 then d (k + 1) else if k = i - 1 then d a else d k := by
    intro k hk1 hk2; unfold rot; grind
  rw [key x hx (by omega), key y (by omega) hy]
  by_cases c1 : y < i - 1
  · rw [if_pos (by omega), if_pos c1]
    exact hs _ _ (by omega) (by omega) (by omega)
  · rw [if_neg c1]
    by_cases c2 : y = i - 1
    · rw [if_pos (by omega), if_pos c2]
      exact .inl (hlt _ (by omega) (by omega))
    · rw [if_neg c2]
      by_cases c3 : x < i - 1
      · rw [if_pos c3]; exact hs _ _ (by omega) (by omega) hy
      · rw [if_neg c3]
        by_cases c4 : x = i - 1
        · rw [if_pos c4]
          exact Ltn.of_not (hl a y (Nat.le_refl _) (by omega) (by omega) hy) (hge y (by omega) hy)
        · rw [if_neg c4]; exact hs _ _ (by omega) hxy hy
/-- One number behind is let in. -/
theorem merge_one_r (H : SWo lt) {i : Nat} (hs : Sorted lt d a m) (hl : Lows d a m (m + 1)) (h1 : a ≤ i) (h2 : i ≤ m) (hle : ∀ k, a ≤ k → k < i → lt (d m) (d k) = false) (hgt : ∀ k, i ≤ k → k < m → lt (d m) (d k) = true) : Merged lt d a (m + 1) (rot d i m (m + 1)) := by
  refine ⟨fun k hk => by unfold rot; grind, rot_perm d h1 h2 (by omega) (Nat.le_refl _), fun x y hx hxy hy => ?_⟩
  have key : ∀ k, k < m + 1 → rot d i m (m + 1) k = if k < i then d k else if k = i then d m else d (k - 1) := by
    intro k hk2; unfold rot; grind
  rw [key x (by omega), key y (by omega)]
  by_cases c1 : y < i
  · rw [if_pos (by omega), if_pos c1]
    exact hs _ _ hx hxy (by omega)
  · rw [if_neg c1]
    by_cases c2 : y = i
    · rw [if_pos (by omega), if_pos c2]
      exact Ltn.of_not (hl x m hx (by omega) (Nat.le_refl _) (by omega)) (hle x hx (by omega))
    · rw [if_neg c2]
      by_cases c3 : x < i
      · rw [if_pos c3]; exact hs _ _ hx (by omega) (by omega)
      · rw [if_neg c3]
        by_cases c4 : x = i
        · rw [if_pos c4]
          exact .inl (hgt _ (by omega) (by omega))
        · rw [if_neg c4]; exact hs _ _ (by omega) (by omega) (by omega)
/-- How the two searches of one number go on. -/
theorem one_l_lt (H : SWo lt) {h k : Nat} (hs : Sorted lt d (a + 1) b) (hl : Lows d a (a + 1) b) (h1 : lt (d h) (d a) = true) (hh : h < b) (hk : a + 1 ≤ k) (hkh : k ≤ h) : lt (d k) (d a) = true := by
  by_cases e : k = h
  · rw [e]; exact h1
  · exact Ltn.lt_of (hl a k (Nat.le_refl _) (by omega) hk (by omega)) (Ltn.trans H (hs k h hk (by omega) hh) (.inl h1))
theorem one_l_ge (H : SWo lt) {h k : Nat} (hs : Sorted lt d (a + 1) b) (hl : Lows d a (a + 1) b) (h1 : lt (d h) (d a) = false) (hh : a + 1 ≤ h) (hk : k < b) (hkh : h ≤ k) : lt (d k) (d a) = false := by
  by_cases e : k = h
  · rw [e]; exact h1
  · exact Ltn.not_of H (Ltn.trans H (Ltn.of_not (hl a h (Nat.le_refl _) (by omega) hh (by omega)) h1) (hs h k hh (by omega) hk))
theorem one_r_le (H : SWo lt) {h k : Nat} (hs : Sorted lt d a m) (hl : Lows d a m (m + 1)) (h1 : lt (d m) (d h) = false) (hh : h < m) (hk : a ≤ k) (hkh : k ≤ h) : lt (d m) (d k) = false := by
  by_cases e : k = h
  · rw [e]; exact h1
  · exact Ltn.not_of H (Ltn.trans H (hs k h hk (by omega) hh) (Ltn.of_not (hl h m (by omega) hh (Nat.le_refl _) (by omega)) h1))
theorem one_r_gt (H : SWo lt) {h k : Nat} (hs : Sorted lt d a m) (hl : Lows d a m (m + 1)) (h1 : lt (d m) (d h) = true) (hh : a ≤ h) (hk : k < m) (hkh : h ≤ k) : lt (d m) (d k) = true := by
  by_cases e : k = h
  · rw [e]; exact h1
  · exact Ltn.lt_of (hl k m (by omega) hk (Nat.le_refl _) (by omega)) (Ltn.trans H (.inl h1) (hs h k hh (by omega) hk))
/-- How the search of the middle goes on: c in the left piece, q - c in the right one. -/
theorem mid_ge (H : SWo lt) {q c k : Nat} (hs : Sorted lt d a m) (hs2 : Sorted lt d m b) (hl : Lows d a m b) (h1 : lt (d (q - c)) (d c) = false) (hc : c < m) (hk : a ≤ k) (hkc : k ≤ c) (hq : m ≤ q - c) (hqb : q - k < b) (hqc : c ≤ q) : lt (d (q - k)) (d k) = false := by
  by_cases e : k = c
  · rw [e]; exact h1
  · exact Ltn.not_of H (Ltn.trans H (hs k c hk (by omega) hc) (Ltn.trans H (Ltn.of_not (hl c (q - c) (by omega) hc hq (by omega)) h1) (hs2 (q - c) (q - k) hq (by omega) hqb)))
theorem mid_lt (H : SWo lt) {q c k : Nat} (hs : Sorted lt d a m) (hs2 : Sorted lt d m b) (hl : Lows d a m b) (h1 : lt (d (q - c)) (d c) = true) (hc : a ≤ c) (hk : k < m) (hkc : c ≤ k) (hq : m ≤ q - k) (hqb : q - c < b) (hqc : k ≤ q) : lt (d (q - k)) (d k) = true := by
  by_cases e : k = c
  · rw [e]; exact h1
  · exact Ltn.lt_of (hl k (q - k) (by omega) hk hq (by omega)) (Ltn.trans H (hs2 (q - k) (q - c) hq (by omega) hqb) (Ltn.trans H (.inl h1) (hs c k hc (by omega) hk)))
/-- The middle is found: behind the turn both halves are to be merged, and all of the left one lies ahead of all of the right one. -/
theorem merge_mid (H : SWo lt) {s t md : Nat} (hs : Sorted lt d a m) (hs2 : Sorted lt d m b) (hl : Lows d a m b) (h1 : a ≤ s) (h2 : s ≤ m) (h3 : m ≤ t) (h4 : t ≤ b) (hmd : md = s + (t - m)) (hm : md + (m - s) = t)
    (hlow : a < s → t < b → lt (d t) (d (s - 1)) = false) (hhigh : s < m → m < t → lt (d (t - 1)) (d s) = true) :
    Sorted lt (rot d s m t) a s ∧ Sorted lt (rot d s m t) s md ∧ Lows (rot d s m t) a s md ∧ Sorted lt (rot d s m t) md t ∧ Sorted lt (rot d s m t) t b ∧ Lows (rot d s m t) md t b ∧ (∀ i j, a ≤ i → i < md → md ≤ j → j < b → Ltn lt (rot d s m t i) (rot d s m t j)) := by
  have k1 : ∀ k, k < s → rot d s m t k = d k := by intro k hk; unfold rot; grind
  have k2 : ∀ k, s ≤ k → k < md → rot d s m t k = d (k + (m - s)) := by intro k hk hk2; unfold rot; grind
  have k3 : ∀ k, md ≤ k → k < t → rot d s m t k = d (k - (t - m)) := by intro k hk hk2; unfold rot; grind
  have k4 : ∀ k, t ≤ k → rot d s m t k = d k := by intro k hk; unfold rot; grind
  have le1 : ∀ i j, a ≤ i → i ≤ j → j < m → Ltn lt (d i) (d j) ∨ d i = d j := by
    intro i j hi hij hj
    by_cases e : i = j
    · right; rw [e]
    · left; exact hs i j hi (by omega) hj
  have le2 : ∀ i j, m ≤ i → i ≤ j → j < b → Ltn lt (d i) (d j) ∨ d i = d j := by
    intro i j hi hij hj
    by_cases e : i = j
    · right; rw [e]
    · left; exact hs2 i j hi (by omega) hj
  have glue : ∀ x x' y' y, (Ltn lt x x' ∨ x = x') → Ltn lt x' y' → (Ltn lt y' y ∨ y' = y) → Ltn lt x y := by
    rintro x x' y' y (h | rfl) h' (h'' | rfl)
    · exact Ltn.trans H h (Ltn.trans H h' h'')
    · exact Ltn.trans H h h'
    · exact Ltn.trans H h' h''
    · exact h'
  refine ⟨fun i j hi hij hj => ?_, fun i j hi hij hj => ?_, fun i j hi him hj hjb => ?_, fun i j hi hij hj => ?_, fun i j hi hij hj => ?_, fun i j hi him hj hjb => ?_, fun i j hi him hj hjb => ?_⟩
  · rw [k1 i (by omega), k1 j hj]; exact hs i j hi hij (by omega)
  · rw [k2 i hi (by omega), k2 j (by omega) hj]; exact hs2 _ _ (by omega) (by omega) (by omega)
  · rw [k1 i him, k2 j hj hjb]; exact hl _ _ hi (by omega) (by omega) (by omega)
  · rw [k3 i hi (by omega), k3 j (by omega) hj]; exact hs _ _ (by omega) (by omega) (by omega)
  · rw [k4 i hi, k4 j (by omega)]; exact hs2 i j (by omega) hij hj
  · rw [k3 i hi him, k4 j hj]; exact hl _ _ (by omega) (by omega) (by omega) hjb
  · by_cases c1 : i < s <;> by_cases c2 : j < t
    · rw [k1 i c1, k3 j hj c2]; exact hs _ _ hi (by omega) (by omega)
    · rw [k1 i c1, k4 j (by omega)]
      have := hlow (by omega) (by omega)
      exact glue _ _ _ _ (le1 i (s - 1) hi (by omega) (by omega)) (Ltn.of_not (hl (s - 1) t (by omega) (by omega) h3 (by omega)) this) (le2 t j h3 (by omega) hjb)
    · rw [k2 i (by omega) him, k3 j hj c2]
      have := hhigh (by omega) (by omega)
      exact glue _ _ _ _ (le2 _ (t - 1) (by omega) (by omega) (by omega)) (.inl this) (le1 s _ (by omega) (by omega) (by omega))
    · rw [k2 i (by omega) him, k4 j (by omega)]; exact hs2 _ _ (by omega) (by omega) hjb
/-- Both halves merged: the whole is. -/
theorem merge_both {md : Nat} {d1 d2 d3 : Nat → Nat} (h1 : a ≤ md) (h2 : md ≤ b) (hoff : ∀ k, k < a ∨ b ≤ k → d1 k = d k) (hp : (seg d1 a b).Perm (seg d a b)) (hsep : ∀ i j, a ≤ i → i < md → md ≤ j → j < b → Ltn lt (d1 i) (d1 j))
    (m1 : Merged lt d1 a md d2) (m2 : Merged lt d2 md b d3) : Merged lt d a b d3 := by
  refine ⟨fun k hk => ?_, ?_, fun i j hi hij hj => ?_⟩
  · rw [m2.off k (by omega), m1.off k (by omega), hoff k hk]
  · refine List.Perm.trans ?_ hp
    rw [seg_append d3 h1 h2, seg_append d1 h1 h2]
    have e1 : seg d3 a md = seg d2 a md := seg_congr (fun k _ hk => m2.off k (.inl hk))
    have e2 : seg d2 md b = seg d1 md b := seg_congr (fun k hk _ => m1.off k (.inr hk))
    rw [e1]
    exact m1.perm.append (e2 ▸ m2.perm)
  · by_cases c1 : j < md
    · rw [m2.off i (.inl (by omega)), m2.off j (.inl c1)]; exact m1.sorted i j hi hij c1
    · by_cases c2 : md ≤ i
      · exact m2.sorted i j c2 hij hj
      · rw [m2.off i (.inl (by omega))]
        obtain ⟨i', hi1, hi2, hi3⟩ := m1.mem hi (show i < md by omega)
        obtain ⟨j', hj1, hj2, hj3⟩ := m2.mem (show md ≤ j by omega) hj
        rw [← hi3, ← hj3, m1.off j' (.inr hj1)]
        exact hsep i' j' hi1 hi2 hj1 hj2
end
end Go.Proofs.YtamiacmnobklaaaGreatDoor
/- Plain mathematics: what the library's stable sort leaves of files, put in the order of their paths, is the document's order. Of no program. -/
set_option linter.unusedVariables false
namespace Go.Proofs.YtamiacmnobklaaaGreatDoor
open Go.RowKit

def fileN (xs : List FileD) (i : Nat) : FileD := xs.getD i ⟨[], 0, []⟩
def cvF (xs : List FileD) (i k : Nat) : Int := ordS (fileN xs i).path (fileN xs k).path
def ltF (xs : List FileD) (i k : Nat) : Bool := decide (cvF xs i k < 0)
theorem ltF_swo (xs : List FileD) : SWo (ltF xs) := by
  refine ⟨fun x => ?_, fun x y z h k => ?_, fun x y z h k => ?_⟩
  · unfold ltF cvF; rw [ordS_self]; rfl
  · unfold ltF cvF at *
    rw [decide_eq_true_eq] at *
    have T := ordS_trans _ _ _ (show ordS (fileN xs x).path (fileN xs y).path ≤ 0 by omega) (show ordS (fileN xs y).path (fileN xs z).path ≤ 0 by omega)
    rcases Int.lt_or_eq_of_le T.1 with c | c
    · exact c
    · have := (T.2 c).1; omega
  · unfold ltF cvF at *
    rw [decide_eq_false_iff_not] at *
    have e1 := ordS_neg (fileN xs x).path (fileN xs y).path
    have e2 := ordS_neg (fileN xs y).path (fileN xs z).path
    have e3 := ordS_neg (fileN xs x).path (fileN xs z).path
    have T := ordS_trans (fileN xs z).path (fileN xs y).path (fileN xs x).path (by omega) (by omega)
    omega
/-- Place n let in behind all that does not stand behind it. -/
def insI (xs : List FileD) (n : Nat) : List Nat → List Nat
  | [] => [n]
  | y :: r => if cvF xs n y < 0 then n :: y :: r else y :: insI xs n r
theorem insI_map (xs : List FileD) (n : Nat) : ∀ l : List Nat, insS (fileN xs n) (l.map (fileN xs)) = (insI xs n l).map (fileN xs)
  | [] => rfl
  | y :: r => by
    show (if ordS (fileN xs n).path (fileN xs y).path < 0 then _ else _) = List.map _ (if ordS (fileN xs n).path (fileN xs y).path < 0 then _ else _)
    split
    · rfl
    · rw [insI_map xs n r]; rfl
theorem insI_perm (xs : List FileD) (n : Nat) : ∀ l : List Nat, (insI xs n l).Perm (n :: l)
  | [] => List.Perm.refl _
  | y :: r => by
    unfold insI
    split
    · exact List.Perm.refl _
    · exact ((insI_perm xs n r).cons y).trans (List.Perm.swap n y r)
theorem insI_sorted (xs : List FileD) (n : Nat) : ∀ l : List Nat, (∀ y ∈ l, y < n) → l.Pairwise (Ltn (ltF xs)) → (insI xs n l).Pairwise (Ltn (ltF xs))
  | [], _, _ => List.pairwise_singleton _ _
  | y :: r, hl, hp => by
    have hy := hl y (by simp)
    rw [List.pairwise_cons] at hp
    unfold insI
    split
    · rename_i h
      have hny : Ltn (ltF xs) n y := .inl (by unfold ltF; simpa using h)
      rw [List.pairwise_cons, List.pairwise_cons]
      refine ⟨fun z hz => ?_, hp⟩
      simp at hz
      rcases hz with rfl | hz
      · exact hny
      · exact hny.trans (ltF_swo xs) (hp.1 z hz)
    · rename_i h
      rw [List.pairwise_cons]
      refine ⟨fun z hz => ?_, insI_sorted xs n r (fun z hz => hl z (by simp [hz])) hp.2⟩
      rw [(insI_perm xs n r).mem_iff] at hz
      simp at hz
      rcases hz with rfl | hz
      · exact .inr ⟨by unfold ltF; simpa using h, hy⟩
      · exact hp.1 z hz
theorem sort_ord (xs : List FileD) : ∀ n, n ≤ xs.length → ∃ ord : List Nat, ord.Perm (List.range n) ∧ ord.Pairwise (Ltn (ltF xs)) ∧ sortS (xs.take n) = ord.map (fileN xs) := by
  intro n
  induction n with
  | zero => intro _; exact ⟨[], by simp, List.Pairwise.nil, rfl⟩
  | succ n ih =>
    intro hn
    obtain ⟨ord, h1, h2, h3⟩ := ih (by omega)
    have hlt : n < xs.length := by omega
    have ef : fileN xs n = xs[n] := by unfold fileN; simp [List.getD_eq_getElem?_getD, List.getElem?_eq_getElem hlt]
    refine ⟨insI xs n ord, ?_, insI_sorted xs n ord (fun y hy => by simpa using h1.mem_iff.1 hy) h2, ?_⟩
    · refine (insI_perm xs n ord).trans ((h1.cons n).trans ?_)
      rw [List.range_succ]
      exact (List.perm_append_singleton n (List.range n)).symm
    · rw [List.take_add_one, List.getElem?_eq_getElem hlt]
      show sortS (xs.take n ++ [xs[n]]) = _
      have : sortS (xs.take n ++ [xs[n]]) = insS xs[n] (sortS (xs.take n)) := by unfold sortS; rw [List.foldl_append]; rfl
      rw [this, h3, ← ef, insI_map]
theorem sort_is (xs : List FileD) (d : Nat → Nat) (hs : Sorted (ltF xs) d 0 xs.length) (hp : (seg d 0 xs.length).Perm (seg (fun k => k) 0 xs.length)) : (seg d 0 xs.length).map (fileN xs) = sortS xs := by
  obtain ⟨ord, h1, h2, h3⟩ := sort_ord xs xs.length (Nat.le_refl _)
  rw [List.take_length] at h3
  rw [h3]
  congr 1
  have e0 : seg (fun k => k) 0 xs.length = List.range xs.length := by
    unfold seg
    rw [Nat.sub_zero, List.range_eq_range']
    exact List.map_id _
  rw [e0] at hp
  refine List.Perm.eq_of_pairwise (le := Ltn (ltF xs)) (fun a b _ _ k1 k2 => absurd (k1.trans (ltF_swo xs) k2) (Ltn.irr (ltF_swo xs) a)) ?_ h2 (hp.trans h1.symm)
  unfold seg
  rw [Nat.sub_zero, List.pairwise_map]
  refine List.Pairwise.imp_of_mem ?_ (List.pairwise_lt_range' (s := 0) (n := xs.length))
  intro a b ha hb hab
  rw [List.mem_range'_1] at hb
  exact hs a b (Nat.zero_le _) hab (by omega)
theorem seg_len (d : Nat → Nat) (n : Nat) : (seg d 0 n).length = n := by unfold seg; simp
theorem seg_get (d : Nat → Nat) (n k : Nat) (h : k < (seg d 0 n).length) : (seg d 0 n)[k] = d k := by
  unfold seg; simp
end Go.Proofs.YtamiacmnobklaaaGreatDoor

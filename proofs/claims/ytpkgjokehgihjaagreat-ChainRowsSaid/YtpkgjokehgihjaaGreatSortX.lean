/- Several texts in one: SortMath, SortAW, SortBW, SortCW, SortDW. -/
import Derived.Test.YtpkgjokehgihjaaGreatFrame
import Derived.Test.YtpkgjokehgihjaaGreatGen
import Derived.Test.YtpkgjokehgihjaaGreatOwnL
import Derived.Test.YtpkgjokehgihjaaGreatProg
import Derived.BigQuiet
import Derived.BigRegion
import Derived.ChangeAlike
import Derived.Deep.QuietTactic
import Derived.RegionTactic
import Derived.Shelf.Abstract
/- Plain mathematics of the library's stable sort over numbers: functions from places to numbers, turned, merged. Of no program. -/
set_option linter.unusedVariables false
namespace Go.Proofs.YtpkgjokehgihjaaGreat

/-! ### An order whose ties the numbers break -/
structure SWo (lt : Nat → Nat → Bool) : Prop where
  irr : ∀ x, lt x x = false
  tr : ∀ x y z, lt x y = true → lt y z = true → lt x z = true
  neg : ∀ x y z, lt x y = false → lt y z = false → lt x z = false
def Ltn (lt : Nat → Nat → Bool) (x y : Nat) : Prop := lt x y = true ∨ (lt y x = false ∧ x < y)
section
variable {lt : Nat → Nat → Bool}
theorem SWo.asym (H : SWo lt) {x y : Nat} (h : lt x y = true) : lt y x = false := by
  cases hh : lt y x with
  | false => rfl
  | true => have := H.tr x y x h hh; rw [H.irr] at this; cases this
theorem Ltn.trans (H : SWo lt) {x y z : Nat} (h : Ltn lt x y) (k : Ltn lt y z) : Ltn lt x z := by
  rcases h with h | ⟨h, h'⟩ <;> rcases k with k | ⟨k, k'⟩
  · exact .inl (H.tr _ _ _ h k)
  · left
    cases e : lt x z with
    | true => rfl
    | false => have := H.neg x z y e k; rw [this] at h; cases h
  · left
    cases e : lt x z with
    | true => rfl
    | false => have := H.neg y x z h e; rw [this] at k; cases k
  · exact .inr ⟨H.neg _ _ _ k h, Nat.lt_trans h' k'⟩
theorem Ltn.irr (H : SWo lt) (x : Nat) : ¬ Ltn lt x x := by
  rintro (h | ⟨_, h⟩)
  · rw [H.irr] at h; cases h
  · omega
/-- Of numbers y behind x: y is told ahead only by the order itself. -/
theorem Ltn.of_not {x y : Nat} (hn : x < y) (h : lt y x = false) : Ltn lt x y := .inr ⟨h, hn⟩
theorem Ltn.lt_of {x y : Nat} (hn : x < y) (h : Ltn lt y x) : lt y x = true := by
  rcases h with h | ⟨_, h⟩
  · exact h
  · omega
theorem Ltn.not_of (H : SWo lt) {x y : Nat} (h : Ltn lt x y) : lt y x = false := by
  rcases h with h | ⟨h, _⟩
  · exact H.asym h
  · exact h
end

/-! ### Pieces -/
def seg (d : Nat → Nat) (a b : Nat) : List Nat := (List.range' a (b - a)).map d
theorem seg_append (d : Nat → Nat) {a m b : Nat} (h1 : a ≤ m) (h2 : m ≤ b) : seg d a b = seg d a m ++ seg d m b := by
  unfold seg
  rw [← List.map_append]
  congr 1
  have := List.range'_append_1 (s := a) (m := m - a) (n := b - m)
  rw [show a + (m - a) = m by omega] at this
  rw [this]
  congr 1; omega
theorem seg_congr {d e : Nat → Nat} {a b : Nat} (h : ∀ k, a ≤ k → k < b → d k = e k) : seg d a b = seg e a b := by
  unfold seg
  apply List.map_congr_left
  intro k hk
  rw [List.mem_range'_1] at hk
  exact h k hk.1 (by omega)
theorem seg_shift (d : Nat → Nat) (a b c : Nat) : seg (fun k => d (k + c)) a b = seg d (a + c) (b + c) := by
  unfold seg
  rw [show b + c - (a + c) = b - a by omega, Nat.add_comm a c, ← List.map_add_range', List.map_map]
  apply List.map_congr_left
  intro k _
  simp [Nat.add_comm]
theorem mem_seg {d : Nat → Nat} {a b x : Nat} : x ∈ seg d a b ↔ ∃ k, a ≤ k ∧ k < b ∧ d k = x := by
  unfold seg
  rw [List.mem_map]
  constructor
  · rintro ⟨k, hk, rfl⟩
    rw [List.mem_range'_1] at hk
    exact ⟨k, hk.1, by omega, rfl⟩
  · rintro ⟨k, h1, h2, rfl⟩
    exact ⟨k, by rw [List.mem_range'_1]; omega, rfl⟩

/-! ### Turned: what lies in [a, m) and in [m, b) change places -/
def rot (d : Nat → Nat) (a m b : Nat) : Nat → Nat := fun k => if a ≤ k ∧ k < a + (b - m) then d (k + (m - a)) else if a + (b - m) ≤ k ∧ k < b then d (k - (b - m)) else d k
theorem rot_left (d : Nat → Nat) (a b : Nat) : rot d a a b = d := by
  funext k; unfold rot; grind
theorem rot_right (d : Nat → Nat) (a m : Nat) : rot d a m m = d := by
  funext k; unfold rot; grind
theorem rot_perm (d : Nat → Nat) {a0 a m b b0 : Nat} (h0 : a0 ≤ a) (h1 : a ≤ m) (h2 : m ≤ b) (h3 : b ≤ b0) : (seg (rot d a m b) a0 b0).Perm (seg d a0 b0) := by
  rw [seg_append _ h0 (show a ≤ b0 by omega), seg_append _ (show a ≤ b by omega) h3, seg_append _ (show a ≤ a + (b - m) by omega) (show a + (b - m) ≤ b by omega),
    seg_append d h0 (show a ≤ b0 by omega), seg_append d (show a ≤ b by omega) h3, seg_append d h1 h2]
  have e1 : seg (rot d a m b) a0 a = seg d a0 a := seg_congr (fun k hk1 hk2 => by unfold rot; grind)
  have e2 : seg (rot d a m b) b b0 = seg d b b0 := seg_congr (fun k hk1 hk2 => by unfold rot; grind)
  have e3 : seg (rot d a m b) a (a + (b - m)) = seg d m b := by
    have := seg_shift d a (a + (b - m)) (m - a)
    rw [show a + (m - a) = m by omega, show a + (b - m) + (m - a) = b by omega] at this
    rw [← this]
    exact seg_congr (fun k hk1 hk2 => by unfold rot; grind)
  have e4 : seg (rot d a m b) (a + (b - m)) b = seg d a m := by
    have := seg_shift (rot d a m b) a m (b - m)
    rw [show m + (b - m) = b by omega] at this
    rw [← this]
    exact seg_congr (fun k hk1 hk2 => by show rot d a m b (k + (b - m)) = d k; unfold rot; grind)
  rw [e1, e2, e3, e4]
  exact List.Perm.append_left _ (List.Perm.append_right _ List.perm_append_comm)
def sw (d : Nat → Nat) (i j : Nat) : Nat → Nat := fun k => if k = i then d j else if k = j then d i else d k
/-- One more place to the right. -/
theorem sw_rot_r (d : Nat → Nat) {a k : Nat} (h : a ≤ k) : sw (rot d a (a + 1) (k + 1)) k (k + 1) = rot d a (a + 1) (k + 2) := by
  funext t; unfold sw rot; grind
/-- One more place to the left. -/
theorem sw_rot_l (d : Nat → Nat) {k m : Nat} (h : k + 1 ≤ m) : sw (rot d (k + 1) m (m + 1)) (k + 1) k = rot d k m (m + 1) := by
  funext t; unfold sw rot; grind
/-- n places from a on and from b on change. -/
def swr (d : Nat → Nat) (a b n : Nat) : Nat → Nat := fun k => if a ≤ k ∧ k < a + n then d (k - a + b) else if b ≤ k ∧ k < b + n then d (k - b + a) else d k
theorem swr_zero (d : Nat → Nat) (a b : Nat) : swr d a b 0 = d := by
  funext k; unfold swr; grind
theorem swr_succ (d : Nat → Nat) {a b n i : Nat} (h : i < n) (hd : a + n ≤ b) : sw (swr d a b i) (a + i) (b + i) = swr d a b (i + 1) := by
  funext k; unfold sw swr; grind
theorem rot_big (d : Nat → Nat) {m i j : Nat} (h1 : i ≤ m) (h2 : j < i) (h0 : 0 < j) : rot (swr d (m - i) m j) (m - (i - j)) m (m + j) = rot d (m - i) m (m + j) := by
  funext k; unfold swr rot; grind
theorem rot_small (d : Nat → Nat) {m i j : Nat} (h1 : i ≤ m) (h2 : i < j) (h0 : 0 < i) : rot (swr d (m - i) (m + j - i) i) (m - i) m (m + (j - i)) = rot d (m - i) m (m + j) := by
  funext k; unfold swr rot; grind
theorem rot_even (d : Nat → Nat) {m i : Nat} (h1 : i ≤ m) : swr d (m - i) m i = rot d (m - i) m (m + i) := by
  funext k; unfold swr rot; grind

/-! ### Sorted pieces -/
def Sorted (lt : Nat → Nat → Bool) (d : Nat → Nat) (a b : Nat) : Prop := ∀ i j, a ≤ i → i < j → j < b → Ltn lt (d i) (d j)
def Lows (d : Nat → Nat) (a m b : Nat) : Prop := ∀ i j, a ≤ i → i < m → m ≤ j → j < b → d i < d j
structure Merged (lt : Nat → Nat → Bool) (d : Nat → Nat) (a b : Nat) (e : Nat → Nat) : Prop where
  off : ∀ k, k < a ∨ b ≤ k → e k = d k
  perm : (seg e a b).Perm (seg d a b)
  sorted : Sorted lt e a b
theorem Merged.mem {lt : Nat → Nat → Bool} {d e : Nat → Nat} {a b : Nat} (h : Merged lt d a b e) {k : Nat} (h1 : a ≤ k) (h2 : k < b) : ∃ k', a ≤ k' ∧ k' < b ∧ d k' = e k :=
  mem_seg.1 (h.perm.mem_iff.1 (mem_seg.2 ⟨k, h1, h2, rfl⟩))
theorem Merged.self {lt : Nat → Nat → Bool} {d : Nat → Nat} {a b : Nat} (h : Sorted lt d a b) : Merged lt d a b d := ⟨fun _ _ => rfl, List.Perm.refl _, h⟩
section
variable {lt : Nat → Nat → Bool} {d : Nat → Nat} {a m b : Nat}
/-- One number ahead is let in. -/
theorem merge_one_l (H : SWo lt) {i : Nat} (hs : Sorted lt d (a + 1) b) (hl : Lows d a (a + 1) b) (h1 : a + 1 ≤ i) (h2 : i ≤ b) (hlt : ∀ k, a + 1 ≤ k → k < i → lt (d k) (d a) = true) (hge : ∀ k, i ≤ k → k < b → lt (d k) (d a) = false) : Merged lt d a b (rot d a (a + 1) i) := by
  refine ⟨fun k hk => by unfold rot; grind, rot_perm d (Nat.le_refl _) (by omega) h1 h2, fun x y hx hxy hy => ?_⟩
  have key : ∀ k, a ≤ k → k < b → rot d a (a + 1) i k = if k < i - 1 then d (k + 1) else if k = i - 1 then d a else d k := by
    intro k hk1 hk2; unfold rot; grind
  rw [key x hx (by omega), key y (by omega) hy]
  by_cases c1 : y < i - 1
  · rw [if_pos (by omega), if_pos c1]
    exact hs _ _ (by omega) (by omega) (by omega)
  · rw [if_neg c1]
    by_cases c2 : y = i - 1
    · rw [if_pos (by omega), if_pos c2]
      exact .inl (hlt _ (by omega) (by omega))
    · rw [if_neg c2]
      by_cases c3 : x < i - 1
      · rw [if_pos c3]; exact hs _ _ (by omega) (by omega) hy
      · rw [if_neg c3]
        by_cases c4 : x = i - 1
        · rw [if_pos c4]
          exact Ltn.of_not (hl a y (Nat.le_refl _) (by omega) (by omega) hy) (hge y (by omega) hy)
        · rw [if_neg c4]; exact hs _ _ (by omega) hxy hy
/-- One number behind is let in. -/
theorem merge_one_r (H : SWo lt) {i : Nat} (hs : Sorted lt d a m) (hl : Lows d a m (m + 1)) (h1 : a ≤ i) (h2 : i ≤ m) (hle : ∀ k, a ≤ k → k < i → lt (d m) (d k) = false) (hgt : ∀ k, i ≤ k → k < m → lt (d m) (d k) = true) : Merged lt d a (m + 1) (rot d i m (m + 1)) := by
  refine ⟨fun k hk => by unfold rot; grind, rot_perm d h1 h2 (by omega) (Nat.le_refl _), fun x y hx hxy hy => ?_⟩
  have key : ∀ k, k < m + 1 → rot d i m (m + 1) k = if k < i then d k else if k = i then d m else d (k - 1) := by
    intro k hk2; unfold rot; grind
  rw [key x (by omega), key y (by omega)]
  by_cases c1 : y < i
  · rw [if_pos (by omega), if_pos c1]
    exact hs _ _ hx hxy (by omega)
  · rw [if_neg c1]
    by_cases c2 : y = i
    · rw [if_pos (by omega), if_pos c2]
      exact Ltn.of_not (hl x m hx (by omega) (Nat.le_refl _) (by omega)) (hle x hx (by omega))
    · rw [if_neg c2]
      by_cases c3 : x < i
      · rw [if_pos c3]; exact hs _ _ hx (by omega) (by omega)
      · rw [if_neg c3]
        by_cases c4 : x = i
        · rw [if_pos c4]
          exact .inl (hgt _ (by omega) (by omega))
        · rw [if_neg c4]; exact hs _ _ (by omega) (by omega) (by omega)
/-- How the two searches of one number go on. -/
theorem one_l_lt (H : SWo lt) {h k : Nat} (hs : Sorted lt d (a + 1) b) (hl : Lows d a (a + 1) b) (h1 : lt (d h) (d a) = true) (hh : h < b) (hk : a + 1 ≤ k) (hkh : k ≤ h) : lt (d k) (d a) = true := by
  by_cases e : k = h
  · rw [e]; exact h1
  · exact Ltn.lt_of (hl a k (Nat.le_refl _) (by omega) hk (by omega)) (Ltn.trans H (hs k h hk (by omega) hh) (.inl h1))
theorem one_l_ge (H : SWo lt) {h k : Nat} (hs : Sorted lt d (a + 1) b) (hl : Lows d a (a + 1) b) (h1 : lt (d h) (d a) = false) (hh : a + 1 ≤ h) (hk : k < b) (hkh : h ≤ k) : lt (d k) (d a) = false := by
  by_cases e : k = h
  · rw [e]; exact h1
  · exact Ltn.not_of H (Ltn.trans H (Ltn.of_not (hl a h (Nat.le_refl _) (by omega) hh (by omega)) h1) (hs h k hh (by omega) hk))
theorem one_r_le (H : SWo lt) {h k : Nat} (hs : Sorted lt d a m) (hl : Lows d a m (m + 1)) (h1 : lt (d m) (d h) = false) (hh : h < m) (hk : a ≤ k) (hkh : k ≤ h) : lt (d m) (d k) = false := by
  by_cases e : k = h
  · rw [e]; exact h1
  · exact Ltn.not_of H (Ltn.trans H (hs k h hk (by omega) hh) (Ltn.of_not (hl h m (by omega) hh (Nat.le_refl _) (by omega)) h1))
theorem one_r_gt (H : SWo lt) {h k : Nat} (hs : Sorted lt d a m) (hl : Lows d a m (m + 1)) (h1 : lt (d m) (d h) = true) (hh : a ≤ h) (hk : k < m) (hkh : h ≤ k) : lt (d m) (d k) = true := by
  by_cases e : k = h
  · rw [e]; exact h1
  · exact Ltn.lt_of (hl k m (by omega) hk (Nat.le_refl _) (by omega)) (Ltn.trans H (.inl h1) (hs h k hh (by omega) hk))
/-- How the search of the middle goes on: c in the left piece, q - c in the right one. -/
theorem mid_ge (H : SWo lt) {q c k : Nat} (hs : Sorted lt d a m) (hs2 : Sorted lt d m b) (hl : Lows d a m b) (h1 : lt (d (q - c)) (d c) = false) (hc : c < m) (hk : a ≤ k) (hkc : k ≤ c) (hq : m ≤ q - c) (hqb : q - k < b) (hqc : c ≤ q) : lt (d (q - k)) (d k) = false := by
  by_cases e : k = c
  · rw [e]; exact h1
  · exact Ltn.not_of H (Ltn.trans H (hs k c hk (by omega) hc) (Ltn.trans H (Ltn.of_not (hl c (q - c) (by omega) hc hq (by omega)) h1) (hs2 (q - c) (q - k) hq (by omega) hqb)))
theorem mid_lt (H : SWo lt) {q c k : Nat} (hs : Sorted lt d a m) (hs2 : Sorted lt d m b) (hl : Lows d a m b) (h1 : lt (d (q - c)) (d c) = true) (hc : a ≤ c) (hk : k < m) (hkc : c ≤ k) (hq : m ≤ q - k) (hqb : q - c < b) (hqc : k ≤ q) : lt (d (q - k)) (d k) = true := by
  by_cases e : k = c
  · rw [e]; exact h1
  · exact Ltn.lt_of (hl k (q - k) (by omega) hk hq (by omega)) (Ltn.trans H (hs2 (q - k) (q - c) hq (by omega) hqb) (Ltn.trans H (.inl h1) (hs c k hc (by omega) hk)))
/-- The middle is found: behind the turn both halves are to be merged, and all of the left one lies ahead of all of the right one. -/
theorem merge_mid (H : SWo lt) {s t md : Nat} (hs : Sorted lt d a m) (hs2 : Sorted lt d m b) (hl : Lows d a m b) (h1 : a ≤ s) (h2 : s ≤ m) (h3 : m ≤ t) (h4 : t ≤ b) (hmd : md = s + (t - m)) (hm : md + (m - s) = t)
    (hlow : a < s → t < b → lt (d t) (d (s - 1)) = false) (hhigh : s < m → m < t → lt (d (t - 1)) (d s) = true) :
    Sorted lt (rot d s m t) a s ∧ Sorted lt (rot d s m t) s md ∧ Lows (rot d s m t) a s md ∧ Sorted lt (rot d s m t) md t ∧ Sorted lt (rot d s m t) t b ∧ Lows (rot d s m t) md t b ∧ (∀ i j, a ≤ i → i < md → md ≤ j → j < b → Ltn lt (rot d s m t i) (rot d s m t j)) := by
  have k1 : ∀ k, k < s → rot d s m t k = d k := by intro k hk; unfold rot; grind
  have k2 : ∀ k, s ≤ k → k < md → rot d s m t k = d (k + (m - s)) := by intro k hk hk2; unfold rot; grind
  have k3 : ∀ k, md ≤ k → k < t → rot d s m t k = d (k - (t - m)) := by intro k hk hk2; unfold rot; grind
  have k4 : ∀ k, t ≤ k → rot d s m t k = d k := by intro k hk; unfold rot; grind
  have le1 : ∀ i j, a ≤ i → i ≤ j → j < m → Ltn lt (d i) (d j) ∨ d i = d j := by
    intro i j hi hij hj
    by_cases e : i = j
    · right; rw [e]
    · left; exact hs i j hi (by omega) hj
  have le2 : ∀ i j, m ≤ i → i ≤ j → j < b → Ltn lt (d i) (d j) ∨ d i = d j := by
    intro i j hi hij hj
    by_cases e : i = j
    · right; rw [e]
    · left; exact hs2 i j hi (by omega) hj
  have glue : ∀ x x' y' y, (Ltn lt x x' ∨ x = x') → Ltn lt x' y' → (Ltn lt y' y ∨ y' = y) → Ltn lt x y := by
    rintro x x' y' y (h | rfl) h' (h'' | rfl)
    · exact Ltn.trans H h (Ltn.trans H h' h'')
    · exact Ltn.trans H h h'
    · exact Ltn.trans H h' h''
    · exact h'
  refine ⟨fun i j hi hij hj => ?_, fun i j hi hij hj => ?_, fun i j hi him hj hjb => ?_, fun i j hi hij hj => ?_, fun i j hi hij hj => ?_, fun i j hi him hj hjb => ?_, fun i j hi him hj hjb => ?_⟩
  · rw [k1 i (by omega), k1 j hj]; exact hs i j hi hij (by omega)
  · rw [k2 i hi (by omega), k2 j (by omega) hj]; exact hs2 _ _ (by omega) (by omega) (by omega)
  · rw [k1 i him, k2 j hj hjb]; exact hl _ _ hi (by omega) (by omega) (by omega)
  · rw [k3 i hi (by omega), k3 j (by omega) hj]; exact hs _ _ (by omega) (by omega) (by omega)
  · rw [k4 i hi, k4 j (by omega)]; exact hs2 i j (by omega) hij hj
  · rw [k3 i hi him, k4 j hj]; exact hl _ _ (by omega) (by omega) (by omega) hjb
  · by_cases c1 : i < s <;> by_cases c2 : j < t
    · rw [k1 i c1, k3 j hj c2]; exact hs _ _ hi (by omega) (by omega)
    · rw [k1 i c1, k4 j (by omega)]
      have := hlow (by omega) (by omega)
      exact glue _ _ _ _ (le1 i (s - 1) hi (by omega) (by omega)) (Ltn.of_not (hl (s - 1) t (by omega) (by omega) h3 (by omega)) this) (le2 t j h3 (by omega) hjb)
    · rw [k2 i (by omega) him, k3 j hj c2]
      have := hhigh (by omega) (by omega)
      exact glue _ _ _ _ (le2 _ (t - 1) (by omega) (by omega) (by omega)) (.inl this) (le1 s _ (by omega) (by omega) (by omega))
    · rw [k2 i (by omega) him, k4 j (by omega)]; exact hs2 _ _ (by omega) (by omega) hjb
/-- Both halves merged: the whole is. -/
theorem merge_both {md : Nat} {d1 d2 d3 : Nat → Nat} (h1 : a ≤ md) (h2 : md ≤ b) (hoff : ∀ k, k < a ∨ b ≤ k → d1 k = d k) (hp : (seg d1 a b).Perm (seg d a b)) (hsep : ∀ i j, a ≤ i → i < md → md ≤ j → j < b → Ltn lt (d1 i) (d1 j))
    (m1 : Merged lt d1 a md d2) (m2 : Merged lt d2 md b d3) : Merged lt d a b d3 := by
  refine ⟨fun k hk => ?_, ?_, fun i j hi hij hj => ?_⟩
  · rw [m2.off k (by omega), m1.off k (by omega), hoff k hk]
  · refine List.Perm.trans ?_ hp
    rw [seg_append d3 h1 h2, seg_append d1 h1 h2]
    have e1 : seg d3 a md = seg d2 a md := seg_congr (fun k _ hk => m2.off k (.inl hk))
    have e2 : seg d2 md b = seg d1 md b := seg_congr (fun k hk _ => m1.off k (.inr hk))
    rw [e1]
    exact m1.perm.append (e2 ▸ m2.perm)
  · by_cases c1 : j < md
    · rw [m2.off i (.inl (by omega)), m2.off j (.inl c1)]; exact m1.sorted i j hi hij c1
    · by_cases c2 : md ≤ i
      · exact m2.sorted i j c2 hij hj
      · rw [m2.off i (.inl (by omega))]
        obtain ⟨i', hi1, hi2, hi3⟩ := m1.mem hi (show i < md by omega)
        obtain ⟨j', hj1, hj2, hj3⟩ := m2.mem (show md ≤ j by omega) hj
        rw [← hi3, ← hj3, m1.off j' (.inr hj1)]
        exact hsep i' j' hi1 hi2 hj1 hj2
end
end Go.Proofs.YtpkgjokehgihjaaGreat
/- The library's stable sort of numbers, walked: swapRange, rotate. -/
set_option linter.unusedVariables false
namespace Go.Proofs.YtpkgjokehgihjaaGreat
open Go.RowKit

/-- n numbers in block g, told by d. -/
def IR (w : World) (g n : Nat) (d : Nat → Nat) : Prop := ∃ cs : Array Value, w.heap[g]? = some (.cells cs 3 (0, 0)) ∧ ∀ k, k < n → cs[k]? = some (.int .i64 (d k : Nat))
section
variable {w w' : World} {g n : Nat} {d : Nat → Nat}
theorem IR.cell (h : IR w g n d) {k : Nat} (hk : k < n) : w.cell? ⟨g, k, none⟩ = some (.int .i64 (d k : Nat)) := by
  obtain ⟨cs, h1, h2⟩ := h
  rw [cell_of_row _ _ _ _ _ _ h1]
  exact h2 k hk
theorem IR.free (h : IR w g n d) (k : Nat) : w.frozen? ⟨g, k, none⟩ = false := by
  obtain ⟨cs, h1, h2⟩ := h
  exact frozen_of_row w g k _ _ h1
theorem IR.lt (h : IR w g n d) : g < w.heap.size := by
  obtain ⟨cs, h1, h2⟩ := h
  exact (Array.getElem?_eq_some_iff.1 h1).1
theorem IR.drew (h : IR w g n d) : IR w.drew g n d := h
theorem IR.drewN (h : IR w g n d) (m : Nat) : IR (w.drewN m) g n d := h
theorem IR.kept {M : Nat → Prop} (h : IR w g n d) (hk : Kept M w w') (hM : ¬ M g) : IR w' g n d := by
  obtain ⟨cs, h1, h2⟩ := h
  exact ⟨cs, hk.old h1 hM, h2⟩
theorem IR.set (h : IR w g n d) {i : Nat} (hi : i < n) (x : Nat) : IR (w.setCell ⟨g, i, none⟩ (.int .i64 (x : Nat))) g n (fun k => if k = i then x else d k) := by
  obtain ⟨cs, h1, h2⟩ := h
  refine ⟨_, heap_setCell_same w g i _ _ _ h1, fun k hk => ?_⟩
  have hlt : i < cs.size := (Array.getElem?_eq_some_iff.1 (h2 i hi)).1
  rw [Array.getElem?_setIfInBounds]
  by_cases e : i = k
  · rw [if_pos e, if_pos (by omega)]
    simp [e]
  · rw [if_neg e, h2 k hk]
    dsimp only
    rw [if_neg (fun h => e h.symm)]
theorem IR.congr (h : IR w g n d) {e : Nat → Nat} (he : ∀ k, k < n → d k = e k) : IR w g n e := by
  obtain ⟨cs, h1, h2⟩ := h
  exact ⟨cs, h1, fun k hk => by rw [← he k hk]; exact h2 k hk⟩
theorem IR.sw (h : IR w g n d) {i j : Nat} (hi : i < n) (hj : j < n) (hij : i ≠ j) :
    IR ((w.setCell ⟨g, i, none⟩ (.int .i64 (d j : Nat))).setCell ⟨g, j, none⟩ (.int .i64 (d i : Nat))) g n (sw d i j) ∧ Kept (· = g) w ((w.setCell ⟨g, i, none⟩ (.int .i64 (d j : Nat))).setCell ⟨g, j, none⟩ (.int .i64 (d i : Nat))) := by
  refine ⟨((h.set hi (d j)).set hj (d i)).congr (fun k hk => ?_), ((Kept.refl (· = g) w).setCell (p := ⟨g, i, none⟩) (by rfl) _).setCell (p := ⟨g, j, none⟩) (by rfl) _⟩
  unfold Go.Proofs.YtpkgjokehgihjaaGreat.sw
  by_cases e1 : k = j
  · rw [if_pos e1]
    by_cases e2 : k = i
    · omega
    · rw [if_neg e2, if_pos e1]
  · rw [if_neg e1]
    by_cases e2 : k = i
    · rw [if_pos e2, if_pos e2]
    · rw [if_neg e2, if_neg e2, if_neg e1]
end

set_option maxRecDepth 100000 in
set_option maxHeartbeats 1000000 in
theorem swapRange_any (fn : Nat) (cb : Array Value) (d : Nat → Nat) (N g a b n c : Nat) (w : World) (h : IR w g N d) (ha : a + n ≤ b) (hb : b + n ≤ N) (hN : N ≤ 1000000) :
    Calls Tryz.prog 104 #[.slice (some ⟨g, 0, none⟩) N c, .int .i64 a, .int .i64 b, .int .i64 n, .func (.func fn) #[] cb] w fun e w' => e = .returned (.tuple #[]) ∧ IR w' g N (swr d a b n) ∧ Kept (· = g) w w' := by
  have H0 := Lib.hid h; clear h
  go_enter Tryz.func104, Tryz.ntmps104
  go_wp2
  go_loopw [10] (fun i wr => ∃ k : Nat, k ≤ n ∧ i = .int .i64 k ∧ IR wr g N (swr d a b k) ∧ Kept (· = g) w wr) (fun i _ => n - (intOf i).toNat)
  case atStart => exact ⟨0, by omega, rfl, by rw [swr_zero]; exact H0.out, Kept.refl _ _⟩
  case round =>
    obtain ⟨k, hk, rfl, hir, hkp⟩ := hrel
    have HI := Lib.hid hir; clear hir
    have HK := Lib.hid hkp; clear hkp
    by_cases hlt : k < n
    · have c1 := HI.out.cell (show a + k < N by omega)
      have c2 := HI.out.cell (show b + k < N by omega)
      have f1 := HI.out.free (a + k)
      have f2 := HI.out.free (b + k)
      have SW := Lib.hid (HI.out.sw (show a + k < N by omega) (show b + k < N by omega) (by omega))
      rw [swr_succ d hlt ha] at SW
      generalize swr d a b k (a + k) = x at *
      generalize swr d a b k (b + k) = y at *
      have hne : a + k ≠ b + k := by omega
      have i1 : (0 : Int) ≤ (a : Int) + (k : Int) := by omega
      have i2 : (a : Int) + (k : Int) < (N : Int) := by omega
      have i3 : (0 : Int) ≤ (b : Int) + (k : Int) := by omega
      have i4 : (b : Int) + (k : Int) < (N : Int) := by omega
      have W1 : IntKind.i64.wrap ((a : Int) + (k : Int)) = (a : Int) + (k : Int) := IntWalk.i64_in _ (by omega)
      have W2 : IntKind.i64.wrap ((b : Int) + (k : Int)) = (b : Int) + (k : Int) := IntWalk.i64_in _ (by omega)
      have T1 : ((a : Int) + (k : Int)).toNat = a + k := by omega
      have T2 : ((b : Int) + (k : Int)).toNat = b + k := by omega
      go_wp2
      go_region
      all_goals
        go_wp2
        go_roundw
        case rel => exact ⟨k + 1, by omega, by go_num, SW.out.1, HK.out.trans SW.out.2.drew⟩
        case measure => simp [intOf]; omega
    · obtain rfl : k = n := by omega
      go_wp2
      go_end0
      exact ⟨rfl, HI.out, HK.out⟩

set_option maxRecDepth 100000 in
set_option maxHeartbeats 1000000 in
theorem rotate_any (fn : Nat) (cb : Array Value) (d : Nat → Nat) (N g a m b c : Nat) (w : World) (h : IR w g N d) (ha : a < m) (hm : m < b) (hb : b ≤ N) (hN : N ≤ 1000000) :
    Calls Tryz.prog 103 #[.slice (some ⟨g, 0, none⟩) N c, .int .i64 a, .int .i64 m, .int .i64 b, .func (.func fn) #[] cb] w fun e w' => e = .returned (.tuple #[]) ∧ IR w' g N (rot d a m b) ∧ Kept (· = g) w w' := by
  have H0 := Lib.hid h; clear h
  obtain ⟨i0, hi0⟩ : ∃ i0, i0 = m - a := ⟨_, rfl⟩
  obtain ⟨j0, hj0⟩ : ∃ j0, j0 = b - m := ⟨_, rfl⟩
  have E1 : (m : Int) - (a : Int) = (i0 : Int) := by omega
  have E2 : (b : Int) - (m : Int) = (j0 : Int) := by omega
  have HA := Lib.hid (show m - i0 = a ∧ m + j0 = b ∧ 0 < i0 ∧ 0 < j0 ∧ i0 ≤ m ∧ m + j0 ≤ N by omega)
  clear hi0 hj0
  have RT := Lib.hid (show rot d (m - i0) m (m + j0) = rot d a m b by rw [HA.out.1, HA.out.2.1])
  go_enter Tryz.func103, Tryz.ntmps103
  go_wp2_with fail
  clear E1 E2
  go_loopw [10, 11] (fun i j wr => ∃ (k l : Nat) (e : Nat → Nat), 0 < k ∧ 0 < l ∧ k ≤ m ∧ m + l ≤ N ∧ i = .int .i64 k ∧ j = .int .i64 l ∧ IR wr g N e ∧ rot e (m - k) m (m + l) = rot d a m b ∧ Kept (· = g) w wr) (fun i j _ => (intOf i).toNat + (intOf j).toNat)
  case atStart => exact ⟨i0, j0, d, HA.out.2.2.1, HA.out.2.2.2.1, HA.out.2.2.2.2.1, HA.out.2.2.2.2.2, rfl, rfl, H0.out, RT.out, Kept.refl _ _⟩
  case round =>
    obtain ⟨k, l, e, hk0, hl0, hkm, hlN, rfl, rfl, hir, hrot, hkp⟩ := hrel
    have HI := Lib.hid hir; clear hir
    have HK := Lib.hid hkp; clear hkp
    have HR := Lib.hid hrot; clear hrot
    by_cases heq : k = l
    · subst heq
      have q0 : ((k : Int) != (k : Int)) = false := by simp
      have SR := Lib.hid (fun W (h : IR W g N e) => swapRange_any fn cb e N g (m - k) m k c W h (by omega) (by omega) hN)
      have HE := Lib.hid (rot_even e hkm)
      have E3 : (m : Int) - (k : Int) = ((m - k : Nat) : Int) := by omega
      go_wp2_with fail
      refine (SR.out _ HI.out).mono ?_
      rintro e1 w1 ⟨rfl, hi1, hk1⟩
      go_wp2
      go_end0
      exact ⟨rfl, by rw [← HR.out, ← HE.out]; exact hi1, HK.out.trans hk1⟩
    · have q0 : ((k : Int) != (l : Int)) = true := by simp; omega
      by_cases hlt : l < k
      · have SR := Lib.hid (fun W (h : IR W g N e) => swapRange_any fn cb e N g (m - k) m l c W h (by omega) (by omega) hN)
        have HE := Lib.hid (rot_big e hkm hlt hl0)
        have E3 : (m : Int) - (k : Int) = ((m - k : Nat) : Int) := by omega
        have E4 : (k : Int) - (l : Int) = ((k - l : Nat) : Int) := by omega
        have i1 : (l : Int) < (k : Int) := by omega
        go_wp2_with fail
        refine (SR.out _ HI.out).mono ?_
        rintro e1 w1 ⟨rfl, hi1, hk1⟩
        have HI1 := Lib.hid hi1; clear hi1
        have HK1 := Lib.hid (HK.out.trans hk1); clear hk1
        go_wp2
        go_roundw
        case rel => exact ⟨k - l, l, _, by omega, hl0, by omega, hlN, rfl, rfl, HI1.out, by rw [HE.out, HR.out], HK1.out⟩
        case measure => simp [intOf]; omega
      · have SR := Lib.hid (fun W (h : IR W g N e) => swapRange_any fn cb e N g (m - k) (m + l - k) k c W h (by omega) (by omega) hN)
        have HE := Lib.hid (rot_small e hkm (show k < l by omega) hk0)
        have E3 : (m : Int) - (k : Int) = ((m - k : Nat) : Int) := by omega
        have E5 : (m : Int) + (l : Int) - (k : Int) = ((m + l - k : Nat) : Int) := by omega
        have E4 : (l : Int) - (k : Int) = ((l - k : Nat) : Int) := by omega
        have i1 : ¬ (l : Int) < (k : Int) := by omega
        go_wp2_with fail
        refine (SR.out _ HI.out).mono ?_
        rintro e1 w1 ⟨rfl, hi1, hk1⟩
        have HI1 := Lib.hid hi1; clear hi1
        have HK1 := Lib.hid (HK.out.trans hk1); clear hk1
        go_wp2
        go_roundw
        case rel => exact ⟨k, l - k, _, hk0, by omega, hkm, by omega, rfl, rfl, HI1.out, by rw [HE.out, HR.out], HK1.out⟩
        case measure => simp [intOf]; omega
end Go.Proofs.YtpkgjokehgihjaaGreat
/- The library's stable sort of numbers, walked: insertion sort of a piece. -/
set_option linter.unusedVariables false
namespace Go.Proofs.YtpkgjokehgihjaaGreat
open Go.RowKit

/-- What the closure tells: cv; it only reads, in whatever world in which block g alone has turned. -/
def CmpI (f : Nat) (cb : Array Value) (cv : Nat → Nat → Int) (N g : Nat) (w0 : World) : Prop :=
  (∀ (args : Array Value) (w : World), (callFunc f args).run Tryz.prog w = .ok (.enter f args) w) ∧
  ∀ W, Kept (· = g) w0 W → ∀ x y : Nat, x < N → y < N → Calls Tryz.prog f (#[.int .i64 x, .int .i64 y] ++ cb) W fun e w' => e = .returned (.int .i64 (cv x y)) ∧ ∃ m, w' = W.drewN m
def ltOf (cv : Nat → Nat → Int) (x y : Nat) : Bool := decide (cv x y < 0)
theorem CmpI.on {f : Nat} {cb : Array Value} {cv : Nat → Nat → Int} {N g : Nat} {w0 w : World} (h : CmpI f cb cv N g w0) (hk : Kept (· = g) w0 w) : CmpI f cb cv N g w := ⟨h.1, fun W k => h.2 W (hk.trans k)⟩
theorem CmpI.at {f : Nat} {cb : Array Value} {cv : Nat → Nat → Int} {N g : Nat} {w0 w : World} (h : CmpI f cb cv N g w0) (hk : Kept (· = g) w0 w) {x y : Nat} (hx : x < N) (hy : y < N) (n : Nat) :
    Calls Tryz.prog f (#[.int .i64 x, .int .i64 y] ++ cb) (w.drewN n) fun e w' => e = .returned (.int .i64 (cv x y)) ∧ ∃ m, w' = (w.drewN n).drewN m := h.2 _ (hk.drewN n) x y hx hy
def SortPost (lt : Nat → Nat → Bool) (d : Nat → Nat) (a b g N : Nat) (w : World) (e : Ending) (w' : World) : Prop :=
  e = .returned (.tuple #[]) ∧ ∃ d', Merged lt d a b d' ∧ IR w' g N d' ∧ Kept (· = g) w w'

theorem Merged.perm_wide {lt : Nat → Nat → Bool} {d e : Nat → Nat} {a k b : Nat} (h : Merged lt d a k e) (h1 : a ≤ k) (h2 : k ≤ b) : (seg e a b).Perm (seg d a b) := by
  rw [seg_append e h1 h2, seg_append d h1 h2]
  have e1 : seg e k b = seg d k b := seg_congr (fun t ht _ => h.off t (.inr ht))
  rw [e1]
  exact h.perm.append_right _
theorem Merged.next {lt : Nat → Nat → Bool} {d e e' : Nat → Nat} {a k b : Nat} (h : Merged lt d a k e) (h1 : a ≤ k) (h2 : k ≤ b) (h' : Merged lt e a b e') : Merged lt d a b e' :=
  ⟨fun t ht => (h'.off t ht).trans (h.off t (by omega)), h'.perm.trans (h.perm_wide h1 h2), h'.sorted⟩

set_option maxRecDepth 100000 in
set_option maxHeartbeats 1000000 in
theorem insertion_any (f : Nat) (cb : Array Value) (cv : Nat → Nat → Int) (H : SWo (ltOf cv)) (d : Nat → Nat) (N g a b c : Nat) (w : World) (hc : CmpI f cb cv N g w) (h : IR w g N d) (hd : ∀ k, k < N → d k < N)
    (hasc : ∀ i j, a ≤ i → i < j → j < b → d i < d j) (hab : a ≤ b) (hb : b ≤ N) (hN : N ≤ 1000000) :
    Calls Tryz.prog 97 #[.slice (some ⟨g, 0, none⟩) N c, .int .i64 a, .int .i64 b, .func (.func f) #[] cb] w (SortPost (ltOf cv) d a b g N w) := by
  have H0 := Lib.hid h; clear h
  have CM := Lib.hid hc
  have eg := hc.1
  clear hc
  have HD := Lib.hid hd; clear hd
  have HA := Lib.hid hasc; clear hasc
  go_enter Tryz.func97, Tryz.ntmps97
  go_wp2
  by_cases hlt0 : a < b
  · go_loopw [8, 9] (fun i j wr => ∃ (k : Nat) (e : Nat → Nat), a + 1 ≤ k ∧ k ≤ b ∧ i = .int .i64 k ∧ IR wr g N e ∧ Merged (ltOf cv) d a k e ∧ Kept (· = g) w wr) (fun i _ _ => b - (intOf i).toNat)
    case atStart => exact ⟨a + 1, d, by omega, by omega, by go_num, H0.out, Merged.self (fun i j hi hij hj => by omega), Kept.refl _ _⟩
    case round =>
      obtain ⟨k, e, hk1, hk2, rfl, hir, hm, hkp⟩ := hrel
      have HI := Lib.hid hir; clear hir
      have HM := Lib.hid hm; clear hm
      have HK := Lib.hid hkp; clear hkp
      by_cases hlt : k < b
      · have hek := Lib.hid (HM.out.off k (.inr (Nat.le_refl _)))
        have HL := Lib.hid (show Lows e a k (k + 1) by
          intro i j hi hik hj hjk
          obtain rfl : j = k := by omega
          obtain ⟨i', h1, h2, h3⟩ := HM.out.mem hi hik
          rw [← h3, hek.out]
          exact HA.out i' j h1 h2 hlt)
        have HE := Lib.hid (show ∀ t, t < N → e t < N by
          intro t ht
          by_cases c1 : t < a ∨ k ≤ t
          · rw [HM.out.off t c1]; exact HD.out t ht
          · obtain ⟨i', h1, h2, h3⟩ := HM.out.mem (show a ≤ t by omega) (show t < k by omega)
            rw [← h3]; exact HD.out i' (by omega))
        have MG := Lib.hid (fun t (h1 : a ≤ t) (h2 : t ≤ k) (hle : ∀ s, a ≤ s → s < t → ltOf cv (e k) (e s) = false) (hgt : ∀ s, t ≤ s → s < k → ltOf cv (e k) (e s) = true) => HM.out.next (by omega) (by omega) (merge_one_r H HM.out.sorted HL.out h1 h2 hle hgt))
        go_wp2
        go_loopw [9] (fun j wv => ∃ t : Nat, a ≤ t ∧ t ≤ k ∧ j = .int .i64 t ∧ IR wv g N (rot e t k (k + 1)) ∧ (∀ s, t ≤ s → s < k → ltOf cv (e k) (e s) = true) ∧ Kept (· = g) w wv) (fun j _ => (intOf j).toNat)
        case atStart => exact ⟨k, by omega, Nat.le_refl _, rfl, by rw [rot_left]; exact HI.out, fun s h1 h2 => by omega, HK.out⟩
        case round =>
          obtain ⟨t, ht1, ht2, rfl, hir2, hgt, hkp2⟩ := hrel
          have HI2 := Lib.hid hir2; clear hir2
          have HG := Lib.hid hgt; clear hgt
          have HK2 := Lib.hid hkp2; clear hkp2
          by_cases hat : a < t
          · obtain ⟨u, rfl⟩ : ∃ u, t = u + 1 := ⟨t - 1, by omega⟩
            have e1 : rot e (u + 1) k (k + 1) (u + 1) = e k := by unfold rot; grind
            have e2 : rot e (u + 1) k (k + 1) u = e u := by unfold rot; grind
            have c1 := HI2.out.cell (show u + 1 < N by omega)
            have c2 := HI2.out.cell (show u < N by omega)
            rw [e1] at c1
            rw [e2] at c2
            have f1 := HI2.out.free (u + 1)
            have f2 := HI2.out.free u
            have SW := Lib.hid (fun n => (HI2.out.drewN n).sw (show u + 1 < N by omega) (show u < N by omega) (by omega))
            rw [sw_rot_l e ht2, e1, e2] at SW
            clear e1 e2
            have CC := Lib.hid (fun n => CM.out.at HK2.out (HE.out k (by omega)) (HE.out u (by omega)) n)
            have MG2 := Lib.hid (fun (hl : ltOf cv (e k) (e u) = false) => MG.out (u + 1) (by omega) ht2 (fun s h1 h2 => one_r_le H HM.out.sorted HL.out hl (show u < k by omega) h1 (by omega)) HG.out)
            have i1 : (a : Int) < ((u + 1 : Nat) : Int) := by omega
            have i1' : (a : Int) < (u : Int) + 1 := by omega
            have i2 : (0 : Int) ≤ ((u + 1 : Nat) : Int) := by omega
            have i3 : ((u + 1 : Nat) : Int) < (N : Int) := by omega
            have i4 : (0 : Int) ≤ (u : Int) := by omega
            have i5 : (u : Int) < (N : Int) := by omega
            have W1 : IntKind.i64.wrap (((u + 1 : Nat) : Int) - 1) = (u : Int) := by rw [IntWalk.i64_in _ (by omega)]; omega
            have W2 : IntKind.i64.wrap ((u : Int) + 1 - 1) = (u : Int) := by rw [IntWalk.i64_in _ (by omega)]; omega
            have W3 : (u : Int) + 1 - 1 = (u : Int) := by omega
            cases hl : ltOf cv (e k) (e u) with
            | true =>
              have HG2 := Lib.hid (show ∀ s, u ≤ s → s < k → ltOf cv (e k) (e s) = true from fun s h1 h2 => by
                by_cases c : s = u
                · rw [c]; exact hl
                · exact HG.out s (by omega) h2)
              have hb1 : decide (cv (e k) (e u) < 0) = true := hl
              clear hl
              generalize e u = y at *
              generalize e k = x at *
              generalize cv x y = v at *
              go_wp2
              go_quiet (first | (go_at_fn f; refine Calls.quiet_of (CC.out _)))
              go_wp2
              go_region
              all_goals
                go_wp2
                go_roundw
                case rel => exact ⟨u, by omega, by omega, by go_num, (SW.out _).1, HG2.out, (HK2.out.drewN _).trans (SW.out _).2⟩
                case measure => simp [intOf]
            | false =>
              have hb1 : decide (cv (e k) (e u) < 0) = false := hl
              have MG3 := Lib.hid (MG2.out hl)
              clear hl
              generalize e u = y at *
              generalize e k = x at *
              generalize cv x y = v at *
              go_wp2
              go_quiet (first | (go_at_fn f; refine Calls.quiet_of (CC.out _)))
              go_wp2
              go_roundw
              case rel => exact ⟨k + 1, _, by omega, by omega, by go_num, HI2.out, MG3.out, HK2.out.drewN _⟩
              case measure => simp [intOf]; omega
          · obtain rfl : t = a := by omega
            have i1 : decide ((t : Int) < (t : Int)) = false := by simp
            have MG3 := Lib.hid (MG.out t (Nat.le_refl _) ht2 (fun s h1 h2 => by omega) HG.out)
            go_wp2
            go_quiet (fail)
            go_wp2
            go_roundw
            case rel => exact ⟨k + 1, _, by omega, by omega, by go_num, HI2.out, MG3.out, HK2.out.drewN _⟩
            case measure => simp [intOf]; omega
      · obtain rfl : k = b := by omega
        go_wp2
        go_end0
        exact ⟨rfl, e, HM.out, HI.out, HK.out⟩
  · obtain rfl : a = b := by omega
    go_loopw [8, 9] (fun i j wr => i = .int .i64 ((a : Int) + 1) ∧ wr = w) (fun _ _ _ => 0)
    case atStart => exact ⟨rfl, rfl⟩
    case round =>
      obtain ⟨rfl, rfl⟩ := hrel
      have i1 : ¬ (a : Int) + 1 < (a : Int) := by omega
      go_wp2
      go_end0
      exact ⟨rfl, d, Merged.self (fun i j hi hij hj => by omega), H0.out, Kept.refl _ _⟩
end Go.Proofs.YtpkgjokehgihjaaGreat
/- The library's stable sort of numbers, walked: symMerge where one piece has one number. -/
set_option linter.unusedVariables false
namespace Go.Proofs.YtpkgjokehgihjaaGreat
open Go.RowKit

/-- What symMerge asks. -/
structure SymIn (f : Nat) (cb : Array Value) (cv : Nat → Nat → Int) (d : Nat → Nat) (N g a m b : Nat) (w : World) : Prop where
  cm : CmpI f cb cv N g w
  ir : IR w g N d
  lt : ∀ k, k < N → d k < N
  s1 : Sorted (ltOf cv) d a m
  s2 : Sorted (ltOf cv) d m b
  lo : Lows d a m b
  am : a < m
  mb : m < b
  bN : b ≤ N

set_option maxRecDepth 100000 in
set_option maxHeartbeats 2000000 in
theorem sym_left (f : Nat) (cb : Array Value) (cv : Nat → Nat → Int) (H : SWo (ltOf cv)) (d : Nat → Nat) (N g a b c : Nat) (w : World) (hI : SymIn f cb cv d N g a (a + 1) b w) (hN : N ≤ 1000000) :
    Calls Tryz.prog 98 #[.slice (some ⟨g, 0, none⟩) N c, .int .i64 a, .int .i64 (a + 1 : Nat), .int .i64 b, .func (.func f) #[] cb] w (SortPost (ltOf cv) d a b g N w) := by
  have I := Lib.hid hI
  have eg := hI.cm.1
  have hmb := hI.mb
  have hbN := hI.bN
  clear hI
  have W0 : IntKind.i64.wrap (((a + 1 : Nat) : Int) - (a : Int)) = 1 := by rw [IntWalk.i64_in _ (by omega)]; omega
  have W1 : ((a + 1 : Nat) : Int) - (a : Int) = 1 := by omega
  have W2 : (a : Int) + 1 - (a : Int) = 1 := by omega
  go_enter Tryz.func98, Tryz.ntmps98
  go_wp2_with fail
  go_loopw [10, 11, 12] (fun u v x wr => ∃ i j : Nat, a + 1 ≤ i ∧ i ≤ j ∧ j ≤ b ∧ u = .int .i64 i ∧ v = .int .i64 j ∧ IR wr g N d ∧ Kept (· = g) w wr ∧ Hid ((∀ k, a + 1 ≤ k → k < i → ltOf cv (d k) (d a) = true) ∧ (∀ k, j ≤ k → k < b → ltOf cv (d k) (d a) = false))) (fun u v _ _ => (intOf v).toNat - (intOf u).toNat)
  case atStart => exact ⟨a + 1, b, by omega, by omega, by omega, by go_num, rfl, I.out.ir, Kept.refl _ _, Lib.hid ⟨fun k h1 h2 => by omega, fun k h1 h2 => by omega⟩⟩
  case round =>
    obtain ⟨i, j, hi, hij, hj, rfl, rfl, hir0, hkp0, HS⟩ := hrel
    have HI0 := Lib.hid hir0; clear hir0
    have HK0 := Lib.hid hkp0; clear hkp0
    by_cases hlt : i < j
    · obtain ⟨h, hh⟩ : ∃ h, h = (i + j) / 2 := ⟨_, rfl⟩
      have E : ((i : Int) + (j : Int)) / 2 = (h : Int) := by omega
      have hih : i ≤ h := by omega
      have hhj : h < j := by omega
      clear hh
      have c1 := HI0.out.cell (show h < N by omega)
      have c2 := HI0.out.cell (show a < N by omega)
      have CC := Lib.hid (fun n => I.out.cm.at HK0.out (I.out.lt h (by omega)) (I.out.lt a (by omega)) n)
      have i1 : (0 : Int) ≤ (h : Int) := by omega
      have i2 : (h : Int) < (N : Int) := by omega
      have i3 : (0 : Int) ≤ (a : Int) := by omega
      have i4 : (a : Int) < (N : Int) := by omega
      cases hl : ltOf cv (d h) (d a) with
      | true =>
        have HS2 := Lib.hid (show ∀ k, a + 1 ≤ k → k < h + 1 → ltOf cv (d k) (d a) = true from fun k h1 h2 => one_l_lt H I.out.s2 I.out.lo hl (by omega) h1 (by omega))
        have hb1 : decide (cv (d h) (d a) < 0) = true := hl
        clear hl
        generalize cv (d h) (d a) = v at *
        go_wp2
        go_quiet (first | (go_at_fn f; refine Calls.quiet_of (CC.out _)))
        go_wp2
        go_roundw
        case rel => exact ⟨h + 1, j, by omega, by omega, hj, by go_num, rfl, HI0.out, HK0.out.drewN _, Lib.hid ⟨HS2.out, HS.out.2⟩⟩
        case measure => simp [intOf]; omega
      | false =>
        have HS2 := Lib.hid (show ∀ k, h ≤ k → k < b → ltOf cv (d k) (d a) = false from fun k h1 h2 => one_l_ge H I.out.s2 I.out.lo hl (by omega) h2 (by omega))
        have hb1 : decide (cv (d h) (d a) < 0) = false := hl
        clear hl
        generalize cv (d h) (d a) = v at *
        go_wp2
        go_quiet (first | (go_at_fn f; refine Calls.quiet_of (CC.out _)))
        go_wp2
        go_roundw
        case rel => exact ⟨i, h, by omega, by omega, by omega, rfl, rfl, HI0.out, HK0.out.drewN _, Lib.hid ⟨HS.out.1, HS2.out⟩⟩
        case measure => simp [intOf]; omega
    · obtain rfl : i = j := by omega
      have MG := Lib.hid (merge_one_l H I.out.s2 I.out.lo hi hj HS.out.1 HS.out.2)
      clear HS
      obtain ⟨u, rfl⟩ : ∃ u, i = u + 1 := ⟨i - 1, by omega⟩
      have E : ((u + 1 : Nat) : Int) - 1 = (u : Int) := by omega
      have E' : (u : Int) + 1 - 1 = (u : Int) := by omega
      obtain ⟨w0, rfl⟩ : ∃ w0, w0 = wr := ⟨_, rfl⟩
      go_wp2
      go_loopw [13] (fun v wr => ∃ k : Nat, a ≤ k ∧ k ≤ u ∧ v = .int .i64 k ∧ IR wr g N (rot d a (a + 1) (k + 1)) ∧ Kept (· = g) w wr) (fun v _ => u - (intOf v).toNat)
      case atStart => exact ⟨a, by omega, by omega, rfl, by rw [rot_right]; exact HI0.out, HK0.out⟩
      case round =>
        obtain ⟨k, hk1, hk2, rfl, hir, hkp⟩ := hrel
        have HI := Lib.hid hir; clear hir
        have HK := Lib.hid hkp; clear hkp
        by_cases hku : k < u
        · have c1 := HI.out.cell (show k < N by omega)
          have c2 := HI.out.cell (show k + 1 < N by omega)
          have f1 := HI.out.free k
          have f2 := HI.out.free (k + 1)
          have SW := Lib.hid (HI.out.sw (show k < N by omega) (show k + 1 < N by omega) (by omega))
          rw [sw_rot_r d hk1] at SW
          generalize rot d a (a + 1) (k + 1) k = x at *
          generalize rot d a (a + 1) (k + 1) (k + 1) = y at *
          have i1 : (0 : Int) ≤ (k : Int) := by omega
          have i2 : (k : Int) < (N : Int) := by omega
          have i3 : (0 : Int) ≤ (k : Int) + 1 := by omega
          have i4 : (k : Int) + 1 < (N : Int) := by omega
          have i5 : (k : Int) < (u : Int) := by omega
          have W5 : IntKind.i64.wrap ((k : Int) + 1) = (k : Int) + 1 := IntWalk.i64_in _ (by omega)
          have T1 : ((k : Int) + 1).toNat = k + 1 := by omega
          go_wp2
          go_region
          all_goals
            go_wp2
            go_roundw
            case rel => exact ⟨k + 1, by omega, by omega, by go_num, SW.out.1, HK.out.trans SW.out.2.drew⟩
            case measure => simp [intOf]; omega
        · obtain rfl : k = u := by omega
          have i5 : ¬ (k : Int) < (k : Int) := by omega
          go_wp2
          go_end0
          exact ⟨rfl, _, MG.out, HI.out, HK.out⟩
end Go.Proofs.YtpkgjokehgihjaaGreat
/- The library's stable sort of numbers, walked: symMerge where the right piece has one number. -/
set_option linter.unusedVariables false
namespace Go.Proofs.YtpkgjokehgihjaaGreat
open Go.RowKit

set_option maxRecDepth 100000 in
set_option maxHeartbeats 2000000 in
theorem sym_right (f : Nat) (cb : Array Value) (cv : Nat → Nat → Int) (H : SWo (ltOf cv)) (d : Nat → Nat) (N g a m c : Nat) (w : World) (hI : SymIn f cb cv d N g a m (m + 1) w) (ham : m ≠ a + 1) (hN : N ≤ 1000000) :
    Calls Tryz.prog 98 #[.slice (some ⟨g, 0, none⟩) N c, .int .i64 a, .int .i64 m, .int .i64 (m + 1 : Nat), .func (.func f) #[] cb] w (SortPost (ltOf cv) d a (m + 1) g N w) := by
  have I := Lib.hid hI
  have eg := hI.cm.1
  have ha := hI.am
  have hbN := hI.bN
  clear hI
  have q0 : ((m : Int) - (a : Int) == 1) = false := by simp; omega
  have W1 : ((m + 1 : Nat) : Int) - (m : Int) = 1 := by omega
  have W2 : (m : Int) + 1 - (m : Int) = 1 := by omega
  clear ham
  go_enter Tryz.func98, Tryz.ntmps98
  go_wp2_with fail
  go_loopw [14, 15, 16] (fun u v x wr => ∃ i j : Nat, a ≤ i ∧ i ≤ j ∧ j ≤ m ∧ u = .int .i64 i ∧ v = .int .i64 j ∧ IR wr g N d ∧ Kept (· = g) w wr ∧ Hid ((∀ k, a ≤ k → k < i → ltOf cv (d m) (d k) = false) ∧ (∀ k, j ≤ k → k < m → ltOf cv (d m) (d k) = true))) (fun u v _ _ => (intOf v).toNat - (intOf u).toNat)
  case atStart => exact ⟨a, m, by omega, by omega, by omega, rfl, rfl, I.out.ir, Kept.refl _ _, Lib.hid ⟨fun k h1 h2 => by omega, fun k h1 h2 => by omega⟩⟩
  case round =>
    obtain ⟨i, j, hi, hij, hj, rfl, rfl, hir0, hkp0, HS⟩ := hrel
    have HI0 := Lib.hid hir0; clear hir0
    have HK0 := Lib.hid hkp0; clear hkp0
    by_cases hlt : i < j
    · obtain ⟨h, hh⟩ : ∃ h, h = (i + j) / 2 := ⟨_, rfl⟩
      have E : ((i : Int) + (j : Int)) / 2 = (h : Int) := by omega
      have hih : i ≤ h := by omega
      have hhj : h < j := by omega
      clear hh
      have c1 := HI0.out.cell (show h < N by omega)
      have c2 := HI0.out.cell (show m < N by omega)
      have CC := Lib.hid (fun n => I.out.cm.at HK0.out (I.out.lt m (by omega)) (I.out.lt h (by omega)) n)
      have i1 : (0 : Int) ≤ (h : Int) := by omega
      have i2 : (h : Int) < (N : Int) := by omega
      have i3 : (0 : Int) ≤ (m : Int) := by omega
      have i4 : (m : Int) < (N : Int) := by omega
      cases hl : ltOf cv (d m) (d h) with
      | false =>
        have HS2 := Lib.hid (show ∀ k, a ≤ k → k < h + 1 → ltOf cv (d m) (d k) = false from fun k h1 h2 => one_r_le H I.out.s1 I.out.lo hl (by omega) h1 (by omega))
        have hb1 : decide (cv (d m) (d h) < 0) = false := hl
        clear hl
        generalize cv (d m) (d h) = v at *
        go_wp2
        go_quiet (first | (go_at_fn f; refine Calls.quiet_of (CC.out _)))
        go_wp2
        go_roundw
        case rel => exact ⟨h + 1, j, by omega, by omega, hj, by go_num, rfl, HI0.out, HK0.out.drewN _, Lib.hid ⟨HS2.out, HS.out.2⟩⟩
        case measure => simp [intOf]; omega
      | true =>
        have HS2 := Lib.hid (show ∀ k, h ≤ k → k < m → ltOf cv (d m) (d k) = true from fun k h1 h2 => one_r_gt H I.out.s1 I.out.lo hl (by omega) h2 (by omega))
        have hb1 : decide (cv (d m) (d h) < 0) = true := hl
        clear hl
        generalize cv (d m) (d h) = v at *
        go_wp2
        go_quiet (first | (go_at_fn f; refine Calls.quiet_of (CC.out _)))
        go_wp2
        go_roundw
        case rel => exact ⟨i, h, by omega, by omega, by omega, rfl, rfl, HI0.out, HK0.out.drewN _, Lib.hid ⟨HS.out.1, HS2.out⟩⟩
        case measure => simp [intOf]; omega
    · obtain rfl : i = j := by omega
      have MG := Lib.hid (merge_one_r H I.out.s1 I.out.lo hi hj HS.out.1 HS.out.2)
      clear HS
      obtain ⟨w0, rfl⟩ : ∃ w0, w0 = wr := ⟨_, rfl⟩
      go_wp2
      go_loopw [17] (fun v wr => ∃ k : Nat, i ≤ k ∧ k ≤ m ∧ v = .int .i64 k ∧ IR wr g N (rot d k m (m + 1)) ∧ Kept (· = g) w wr) (fun v _ => (intOf v).toNat)
      case atStart => exact ⟨m, by omega, by omega, rfl, by rw [rot_left]; exact HI0.out, HK0.out⟩
      case round =>
        obtain ⟨k, hk1, hk2, rfl, hir, hkp⟩ := hrel
        have HI := Lib.hid hir; clear hir
        have HK := Lib.hid hkp; clear hkp
        by_cases hku : i < k
        · obtain ⟨u, rfl⟩ : ∃ u, k = u + 1 := ⟨k - 1, by omega⟩
          have c1 := HI.out.cell (show u < N by omega)
          have c2 := HI.out.cell (show u + 1 < N by omega)
          have f1 := HI.out.free u
          have f2 := HI.out.free (u + 1)
          have SW := Lib.hid (HI.out.sw (show u + 1 < N by omega) (show u < N by omega) (by omega))
          rw [sw_rot_l d hk2] at SW
          generalize rot d (u + 1) m (m + 1) u = x at *
          generalize rot d (u + 1) m (m + 1) (u + 1) = y at *
          have i1 : (0 : Int) ≤ (u : Int) := by omega
          have i2 : (u : Int) < (N : Int) := by omega
          have i3 : (0 : Int) ≤ (u : Int) + 1 := by omega
          have i4 : (u : Int) + 1 < (N : Int) := by omega
          have i5 : (i : Int) < (u : Int) + 1 := by omega
          have i6 : (i : Int) < ((u + 1 : Nat) : Int) := by omega
          have W5 : IntKind.i64.wrap ((u : Int) + 1 - 1) = (u : Int) := by rw [IntWalk.i64_in _ (by omega)]; omega
          have W6 : IntKind.i64.wrap (((u + 1 : Nat) : Int) - 1) = (u : Int) := by rw [IntWalk.i64_in _ (by omega)]; omega
          have W7 : (u : Int) + 1 - 1 = (u : Int) := by omega
          go_wp2
          go_region
          all_goals
            go_wp2
            go_roundw
            case rel => exact ⟨u, by omega, by omega, by go_num, SW.out.1, HK.out.trans SW.out.2.drew⟩
            case measure => simp [intOf]
        · obtain rfl : k = i := by omega
          have i5 : ¬ (k : Int) < (k : Int) := by omega
          go_wp2
          go_end0
          exact ⟨rfl, _, MG.out, HI.out, HK.out⟩
end Go.Proofs.YtpkgjokehgihjaaGreat

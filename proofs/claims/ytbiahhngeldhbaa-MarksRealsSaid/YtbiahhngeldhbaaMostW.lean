/- The walk of the document's most. Written by wip/gen/most.py. -/
import Derived.Test.YtbiahhngeldhbaaProductW
import Derived.Test.YtbiahhngeldhbaaQuietLaw
set_option linter.unusedVariables false
namespace Go.Proofs.Ytbiahhngeldhbaa
open Go.RowKit

theorem drop_le_one (l : List Nat) (j : Nat) : val (l.drop (j + 1)) ≤ val (l.drop j) := by
  by_cases h : j < l.length
  · rw [val_drop l j _ (List.getElem?_eq_getElem h)]
    omega
  · rw [List.drop_eq_nil_of_le (by omega), List.drop_eq_nil_of_le (by omega)]
    exact Nat.le_refl _
theorem drop_le (l : List Nat) (k d : Nat) : val (l.drop (k + d)) ≤ val (l.drop k) := by
  induction d with
  | zero => exact Nat.le_refl _
  | succ d ih => exact Nat.le_trans (drop_le_one l (k + d)) ih
/-- The digits from K on that stand from k on; the digits below K that do. -/
def hiV (o : List Nat) (K k : Nat) : Nat := val (o.drop (max k K))
def loV (o : List Nat) (K k : Nat) : Nat := val ((o.take K).drop k)
theorem hi_step (o : List Nat) (K i z : Nat) (h : K ≤ i) (hz : o[i]? = some z) : hiV o K i = hiV o K (i + 1) * 65536 + z ∧ loV o K i = 0 ∧ loV o K (i + 1) = 0 := by
  unfold hiV loV
  refine ⟨?_, ?_, ?_⟩
  · rw [Nat.max_eq_left h, Nat.max_eq_left (by omega)]
    exact val_drop o i z hz
  · rw [List.drop_eq_nil_of_le (by rw [List.length_take]; omega)]
    rfl
  · rw [List.drop_eq_nil_of_le (by rw [List.length_take]; omega)]
    rfl
theorem lo_step (o : List Nat) (K i z : Nat) (h : i < K) (hz : o[i]? = some z) : loV o K i = loV o K (i + 1) * 65536 + z ∧ hiV o K i = hiV o K (i + 1) := by
  unfold hiV loV
  refine ⟨?_, ?_⟩
  · exact val_drop _ i z (by rw [List.getElem?_take_of_lt h]; exact hz)
  · rw [Nat.max_eq_right (by omega), Nat.max_eq_right (by omega)]
theorem hi_le (o : List Nat) (K k : Nat) : hiV o K k ≤ hiV o K 0 := by
  unfold hiV
  rw [Nat.max_eq_right (Nat.zero_le K)]
  rcases Nat.le_total k K with h | h
  · rw [Nat.max_eq_right h]
    exact Nat.le_refl _
  · rw [Nat.max_eq_left h]
    have := drop_le o K (k - K)
    rwa [show K + (k - K) = k by omega] at this
theorem hi_end (o : List Nat) (K : Nat) : hiV o K 0 = val (o.drop K) ∧ loV o K 0 = val (o.take K) := by
  unfold hiV loV
  rw [Nat.max_eq_right (Nat.zero_le K)]
  exact ⟨rfl, by rw [List.drop_zero]⟩
theorem hi_start (o : List Nat) (K L : Nat) (hL : L = o.length) (h : K ≤ L) : hiV o K L = 0 ∧ loV o K L = 0 := by
  unfold hiV loV
  subst hL
  rw [Nat.max_eq_left h, List.drop_eq_nil_of_le (Nat.le_refl _), List.drop_eq_nil_of_le (by rw [List.length_take]; omega)]
  exact ⟨rfl, rfl⟩
theorem hi_small (o : List Nat) (K V M : Nat) (hv : val o = V) (hk : K ≤ o.length) (hV : V < M * 65536 ^ K) : hiV o K 0 < M := by
  rw [(hi_end o K).1]
  have e := val_split o K hk
  rw [hv] at e
  rcases Nat.lt_or_ge (val (o.drop K)) M with h | h
  · exact h
  · have : M * 65536 ^ K ≤ val (o.drop K) * 65536 ^ K := Nat.mul_le_mul_right _ h
    rw [Nat.mul_comm (val (o.drop K))] at this
    omega
theorem bool_ne (a b : Nat) : decide (a * 65536 + b ≠ 0) = (decide (a ≠ 0) || decide (b ≠ 0)) := by
  rw [Bool.eq_iff_iff]
  simp
  omega
theorem dig_len (x : Nat) : (dig x).length = 3 := rfl
theorem pow2 (x n : Nat) : (x ^ 2 ≤ n * 2 ^ (32 * 2)) ↔ (x * x ≤ n * 65536 ^ 4) := by rw [Nat.pow_two]
theorem pow3 (x n : Nat) : (x ^ 3 ≤ n * 2 ^ (32 * 3)) ↔ (x * x * x ≤ n * 65536 ^ 6) := by rw [Nat.pow_succ, Nat.pow_two]
theorem ret_b {a b : Bool} (h : a = b) : Ending.returned (.bool a) = .returned (.bool b) := by rw [h]
theorem product_at (a b : List Nat) (pa pb la lb L : Nat) (w : World) (ha : IntsAt w pa a) (hb : IntsAt w pb b) (hal : ∀ x ∈ a, x < 65536) (hbl : ∀ x ∈ b, x < 65536) (hla : a.length = la) (hlb : b.length = lb) (hL : la + lb = L) (hL1 : L ≤ 100) :
    Calls Try.prog 47 #[.slice (some ⟨pa, 0, none⟩) la la, .slice (some ⟨pb, 0, none⟩) lb lb] w fun e w' => ∃ o g, e = .returned (.slice (some ⟨g, 0, none⟩) L L) ∧ IntsAt w' g o ∧ (val o = val a * val b ∧ o.length = L ∧ ∀ x ∈ o, x < 65536) ∧ Below w.heap.size w w' := by
  subst hL hla hlb
  refine (product_any a b pa pb _ _ w ha hb hal hbl (by omega) (by omega) (Nat.le_refl _) (Nat.le_refl _)).mono ?_
  rintro e w1 ⟨o, g, rfl, hr, hou, _, hb⟩
  exact ⟨o, g, rfl, hr, ⟨hou.all, hou.len, hou.lt⟩, hb⟩
theorem sq_lt (x : Nat) (h : x < 68719476736) : x * x < 256 * 65536 ^ 4 := by
  have := Nat.mul_lt_mul'' h h
  omega
theorem cube_lt (x : Nat) (h : x < 68719476736) : x * x * x < 4096 * 65536 ^ 6 := by
  have := Nat.mul_lt_mul'' (Nat.mul_lt_mul'' h h) h
  omega

set_option maxRecDepth 100000 in
set_option maxHeartbeats 1000000 in
theorem most2_any (x n : Nat) (w : World) (hx : x < 68719476736) (hn : n < 512) :
    Calls Try.prog 42 #[.int .i64 x, .int .i64 2, .int .i64 n] w fun e w' => e = .returned (.bool (decide (x ^ 2 ≤ n * 2 ^ (32 * 2)))) ∧ Below w.heap.size w w' := by
  have HDL := Lib.hid (dig_lt x hx)
  have HVD := Lib.hid (val_dig x)
  have HXL := Lib.hid hx
  obtain ⟨d0, h0⟩ : ∃ d, d = x % 65536 := ⟨_, rfl⟩
  obtain ⟨q, hq⟩ : ∃ d, d = x / 65536 := ⟨_, rfl⟩
  obtain ⟨d1, h1⟩ : ∃ d, d = q % 65536 := ⟨_, rfl⟩
  obtain ⟨d2, h2⟩ : ∃ d, d = x / 4294967296 := ⟨_, rfl⟩
  have hdig : dig x = [d0, d1, d2] := by unfold dig; rw [h0, h1, h2, hq]
  have T0 : Int.tmod (x : Int) 65536 = (d0 : Int) := by rw [h0]; rfl
  have T1 : Int.tdiv (x : Int) 65536 = (q : Int) := by rw [hq]; rfl
  have T2 : Int.tmod (q : Int) 65536 = (d1 : Int) := by rw [h1]; rfl
  have T3 : Int.tdiv (x : Int) 4294967296 = (d2 : Int) := by rw [h2]; rfl
  have V0 : IntKind.i64.wrap (d0 : Int) = (d0 : Int) := by rw [IntWalk.i64_in _ (by omega)]
  have V1 : IntKind.i64.wrap (q : Int) = (q : Int) := by rw [IntWalk.i64_in _ (by omega)]
  have V2 : IntKind.i64.wrap (d1 : Int) = (d1 : Int) := by rw [IntWalk.i64_in _ (by omega)]
  have V3 : IntKind.i64.wrap (d2 : Int) = (d2 : Int) := by rw [IntWalk.i64_in _ (by omega)]
  have hnew : IntsAt (w.alloc (.cells #[.int .i64 d0, .int .i64 d1, .int .i64 d2] 3)) w.heap.size (dig x) := by rw [hdig]; exact heap_alloc_new _ _
  have hbe : Below w.heap.size w (w.alloc (.cells #[.int .i64 d0, .int .i64 d1, .int .i64 d2] 3)) := (Below.refl _ _).alloc (Nat.le_refl _) _
  have HNEW := Lib.hid hnew
  have HB0 := Lib.hid hbe
  clear h0 hq h1 h2 hdig hnew hbe hx
  go_enter Try.func42, Try.ntmps42
  go_wp2_with fail
  generalize w.alloc (.cells #[.int .i64 d0, .int .i64 d1, .int .i64 d2] 3) = W1 at *
  obtain ⟨g0, hg0⟩ : ∃ g, g = w.heap.size := ⟨_, rfl⟩
  rw [← hg0] at HNEW ⊢
  have HG0 := Lib.hid hg0; clear hg0
  refine (product_at (dig x) (dig x) g0 g0 3 3 6 W1 HNEW.out HNEW.out HDL.out HDL.out rfl rfl rfl (by decide)).mono ?_
  rintro e w1 ⟨o, g, rfl, hrow, ⟨hov, hol, holt⟩, hb1⟩
  rw [HVD.out] at hov
  have hbw : Below w.heap.size w w1 := HB0.out.trans (hb1.mono HB0.out.size)
  have hsm := hi_small o 4 (x * x) 256 hov (by rw [hol]; decide) (sq_lt x HXL.out)
  have hmost : (hiV o 4 0 < n ∨ (hiV o 4 0 = n ∧ loV o 4 0 = 0)) ↔ x ^ 2 ≤ n * 2 ^ (32 * 2) := by
    rw [(hi_end o 4).1, (hi_end o 4).2, most_of o 4 n holt (by rw [hol]; decide), hov, pow2]
  have HROW := Lib.hid hrow
  have HBW := Lib.hid hbw
  have HOL := Lib.hid hol
  have HSM := Lib.hid hsm
  have HMO := Lib.hid hmost
  have hs0 := hi_start o 4 6 hol.symm (by decide)
  have HS0 := Lib.hid hs0
  clear hb1 hrow hbw hov hol holt hsm hmost hs0
  go_wp2_with fail
  go_loopw [9, 10, 11] (fun a r i wr => ∃ (k : Nat) (ii : Int), k ≤ 6 ∧ ii = (k : Int) - 1 ∧ a = .int .i64 (hiV o 4 k) ∧ r = .bool (decide (loV o 4 k ≠ 0)) ∧ i = .int .i64 ii ∧ ∃ m, wr = w1.drewN m) (fun _ _ i _ => (intOf i + 1).toNat)
  case atStart => exact ⟨6, 5, Nat.le_refl _, rfl, by rw [HS0.out.1]; rfl, by rw [HS0.out.2]; rfl, rfl, 0, rfl⟩
  case round =>
    obtain ⟨k, ii, hk, hii, rfl, rfl, rfl, m, rfl⟩ := hrel
    cases k with
    | zero =>
      have hneg : ¬ ((0 : Int) ≤ ii) := by omega
      clear hii
      have hb := Below_drewN HBW.out m
      have HBB := Lib.hid hb
      have HM := HMO.out
      have HM1 := Lib.hid (fun h => HM.2 h)
      have HM2 := Lib.hid (fun h => HM.1 h)
      have hHn := HSM.out
      clear hb HM
      generalize hiV o 4 0 = H at *
      generalize loV o 4 0 = O at *
      rcases Nat.lt_trichotomy H n with h2 | h2 | h2
      · have c1 : (H : Int) < (n : Int) := by omega
        go_wp2
        go_ret
        exact ⟨ret_b (decide_eq_true (HM2.out (.inl h2))).symm, HBB.out⟩
      · subst h2
        by_cases h3 : O = 0
        · have e : decide (O ≠ 0) = false := by simp [h3]
          rw [e]
          go_wp2
          go_ret
          exact ⟨ret_b (decide_eq_true (HM2.out (.inr (by simp [h3])))).symm, HBB.out⟩
        · have e : decide (O ≠ 0) = true := by simp [h3]
          rw [e]
          go_wp2
          go_ret
          exact ⟨ret_b (decide_eq_false (fun h => by rcases HM1.out h with h | h <;> omega)).symm, HBB.out⟩
      · have c1 : ¬ ((H : Int) < (n : Int)) := by omega
        have c2 : ¬ ((H : Int) = (n : Int)) := by omega
        have c3 : ((H : Int) == (n : Int)) = false := by simp; omega
        go_wp2
        go_ret
        exact ⟨ret_b (decide_eq_false (fun h => by rcases HM1.out h with h | h <;> omega)).symm, HBB.out⟩
    | succ i =>
      obtain rfl : ii = (i : Int) := by omega
      clear hii
      have hil : i < o.length := by rw [HOL.out]; omega
      obtain ⟨z, hz⟩ : ∃ z, o[i]? = some z := ⟨_, List.getElem?_eq_getElem hil⟩
      have hc := IntsAt.cell (w := w1.drewN m) HROW.out i z hz
      have i0 : (0 : Int) ≤ (i : Int) := by omega
      have iL : (i : Int) < 6 := by omega
      by_cases hK : 4 ≤ i
      · have st := hi_step o 4 i z hK hz
        have hle := hi_le o 4 i
        rw [st.1] at hle
        have hsm := HSM.out
        have E1 := Lib.hid st.1
        have E2 := Lib.hid st.2.1
        have e3 : decide (loV o 4 (i + 1) ≠ 0) = false := by rw [st.2.2]; rfl
        rw [e3]
        generalize hiV o 4 (i + 1) = v at *
        generalize hiV o 4 0 = H at *
        obtain ⟨m1, hm1⟩ : ∃ m1, m1 = v * 65536 := ⟨_, rfl⟩
        obtain ⟨v2, hv2⟩ : ∃ v2, v2 = m1 + z := ⟨_, rfl⟩
        have W1' : IntKind.i64.wrap ((v : Int) * 65536) = (m1 : Int) := by rw [IntWalk.i64_in _ (by omega)]; omega
        have W2' : IntKind.i64.wrap ((m1 : Int) + (z : Int)) = (v2 : Int) := by rw [IntWalk.i64_in _ (by omega)]; omega
        have hV : Hid (hiV o 4 i = v2) := Lib.hid (by rw [E1.out, hv2, hm1])
        have iK : (4 : Int) ≤ (i : Int) := by omega
        clear st hle hsm e3 hm1 hv2 hz E1
        go_wp2
        go_roundw
        case rel => exact ⟨i, (i : Int) - 1, by omega, rfl, by rw [hV.out], by rw [E2.out]; rfl, rfl, _, rfl⟩
        case measure => simp [intOf]
      · have st := lo_step o 4 i z (by omega) hz
        have E1 := Lib.hid st.1
        have E2 := Lib.hid st.2
        have iK : ¬ ((4 : Int) ≤ (i : Int)) := by omega
        clear st hz
        by_cases hr : loV o 4 (i + 1) = 0
        · have e3 : decide (loV o 4 (i + 1) ≠ 0) = false := by rw [hr]; rfl
          rw [e3]
          have E3 := Lib.hid hr
          clear e3 hr
          by_cases hz0 : z = 0
          · have z1 : ((z : Int) == 0) = true := by simp [hz0]
            have Z0 := Lib.hid hz0; clear hz0
            go_wp2
            go_roundw
            case rel => exact ⟨i, (i : Int) - 1, by omega, rfl, by rw [E2.out], by rw [E1.out, E3.out, Z0.out]; rfl, rfl, _, rfl⟩
            case measure => simp [intOf]
          · have z1 : ((z : Int) == 0) = false := by simp [hz0]
            have z2 : ¬ ((z : Int) = 0) := by omega
            have Z0 := Lib.hid hz0; clear hz0
            go_wp2
            go_roundw
            case rel => exact ⟨i, (i : Int) - 1, by omega, rfl, by rw [E2.out], by rw [E1.out, E3.out]; simp [Z0.out], rfl, _, rfl⟩
            case measure => simp [intOf]
        · have e3 : decide (loV o 4 (i + 1) ≠ 0) = true := decide_eq_true hr
          rw [e3]
          have E3 := Lib.hid hr
          clear e3 hr
          go_wp2
          go_roundw
          case rel => exact ⟨i, (i : Int) - 1, by omega, rfl, by rw [E2.out], by rw [E1.out, bool_ne, decide_eq_true E3.out]; rfl, rfl, _, rfl⟩
          case measure => simp [intOf]

set_option maxRecDepth 100000 in
set_option maxHeartbeats 1000000 in
theorem most3_any (x n : Nat) (w : World) (hx : x < 68719476736) (hn : n < 512) :
    Calls Try.prog 42 #[.int .i64 x, .int .i64 3, .int .i64 n] w fun e w' => e = .returned (.bool (decide (x ^ 3 ≤ n * 2 ^ (32 * 3)))) ∧ Below w.heap.size w w' := by
  have HDL := Lib.hid (dig_lt x hx)
  have HVD := Lib.hid (val_dig x)
  have HXL := Lib.hid hx
  obtain ⟨d0, h0⟩ : ∃ d, d = x % 65536 := ⟨_, rfl⟩
  obtain ⟨q, hq⟩ : ∃ d, d = x / 65536 := ⟨_, rfl⟩
  obtain ⟨d1, h1⟩ : ∃ d, d = q % 65536 := ⟨_, rfl⟩
  obtain ⟨d2, h2⟩ : ∃ d, d = x / 4294967296 := ⟨_, rfl⟩
  have hdig : dig x = [d0, d1, d2] := by unfold dig; rw [h0, h1, h2, hq]
  have T0 : Int.tmod (x : Int) 65536 = (d0 : Int) := by rw [h0]; rfl
  have T1 : Int.tdiv (x : Int) 65536 = (q : Int) := by rw [hq]; rfl
  have T2 : Int.tmod (q : Int) 65536 = (d1 : Int) := by rw [h1]; rfl
  have T3 : Int.tdiv (x : Int) 4294967296 = (d2 : Int) := by rw [h2]; rfl
  have V0 : IntKind.i64.wrap (d0 : Int) = (d0 : Int) := by rw [IntWalk.i64_in _ (by omega)]
  have V1 : IntKind.i64.wrap (q : Int) = (q : Int) := by rw [IntWalk.i64_in _ (by omega)]
  have V2 : IntKind.i64.wrap (d1 : Int) = (d1 : Int) := by rw [IntWalk.i64_in _ (by omega)]
  have V3 : IntKind.i64.wrap (d2 : Int) = (d2 : Int) := by rw [IntWalk.i64_in _ (by omega)]
  have hnew : IntsAt (w.alloc (.cells #[.int .i64 d0, .int .i64 d1, .int .i64 d2] 3)) w.heap.size (dig x) := by rw [hdig]; exact heap_alloc_new _ _
  have hbe : Below w.heap.size w (w.alloc (.cells #[.int .i64 d0, .int .i64 d1, .int .i64 d2] 3)) := (Below.refl _ _).alloc (Nat.le_refl _) _
  have HNEW := Lib.hid hnew
  have HB0 := Lib.hid hbe
  clear h0 hq h1 h2 hdig hnew hbe hx
  go_enter Try.func42, Try.ntmps42
  go_wp2_with fail
  generalize w.alloc (.cells #[.int .i64 d0, .int .i64 d1, .int .i64 d2] 3) = W1 at *
  obtain ⟨g0, hg0⟩ : ∃ g, g = w.heap.size := ⟨_, rfl⟩
  rw [← hg0] at HNEW ⊢
  have HG0 := Lib.hid hg0; clear hg0
  refine (product_at (dig x) (dig x) g0 g0 3 3 6 W1 HNEW.out HNEW.out HDL.out HDL.out rfl rfl rfl (by decide)).mono ?_
  rintro e w1 ⟨o, g, rfl, hrow, ⟨hov, hol, holt⟩, hb1⟩
  rw [HVD.out] at hov
  have hbw : Below w.heap.size w w1 := HB0.out.trans (hb1.mono HB0.out.size)
  have HROW1 := Lib.hid hrow
  have HBW1 := Lib.hid hbw
  have HD1 := Lib.hid (HNEW.out.new hb1)
  have HOV1 := Lib.hid hov
  have HOL1 := Lib.hid hol
  have HOT1 := Lib.hid holt
  clear hb1 hrow hbw hov hol holt
  go_wp2_with fail
  refine (product_at o (dig x) g g0 6 3 9 w1 HROW1.out HD1.out HOT1.out HDL.out HOL1.out rfl rfl (by decide)).mono ?_
  rintro e w2 ⟨o2, g2, rfl, hrow, ⟨hov, hol, holt⟩, hb1⟩
  rw [HVD.out, HOV1.out] at hov
  have hbw : Below w.heap.size w w2 := HBW1.out.trans (hb1.mono HBW1.out.size)
  have hsm := hi_small o2 6 (x * x * x) 4096 hov (by rw [hol]; decide) (cube_lt x HXL.out)
  have hmost : (hiV o2 6 0 < n ∨ (hiV o2 6 0 = n ∧ loV o2 6 0 = 0)) ↔ x ^ 3 ≤ n * 2 ^ (32 * 3) := by
    rw [(hi_end o2 6).1, (hi_end o2 6).2, most_of o2 6 n holt (by rw [hol]; decide), hov, pow3]
  have HROW := Lib.hid hrow
  have HBW := Lib.hid hbw
  have HOL := Lib.hid hol
  have HSM := Lib.hid hsm
  have HMO := Lib.hid hmost
  have hs0 := hi_start o2 6 9 hol.symm (by decide)
  have HS0 := Lib.hid hs0
  clear hb1 hrow hbw hov hol holt hsm hmost hs0
  go_wp2_with fail
  go_loopw [9, 10, 11] (fun a r i wr => ∃ (k : Nat) (ii : Int), k ≤ 9 ∧ ii = (k : Int) - 1 ∧ a = .int .i64 (hiV o2 6 k) ∧ r = .bool (decide (loV o2 6 k ≠ 0)) ∧ i = .int .i64 ii ∧ ∃ m, wr = w2.drewN m) (fun _ _ i _ => (intOf i + 1).toNat)
  case atStart => exact ⟨9, 8, Nat.le_refl _, rfl, by rw [HS0.out.1]; rfl, by rw [HS0.out.2]; rfl, rfl, 0, rfl⟩
  case round =>
    obtain ⟨k, ii, hk, hii, rfl, rfl, rfl, m, rfl⟩ := hrel
    cases k with
    | zero =>
      have hneg : ¬ ((0 : Int) ≤ ii) := by omega
      clear hii
      have hb := Below_drewN HBW.out m
      have HBB := Lib.hid hb
      have HM := HMO.out
      have HM1 := Lib.hid (fun h => HM.2 h)
      have HM2 := Lib.hid (fun h => HM.1 h)
      have hHn := HSM.out
      clear hb HM
      generalize hiV o2 6 0 = H at *
      generalize loV o2 6 0 = O at *
      rcases Nat.lt_trichotomy H n with h2 | h2 | h2
      · have c1 : (H : Int) < (n : Int) := by omega
        go_wp2
        go_ret
        exact ⟨ret_b (decide_eq_true (HM2.out (.inl h2))).symm, HBB.out⟩
      · subst h2
        by_cases h3 : O = 0
        · have e : decide (O ≠ 0) = false := by simp [h3]
          rw [e]
          go_wp2
          go_ret
          exact ⟨ret_b (decide_eq_true (HM2.out (.inr (by simp [h3])))).symm, HBB.out⟩
        · have e : decide (O ≠ 0) = true := by simp [h3]
          rw [e]
          go_wp2
          go_ret
          exact ⟨ret_b (decide_eq_false (fun h => by rcases HM1.out h with h | h <;> omega)).symm, HBB.out⟩
      · have c1 : ¬ ((H : Int) < (n : Int)) := by omega
        have c2 : ¬ ((H : Int) = (n : Int)) := by omega
        have c3 : ((H : Int) == (n : Int)) = false := by simp; omega
        go_wp2
        go_ret
        exact ⟨ret_b (decide_eq_false (fun h => by rcases HM1.out h with h | h <;> omega)).symm, HBB.out⟩
    | succ i =>
      obtain rfl : ii = (i : Int) := by omega
      clear hii
      have hil : i < o2.length := by rw [HOL.out]; omega
      obtain ⟨z, hz⟩ : ∃ z, o2[i]? = some z := ⟨_, List.getElem?_eq_getElem hil⟩
      have hc := IntsAt.cell (w := w2.drewN m) HROW.out i z hz
      have i0 : (0 : Int) ≤ (i : Int) := by omega
      have iL : (i : Int) < 9 := by omega
      by_cases hK : 6 ≤ i
      · have st := hi_step o2 6 i z hK hz
        have hle := hi_le o2 6 i
        rw [st.1] at hle
        have hsm := HSM.out
        have E1 := Lib.hid st.1
        have E2 := Lib.hid st.2.1
        have e3 : decide (loV o2 6 (i + 1) ≠ 0) = false := by rw [st.2.2]; rfl
        rw [e3]
        generalize hiV o2 6 (i + 1) = v at *
        generalize hiV o2 6 0 = H at *
        obtain ⟨m1, hm1⟩ : ∃ m1, m1 = v * 65536 := ⟨_, rfl⟩
        obtain ⟨v2, hv2⟩ : ∃ v2, v2 = m1 + z := ⟨_, rfl⟩
        have W1' : IntKind.i64.wrap ((v : Int) * 65536) = (m1 : Int) := by rw [IntWalk.i64_in _ (by omega)]; omega
        have W2' : IntKind.i64.wrap ((m1 : Int) + (z : Int)) = (v2 : Int) := by rw [IntWalk.i64_in _ (by omega)]; omega
        have hV : Hid (hiV o2 6 i = v2) := Lib.hid (by rw [E1.out, hv2, hm1])
        have iK : (6 : Int) ≤ (i : Int) := by omega
        clear st hle hsm e3 hm1 hv2 hz E1
        go_wp2
        go_roundw
        case rel => exact ⟨i, (i : Int) - 1, by omega, rfl, by rw [hV.out], by rw [E2.out]; rfl, rfl, _, rfl⟩
        case measure => simp [intOf]
      · have st := lo_step o2 6 i z (by omega) hz
        have E1 := Lib.hid st.1
        have E2 := Lib.hid st.2
        have iK : ¬ ((6 : Int) ≤ (i : Int)) := by omega
        clear st hz
        by_cases hr : loV o2 6 (i + 1) = 0
        · have e3 : decide (loV o2 6 (i + 1) ≠ 0) = false := by rw [hr]; rfl
          rw [e3]
          have E3 := Lib.hid hr
          clear e3 hr
          by_cases hz0 : z = 0
          · have z1 : ((z : Int) == 0) = true := by simp [hz0]
            have Z0 := Lib.hid hz0; clear hz0
            go_wp2
            go_roundw
            case rel => exact ⟨i, (i : Int) - 1, by omega, rfl, by rw [E2.out], by rw [E1.out, E3.out, Z0.out]; rfl, rfl, _, rfl⟩
            case measure => simp [intOf]
          · have z1 : ((z : Int) == 0) = false := by simp [hz0]
            have z2 : ¬ ((z : Int) = 0) := by omega
            have Z0 := Lib.hid hz0; clear hz0
            go_wp2
            go_roundw
            case rel => exact ⟨i, (i : Int) - 1, by omega, rfl, by rw [E2.out], by rw [E1.out, E3.out]; simp [Z0.out], rfl, _, rfl⟩
            case measure => simp [intOf]
        · have e3 : decide (loV o2 6 (i + 1) ≠ 0) = true := decide_eq_true hr
          rw [e3]
          have E3 := Lib.hid hr
          clear e3 hr
          go_wp2
          go_roundw
          case rel => exact ⟨i, (i : Int) - 1, by omega, rfl, by rw [E2.out], by rw [E1.out, bool_ne, decide_eq_true E3.out]; rfl, rfl, _, rfl⟩
          case measure => simp [intOf]
end Go.Proofs.Ytbiahhngeldhbaa

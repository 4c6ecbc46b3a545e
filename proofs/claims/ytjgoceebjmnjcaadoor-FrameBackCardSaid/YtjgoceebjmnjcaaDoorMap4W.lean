/- Walks of move and Join. -/
import Derived.Test.YtjgoceebjmnjcaaDoorMap3W
import Derived.BigQuiet
import Derived.Deep.QuietTactic
import Derived.WalkKit
import Derived.WalkSpells
import Derived.Lib.Hide
import Derived.WalkLawsBesides
import Derived.Outline
import Derived.IntWalk
set_option linter.unusedVariables false
namespace Go.Proofs.YtjgoceebjmnjcaaDoor
open Go.RowKit

theorem i64_and1 (n : Int) : bits .and .i64 n 1 = n % 2 := by
  have h1 : (BitVec.ofInt 64 1).toNat = 2 ^ 1 - 1 := by decide
  have key : (BitVec.ofInt 64 n &&& BitVec.ofInt 64 1).toNat = (n % ((2 ^ 64 : Nat) : Int)).toNat % 2 ^ 1 := by
    rw [BitVec.toNat_and, BitVec.toNat_ofInt, h1, Nat.and_two_pow_sub_one_eq_mod]
  show IntKind.i64.wrap ((BitVec.ofInt 64 n &&& BitVec.ofInt 64 1).toNat : Nat) = n % 2
  rw [key, IntKind.wrap_i64]
  omega
theorem ZRow.cases {w : World} {base : Nat} {v : Value} {n : Nat} (h : ZRow w base v n) :
    (v = .slice none 0 0 ∧ n = 0) ∨ ∃ g cap, v = .slice (some ⟨g, 0, none⟩) n cap ∧ base ≤ g ∧ g < w.heap.size ∧ ∀ i, i < n → MapAt w g (i * 32) (8 * 2 ^ i) := by
  rcases h.2 with hn | ⟨g, cap, cur, rfl, hb, hgg, rest⟩
  · exact .inl hn
  · refine .inr ⟨g, cap, rfl, hb, (Array.getElem?_eq_some_iff.1 hgg).1, fun i hi j hj => ?_⟩
    have := World.ownsRow.cells h (g := g) rfl (i * 32 + j) _ (zcells_get n i j hi hj)
    have e1 : (⟨g, 0, none⟩ : Addr).add (i * 32 + j) = ⟨g, 0 + (i * 32 + j), none⟩ := by unfold Addr.add; split <;> simp_all
    rw [e1, Nat.zero_add] at this
    exact this
theorem move_bit (n i s : Nat) : stpN (8 * (n % 2 ^ (i + 1))) s = if n / 2 ^ i % 2 = 1 then stpN (8 * 2 ^ i) (stpN (8 * (n % 2 ^ i)) s) else stpN (8 * (n % 2 ^ i)) s := by
  have e : n % 2 ^ (i + 1) = n % 2 ^ i + 2 ^ i * (n / 2 ^ i % 2) := by rw [Nat.pow_succ, Nat.mod_mul]
  split
  · rename_i h
    rw [e, h, ← stpN_add]
    congr 1
    omega
  · rename_i h
    have : n / 2 ^ i % 2 = 0 := by omega
    rw [e, this]
    congr 1

set_option maxHeartbeats 1000000 in
theorem move_any (S : Int) (s n L base : Nat) (v : Value) (w : World) (hs : S % 4294967296 = (s : Int)) (hs2 : s < 4294967296) (hn : n < 2 ^ L) (hn2 : n ≤ 140737488351232) (hL : L ≤ 64) (hz : ZRow w base v L) (hT : BTab w) :
    Calls Tryd.prog 30 #[v, .int .i64 S, .int .i64 n] w fun e w' => ∃ m, e = .returned (.int .i64 (stpN (8 * n) s : Nat)) ∧ w' = w.drewN m := by
  have HT := Lib.hid hT; clear hT
  have HN := Lib.hid hn
  rcases hz.cases with ⟨rfl, hL0⟩ | ⟨g, cap, rfl, hg, hglt, hat⟩
  · have hn0 : n = 0 := by rw [hL0] at hn; simpa using hn
    subst hn0
    clear hn hL0 hz HN
    go_enter Tryd.func30, Tryd.ntmps30
    go_wp2
    refine wp_loop_rounds 1 ?_
    rw [rounds_succ]
    go_wp2
    go_ret
    exact ⟨0, rfl, rfl⟩
  · have HA := Lib.hid hat; clear hat hz hn
    have HS := Lib.hid hs; clear hs
    go_enter Tryd.func30, Tryd.ntmps30
    go_wp2
    go_loopw [7, 13] (fun r i wr => ∃ x m q : Nat, x ≤ L ∧ i = .int .i64 x ∧ r = .int .u32 q ∧ q < 4294967296 ∧ q = stpN (8 * (n % 2 ^ x)) s ∧ wr = w.drewN m) (fun _ i _ => L - (intOf i).toNat)
    case atStart => exact ⟨0, 0, s, by omega, rfl, by rw [HS.out], hs2, by simp [Nat.mod_one, stpN], rfl⟩
    case round =>
      obtain ⟨x, m, q, hx, rfl, rfl, hq, heq, rfl⟩ := hrel
      have Heq := Lib.hid heq; clear heq
      by_cases hlt : x < L
      · have Hmv := Lib.hid (move_bit n x s)
        have e1 := i64_and1 ((n / 2 ^ x : Nat) : Int)
        have e0 : ((n / 2 ^ x : Nat) : Int) = (n : Int) / 2 ^ x := by rw [Int.natCast_ediv, Int.natCast_pow]; rfl
        have hbx : n / 2 ^ x ≤ n := Nat.div_le_self _ _
        by_cases hbit : n / 2 ^ x % 2 = 1
        · have eb : ((n / 2 ^ x : Nat) : Int) % 2 = 1 := by omega
          rw [eb] at e1
          have h2 := Hmv.out
          rw [if_pos hbit, ← Heq.out] at h2
          have H2 := Lib.hid h2; clear h2
          have C := Lib.hid (of_any g (x * 32) (8 * 2 ^ x) q (w.drewN m) hq ((HA.out x hlt).drewN m) (HT.out.drewN m))
          have hy := stpN_lt (8 * 2 ^ x) q hq
          generalize stpN (8 * 2 ^ x) q = y at *
          rw [e0] at e1
          clear eb hbit hbx e0
          go_wp2_with fail
          refine C.out.mono ?_
          rintro e w3 ⟨k, rfl, rfl⟩
          go_wp2
          go_roundw
          case rel => exact ⟨x + 1, m + k, y, by omega, by go_num, rfl, hy, H2.out.symm, by first | rfl | rw [World.drewN_drewN]⟩
          case measure => simp [intOf]; omega
        · have eb : ((n / 2 ^ x : Nat) : Int) % 2 = 0 := by omega
          rw [eb] at e1
          have h2 := Hmv.out
          rw [if_neg hbit, ← Heq.out] at h2
          have H2 := Lib.hid h2; clear h2
          rw [e0] at e1
          clear eb hbit hbx e0
          go_wp2
          go_roundw
          case rel => exact ⟨x + 1, m, q, by omega, by go_num, rfl, hq, H2.out.symm, rfl⟩
          case measure => simp [intOf]; omega
      · have hxL : x = L := by omega
        have Hr : Hid (q = stpN (8 * n) s) := Lib.hid (by rw [Heq.out, hxL, Nat.mod_eq_of_lt HN.out])
        clear hxL
        go_wp2
        go_ret
        rw [← Hr.out]
        exact ⟨m, rfl, rfl⟩

theorem isSum_ok (n : Nat) (w : World) (h : n < 4294967296) : Calls Tryd.prog 28 #[.int .i64 n] w fun e w' => e = .returned (.bool true) ∧ w = w' := by
  have e1 : (n : Int) / 4294967296 = 0 := by omega
  go_enter Tryd.func28, Tryd.ntmps28
  go_wp2
  go_ret
  exact ⟨rfl, rfl⟩

set_option maxHeartbeats 1000000 in
theorem join_any (a b n : Nat) (w : World) (ha : a < 4294967296) (hb : b < 4294967296) (hn : n ≤ 140737488351232) (ht : Tab w) (hT : BTab w) :
    Calls Tryd.prog 17 #[.int .i64 a, .int .i64 b, .int .i64 n] w fun e w' => e = .returned (.tuple #[.int .i64 (stpN (8 * n) a ^^^ b : Nat), .int .i64 0]) ∧ Below w.heap.size w w' := by
  have I1 := Lib.hid (isSum_ok a w ha)
  have I2 := Lib.hid (isSum_ok b w hb)
  have Zr := Lib.hid (zeros_any n w hn ht hT)
  have HT := Lib.hid hT
  have hlt := lt_bitLen n n (Nat.le_refl _) (by omega)
  have hl := bitLen_le n
  have M := fun w' v hz hT => Lib.hid (move_any (a : Nat) a n (Lib.bitLen n) w.heap.size v w' (by omega) ha hlt hn hl hz hT)
  have hy := stpN_lt (8 * n) a ha
  generalize Lib.bitLen n = L at *
  have e1 := i64_xor_nat (stpN (8 * n) a) b (by omega) (by omega)
  generalize hq : stpN (8 * n) a ^^^ b = q at *
  generalize stpN (8 * n) a = y at *
  have Hq := Lib.hid hq; clear hq hlt ht hT
  go_enter Tryd.func17, Tryd.ntmps17
  go_wp2_with fail
  refine I1.out.mono ?_
  rintro e w1 ⟨rfl, rfl⟩
  go_wp2_with fail
  refine I2.out.mono ?_
  rintro e w1 ⟨rfl, rfl⟩
  go_wp2_with fail
  refine Zr.out.mono ?_
  rintro e w1 ⟨v, rfl, hz, hb1⟩
  have Hz := Lib.hid hz; clear hz
  go_wp2_with fail
  refine (M w1 v Hz.out (HT.out.below hb1)).out.mono ?_
  rintro e w2 ⟨k, rfl, rfl⟩
  go_wp2
  go_ret2
  exact ⟨rfl, Below_drewN hb1 k⟩
end Go.Proofs.YtjgoceebjmnjcaaDoor

/- Walks of TrailingZeros32 and of a map of bits. -/
import Derived.Test.YtjgoceebjmnjcaaDoorSumW
import Derived.Test.YtjgoceebjmnjcaaDoorMapMath
import Derived.Test.YtjgoceebjmnjcaaDoorOwnL
import Derived.Test.YtjgoceebjmnjcaaDoorQuietLaw
import Derived.BigQuiet
import Derived.Deep.QuietTactic
import Derived.Laws.Tables
import Derived.Laws.Rows
import Derived.WalkKit
import Derived.WalkSpells
import Derived.Lib.Hide
import Derived.WalkLawsBesides
import Derived.Outline
import Derived.IntWalk
set_option linter.unusedVariables false
namespace Go.Proofs.YtjgoceebjmnjcaaDoor
open Go.RowKit

/-- The table of package math/bits, as it was laid. -/
def BTab (w : World) : Prop := 1 < w.heap.size ∧ ∀ i, i < 32 → w.cell? ⟨1, i, none⟩ = some (.int .u8 (Lib.deBruijn32tab.getD i 0 : Nat))
theorem BTab.below {w w' : World} (h : BTab w) (hb : Below w.heap.size w w') : BTab w' :=
  ⟨Nat.lt_of_lt_of_le h.1 hb.size, fun i hi => by rw [hb.cell (p := ⟨1, i, none⟩) h.1]; exact h.2 i hi⟩
theorem BTab.drewN {w : World} (h : BTab w) (n : Nat) : BTab (w.drewN n) := h

theorem tz_core (x y q z i t : Nat) (w : World) (hx : x < 4294967296) (hne : ((x : Int) == 0) = false) (e1 : (-(x : Int)) % 4294967296 = (y : Int)) (e2 : bits .and .u32 (x : Int) (y : Int) = (q : Int))
    (e3 : ((q : Int) * 125613361) % 4294967296 = (z : Int)) (e4 : (z : Int) / 134217728 = (i : Int)) (hi : i < 32) (ht : t < 32) (hc : w.cell? ⟨1, i, none⟩ = some (.int .u8 (t : Nat))) :
    Calls Tryd.prog 50 #[.int .u32 x] w fun e w' => e = .returned (.int .i64 (t : Nat)) ∧ w = w' := by
  go_enter Tryd.func50, Tryd.ntmps50
  go_wp2
  go_ret
  exact ⟨rfl, rfl⟩
theorem tz_key (x t : Nat) (h0 : x ≠ 0) (hx : x < 4294967296) (ht : Lib.ctz 32 x = t) : t < 32 ∧ ∃ y q z i : Nat, (-(x : Int)) % 4294967296 = (y : Int) ∧ bits .and .u32 (x : Int) (y : Int) = (q : Int) ∧
    ((q : Int) * 125613361) % 4294967296 = (z : Int) ∧ (z : Int) / 134217728 = (i : Int) ∧ i < 32 ∧ Lib.deBruijn32tab.getD i 0 = t := by
  obtain ⟨hlow, hk⟩ := Lib.lowest_bit 32 x h0 (by omega)
  have p32 : (2 : Nat) ^ 32 = 4294967296 := by decide
  rw [p32, ht] at hlow
  rw [ht] at hk
  obtain ⟨hi, htab⟩ := Lib.deBruijn32_at t hk
  refine ⟨hk, 4294967296 - x, 2 ^ t, 2 ^ t * 125613361 % 4294967296, 2 ^ t * 125613361 % 4294967296 / 134217728, ?_, ?_, ?_, ?_, hi, htab⟩
  · omega
  · rw [u32_and_nat x (4294967296 - x) hx (by omega), hlow]
  · rw [Int.natCast_emod, Int.natCast_mul]; rfl
  · rw [Int.natCast_ediv]; rfl
theorem tz_any (x : Nat) (w : World) (h0 : x ≠ 0) (hx : x < 4294967296) (hT : BTab w) :
    Calls Tryd.prog 50 #[.int .u32 x] w fun e w' => e = .returned (.int .i64 (Lib.ctz 32 x : Nat)) ∧ w = w' := by
  obtain ⟨ht, y, q, z, i, e1, e2, e3, e4, hi, htab⟩ := tz_key x _ h0 hx rfl
  have hc := hT.2 _ hi
  rw [htab] at hc
  exact tz_core x y q z i _ w hx (by simp; omega) e1 e2 e3 e4 hi ht hc

/-- From cell off of block b on lies the map of k steps. -/
def MapAt (w : World) (b off k : Nat) : Prop := ∀ j, j < 32 → w.cell? ⟨b, off + j, none⟩ = some (.int .u32 (stpN k (2 ^ j) : Nat))
theorem MapAt.drewN {w : World} {b off k : Nat} (h : MapAt w b off k) (n : Nat) : MapAt (w.drewN n) b off k := h

set_option maxHeartbeats 1000000 in
theorem of_any (b off k r0 : Nat) (w : World) (hr : r0 < 4294967296) (hm : MapAt w b off k) (hT : BTab w) :
    Calls Tryd.prog 43 #[.pointer (some ⟨b, off, none⟩), .int .u32 r0] w fun e w' => ∃ n, e = .returned (.int .u32 (stpN k r0 : Nat)) ∧ w' = w.drewN n := by
  have HM := Lib.hid hm; clear hm
  have HT := Lib.hid hT; clear hT
  go_enter Tryd.func43, Tryd.ntmps43
  go_wp2
  go_loopw [1, 5] (fun r a wr => ∃ q x n : Nat, r = .int .u32 q ∧ a = .int .u32 x ∧ q < 4294967296 ∧ x < 4294967296 ∧ x ^^^ stpN k q = stpN k r0 ∧ wr = w.drewN n) (fun r _ _ => (intOf r).toNat)
  case atStart => exact ⟨r0, 0, 0, rfl, rfl, hr, by decide, by rw [Nat.zero_xor], rfl⟩
  case round =>
    obtain ⟨q, x, n, rfl, rfl, hq, hx, heq, rfl⟩ := hrel
    have Heq := Lib.hid heq; clear heq
    by_cases h0 : q = 0
    · subst h0
      have hx2 : x = stpN k r0 := by have := Heq.out; rw [stpN_zero, Nat.xor_zero] at this; exact this
      go_wp2
      go_ret
      rw [hx2]
      exact ⟨n, rfl, rfl⟩
    · obtain ⟨ht, h1, h2⟩ := low_of q h0 hq
      have C := fun m => Lib.hid (tz_any q ((w.drewN n).drewN m) h0 hq ((HT.out.drewN n).drewN m))
      have Hst := Lib.hid (map_step k r0 q x (Lib.ctz 32 q) Heq.out)
      have hcell := HM.out (Lib.ctz 32 q) ht
      have e1 := u32_and_nat q (q - 1) hq (by omega)
      rw [h1] at e1
      have e0 : ((q - 1 : Nat) : Int) = (q : Int) - 1 := by omega
      rw [e0] at e1
      have hlt := stpN_lt k (2 ^ Lib.ctz 32 q) (two_pow_lt _ ht)
      have e2 := u32_xor_nat x (stpN k (2 ^ Lib.ctz 32 q)) hx hlt
      have hx2 := Nat.xor_lt_two_pow (n := 32) (x := x) (y := stpN k (2 ^ Lib.ctz 32 q)) (by omega) (by omega)
      have hne : ((q : Int) != 0) = true := by simp; omega
      have H1 := Lib.hid h1; clear h1
      generalize hq2 : q ^^^ 2 ^ Lib.ctz 32 q = q2 at *
      generalize stpN k (2 ^ Lib.ctz 32 q) = y at *
      generalize hx3 : x ^^^ y = x2 at *
      generalize hwq : w.drewN n = wq at *
      have Hwq := Lib.hid hwq; clear hwq
      have hcell2 : wq.cell? ⟨b, off + Lib.ctz 32 q, none⟩ = some (.int .u32 (y : Nat)) := by rw [← Hwq.out]; exact hcell
      clear hcell hq2 hx3 e0
      have H0 := Lib.hid h0; clear h0
      generalize Lib.ctz 32 q = t at *
      go_wp2
      go_quiet ((go_at_call 50; exact quiet_left (C _).out))
      go_wp2
      go_roundw
      case rel => exact ⟨q2, x2, n + nq, rfl, rfl, by omega, hx2, Hst.out, by rw [← Hwq.out, World.drewN_drewN]⟩
      case measure => simp [intOf]; omega
end Go.Proofs.YtjgoceebjmnjcaaDoor

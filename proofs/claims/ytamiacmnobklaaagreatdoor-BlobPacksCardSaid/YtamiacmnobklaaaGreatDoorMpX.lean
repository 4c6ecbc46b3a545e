/- Several texts in one: BurstMath, MapMath, MapW, Map2W, Map3W, Map4W. -/
import Derived.Test.YtamiacmnobklaaaGreatDoorCrX
import Derived.Lib.TrailingZeros
import Derived.Test.YtamiacmnobklaaaGreatDoorGen
import Derived.Test.YtamiacmnobklaaaGreatDoorOwnL
import Derived.Test.YtamiacmnobklaaaGreatDoorQuietLaw
import Derived.Test.YtamiacmnobklaaaGreatDoorRows
import Derived.BigQuiet
import Derived.Deep.QuietTactic
import Derived.IntWalk
import Derived.Laws.BitsAllLaws
import Derived.Laws.Rows
import Derived.Laws.Tables
import Derived.Lib.Hide
import Derived.OpenShut
import Derived.Outline
import Derived.ProofKit
import Derived.ShutString
import Derived.SizedLaws
import Derived.SliceStrings
import Derived.WalkKit
import Derived.WalkLawsBesides
import Derived.WalkSpells
import Derived.Test.YtamiacmnobklaaaGreatDoorFrame
import Derived.Test.YtamiacmnobklaaaGreatDoorFrmShelf
/- Bits turned within 32 side by side turn the sum. Of no program. -/
set_option linter.unusedVariables false
namespace Go.Proofs.YtamiacmnobklaaaGreatDoor

theorem joinP (i c x : Nat) (hc : c < 2 ^ i) : c + 2 ^ i * x = c ^^^ (x * 2 ^ i) := by
  apply Nat.eq_of_testBit_eq
  intro j
  rw [Nat.testBit_xor, Nat.testBit_mul_two_pow, Nat.add_comm c, Nat.testBit_two_pow_mul_add x hc j]
  by_cases hi : j < i
  · have h8 : decide (i ≤ j) = false := by simp; omega
    rw [h8]
    simp [hi]
  · have : c.testBit j = false := Nat.testBit_lt_two_pow (Nat.lt_of_lt_of_le hc (Nat.pow_le_pow_right (n := 2) (by decide) (by omega : i ≤ j)))
    have h8 : i ≤ j := by omega
    simp [hi, this, h8]
theorem xor_mul (a b i : Nat) : (a ^^^ b) * 2 ^ i = (a * 2 ^ i) ^^^ (b * 2 ^ i) := by
  rw [← Nat.shiftLeft_eq, ← Nat.shiftLeft_eq, ← Nat.shiftLeft_eq, Nat.shiftLeft_xor_distrib]
theorem numL_cons (c : UInt8) (l : List UInt8) : numL (c :: l) = c.toNat ^^^ (numL l * 2 ^ 8) := by rw [numL, join8 _ _ c.toNat_lt]
theorem numL_set (l : List UInt8) : ∀ (k : Nat) (hk : k < l.length) (d : Nat) (c : UInt8), c.toNat = l[k].toNat ^^^ d → numL (l.set k c) = numL l ^^^ (d * 2 ^ (8 * k)) := by
  induction l with
  | nil => intro k hk; simp at hk
  | cons x l ih =>
    intro k hk d c hc
    cases k with
    | zero =>
      simp only [List.set_cons_zero, List.getElem_cons_zero] at hc ⊢
      rw [numL_cons, numL_cons, hc, Nat.mul_zero, Nat.pow_zero, Nat.mul_one, Nat.xor_assoc, Nat.xor_assoc, Nat.xor_comm d]
    | succ k =>
      simp only [List.set_cons_succ, List.getElem_cons_succ] at hc ⊢
      rw [numL_cons, numL_cons, ih k (by simpa using hk) d c hc, xor_mul, Nat.mul_assoc, ← Nat.pow_add, show 8 * k + 8 = 8 * (k + 1) from by omega, Nat.xor_assoc]
theorem bit_up (p i : Nat) : p % 2 ^ (i + 1) = (p % 2 ^ i) ^^^ ((p / 2 ^ i % 2) * 2 ^ i) := by
  rw [← joinP i _ _ (Nat.mod_lt _ (Nat.two_pow_pos i)), Nat.pow_succ, Nat.mod_mul]
theorem bit_flip (at' i : Nat) : 2 ^ ((at' + i) % 8) * 2 ^ (8 * ((at' + i) / 8)) = 2 ^ i * 2 ^ at' := by
  rw [← Nat.pow_add, ← Nat.pow_add]
  congr 1
  omega

/-- The text's bytes behind i of the pattern's bits. -/
def Turned (l L : List UInt8) (at' p i : Nat) : Prop := L.length = l.length ∧ numL L = numL l ^^^ (p % 2 ^ i * 2 ^ at')
theorem Turned.start (l : List UInt8) (at' p : Nat) : Turned l l at' p 0 := ⟨rfl, by simp [Nat.mod_one]⟩
theorem Turned.skip {l L : List UInt8} {at' p i : Nat} (h : Turned l L at' p i) (h0 : p / 2 ^ i % 2 = 0) : Turned l L at' p (i + 1) :=
  ⟨h.1, by rw [bit_up, h0, Nat.zero_mul, Nat.xor_zero]; exact h.2⟩
theorem Turned.flip {l L : List UInt8} {at' p i : Nat} (h : Turned l L at' p i) (h1 : p / 2 ^ i % 2 = 1) (hk : (at' + i) / 8 < L.length) (c : UInt8)
    (hc : c.toNat = L[(at' + i) / 8].toNat ^^^ 2 ^ ((at' + i) % 8)) : Turned l (L.set ((at' + i) / 8) c) at' p (i + 1) := by
  refine ⟨by rw [List.length_set]; exact h.1, ?_⟩
  rw [numL_set L _ hk _ c hc, bit_flip, h.2, bit_up, h1, Nat.one_mul, xor_mul, Nat.xor_assoc]
theorem burst_ne {l L : List UInt8} {at' p : Nat} (h : Turned l L at' p 32) (h0 : 1 ≤ p) (h1 : p ≤ 4294967295) (ha : at' ≤ 8 * l.length) : sumS L ≠ sumS l := by
  intro he
  obtain ⟨hl, hn⟩ := h
  have hp : p % 2 ^ 32 = p := Nat.mod_eq_of_lt (by omega)
  rw [hp] at hn
  unfold sumS addS at he
  have he2 := congrArg turn he
  rw [turn_turn, turn_turn, crc_num, crc_num, hl, hn, ← Nat.xor_assoc, stpN_xor _ _ (p * 2 ^ at')] at he2
  have e3 : stpN (8 * l.length) (p * 2 ^ at') = 0 := by
    have := congrArg (fun z => stpN (8 * l.length) (turn 0 ^^^ numL l) ^^^ z) he2
    simp only [xor_twice, Nat.xor_self] at this
    exact this
  rw [show 8 * l.length = at' + (8 * l.length - at') from by omega, stpN_add, stpN_shift] at e3
  exact stpN_pos _ p (by omega) (by omega) e3
end Go.Proofs.YtamiacmnobklaaaGreatDoor
/- The lowest bit of a number; what a map of bits makes of a number, bit by bit. Of no program. -/
set_option linter.unusedVariables false
namespace Go.Proofs.YtamiacmnobklaaaGreatDoor

/-- Without its lowest bit. -/
theorem low_off (t m : Nat) : (2 ^ t * (2 * m + 1)) &&& (2 ^ t * (2 * m + 1) - 1) = 2 ^ t * (2 * m) ∧ 2 ^ t * (2 * m) = (2 ^ t * (2 * m + 1)) ^^^ 2 ^ t := by
  have ht := Nat.two_pow_pos t
  have e1 : 2 ^ t * (2 * m + 1) - 1 = 2 ^ t * (2 * m) + (2 ^ t - 1) := by rw [Nat.mul_add, Nat.mul_one]; omega
  have hb : ∀ (x c : Nat), c < 2 ^ t → ∀ i, (2 ^ t * x + c).testBit i = if i < t then c.testBit i else x.testBit (i - t) := fun x c hc i => Nat.testBit_two_pow_mul_add x hc i
  have h0 : ∀ i, (2 ^ t * (2 * m + 1)).testBit i = if i < t then false else (2 * m + 1).testBit (i - t) := fun i => by
    have := hb (2 * m + 1) 0 ht i
    simpa using this
  have h2 : ∀ i, (2 ^ t * (2 * m)).testBit i = if i < t then false else (2 * m).testBit (i - t) := fun i => by
    have := hb (2 * m) 0 ht i
    simpa using this
  have hodd : ∀ j, (2 * m + 1).testBit j = if j = 0 then true else (2 * m).testBit j := fun j => by
    cases j with
    | zero => simp [Nat.testBit_zero]
    | succ j => rw [Nat.testBit_succ, Nat.testBit_succ, show (2 * m + 1) / 2 = m from by omega, show 2 * m / 2 = m from by omega]; simp
  have hev : (2 * m).testBit 0 = false := by simp [Nat.testBit_zero]
  constructor
  · apply Nat.eq_of_testBit_eq
    intro i
    rw [Nat.testBit_and, e1, hb _ _ (by omega), h0, h2]
    by_cases hi : i < t
    · simp [hi]
    · simp only [hi, if_false]
      rw [hodd]
      by_cases hj : i - t = 0
      · rw [hj, hev]; simp
      · simp [hj]
  · apply Nat.eq_of_testBit_eq
    intro i
    rw [Nat.testBit_xor, h0, h2, Nat.testBit_two_pow]
    by_cases hi : i < t
    · have : ¬ t = i := by omega
      simp [hi, this]
    · simp only [hi, if_false]
      rw [hodd]
      by_cases hj : i - t = 0
      · have : t = i := by omega
        rw [hj, hev]; simp [this]
      · have : ¬ t = i := by omega
        simp [hj, this]
/-- A number that is not 0 has a lowest bit. -/
theorem low_of (r : Nat) (h0 : r ≠ 0) (h : r < 4294967296) : Lib.ctz 32 r < 32 ∧ r &&& (r - 1) = r ^^^ 2 ^ Lib.ctz 32 r ∧ r ^^^ 2 ^ Lib.ctz 32 r < r := by
  obtain ⟨m, hm, hk⟩ := Lib.ctzFrom_spec 32 r (by omega) (by omega)
  have e : Lib.ctz 32 r = Lib.ctzFrom 32 r := by simp [Lib.ctz, h0]
  rw [e]
  generalize Lib.ctzFrom 32 r = t at *
  obtain ⟨h1, h2⟩ := low_off t m
  rw [← hm] at h1 h2
  refine ⟨hk, h1.trans h2, ?_⟩
  rw [← h2]
  have := Nat.two_pow_pos t
  rw [hm, Nat.mul_add, Nat.mul_one]
  omega
theorem two_pow_lt (j : Nat) (h : j < 32) : 2 ^ j < 4294967296 := Nat.lt_of_lt_of_le (Nat.pow_lt_pow_right (by decide) h) (by decide)
/-- The step of a map: the lowest bit's part is taken, and the bit. -/
theorem map_step (k r0 r a t : Nat) (h : a ^^^ stpN k r = stpN k r0) : (a ^^^ stpN k (2 ^ t)) ^^^ stpN k (r ^^^ 2 ^ t) = stpN k r0 := by
  rw [stpN_xor, Nat.xor_comm (stpN k r), Nat.xor_assoc, xor_twice]
  exact h
end Go.Proofs.YtamiacmnobklaaaGreatDoor
/- Walks of TrailingZeros32 and of a map of bits. -/
set_option linter.unusedVariables false
namespace Go.Proofs.YtamiacmnobklaaaGreatDoor
open Go.RowKit

/-- The table of package math/bits, as it was laid. -/
def BTab (w : World) : Prop := 1 < w.heap.size ∧ ∀ i, i < 32 → w.cell? ⟨1, i, none⟩ = some (.int .u8 (Lib.deBruijn32tab.getD i 0 : Nat))
theorem BTab.below {w w' : World} (h : BTab w) (hb : Below w.heap.size w w') : BTab w' :=
  ⟨Nat.lt_of_lt_of_le h.1 hb.size, fun i hi => by rw [hb.cell (p := ⟨1, i, none⟩) h.1]; exact h.2 i hi⟩
theorem BTab.drewN {w : World} (h : BTab w) (n : Nat) : BTab (w.drewN n) := h

theorem tz_core (x y q z i t : Nat) (w : World) (hx : x < 4294967296) (hne : ((x : Int) == 0) = false) (e1 : (-(x : Int)) % 4294967296 = (y : Int)) (e2 : bits .and .u32 (x : Int) (y : Int) = (q : Int))
    (e3 : ((q : Int) * 125613361) % 4294967296 = (z : Int)) (e4 : (z : Int) / 134217728 = (i : Int)) (hi : i < 32) (ht : t < 32) (hc : w.cell? ⟨1, i, none⟩ = some (.int .u8 (t : Nat))) :
    Calls Tryz.prog 162 #[.int .u32 x] w fun e w' => e = .returned (.int .i64 (t : Nat)) ∧ w = w' := by
  go_enter Tryz.func162, Tryz.ntmps162
  go_wp2
  go_ret
  exact ⟨rfl, rfl⟩
theorem tz_key (x t : Nat) (h0 : x ≠ 0) (hx : x < 4294967296) (ht : Lib.ctz 32 x = t) : t < 32 ∧ ∃ y q z i : Nat, (-(x : Int)) % 4294967296 = (y : Int) ∧ bits .and .u32 (x : Int) (y : Int) = (q : Int) ∧
    ((q : Int) * 125613361) % 4294967296 = (z : Int) ∧ (z : Int) / 134217728 = (i : Int) ∧ i < 32 ∧ Lib.deBruijn32tab.getD i 0 = t := by
  obtain ⟨hlow, hk⟩ := Lib.lowest_bit 32 x h0 (by omega)
  have p32 : (2 : Nat) ^ 32 = 4294967296 := by decide
  rw [p32, ht] at hlow
  rw [ht] at hk
  obtain ⟨hi, htab⟩ := Lib.deBruijn32_at t hk
  refine ⟨hk, 4294967296 - x, 2 ^ t, 2 ^ t * 125613361 % 4294967296, 2 ^ t * 125613361 % 4294967296 / 134217728, ?_, ?_, ?_, ?_, hi, htab⟩
  · omega
  · rw [u32_and_nat x (4294967296 - x) hx (by omega), hlow]
  · rw [Int.natCast_emod, Int.natCast_mul]; rfl
  · rw [Int.natCast_ediv]; rfl
theorem tz_any (x : Nat) (w : World) (h0 : x ≠ 0) (hx : x < 4294967296) (hT : BTab w) :
    Calls Tryz.prog 162 #[.int .u32 x] w fun e w' => e = .returned (.int .i64 (Lib.ctz 32 x : Nat)) ∧ w = w' := by
  obtain ⟨ht, y, q, z, i, e1, e2, e3, e4, hi, htab⟩ := tz_key x _ h0 hx rfl
  have hc := hT.2 _ hi
  rw [htab] at hc
  exact tz_core x y q z i _ w hx (by simp; omega) e1 e2 e3 e4 hi ht hc

/-- From cell off of block b on lies the map of k steps. -/
def MapAt (w : World) (b off k : Nat) : Prop := ∀ j, j < 32 → w.cell? ⟨b, off + j, none⟩ = some (.int .u32 (stpN k (2 ^ j) : Nat))
theorem MapAt.drewN {w : World} {b off k : Nat} (h : MapAt w b off k) (n : Nat) : MapAt (w.drewN n) b off k := h

set_option maxHeartbeats 1000000 in
theorem of_any (b off k r0 : Nat) (w : World) (hr : r0 < 4294967296) (hm : MapAt w b off k) (hT : BTab w) :
    Calls Tryz.prog 147 #[.pointer (some ⟨b, off, none⟩), .int .u32 r0] w fun e w' => ∃ n, e = .returned (.int .u32 (stpN k r0 : Nat)) ∧ w' = w.drewN n := by
  have HM := Lib.hid hm; clear hm
  have HT := Lib.hid hT; clear hT
  go_enter Tryz.func147, Tryz.ntmps147
  go_wp2
  go_loopw [1, 5] (fun r a wr => ∃ q x n : Nat, r = .int .u32 q ∧ a = .int .u32 x ∧ q < 4294967296 ∧ x < 4294967296 ∧ x ^^^ stpN k q = stpN k r0 ∧ wr = w.drewN n) (fun r _ _ => (intOf r).toNat)
  case atStart => exact ⟨r0, 0, 0, rfl, rfl, hr, by decide, by rw [Nat.zero_xor], rfl⟩
  case round =>
    obtain ⟨q, x, n, rfl, rfl, hq, hx, heq, rfl⟩ := hrel
    have Heq := Lib.hid heq; clear heq
    by_cases h0 : q = 0
    · subst h0
      have hx2 : x = stpN k r0 := by have := Heq.out; rw [stpN_zero, Nat.xor_zero] at this; exact this
      go_wp2
      go_ret
      rw [hx2]
      exact ⟨n, rfl, rfl⟩
    · obtain ⟨ht, h1, h2⟩ := low_of q h0 hq
      have C := fun m => Lib.hid (tz_any q ((w.drewN n).drewN m) h0 hq ((HT.out.drewN n).drewN m))
      have Hst := Lib.hid (map_step k r0 q x (Lib.ctz 32 q) Heq.out)
      have hcell := HM.out (Lib.ctz 32 q) ht
      have e1 := u32_and_nat q (q - 1) hq (by omega)
      rw [h1] at e1
      have e0 : ((q - 1 : Nat) : Int) = (q : Int) - 1 := by omega
      rw [e0] at e1
      have hlt := stpN_lt k (2 ^ Lib.ctz 32 q) (two_pow_lt _ ht)
      have e2 := u32_xor_nat x (stpN k (2 ^ Lib.ctz 32 q)) hx hlt
      have hx2 := Nat.xor_lt_two_pow (n := 32) (x := x) (y := stpN k (2 ^ Lib.ctz 32 q)) (by omega) (by omega)
      have hne : ((q : Int) != 0) = true := by simp; omega
      have H1 := Lib.hid h1; clear h1
      generalize hq2 : q ^^^ 2 ^ Lib.ctz 32 q = q2 at *
      generalize stpN k (2 ^ Lib.ctz 32 q) = y at *
      generalize hx3 : x ^^^ y = x2 at *
      generalize hwq : w.drewN n = wq at *
      have Hwq := Lib.hid hwq; clear hwq
      have hcell2 : wq.cell? ⟨b, off + Lib.ctz 32 q, none⟩ = some (.int .u32 (y : Nat)) := by rw [← Hwq.out]; exact hcell
      clear hcell hq2 hx3 e0
      have H0 := Lib.hid h0; clear h0
      generalize Lib.ctz 32 q = t at *
      go_wp2
      go_quiet ((go_at_call 162; exact quiet_left (C _).out))
      go_wp2
      go_roundw
      case rel => exact ⟨q2, x2, n + nq, rfl, rfl, by omega, hx2, Hst.out, by rw [← Hwq.out, World.drewN_drewN]⟩
      case measure => simp [intOf]; omega
end Go.Proofs.YtamiacmnobklaaaGreatDoor
/- Walks of twice. -/
set_option linter.unusedVariables false
namespace Go.Proofs.YtamiacmnobklaaaGreatDoor
open Go.RowKit

/-- The cells of the map of k steps. -/
def mapC (k : Nat) : Array Value := (Array.range 32).map fun j => Value.int .u32 (stpN k (2 ^ j) : Nat)
theorem mapC_size (k : Nat) : (mapC k).size = 32 := by simp [mapC]
theorem mapC_get (k j : Nat) (h : j < 32) : (mapC k)[j]? = some (.int .u32 (stpN k (2 ^ j) : Nat)) := by simp [mapC, h]
theorem mapC_one (k : Nat) : (mapC k).all (·.oneCell') = true := by
  rw [Array.all_eq_true_iff_forall_mem]
  intro v hv
  simp only [mapC, Array.mem_map] at hv
  obtain ⟨j, _, rfl⟩ := hv
  rfl
theorem mapC_eq {cs : Array Value} {k : Nat} (hs : cs.size = 32) (h : ∀ j, j < 32 → cs[j]? = some (.int .u32 (stpN k (2 ^ j) : Nat))) : cs = mapC k := by
  apply Array.ext_getElem?
  intro j
  by_cases hj : j < 32
  · rw [h j hj, mapC_get k j hj]
  · rw [Array.getElem?_eq_none (by omega), Array.getElem?_eq_none (by rw [mapC_size]; omega)]
theorem mapC_at {w : World} {b k : Nat} {t : TypeId} {fr : Nat × Nat} (h : w.heap[b]? = some (.cells (mapC k) t fr)) : MapAt w b 0 k := by
  intro j hj
  rw [cell_of_row w b (0 + j) _ _ _ h, Nat.zero_add, mapC_get k j hj]
theorem Below_setRow {B g : Nat} {a w : World} (h : Below B a w) (hg : B ≤ g) (cs : Array Value) : Below B a (w.setRow g cs) :=
  h.trans ⟨rfl, rfl, rfl, by simp, fun k hk => setRow_other w g k cs (by omega)⟩
theorem info_map : (Tryz.prog.info? 182).map (·.size) = some 32 := by kernel_rfl

set_option maxRecDepth 100000 in
set_option maxHeartbeats 1000000 in
theorem twice_any (b off k : Nat) (w : World) (hb : b < w.heap.size) (hm : MapAt w b off k) (hT : BTab w) :
    Calls Tryz.prog 146 #[.pointer (some ⟨b, off, none⟩)] w fun e w' => e = .returned (.agg (mapC (k + k))) ∧ Below w.heap.size w w' := by
  have HM := Lib.hid hm; clear hm
  have HT := Lib.hid hT; clear hT
  obtain ⟨Z, hZ, hZs⟩ : ∃ Z : Array Value, Z = #[.int .u32 0, .int .u32 0, .int .u32 0, .int .u32 0, .int .u32 0, .int .u32 0, .int .u32 0, .int .u32 0, .int .u32 0, .int .u32 0, .int .u32 0, .int .u32 0, .int .u32 0, .int .u32 0, .int .u32 0, .int .u32 0, .int .u32 0, .int .u32 0, .int .u32 0, .int .u32 0, .int .u32 0, .int .u32 0, .int .u32 0, .int .u32 0, .int .u32 0, .int .u32 0, .int .u32 0, .int .u32 0, .int .u32 0, .int .u32 0, .int .u32 0, .int .u32 0] ∧ Z.size = 32 := ⟨_, rfl, rfl⟩
  have g1 : ((w.alloc (.cells Z 182)).alloc (.cells Z 182)).heap[w.heap.size]? = some (.cells Z 182) := heap_alloc2_old _ _ _
  have g2 : ((w.alloc (.cells Z 182)).alloc (.cells Z 182)).heap[w.heap.size + 1]? = some (.cells Z 182) := heap_alloc2_new _ _ _
  have hb0 : Below w.heap.size w ((w.alloc (.cells Z 182)).alloc (.cells Z 182)) := ((Below.refl _ _).alloc (Nat.le_refl _) _).alloc (by simp) _
  have G1 := Lib.hid g1; clear g1
  have G2 := Lib.hid g2; clear g2
  have HZ := Lib.hid hZ; clear hZ
  have HZs := Lib.hid hZs; clear hZs
  have HB := Lib.hid hb
  have L0 := Lib.hid hb0; clear hb0
  go_enter Tryz.func146, Tryz.ntmps146
  go_wp2
  rw [← HZ.out]
  generalize (w.alloc (.cells Z 182)).alloc (.cells Z 182) = W2 at *
  have hR : ∃ R, R = w.heap.size := ⟨_, rfl⟩
  obtain ⟨T, hT⟩ : ∃ T, T = w.heap.size + 1 := ⟨_, rfl⟩
  rw [← hT] at G2 ⊢
  have HTT := Lib.hid hT; clear hT hR
  go_loopw [5] (fun i wr => ∃ (j : Nat) (cs : Array Value), j ≤ 32 ∧ i = .int .i64 j ∧ cs.size = 32 ∧ wr.heap[T]? = some (.cells cs 182 (0, 0)) ∧
      (∀ x, x < j → cs[x]? = some (.int .u32 (stpN (k + k) (2 ^ x) : Nat))) ∧ wr.heap[w.heap.size]? = some (.cells Z 182 (0, 0)) ∧ Below w.heap.size w wr) (fun i _ => 32 - (intOf i).toNat)
  case atStart => exact ⟨0, Z, by omega, rfl, HZs.out, G2.out, fun x hx => absurd hx (Nat.not_lt_zero _), G1.out, L0.out⟩
  case round =>
    obtain ⟨j, cs, hj, rfl, hcs, hheap, hall, hres, hbel⟩ := hrel
    have Hcs := Lib.hid hcs; clear hcs
    have Hheap := Lib.hid hheap; clear hheap
    have Hall := Lib.hid hall; clear hall
    have Hres := Lib.hid hres; clear hres
    by_cases hlt : j < 32
    · have hc1 : wr.cell? ⟨b, off + j, none⟩ = some (.int .u32 (stpN k (2 ^ j) : Nat)) := (hbel.cell (p := ⟨b, off + j, none⟩) HB.out).trans (HM.out j hlt)
      have hl := stpN_lt k (2 ^ j) (two_pow_lt j hlt)
      have C := Lib.hid (of_any b off k (stpN k (2 ^ j)) wr hl (fun x hx => (hbel.cell (p := ⟨b, off + x, none⟩) HB.out).trans (HM.out x hx)) (HT.out.below hbel))
      rw [← stpN_add] at C
      obtain ⟨old, hold⟩ : ∃ v, wr.cell? ⟨T, j, none⟩ = some v := by
        rw [cell_of_row wr T j cs _ _ Hheap.out]
        exact ⟨cs[j]'(by rw [Hcs.out]; exact hlt), by simp [Hcs.out, hlt]⟩
      have hfr := frozen_of_row wr T j cs _ Hheap.out
      generalize stpN k (2 ^ j) = y at *
      generalize hz : stpN (k + k) (2 ^ j) = z at *
      have Hz := Lib.hid hz; clear hz
      go_wp2_with fail
      refine C.out.mono ?_
      rintro e w3 ⟨n, rfl, rfl⟩
      go_wp2
      go_roundw
      case rel =>
        refine ⟨j + 1, cs.setIfInBounds j (.int .u32 z), by omega, by go_num, by simp [Hcs.out], heap_setCell_same (wr.drewN n) T j cs _ _ Hheap.out, ?_, ?_, (Below_drewN hbel n).setCell (p := ⟨T, j, none⟩) (show w.heap.size ≤ T by rw [HTT.out]; omega) _⟩
        · intro x hx
          by_cases hxj : x = j
          · subst hxj
            rw [Hz.out, Array.getElem?_setIfInBounds_self_of_lt (by rw [Hcs.out]; exact hlt)]
          · rw [Array.getElem?_setIfInBounds_ne (fun e => hxj e.symm)]
            exact Hall.out x (by omega)
        · rw [heap_setCell_other _ _ _ _ (by rw [HTT.out]; simp)]
          exact Hres.out
      case measure => simp [intOf]; omega
    · have hj32 : j = 32 := by omega
      have h32 : 32 ≤ j := by omega
      have Hm := Lib.hid (mapC_eq (k := k + k) Hcs.out (fun x hx => Hall.out x (by omega)))
      have Hj := Lib.hid hj32; clear hj32
      have hh := Hheap.out
      rw [Hm.out] at hh
      have Hh := Lib.hid hh; clear hh
      go_wp2_with (first
        | ((with_reducible refine wpList_load_row rfl 182 (.tmp 3) rfl T rfl _ (mapC (k + k)) _ _ Hh.out Tryz.underlying182 rfl (by rw [mapC_size]; exact info_map) ?_))
        | ((with_reducible refine wpList_store_row rfl 182 (.tmp 2) (.tmp 18) rfl w.heap.size (mapC (k + k)) rfl rfl _ Z Hres.out (by rw [mapC_size]; exact info_map) (by rw [mapC_size]; exact HZs.out) (mapC_one _) ?_)))
      go_wp2
      exact bodyPost_ret (v := .agg (mapC (k + k))) (results_cell_row Tryz.results146 _ _ w.heap.size _ (mapC (k + k)) _ _ rfl (setRow_heap _ _ _ _ _ _ Hres.out) Tryz.underlying182 rfl (by rw [mapC_size]; exact info_map)) rfl ⟨rfl, Below_setRow hbel (Nat.le_refl _) _⟩
end Go.Proofs.YtamiacmnobklaaaGreatDoor
/- Walks of zerosUpTo. -/
set_option linter.unusedVariables false
namespace Go.Proofs.YtamiacmnobklaaaGreatDoor
open Go.RowKit

theorem lt_bitLen (n : Nat) : ∀ x, x ≤ n → x < 2 ^ 64 → x < 2 ^ Lib.bitLen x := by
  induction n with
  | zero =>
    intro x hx _
    obtain rfl : x = 0 := by omega
    decide
  | succ n ih =>
    intro x hx h
    by_cases h0 : x = 0
    · subst h0; decide
    · rw [Lib.bitLen_half x h0 h, Nat.add_comm, Nat.pow_succ]
      have := ih (x / 2) (by omega) (by omega)
      omega
theorem bitLenAux_le (f x : Nat) : Lib.bitLenAux f x ≤ f := by
  induction f generalizing x with
  | zero => simp [Lib.bitLenAux]
  | succ f ih =>
    unfold Lib.bitLenAux
    split
    · omega
    · have := ih (x / 2); omega
theorem bitLen_le (x : Nat) : Lib.bitLen x ≤ 64 := bitLenAux_le 64 x

/-- The cells of a list of maps: the i-th moves by 2^i bytes. -/
def zcells : Nat → List Value
  | 0 => []
  | n + 1 => zcells n ++ (mapC (8 * 2 ^ n)).toList
theorem zcells_length (n : Nat) : (zcells n).length = n * 32 := by
  induction n with
  | zero => rfl
  | succ n ih => rw [zcells, List.length_append, ih, Array.length_toList, mapC_size]; omega
theorem zcells_get (n i j : Nat) (hi : i < n) (hj : j < 32) : (zcells n)[i * 32 + j]? = some (.int .u32 (stpN (8 * 2 ^ i) (2 ^ j) : Nat)) := by
  induction n with
  | zero => omega
  | succ n ih =>
    rw [zcells]
    by_cases h : i < n
    · rw [List.getElem?_append_left (by rw [zcells_length]; omega)]
      exact ih h
    · have : i = n := by omega
      subst this
      rw [List.getElem?_append_right (by rw [zcells_length]; omega), zcells_length, show i * 32 + j - i * 32 = j from by omega, Array.getElem?_toList]
      exact mapC_get _ _ hj
/-- A list of n maps of the call's own. -/
def ZRow (w : World) (base : Nat) (v : Value) (n : Nat) : Prop := w.ownsRow base 182 32 v n (zcells n)
theorem info_map2 : (Tryz.prog.info? 182).map (fun i => (i.zero.map (·.cells.size), i.size, i.bytes)) = some (some 32, 32, 128) := by kernel_rfl
theorem takeB_bit (j : Nat) : takeB (2 ^ j) 0 = stpN 8 (2 ^ j) := by unfold takeB; rw [Nat.xor_zero]

theorem ZRow.kept {w w' : World} {base : Nat} {v : Value} {n : Nat} (h : ZRow w base v n) (hk : ∀ g, base ≤ g → g < w.heap.size → w'.heap[g]? = w.heap[g]?) : ZRow w' base v n := by
  refine ⟨h.1, ?_⟩
  rcases h.2 with hn | ⟨g, cap, cur, rfl, hg, hgg, rest⟩
  · exact .inl hn
  · exact .inr ⟨g, cap, cur, rfl, hg, (hk g hg (Array.getElem?_eq_some_iff.1 hgg).1).trans hgg, rest⟩
theorem ZRow.mono {w : World} {base base' : Nat} {v : Value} {n : Nat} (h : ZRow w base v n) (hb : base' ≤ base) : ZRow w base' v n := by
  refine ⟨h.1, ?_⟩
  rcases h.2 with hn | ⟨g, cap, cur, rfl, hg, rest⟩
  · exact .inl hn
  · exact .inr ⟨g, cap, cur, rfl, Nat.le_trans hb hg, rest⟩
theorem fold_zip (z cs : Array Value) (h : z.size = cs.size) (N : Nat) (hN : N = cs.size) : Array.foldl (fun (a : Array Value) (x : Value × Nat) => a.setIfInBounds x.2 x.1) z cs.zipIdx 0 N = cs := by
  subst hN
  have hs : cs.zipIdx.size = cs.size := by simp
  have key : (fun (k : Nat) (r : Array Value) => r.size = z.size ∧ ∀ i, i < cs.size → r[i]? = if i < k then cs[i]? else z[i]?) cs.zipIdx.size (Array.foldl (fun (a : Array Value) (x : Value × Nat) => a.setIfInBounds x.2 x.1) z cs.zipIdx) := by
    refine Array.foldl_induction (motive := fun (k : Nat) (r : Array Value) => r.size = z.size ∧ ∀ i, i < cs.size → r[i]? = if i < k then cs[i]? else z[i]?) ⟨rfl, fun i hi => by simp⟩ ?_
    intro k r ⟨hr, hall⟩
    have hk : k.1 < cs.size := by have := k.2; omega
    have e : cs.zipIdx[k] = (cs[k.1], k.1) := by simp
    rw [e]
    refine ⟨by simp [hr], fun i hi => ?_⟩
    by_cases hik : i = k.1
    · subst hik
      rw [Array.getElem?_setIfInBounds_self_of_lt (by omega), if_pos (by omega), Array.getElem?_eq_getElem hk]
    · rw [Array.getElem?_setIfInBounds_ne (fun e => hik e.symm), hall i hi]
      by_cases h2 : i < k.1
      · rw [if_pos h2, if_pos (by omega)]
      · rw [if_neg h2, if_neg (by omega)]
  obtain ⟨k1, k2⟩ := key
  rw [← hs]
  apply Array.ext_getElem?
  intro i
  by_cases hi : i < cs.size
  · rw [k2 i hi, if_pos (by omega)]
  · rw [Array.getElem?_eq_none (by omega), Array.getElem?_eq_none (by omega)]

theorem append_map {w : World} {ops : Array Oper} {rest : List Oper} {o : Oper} {a : Act} {Q : Exit → Act → World → Prop} (hgd : o.guard = none) (s x : Operand) (t : TypeId)
    (ho : o.op = .call { callee := .builtin .append, args := #[s, x], argTypes := #[t, t] }) (ht : Tryz.prog.underlying t = some (.slice 182))
    (base : Nat) (v : Value) (n : Nat) (X : Array Value) (hX : X = mapC (8 * 2 ^ n)) (hs : a.eval s = v) (hown : ZRow w base v n) (hx : a.eval x = .slice (some ⟨w.heap.size, 0, none⟩) 1 1)
    (hlen : n ≤ 64) (hbase : base ≤ w.heap.size)
    (h : ∀ v' w', ZRow w' base v' (n + 1) → Below base w w' → wpList Tryz.prog ops Q rest (a.put o.dst v') w') :
    wpList Tryz.prog ops Q (o :: rest) a (w.alloc (.cells X 182)) := by
  subst hX
  obtain ⟨i0, hi, hq⟩ := Option.map_eq_some_iff.1 info_map2
  simp only [Prod.mk.injEq] at hq
  obtain ⟨hz0, hz1, hz2⟩ := hq
  obtain ⟨z, hz, hzc⟩ := Option.map_eq_some_iff.1 hz0
  refine wpList_append_own _ hgd s x t ho base 182 i0 z 32 128 ht hi hz hz1 hz2 hzc (by decide) v n (zcells n) hs (World.ownsRow.alloc hown _) ⟨w.heap.size, 0, none⟩ 1 1 (mapC (8 * 2 ^ n)).toList hx (by rw [Array.length_toList, mapC_size]) ?_ ?_ (by unfold maxLen; omega) (by omega) (by simp; omega) ?_
  · intro j u hj
    have e1 : (⟨w.heap.size, 0, none⟩ : Addr).add j = ⟨w.heap.size, 0 + j, none⟩ := by unfold Addr.add; split <;> simp_all
    rw [e1, Nat.zero_add, cell_of_row _ w.heap.size j _ _ _ (heap_alloc_new w _)]
    simpa using hj
  · intro u hu
    have := mapC_one (8 * 2 ^ n)
    rw [Array.all_eq_true_iff_forall_mem] at this
    exact this u (by simpa using hu)
  · intro v' w' hown' hg _
    exact h v' w' hown' (((Below.refl base w).alloc hbase _).grown hg (by simp; omega) (fun k hk => (World.ownsRow.lt hown k hk).1))

set_option maxRecDepth 100000 in
set_option maxHeartbeats 2000000 in
theorem zeros_any (n : Nat) (w : World) (hn : n ≤ 140737488351232) (ht : Tab w) (hT : BTab w) :
    Calls Tryz.prog 115 #[.int .i64 n] w fun e w' => ∃ v, e = .returned v ∧ ZRow w' w.heap.size v (Lib.bitLen n) ∧ Below w.heap.size w w' := by
  have T := Lib.hid ht; clear ht
  have HT := Lib.hid hT; clear hT
  have BL := fun w' => Lib.hid (Tryz.bits_Len n w' (by omega) (by omega))
  rw [Int.toNat_natCast] at BL
  have hL := bitLen_le n
  obtain ⟨Z, hZ, hZs⟩ : ∃ Z : Array Value, Z = #[.int .u32 0, .int .u32 0, .int .u32 0, .int .u32 0, .int .u32 0, .int .u32 0, .int .u32 0, .int .u32 0, .int .u32 0, .int .u32 0, .int .u32 0, .int .u32 0, .int .u32 0, .int .u32 0, .int .u32 0, .int .u32 0, .int .u32 0, .int .u32 0, .int .u32 0, .int .u32 0, .int .u32 0, .int .u32 0, .int .u32 0, .int .u32 0, .int .u32 0, .int .u32 0, .int .u32 0, .int .u32 0, .int .u32 0, .int .u32 0, .int .u32 0, .int .u32 0] ∧ Z.size = 32 := ⟨_, rfl, rfl⟩
  have g1 : (w.alloc (.cells Z 182)).heap[w.heap.size]? = some (.cells Z 182) := heap_alloc_new _ _
  have hb0 : Below w.heap.size w (w.alloc (.cells Z 182)) := (Below.refl _ _).alloc (Nat.le_refl _) _
  have G1 := Lib.hid g1; clear g1
  have HZ := Lib.hid hZ; clear hZ
  have HZs := Lib.hid hZs; clear hZs
  have L0 := Lib.hid hb0; clear hb0
  generalize Lib.bitLen n = N at *
  go_enter Tryz.func115, Tryz.ntmps115
  go_wp2
  rw [← HZ.out]
  generalize w.alloc (.cells Z 182) = W2 at *
  go_loopw [6] (fun i wr => ∃ (j : Nat) (cs : Array Value), j ≤ 32 ∧ i = .int .i64 j ∧ cs.size = 32 ∧ wr.heap[w.heap.size]? = some (.cells cs 182 (0, 0)) ∧
      (∀ x, x < j → cs[x]? = some (.int .u32 (stpN 8 (2 ^ x) : Nat))) ∧ Below w.heap.size w wr) (fun i _ => 32 - (intOf i).toNat)
  case atStart => exact ⟨0, Z, by omega, rfl, HZs.out, G1.out, fun x hx => absurd hx (Nat.not_lt_zero _), L0.out⟩
  case round =>
    obtain ⟨j, cs, hj, rfl, hcs, hheap, hall, hbel⟩ := hrel
    have Hcs := Lib.hid hcs; clear hcs
    have Hheap := Lib.hid hheap; clear hheap
    have Hall := Lib.hid hall; clear hall
    by_cases hlt : j < 32
    · have h2 := two_pow_lt j hlt
      have C := Lib.hid (takeIn_any (2 ^ j) 0 wr h2 (by decide) (T.out.below hbel))
      rw [takeB_bit] at C
      have e1 : (2 : Int) ^ j % 4294967296 = ((2 ^ j : Nat) : Int) := by
        rw [show (2 : Int) ^ j = ((2 ^ j : Nat) : Int) by rw [Int.natCast_pow]; rfl]
        generalize 2 ^ j = D at h2 ⊢
        omega
      obtain ⟨old, hold⟩ : ∃ v, wr.cell? ⟨w.heap.size, j, none⟩ = some v := by
        rw [cell_of_row wr w.heap.size j cs _ _ Hheap.out]
        exact ⟨cs[j]'(by rw [Hcs.out]; exact hlt), by simp [Hcs.out, hlt]⟩
      have hfr := frozen_of_row wr w.heap.size j cs _ Hheap.out
      generalize hz : stpN 8 (2 ^ j) = z at *
      have Hz := Lib.hid hz; clear hz
      generalize hD : 2 ^ j = D at *
      have HD := Lib.hid hD; clear hD
      go_wp2_with fail
      refine C.out.mono ?_
      rintro e w3 ⟨rfl, rfl⟩
      go_wp2
      go_roundw
      case rel =>
        refine ⟨j + 1, cs.setIfInBounds j (.int .u32 z), by omega, by go_num, by simp [Hcs.out], heap_setCell_same wr w.heap.size j cs _ _ Hheap.out, ?_, hbel.setCell (p := ⟨w.heap.size, j, none⟩) (Nat.le_refl _) _⟩
        intro x hx
        by_cases hxj : x = j
        · subst hxj
          rw [HD.out, Hz.out, Array.getElem?_setIfInBounds_self_of_lt (by rw [Hcs.out]; exact hlt)]
        · rw [Array.getElem?_setIfInBounds_ne (fun e => hxj e.symm)]
          exact Hall.out x (by omega)
      case measure => simp [intOf]; omega
    · have hj32 : j = 32 := by omega
      have h32 : 32 ≤ j := by omega
      have Hm := Lib.hid (mapC_eq (k := 8) Hcs.out (fun x hx => Hall.out x (by omega)))
      have Hj := Lib.hid hj32; clear hj32
      have hh := Hheap.out
      rw [Hm.out] at hh
      have Hh := Lib.hid hh; clear hh Hall Hheap Hcs Hm
      go_wp2_with fail
      refine (BL wr).out.mono ?_
      rintro e w4 ⟨rfl, rfl⟩
      go_wp2
      go_loopw [3, 18] (fun v i wr => ∃ x : Nat, x ≤ N ∧ i = .int .i64 x ∧ ZRow wr (w.heap.size + 1) v x ∧ wr.heap[w.heap.size]? = some (.cells (mapC (8 * 2 ^ x)) 182 (0, 0)) ∧ Below w.heap.size w wr) (fun _ i _ => N - (intOf i).toNat)
      case atStart => exact ⟨0, by omega, rfl, World.ownsRow_nil _ _ _ _, Hh.out, hbel⟩
      case round =>
        clear hbel Hh hlt h32 hj Hj
        obtain ⟨x, hx, rfl, hown, hmap, hbel⟩ := hrel
        have Hown := Lib.hid hown; clear hown
        have Hmap := Lib.hid hmap; clear hmap
        have hM : w.heap.size + 1 ≤ wr.heap.size := (Array.getElem?_eq_some_iff.1 Hmap.out).1
        by_cases hlt : x < N
        · have hdbl : 8 * 2 ^ x + 8 * 2 ^ x = 8 * 2 ^ (x + 1) := by rw [Nat.pow_succ]; omega
          have Hdbl := Lib.hid hdbl; clear hdbl
          have hms := mapC_size (8 * 2 ^ x)
          go_wp2_with (first
            | ((with_reducible refine wpList_load_row rfl 182 (.tmp 4) rfl w.heap.size rfl _ (mapC (8 * 2 ^ x)) _ _ Hmap.out Tryz.underlying182 rfl (by rw [mapC_size]; exact info_map) ?_))
            | (at_builtin; refine append_map rfl (.tmp 20) (.tmp 22) 158 rfl Tryz.underlying158 (w.heap.size + 1) u3 x _ (fold_zip _ _ (by rw [mapC_size]; rfl) _ (by first | rfl | rw [mapC_size])) rfl Hown.out rfl (by omega) hM ?_; intro v' w3 hown3 hb3)
            )
          have Hown3 := Lib.hid hown3; clear hown3
          have hm3 := (hb3.block w.heap.size (by omega)).trans Hmap.out
          have hw3 : Below w.heap.size w w3 := hbel.trans (hb3.mono (by omega))
          have C := Lib.hid (twice_any w.heap.size 0 (8 * 2 ^ x) w3 (Array.getElem?_eq_some_iff.1 hm3).1 (mapC_at hm3) (HT.out.below hw3))
          rw [Hdbl.out] at C
          have Hm3 := Lib.hid hm3; clear hm3
          refine C.out.mono ?_
          rintro e w5 ⟨rfl, hb5⟩
          have hlt3 : w.heap.size < w3.heap.size := (Array.getElem?_eq_some_iff.1 Hm3.out).1
          have hm5 := (hb5.block w.heap.size hlt3).trans Hm3.out
          have Hm5 := Lib.hid hm5; clear hm5
          go_wp2_with ((with_reducible refine wpList_store_row rfl 182 (.tmp 4) (.tmp 24) rfl w.heap.size (mapC (8 * 2 ^ (x + 1))) rfl rfl _ (mapC (8 * 2 ^ x)) Hm5.out (by rw [mapC_size]; exact info_map) (by rw [mapC_size, mapC_size]) (mapC_one _) ?_))
          go_wp2
          go_roundw
          case rel =>
            refine ⟨x + 1, by omega, by go_num, ?_, setRow_heap _ _ _ _ _ _ Hm5.out, Below_setRow (hw3.trans (hb5.mono hw3.size)) (Nat.le_refl _) _⟩
            refine Hown3.out.kept (fun g hg hlt => ?_)
            rw [setRow_other _ _ _ _ (by omega)]
            exact hb5.block g hlt
          case measure => simp [intOf]; omega
        · have hxN : x = N := by omega
          subst hxN
          go_wp2
          go_ret
          exact ⟨_, rfl, Hown.out.mono (by omega), hbel⟩
end Go.Proofs.YtamiacmnobklaaaGreatDoor
/- Walks of move and Join. -/
set_option linter.unusedVariables false
namespace Go.Proofs.YtamiacmnobklaaaGreatDoor
open Go.RowKit

theorem i64_and1 (n : Int) : bits .and .i64 n 1 = n % 2 := by
  have h1 : (BitVec.ofInt 64 1).toNat = 2 ^ 1 - 1 := by decide
  have key : (BitVec.ofInt 64 n &&& BitVec.ofInt 64 1).toNat = (n % ((2 ^ 64 : Nat) : Int)).toNat % 2 ^ 1 := by
    rw [BitVec.toNat_and, BitVec.toNat_ofInt, h1, Nat.and_two_pow_sub_one_eq_mod]
  show IntKind.i64.wrap ((BitVec.ofInt 64 n &&& BitVec.ofInt 64 1).toNat : Nat) = n % 2
  rw [key, IntKind.wrap_i64]
  omega
theorem ZRow.cases {w : World} {base : Nat} {v : Value} {n : Nat} (h : ZRow w base v n) :
    (v = .slice none 0 0 ∧ n = 0) ∨ ∃ g cap, v = .slice (some ⟨g, 0, none⟩) n cap ∧ base ≤ g ∧ g < w.heap.size ∧ ∀ i, i < n → MapAt w g (i * 32) (8 * 2 ^ i) := by
  rcases h.2 with hn | ⟨g, cap, cur, rfl, hb, hgg, rest⟩
  · exact .inl hn
  · refine .inr ⟨g, cap, rfl, hb, (Array.getElem?_eq_some_iff.1 hgg).1, fun i hi j hj => ?_⟩
    have := World.ownsRow.cells h (g := g) rfl (i * 32 + j) _ (zcells_get n i j hi hj)
    have e1 : (⟨g, 0, none⟩ : Addr).add (i * 32 + j) = ⟨g, 0 + (i * 32 + j), none⟩ := by unfold Addr.add; split <;> simp_all
    rw [e1, Nat.zero_add] at this
    exact this
theorem move_bit (n i s : Nat) : stpN (8 * (n % 2 ^ (i + 1))) s = if n / 2 ^ i % 2 = 1 then stpN (8 * 2 ^ i) (stpN (8 * (n % 2 ^ i)) s) else stpN (8 * (n % 2 ^ i)) s := by
  have e : n % 2 ^ (i + 1) = n % 2 ^ i + 2 ^ i * (n / 2 ^ i % 2) := by rw [Nat.pow_succ, Nat.mod_mul]
  split
  · rename_i h
    rw [e, h, ← stpN_add]
    congr 1
    omega
  · rename_i h
    have : n / 2 ^ i % 2 = 0 := by omega
    rw [e, this]
    congr 1

set_option maxHeartbeats 1000000 in
theorem move_any (S : Int) (s n L base : Nat) (v : Value) (w : World) (hs : S % 4294967296 = (s : Int)) (hs2 : s < 4294967296) (hn : n < 2 ^ L) (hn2 : n ≤ 140737488351232) (hL : L ≤ 64) (hz : ZRow w base v L) (hT : BTab w) :
    Calls Tryz.prog 117 #[v, .int .i64 S, .int .i64 n] w fun e w' => ∃ m, e = .returned (.int .i64 (stpN (8 * n) s : Nat)) ∧ w' = w.drewN m := by
  have HT := Lib.hid hT; clear hT
  have HN := Lib.hid hn
  rcases hz.cases with ⟨rfl, hL0⟩ | ⟨g, cap, rfl, hg, hglt, hat⟩
  · have hn0 : n = 0 := by rw [hL0] at hn; simpa using hn
    subst hn0
    clear hn hL0 hz HN
    go_enter Tryz.func117, Tryz.ntmps117
    go_wp2
    refine wp_loop_rounds 1 ?_
    rw [rounds_succ]
    go_wp2
    go_ret
    exact ⟨0, rfl, rfl⟩
  · have HA := Lib.hid hat; clear hat hz hn
    have HS := Lib.hid hs; clear hs
    go_enter Tryz.func117, Tryz.ntmps117
    go_wp2
    go_loopw [7, 13] (fun r i wr => ∃ x m q : Nat, x ≤ L ∧ i = .int .i64 x ∧ r = .int .u32 q ∧ q < 4294967296 ∧ q = stpN (8 * (n % 2 ^ x)) s ∧ wr = w.drewN m) (fun _ i _ => L - (intOf i).toNat)
    case atStart => exact ⟨0, 0, s, by omega, rfl, by rw [HS.out], hs2, by simp [Nat.mod_one, stpN], rfl⟩
    case round =>
      obtain ⟨x, m, q, hx, rfl, rfl, hq, heq, rfl⟩ := hrel
      have Heq := Lib.hid heq; clear heq
      by_cases hlt : x < L
      · have Hmv := Lib.hid (move_bit n x s)
        have e1 := i64_and1 ((n / 2 ^ x : Nat) : Int)
        have e0 : ((n / 2 ^ x : Nat) : Int) = (n : Int) / 2 ^ x := by rw [Int.natCast_ediv, Int.natCast_pow]; rfl
        have hbx : n / 2 ^ x ≤ n := Nat.div_le_self _ _
        by_cases hbit : n / 2 ^ x % 2 = 1
        · have eb : ((n / 2 ^ x : Nat) : Int) % 2 = 1 := by omega
          rw [eb] at e1
          have h2 := Hmv.out
          rw [if_pos hbit, ← Heq.out] at h2
          have H2 := Lib.hid h2; clear h2
          have C := Lib.hid (of_any g (x * 32) (8 * 2 ^ x) q (w.drewN m) hq ((HA.out x hlt).drewN m) (HT.out.drewN m))
          have hy := stpN_lt (8 * 2 ^ x) q hq
          generalize stpN (8 * 2 ^ x) q = y at *
          rw [e0] at e1
          clear eb hbit hbx e0
          go_wp2_with fail
          refine C.out.mono ?_
          rintro e w3 ⟨k, rfl, rfl⟩
          go_wp2
          go_roundw
          case rel => exact ⟨x + 1, m + k, y, by omega, by go_num, rfl, hy, H2.out.symm, by first | rfl | rw [World.drewN_drewN]⟩
          case measure => simp [intOf]; omega
        · have eb : ((n / 2 ^ x : Nat) : Int) % 2 = 0 := by omega
          rw [eb] at e1
          have h2 := Hmv.out
          rw [if_neg hbit, ← Heq.out] at h2
          have H2 := Lib.hid h2; clear h2
          rw [e0] at e1
          clear eb hbit hbx e0
          go_wp2
          go_roundw
          case rel => exact ⟨x + 1, m, q, by omega, by go_num, rfl, hq, H2.out.symm, rfl⟩
          case measure => simp [intOf]; omega
      · have hxL : x = L := by omega
        have Hr : Hid (q = stpN (8 * n) s) := Lib.hid (by rw [Heq.out, hxL, Nat.mod_eq_of_lt HN.out])
        clear hxL
        go_wp2
        go_ret
        rw [← Hr.out]
        exact ⟨m, rfl, rfl⟩


end Go.Proofs.YtamiacmnobklaaaGreatDoor

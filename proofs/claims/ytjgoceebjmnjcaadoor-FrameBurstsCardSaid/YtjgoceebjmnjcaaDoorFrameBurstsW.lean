/- The walk of FrameBursts. -/
import Derived.Test.YtjgoceebjmnjcaaDoorSumW
import Derived.Test.YtjgoceebjmnjcaaDoorRefSumW
import Derived.Test.YtjgoceebjmnjcaaDoorBurstMath
import Derived.BigQuiet
import Derived.StillTailTactics
import Derived.WalkKit
import Derived.WalkSpells
import Derived.Lib.Hide
import Derived.WalkLawsBesides
import Derived.Outline
import Derived.IntWalk
set_option linter.unusedVariables false
namespace Go.Proofs.YtjgoceebjmnjcaaDoor
open Go.RowKit

theorem tmod_two (q : Nat) : (q : Int).tmod 2 = ((q % 2 : Nat) : Int) := by
  rw [Int.tmod_eq_emod_of_nonneg (by omega)]; omega
theorem flip_val (x : UInt8) (m : Nat) (hm : m < 8) : ∃ c : UInt8, c.toNat = x.toNat ^^^ 2 ^ m ∧ bits .xor .u8 (x.toNat : Int) ((2 : Int) ^ m % 256) = (c.toNat : Int) := by
  have hx := x.toNat_lt
  have h2 : 2 ^ m < 256 := Nat.lt_of_lt_of_le (Nat.pow_lt_pow_right (by decide) hm) (by decide)
  have hlt := Nat.xor_lt_two_pow (n := 8) (x := x.toNat) (y := 2 ^ m) hx h2
  refine ⟨UInt8.ofNat (x.toNat ^^^ 2 ^ m), ?_, ?_⟩
  · rw [UInt8.toNat_ofNat']; omega
  · have e : ((2 : Int) ^ m % 256) = ((2 ^ m : Nat) : Int) := by
      rw [show (2 : Int) ^ m = ((2 ^ m : Nat) : Int) by rw [Int.natCast_pow]; rfl]
      generalize 2 ^ m = D at h2 ⊢
      omega
    rw [e, u8_xor_nat _ _ hx h2, UInt8.toNat_ofNat']
    omega
/-- Block B holds the bytes L, and what lies behind them; nothing of it is frozen. -/
def BB (w : World) (B : Nat) (L : List UInt8) (rest : List Value) : Prop :=
  w.heap[B]? = some (.cells (cellsOf L ++ rest).toArray 5 ((cellsOf L ++ rest).length, (cellsOf L ++ rest).length + 1))
theorem BB.cell {w : World} {B : Nat} {L : List UInt8} {rest : List Value} (h : BB w B L rest) (k : Nat) (hk : k < L.length) : w.cell? ⟨B, k, none⟩ = some (.int .u8 L[k].toNat) := by
  unfold BB at h
  simp only [World.cell?, h]
  have h2 : k < (cellsOf L).length := by rw [cellsOf_length]; exact hk
  have h3 : (cellsOf L ++ rest)[k]? = some (.int .u8 L[k].toNat) := by
    rw [List.getElem?_append_left h2]
    simp [cellsOf, hk]
  simpa using h3
theorem BB.free {w : World} {B : Nat} {L : List UInt8} {rest : List Value} (h : BB w B L rest) (k : Nat) (hk : k < L.length) : w.frozen? ⟨B, k, none⟩ = false := by
  unfold BB at h
  simp only [World.frozen?, h]
  simp [cellsOf]
  omega
theorem BB.drewN {w : World} {B : Nat} {L : List UInt8} {rest : List Value} (h : BB w B L rest) (n : Nat) : BB (w.drewN n) B L rest := h
theorem BB.drew {w : World} {B : Nat} {L : List UInt8} {rest : List Value} (h : BB w B L rest) : BB w.drew B L rest := h
theorem BB.set {w : World} {B : Nat} {L : List UInt8} {rest : List Value} (h : BB w B L rest) (k : Nat) (hk : k < L.length) (c : UInt8) : BB (w.setCell ⟨B, k, none⟩ (.int .u8 c.toNat)) B (L.set k c) rest := by
  unfold BB at h ⊢
  have e1 : cellsOf (L.set k c) = (cellsOf L).set k (.int .u8 c.toNat) := by simp [cellsOf, List.map_set]
  have hk2 : k < (cellsOf L).length := by rw [cellsOf_length]; exact hk
  have e2 : (cellsOf L).set k (.int .u8 c.toNat) ++ rest = (cellsOf L ++ rest).set k (.int .u8 c.toNat) := by rw [List.set_append_left k _ hk2]
  rw [e1, e2]
  simp [World.setCell, Array.getElem?_modify, h]
theorem BB.of_conv (w : World) (l : List UInt8) : ∃ cap rest w1, (convert 9 41 (.string ⟨l.toArray⟩)).run Tryd.prog w = .ok (.slice (some ⟨w.heap.size, 0, none⟩) l.length cap) w1 ∧ BB w1 w.heap.size l rest ∧ Below w.heap.size w w1 := by
  have h := run_bytes_of_string (P := Tryd.prog) w 9 41 5 ⟨l.toArray⟩ Tryd.underlying9 Tryd.underlying41 Tryd.underlying5
  refine ⟨_, List.replicate (grownCap w l.length 0 5 - l.length) (Value.int .u8 0), _, h, ?_, ?_⟩
  · unfold BB
    show (w.heap.push _)[w.heap.size]? = _
    have e : bytesRow ⟨l.toArray⟩ (grownCap w (ByteArray.mk l.toArray).size 0 5) = (cellsOf l ++ List.replicate (grownCap w l.length 0 5 - l.length) (Value.int .u8 0)).toArray := by
      have es : (ByteArray.mk l.toArray).size = l.length := rfl
      rw [es]
      unfold bytesRow cellsOf
      rw [es]
      simp
    rw [e]
    simp
  · exact (Below_drewN (Below.refl _ _) 1).alloc (Nat.le_refl _) _

set_option maxHeartbeats 1000000 in
theorem bursts_in (l : List UInt8) (at' p : Nat) (w : World) (hl : l.length ≤ 2048) (hp : 1 ≤ p) (hp2 : p ≤ 4294967295) (hat : at' ≤ 8 * l.length) (ht : Tab w) :
    Calls Tryd.prog 10 #[.string ⟨l.toArray⟩, .int .i64 at', .int .i64 p] w fun e w' => e = .returned (.bool true) ∧ Below w.heap.size w w' := by
  have L := Lib.hid (show (⟨l.toArray⟩ : ByteArray).size = l.length from rfl)
  have T := Lib.hid ht; clear ht
  obtain ⟨cap, rest, w1, hc, hbb, hb1⟩ := BB.of_conv w l
  have HC := Lib.hid hc; clear hc
  have HBB := Lib.hid hbb; clear hbb
  go_enter Tryd.func10, Tryd.ntmps10
  go_wp2
  rw [HC.out]
  go_wp2
  go_loopw [8] (fun i wr => ∃ (k : Nat) (b : List UInt8), k ≤ 32 ∧ i = .int .i64 k ∧ Turned l b at' p k ∧ BB wr w.heap.size b rest ∧ Below w.heap.size w wr) (fun i _ => 32 - (intOf i).toNat)
  case atStart => exact ⟨0, l, by omega, rfl, Turned.start l at' p, HBB.out, hb1⟩
  case round =>
    obtain ⟨k, b, hk, rfl, htu, hbb, hbel⟩ := hrel
    have Htu := Lib.hid htu; clear htu
    have Hbb := Lib.hid hbb; clear hbb
    by_cases hlt : k < 32
    · have hq : ((p : Int) / 2 ^ k) = ((p / 2 ^ k : Nat) : Int) := by
        rw [Int.natCast_ediv, Int.natCast_pow]; rfl
      by_cases hz : p / 2 ^ k % 2 = 0
      · have h0 : (((p : Int) / 2 ^ k).tmod 2 == 0) = true := by rw [hq, tmod_two, hz]; rfl
        have Hn := Lib.hid (Htu.out.skip hz)
        clear hq hz
        go_wp2
        go_roundw
        case rel => exact ⟨k + 1, b, by omega, by go_num, Hn.out, Hbb.out, hbel⟩
        case measure => simp [intOf]; omega
      · have hz1 : p / 2 ^ k % 2 = 1 := by omega
        have h0 : (((p : Int) / 2 ^ k).tmod 2 == 0) = false := by rw [hq, tmod_two, hz1]; rfl
        have Hz := Lib.hid hz1
        clear hq hz hz1
        have e1 : ((at' : Int) + (k : Int)) / 8 = (((at' + k) / 8 : Nat) : Int) := by omega
        have e2 : ((at' : Int) + (k : Int)) % 8 = (((at' + k) % 8 : Nat) : Int) := by omega
        have e3 : ((at' : Int) + (k : Int)).tdiv 8 = (((at' + k) / 8 : Nat) : Int) := by rw [Int.tdiv_eq_ediv_of_nonneg (by omega)]; omega
        have e4 : ((at' : Int) + (k : Int)).tmod 8 = (((at' + k) % 8 : Nat) : Int) := by rw [Int.tmod_eq_emod_of_nonneg (by omega)]; omega
        have e5 : IntKind.i64.wrap (((at' + k) / 8 : Nat) : Int) = (((at' + k) / 8 : Nat) : Int) := IntWalk.i64_in _ (by omega)
        have hm : (at' + k) % 8 < 8 := by omega
        have J := Lib.hid (show (at' + k) / 8 = (at' + k) / 8 from rfl)
        have M := Lib.hid (show (at' + k) % 8 = (at' + k) % 8 from rfl)
        have Hfl := fun hk c hc => Lib.hid (Htu.out.flip Hz.out hk c hc)
        generalize hj : (at' + k) / 8 = j at *
        generalize hmm : (at' + k) % 8 = m at *
        clear hj hmm J M
        by_cases hjl : j < l.length
        · have hjb : j < b.length := by rw [Htu.out.1]; exact hjl
          have hcell := Hbb.out.cell j hjb
          have hfree := Hbb.out.free j hjb
          have jl : (j : Int) < (l.length : Int) := by omega
          have j0 : (0 : Int) ≤ (j : Int) := by omega
          have Hfl := fun c hc => Hfl hjb c hc
          generalize b[j] = x at *
          go_wp2
          go_still_tail 13, (by kernel_rfl)
          change wpList _ _ _ _ _ wr.drew
          go_wp2
          go_roundw
          case rel =>
            obtain ⟨c, hc, hv⟩ := flip_val x m hm
            rw [hv]
            exact ⟨k + 1, b.set j c, by omega, by go_num, (Hfl c hc).out, (Hbb.out.set j hjb c).drew, Below_drew (hbel.setCell (p := ⟨w.heap.size, j, none⟩) (Nat.le_refl _) _)⟩
          case measure => simp [intOf]; omega
        · have hjl2 : l.length ≤ j := by omega
          have A := Lib.hid (awake_any wr (T.out.below hbel))
          go_wp2_with fail
          refine A.out.mono ?_
          rintro e w3 ⟨rfl, rfl⟩
          go_wp2
          go_ret
          exact ⟨rfl, hbel⟩
    · have hk32 : k = 32 := by omega
      have h32 : 32 ≤ k := by omega
      have Hne := Htu.out
      rw [hk32] at Hne
      have hne := burst_ne Hne hp hp2 hat
      have hbl := Hne.1
      have Hk := Lib.hid hk32; clear hk32 Hne
      have cv := run_convert_bytes_back (P := Tryd.prog) wr 41 9 5 ⟨w.heap.size, 0, none⟩ cap b Tryd.underlying41 Tryd.underlying5 Tryd.underlying9 (fun j hj => by
        have := Hbb.out.cell j hj
        have e1 : (⟨w.heap.size, 0, none⟩ : Addr).add j = ⟨w.heap.size, 0 + j, none⟩ := by unfold Addr.add; split <;> simp_all
        rw [e1, Nat.zero_add]
        exact this)
      rw [hbl] at cv
      have CV := Lib.hid cv; clear cv
      have Tr := Lib.hid (T.out.below hbel)
      have S1 := fun w' ht => Lib.hid (sum_any b w' (by omega) ht)
      have S2 := fun w' ht => Lib.hid (sum_any l w' (by omega) ht)
      clear hbl
      generalize sumS b = s1 at *
      generalize sumS l = s2 at *
      have hn : ((s1 : Int) != (s2 : Int)) = true := by simp; omega
      clear hne
      go_wp2
      rw [CV.out]
      go_wp2_with fail
      refine (S1 _ Tr.out).out.mono ?_
      rintro e w3 ⟨rfl, rfl⟩
      go_wp2_with fail
      refine (S2 _ Tr.out).out.mono ?_
      rintro e w3 ⟨rfl, rfl⟩
      go_wp2_with fail
      refine (awake_any _ Tr.out).mono ?_
      rintro e w3 ⟨rfl, rfl⟩
      go_wp2
      go_ret
      exact ⟨rfl, hbel⟩

theorem bursts_out (l : List UInt8) (n p : Int) (w : World) (hl : l.length ≤ 2048) (h : p < 1 ∨ 4294967295 < p ∨ n < 0 ∨ 8 * (l.length : Int) < n) (ht : Tab w) :
    Calls Tryd.prog 10 #[.string ⟨l.toArray⟩, .int .i64 n, .int .i64 p] w fun e w' => e = .returned (.bool true) ∧ Below w.heap.size w w' := by
  have L := Lib.hid (show (⟨l.toArray⟩ : ByteArray).size = l.length from rfl)
  have A := Lib.hid (awake_any w ht)
  clear ht
  have hb : (decide (p < 1) || decide (4294967295 < p) || decide (n < 0) || decide (8 * (l.length : Int) < n)) = true := by
    simp; omega
  clear h
  go_enter Tryd.func10, Tryd.ntmps10
  go_wp2_with fail
  all_goals
    refine A.out.mono ?_
    rintro e w1 ⟨rfl, rfl⟩
    go_wp2
    go_ret
    exact ⟨rfl, Below.refl _ _⟩

set_option maxHeartbeats 1000000 in
theorem bursts_inL (K l : List UInt8) (hK : 2048 < K.length) (hK2 : K.length ≤ 140737488351232) (hkl : K.take 2048 = l) (at' p : Nat) (w : World) (hl : l.length ≤ 2048) (hp : 1 ≤ p) (hp2 : p ≤ 4294967295) (hat : at' ≤ 8 * l.length) (ht : Tab w) :
    Calls Tryd.prog 10 #[.string ⟨K.toArray⟩, .int .i64 at', .int .i64 p] w fun e w' => e = .returned (.bool true) ∧ Below w.heap.size w w' := by
  have KE := take_toArray K 2048
  rw [hkl] at KE
  clear hkl
  have L := Lib.hid (show (⟨l.toArray⟩ : ByteArray).size = l.length from rfl)
  have T := Lib.hid ht; clear ht
  obtain ⟨cap, rest, w1, hc, hbb, hb1⟩ := BB.of_conv w l
  have HC := Lib.hid hc; clear hc
  have HBB := Lib.hid hbb; clear hbb
  go_enter Tryd.func10, Tryd.ntmps10
  go_wp2
  rw [HC.out]
  go_wp2
  go_loopw [8] (fun i wr => ∃ (k : Nat) (b : List UInt8), k ≤ 32 ∧ i = .int .i64 k ∧ Turned l b at' p k ∧ BB wr w.heap.size b rest ∧ Below w.heap.size w wr) (fun i _ => 32 - (intOf i).toNat)
  case atStart => exact ⟨0, l, by omega, rfl, Turned.start l at' p, HBB.out, hb1⟩
  case round =>
    obtain ⟨k, b, hk, rfl, htu, hbb, hbel⟩ := hrel
    have Htu := Lib.hid htu; clear htu
    have Hbb := Lib.hid hbb; clear hbb
    by_cases hlt : k < 32
    · have hq : ((p : Int) / 2 ^ k) = ((p / 2 ^ k : Nat) : Int) := by
        rw [Int.natCast_ediv, Int.natCast_pow]; rfl
      by_cases hz : p / 2 ^ k % 2 = 0
      · have h0 : (((p : Int) / 2 ^ k).tmod 2 == 0) = true := by rw [hq, tmod_two, hz]; rfl
        have Hn := Lib.hid (Htu.out.skip hz)
        clear hq hz
        go_wp2
        go_roundw
        case rel => exact ⟨k + 1, b, by omega, by go_num, Hn.out, Hbb.out, hbel⟩
        case measure => simp [intOf]; omega
      · have hz1 : p / 2 ^ k % 2 = 1 := by omega
        have h0 : (((p : Int) / 2 ^ k).tmod 2 == 0) = false := by rw [hq, tmod_two, hz1]; rfl
        have Hz := Lib.hid hz1
        clear hq hz hz1
        have e1 : ((at' : Int) + (k : Int)) / 8 = (((at' + k) / 8 : Nat) : Int) := by omega
        have e2 : ((at' : Int) + (k : Int)) % 8 = (((at' + k) % 8 : Nat) : Int) := by omega
        have e3 : ((at' : Int) + (k : Int)).tdiv 8 = (((at' + k) / 8 : Nat) : Int) := by rw [Int.tdiv_eq_ediv_of_nonneg (by omega)]; omega
        have e4 : ((at' : Int) + (k : Int)).tmod 8 = (((at' + k) % 8 : Nat) : Int) := by rw [Int.tmod_eq_emod_of_nonneg (by omega)]; omega
        have e5 : IntKind.i64.wrap (((at' + k) / 8 : Nat) : Int) = (((at' + k) / 8 : Nat) : Int) := IntWalk.i64_in _ (by omega)
        have hm : (at' + k) % 8 < 8 := by omega
        have J := Lib.hid (show (at' + k) / 8 = (at' + k) / 8 from rfl)
        have M := Lib.hid (show (at' + k) % 8 = (at' + k) % 8 from rfl)
        have Hfl := fun hk c hc => Lib.hid (Htu.out.flip Hz.out hk c hc)
        generalize hj : (at' + k) / 8 = j at *
        generalize hmm : (at' + k) % 8 = m at *
        clear hj hmm J M
        by_cases hjl : j < l.length
        · have hjb : j < b.length := by rw [Htu.out.1]; exact hjl
          have hcell := Hbb.out.cell j hjb
          have hfree := Hbb.out.free j hjb
          have jl : (j : Int) < (l.length : Int) := by omega
          have j0 : (0 : Int) ≤ (j : Int) := by omega
          have Hfl := fun c hc => Hfl hjb c hc
          generalize b[j] = x at *
          go_wp2
          go_still_tail 13, (by kernel_rfl)
          change wpList _ _ _ _ _ wr.drew
          go_wp2
          go_roundw
          case rel =>
            obtain ⟨c, hc, hv⟩ := flip_val x m hm
            rw [hv]
            exact ⟨k + 1, b.set j c, by omega, by go_num, (Hfl c hc).out, (Hbb.out.set j hjb c).drew, Below_drew (hbel.setCell (p := ⟨w.heap.size, j, none⟩) (Nat.le_refl _) _)⟩
          case measure => simp [intOf]; omega
        · have hjl2 : l.length ≤ j := by omega
          have A := Lib.hid (awake_any wr (T.out.below hbel))
          go_wp2_with fail
          refine A.out.mono ?_
          rintro e w3 ⟨rfl, rfl⟩
          go_wp2
          go_ret
          exact ⟨rfl, hbel⟩
    · have hk32 : k = 32 := by omega
      have h32 : 32 ≤ k := by omega
      have Hne := Htu.out
      rw [hk32] at Hne
      have hne := burst_ne Hne hp hp2 hat
      have hbl := Hne.1
      have Hk := Lib.hid hk32; clear hk32 Hne
      have cv := run_convert_bytes_back (P := Tryd.prog) wr 41 9 5 ⟨w.heap.size, 0, none⟩ cap b Tryd.underlying41 Tryd.underlying5 Tryd.underlying9 (fun j hj => by
        have := Hbb.out.cell j hj
        have e1 : (⟨w.heap.size, 0, none⟩ : Addr).add j = ⟨w.heap.size, 0 + j, none⟩ := by unfold Addr.add; split <;> simp_all
        rw [e1, Nat.zero_add]
        exact this)
      rw [hbl] at cv
      have CV := Lib.hid cv; clear cv
      have Tr := Lib.hid (T.out.below hbel)
      have S1 := fun w' ht => Lib.hid (sum_any b w' (by omega) ht)
      have S2 := fun w' ht => Lib.hid (sum_any l w' (by omega) ht)
      clear hbl
      generalize sumS b = s1 at *
      generalize sumS l = s2 at *
      have hn : ((s1 : Int) != (s2 : Int)) = true := by simp; omega
      clear hne
      go_wp2
      rw [CV.out]
      go_wp2_with fail
      refine (S1 _ Tr.out).out.mono ?_
      rintro e w3 ⟨rfl, rfl⟩
      go_wp2_with fail
      refine (S2 _ Tr.out).out.mono ?_
      rintro e w3 ⟨rfl, rfl⟩
      go_wp2_with fail
      refine (awake_any _ Tr.out).mono ?_
      rintro e w3 ⟨rfl, rfl⟩
      go_wp2
      go_ret
      exact ⟨rfl, hbel⟩

theorem bursts_outL (K l : List UInt8) (hK : 2048 < K.length) (hK2 : K.length ≤ 140737488351232) (hkl : K.take 2048 = l) (n p : Int) (w : World) (hl : l.length ≤ 2048) (h : p < 1 ∨ 4294967295 < p ∨ n < 0 ∨ 8 * (l.length : Int) < n) (ht : Tab w) :
    Calls Tryd.prog 10 #[.string ⟨K.toArray⟩, .int .i64 n, .int .i64 p] w fun e w' => e = .returned (.bool true) ∧ Below w.heap.size w w' := by
  have KE := take_toArray K 2048
  rw [hkl] at KE
  clear hkl
  have L := Lib.hid (show (⟨l.toArray⟩ : ByteArray).size = l.length from rfl)
  have A := Lib.hid (awake_any w ht)
  clear ht
  have hb : (decide (p < 1) || decide (4294967295 < p) || decide (n < 0) || decide (8 * (l.length : Int) < n)) = true := by
    simp; omega
  clear h
  go_enter Tryd.func10, Tryd.ntmps10
  go_wp2_with fail
  all_goals
    refine A.out.mono ?_
    rintro e w1 ⟨rfl, rfl⟩
    go_wp2
    go_ret
    exact ⟨rfl, Below.refl _ _⟩

theorem frameBursts_walk (l : List UInt8) (hl : l.length ≤ 140737488351232) (n : Int) (_ : -9223372036854775808 ≤ n) (_ : n ≤ 9223372036854775807) (p : Int) (_ : -9223372036854775808 ≤ p) (_ : p ≤ 9223372036854775807) (w : World) (ht : Tab w) :
    Calls Tryd.prog 10 #[.string ⟨l.toArray⟩, .int .i64 n, .int .i64 p] w fun e w' => e = .returned (.bool true) ∧ Below w.heap.size w w' := by
  have hm : (l.take 2048).length ≤ 2048 := List.length_take_le _ _
  by_cases h : l.length ≤ 2048
  · by_cases g : p < 1 ∨ 4294967295 < p ∨ n < 0 ∨ 8 * (l.length : Int) < n
    · exact bursts_out l n p w h g ht
    · obtain ⟨a, rfl⟩ := Int.eq_ofNat_of_zero_le (show 0 ≤ n by omega)
      obtain ⟨b, rfl⟩ := Int.eq_ofNat_of_zero_le (show 0 ≤ p by omega)
      exact bursts_in l a b w h (by omega) (by omega) (by omega) ht
  · by_cases g : p < 1 ∨ 4294967295 < p ∨ n < 0 ∨ 8 * ((l.take 2048).length : Int) < n
    · exact bursts_outL l _ (by omega) hl rfl n p w hm g ht
    · obtain ⟨a, rfl⟩ := Int.eq_ofNat_of_zero_le (show 0 ≤ n by omega)
      obtain ⟨b, rfl⟩ := Int.eq_ofNat_of_zero_le (show 0 ≤ p by omega)
      exact bursts_inL l _ (by omega) hl rfl a b w hm (by omega) (by omega) (by omega) ht
end Go.Proofs.YtjgoceebjmnjcaaDoor

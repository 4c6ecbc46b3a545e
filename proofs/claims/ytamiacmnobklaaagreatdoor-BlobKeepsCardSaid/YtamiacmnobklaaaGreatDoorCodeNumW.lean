/- Walks of package code's makers of numbers. -/
import Derived.Test.YtamiacmnobklaaaGreatDoorCdX
import Derived.Test.YtamiacmnobklaaaGreatDoorGen
import Derived.Test.YtamiacmnobklaaaGreatDoorInfos
import Derived.Test.YtamiacmnobklaaaGreatDoorRows
import Derived.Lib.Hide
import Derived.WalkKit
import Derived.WalkLawsBesides
import Derived.WalkSpells
set_option linter.unusedVariables false
namespace Go.Proofs.YtamiacmnobklaaaGreatDoor
open Go.RowKit


set_option maxRecDepth 100000 in
set_option maxHeartbeats 400000 in
theorem addNum_any (base : Nat) (n : Nat) (v : Value) (l : List UInt8) (w : World) (hn : n ≤ 4611686018427387903) (hl : l.length < 70368744177600)
    (hb : base ≤ w.heap.size) (hown : Own w base 5 v l) :
    Calls Tryz.prog 132 #[v, .int .i64 n] w fun e w' => ∃ v', e = .returned (.tuple #[v', .int .i64 0]) ∧
      Own w' base 5 v' (l ++ nb n) ∧ Below base w w' := by
  go_enter Tryz.func132, Tryz.ntmps132
  go_wp2
  go_loopw [0, 1, 12] (fun v1 m i wr => ∃ (k q : Nat) (pre : List UInt8), k ≤ 9 ∧ i = .int .i64 k ∧ m = .int .i64 q ∧ q ≤ n ∧ pre.length = k ∧ nb n = pre ++ numB (9 - k) q ∧
      Own wr base 5 v1 (l ++ pre) ∧ Below base w wr)
    (fun _ _ i _ => 9 - (intOf i).toNat)
  case atStart => exact ⟨0, n, [], by omega, rfl, rfl, by omega, rfl, rfl, by simpa using hown, Below.refl _ _⟩
  case round =>
    obtain ⟨k, q, pre, hk, rfl, rfl, hq, hpre, hnb, hown1, hbel⟩ := hrel
    have hlen : (l ++ pre).length < 70368744177664 := by rw [List.length_append]; omega
    have hbw : base ≤ wr.heap.size := Nat.le_trans hb hbel.size
    have Hpre := Lib.hid hpre; clear hpre
    have Hnb := Lib.hid hnb; clear hnb
    have Hown := Lib.hid hown1; clear hown1 hown
    by_cases hk9 : k < 9
    · by_cases hlt : q < 128
      · go_wp2_with (at_builtin; refine append_byte rfl _ _ 105 5 (by rfl) Tryz.underlying105 info_u8 base _ _ _ (by rfl) Hown.out (by rfl) (by omega) (by omega) hlen hbw ?_; intro v' w1 hown1 hb1)
        have Hown1 := Lib.hid hown1; clear hown1
        go_wp2
        go_ret2
        refine ⟨_, rfl, ?_, hbel.trans hb1⟩
        have e1 : nb n = pre ++ [UInt8.ofNat q] := by rw [Hnb.out, numB_small _ _ hlt]
        rw [e1]
        simpa using Hown1.out
      · have e1 := i64_and127 (q : Int)
        have e2 := i64_or128 ((q : Int) % 128) (by omega) (by omega)
        go_wp2_with (at_builtin; refine append_byte rfl _ _ 105 5 (by rfl) Tryz.underlying105 info_u8 base _ _ _ (by rfl) Hown.out (by rfl) (by omega) (by omega) hlen hbw ?_; intro v' w1 hown1 hb1)
        have Hown1 := Lib.hid hown1; clear hown1 e1 e2
        go_wp2
        go_roundw
        case rel =>
          refine ⟨k + 1, q / 128, pre ++ [UInt8.ofNat (q % 128 + 128)], by omega, by go_num, by go_num, by omega, by simp [Hpre.out], ?_, ?_, hbel.trans hb1⟩
          · obtain ⟨f, hf⟩ : ∃ f, 9 - k = f + 1 := ⟨8 - k, by omega⟩
            rw [Hnb.out, hf, numB_big _ _ hlt, show 9 - (k + 1) = f from by omega]
            simp
          · have e1 := Hown1.out
            have e2 : ((q : Int) % 128 + 128).toNat = q % 128 + 128 := by omega
            simpa [e2] using e1
        case measure => simp [intOf]; omega
    · have hk' : 9 - k = 0 := by omega
      go_wp2_with (at_builtin; refine append_byte rfl _ _ 105 5 (by rfl) Tryz.underlying105 info_u8 base _ _ _ (by rfl) Hown.out (by rfl) (by omega) (by omega) hlen hbw ?_; intro v' w1 hown1 hb1)
      have Hown1 := Lib.hid hown1; clear hown1
      go_wp2
      go_ret2
      refine ⟨_, rfl, ?_, hbel.trans hb1⟩
      have e1 : nb n = pre ++ [UInt8.ofNat q] := by rw [Hnb.out, hk']; rfl
      have e2 : UInt8.ofNat ((q : Int) % 256).toNat = UInt8.ofNat q := by
        apply UInt8.toNat_inj.1
        simp only [UInt8.toNat_ofNat']
        omega
      have e3 := Hown1.out
      rw [e2] at e3
      rw [e1, ← List.append_assoc]
      exact e3

set_option maxRecDepth 100000 in
set_option maxHeartbeats 400000 in
theorem addNum_no (n : Int) (v : Value) (w : World) (hn : n < 0 ∨ 4611686018427387903 < n) :
    Calls Tryz.prog 132 #[v, .int .i64 n] w fun e w' => e = .returned (.tuple #[.slice none 0 0, .int .i64 2]) ∧ w' = w := by
  rcases hn with h | h
  · go_enter Tryz.func132, Tryz.ntmps132
    go_wp2
    go_ret2
    exact ⟨rfl, rfl⟩
  · have h' : ¬ n < 0 := by omega
    go_enter Tryz.func132, Tryz.ntmps132
    go_wp2
    go_ret2
    exact ⟨rfl, rfl⟩

theorem made_any (base : Nat) (v : Value) (l : List UInt8) (n : Int) (w : World) (hown : Own w base 5 v l) :
    Calls Tryz.prog 103 #[v, .int .i64 n] w fun e w' => e = .returned (.tuple #[.string ⟨l.toArray⟩, .int .i64 n]) ∧ w' = w := by
  have hc := own_string (P := Tryz.prog) w base 105 9 5 v l Tryz.underlying105 Tryz.underlying5 Tryz.underlying9 hown
  go_enter Tryz.func103, Tryz.ntmps103
  go_wp2
  go_ret2
  exact ⟨rfl, rfl⟩

theorem num_ok (n : Nat) (w : World) (hn : n ≤ 4611686018427387903) :
    Calls Tryz.prog 102 #[.int .i64 n] w fun e w' => e = .returned (.tuple #[.string ⟨(nb n).toArray⟩, .int .i64 0]) ∧ Below w.heap.size w w' := by
  go_enter Tryz.func102, Tryz.ntmps102
  go_wp2_with fail
  refine (addNum_any w.heap.size n _ [] w hn (by simp) (Nat.le_refl _) (Own.nil _ _ _)).mono ?_
  rintro e w1 ⟨v1, rfl, hown, hb⟩
  go_wp2_with fail
  refine (made_any w.heap.size _ _ _ _ hown).mono ?_
  rintro e w2 ⟨rfl, rfl⟩
  go_wp2
  go_ret2
  exact ⟨rfl, hb⟩

theorem num_no (n : Int) (w : World) (hn : n < 0 ∨ 4611686018427387903 < n) :
    Calls Tryz.prog 102 #[.int .i64 n] w fun e w' => e = .returned (.tuple #[.string ⟨#[]⟩, .int .i64 2]) ∧ w' = w := by
  go_enter Tryz.func102, Tryz.ntmps102
  go_wp2_with fail
  refine (addNum_no n _ w hn).mono ?_
  rintro e w1 ⟨rfl, rfl⟩
  go_wp2_with fail
  refine (made_any 0 _ [] _ _ (Own.nil _ _ _)).mono ?_
  rintro e w2 ⟨rfl, rfl⟩
  go_wp2
  go_ret2
  exact ⟨rfl, rfl⟩
end Go.Proofs.YtamiacmnobklaaaGreatDoor

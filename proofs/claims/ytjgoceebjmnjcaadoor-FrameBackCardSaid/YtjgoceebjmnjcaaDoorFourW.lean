/- Walks of four, number and Frame, and of the document's own. -/
import Derived.Test.YtjgoceebjmnjcaaDoorSumW
import Derived.Test.YtjgoceebjmnjcaaDoorRefSumW
import Derived.BigQuiet
import Derived.Deep.QuietTactic
import Derived.WalkKit
import Derived.WalkSpells
import Derived.Lib.Hide
import Derived.WalkLawsBesides
import Derived.Outline
set_option linter.unusedVariables false
namespace Go.Proofs.YtjgoceebjmnjcaaDoor
open Go.RowKit

theorem toArray_append (a b : List UInt8) : (ByteArray.mk a.toArray) ++ (ByteArray.mk b.toArray) = ⟨(a ++ b).toArray⟩ := by
  rw [ByteArray.ext_iff]; simp
/-- A number in four bytes, the lowest first. -/
def fourB (n : Nat) : List UInt8 := [UInt8.ofNat n, UInt8.ofNat (n / 256), UInt8.ofNat (n / 65536), UInt8.ofNat (n / 16777216)]

theorem four_cells (n : Nat) (w : World) (hn : n < 4294967296) :
    (convert 41 9 (Value.slice (some ⟨w.heap.size, 0, none⟩) 4 4)).run Tryd.prog
      (w.alloc (.cells #[.int .u8 ((n : Int) % 256), .int .u8 ((n : Int) / 256 % 256), .int .u8 ((n : Int) / 65536 % 256), .int .u8 ((n : Int) / 16777216)] 5)) =
    .ok (.string ⟨(fourB n).toArray⟩) (w.alloc (.cells #[.int .u8 ((n : Int) % 256), .int .u8 ((n : Int) / 256 % 256), .int .u8 ((n : Int) / 65536 % 256), .int .u8 ((n : Int) / 16777216)] 5)) := by
  refine run_convert_bytes_back (P := Tryd.prog) _ 41 9 5 ⟨w.heap.size, 0, none⟩ 4 (fourB n) Tryd.underlying41 Tryd.underlying5 Tryd.underlying9 ?_
  intro j hj
  match j, hj with
  | 0, _ => simp [Addr.add, fourB, UInt8.toNat_ofNat']
  | 1, _ => simp [Addr.add, fourB, UInt8.toNat_ofNat']
  | 2, _ => simp [Addr.add, fourB, UInt8.toNat_ofNat']
  | 3, _ => simp [Addr.add, fourB, UInt8.toNat_ofNat']; omega
theorem four_any (n : Nat) (w : World) (hn : n < 4294967296) :
    Calls Tryd.prog 39 #[.int .i64 n] w fun e w' => e = .returned (.string ⟨(fourB n).toArray⟩) ∧ Below w.heap.size w w' := by
  have H := Lib.hid (four_cells n w hn)
  go_enter Tryd.func39, Tryd.ntmps39
  go_wp2
  rw [H.out]
  go_wp2
  go_ret
  exact ⟨rfl, (Below.refl _ _).alloc (Nat.le_refl _) _⟩

theorem fourB_take (n k : Nat) (h : k < 4) : (fourB n).take (k + 1) = (fourB n).take k ++ [UInt8.ofNat (n / 256 ^ k)] := by
  match k, h with
  | 0, _ => simp [fourB]
  | 1, _ => simp [fourB]
  | 2, _ => simp [fourB]
  | 3, _ => simp [fourB]
theorem refFour_any (n : Nat) (w : World) (hn : n < 4294967296) :
    Calls Tryd.prog 40 #[.int .i64 n] w fun e w' => e = .returned (.string ⟨(fourB n).toArray⟩) ∧ Below w.heap.size w w' := by
  go_enter Tryd.func40, Tryd.ntmps40
  go_wp2
  go_loopw [0, 3, 4] (fun m v i wr => ∃ k : Nat, k ≤ 4 ∧ i = .int .i64 k ∧ m = .int .i64 (n / 256 ^ k : Nat) ∧ Own wr w.heap.size 5 v ((fourB n).take k) ∧ Below w.heap.size w wr) (fun _ _ i _ => 4 - (intOf i).toNat)
  case atStart => exact ⟨0, by omega, rfl, by simp, Own.nil _ _ _, Below.refl _ _⟩
  case round =>
    obtain ⟨k, hk, rfl, rfl, hown, hbel⟩ := hrel
    have Hown := Lib.hid hown; clear hown
    have hbw := hbel.size
    have hq : n / 256 ^ k < 4294967296 := Nat.lt_of_le_of_lt (Nat.div_le_self _ _) hn
    have Hd := Lib.hid (show n / 256 ^ (k + 1) = n / 256 ^ k / 256 by rw [Nat.div_div_eq_div_mul, Nat.pow_succ])
    have hlen : ((fourB n).take k).length < 70368744177664 := by rw [List.length_take]; omega
    by_cases hlt : k < 4
    · have Hs := Lib.hid (fourB_take n k hlt)
      generalize n / 256 ^ k = q at *
      have Hb := Lib.hid (show UInt8.ofNat ((q : Int) % 256).toNat = UInt8.ofNat q by
        apply UInt8.toNat_inj.1
        simp only [UInt8.toNat_ofNat']
        omega)
      go_wp2_with (at_builtin; refine append_byte rfl _ _ 41 5 (by rfl) Tryd.underlying41 info_u8 w.heap.size _ _ _ (by rfl) Hown.out (by rfl) (by omega) (by omega) hlen hbw ?_; intro v' w1 hown1 hb1)
      have Hown1 := Lib.hid hown1; clear hown1
      go_wp2
      go_roundw
      case rel =>
        refine ⟨k + 1, by omega, by go_num, by rw [Hd.out]; go_num, ?_, hbel.trans hb1⟩
        rw [Hs.out, ← Hb.out]
        exact Hown1.out
      case measure => simp [intOf]; omega
    · generalize n / 256 ^ k = q at *
      have hk4 : k = 4 := by omega
      have Hk := Lib.hid hk4; clear hk4
      have h4 : 4 ≤ k := by omega
      have hc := own_string (P := Tryd.prog) wr w.heap.size 41 9 5 u3 _ Tryd.underlying41 Tryd.underlying5 Tryd.underlying9 Hown.out
      go_wp2
      go_ret
      refine ⟨?_, hbel⟩
      have : (fourB n).take k = fourB n := by rw [Hk.out]; rfl
      rw [this]
      rfl

theorem or_up (x y : Int) (i : Nat) (hx0 : 0 ≤ x) (hx : x < 2 ^ i) (hy0 : 0 ≤ y) (hy : y % 2 ^ i = 0) (hy1 : y < 2 ^ 63) (hx1 : x < 2 ^ 63) : bits .or .i64 x y = x + y := by
  rw [i64_or_comm, i64_or_join i y x hy0 hy hy1 hx0 hx hx1]
  omega

set_option maxHeartbeats 400000 in
theorem number_any (a b c d : UInt8) (w : World) :
    Calls Tryd.prog 45 #[.string ⟨#[a, b, c, d]⟩] w fun e w' => ∃ n, e = .returned (.int .i64 (numL [a, b, c, d] : Nat)) ∧ w' = w.drewN n := by
  have ha := a.toNat_lt
  have hb := b.toNat_lt
  have hc := c.toNat_lt
  have hd := d.toNat_lt
  have i0 : (⟨#[a, b, c, d]⟩ : ByteArray)[0]'(by simp [ByteArray.size]) = a := rfl
  have i1 : (⟨#[a, b, c, d]⟩ : ByteArray)[1]'(by simp [ByteArray.size]) = b := rfl
  have i2 : (⟨#[a, b, c, d]⟩ : ByteArray)[2]'(by simp [ByteArray.size]) = c := rfl
  have i3 : (⟨#[a, b, c, d]⟩ : ByteArray)[3]'(by simp [ByteArray.size]) = d := rfl
  have e1 := or_up (a.toNat : Int) ((b.toNat : Int) * 256) 8 (by omega) (by omega) (by omega) (by omega) (by omega) (by omega)
  have e2 := or_up ((a.toNat : Int) + (b.toNat : Int) * 256) ((c.toNat : Int) * 65536) 16 (by omega) (by omega) (by omega) (by omega) (by omega) (by omega)
  have e3 := or_up ((a.toNat : Int) + (b.toNat : Int) * 256 + (c.toNat : Int) * 65536) ((d.toNat : Int) * 16777216) 24 (by omega) (by omega) (by omega) (by omega) (by omega) (by omega)
  have Hn := Lib.hid (show ((a.toNat : Int) + (b.toNat : Int) * 256 + (c.toNat : Int) * 65536 + (d.toNat : Int) * 16777216) = (numL [a, b, c, d] : Nat) by simp only [numL]; omega)
  go_enter Tryd.func45, Tryd.ntmps45
  go_wp2
  go_quiet (fail)
  go_wp2
  go_ret
  rw [Hn.out]
  exact ⟨_, rfl, rfl⟩

def numR : List UInt8 → Nat := numL
theorem refNumber_any (a b c d : UInt8) (w : World) :
    Calls Tryd.prog 33 #[.string ⟨#[a, b, c, d]⟩] w fun e w' => e = .returned (.int .i64 (numL [a, b, c, d] : Nat)) ∧ w = w' := by
  have ha := a.toNat_lt
  have hb := b.toNat_lt
  have hc := c.toNat_lt
  have hd := d.toNat_lt
  have i0 : (⟨#[a, b, c, d]⟩ : ByteArray)[0]'(by simp [ByteArray.size]) = a := rfl
  have i1 : (⟨#[a, b, c, d]⟩ : ByteArray)[1]'(by simp [ByteArray.size]) = b := rfl
  have i2 : (⟨#[a, b, c, d]⟩ : ByteArray)[2]'(by simp [ByteArray.size]) = c := rfl
  have i3 : (⟨#[a, b, c, d]⟩ : ByteArray)[3]'(by simp [ByteArray.size]) = d := rfl
  have Hn := Lib.hid (show (256 * (256 * (256 * (d.toNat : Int) + (c.toNat : Int)) + (b.toNat : Int)) + (a.toNat : Int)) = (numL [a, b, c, d] : Nat) by simp only [numL]; omega)
  go_enter Tryd.func33, Tryd.ntmps33
  go_wp2
  refine wp_loop_rounds 5 ?_
  rw [rounds_succ]
  go_wp2
  rw [rounds_succ]
  go_wp2
  rw [rounds_succ]
  go_wp2
  rw [rounds_succ]
  go_wp2
  rw [rounds_succ]
  go_wp2
  go_ret
  rw [← Hn.out]
  exact ⟨rfl, rfl⟩

def frameB (l : List UInt8) : List UInt8 := [181, 126] ++ fourB l.length ++ fourB (sumS (fourB l.length ++ l)) ++ l
theorem fourB_length (n : Nat) : (fourB n).length = 4 := rfl
theorem frameB_length (l : List UInt8) : (frameB l).length = l.length + 10 := by simp [frameB, fourB_length]; omega

set_option maxHeartbeats 400000 in
theorem frame_ok (l : List UInt8) (w : World) (hl : l.length ≤ 65536) (ht : Tab w) :
    Calls Tryd.prog 24 #[.string ⟨l.toArray⟩] w fun e w' => e = .returned (.tuple #[.string ⟨(frameB l).toArray⟩, .int .i64 0]) ∧ Below w.heap.size w w' := by
  have L := Lib.hid (show (⟨l.toArray⟩ : ByteArray).size = l.length from rfl)
  have F1 := fun w => Lib.hid (four_any l.length w (by omega))
  have hq := sumS_lt (fourB l.length)
  have hq2 := sumS_lt (fourB l.length ++ l)
  have S1 := fun w ht => Lib.hid (sum_any (fourB l.length) w (by simp [fourB_length]) ht)
  have A1 := fun w ht => Lib.hid (add_any (sumS (fourB l.length) : Nat) (sumS (fourB l.length)) l w (by omega) hq (by omega) ht)
  rw [← sumS_append] at A1
  have F2 := fun w => Lib.hid (four_any (sumS (fourB l.length ++ l)) w hq2)
  have E1 := toArray_append [181, 126] (fourB l.length)
  have E2 := toArray_append ([181, 126] ++ fourB l.length) (fourB (sumS (fourB l.length ++ l)))
  have E3 := toArray_append ([181, 126] ++ fourB l.length ++ fourB (sumS (fourB l.length ++ l))) l
  have E := Lib.hid (show [181, 126] ++ fourB l.length ++ fourB (sumS (fourB l.length ++ l)) ++ l = frameB l from rfl)
  rw [E.out] at E3
  have l1 : ([181, 126] ++ fourB l.length).length ≤ 6 := Nat.le_refl _
  have l2 : ([181, 126] ++ fourB l.length ++ fourB (sumS (fourB l.length ++ l))).length ≤ 10 := Nat.le_refl _
  have l3 : (fourB l.length).length ≤ 4 := Nat.le_refl _
  have l4 : (fourB (sumS (fourB l.length ++ l))).length ≤ 4 := Nat.le_refl _
  have T := Lib.hid ht
  clear ht
  generalize fourB (sumS (fourB l.length ++ l)) = f2 at *
  generalize sumS (fourB l.length ++ l) = s2 at *
  generalize sumS (fourB l.length) = s1 at *
  generalize fourB l.length = f1 at *
  generalize [181, 126] ++ f1 ++ f2 = g2 at *
  generalize [181, 126] ++ f1 = g1 at *
  go_enter Tryd.func24, Tryd.ntmps24
  go_wp2_with fail
  refine (F1 _).out.mono ?_
  rintro e w1 ⟨rfl, hb1⟩
  have T1 := Lib.hid (T.out.below hb1)
  go_wp2_with fail
  refine (S1 _ T1.out).out.mono ?_
  rintro e w1 ⟨rfl, rfl⟩
  go_wp2_with fail
  refine (A1 _ T1.out).out.mono ?_
  rintro e w1 ⟨rfl, rfl⟩
  go_wp2_with fail
  refine (F2 _).out.mono ?_
  rintro e w2 ⟨rfl, hb2⟩
  go_wp2
  go_ret2
  exact ⟨rfl, hb1.trans (hb2.mono hb1.size)⟩

theorem frame_no (l : List UInt8) (w : World) (hl : 65536 < l.length) (hl2 : l.length ≤ 140737488351232) :
    Calls Tryd.prog 24 #[.string ⟨l.toArray⟩] w fun e w' => e = .returned (.tuple #[.string ⟨#[]⟩, .int .i64 4]) ∧ w = w' := by
  have L := Lib.hid (show (⟨l.toArray⟩ : ByteArray).size = l.length from rfl)
  go_enter Tryd.func24, Tryd.ntmps24
  go_wp2
  go_ret2
  exact ⟨rfl, rfl⟩

set_option maxHeartbeats 400000 in
theorem refFrame_ok (l : List UInt8) (w : World) (hl : l.length ≤ 65536) :
    Calls Tryd.prog 25 #[.string ⟨l.toArray⟩] w fun e w' => e = .returned (.tuple #[.string ⟨(frameB l).toArray⟩, .int .i64 0]) ∧ Below w.heap.size w w' := by
  have L := Lib.hid (show (⟨l.toArray⟩ : ByteArray).size = l.length from rfl)
  have F1 := fun w => Lib.hid (refFour_any l.length w (by omega))
  have hq2 := sumS_lt (fourB l.length ++ l)
  have E0 := toArray_append (fourB l.length) l
  have hm : (fourB l.length ++ l).length ≤ 1000000 := by rw [List.length_append, fourB_length]; omega
  have S1 := fun w => Lib.hid (refSum_any (fourB l.length ++ l) w hm)
  have F2 := fun w => Lib.hid (refFour_any (sumS (fourB l.length ++ l)) w hq2)
  have E1 := toArray_append [181, 126] (fourB l.length)
  have E2 := toArray_append ([181, 126] ++ fourB l.length) (fourB (sumS (fourB l.length ++ l)))
  have E3 := toArray_append ([181, 126] ++ fourB l.length ++ fourB (sumS (fourB l.length ++ l))) l
  have E := Lib.hid (show [181, 126] ++ fourB l.length ++ fourB (sumS (fourB l.length ++ l)) ++ l = frameB l from rfl)
  rw [E.out] at E3
  have l1 : ([181, 126] ++ fourB l.length).length ≤ 6 := Nat.le_refl _
  have l2 : ([181, 126] ++ fourB l.length ++ fourB (sumS (fourB l.length ++ l))).length ≤ 10 := Nat.le_refl _
  have l3 : (fourB l.length).length ≤ 4 := Nat.le_refl _
  have l4 : (fourB (sumS (fourB l.length ++ l))).length ≤ 4 := Nat.le_refl _
  generalize fourB (sumS (fourB l.length ++ l)) = f2 at *
  generalize sumS (fourB l.length ++ l) = s2 at *
  generalize fourB l.length ++ l = m at *
  generalize fourB l.length = f1 at *
  generalize [181, 126] ++ f1 ++ f2 = g2 at *
  generalize [181, 126] ++ f1 = g1 at *
  go_enter Tryd.func25, Tryd.ntmps25
  go_wp2_with fail
  refine (F1 _).out.mono ?_
  rintro e w1 ⟨rfl, hb1⟩
  go_wp2_with fail
  refine (S1 _).out.mono ?_
  rintro e w2 ⟨rfl, hb2⟩
  go_wp2_with fail
  refine (F2 _).out.mono ?_
  rintro e w3 ⟨rfl, hb3⟩
  go_wp2
  go_ret2
  exact ⟨rfl, hb1.trans ((hb2.mono hb1.size).trans (hb3.mono (Nat.le_trans hb1.size hb2.size)))⟩
end Go.Proofs.YtjgoceebjmnjcaaDoor

/- Walks of the document's One; FrameOnes. -/
import Derived.Test.YtamiacmnobklaaaGreatDoorCrX
import Derived.Test.YtamiacmnobklaaaGreatDoorOnX
import Derived.Test.YtamiacmnobklaaaGreatDoorFrame
import Derived.Test.YtamiacmnobklaaaGreatDoorGen
import Derived.Test.YtamiacmnobklaaaGreatDoorOwnL
import Derived.Test.YtamiacmnobklaaaGreatDoorRows
import Derived.BigQuiet
import Derived.Deep.QuietTactic
import Derived.Deep.RegionHeld3
import Derived.IntWalk
import Derived.Laws.BitsAllLaws
import Derived.Lib.Hide
import Derived.Outline
import Derived.WalkKit
import Derived.WalkLawsBesides
import Derived.WalkSpells
set_option linter.unusedVariables false
namespace Go.Proofs.YtamiacmnobklaaaGreatDoor
open Go.RowKit

theorem u8_ne {a : UInt8} {k : Nat} {r : Bool} (hk : k < 256) (h : (a == UInt8.ofNat k) = r) : ((a.toNat : Int) != (k : Int)) = !r := by
  have e : (a == UInt8.ofNat k) = decide ((a.toNat : Int) = (k : Int)) := by
    rw [Bool.eq_iff_iff]
    simp only [beq_iff_eq, decide_eq_true_eq]
    constructor
    · rintro rfl; simp only [UInt8.toNat_ofNat']; omega
    · intro h; apply UInt8.toNat_inj.1; simp only [UInt8.toNat_ofNat']; omega
  rw [e] at h
  rw [← h]
  rfl
theorem ref1_0 (w : World) :
    Calls Tryz.prog 54 #[.string ⟨#[]⟩] w fun e w' => e = .returned (.tuple #[.string ⟨#[]⟩, .int .i64 0, .int .i64 3]) ∧ Below w.heap.size w w' := by
  go_enter Tryz.func54, Tryz.ntmps54
  go_wp2
  go_ret3
  exact ⟨rfl, Below.refl _ _⟩
theorem ref1_1no (a : UInt8) (w : World) (ha : (a == 181) = false) :
    Calls Tryz.prog 54 #[.string ⟨#[a]⟩] w fun e w' => e = .returned (.tuple #[.string ⟨#[]⟩, .int .i64 0, .int .i64 5]) ∧ Below w.heap.size w w' := by
  have i0 : (⟨#[a]⟩ : ByteArray)[0]'(by simp [ByteArray.size]) = a := rfl
  have hA : ((a.toNat : Int) != 181) = true := u8_ne (k := 181) (by decide) ha
  clear ha
  go_enter Tryz.func54, Tryz.ntmps54
  go_wp2
  go_ret3
  exact ⟨rfl, Below.refl _ _⟩
theorem ref1_1ok (a : UInt8) (w : World) (ha : (a == 181) = true) :
    Calls Tryz.prog 54 #[.string ⟨#[a]⟩] w fun e w' => e = .returned (.tuple #[.string ⟨#[]⟩, .int .i64 0, .int .i64 3]) ∧ Below w.heap.size w w' := by
  have i0 : (⟨#[a]⟩ : ByteArray)[0]'(by simp [ByteArray.size]) = a := rfl
  have hA : ((a.toNat : Int) != 181) = false := u8_ne (k := 181) (by decide) ha
  clear ha
  go_enter Tryz.func54, Tryz.ntmps54
  go_wp2
  go_ret3
  exact ⟨rfl, Below.refl _ _⟩
theorem take2_0 {l : List UInt8} {a b : UInt8} (h : l.take 2 = [a, b]) {k : 0 < l.length} : l[0] = a := by
  match l, h with
  | x :: y :: t, h => simp at h; exact h.1
theorem take2_1 {l : List UInt8} {a b : UInt8} (h : l.take 2 = [a, b]) {k : 1 < l.length} : l[1] = b := by
  match l, h with
  | x :: y :: t, h => simp at h; exact h.2
theorem ref1_no1 (l : List UInt8) (a b : UInt8) (w : World) (hl : l.length ≤ 1000000) (h3 : 2 ≤ l.length) (h2 : l.take 2 = [a, b]) (ha : (a == 181) = false) :
    Calls Tryz.prog 54 #[.string ⟨l.toArray⟩] w fun e w' => e = .returned (.tuple #[.string ⟨#[]⟩, .int .i64 0, .int .i64 5]) ∧ Below w.heap.size w w' := by
  have L := Lib.hid (show (⟨l.toArray⟩ : ByteArray).size = l.length from rfl)
  have i0 : (⟨l.toArray⟩ : ByteArray)[0]'(by show 0 < l.length; omega) = a := take2_0 h2
  have i1 : (⟨l.toArray⟩ : ByteArray)[1]'(by show 1 < l.length; omega) = b := take2_1 h2
  clear h2
  have hA : ((a.toNat : Int) != 181) = true := u8_ne (k := 181) (by decide) ha
  clear ha
  go_enter Tryz.func54, Tryz.ntmps54
  go_wp2
  go_ret3
  exact ⟨rfl, Below.refl _ _⟩
theorem ref1_no2 (l : List UInt8) (a b : UInt8) (w : World) (hl : l.length ≤ 1000000) (h3 : 2 ≤ l.length) (h2 : l.take 2 = [a, b]) (ha : (a == 181) = true) (hb : (b == 126) = false) :
    Calls Tryz.prog 54 #[.string ⟨l.toArray⟩] w fun e w' => e = .returned (.tuple #[.string ⟨#[]⟩, .int .i64 0, .int .i64 5]) ∧ Below w.heap.size w w' := by
  have L := Lib.hid (show (⟨l.toArray⟩ : ByteArray).size = l.length from rfl)
  have i0 : (⟨l.toArray⟩ : ByteArray)[0]'(by show 0 < l.length; omega) = a := take2_0 h2
  have i1 : (⟨l.toArray⟩ : ByteArray)[1]'(by show 1 < l.length; omega) = b := take2_1 h2
  clear h2
  have hA : ((a.toNat : Int) != 181) = false := u8_ne (k := 181) (by decide) ha
  clear ha
  have hB : ((b.toNat : Int) != 126) = true := u8_ne (k := 126) (by decide) hb
  clear hb
  go_enter Tryz.func54, Tryz.ntmps54
  go_wp2
  go_ret3
  exact ⟨rfl, Below.refl _ _⟩
theorem ref1_short (l : List UInt8) (a b : UInt8) (w : World) (hl : l.length ≤ 1000000) (h3 : 2 ≤ l.length) (h2 : l.take 2 = [a, b]) (ha : (a == 181) = true) (hb : (b == 126) = true) (h6 : l.length < 6) :
    Calls Tryz.prog 54 #[.string ⟨l.toArray⟩] w fun e w' => e = .returned (.tuple #[.string ⟨#[]⟩, .int .i64 0, .int .i64 3]) ∧ Below w.heap.size w w' := by
  have L := Lib.hid (show (⟨l.toArray⟩ : ByteArray).size = l.length from rfl)
  have i0 : (⟨l.toArray⟩ : ByteArray)[0]'(by show 0 < l.length; omega) = a := take2_0 h2
  have i1 : (⟨l.toArray⟩ : ByteArray)[1]'(by show 1 < l.length; omega) = b := take2_1 h2
  clear h2
  have hA : ((a.toNat : Int) != 181) = false := u8_ne (k := 181) (by decide) ha
  clear ha
  have hB : ((b.toNat : Int) != 126) = false := u8_ne (k := 126) (by decide) hb
  clear hb
  go_enter Tryz.func54, Tryz.ntmps54
  go_wp2
  go_ret3
  exact ⟨rfl, Below.refl _ _⟩
theorem ref1_6long (l : List UInt8) (a b : UInt8) (w : World) (hl : l.length ≤ 1000000) (h3 : 2 ≤ l.length) (h2 : l.take 2 = [a, b]) (ha : (a == 181) = true) (hb : (b == 126) = true) (h6 : 6 ≤ l.length) (c d x y : UInt8) (h4 : (l.take 6).drop 2 = [c, d, x, y]) (hq : 65536 < numL [c, d, x, y]) :
    Calls Tryz.prog 54 #[.string ⟨l.toArray⟩] w fun e w' => e = .returned (.tuple #[.string ⟨#[]⟩, .int .i64 0, .int .i64 4]) ∧ Below w.heap.size w w' := by
  have L := Lib.hid (show (⟨l.toArray⟩ : ByteArray).size = l.length from rfl)
  have i0 : (⟨l.toArray⟩ : ByteArray)[0]'(by show 0 < l.length; omega) = a := take2_0 h2
  have i1 : (⟨l.toArray⟩ : ByteArray)[1]'(by show 1 < l.length; omega) = b := take2_1 h2
  clear h2
  have E2 := slice_toArray l 2 6
  rw [h4] at E2
  have N := fun w => Lib.hid (refNumber_any c d x y w)
  have hn := numL4 c d x y
  clear h4
  generalize numL [c, d, x, y] = n at *
  have hA : ((a.toNat : Int) != 181) = false := u8_ne (k := 181) (by decide) ha
  clear ha
  have hB : ((b.toNat : Int) != 126) = false := u8_ne (k := 126) (by decide) hb
  clear hb
  go_enter Tryz.func54, Tryz.ntmps54
  go_wp2_with fail
  refine (N _).out.mono ?_
  rintro e w1 ⟨rfl, rfl⟩
  go_wp2
  go_ret3
  exact ⟨rfl, Below.refl _ _⟩
theorem ref1_6short (l : List UInt8) (a b : UInt8) (w : World) (hl : l.length ≤ 1000000) (h3 : 2 ≤ l.length) (h2 : l.take 2 = [a, b]) (ha : (a == 181) = true) (hb : (b == 126) = true) (h6 : 6 ≤ l.length) (c d x y : UInt8) (h4 : (l.take 6).drop 2 = [c, d, x, y]) (hq : numL [c, d, x, y] ≤ 65536) (hr : l.length < 10 + numL [c, d, x, y]) :
    Calls Tryz.prog 54 #[.string ⟨l.toArray⟩] w fun e w' => e = .returned (.tuple #[.string ⟨#[]⟩, .int .i64 0, .int .i64 3]) ∧ Below w.heap.size w w' := by
  have L := Lib.hid (show (⟨l.toArray⟩ : ByteArray).size = l.length from rfl)
  have i0 : (⟨l.toArray⟩ : ByteArray)[0]'(by show 0 < l.length; omega) = a := take2_0 h2
  have i1 : (⟨l.toArray⟩ : ByteArray)[1]'(by show 1 < l.length; omega) = b := take2_1 h2
  clear h2
  have E2 := slice_toArray l 2 6
  rw [h4] at E2
  have N := fun w => Lib.hid (refNumber_any c d x y w)
  have hn := numL4 c d x y
  clear h4
  generalize numL [c, d, x, y] = n at *
  have hA : ((a.toNat : Int) != 181) = false := u8_ne (k := 181) (by decide) ha
  clear ha
  have hB : ((b.toNat : Int) != 126) = false := u8_ne (k := 126) (by decide) hb
  clear hb
  go_enter Tryz.func54, Tryz.ntmps54
  go_wp2_with fail
  refine (N _).out.mono ?_
  rintro e w1 ⟨rfl, rfl⟩
  go_wp2
  go_ret3
  exact ⟨rfl, Below.refl _ _⟩
theorem ref1_sum (l : List UInt8) (a b : UInt8) (w : World) (hl : l.length ≤ 1000000) (h3 : 2 ≤ l.length) (h2 : l.take 2 = [a, b]) (ha : (a == 181) = true) (hb : (b == 126) = true) (h6 : 6 ≤ l.length) (c d x y : UInt8) (h4 : (l.take 6).drop 2 = [c, d, x, y]) (hq : numL [c, d, x, y] ≤ 65536) (hr : 10 + numL [c, d, x, y] ≤ l.length) (e f g h : UInt8) (h5 : (l.take 10).drop 6 = [e, f, g, h]) (hs : sumS ([c, d, x, y] ++ (l.take (10 + numL [c, d, x, y])).drop 10) ≠ numL [e, f, g, h]) :
    Calls Tryz.prog 54 #[.string ⟨l.toArray⟩] w fun e w' => e = .returned (.tuple #[.string ⟨#[]⟩, .int .i64 0, .int .i64 6]) ∧ Below w.heap.size w w' := by
  have L := Lib.hid (show (⟨l.toArray⟩ : ByteArray).size = l.length from rfl)
  have i0 : (⟨l.toArray⟩ : ByteArray)[0]'(by show 0 < l.length; omega) = a := take2_0 h2
  have i1 : (⟨l.toArray⟩ : ByteArray)[1]'(by show 1 < l.length; omega) = b := take2_1 h2
  clear h2
  have E2 := slice_toArray l 2 6
  rw [h4] at E2
  have N := fun w => Lib.hid (refNumber_any c d x y w)
  have hn := numL4 c d x y
  have E3 := slice_toArray l 6 10
  rw [h5] at E3
  have E4 := slice_toArray l 10 (10 + numL [c, d, x, y])
  have E5 := toArray_append [c, d, x, y] ((l.take (10 + numL [c, d, x, y])).drop 10)
  have hlen : ([c, d, x, y] ++ (l.take (10 + numL [c, d, x, y])).drop 10).length ≤ 1000000 := by simp; omega
  have hlen2 : ((l.take (10 + numL [c, d, x, y])).drop 10).length ≤ 1000000 := by simp; omega
  have R := fun w => Lib.hid (refSum_any ([c, d, x, y] ++ (l.take (10 + numL [c, d, x, y])).drop 10) w hlen)
  have N2 := fun w => Lib.hid (refNumber_any e f g h w)
  clear h4 h5
  generalize [c, d, x, y] ++ (l.take (10 + numL [c, d, x, y])).drop 10 = m at *
  generalize (l.take (10 + numL [c, d, x, y])).drop 10 = body at *
  generalize numL [c, d, x, y] = n at *
  generalize sumS m = s2 at *
  generalize numL [e, f, g, h] = q at *
  have B1 : (10 : Int) ≤ (l.length : Int) := by omega
  have B2 : 10 + (n : Int) ≤ (l.length : Int) := by omega
  have B3 : (10 : Int) ≤ 10 + (n : Int) := by omega
  have B4 : (0 : Int) ≤ 10 + (n : Int) := by omega
  have W1 : IntKind.i64.wrap (10 + (n : Int)) = 10 + (n : Int) := IntWalk.i64_in _ (by omega)
  have W2 : (10 + (n : Int)).toNat = 10 + n := by omega
  have X1 : ¬ 9223372036854775807 < 4 + body.length := by omega
  have hne : ((q : Int) != (s2 : Int)) = true := by simp; omega
  clear hs
  have hA : ((a.toNat : Int) != 181) = false := u8_ne (k := 181) (by decide) ha
  clear ha
  have hB : ((b.toNat : Int) != 126) = false := u8_ne (k := 126) (by decide) hb
  clear hb
  go_enter Tryz.func54, Tryz.ntmps54
  go_wp2_with fail
  refine (N _).out.mono ?_
  rintro e w1 ⟨rfl, rfl⟩
  go_wp2
  go_region_held3 (fun w' => Below w.heap.size w w')
    (first
      | exact below2 (by assumption) (by assumption)
      | exact Below.refl _ _
      | exact Below_drew (Below.refl _ _)
      | exact Below_drew (by assumption)
      | assumption)
    (first
      | (go_at_call 84; refine (N2 _).out.mono ?_; rintro e w' ⟨rfl, rfl⟩)
      | (go_at_call 85; refine (R _).out.mono ?_; rintro e w' ⟨rfl, hbs⟩))
  go_wp2
  go_ret3
  exact ⟨rfl, by assumption⟩
theorem ref1_ok (l : List UInt8) (a b : UInt8) (w : World) (hl : l.length ≤ 1000000) (h3 : 2 ≤ l.length) (h2 : l.take 2 = [a, b]) (ha : (a == 181) = true) (hb : (b == 126) = true) (h6 : 6 ≤ l.length) (c d x y : UInt8) (h4 : (l.take 6).drop 2 = [c, d, x, y]) (hq : numL [c, d, x, y] ≤ 65536) (hr : 10 + numL [c, d, x, y] ≤ l.length) (e f g h : UInt8) (h5 : (l.take 10).drop 6 = [e, f, g, h]) (hs : sumS ([c, d, x, y] ++ (l.take (10 + numL [c, d, x, y])).drop 10) = numL [e, f, g, h]) :
    Calls Tryz.prog 54 #[.string ⟨l.toArray⟩] w fun e w' => e = .returned (.tuple #[.string ⟨((l.take (10 + numL [c, d, x, y])).drop 10).toArray⟩, .int .i64 (10 + numL [c, d, x, y] : Nat), .int .i64 0]) ∧ Below w.heap.size w w' := by
  have L := Lib.hid (show (⟨l.toArray⟩ : ByteArray).size = l.length from rfl)
  have i0 : (⟨l.toArray⟩ : ByteArray)[0]'(by show 0 < l.length; omega) = a := take2_0 h2
  have i1 : (⟨l.toArray⟩ : ByteArray)[1]'(by show 1 < l.length; omega) = b := take2_1 h2
  clear h2
  have E2 := slice_toArray l 2 6
  rw [h4] at E2
  have N := fun w => Lib.hid (refNumber_any c d x y w)
  have hn := numL4 c d x y
  have E3 := slice_toArray l 6 10
  rw [h5] at E3
  have E4 := slice_toArray l 10 (10 + numL [c, d, x, y])
  have E5 := toArray_append [c, d, x, y] ((l.take (10 + numL [c, d, x, y])).drop 10)
  have hlen : ([c, d, x, y] ++ (l.take (10 + numL [c, d, x, y])).drop 10).length ≤ 1000000 := by simp; omega
  have hlen2 : ((l.take (10 + numL [c, d, x, y])).drop 10).length ≤ 1000000 := by simp; omega
  have R := fun w => Lib.hid (refSum_any ([c, d, x, y] ++ (l.take (10 + numL [c, d, x, y])).drop 10) w hlen)
  have N2 := fun w => Lib.hid (refNumber_any e f g h w)
  clear h4 h5
  generalize [c, d, x, y] ++ (l.take (10 + numL [c, d, x, y])).drop 10 = m at *
  generalize (l.take (10 + numL [c, d, x, y])).drop 10 = body at *
  generalize numL [c, d, x, y] = n at *
  generalize sumS m = s2 at *
  generalize numL [e, f, g, h] = q at *
  have B1 : (10 : Int) ≤ (l.length : Int) := by omega
  have B2 : 10 + (n : Int) ≤ (l.length : Int) := by omega
  have B3 : (10 : Int) ≤ 10 + (n : Int) := by omega
  have B4 : (0 : Int) ≤ 10 + (n : Int) := by omega
  have W1 : IntKind.i64.wrap (10 + (n : Int)) = 10 + (n : Int) := IntWalk.i64_in _ (by omega)
  have W2 : (10 + (n : Int)).toNat = 10 + n := by omega
  have X1 : ¬ 9223372036854775807 < 4 + body.length := by omega
  have hne : ((q : Int) != (s2 : Int)) = false := by simp [hs]
  clear hs
  have hA : ((a.toNat : Int) != 181) = false := u8_ne (k := 181) (by decide) ha
  clear ha
  have hB : ((b.toNat : Int) != 126) = false := u8_ne (k := 126) (by decide) hb
  clear hb
  go_enter Tryz.func54, Tryz.ntmps54
  go_wp2_with fail
  refine (N _).out.mono ?_
  rintro e w1 ⟨rfl, rfl⟩
  go_wp2
  go_region_held3 (fun w' => Below w.heap.size w w')
    (first
      | exact below2 (by assumption) (by assumption)
      | exact Below.refl _ _
      | exact Below_drew (Below.refl _ _)
      | exact Below_drew (by assumption)
      | assumption)
    (first
      | (go_at_call 84; refine (N2 _).out.mono ?_; rintro e w' ⟨rfl, rfl⟩)
      | (go_at_call 85; refine (R _).out.mono ?_; rintro e w' ⟨rfl, hbs⟩))
  go_wp2
  go_ret3
  exact ⟨ret3 rfl (by omega) rfl, by assumption⟩

theorem oneS_bad (l : List UInt8) (q : Nat) (h : payS l = (0, q)) (hq : q ≠ 0) : oneS l = ([], 0, q) := by unfold oneS; rw [h, if_pos hq]
theorem refOne_any (l : List UInt8) (w : World) (hl : l.length ≤ 1000000) :
    Calls Tryz.prog 54 #[.string ⟨l.toArray⟩] w fun e w' =>
      e = .returned (.tuple #[.string ⟨(oneS l).1.toArray⟩, .int .i64 (oneS l).2.1, .int .i64 (oneS l).2.2]) ∧ Below w.heap.size w w' := by
  by_cases h3 : 2 ≤ l.length
  · obtain ⟨a, b, h2⟩ := take2 l h3
    have hh := headBad_long l a b h2
    cases ha : (a == 181) with
    | false =>
      rw [oneS_bad l 5 (by unfold payS; rw [hh, if_pos (by simp [bne, ha])]) (by decide)]
      exact ref1_no1 l a b w hl h3 h2 ha
    | true =>
      cases hb : (b == 126) with
      | false =>
        rw [oneS_bad l 5 (by unfold payS; rw [hh, if_pos (by simp [bne, hb])]) (by decide)]
        exact ref1_no2 l a b w hl h3 h2 ha hb
      | true =>
        have hn : ¬ headBad l = true := by rw [hh]; simp [bne, ha, hb]
        by_cases h6 : l.length < 6
        · rw [oneS_bad l 3 (by unfold payS; rw [if_neg hn, if_pos h6]) (by decide)]
          exact ref1_short l a b w hl h3 h2 ha hb h6
        · obtain ⟨c, d, x, y, h4⟩ := take26 l (by omega)
          by_cases hq : 65536 < numL [c, d, x, y]
          · rw [oneS_bad l 4 (by unfold payS; rw [if_neg hn, if_neg h6, h4, if_pos hq]) (by decide)]
            exact ref1_6long l a b w hl h3 h2 ha hb (by omega) c d x y h4 hq
          · by_cases hr : l.length < 10 + numL [c, d, x, y]
            · rw [oneS_bad l 3 (by unfold payS; rw [if_neg hn, if_neg h6, h4, if_neg hq, if_pos hr]) (by decide)]
              exact ref1_6short l a b w hl h3 h2 ha hb (by omega) c d x y h4 (by omega) hr
            · have e : payS l = (numL [c, d, x, y], 0) := by unfold payS; rw [if_neg hn, if_neg h6, h4, if_neg hq, if_neg hr]
              obtain ⟨p, q, r, s, h5⟩ := take610 l (by omega)
              by_cases hs : sumS ([c, d, x, y] ++ (l.take (10 + numL [c, d, x, y])).drop 10) = numL [p, q, r, s]
              · have e2 : oneS l = ((l.take (10 + numL [c, d, x, y])).drop 10, 10 + numL [c, d, x, y], 0) := by unfold oneS; rw [e, if_neg (by simp), h4, h5, if_neg (by simpa using hs)]
                rw [e2]
                exact ref1_ok l a b w hl h3 h2 ha hb (by omega) c d x y h4 (by omega) (by omega) p q r s h5 hs
              · have e2 : oneS l = ([], 0, 6) := by unfold oneS; rw [e, if_neg (by simp), h4, h5, if_pos hs]
                rw [e2]
                exact ref1_sum l a b w hl h3 h2 ha hb (by omega) c d x y h4 (by omega) (by omega) p q r s h5 hs
  · match l, h3 with
    | [], _ => exact ref1_0 w
    | [a], _ =>
      cases ha : (a == 181) with
      | false =>
        rw [oneS_bad [a] 5 (by unfold payS headBad; rw [if_pos (by simp [bne, ha])]) (by decide)]
        exact ref1_1no a w ha
      | true =>
        rw [oneS_bad [a] 3 (by unfold payS headBad; rw [if_neg (by simp [bne, ha])]; rfl) (by decide)]
        exact ref1_1ok a w ha
    | x :: y :: t, h => exact absurd (by simp) h



end Go.Proofs.YtamiacmnobklaaaGreatDoor

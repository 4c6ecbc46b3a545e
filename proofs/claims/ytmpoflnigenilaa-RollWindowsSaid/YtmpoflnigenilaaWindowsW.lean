/- The walk of the law RollWindows. -/
import Derived.Test.YtmpoflnigenilaaEndsW
import Derived.Test.YtmpoflnigenilaaFrame
set_option linter.unusedVariables false
namespace Go.Proofs.Ytmpoflnigenilaa
open Go.RowKit

theorem wk_def (u : List UInt8) : lo u + 65536 * hi u = wk u := rfl

set_option maxRecDepth 100000 in
set_option maxHeartbeats 1000000 in
theorem windows_arg (s t : List UInt8) (v : Value) (z : Int) (w : World) (CUT : ∀ w', Hid (Calls Try.prog 11 #[.string ⟨s.toArray⟩, .int .i64 2000] w' fun e w'' => e = .returned (.string ⟨t.toArray⟩) ∧ w' = w'')) (hz : z < 1 ∨ z > 1024) :
    Calls Try.prog 6 #[.string ⟨s.toArray⟩, .int .i64 z, v] w fun e w' => e = .returned (.bool true) ∧ Below w.heap.size w w' := by
  have NEW := fun w' => Lib.hid (new_arg t z w' hz)
  by_cases h1 : z < 1
  · clear hz
    go_enter Try.func6, Try.ntmps6
    go_wp2_with fail
    refine (CUT _).out.mono ?_
    rintro e w' ⟨rfl, rfl⟩
    go_wp2_with fail
    refine (NEW _).out.mono ?_
    rintro e w1 ⟨rfl, rfl⟩
    go_wp2_with fail
    refine (awake_any _).mono ?_
    rintro e w2 ⟨rfl, hb2⟩
    go_wp2
    go_ret
    exact ⟨rfl, hb2⟩
  · have h2 : z > 1024 := by omega
    clear hz
    go_enter Try.func6, Try.ntmps6
    go_wp2_with fail
    refine (CUT _).out.mono ?_
    rintro e w' ⟨rfl, rfl⟩
    go_wp2_with fail
    refine (NEW _).out.mono ?_
    rintro e w1 ⟨rfl, rfl⟩
    go_wp2_with fail
    refine (awake_any _).mono ?_
    rintro e w2 ⟨rfl, hb2⟩
    go_wp2
    go_ret
    exact ⟨rfl, hb2⟩

set_option maxRecDepth 100000 in
set_option maxHeartbeats 1000000 in
theorem windows_short (s t : List UInt8) (v : Value) (z : Int) (n : Nat) (w : World) (CUT : ∀ w', Hid (Calls Try.prog 11 #[.string ⟨s.toArray⟩, .int .i64 2000] w' fun e w'' => e = .returned (.string ⟨t.toArray⟩) ∧ w' = w'')) (hz : z = (n : Int))
    (h1 : 1 ≤ n) (h2 : n ≤ 1024) (hl : t.length < n) :
    Calls Try.prog 6 #[.string ⟨s.toArray⟩, .int .i64 z, v] w fun e w' => e = .returned (.bool true) ∧ Below w.heap.size w w' := by
  have NEW := fun w' => Lib.hid (new_short t n w' h1 h2 hl)
  rw [← hz] at NEW
  have L := Lib.hid (show (⟨t.toArray⟩ : ByteArray).size = t.length from rfl)
  have z1 : ¬ z < 1 := by omega
  have z2 : ¬ z > 1024 := by omega
  have z3 : z > (t.length : Int) := by omega
  clear hz h1 h2 hl
  go_enter Try.func6, Try.ntmps6
  go_wp2_with fail
  refine (CUT _).out.mono ?_
  rintro e w' ⟨rfl, rfl⟩
  go_wp2_with fail
  refine (NEW _).out.mono ?_
  rintro e w1 ⟨rfl, b1⟩
  go_wp2_with fail
  refine (awake_any _).mono ?_
  rintro e w2 ⟨rfl, hb2⟩
  go_wp2
  go_ret
  exact ⟨rfl, below2 b1 hb2⟩

set_option maxRecDepth 100000 in
set_option maxHeartbeats 4000000 in
theorem windows_some (s t : List UInt8) (v : Value) (xs : List Int) (z : Int) (n : Nat) (w : World) (CUT : ∀ w', Hid (Calls Try.prog 11 #[.string ⟨s.toArray⟩, .int .i64 2000] w' fun e w'' => e = .returned (.string ⟨t.toArray⟩) ∧ w' = w'')) (ht : t.length ≤ 2000)
    (hz : z = (n : Int)) (h1 : 1 ≤ n) (h2 : n ≤ 1024) (h3 : n ≤ t.length) (hrow : Row (Value.int .i64) (· < w.heap.size) w v xs) :
    Calls Try.prog 6 #[.string ⟨s.toArray⟩, .int .i64 z, v] w fun e w' => e = .returned (.bool true) ∧ Below w.heap.size w w' := by
  have L := Lib.hid (show (⟨t.toArray⟩ : ByteArray).size = t.length from rfl)
  have NEW := fun w' => Lib.hid (new_ok t n w' h1 h2 h3 (by omega))
  rw [← hz] at NEW
  have z1 : ¬ z < 1 := by omega
  have z2 : ¬ z > 1024 := by omega
  have z3 : ¬ z > (t.length : Int) := by omega
  have HZ := Lib.hid hz; clear hz
  have AW := fun w' => Lib.hid (awake_any w')
  obtain ⟨a, cap, rfl, hcells⟩ := hrow
  have HC := Lib.hid hcells; clear hcells
  go_enter Try.func6, Try.ntmps6
  go_wp2_with fail
  refine (CUT _).out.mono ?_
  rintro e w' ⟨rfl, rfl⟩
  go_wp2_with fail
  refine (NEW _).out.mono ?_
  rintro e w1 ⟨p, rfl, hr, hp, b1⟩
  have H1 := Lib.hid (On.mk hr b1)
  clear NEW CUT hr b1
  go_wp2
  go_loopw [9, 10] (fun a i wr => ∃ k j : Nat, k + n ≤ t.length ∧ j ≤ 60 ∧ a = .int .i64 k ∧ i = .int .i64 j ∧ On p t n k w wr) (fun _ i _ => 60 - (intOf i).toNat)
  case atStart => exact ⟨0, 0, by omega, by omega, rfl, rfl, H1.out⟩
  case round =>
    obtain ⟨k, i, hk, hib, rfl, rfl, hon⟩ := hrel
    have HON := Lib.hid hon; clear hon H1
    by_cases hi60 : i < 60
    · by_cases hix : i < xs.length
      · obtain ⟨blk, off, rfl, hblk, hcw⟩ := HC.out i hix
        have hc : wr.cell? ⟨blk, off + i, none⟩ = some (.int .i64 xs[i]) := by rw [HON.out.below.cell (p := ⟨blk, off + i, none⟩) hblk]; exact hcw
        clear hcw hblk
        have W1 : IntKind.i64.wrap ((t.length : Int) - z) = ((t.length - n : Nat) : Int) := by rw [HZ.out, IntKind.wrap_i64]; omega
        obtain ⟨q, hq⟩ : ∃ q, t.length - n = q := ⟨_, rfl⟩
        rw [hq] at W1
        obtain ⟨d, hd⟩ : ∃ d, q - k = d := ⟨_, rfl⟩
        have W2 : IntKind.i64.wrap ((q : Int) - (k : Int)) = (d : Int) := by rw [IntKind.wrap_i64]; omega
        have hkd : k + n + d = t.length := by omega
        clear hq hd
        generalize xs[i] = x at *
        by_cases hx : x < 0
        · by_cases hlt : k + n < t.length
          · obtain ⟨j, hj⟩ : ∃ j, k + 1 = j := ⟨_, rfl⟩
            have NX := Lib.hid (next_step p n k t wr HON.out.roll h1 h2 hlt (by omega))
            rw [hj] at NX
            have wj : IntKind.i64.wrap ((k : Int) + 1) = (j : Int) := by rw [IntKind.wrap_i64]; omega
            have hJ : j + n ≤ t.length := by omega
            have g1 : (1 : Int) ≤ (d : Int) := by omega
            clear hj hlt hkd
            go_wp2_with fail
            refine NX.out.mono ?_
            rintro e w3 ⟨rfl, hr3, k3⟩
            have HJ := Lib.hid (On.mk hr3 (HON.out.below.trans (k3.below HON.out.below.size (fun j hj => by omega))))
            clear NX hr3 k3 hc HON
            have AT := fun w' (h' : RollOn w' p t n j) => Lib.hid (at_any p n j _ _ t w' h' h1)
            have SM := fun w' (h' : RollOn w' p t n j) => Lib.hid (sumR_any p n j _ _ t w' h' h1 (lo_lt (win t n j)) (hi_lt (win t n j)))
            have RS := fun w' => Lib.hid (refSum_any (win t n j) w' (by rw [win_length _ _ _ hJ]; omega))
            obtain ⟨e9, he9⟩ : ∃ e9, j + n = e9 := ⟨_, rfl⟩
            have E : (⟨t.toArray⟩ : ByteArray).extract j e9 = ⟨(win t n j).toArray⟩ := by rw [slice_toArray, ← he9]; rfl
            have W9 : IntKind.i64.wrap ((j : Int) + z) = (e9 : Int) := by rw [HZ.out, IntKind.wrap_i64]; omega
            have i0 : (0 : Int) ≤ (j : Int) := by omega
            have i1 : (j : Int) ≤ (e9 : Int) := by omega
            have i2 : (e9 : Int) ≤ (t.length : Int) := by omega
            rw [wk_def] at SM
            generalize wk (win t n j) = sum at *
            have q1 : ((j : Int) != (j : Int)) = false := by simp
            have q2 : ((sum : Int) != (sum : Int)) = false := by simp
            clear he9
            go_wp2
            go_region_held3 (fun w' => Hid (On p t n j w w'))
              (first | assumption | exact Lib.hid (On.drew (Hid.out (by assumption))) | exact Lib.hid (by assumption) | exact Lib.hid (On.drewN (Hid.out (by assumption)) _))
              (first
                | (go_at_call 19; refine (AT _ (On.roll (Hid.out (by assumption)))).out.mono ?_; rintro e w' ⟨rfl, rfl⟩)
                | (go_at_call 20; refine (SM _ (On.roll (Hid.out (by assumption)))).out.mono ?_; rintro e w' ⟨rfl, bb⟩; have hh := Lib.hid (On.grow (Hid.out (by assumption)) bb))
                | (go_at_call 13; refine (RS _).out.mono ?_; rintro e w' ⟨rfl, rfl⟩))
            all_goals
              go_wp2
              go_roundw
              case rel => exact ⟨j, i + 1, by omega, by omega, rfl, by go_num, Hid.out (by assumption)⟩
              case measure => simp [intOf]; omega
          · have hend : k + n = t.length := by omega
            have NX := Lib.hid (next_end p n k t wr HON.out.roll h1 hend (by omega))
            have hJ : k + n ≤ t.length := by omega
            have g1 : ¬ (1 : Int) ≤ (d : Int) := by omega
            have GB := Lib.hid (decide_eq_false g1)
            clear hend hlt hkd
            go_wp2_with fail
            refine NX.out.mono ?_
            rintro e w3 ⟨rfl, m, rfl⟩
            have HJ := Lib.hid (HON.out.drewN m)
            generalize wr.drewN m = w3 at *
            clear NX hc HON
            have AT := fun w' (h' : RollOn w' p t n k) => Lib.hid (at_any p n k _ _ t w' h' h1)
            have SM := fun w' (h' : RollOn w' p t n k) => Lib.hid (sumR_any p n k _ _ t w' h' h1 (lo_lt (win t n k)) (hi_lt (win t n k)))
            have RS := fun w' => Lib.hid (refSum_any (win t n k) w' (by rw [win_length _ _ _ hJ]; omega))
            obtain ⟨e9, he9⟩ : ∃ e9, k + n = e9 := ⟨_, rfl⟩
            have E : (⟨t.toArray⟩ : ByteArray).extract k e9 = ⟨(win t n k).toArray⟩ := by rw [slice_toArray, ← he9]; rfl
            have W9 : IntKind.i64.wrap ((k : Int) + z) = (e9 : Int) := by rw [HZ.out, IntKind.wrap_i64]; omega
            have i0 : (0 : Int) ≤ (k : Int) := by omega
            have i1 : (k : Int) ≤ (e9 : Int) := by omega
            have i2 : (e9 : Int) ≤ (t.length : Int) := by omega
            rw [wk_def] at SM
            generalize wk (win t n k) = sum at *
            have q1 : ((k : Int) != (k : Int)) = false := by simp
            have q2 : ((sum : Int) != (sum : Int)) = false := by simp
            clear he9
            go_wp2
            rw [GB.out]
            go_region_held3 (fun w' => Hid (On p t n k w w'))
              (first | assumption | exact Lib.hid (On.drew (Hid.out (by assumption))) | exact Lib.hid (by assumption) | exact Lib.hid (On.drewN (Hid.out (by assumption)) _))
              (first
                | (go_at_call 19; refine (AT _ (On.roll (Hid.out (by assumption)))).out.mono ?_; rintro e w' ⟨rfl, rfl⟩)
                | (go_at_call 20; refine (SM _ (On.roll (Hid.out (by assumption)))).out.mono ?_; rintro e w' ⟨rfl, bb⟩; have hh := Lib.hid (On.grow (Hid.out (by assumption)) bb))
                | (go_at_call 13; refine (RS _).out.mono ?_; rintro e w' ⟨rfl, rfl⟩))
            all_goals
              go_wp2
              go_roundw
              case rel => exact ⟨k, i + 1, by omega, by omega, rfl, by go_num, Hid.out (by assumption)⟩
              case measure => simp [intOf]; omega
        · by_cases hfit : x ≤ (d : Int)
          · obtain ⟨y, hy⟩ : ∃ y : Nat, x = (y : Int) := ⟨x.toNat, by omega⟩
            obtain ⟨j, hj⟩ : ∃ j, k + y = j := ⟨_, rfl⟩
            have SK := Lib.hid (skip_ok p n k y x t wr HON.out.roll h1 hy (by omega) (by omega))
            rw [hj] at SK
            have wj : IntKind.i64.wrap ((k : Int) + x) = (j : Int) := by rw [IntKind.wrap_i64]; omega
            have hJ : j + n ≤ t.length := by omega
            clear hj hkd hy
            go_wp2_with fail
            refine SK.out.mono ?_
            rintro e w3 ⟨rfl, hr3, k3⟩
            have HJ := Lib.hid (On.mk hr3 (HON.out.below.trans (k3.below HON.out.below.size (fun j hj => by omega))))
            clear SK hr3 k3 hc HON
            have AT := fun w' (h' : RollOn w' p t n j) => Lib.hid (at_any p n j _ _ t w' h' h1)
            have SM := fun w' (h' : RollOn w' p t n j) => Lib.hid (sumR_any p n j _ _ t w' h' h1 (lo_lt (win t n j)) (hi_lt (win t n j)))
            have RS := fun w' => Lib.hid (refSum_any (win t n j) w' (by rw [win_length _ _ _ hJ]; omega))
            obtain ⟨e9, he9⟩ : ∃ e9, j + n = e9 := ⟨_, rfl⟩
            have E : (⟨t.toArray⟩ : ByteArray).extract j e9 = ⟨(win t n j).toArray⟩ := by rw [slice_toArray, ← he9]; rfl
            have W9 : IntKind.i64.wrap ((j : Int) + z) = (e9 : Int) := by rw [HZ.out, IntKind.wrap_i64]; omega
            have i0 : (0 : Int) ≤ (j : Int) := by omega
            have i1 : (j : Int) ≤ (e9 : Int) := by omega
            have i2 : (e9 : Int) ≤ (t.length : Int) := by omega
            rw [wk_def] at SM
            generalize wk (win t n j) = sum at *
            have q1 : ((j : Int) != (j : Int)) = false := by simp
            have q2 : ((sum : Int) != (sum : Int)) = false := by simp
            clear he9
            go_wp2
            go_region_held3 (fun w' => Hid (On p t n j w w'))
              (first | assumption | exact Lib.hid (On.drew (Hid.out (by assumption))) | exact Lib.hid (by assumption) | exact Lib.hid (On.drewN (Hid.out (by assumption)) _))
              (first
                | (go_at_call 19; refine (AT _ (On.roll (Hid.out (by assumption)))).out.mono ?_; rintro e w' ⟨rfl, rfl⟩)
                | (go_at_call 20; refine (SM _ (On.roll (Hid.out (by assumption)))).out.mono ?_; rintro e w' ⟨rfl, bb⟩; have hh := Lib.hid (On.grow (Hid.out (by assumption)) bb))
                | (go_at_call 13; refine (RS _).out.mono ?_; rintro e w' ⟨rfl, rfl⟩))
            all_goals
              go_wp2
              go_roundw
              case rel => exact ⟨j, i + 1, by omega, by omega, rfl, by go_num, Hid.out (by assumption)⟩
              case measure => simp [intOf]; omega
          · have SK := Lib.hid (skip_far p n k x t wr HON.out.roll h1 (by omega) (by omega) (by omega))
            have hJ : k + n ≤ t.length := by omega
            have GB := Lib.hid (decide_eq_false hfit)
            clear hkd
            go_wp2_with fail
            refine SK.out.mono ?_
            rintro e w3 ⟨rfl, m, rfl⟩
            have HJ := Lib.hid (HON.out.drewN m)
            generalize wr.drewN m = w3 at *
            clear SK hc HON
            have AT := fun w' (h' : RollOn w' p t n k) => Lib.hid (at_any p n k _ _ t w' h' h1)
            have SM := fun w' (h' : RollOn w' p t n k) => Lib.hid (sumR_any p n k _ _ t w' h' h1 (lo_lt (win t n k)) (hi_lt (win t n k)))
            have RS := fun w' => Lib.hid (refSum_any (win t n k) w' (by rw [win_length _ _ _ hJ]; omega))
            obtain ⟨e9, he9⟩ : ∃ e9, k + n = e9 := ⟨_, rfl⟩
            have E : (⟨t.toArray⟩ : ByteArray).extract k e9 = ⟨(win t n k).toArray⟩ := by rw [slice_toArray, ← he9]; rfl
            have W9 : IntKind.i64.wrap ((k : Int) + z) = (e9 : Int) := by rw [HZ.out, IntKind.wrap_i64]; omega
            have i0 : (0 : Int) ≤ (k : Int) := by omega
            have i1 : (k : Int) ≤ (e9 : Int) := by omega
            have i2 : (e9 : Int) ≤ (t.length : Int) := by omega
            rw [wk_def] at SM
            generalize wk (win t n k) = sum at *
            have q1 : ((k : Int) != (k : Int)) = false := by simp
            have q2 : ((sum : Int) != (sum : Int)) = false := by simp
            clear he9
            go_wp2
            rw [GB.out]
            go_region_held3 (fun w' => Hid (On p t n k w w'))
              (first | assumption | exact Lib.hid (On.drew (Hid.out (by assumption))) | exact Lib.hid (by assumption) | exact Lib.hid (On.drewN (Hid.out (by assumption)) _))
              (first
                | (go_at_call 19; refine (AT _ (On.roll (Hid.out (by assumption)))).out.mono ?_; rintro e w' ⟨rfl, rfl⟩)
                | (go_at_call 20; refine (SM _ (On.roll (Hid.out (by assumption)))).out.mono ?_; rintro e w' ⟨rfl, bb⟩; have hh := Lib.hid (On.grow (Hid.out (by assumption)) bb))
                | (go_at_call 13; refine (RS _).out.mono ?_; rintro e w' ⟨rfl, rfl⟩))
            all_goals
              go_wp2
              go_roundw
              case rel => exact ⟨k, i + 1, by omega, by omega, rfl, by go_num, Hid.out (by assumption)⟩
              case measure => simp [intOf]; omega
      · have gi : ¬ (i : Int) < (xs.length : Int) := by omega
        clear hix
        have SN := Lib.hid (skip_neg p n k (-1) t wr HON.out.roll h1 (by decide))
        have AT := Lib.hid (at_any p n k _ _ t wr HON.out.roll h1)
        have q1 : ((k : Int) == (k : Int)) = true := by simp
        have B := Lib.hid HON.out.below
        clear HON
        go_wp2_with fail
        refine SN.out.mono ?_
        rintro e w' ⟨rfl, rfl⟩
        go_wp2_with fail
        refine AT.out.mono ?_
        rintro e w' ⟨rfl, rfl⟩
        go_wp2_with fail
        refine (AW _).out.mono ?_
        rintro e w4 ⟨rfl, b4⟩
        go_wp2
        go_ret
        exact ⟨rfl, B.out.trans (b4.mono B.out.size)⟩
    · have hi0 : i = 60 := by omega
      have gi : ¬ (i : Int) < 60 := by omega
      by_cases hix : i < xs.length
      · have gx : (i : Int) < (xs.length : Int) := by omega
        clear hix hi60 hi0
        have SN := Lib.hid (skip_neg p n k (-1) t wr HON.out.roll h1 (by decide))
        have AT := Lib.hid (at_any p n k _ _ t wr HON.out.roll h1)
        have q1 : ((k : Int) == (k : Int)) = true := by simp
        have B := Lib.hid HON.out.below
        clear HON
        go_wp2_with fail
        refine SN.out.mono ?_
        rintro e w' ⟨rfl, rfl⟩
        go_wp2_with fail
        refine AT.out.mono ?_
        rintro e w' ⟨rfl, rfl⟩
        go_wp2_with fail
        refine (AW _).out.mono ?_
        rintro e w4 ⟨rfl, b4⟩
        go_wp2
        go_ret
        exact ⟨rfl, B.out.trans (b4.mono B.out.size)⟩
      · have gx : ¬ (i : Int) < (xs.length : Int) := by omega
        clear hix hi60 hi0
        have SN := Lib.hid (skip_neg p n k (-1) t wr HON.out.roll h1 (by decide))
        have AT := Lib.hid (at_any p n k _ _ t wr HON.out.roll h1)
        have q1 : ((k : Int) == (k : Int)) = true := by simp
        have B := Lib.hid HON.out.below
        clear HON
        go_wp2_with fail
        refine SN.out.mono ?_
        rintro e w' ⟨rfl, rfl⟩
        go_wp2_with fail
        refine AT.out.mono ?_
        rintro e w' ⟨rfl, rfl⟩
        go_wp2_with fail
        refine (AW _).out.mono ?_
        rintro e w4 ⟨rfl, b4⟩
        go_wp2
        go_ret
        exact ⟨rfl, B.out.trans (b4.mono B.out.size)⟩
theorem rollWindows_walk (s : List UInt8) (hs : s.length ≤ 140737488351232) (z : Int) (h1 : -9223372036854775808 ≤ z) (h2 : z ≤ 9223372036854775807) (v : Value) (xs : List Int) (w : World) (hrow : Row (Value.int .i64) (· < w.heap.size) w v xs) (hx : xs.length * 8 ≤ 140737488351232) :
    Calls Try.prog 6 #[.string ⟨s.toArray⟩, .int .i64 z, v] w fun e w' => e = .returned (.bool true) ∧ Below w.heap.size w w' := by
  have CUT := fun w => Lib.hid (cut_any s 2000 w (by decide) hs)
  have ht : (s.take 2000).length ≤ 2000 := by rw [List.length_take]; omega
  by_cases hz : z < 1 ∨ z > 1024
  · exact windows_arg s _ v z w CUT hz
  · obtain ⟨n, hn⟩ : ∃ n : Nat, z = (n : Int) := ⟨z.toNat, by omega⟩
    by_cases hl : (s.take 2000).length < n
    · exact windows_short s _ v z n w CUT hn (by omega) (by omega) hl
    · exact windows_some s _ v xs z n w CUT ht hn (by omega) (by omega) (by omega) hrow
end Go.Proofs.Ytmpoflnigenilaa

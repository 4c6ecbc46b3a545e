/- The walk of the law RollEnds. -/
import Derived.Test.YtmpoflnigenilaaGo2W
import Derived.Deep.RegionHeld3
set_option linter.unusedVariables false
namespace Go.Proofs.Ytmpoflnigenilaa
open Go.RowKit

/-- A window stands, and what was there before stands as it was. -/
structure On (p : Nat) (l : List UInt8) (n k : Nat) (W w : World) : Prop where
  roll : RollOn w p l n k
  below : Below W.heap.size W w
theorem On.drewN {p n k : Nat} {l : List UInt8} {W w : World} (h : On p l n k W w) (m : Nat) : On p l n k W (w.drewN m) := ⟨h.roll, Below_drewN h.below m⟩
theorem On.drew {p n k : Nat} {l : List UInt8} {W w : World} (h : On p l n k W w) : On p l n k W w.drew := ⟨h.roll, Below_drew h.below⟩
theorem On.grow {p n k : Nat} {l : List UInt8} {W w w' : World} (h : On p l n k W w) (b : Below w.heap.size w w') : On p l n k W w' := ⟨h.roll.kept (M := fun _ => False) (Kept.new b _) (fun h => h), h.below.trans (b.mono h.below.size)⟩

set_option maxRecDepth 100000 in
set_option maxHeartbeats 2000000 in
theorem rollEnds_none (s t : List UInt8) (z : Int) (e0 : Int) (w : World) (CUT : ∀ w', Hid (Calls Try.prog 11 #[.string ⟨s.toArray⟩, .int .i64 2000] w' fun e w'' => e = .returned (.string ⟨t.toArray⟩) ∧ w' = w'')) (he : (e0 != 0) = true)
    (NEW : ∀ w', Hid (Calls Try.prog 16 #[.string ⟨t.toArray⟩, .int .i64 z] w' fun e w'' => e = .returned (.tuple #[.pointer none, .int .i64 e0]) ∧ Below w'.heap.size w' w'')) :
    Calls Try.prog 9 #[.string ⟨s.toArray⟩, .int .i64 z] w fun e w' => e = .returned (.bool true) ∧ Below w.heap.size w w' := by
  go_enter Try.func9, Try.ntmps9
  go_wp2_with fail
  refine (CUT _).out.mono ?_
  rintro e w' ⟨rfl, rfl⟩
  go_wp2_with fail
  refine (NEW _).out.mono ?_
  rintro e w1 ⟨rfl, b1⟩
  go_wp2_with fail
  refine (awake_any _).mono ?_
  rintro e w2 ⟨rfl, hb2⟩
  go_wp2
  go_ret
  exact ⟨rfl, below2 b1 hb2⟩

set_option maxRecDepth 100000 in
set_option maxHeartbeats 2000000 in
theorem rollEnds_some (s t : List UInt8) (z : Int) (n : Nat) (w : World) (CUT : ∀ w', Hid (Calls Try.prog 11 #[.string ⟨s.toArray⟩, .int .i64 2000] w' fun e w'' => e = .returned (.string ⟨t.toArray⟩) ∧ w' = w'')) (ht : t.length ≤ 2000)
    (hz : z = (n : Int)) (h1 : 1 ≤ n) (h2 : n ≤ 1024) (h3 : n ≤ t.length) :
    Calls Try.prog 9 #[.string ⟨s.toArray⟩, .int .i64 z] w fun e w' => e = .returned (.bool true) ∧ Below w.heap.size w w' := by
  have L := Lib.hid (show (⟨t.toArray⟩ : ByteArray).size = t.length from rfl)
  have NEW := fun w' => Lib.hid (new_ok t n w' h1 h2 h3 (by omega))
  rw [← hz] at NEW
  have HZ := Lib.hid hz; clear hz
  go_enter Try.func9, Try.ntmps9
  go_wp2_with fail
  refine (CUT _).out.mono ?_
  rintro e w' ⟨rfl, rfl⟩
  go_wp2_with fail
  refine (NEW _).out.mono ?_
  rintro e w1 ⟨p, rfl, hr, hp, b1⟩
  have H1 := Lib.hid (On.mk hr b1)
  clear NEW CUT hr b1
  go_wp2
  go_loopw [7] (fun i wr => ∃ k : Nat, k + n ≤ t.length ∧ i = .int .i64 k ∧ On p t n k w wr) (fun i _ => t.length - (intOf i).toNat)
  case atStart => exact ⟨0, by omega, rfl, H1.out⟩
  case round =>
    obtain ⟨k, hk, rfl, hon⟩ := hrel
    have HON := Lib.hid hon; clear hon
    have hk2 : k ≤ 2000 := by omega
    by_cases hlt : k + n < t.length
    · have NX := Lib.hid (next_step p n k t wr HON.out.roll h1 h2 hlt (by omega))
      go_wp2_with fail
      refine NX.out.mono ?_
      rintro e w3 ⟨rfl, hr3, k3⟩
      have b3 := k3.below HON.out.below.size (fun j hj => by omega)
      go_wp2
      go_roundw
      case rel => exact ⟨k + 1, by omega, by go_num, ⟨hr3, HON.out.below.trans b3⟩⟩
      case measure => simp [intOf]; omega
    · have hend : k + n = t.length := by omega
      have NX := fun w' (h' : RollOn w' p t n k) => Lib.hid (next_end p n k t w' h' h1 hend (by omega))
      have AT := fun w' (h' : RollOn w' p t n k) => Lib.hid (at_any p n k _ _ t w' h' h1)
      have SM := fun w' (h' : RollOn w' p t n k) => Lib.hid (sumR_any p n k _ _ t w' h' h1 (lo_lt (win t n k)) (hi_lt (win t n k)))
      have RS := fun w' => Lib.hid (refSum_any (t.drop k) w' (by rw [List.length_drop]; omega))
      have E := drop_toArray t k t.length (Nat.le_refl _)
      have AW := fun w' => Lib.hid (awake_any w')
      rw [show lo (win t n k) + 65536 * hi (win t n k) = wk (win t n k) from rfl, win_self t n k hend] at SM
      generalize wk (t.drop k) = sum at *
      have wzk : IntKind.i64.wrap ((t.length : Int) - z) = (k : Int) := by rw [HZ.out, IntKind.wrap_i64]; omega
      have i0 : (0 : Int) ≤ (k : Int) := by omega
      have i1 : (k : Int) ≤ (t.length : Int) := by omega
      have q1 : ((k : Int) == (k : Int)) = true := by simp
      have q2 : ((sum : Int) == (sum : Int)) = true := by simp
      have NX1 := NX _ HON.out.roll
      clear hend hlt
      go_wp2_with fail
      refine NX1.out.mono ?_
      rintro e w3 ⟨rfl, m, rfl⟩
      have H3 := Lib.hid (HON.out.drewN m)
      generalize wr.drewN m = w3 at *
      clear NX1 HON H1
      go_wp2
      go_region_held3 (fun w' => Hid (On p t n k w w'))
        (first | assumption | exact Lib.hid (On.drew (Hid.out (by assumption))) | exact Lib.hid (by assumption) | exact Lib.hid (On.drewN (Hid.out (by assumption)) _))
        (first
          | (go_at_call 19; refine (AT _ (On.roll (Hid.out (by assumption)))).out.mono ?_; rintro e w' ⟨rfl, rfl⟩)
          | (go_at_call 17; refine (NX _ (On.roll (Hid.out (by assumption)))).out.mono ?_; rintro e w' ⟨rfl, mm, rfl⟩)
          | (go_at_call 20; refine (SM _ (On.roll (Hid.out (by assumption)))).out.mono ?_; rintro e w' ⟨rfl, bb⟩; have hh := Lib.hid (On.grow (Hid.out (by assumption)) bb))
          | (go_at_call 13; refine (RS _).out.mono ?_; rintro e w' ⟨rfl, rfl⟩)
          | (go_at_call 14; refine (AW _).out.mono ?_; rintro e w' ⟨rfl, bb⟩; have hh := Lib.hid (On.grow (Hid.out (by assumption)) bb)))
      all_goals (go_wp2; go_ret; exact ⟨rfl, (Hid.out (by assumption) : On p t n k w _).below⟩)
theorem rollEnds_walk (s : List UInt8) (hs : s.length ≤ 140737488351232) (z : Int) (h1 : -9223372036854775808 ≤ z) (h2 : z ≤ 9223372036854775807) (w : World) :
    Calls Try.prog 9 #[.string ⟨s.toArray⟩, .int .i64 z] w fun e w' => e = .returned (.bool true) ∧ Below w.heap.size w w' := by
  have CUT := fun w => Lib.hid (cut_any s 2000 w (by decide) hs)
  have ht : (s.take 2000).length ≤ 2000 := by rw [List.length_take]; omega
  by_cases hz : z < 1 ∨ z > 1024
  · exact rollEnds_none s _ z 1 w CUT rfl (fun w' => Lib.hid ((new_arg _ z w' hz).mono (fun e w2 ⟨he, hw⟩ => ⟨he, hw ▸ Below.refl _ _⟩)))
  · obtain ⟨n, hn⟩ : ∃ n : Nat, z = (n : Int) := ⟨z.toNat, by omega⟩
    by_cases hl : (s.take 2000).length < n
    · exact rollEnds_none s _ z 3 w CUT rfl (fun w' => Lib.hid (hn ▸ new_short _ n w' (by omega) (by omega) hl))
    · exact rollEnds_some s _ z n w CUT ht hn (by omega) (by omega) (by omega)
end Go.Proofs.Ytmpoflnigenilaa

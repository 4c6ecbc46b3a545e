/- The library's stable sort of numbers, walked: stable, SortStableFunc. -/
import Derived.Test.YtpkgjokehgihjaaGreatFrame
import Derived.Test.YtpkgjokehgihjaaGreatGen
import Derived.Test.YtpkgjokehgihjaaGreatOwnL
import Derived.Test.YtpkgjokehgihjaaGreatProg
import Derived.Test.YtpkgjokehgihjaaGreatSortX
import Derived.Test.YtpkgjokehgihjaaGreatSortEW
import Derived.Deep.QuietTactic
set_option linter.unusedVariables false
namespace Go.Proofs.YtpkgjokehgihjaaGreat
open Go.RowKit

/-- A piece is sorted and holds its own numbers. -/
structure OK1 (cv : Nat → Nat → Int) (e : Nat → Nat) (x y : Nat) : Prop where
  s : Sorted (ltOf cv) e x y
  o : ∀ k, x ≤ k → k < y → x ≤ e k ∧ e k < y
/-- The pieces of z that begin below A are so. -/
def Done (cv : Nat → Nat → Int) (z A N : Nat) (e : Nat → Nat) : Prop := ∀ x, z ∣ x → x < A → OK1 cv e x (min (x + z) N)
theorem OK1.congr {cv : Nat → Nat → Int} {e e' : Nat → Nat} {x y : Nat} (h : OK1 cv e x y) (he : ∀ k, x ≤ k → k < y → e' k = e k) : OK1 cv e' x y :=
  ⟨h.s.congr he, fun k h1 h2 => by rw [he k h1 h2]; exact h.o k h1 h2⟩
theorem OK1.merged {cv : Nat → Nat → Int} {e e' : Nat → Nat} {x y : Nat} (h : Merged (ltOf cv) e x y e') (ho : ∀ k, x ≤ k → k < y → x ≤ e k ∧ e k < y) : OK1 cv e' x y := by
  refine ⟨h.sorted, fun k h1 h2 => ?_⟩
  obtain ⟨k', g1, g2, g3⟩ := h.mem h1 h2
  rw [← g3]
  exact ho k' g1 g2
theorem dvd_gap {z x A : Nat} (hz : 0 < z) (hx : z ∣ x) (hA : z ∣ A) (h : x < A) : x + z ≤ A := by
  obtain ⟨p, rfl⟩ := hx
  obtain ⟨q, rfl⟩ := hA
  have : p < q := Nat.lt_of_mul_lt_mul_left h
  have h2 : z * (p + 1) ≤ z * q := Nat.mul_le_mul_left z this
  rw [Nat.mul_succ] at h2
  exact h2
theorem Done.step {cv : Nat → Nat → Int} {e e' : Nat → Nat} {z A N : Nat} (hz : 0 < z) (hA : z ∣ A) (h : Done cv z A N e) (hoff : ∀ k, k < A → e' k = e k) (hok : A < N → OK1 cv e' A (min (A + z) N)) (B : Nat) (hB : B ≤ A + z) (hBN : B ≤ N) : Done cv z B N e' := by
  intro x hx hlt
  by_cases c : x < A
  · have := dvd_gap hz hx hA c
    exact (h x hx c).congr (fun k h1 h2 => hoff k (by omega))
  · by_cases e : x = A
    · rw [e]; exact hok (by omega)
    · have := dvd_gap hz hA hx (by omega)
      omega
theorem Done.lt {cv : Nat → Nat → Int} {e : Nat → Nat} {z N : Nat} (hz : 0 < z) (h : Done cv z N N e) : ∀ k, k < N → e k < N := by
  intro k hk
  have h1 : k / z * z ≤ k := Nat.div_mul_le_self k z
  have h2 : k < k / z * z + z := by
    have := Nat.lt_div_mul_add hz (a := k)
    omega
  have := (h (k / z * z) ⟨k / z, Nat.mul_comm _ _⟩ (by omega)).o k h1 (by omega)
  omega
theorem Merged.perm_in {lt : Nat → Nat → Bool} {d e : Nat → Nat} {x y N : Nat} (h : Merged lt d x y e) (h1 : x ≤ y) (h2 : y ≤ N) : (seg e 0 N).Perm (seg d 0 N) := by
  rw [seg_append e (Nat.zero_le x) (show x ≤ N by omega), seg_append d (Nat.zero_le x) (show x ≤ N by omega)]
  have e1 : seg e 0 x = seg d 0 x := seg_congr (fun t _ ht => h.off t (.inl ht))
  rw [e1]
  exact (h.perm_wide h1 h2).append_left _
/-- The first pieces: what is still ahead is as it was. -/
structure Fst (cv : Nat → Nat → Int) (A N : Nat) (d e : Nat → Nat) : Prop where
  done : Done cv 20 A N e
  off : ∀ k, A ≤ k → k < N → e k = k
  perm : (seg e 0 N).Perm (seg d 0 N)
  all : ∀ k, k < N → e k < N
theorem Fst.step {cv : Nat → Nat → Int} {A N B : Nat} {d e e' : Nat → Nat} (h : Fst cv A N d e) (hA : 20 ∣ A) (hAN : A ≤ N) (hB : B = min (A + 20) N) (hm : Merged (ltOf cv) e A B e') : Fst cv B N d e' := by
  have hok : OK1 cv e' A B := OK1.merged hm (fun k h1 h2 => by rw [h.off k h1 (by omega)]; omega)
  refine ⟨h.done.step (by decide) hA (fun k hk => hm.off k (.inl hk)) (fun _ => by rw [← hB]; exact hok) B (by omega) (by omega), fun k h1 h2 => by rw [hm.off k (.inr h1), h.off k (by omega) h2], (hm.perm_in (by omega) (by omega)).trans h.perm, fun k hk => ?_⟩
  by_cases c : A ≤ k ∧ k < B
  · have := hok.o k c.1 c.2; omega
  · rw [hm.off k (by omega)]; exact h.all k hk
/-- Pieces of z two by two. -/
structure Snd (cv : Nat → Nat → Int) (z A N : Nat) (d e : Nat → Nat) : Prop where
  done : Done cv (2 * z) A N e
  still : ∀ x, z ∣ x → A ≤ x → x < N → OK1 cv e x (min (x + z) N)
  perm : (seg e 0 N).Perm (seg d 0 N)
  all : ∀ k, k < N → e k < N
theorem Snd.start {cv : Nat → Nat → Int} {z N : Nat} {d e : Nat → Nat} (h : Done cv z N N e) (hz : 0 < z) (hp : (seg e 0 N).Perm (seg d 0 N)) : Snd cv z 0 N d e :=
  ⟨fun x _ h => by omega, fun x hx _ hlt => h x hx hlt, hp, h.lt hz⟩
theorem Snd.sym {f : Nat} {cb : Array Value} {cv : Nat → Nat → Int} {z A N B g : Nat} {d e : Nat → Nat} {w : World} (h : Snd cv z A N d e) (hz : 0 < z) (hA : 2 * z ∣ A) (hm : A + z < N) (hB : B = min (A + 2 * z) N) (hc : CmpI f cb cv N g w) (hi : IR w g N e) : SymIn f cb cv e N g A (A + z) B w := by
  have hA' : z ∣ A := Nat.dvd_trans ⟨2, Nat.mul_comm 2 z⟩ hA
  have h1 := h.still A hA' (Nat.le_refl _) (by omega)
  have h2 := h.still (A + z) ((Nat.dvd_add_iff_right hA').1 (Nat.dvd_refl z)) (by omega) hm
  rw [show min (A + z) N = A + z by omega] at h1
  rw [show min (A + z + z) N = B by omega] at h2
  exact ⟨hc, hi, h.all, h1.s, h2.s, fun i j k1 k2 k3 k4 => by have := h1.o i k1 k2; have := h2.o j k3 k4; omega, by omega, by omega, by omega⟩
theorem Snd.step {cv : Nat → Nat → Int} {z A N B : Nat} {d e e' : Nat → Nat} (h : Snd cv z A N d e) (hz : 0 < z) (hA : 2 * z ∣ A) (hAN : A ≤ N) (hB : B = min (A + 2 * z) N) (hm : Merged (ltOf cv) e A B e') : Snd cv z B N d e' := by
  have hA' : z ∣ A := Nat.dvd_trans ⟨2, Nat.mul_comm 2 z⟩ hA
  have ho : ∀ k, A ≤ k → k < B → A ≤ e k ∧ e k < B := fun k k1 k2 => by
    by_cases c : k < A + z
    · have := (h.still A hA' (Nat.le_refl _) (by omega)).o k k1 (by omega)
      omega
    · have := (h.still (A + z) ((Nat.dvd_add_iff_right hA').1 (Nat.dvd_refl z)) (by omega) (by omega)).o k (by omega) (by omega)
      omega
  have hok : OK1 cv e' A B := OK1.merged hm ho
  refine ⟨h.done.step (by omega) hA (fun k hk => hm.off k (.inl hk)) (fun _ => by rw [← hB]; exact hok) B (by omega) (by omega), fun x hx k1 k2 => (h.still x hx (by omega) k2).congr (fun k k3 k4 => hm.off k (.inr (by omega))), (hm.perm_in (by omega) (by omega)).trans h.perm, fun k hk => ?_⟩
  by_cases c : A ≤ k ∧ k < B
  · have := hok.o k c.1 c.2; omega
  · rw [hm.off k (by omega)]; exact h.all k hk
theorem Snd.last {cv : Nat → Nat → Int} {z A N : Nat} {d e : Nat → Nat} (h : Snd cv z A N d e) (hz : 0 < z) (hA : 2 * z ∣ A) (hAN : A ≤ N) (hN : N ≤ A + z) : Done cv (2 * z) N N e := by
  have hA' : z ∣ A := Nat.dvd_trans ⟨2, Nat.mul_comm 2 z⟩ hA
  refine h.done.step (by omega) hA (fun _ _ => rfl) (fun hlt => ?_) N (by omega) (Nat.le_refl _)
  have := h.still A hA' (Nat.le_refl _) hlt
  rwa [show min (A + z) N = min (A + 2 * z) N by omega] at this
/-- What the sort leaves. -/
def StablePost (cv : Nat → Nat → Int) (d : Nat → Nat) (g N : Nat) (w : World) (e : Ending) (w' : World) : Prop :=
  e = .returned (.tuple #[]) ∧ ∃ d', Sorted (ltOf cv) d' 0 N ∧ (seg d' 0 N).Perm (seg d 0 N) ∧ IR w' g N d' ∧ Kept (· = g) w w'

set_option maxRecDepth 100000 in
set_option maxHeartbeats 4000000 in
theorem stable_any (f : Nat) (cb : Array Value) (cv : Nat → Nat → Int) (H : SWo (ltOf cv)) (d : Nat → Nat) (N g c : Nat) (w : World) (hc : CmpI f cb cv N g w) (h : IR w g N d) (hd : ∀ k, k < N → d k = k) (hN : N ≤ 1000000) :
    Calls Tryz.prog 82 #[.slice (some ⟨g, 0, none⟩) N c, .int .i64 N, .func (.func f) #[] cb] w (StablePost cv d g N w) := by
  have H0 := Lib.hid h; clear h
  have CM := Lib.hid hc; clear hc
  have F0 := Lib.hid (show Fst cv 0 N d d from ⟨fun x _ h => by omega, fun k _ h => hd k h, List.Perm.refl _, fun k hk => by rw [hd k hk]; exact hk⟩)
  clear hd
  have INS := Lib.hid (fun (e : Nat → Nat) (A B : Nat) (W : World) (hk : Kept (· = g) w W) (hi : IR W g N e) (hF : Fst cv A N d e) (h1 : A ≤ B) (h2 : B ≤ N) => insertion_any f cb cv H e N g A B c W (CM.out.on hk) hi hF.all (fun i j k1 k2 k3 => by rw [hF.off i k1 (by omega), hF.off j (by omega) (by omega)]; exact k2) h1 h2 hN)
  have SYM := Lib.hid (fun (e : Nat → Nat) (z A B : Nat) (W : World) (hk : Kept (· = g) w W) (hi : IR W g N e) (hS : Snd cv z A N d e) (hz : 0 < z) (hA : 2 * z ∣ A) (hm : A + z < N) (hB : B = min (A + 2 * z) N) => symMerge_any (B - A) f cb cv H N g c hN e A (A + z) B W (Nat.le_refl _) (hS.sym hz hA hm hB (CM.out.on hk) hi))
  clear H
  go_enter Tryz.func82, Tryz.ntmps82
  go_wp2_with fail
  go_loopw [7, 8] (fun u v wr => ∃ (A : Nat) (e : Nat → Nat), u = .int .i64 A ∧ v = .int .i64 (A + 20 : Nat) ∧ 20 ∣ A ∧ A ≤ N ∧ IR wr g N e ∧ Kept (· = g) w wr ∧ Hid (Fst cv A N d e)) (fun u _ _ => N - (intOf u).toNat)
  case atStart => exact ⟨0, d, rfl, rfl, ⟨0, rfl⟩, by omega, H0.out, Kept.refl _ _, F0⟩
  case round =>
    obtain ⟨A, e, rfl, rfl, hA, hAN, hir, hkp, HF⟩ := hrel
    have HI := Lib.hid hir; clear hir
    have HK := Lib.hid hkp; clear hkp
    have HA := Lib.hid hA; clear hA
    by_cases hlt : A + 20 ≤ N
    · have IN := Lib.hid (INS.out e A (A + 20) wr HK.out HI.out HF.out (by omega) hlt)
      have i1 : ((A + 20 : Nat) : Int) ≤ (N : Int) := by omega
      have i2 : (A : Int) + 20 ≤ (N : Int) := by omega
      go_wp2_with fail
      refine IN.out.mono ?_
      rintro e1 w1 ⟨rfl, e', hm, hi, hk⟩
      have HF2 := Lib.hid (HF.out.step HA.out hAN (by omega) hm)
      have HI2 := Lib.hid hi; clear hi
      have HK2 := Lib.hid (HK.out.trans hk); clear hk hm
      go_wp2_with fail
      go_roundw
      case rel => exact ⟨A + 20, e', by go_num, by go_num, Nat.dvd_add HA.out ⟨1, rfl⟩, hlt, HI2.out, HK2.out, HF2⟩
      case measure => simp [intOf]; omega
    · have IN := Lib.hid (INS.out e A N wr HK.out HI.out HF.out hAN (Nat.le_refl _))
      have i1 : ¬ ((A + 20 : Nat) : Int) ≤ (N : Int) := by omega
      have i2 : ¬ (A : Int) + 20 ≤ (N : Int) := by omega
      go_wp2_with fail
      refine IN.out.mono ?_
      rintro e1 w1 ⟨rfl, e', hm, hi, hk⟩
      have HF2 := Lib.hid (HF.out.step HA.out hAN (by omega) hm)
      have HI2 := Lib.hid hi; clear hi
      have HK2 := Lib.hid (HK.out.trans hk); clear hk hm
      go_wp2_with fail
      have HD0 := Lib.hid HF2.out.done
      have HP0 := Lib.hid HF2.out.perm
      clear HF2 HI HK HF HA IN
      go_loopw [6, 7, 8, 9] (fun z x y m wr => ∃ (s : Nat) (e : Nat → Nat), z = .int .i64 s ∧ 0 < s ∧ s ≤ N + N + 20 ∧ IR wr g N e ∧ Kept (· = g) w wr ∧ Hid (Done cv s N N e) ∧ Hid ((seg e 0 N).Perm (seg d 0 N))) (fun z _ _ _ _ => N - (intOf z).toNat)
      case atStart => exact ⟨20, e', rfl, by decide, by omega, HI2.out, HK2.out, HD0, HP0⟩
      case round =>
        clear HD0 HP0 HI2 HK2
        obtain ⟨s, e2, rfl, hs0, hsN, hir, hkp, HD, HP⟩ := hrel
        have HI := Lib.hid hir; clear hir
        have HK := Lib.hid hkp; clear hkp
        by_cases hlt2 : s < N
        · have HS0 := Lib.hid (Snd.start HD.out hs0 HP.out)
          clear HD HP
          have i1' : (s : Int) < (N : Int) := by omega
          obtain ⟨s2, hs2⟩ : ∃ s2, s2 = 2 * s := ⟨_, rfl⟩
          have E1 : 2 * (s : Int) = (s2 : Int) := by omega
          have E2 : (s : Int) * 2 = (s2 : Int) := by omega
          have hs3 : s2 = s + s := by omega
          have HS2 := Lib.hid hs2; clear hs2
          have HS3 := Lib.hid hs3; clear hs3
          have hs2N : s2 ≤ N + N := by have := HS3.out; omega
          have hs20 : s < s2 := by have := HS3.out; omega
          obtain ⟨w0, hw0⟩ : ∃ w0, w0 = wr := ⟨_, rfl⟩
          rw [← hw0] at HI HK ⊢
          clear hw0 wr
          go_wp2_with fail
          go_loopw [7, 8] (fun u v wr => ∃ (A : Nat) (e : Nat → Nat), u = .int .i64 A ∧ v = .int .i64 (A + s2 : Nat) ∧ Hid (2 * s ∣ A) ∧ A ≤ N ∧ IR wr g N e ∧ Kept (· = g) w wr ∧ Hid (Snd cv s A N d e)) (fun u _ _ => N - (intOf u).toNat)
          case atStart => exact ⟨0, e2, rfl, by rw [Nat.zero_add], Lib.hid ⟨0, rfl⟩, by omega, HI.out, HK.out, HS0⟩
          case round =>
            clear HI HK HS0
            obtain ⟨A, e3, rfl, hv8, HA, hAN, hir, hkp, HF⟩ := hrel
            obtain ⟨B1, hB1⟩ : ∃ B1, B1 = A + s := ⟨_, rfl⟩
            obtain ⟨B2, hB2⟩ : ∃ B2, B2 = A + s2 := ⟨_, rfl⟩
            obtain ⟨B3, hB3⟩ : ∃ B3, B3 = B2 + s2 := ⟨_, rfl⟩
            rw [← hB2] at hv8
            subst hv8
            have HI := Lib.hid hir; clear hir
            have HK := Lib.hid hkp; clear hkp
            have F1 : (B2 : Int) + (s2 : Int) = (B3 : Int) := by omega
            have F2 : (A : Int) + (s : Int) = (B1 : Int) := by omega
            have W1 : IntKind.i64.wrap ((B2 : Int) + (s2 : Int)) = (B3 : Int) := by rw [IntWalk.i64_in _ (by omega), F1]
            have W2 : IntKind.i64.wrap ((A : Int) + (s : Int)) = (B1 : Int) := by rw [IntWalk.i64_in _ (by omega), F2]
            have HBS := Lib.hid (show B1 = A + s ∧ B2 = A + s2 ∧ B3 = B2 + s2 ∧ s2 = 2 * s from ⟨hB1, hB2, hB3, HS2.out⟩)
            have hb1 : B1 ≤ N + N := by have := HS2.out; omega
            have hb3 : B3 ≤ N + N + N + N + N := by omega
            have SY1 := Lib.hid (fun (h : B2 ≤ N) => SYM.out e3 s A B2 wr HK.out HI.out HF.out hs0 HA.out (by have := HBS.out; omega) (by have := HBS.out; omega))
            have SY2 := Lib.hid (fun (h : B1 < N) (h2 : N < B2) => SYM.out e3 s A N wr HK.out HI.out HF.out hs0 HA.out (by have := HBS.out; omega) (by have := HBS.out; omega))
            rw [← hB1] at SY1 SY2
            clear hB1 hB2 hB3
            by_cases hlt3 : B2 ≤ N
            · have SY := Lib.hid (SY1.out hlt3)
              have i2' : (B2 : Int) ≤ (N : Int) := by omega
              clear SY1 SY2
              go_wp2_with fail
              refine SY.out.mono ?_
              rintro e1 w1 ⟨rfl, e', hm, hi, hk⟩
              have HF2 := Lib.hid (HF.out.step hs0 HA.out hAN (by have := HBS.out; omega) hm)
              have HI2 := Lib.hid hi; clear hi
              have HK2 := Lib.hid (HK.out.trans hk); clear hk hm
              go_wp2_with fail
              go_roundw
              case rel => exact ⟨B2, e', rfl, by have := HBS.out; rw [show B3 = B2 + s2 by omega], Lib.hid (by have h := HBS.out; rw [h.2.1, h.2.2.2]; exact Nat.dvd_add HA.out (Nat.dvd_refl _)), hlt3, HI2.out, HK2.out, HF2⟩
              case measure => have := HBS.out; simp [intOf]; omega
            · have i2' : ¬ (B2 : Int) ≤ (N : Int) := by omega
              by_cases hlt4 : B1 < N
              · have SY := Lib.hid (SY2.out hlt4 (by omega))
                have i4' : (B1 : Int) < (N : Int) := by omega
                clear SY1 SY2
                go_wp2_with fail
                refine SY.out.mono ?_
                rintro e1 w1 ⟨rfl, e', hm, hi, hk⟩
                have HF2 := Lib.hid (HF.out.step hs0 HA.out hAN (by have := HBS.out; omega) hm)
                have HI2 := Lib.hid hi; clear hi
                have HK2 := Lib.hid (HK.out.trans hk); clear hk hm
                go_wp2_with fail
                go_roundw
                case rel => exact ⟨s2, e', rfl, by omega, by omega, HI2.out, HK2.out, Lib.hid (by rw [HBS.out.2.2.2]; exact HF2.out.done), Lib.hid HF2.out.perm⟩
                case measure => simp [intOf]; omega
              · have i4' : ¬ (B1 : Int) < (N : Int) := by omega
                have HF2 := Lib.hid (HF.out.last hs0 HA.out hAN (by have := HBS.out; omega))
                clear SY1 SY2
                go_wp2_with fail
                go_roundw
                case rel => exact ⟨s2, e3, rfl, by omega, by omega, HI.out, HK.out, Lib.hid (by rw [HBS.out.2.2.2]; exact HF2.out), Lib.hid HF.out.perm⟩
                case measure => simp [intOf]; omega
        · have i1' : ¬ (s : Int) < (N : Int) := by omega
          have HS := Lib.hid (show Sorted (ltOf cv) e2 0 N by
            by_cases c : 0 < N
            · have := (HD.out 0 ⟨0, rfl⟩ c).s
              rwa [show min (0 + s) N = N by omega] at this
            · intro i j h1 h2 h3; omega)
          go_wp2_with fail
          go_end0
          exact ⟨rfl, e2, HS.out, HP.out, HI.out, HK.out⟩

set_option maxRecDepth 100000 in
theorem sortStable_any (f : Nat) (cb : Array Value) (cv : Nat → Nat → Int) (H : SWo (ltOf cv)) (d : Nat → Nat) (N g c : Nat) (w : World) (hc : CmpI f cb cv N g w) (h : IR w g N d) (hd : ∀ k, k < N → d k = k) (hN : N ≤ 1000000) :
    Calls Tryz.prog 52 #[.slice (some ⟨g, 0, none⟩) N c, .func (.func f) #[] cb] w (StablePost cv d g N w) := by
  have ST := Lib.hid (stable_any f cb cv H d N g c w hc h hd hN)
  clear hc h hd H
  go_enter Tryz.func52, Tryz.ntmps52
  go_wp2_with fail
  refine ST.out.mono ?_
  rintro e w1 ⟨rfl, h⟩
  go_wp2_with fail
  go_end0
  exact ⟨rfl, h⟩
end Go.Proofs.YtpkgjokehgihjaaGreat

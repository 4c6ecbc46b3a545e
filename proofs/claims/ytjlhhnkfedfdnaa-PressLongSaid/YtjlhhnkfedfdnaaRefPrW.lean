/- Walks of the document's Press: alike, plain, Press. -/
import Derived.Test.YtjlhhnkfedfdnaaCodeMath
import Derived.Test.YtjlhhnkfedfdnaaGen
import Derived.Test.YtjlhhnkfedfdnaaMarkMath
import Derived.Test.YtjlhhnkfedfdnaaPressMath
import Derived.Test.YtjlhhnkfedfdnaaReadW
import Derived.Test.YtjlhhnkfedfdnaaRows
import Derived.Test.YtjlhhnkfedfdnaaText
import Derived.BigQuiet
import Derived.Deep.Cut
import Derived.Deep.DeepCutAuto
import Derived.IntWalk
import Derived.Lib.Hide
import Derived.Outline
import Derived.WalkKit
import Derived.WalkLawsBesides
import Derived.WalkSpells
set_option linter.unusedVariables false
namespace Go.Proofs.Ytjlhhnkfedfdnaa
open Go.RowKit

theorem alkF_go {s : Txt} {a b f : Nat} (h : b < s.length) (e : s[a]? = s[b]?) : alkF s a b (f + 1) = 1 + alkF s (a + 1) (b + 1) f := by
  show (if b < s.length ∧ s[a]? = s[b]? then _ else _) = _
  rw [if_pos ⟨h, e⟩]
theorem alkF_stop {s : Txt} {a b f : Nat} (h : ¬ (b < s.length ∧ s[a]? = s[b]?)) : alkF s a b f = 0 := by
  cases f with
  | zero => rfl
  | succ f => exact if_neg h
set_option maxRecDepth 100000 in
set_option maxHeartbeats 1000000 in
theorem refAlike_any (s : Txt) (a b : Nat) (w : World) (hs : s.length ≤ 1048576) (hab : a ≤ b) (hb : b ≤ s.length) :
    Calls Try.prog 25 #[.string ⟨s.toArray⟩, .int .i64 a, .int .i64 b] w fun e w' => e = .returned (.int .i64 (alk s a b : Nat)) ∧ Below w.heap.size w w' := by
  have SL := Lib.hid (show (⟨s.toArray⟩ : ByteArray).size = s.length from rfl)
  have HA := Lib.hid (show alkF s a b 259 = alk s a b from rfl)
  generalize hres : alk s a b = res at *
  clear hres
  go_enter Try.func25, Try.ntmps25
  go_wp2_with fail
  go_loopw [7] (fun i wr => ∃ k : Nat, k ≤ 259 ∧ b + k ≤ s.length ∧ i = .int .i64 k ∧ Hid (k + alkF s (a + k) (b + k) (259 - k) = res) ∧ Below w.heap.size w wr) (fun i _ => 259 - (intOf i).toNat)
  case atStart => exact ⟨0, by omega, by omega, rfl, Lib.hid (by rw [Nat.zero_add]; exact HA.out), Below.refl _ _⟩
  case round =>
    obtain ⟨k, hk, hbk, rfl, HF, hbel⟩ := hrel
    have HB := Lib.hid hbel
    clear hbel
    have i0 : (0 : Int) ≤ (k : Int) := by omega
    by_cases h1 : k < 259
    · have j1 : (k : Int) < 259 := by omega
      have W1 : IntKind.i64.wrap ((b : Int) + (k : Int)) = (b : Int) + (k : Int) := by rw [IntKind.wrap_i64]; omega
      have W2 : IntKind.i64.wrap ((a : Int) + (k : Int)) = (a : Int) + (k : Int) := by rw [IntKind.wrap_i64]; omega
      by_cases h2 : b + k < s.length
      · have j2 : (b : Int) + (k : Int) < (s.length : Int) := by omega
        have j3 : (a : Int) + (k : Int) < (s.length : Int) := by omega
        have j4 : (0 : Int) ≤ (b : Int) + (k : Int) := by omega
        have j5 : (0 : Int) ≤ (a : Int) + (k : Int) := by omega
        have t1 : ((b : Int) + (k : Int)).toNat = b + k := by omega
        have t2 : ((a : Int) + (k : Int)).toNat = a + k := by omega
        have hak : a + k < s.length := by omega
        by_cases h3 : s[a + k] = s[b + k]
        · have HN := Lib.hid (show k + 1 + alkF s (a + (k + 1)) (b + (k + 1)) (259 - (k + 1)) = res by
            rw [← HF.out, show 259 - k = (259 - (k + 1)) + 1 by omega, alkF_go h2 (by rw [List.getElem?_eq_getElem hak, List.getElem?_eq_getElem h2, h3])]
            rw [Nat.add_assoc a k 1, Nat.add_assoc b k 1]; omega)
          have hx : (⟨s.toArray⟩ : ByteArray)[a + k]'hak = (⟨s.toArray⟩ : ByteArray)[b + k]'h2 := h3
          have q0 : (((((⟨s.toArray⟩ : ByteArray)[a + k]'hak).toNat : Nat) : Int) == ((((⟨s.toArray⟩ : ByteArray)[b + k]'h2).toNat : Nat) : Int)) = true := by rw [hx]; simp
          clear hx
          clear HF h3
          go_upto_region 2 with fail
          go_quiet (fail)
          go_wp2_with fail
          go_roundw
          case rel => exact ⟨k + 1, by omega, by omega, by go_num, HN, Below_drewN HB.out nq⟩
          case measure => simp [intOf]; omega
        · have HN := Lib.hid (show k = res by
            rw [← HF.out, alkF_stop (by rw [List.getElem?_eq_getElem hak, List.getElem?_eq_getElem h2]; simp [h3])]; rfl)
          have q0 : (((((⟨s.toArray⟩ : ByteArray)[a + k]'hak).toNat : Nat) : Int) == ((((⟨s.toArray⟩ : ByteArray)[b + k]'h2).toNat : Nat) : Int)) = false := by
            rw [beq_eq_false_iff_ne]
            exact fun e => h3 (UInt8.toNat_inj.1 (Int.ofNat_inj.1 e))
          clear HF h3
          go_upto_region 2 with fail
          go_quiet (fail)
          go_wp2_with fail
          go_ret
          exact ⟨by rw [← HN.out]; rfl, Below_drewN HB.out nq⟩
      · have j2 : ¬ (b : Int) + (k : Int) < (s.length : Int) := by omega
        have HN := Lib.hid (show k = res by rw [← HF.out, alkF_stop (fun h => h2 h.1)]; rfl)
        clear HF
        go_upto_region 2 with fail
        go_quiet (fail)
        go_wp2_with fail
        go_ret
        exact ⟨by rw [← HN.out]; rfl, Below_drewN HB.out nq⟩
    · have j1 : ¬ (k : Int) < 259 := by omega
      have HN := Lib.hid (show k = res by
        obtain rfl : k = 259 := by omega
        rw [← HF.out]; rfl)
      clear HF
      go_upto_region 2 with fail
      go_quiet (fail)
      go_wp2_with fail
      go_ret
      exact ⟨by rw [← HN.out]; rfl, Below_drewN HB.out nq⟩
theorem joinS (a b : List UInt8) : (ByteArray.mk a.toArray) ++ (ByteArray.mk b.toArray) = ⟨(a ++ b).toArray⟩ := by
  apply ByteArray.ext
  simp
set_option maxRecDepth 100000 in
set_option maxHeartbeats 1000000 in
theorem refPlain_any (t : Txt) (w : World) (ht : t.length ≤ 1048576) :
    Calls Try.prog 26 #[.string ⟨t.toArray⟩] w fun e w' => e = .returned (.string ⟨(plainS t).toArray⟩) ∧ Below w.heap.size w w' := by
  have SL := Lib.hid (show (⟨t.toArray⟩ : ByteArray).size = t.length from rfl)
  by_cases h : t = []
  · subst h
    go_enter Try.func26, Try.ntmps26
    go_wp2_with fail
    go_ret
    exact ⟨rfl, Below.refl _ _⟩
  · have RB := Lib.hid (refBytes_ok (2 * t.length) w (by omega))
    obtain ⟨n2, hn2⟩ : ∃ n2, n2 = 2 * t.length := ⟨_, rfl⟩
    have HP := Lib.hid (show plainS t = nb n2 ++ t by unfold plainS; rw [if_neg h, hn2])
    have W1 : 2 * (t.length : Int) = (n2 : Int) := by omega
    have hne : t.isEmpty = false := by cases t <;> simp_all
    have hn3 : n2 ≤ 2097152 := by omega
    rw [← hn2] at RB
    have JS := Lib.hid (joinS (nb n2) t)
    have hls : ¬ 9223372036854775807 < (nb n2).length + t.length := by have := (nb_length n2).2; omega
    clear h hn2
    go_enter Try.func26, Try.ntmps26
    go_wp2_with fail
    refine RB.out.mono ?_
    rintro e w1 ⟨rfl, hb⟩
    go_wp2_with fail
    go_ret
    refine ⟨?_, hb⟩
    rw [HP.out, ← JS.out]
    rfl
theorem bestF_in {s : Txt} {at' f d : Nat} {c : Nat × Nat} (h : d ≤ 4096 ∧ d ≤ at' ∧ c.2 < 259) : bestF s at' (f + 1) d c = bestF s at' f (d + 1) (if c.2 < alk s (at' - d) at' then (d, alk s (at' - d) at') else c) := if_pos h
theorem bestF_out {s : Txt} {at' f d : Nat} {c : Nat × Nat} (h : ¬ (d ≤ 4096 ∧ d ≤ at' ∧ c.2 < 259)) : bestF s at' f d c = c := by
  cases f with
  | zero => rfl
  | succ f => exact if_neg h
theorem encP_one (held : Txt) (c : UInt8) (r : List PSt) : encP held (.inl c :: r) = encP (held ++ [c]) r := rfl
theorem encP_copy (held : Txt) (n b : Nat) (r : List PSt) : encP held (.inr (n, b) :: r) = plainS held ++ copyE n b ++ encP [] r := rfl
set_option maxRecDepth 100000 in
set_option maxHeartbeats 2000000 in
theorem refPress_any (s : Txt) (w : World) (hs : s.length ≤ 100000) :
    Calls Try.prog 14 #[.string ⟨s.toArray⟩] w fun e w' => e = .returned (.tuple #[.string ⟨(pressS s).toArray⟩, .int .i64 0]) ∧ Below w.heap.size w w' := by
  have SL := Lib.hid (show (⟨s.toArray⟩ : ByteArray).size = s.length from rfl)
  have RB := Lib.hid (refBytes_ok s.length w (by omega))
  have HPR := Lib.hid (show nb s.length ++ encP [] (stepsP s 0) = pressS s from rfl)
  have n0 : ¬ (1048576 : Int) < (s.length : Int) := by omega
  have HRL := Lib.hid (press_len s (by omega))
  generalize pressS s = res at *
  go_enter Try.func14, Try.ntmps14
  go_wp2_with fail
  refine RB.out.mono ?_
  rintro e w1 ⟨rfl, hb1⟩
  have HB1 := Lib.hid hb1
  clear hb1 RB
  go_wp2_with fail
  go_loopw [4, 5, 6] (fun vo vh va wr => ∃ (at' : Nat) (held out : Txt), at' ≤ s.length ∧ va = .int .i64 at' ∧ vh = .string ⟨held.toArray⟩ ∧ vo = .string ⟨out.toArray⟩ ∧ Hid (out ++ encP held (stepsP s at') = res) ∧ Hid (held.length ≤ at') ∧ Below w.heap.size w wr) (fun _ _ i _ => s.length - (intOf i).toNat)
  case atStart => exact ⟨0, [], nb s.length, by omega, rfl, rfl, rfl, HPR, Lib.hid (by simp), HB1.out⟩
  case round =>
    clear HPR HB1
    obtain ⟨at', held, out, hat, rfl, rfl, rfl, HF, HHL, hbel⟩ := hrel
    have HB := Lib.hid hbel
    clear hbel
    obtain ⟨w8, rfl⟩ : ∃ w8, w8 = wr := ⟨_, rfl⟩
    by_cases hlt : at' < s.length
    · have i0 : (0 : Int) ≤ (at' : Int) := by omega
      have i1 : (at' : Int) < (s.length : Int) := by omega
      go_wp2_with fail
      go_loopw [7, 8, 9] (fun vb vs vd wr => ∃ d b n : Nat, 1 ≤ d ∧ d ≤ 4097 ∧ n ≤ 259 ∧ b ≤ 4096 ∧ vd = .int .i64 d ∧ vb = .int .i64 b ∧ vs = .int .i64 n ∧ Hid (bestF s at' (4098 - d) d (b, n) = best s at') ∧ Below w.heap.size w wr) (fun _ _ i _ => 4097 - (intOf i).toNat)
      case atStart => exact ⟨1, 0, 3, by omega, by omega, by omega, by omega, rfl, rfl, rfl, Lib.hid rfl, HB.out⟩
      case round =>
        obtain ⟨d, b, n, hd1, hd2, hn, hb, rfl, rfl, rfl, HBF, hbel⟩ := hrel
        have HBX := Lib.hid hbel
        clear hbel
        by_cases c1 : d ≤ 4096 ∧ d ≤ at' ∧ n < 259
        · obtain ⟨c1, c2, c3⟩ := c1
          have j1 : (d : Int) ≤ 4096 := by omega
          have j2 : (d : Int) ≤ (at' : Int) := by omega
          have j3 : (n : Int) < 259 := by omega
          obtain ⟨ad, had⟩ : ∃ ad, ad = at' - d := ⟨_, rfl⟩
          have W1 : (at' : Int) - (d : Int) = (ad : Int) := by omega
          have AL := fun w' => Lib.hid (refAlike_any s ad at' w' (by omega) (by omega) hat)
          have HBN := Lib.hid (show bestF s at' (4098 - (d + 1)) (d + 1) (if n < alk s ad at' then (d, alk s ad at') else (b, n)) = best s at' by
            rw [← HBF.out, show 4098 - d = (4098 - (d + 1)) + 1 by omega, bestF_in ⟨c1, c2, c3⟩, ← had])
          have hml := (alk_spec s ad at').le
          generalize alk s ad at' = m at *
          clear HBF had
          go_wp2_with fail
          refine (AL _).out.mono ?_
          rintro e w9 ⟨rfl, hb9⟩
          have HB9 := Lib.hid (HBX.out.trans (hb9.mono HBX.out.size))
          clear hb9
          by_cases c4 : n < m
          · have j4 : (n : Int) < (m : Int) := by omega
            rw [if_pos c4] at HBN
            go_wp2_with fail
            go_roundw
            case rel => exact ⟨d + 1, d, m, by omega, by omega, by omega, by omega, by go_num, rfl, rfl, HBN, HB9.out⟩
            case measure => simp [intOf]; omega
          · have j4 : ¬ (n : Int) < (m : Int) := by omega
            rw [if_neg c4] at HBN
            go_wp2_with fail
            go_roundw
            case rel => exact ⟨d + 1, b, n, by omega, by omega, by omega, by omega, by go_num, rfl, rfl, HBN, HB9.out⟩
            case measure => simp [intOf]; omega
        · have HBE := Lib.hid (show best s at' = (b, n) by rw [← HBF.out, bestF_out c1])
          clear HBF
          have hcond : ¬ (d : Int) ≤ 4096 ∨ ((d : Int) ≤ 4096 ∧ ¬ (d : Int) ≤ (at' : Int)) ∨ ((d : Int) ≤ 4096 ∧ (d : Int) ≤ (at' : Int) ∧ ¬ (n : Int) < 259) := by omega
          clear c1
          by_cases hb0 : b = 0
          · subst hb0
            have HEN := Lib.hid (show out ++ encP (held ++ [s[at']]) (stepsP s (at' + 1)) = res by
              rw [← HF.out, stepsP_one hlt (by rw [HBE.out]), encP_one])
            have HEX := Lib.hid (show (⟨s.toArray⟩ : ByteArray).extract at' (at' + 1) = ⟨#[s[at']]⟩ by
              rw [slice_toArray, List.take_succ_eq_append_getElem hlt, List.drop_left' (by rw [List.length_take]; omega)])
            have JS := Lib.hid (joinS held [s[at']])
            generalize s[at'] = ch at *
            have hhl := HHL.out
            have hls : ¬ 9223372036854775807 < held.length + 1 := by omega
            have j5 : (at' : Int) + 1 ≤ (s.length : Int) := by omega
            have j6 : (at' : Int) ≤ (at' : Int) + 1 := by omega
            clear HF HBE
            rcases hcond with j1 | ⟨j1, j2⟩ | ⟨j1, j2, j3⟩
            all_goals
              go_wp2_with fail
              go_roundw
              case rel => exact ⟨at' + 1, held ++ [ch], out, by omega, by go_num, by rw [HEX.out]; exact congrArg Value.string JS.out, rfl, HEN, Lib.hid (by simp; omega), HBX.out⟩
              case measure => simp [intOf]; omega
          · have hcp := best_copy (s := s) (at' := at') (by rw [HBE.out]; exact hb0)
            have HEN := Lib.hid (show out ++ (plainS held ++ copyE n b ++ encP [] (stepsP s (at' + n))) = res by
              rw [← HF.out, stepsP_copy hlt (by rw [HBE.out]; exact hb0), encP_copy, HBE.out])
            rw [HBE.out] at hcp
            obtain ⟨h1, h2, h3, h4, h5, h6, _⟩ := hcp
            dsimp only at h1 h2 h3 h4 h5 h6
            obtain ⟨n4, hn4⟩ : ∃ n4, n4 = n - 4 := ⟨_, rfl⟩
            obtain ⟨n9, hn9⟩ : ∃ n9, n9 = 2 * (n - 4) + 1 := ⟨_, rfl⟩
            obtain ⟨b1, hb1⟩ : ∃ b1, b1 = b - 1 := ⟨_, rfl⟩
            have W1 : (n : Int) - 4 = (n4 : Int) := by omega
            have W2 : 2 * (n4 : Int) + 1 = (n9 : Int) := by omega
            have W3 : (b : Int) - 1 = (b1 : Int) := by omega
            have HCE := Lib.hid (show copyE n b = nb n9 ++ nb b1 by unfold copyE; rw [hn9, hb1])
            have hhl := HHL.out
            have RP := fun w' => Lib.hid (refPlain_any held w' (by omega))
            have R1 := fun w' => Lib.hid (refBytes_ok n9 w' (by omega))
            have R2 := fun w' => Lib.hid (refBytes_ok b1 w' (by omega))
            have qb : ((b : Int) == 0) = false := by simp; omega
            have n9b : n9 ≤ 1000 := by omega
            have n4b : n4 ≤ 1000 := by omega
            have b1b : b1 ≤ 5000 := by omega
            have hrl := congrArg List.length HEN.out
            rw [HCE.out] at hrl
            simp only [List.length_append] at hrl
            have hrl2 := HRL.out
            have k1 : ¬ 9223372036854775807 < out.length + (plainS held).length := by omega
            have k2 : ¬ 9223372036854775807 < out.length + (plainS held).length + (nb n9).length := by omega
            have k3 : ¬ 9223372036854775807 < out.length + (plainS held).length + (nb n9).length + (nb b1).length := by omega
            clear HF HBE hn4 hn9 hb1 hb0 hrl hrl2
            rw [HCE.out] at HEN
            generalize nb n9 = X9 at *
            generalize nb b1 = X1 at *
            generalize plainS held = P at *
            rcases hcond with j1 | ⟨j1, j2⟩ | ⟨j1, j2, j3⟩
            all_goals
              go_wp2_with fail
              refine (RP _).out.mono ?_
              rintro e wA ⟨rfl, hbA⟩
              have HBA := Lib.hid (HBX.out.trans (hbA.mono HBX.out.size))
              clear hbA
              go_wp2_with fail
              refine (R1 _).out.mono ?_
              rintro e wB ⟨rfl, hbB⟩
              have HBB := Lib.hid (HBA.out.trans (hbB.mono HBA.out.size))
              clear hbB
              go_wp2_with fail
              refine (R2 _).out.mono ?_
              rintro e wC ⟨rfl, hbC⟩
              have HBC := Lib.hid (HBB.out.trans (hbC.mono HBB.out.size))
              clear hbC
              go_wp2_with fail
              go_roundw
              case rel => exact ⟨at' + n, [], out ++ P ++ X9 ++ X1, h6, by go_num, rfl, by rw [joinS, joinS, joinS], Lib.hid (by rw [← HEN.out]; simp only [List.append_assoc]), Lib.hid (by simp), HBC.out⟩
              case measure => simp [intOf]; omega
    · obtain rfl : at' = s.length := by omega
      have i1 : ¬ (s.length : Int) < (s.length : Int) := by omega
      have HE := Lib.hid (show out ++ plainS held = res by rw [← HF.out, stepsP_end hlt]; rfl)
      have hhl := HHL.out
      have RP := fun w' => Lib.hid (refPlain_any held w' (by omega))
      have k1 : ¬ 9223372036854775807 < out.length + (plainS held).length := by have := congrArg List.length HE.out; have := HRL.out; rw [List.length_append] at *; omega
      clear HF
      go_wp2_with fail
      refine (RP _).out.mono ?_
      rintro e wA ⟨rfl, hbA⟩
      go_wp2_with fail
      go_ret2
      refine ⟨?_, HB.out.trans (hbA.mono HB.out.size)⟩
      rw [← HE.out, ← joinS]
      rfl
end Go.Proofs.Ytjlhhnkfedfdnaa

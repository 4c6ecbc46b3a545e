/- The contracts of press: Press, Wrap. -/
import Derived.Test.YtjlhhnkfedfdnaaAddNumsW
import Derived.Test.YtjlhhnkfedfdnaaAlikeW
import Derived.Test.YtjlhhnkfedfdnaaCodeMath
import Derived.Test.YtjlhhnkfedfdnaaFrame
import Derived.Test.YtjlhhnkfedfdnaaGen
import Derived.Test.YtjlhhnkfedfdnaaLongW
import Derived.Test.YtjlhhnkfedfdnaaLooseMath
import Derived.Test.YtjlhhnkfedfdnaaMarkMath
import Derived.Test.YtjlhhnkfedfdnaaOwnL
import Derived.Test.YtjlhhnkfedfdnaaPlaceMath
import Derived.Test.YtjlhhnkfedfdnaaPlaceW
import Derived.Test.YtjlhhnkfedfdnaaPressMath
import Derived.Test.YtjlhhnkfedfdnaaReadW
import Derived.Test.YtjlhhnkfedfdnaaRefPrW
import Derived.Test.YtjlhhnkfedfdnaaRows
import Derived.BigQuiet
import Derived.Deep.QuietTactic
import Derived.Lib.Hide
import Derived.StillTail
import Derived.WalkKit
import Derived.WalkLawsBesides
import Derived.WalkSpells
set_option linter.unusedVariables false
namespace Go.Proofs.Ytjlhhnkfedfdnaa
open Go.RowKit

theorem arrP_one (s : Txt) (L A : Nat → Nat) : (arrP s L A).all (·.oneCell') = true := by
  rw [Array.all_eq_true]
  intro i hi
  have h := arrP_get s L A i (by rw [arrP_size] at hi; exact hi)
  rw [Array.getElem?_eq_getElem hi] at h
  rw [Option.some.inj h]
  unfold arrPF
  split
  · rfl
  · split <;> rfl
theorem set_arrP (s : Txt) : (arrP [] (fun _ => 0) (fun _ => 0)).setIfInBounds 0 (.string ⟨s.toArray⟩) = arrP s (fun _ => 0) (fun _ => 0) := by
  refine arrP_ext (by rw [Array.size_setIfInBounds, arrP_size]) (fun i hi => ?_)
  rw [Array.getElem?_setIfInBounds]
  by_cases e : 0 = i
  · rw [if_pos e, if_pos (by rw [arrP_size]; omega), ← e]
    rfl
  · rw [if_neg e, arrP_get _ _ _ i hi]
    unfold arrPF
    rw [if_neg (show ¬ i = 0 from fun h => e h.symm), if_neg (show ¬ i = 0 from fun h => e h.symm)]
theorem info_places : (Try.prog.info? 35).map (·.size) = some 12289 := by kernel_rfl
theorem below_row {B g : Nat} {a w : World} (h : Below B a w) (hg : B ≤ g) (cs : Array Value) : Below B a (w.setRow g cs) :=
  h.trans ⟨rfl, rfl, rfl, by simp, fun k hk => setRow_other w g k cs (by omega)⟩
theorem PlAt.bk {base : Nat} {w w' : World} {q : Nat} {s : Txt} {L A : Nat → Nat} (h : PlAt w q s L A) (hb : BK base w w') : PlAt w' q s L A := hb.old h (by decide)
theorem own_add {base q : Nat} {w w' : World} {v : Value} {l : Txt} {s : Txt} {L A : Nat → Nat} (h : Own w base 5 v l) (hp : PlAt w q s L A) (hk : Kept (· = q) w w') : Own w' base 5 v l := by
  refine own_off h hk ?_
  rintro g cur hg _ rfl
  unfold PlAt at hp
  rw [hp] at hg
  injection hg with hg
  injection hg with _ h2 _
  exact absurd h2 (by decide)
set_option maxRecDepth 100000 in
set_option maxHeartbeats 2000000 in
theorem press_any (s : Txt) (w : World) (hs : s.length ≤ 100000) :
    Calls Try.prog 13 #[.string ⟨s.toArray⟩] w fun e w' => e = .returned (.tuple #[.string ⟨(pressS s).toArray⟩, .int .i64 0]) ∧ Below w.heap.size w w' := by
  have SL := Lib.hid (show (⟨s.toArray⟩ : ByteArray).size = s.length from rfl)
  have HPR := Lib.hid (show nb s.length ++ encP [] (stepsP s 0) = pressS s from rfl)
  have n0 : ¬ (1048576 : Int) < (s.length : Int) := by omega
  have HRL := Lib.hid (press_len s (by omega))
  generalize pressS s = res at *
  have AN := Lib.hid (addNums_any w.heap.size (.slice none 0 0) [] [s.length] w.heap.size (w.alloc (.cells (natV [s.length]) 3 (0, 0))) (by simp; omega) (by simp) (by simp) (by simp) (Own.nil _ _ _) (heap_alloc_new _ _))
  rw [show ([] : Txt) ++ numsB [s.length] = nb s.length by simp [numsB]] at AN
  have HB0 := Lib.hid (show Below w.heap.size w (w.alloc (.cells (natV [s.length]) 3 (0, 0))) from (Below.refl _ _).alloc (Nat.le_refl _) _)
  have HS0 := Lib.hid (show w.heap.size ≤ (w.alloc (.cells (natV [s.length]) 3 (0, 0))).heap.size by simp)
  have ZV := zeroPlaces
  have HE := Lib.hid (set_arrP s)
  have hZs := arrP_size [] (fun _ => 0) (fun _ => 0)
  generalize arrP [] (fun _ => 0) (fun _ => 0) = Z at *
  have hZe : ¬ Z = #[] := by intro h; rw [h] at hZs; exact absurd hZs (by decide)
  have HZs := Lib.hid hZs
  have HCs := Lib.hid (show (Z.setIfInBounds 0 (.string ⟨s.toArray⟩)).size = 12289 by rw [Array.size_setIfInBounds]; exact hZs)
  have HC1 := Lib.hid (show (Z.setIfInBounds 0 (.string ⟨s.toArray⟩)).all (·.oneCell') = true by rw [HE.out]; exact arrP_one _ _ _)
  go_enter Try.func13, Try.ntmps13
  go_wp2_with fail
  refine AN.out.mono ?_
  rintro e w1 ⟨v1, rfl, hown1, hbk1⟩
  have HO1 := Lib.hid hown1
  have HB1 := Lib.hid (HB0.out.trans (hbk1.below HS0.out))
  clear hown1 hbk1 AN HB0 HS0
  have HNEW := Lib.hid (show (w1.alloc (.cells Z 35)).heap[w1.heap.size]? = some (.cells Z 35 (0, 0)) from heap_alloc_new _ _)
  go_wp2_with (first
    | ((with_reducible refine wpList_store_row rfl 35 (.tmp 5) (.tmp 18) rfl w1.heap.size (Z.setIfInBounds 0 (.string ⟨s.toArray⟩)) rfl rfl _ Z HNEW.out (by rw [HCs.out]; exact info_places) (by rw [HCs.out]; exact HZs.out) HC1.out ?_)))
  rw [HE.out]
  have HPL2 := Lib.hid (show PlAt ((w1.alloc (.cells Z 35)).setRow w1.heap.size (arrP s (fun _ => 0) (fun _ => 0))) w1.heap.size s (fun _ => 0) (fun _ => 0) from setRow_heap _ _ _ _ _ _ HNEW.out)
  have HBX := Lib.hid (show Below w1.heap.size w1 ((w1.alloc (.cells Z 35)).setRow w1.heap.size (arrP s (fun _ => 0) (fun _ => 0))) from below_row ((Below.refl _ _).alloc (Nat.le_refl _) _) (Nat.le_refl _) _)
  have HO2 := Lib.hid (Own.below HO1.out HBX.out (Nat.le_refl _))
  have HB2 := Lib.hid (HB1.out.trans (HBX.out.mono HB1.out.size))
  have HQ := Lib.hid (show w.heap.size ≤ w1.heap.size from HB1.out.size)
  generalize (w1.alloc (.cells Z 35)).setRow w1.heap.size (arrP s (fun _ => 0) (fun _ => 0)) = w2 at *
  generalize w1.heap.size = q at *
  have HPI2 := Lib.hid (PlInv.start s)
  generalize Value.agg (arrP s (fun _ => 0) (fun _ => 0)) = vagg
  clear ZV HE hZs hZe HZs HCs HC1 HNEW HBX HO1 HB1
  go_loopw [4, 6, 7] (fun v4 v6 v7 wr => ∃ (at' g : Nat) (acc : Txt) (L A : Nat → Nat), at' ≤ s.length ∧ g ≤ at' ∧ v7 = .int .i64 at' ∧ v6 = .int .i64 g ∧ Hid (acc ++ encP ((s.take at').drop g) (stepsP s at') = res) ∧ Own wr w.heap.size 5 v4 acc ∧ PlAt wr q s L A ∧ Hid (PlInv s at' L A) ∧ Below w.heap.size w wr) (fun _ _ v7 _ => s.length - (intOf v7).toNat)
  case atStart => exact ⟨0, 0, nb s.length, _, _, by omega, by omega, rfl, rfl, Lib.hid (by simpa using HPR.out), HO2.out, HPL2.out, HPI2, HB2.out⟩
  case round =>
    clear HPR HO2 HPL2 HPI2 HB2
    obtain ⟨at', g, acc, L, A, hat, hg, rfl, rfl, HF, hown, hpl, HPI, hbel⟩ := hrel
    have HO := Lib.hid hown
    have HPL := Lib.hid hpl
    have HB := Lib.hid hbel
    clear hown hpl hbel
    obtain ⟨w8, rfl⟩ : ∃ w8, w8 = wr := ⟨_, rfl⟩
    have hal : acc.length ≤ 110000 := by
      have h1 := congrArg List.length HF.out
      have h2 := HRL.out
      rw [List.length_append] at h1
      omega
    have i0 : (0 : Int) ≤ (at' : Int) := by omega
    have g0 : (0 : Int) ≤ (g : Int) := by omega
    have g1 : (g : Int) ≤ (at' : Int) := by omega
    have a1 : (at' : Int) ≤ (s.length : Int) := by omega
    by_cases hlt : at' < s.length
    · have i1 : (at' : Int) < (s.length : Int) := by omega
      have LO := Lib.hid (longest_press s at' q L A w8 (by omega) hlt HPL.out HPI.out)
      by_cases hb : (best s at').1 = 0
      · have HEN := Lib.hid (show acc ++ encP ((s.take (at' + 1)).drop g) (stepsP s (at' + 1)) = res by
          rw [← HF.out, stepsP_one hlt hb, encP_one, List.take_succ_eq_append_getElem hlt, List.drop_append_of_le_length (by rw [List.length_take]; omega)])
        have hlb : lenB (best s at') = 0 := if_pos hb
        rw [hlb, hb] at LO
        clear hlb hb HF
        go_wp2_with fail
        refine LO.out.mono ?_
        rintro e w5 ⟨rfl, hb5⟩
        have HO5 := Lib.hid (Own.below HO.out hb5 (Nat.le_refl _))
        have HPL5 := Lib.hid (PlAt.below HPL.out hb5)
        have HB5 := Lib.hid (HB.out.trans (hb5.mono HB.out.size))
        obtain ⟨v4, rfl⟩ : ∃ v4, v4 = u4 := ⟨_, rfl⟩
        clear hb5 LO HO HPL HB
        go_wp2_with fail
        go_loopw [7, 50] (fun v7 v50 wr => ∃ (j : Nat) (L A : Nat → Nat), j ≤ 1 ∧ v50 = .int .i64 j ∧ v7 = .int .i64 ((at' + j : Nat) : Int) ∧ PlAt wr q s L A ∧ Hid (PlInv s (at' + j) L A) ∧ Own wr w.heap.size 5 v4 acc ∧ Below w.heap.size w wr) (fun _ v50 _ => 1 - (intOf v50).toNat)
        case atStart => exact ⟨0, L, A, by omega, rfl, rfl, HPL5.out, HPI, HO5.out, HB5.out⟩
        case round =>
          clear HPL5 HPI HO5 HB5
          obtain ⟨j, L, A, hj, rfl, rfl, hpl, HPI, hown, hbel⟩ := hrel
          have HPL := Lib.hid hpl
          have HO := Lib.hid hown
          have HB := Lib.hid hbel
          clear hpl hown hbel
          by_cases hjl : j < 1
          · have j1 : (j : Int) < (1 : Int) := by omega
            obtain ⟨p, hp⟩ : ∃ p, p = at' + j := ⟨_, rfl⟩
            have hpl : p < s.length := by omega
            have HPA := Lib.hid hp
            rw [← hp] at HPI
            rw [← hp]
            have AD := Lib.hid (add_press s p q L A wr (by omega) hpl HPL.out HPI.out)
            clear hp
            go_wp2_with fail
            refine AD.out.mono ?_
            rintro e w9 ⟨rfl, ⟨L', A', hpl9, hpi9⟩, hk9⟩
            have HPL9 := Lib.hid hpl9
            have HPI9 := Lib.hid hpi9
            have HO9 := Lib.hid (own_add HO.out HPL.out hk9)
            have HB9 := Lib.hid (HB.out.trans (hk9.below HB.out.size (fun k hk => by rw [hk]; exact HQ.out)))
            clear hpl9 hpi9 hk9 AD HPL HPI HO HB
            go_wp2_with fail
            go_roundw
            case rel => exact ⟨j + 1, L', A', by omega, by go_num, by rw [show at' + (j + 1) = p + 1 by have := HPA.out; omega]; go_num, HPL9.out, by rw [show at' + (j + 1) = p + 1 by have := HPA.out; omega]; exact HPI9, HO9.out, HB9.out⟩
            case measure => simp [intOf]; omega
          · obtain rfl : j = 1 := by omega
            have j1 : ¬ (1 : Int) < (1 : Int) := by omega
            go_wp2_with fail
            go_roundw
            case rel => exact ⟨at' + 1, g, acc, L, A, by omega, by omega, rfl, rfl, HEN, HO.out, HPL.out, HPI, HB.out⟩
            case measure => simp [intOf]; omega
      · obtain ⟨bk, hbk⟩ : ∃ bk, bk = (best s at').1 := ⟨_, rfl⟩
        obtain ⟨n, hn⟩ : ∃ n, n = (best s at').2 := ⟨_, rfl⟩
        have hcp := best_copy hb
        rw [← hbk, ← hn] at hcp
        obtain ⟨h1, h2, h3, h4, h5, h6, _⟩ := hcp
        have HEN := Lib.hid (show acc ++ (plainS ((s.take at').drop g) ++ copyE n bk ++ encP [] (stepsP s (at' + n))) = res by
          rw [← HF.out, stepsP_copy hlt hb, encP_copy, ← hn, ← hbk])
        have hlb : lenB (best s at') = n := by rw [hn]; exact if_neg hb
        rw [hlb, ← hbk] at LO
        clear hlb hbk hn hb HF
        obtain ⟨n4, hn4⟩ : ∃ n4, n4 = n - 4 := ⟨_, rfl⟩
        obtain ⟨n9, hn9⟩ : ∃ n9, n9 = 2 * (n - 4) + 1 := ⟨_, rfl⟩
        obtain ⟨b1, hb1⟩ : ∃ b1, b1 = bk - 1 := ⟨_, rfl⟩
        have W1 : (n : Int) - 4 = (n4 : Int) := by omega
        have W2 : 2 * (n4 : Int) + 1 = (n9 : Int) := by omega
        have W3 : (bk : Int) - 1 = (b1 : Int) := by omega
        have HCE := Lib.hid (show copyE n bk = nb n9 ++ nb b1 by unfold copyE; rw [hn9, hb1])
        have n9b : n9 ≤ 1000 := by omega
        have n4b : n4 ≤ 1000 := by omega
        have b1b : b1 ≤ 5000 := by omega
        have jn : (0 : Int) < (n : Int) := by omega
        have jm : ¬ (n : Int) ≤ 1 := by omega
        have EX := Lib.hid (show (⟨s.toArray⟩ : ByteArray).extract g at' = ⟨((s.take at').drop g).toArray⟩ from slice_toArray s g at')
        have hhl : ((s.take at').drop g).length ≤ 100000 := by rw [List.length_drop, List.length_take]; omega
        generalize (s.take at').drop g = held at *
        clear hn4 hn9 hb1
        go_wp2_with fail
        refine LO.out.mono ?_
        rintro e w5 ⟨rfl, hb5⟩
        have HO5 := Lib.hid (Own.below HO.out hb5 (Nat.le_refl _))
        have HPL5 := Lib.hid (PlAt.below HPL.out hb5)
        have HB5 := Lib.hid (HB.out.trans (hb5.mono HB.out.size))
        clear hb5 LO HO HPL HB
        have AT := Lib.hid (addText_press w.heap.size u4 acc held w5 (by omega) (by omega) HB5.out.size HO5.out)
        go_wp2_with fail
        rw [EX.out]
        refine AT.out.mono ?_
        rintro e w6 ⟨v6, rfl, hown6, hbk6⟩
        have HO6 := Lib.hid hown6
        have HPL6 := Lib.hid (PlAt.bk HPL5.out hbk6)
        have HB6 := Lib.hid (HB5.out.trans (hbk6.below HB5.out.size))
        clear hown6 hbk6 AT HO5 HPL5 HB5
        have hpll := (plain_len (t := held) (by omega)).1
        have AN := Lib.hid (addNums_any w.heap.size v6 (acc ++ plainS held) [n9, b1] w6.heap.size (w6.alloc (.cells (natV [n9, b1]) 3 (0, 0))) (by simp; omega) (by simp) (by rw [List.length_append]; omega) (by have := HB6.out.size; simp; omega) (Own.alloc HO6.out _) (heap_alloc_new _ _))
        rw [show numsB [n9, b1] = nb n9 ++ nb b1 by simp [numsB]] at AN
        have HKA := Lib.hid (show BK w.heap.size w6 (w6.alloc (.cells (natV [n9, b1]) 3 (0, 0))) from Kept.alloc (Kept.refl _ _) _)
        go_wp2_with fail
        refine AN.out.mono ?_
        rintro e w5 ⟨v4, rfl, hown7, hbk7⟩
        have HO5 := Lib.hid hown7
        have HPL5 := Lib.hid (PlAt.bk HPL6.out (HKA.out.trans hbk7))
        have HB5 := Lib.hid (HB6.out.trans ((HKA.out.trans hbk7).below HB6.out.size))
        clear hown7 hbk7 AN HO6 HPL6 HB6 HKA
        go_wp2_with fail
        go_loopw [7, 50] (fun v7 v50 wr => ∃ (j : Nat) (L A : Nat → Nat), j ≤ n ∧ v50 = .int .i64 j ∧ v7 = .int .i64 ((at' + j : Nat) : Int) ∧ PlAt wr q s L A ∧ Hid (PlInv s (at' + j) L A) ∧ Own wr w.heap.size 5 v4 (acc ++ plainS held ++ (nb n9 ++ nb b1)) ∧ Below w.heap.size w wr) (fun _ v50 _ => n - (intOf v50).toNat)
        case atStart => exact ⟨0, L, A, by omega, rfl, rfl, HPL5.out, HPI, HO5.out, HB5.out⟩
        case round =>
          clear HPL5 HPI HO5 HB5
          obtain ⟨j, L, A, hj, rfl, rfl, hpl, HPI, hown, hbel⟩ := hrel
          have HPL := Lib.hid hpl
          have HO := Lib.hid hown
          have HB := Lib.hid hbel
          clear hpl hown hbel
          by_cases hjl : j < n
          · have j1 : (j : Int) < (n : Int) := by omega
            obtain ⟨p, hp⟩ : ∃ p, p = at' + j := ⟨_, rfl⟩
            have hpl : p < s.length := by omega
            have HPA := Lib.hid hp
            rw [← hp] at HPI
            rw [← hp]
            have AD := Lib.hid (add_press s p q L A wr (by omega) hpl HPL.out HPI.out)
            clear hp
            go_wp2_with fail
            refine AD.out.mono ?_
            rintro e w9 ⟨rfl, ⟨L', A', hpl9, hpi9⟩, hk9⟩
            have HPL9 := Lib.hid hpl9
            have HPI9 := Lib.hid hpi9
            have HO9 := Lib.hid (own_add HO.out HPL.out hk9)
            have HB9 := Lib.hid (HB.out.trans (hk9.below HB.out.size (fun k hk => by rw [hk]; exact HQ.out)))
            clear hpl9 hpi9 hk9 AD HPL HPI HO HB
            go_wp2_with fail
            go_roundw
            case rel => exact ⟨j + 1, L', A', by omega, by go_num, by rw [show at' + (j + 1) = p + 1 by have := HPA.out; omega]; go_num, HPL9.out, by rw [show at' + (j + 1) = p + 1 by have := HPA.out; omega]; exact HPI9, HO9.out, HB9.out⟩
            case measure => simp [intOf]; omega
          · obtain rfl : j = n := by omega
            have j1 : ¬ (j : Int) < (j : Int) := by omega
            go_wp2_with fail
            go_roundw
            case rel => exact ⟨at' + j, at' + j, _, L, A, by omega, by omega, rfl, rfl, Lib.hid (by rw [show (s.take (at' + j)).drop (at' + j) = [] from List.drop_eq_nil_of_le (by rw [List.length_take]; omega), ← HEN.out, HCE.out]; simp only [List.append_assoc]), HO.out, HPL.out, HPI, HB.out⟩
            case measure => simp [intOf]; omega
    · obtain rfl : at' = s.length := by omega
      have i1 : ¬ (s.length : Int) < (s.length : Int) := by omega
      have HE := Lib.hid (show acc ++ plainS ((s.take s.length).drop g) = res by rw [← HF.out, stepsP_end hlt]; rfl)
      have hhl : ((s.take s.length).drop g).length ≤ 100000 := by rw [List.length_drop, List.length_take]; omega
      have EX := Lib.hid (show (⟨s.toArray⟩ : ByteArray).extract g s.length = ⟨((s.take s.length).drop g).toArray⟩ from slice_toArray s g s.length)
      generalize (s.take s.length).drop g = held at *
      have AT := Lib.hid (addText_press w.heap.size u4 acc held w8 (by omega) (by omega) HB.out.size HO.out)
      clear HF
      go_wp2_with fail
      rw [EX.out]
      refine AT.out.mono ?_
      rintro e w6 ⟨v6, rfl, hown6, hbk6⟩
      have OS := own_string w6 w.heap.size 28 9 5 v6 (acc ++ plainS held) Try.underlying28 Try.underlying5 Try.underlying9 hown6
      have HB6 := Lib.hid (HB.out.trans (hbk6.below HB.out.size))
      rw [HE.out] at OS
      clear hown6 hbk6 AT
      go_wp2_with fail
      go_ret2
      exact ⟨rfl, HB6.out⟩
theorem cat1 (c : UInt8) (t : Txt) : (⟨#[c]⟩ : ByteArray) ++ ⟨t.toArray⟩ = ⟨(c :: t).toArray⟩ := by
  apply ByteArray.ext
  simp
set_option maxRecDepth 100000 in
set_option maxHeartbeats 1000000 in
theorem wrap_any (s : Txt) (w : World) (hs : s.length ≤ 100000) :
    Calls Try.prog 18 #[.string ⟨s.toArray⟩] w fun e w' => e = .returned (.tuple #[.string ⟨(wrapS s).toArray⟩, .int .i64 0]) ∧ Below w.heap.size w w' := by
  have PA := Lib.hid (press_any s w hs)
  have HW := Lib.hid (show wrapS s = if (pressS s).length < s.length then 90 :: pressS s else 82 :: s from rfl)
  have hpl := press_len s (by omega)
  generalize wrapS s = res at *
  generalize pressS s = p at *
  have SL := Lib.hid (show (⟨p.toArray⟩ : ByteArray).size = p.length from rfl)
  have k1 : ¬ 9223372036854775807 < 1 + p.length := by omega
  have k2 : ¬ 9223372036854775807 < 1 + s.length := by omega
  go_enter Try.func18, Try.ntmps18
  go_wp2_with fail
  refine PA.out.mono ?_
  rintro e w1 ⟨rfl, hb⟩
  by_cases h : p.length < s.length
  · have i1 : (p.length : Int) < (s.length : Int) := by omega
    rw [if_pos h] at HW
    go_wp2_with fail
    go_ret2
    refine ⟨?_, hb⟩
    rw [HW.out, ← cat1]
    rfl
  · have i1 : ¬ (p.length : Int) < (s.length : Int) := by omega
    rw [if_neg h] at HW
    go_wp2_with fail
    go_ret2
    refine ⟨?_, hb⟩
    rw [HW.out, ← cat1]
    rfl
end Go.Proofs.Ytjlhhnkfedfdnaa

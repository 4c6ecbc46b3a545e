/- The walk of TreeBack: a manifest and its bytes are each other's. -/
import Derived.Test.YtkfkfpfnpfpkaaaDoorArgTree
import Derived.Test.YtkfkfpfnpfpkaaaDoorArgs3
import Derived.Test.YtkfkfpfnpfpkaaaDoorBldShelf
import Derived.Test.YtkfkfpfnpfpkaaaDoorCodeMath
import Derived.Test.YtkfkfpfnpfpkaaaDoorFitX
import Derived.Test.YtkfkfpfnpfpkaaaDoorFrame
import Derived.Test.YtkfkfpfnpfpkaaaDoorGen
import Derived.Test.YtkfkfpfnpfpkaaaDoorMarkMath
import Derived.Test.YtkfkfpfnpfpkaaaDoorOfX
import Derived.Test.YtkfkfpfnpfpkaaaDoorBkX
import Derived.Test.YtkfkfpfnpfpkaaaDoorOwnL
import Derived.Test.YtkfkfpfnpfpkaaaDoorProg
import Derived.Test.YtkfkfpfnpfpkaaaDoorReadMath
import Derived.Test.YtkfkfpfnpfpkaaaDoorReadW
import Derived.Test.YtkfkfpfnpfpkaaaDoorRefMatchW9
import Derived.Test.YtkfkfpfnpfpkaaaDoorRefSortW
import Derived.Test.YtkfkfpfnpfpkaaaDoorRowN
import Derived.Test.YtkfkfpfnpfpkaaaDoorRows
import Derived.Test.YtkfkfpfnpfpkaaaDoorShelf
import Derived.Test.YtkfkfpfnpfpkaaaDoorSoX
import Derived.Test.YtkfkfpfnpfpkaaaDoorSortMath
import Derived.Test.YtkfkfpfnpfpkaaaDoorTBackMath
import Derived.Test.YtkfkfpfnpfpkaaaDoorTBytesW
import Derived.Test.YtkfkfpfnpfpkaaaDoorText
import Derived.Test.YtkfkfpfnpfpkaaaDoorLwX
import Derived.Test.YtkfkfpfnpfpkaaaDoorTreeMath
import Derived.BigQuiet
import Derived.BigRegion
import Derived.ChangeAlike
import Derived.Deep.Cut
import Derived.Deep.CutBlock
import Derived.Deep.CutRange
import Derived.Deep.DeepCutAuto
import Derived.Deep.QuietTactic
import Derived.Deep.RegionHeld
import Derived.Laws.Externs
import Derived.Laws.IdiomStrings
import Derived.Laws.OwnMore
import Derived.Laws.RangeAny
import Derived.Lib.AppendStr
import Derived.Lib.Builder
import Derived.Lib.Hide
import Derived.Lib.Strings
import Derived.Lib.Walk
import Derived.LoopIn
import Derived.LoopNIn
import Derived.LoopTactic
import Derived.Outline
import Derived.OwnWalkIn
import Derived.RangeFuncBound
import Derived.RangeFuncCalls
import Derived.RangeFuncLeaves
import Derived.RangeFuncNested
import Derived.RegionTactic
import Derived.Shelf.Abstract
import Derived.Shelf.RegionOpen
import Derived.Shelf.Strings.SplitCore
import Derived.StillTail
import Derived.TacticsInMore
import Derived.WalkKit
import Derived.WalkLawsBesides
import Derived.WalkSpells
set_option linter.unusedVariables false
namespace Go.Proofs.YtkfkfpfnpfpkaaaDoor
open Go.RowKit

theorem mbE_len : ∀ (l : List ItemD) (last : Txt), (∀ x ∈ l, ItGood x) → (mbE last l).length ≤ 300 * l.length
  | [], last, _ => by simp [mbE]
  | x :: r, last, h => by
    have ih := mbE_len r x.path (fun y hy => h y (by simp [hy]))
    have hx := h x (by simp)
    have h1 := (nb_length (sharedS last x.path)).2
    have h2 := (nb_length (x.path.drop (sharedS last x.path)).length).2
    have h3 := (nb_length x.mode.toNat).2
    have h4 := (nb_length x.size.toNat).2
    have h5 := hx.p
    have h6 := hx.k
    unfold mbE tb
    simp only [List.length_append, List.length_cons, List.length_drop] at *
    omega
theorem mbytes_len (l : List ItemD) : (mbytesS l).1.length ≤ 100000 := by
  unfold mbytesS
  by_cases h : rightS l = 0
  · obtain ⟨h1, h2⟩ := right_good h
    rw [if_neg (fun k => k h)]
    have h3 := mbE_len l [] h2
    have h4 := (nb_length l.length).2
    dsimp only
    rw [List.length_append]
    omega
  · rw [if_pos h]; simp
theorem ofF_itok : ∀ (k : Nat) (r : RS) (last : Txt) (out : List ItemD), r.ok → last.length ≤ 400 → (∀ x ∈ out, ItemOk x) → ∀ x ∈ (ofF k r last out).1, ItemOk x
  | 0, r, last, out, _, _, h => h
  | k + 1, r, last, out, hr, hl, h => by
    rw [ofF_step]
    by_cases h1 : (readS r last).2 = 0
    · rw [if_neg (fun g => g h1)]
      have h2 := readS_itok r last hr hl
      have h3 := (readS_len r last hr hl).1
      refine ofF_itok k _ _ _ (oneR_left r hr) h3 (fun x hx => ?_)
      rcases List.mem_append.1 hx with hx | hx
      · exact h x hx
      · rw [List.mem_singleton.1 hx]; exact h2
    · rw [if_pos h1]; intro x hx; cases hx
theorem ofS_itok (s : Txt) : ∀ x ∈ (ofS s).1, ItemOk x := by
  have h := ofF_itok (rCount ⟨s, 0⟩ 256).1.toNat (rCount ⟨s, 0⟩ 256).2 [] [] (rCount_ok ⟨s, 0⟩ 256 (.inl rfl)) (by simp) (fun x hx => by cases hx)
  unfold ofS ofEnd
  split
  · intro x hx; cases hx
  · split
    · intro x hx; cases hx
    · split
      · intro x hx; cases hx
      · exact h
set_option maxRecDepth 100000 in
set_option maxHeartbeats 2000000 in
theorem treeBack_walk (v : Value) (s : Txt) (hs : s.length ≤ 140737488351232) (w : World) (h : IsIn w v) :
    Calls Tryd.prog 10 #[v, .string ⟨s.toArray⟩] w fun e w' => e = .returned (.bool true) ∧ Below w.heap.size w w' := by
  obtain ⟨xs, hrow, hok, hlen⟩ := h
  have hrow := hrow.mono (M := fun _ => True) (fun _ _ => trivial)
  obtain ⟨va, vc, hv, hcap⟩ := hrow.slice
  subst hv
  have SM := Lib.hid (some9_any va vc xs w hrow)
  have hr := hrow.firsts 100
  have hy := fun x (hx : x ∈ xs.take 100) => hok x (List.mem_of_mem_take hx)
  have hl : (xs.take 100).length ≤ 100 := List.length_take_le _ _
  clear hrow hok hcap hlen
  generalize xs.take 100 = ys at *
  have SL := Lib.hid (show (⟨s.toArray⟩ : ByteArray).size = s.length from rfl)
  obtain ⟨t, ht⟩ : ∃ t : Txt, t = s.take 4000 := ⟨_, rfl⟩
  have htl : t.length ≤ 4000 := by rw [ht, List.length_take]; omega
  have B1 := Lib.hid (fun w' (hb : Below w.heap.size w w') => tBytes_any (.slice va ys.length vc) ys w' (hr.keep hb) hy (by omega))
  have O1 := Lib.hid (fun w' => tOf_any (mbytesS ys).1 w' (mbytes_len ys))
  have O2 := Lib.hid (fun w' => tOf_any t w' (by omega))
  have B2 := Lib.hid (fun v' w' (hr : RowN encI 4 (fun _ => True) w' v' (ofS t).1) => tBytes_any v' (ofS t).1 w' hr (ofS_itok t) (by have := ofS_len t; omega))
  have F1 := fun h => ofS_fore (l := ys) h
  have F2 := fun h => ofS_back (s := t) h
  have E1 := mbytes_e ys
  have HRY := Lib.hid (fun w' (hb : Below w.heap.size w w') => hr.keep hb)
  clear hr hy
  generalize mbytesS ys = mb at *
  generalize ofS mb.1 = of1 at *
  generalize rightS ys = re at *
  generalize ofS t = of2 at *
  generalize mbytesS of2.1 = mb2 at *
  obtain ⟨A, eA⟩ := mb
  obtain ⟨m, f⟩ := of1
  obtain ⟨n, g⟩ := of2
  obtain ⟨bt, hh⟩ := mb2
  dsimp only at B1 O1 O2 B2 F1 F2 E1
  subst E1
  have qt : (t == t) = true := by simp
  by_cases he : eA = 0
  · obtain ⟨rfl, rfl⟩ : m = ys ∧ f = 0 := by have := F1 he; injection this with a b; exact ⟨a, b⟩
    subst he
    clear F1
    by_cases hg : g = 0
    · obtain ⟨rfl, rfl⟩ : bt = t ∧ hh = 0 := by have := F2 hg; injection this with a b; exact ⟨a, b⟩
      subst hg
      clear F2
      by_cases h4 : 4000 < s.length
      · have j1 : (4000 : Int) < (s.length : Int) := by omega
        have EX := show (⟨s.toArray⟩ : ByteArray).extract 0 4000 = ⟨bt.toArray⟩ from by rw [slice_toArray, ht]; simp
        clear ht
        go_enter Tryd.func10, Tryd.ntmps10
        go_wp2_with fail
        refine SM.out.mono ?_
        rintro e w0 ⟨rfl, rfl⟩
        clear SM
        go_wp2_with fail
        refine (B1.out _ (Below.refl _ _)).mono ?_
        rintro e w1 ⟨rfl, hb1⟩
        have K1 := Lib.hid hb1
        clear hb1 B1
        go_wp2_with fail
        refine (O1.out _).mono ?_
        rintro e w2 ⟨v2, rfl, hr2, hb2⟩
        obtain ⟨va2, vc2, rfl, _⟩ := hr2.slice
        have HR2 := Lib.hid hr2
        have K2 := Lib.hid (K1.out.trans (hb2.mono K1.out.size))
        clear hr2 hb2 O1 K1
        go_wp2_with fail
        refine (O2.out _).mono ?_
        rintro e w3 ⟨v3, rfl, hr3, hb3⟩
        obtain ⟨va3, vc3, rfl, _⟩ := hr3.slice
        have B3 := Lib.hid (B2.out _ _ hr3)
        have HR3 := Lib.hid (HR2.out.keep hb3)
        have K3 := Lib.hid (K2.out.trans (hb3.mono K2.out.size))
        clear hr3 hb3 O2 K2 HR2 B2
        go_wp2_with fail
        refine B3.out.mono ?_
        rintro e w4 ⟨rfl, hb4⟩
        have HR4 := Lib.hid (HR3.out.keep hb4)
        have K4 := Lib.hid (K3.out.trans (hb4.mono K3.out.size))
        clear hb4 B3 K3 HR3
        go_wp2_with fail
        refine (itemsEq_any _ _ _ _ _ _ HR4.out (HRY.out _ K4.out) (by omega)).mono ?_
        rintro e w5 ⟨rfl, hb5⟩
        have K5 := Lib.hid (K4.out.trans (hb5.mono K4.out.size))
        clear hb5
        go_wp2_with fail
        refine (awake9_any _).mono ?_
        rintro e w6 ⟨rfl, hb6⟩
        go_wp2_with fail
        go_ret
        exact ⟨rfl, K5.out.trans (hb6.mono K5.out.size)⟩
      · have j1 : ¬ (4000 : Int) < (s.length : Int) := by omega
        have hst : bt = s := by rw [ht, List.take_of_length_le (by omega)]
        clear ht
        subst hst
        go_enter Tryd.func10, Tryd.ntmps10
        go_wp2_with fail
        refine SM.out.mono ?_
        rintro e w0 ⟨rfl, rfl⟩
        clear SM
        go_wp2_with fail
        refine (B1.out _ (Below.refl _ _)).mono ?_
        rintro e w1 ⟨rfl, hb1⟩
        have K1 := Lib.hid hb1
        clear hb1 B1
        go_wp2_with fail
        refine (O1.out _).mono ?_
        rintro e w2 ⟨v2, rfl, hr2, hb2⟩
        obtain ⟨va2, vc2, rfl, _⟩ := hr2.slice
        have HR2 := Lib.hid hr2
        have K2 := Lib.hid (K1.out.trans (hb2.mono K1.out.size))
        clear hr2 hb2 O1 K1
        go_wp2_with fail
        refine (O2.out _).mono ?_
        rintro e w3 ⟨v3, rfl, hr3, hb3⟩
        obtain ⟨va3, vc3, rfl, _⟩ := hr3.slice
        have B3 := Lib.hid (B2.out _ _ hr3)
        have HR3 := Lib.hid (HR2.out.keep hb3)
        have K3 := Lib.hid (K2.out.trans (hb3.mono K2.out.size))
        clear hr3 hb3 O2 K2 HR2 B2
        go_wp2_with fail
        refine B3.out.mono ?_
        rintro e w4 ⟨rfl, hb4⟩
        have HR4 := Lib.hid (HR3.out.keep hb4)
        have K4 := Lib.hid (K3.out.trans (hb4.mono K3.out.size))
        clear hb4 B3 K3 HR3
        go_wp2_with fail
        refine (itemsEq_any _ _ _ _ _ _ HR4.out (HRY.out _ K4.out) (by omega)).mono ?_
        rintro e w5 ⟨rfl, hb5⟩
        have K5 := Lib.hid (K4.out.trans (hb5.mono K4.out.size))
        clear hb5
        go_wp2_with fail
        refine (awake9_any _).mono ?_
        rintro e w6 ⟨rfl, hb6⟩
        go_wp2_with fail
        go_ret
        exact ⟨rfl, K5.out.trans (hb6.mono K5.out.size)⟩
    · have q2 : (g != 0) = true := by simp [hg]
      clear F2
      by_cases h4 : 4000 < s.length
      · have j1 : (4000 : Int) < (s.length : Int) := by omega
        have EX := show (⟨s.toArray⟩ : ByteArray).extract 0 4000 = ⟨t.toArray⟩ from by rw [slice_toArray, ht]; simp
        clear ht
        go_enter Tryd.func10, Tryd.ntmps10
        go_wp2_with fail
        refine SM.out.mono ?_
        rintro e w0 ⟨rfl, rfl⟩
        clear SM
        go_wp2_with fail
        refine (B1.out _ (Below.refl _ _)).mono ?_
        rintro e w1 ⟨rfl, hb1⟩
        have K1 := Lib.hid hb1
        clear hb1 B1
        go_wp2_with fail
        refine (O1.out _).mono ?_
        rintro e w2 ⟨v2, rfl, hr2, hb2⟩
        obtain ⟨va2, vc2, rfl, _⟩ := hr2.slice
        have HR2 := Lib.hid hr2
        have K2 := Lib.hid (K1.out.trans (hb2.mono K1.out.size))
        clear hr2 hb2 O1 K1
        go_wp2_with fail
        refine (O2.out _).mono ?_
        rintro e w3 ⟨v3, rfl, hr3, hb3⟩
        obtain ⟨va3, vc3, rfl, _⟩ := hr3.slice
        have B3 := Lib.hid (B2.out _ _ hr3)
        have HR3 := Lib.hid (HR2.out.keep hb3)
        have K3 := Lib.hid (K2.out.trans (hb3.mono K2.out.size))
        clear hr3 hb3 O2 K2 HR2 B2
        go_wp2_with fail
        refine B3.out.mono ?_
        rintro e w4 ⟨rfl, hb4⟩
        have HR4 := Lib.hid (HR3.out.keep hb4)
        have K4 := Lib.hid (K3.out.trans (hb4.mono K3.out.size))
        clear hb4 B3 K3 HR3
        go_wp2_with fail
        refine (itemsEq_any _ _ _ _ _ _ HR4.out (HRY.out _ K4.out) (by omega)).mono ?_
        rintro e w5 ⟨rfl, hb5⟩
        have K5 := Lib.hid (K4.out.trans (hb5.mono K4.out.size))
        clear hb5
        go_wp2_with fail
        refine (awake9_any _).mono ?_
        rintro e w6 ⟨rfl, hb6⟩
        go_wp2_with fail
        go_ret
        exact ⟨rfl, K5.out.trans (hb6.mono K5.out.size)⟩
      · have j1 : ¬ (4000 : Int) < (s.length : Int) := by omega
        have hst : t = s := by rw [ht, List.take_of_length_le (by omega)]
        clear ht
        subst hst
        go_enter Tryd.func10, Tryd.ntmps10
        go_wp2_with fail
        refine SM.out.mono ?_
        rintro e w0 ⟨rfl, rfl⟩
        clear SM
        go_wp2_with fail
        refine (B1.out _ (Below.refl _ _)).mono ?_
        rintro e w1 ⟨rfl, hb1⟩
        have K1 := Lib.hid hb1
        clear hb1 B1
        go_wp2_with fail
        refine (O1.out _).mono ?_
        rintro e w2 ⟨v2, rfl, hr2, hb2⟩
        obtain ⟨va2, vc2, rfl, _⟩ := hr2.slice
        have HR2 := Lib.hid hr2
        have K2 := Lib.hid (K1.out.trans (hb2.mono K1.out.size))
        clear hr2 hb2 O1 K1
        go_wp2_with fail
        refine (O2.out _).mono ?_
        rintro e w3 ⟨v3, rfl, hr3, hb3⟩
        obtain ⟨va3, vc3, rfl, _⟩ := hr3.slice
        have B3 := Lib.hid (B2.out _ _ hr3)
        have HR3 := Lib.hid (HR2.out.keep hb3)
        have K3 := Lib.hid (K2.out.trans (hb3.mono K2.out.size))
        clear hr3 hb3 O2 K2 HR2 B2
        go_wp2_with fail
        refine B3.out.mono ?_
        rintro e w4 ⟨rfl, hb4⟩
        have HR4 := Lib.hid (HR3.out.keep hb4)
        have K4 := Lib.hid (K3.out.trans (hb4.mono K3.out.size))
        clear hb4 B3 K3 HR3
        go_wp2_with fail
        refine (itemsEq_any _ _ _ _ _ _ HR4.out (HRY.out _ K4.out) (by omega)).mono ?_
        rintro e w5 ⟨rfl, hb5⟩
        have K5 := Lib.hid (K4.out.trans (hb5.mono K4.out.size))
        clear hb5
        go_wp2_with fail
        refine (awake9_any _).mono ?_
        rintro e w6 ⟨rfl, hb6⟩
        go_wp2_with fail
        go_ret
        exact ⟨rfl, K5.out.trans (hb6.mono K5.out.size)⟩
  · have q1 : (eA != 0) = true := by simp [he]
    clear F1
    by_cases hg : g = 0
    · obtain ⟨rfl, rfl⟩ : bt = t ∧ hh = 0 := by have := F2 hg; injection this with a b; exact ⟨a, b⟩
      subst hg
      clear F2
      by_cases h4 : 4000 < s.length
      · have j1 : (4000 : Int) < (s.length : Int) := by omega
        have EX := show (⟨s.toArray⟩ : ByteArray).extract 0 4000 = ⟨bt.toArray⟩ from by rw [slice_toArray, ht]; simp
        clear ht
        go_enter Tryd.func10, Tryd.ntmps10
        go_wp2_with fail
        refine SM.out.mono ?_
        rintro e w0 ⟨rfl, rfl⟩
        clear SM
        go_wp2_with fail
        refine (B1.out _ (Below.refl _ _)).mono ?_
        rintro e w1 ⟨rfl, hb1⟩
        have K1 := Lib.hid hb1
        clear hb1 B1
        go_wp2_with fail
        refine (O1.out _).mono ?_
        rintro e w2 ⟨v2, rfl, hr2, hb2⟩
        obtain ⟨va2, vc2, rfl, _⟩ := hr2.slice
        have HR2 := Lib.hid hr2
        have K2 := Lib.hid (K1.out.trans (hb2.mono K1.out.size))
        clear hr2 hb2 O1 K1
        go_wp2_with fail
        refine (O2.out _).mono ?_
        rintro e w3 ⟨v3, rfl, hr3, hb3⟩
        obtain ⟨va3, vc3, rfl, _⟩ := hr3.slice
        have B3 := Lib.hid (B2.out _ _ hr3)
        have HR3 := Lib.hid (HR2.out.keep hb3)
        have K3 := Lib.hid (K2.out.trans (hb3.mono K2.out.size))
        clear hr3 hb3 O2 K2 HR2 B2
        go_wp2_with fail
        refine B3.out.mono ?_
        rintro e w4 ⟨rfl, hb4⟩
        have HR4 := Lib.hid (HR3.out.keep hb4)
        have K4 := Lib.hid (K3.out.trans (hb4.mono K3.out.size))
        clear hb4 B3 K3 HR3
        go_wp2_with fail
        refine (awake9_any _).mono ?_
        rintro e w6 ⟨rfl, hb6⟩
        go_wp2_with fail
        go_ret
        exact ⟨rfl, K4.out.trans (hb6.mono K4.out.size)⟩
      · have j1 : ¬ (4000 : Int) < (s.length : Int) := by omega
        have hst : bt = s := by rw [ht, List.take_of_length_le (by omega)]
        clear ht
        subst hst
        go_enter Tryd.func10, Tryd.ntmps10
        go_wp2_with fail
        refine SM.out.mono ?_
        rintro e w0 ⟨rfl, rfl⟩
        clear SM
        go_wp2_with fail
        refine (B1.out _ (Below.refl _ _)).mono ?_
        rintro e w1 ⟨rfl, hb1⟩
        have K1 := Lib.hid hb1
        clear hb1 B1
        go_wp2_with fail
        refine (O1.out _).mono ?_
        rintro e w2 ⟨v2, rfl, hr2, hb2⟩
        obtain ⟨va2, vc2, rfl, _⟩ := hr2.slice
        have HR2 := Lib.hid hr2
        have K2 := Lib.hid (K1.out.trans (hb2.mono K1.out.size))
        clear hr2 hb2 O1 K1
        go_wp2_with fail
        refine (O2.out _).mono ?_
        rintro e w3 ⟨v3, rfl, hr3, hb3⟩
        obtain ⟨va3, vc3, rfl, _⟩ := hr3.slice
        have B3 := Lib.hid (B2.out _ _ hr3)
        have HR3 := Lib.hid (HR2.out.keep hb3)
        have K3 := Lib.hid (K2.out.trans (hb3.mono K2.out.size))
        clear hr3 hb3 O2 K2 HR2 B2
        go_wp2_with fail
        refine B3.out.mono ?_
        rintro e w4 ⟨rfl, hb4⟩
        have HR4 := Lib.hid (HR3.out.keep hb4)
        have K4 := Lib.hid (K3.out.trans (hb4.mono K3.out.size))
        clear hb4 B3 K3 HR3
        go_wp2_with fail
        refine (awake9_any _).mono ?_
        rintro e w6 ⟨rfl, hb6⟩
        go_wp2_with fail
        go_ret
        exact ⟨rfl, K4.out.trans (hb6.mono K4.out.size)⟩
    · have q2 : (g != 0) = true := by simp [hg]
      clear F2
      by_cases h4 : 4000 < s.length
      · have j1 : (4000 : Int) < (s.length : Int) := by omega
        have EX := show (⟨s.toArray⟩ : ByteArray).extract 0 4000 = ⟨t.toArray⟩ from by rw [slice_toArray, ht]; simp
        clear ht
        go_enter Tryd.func10, Tryd.ntmps10
        go_wp2_with fail
        refine SM.out.mono ?_
        rintro e w0 ⟨rfl, rfl⟩
        clear SM
        go_wp2_with fail
        refine (B1.out _ (Below.refl _ _)).mono ?_
        rintro e w1 ⟨rfl, hb1⟩
        have K1 := Lib.hid hb1
        clear hb1 B1
        go_wp2_with fail
        refine (O1.out _).mono ?_
        rintro e w2 ⟨v2, rfl, hr2, hb2⟩
        obtain ⟨va2, vc2, rfl, _⟩ := hr2.slice
        have HR2 := Lib.hid hr2
        have K2 := Lib.hid (K1.out.trans (hb2.mono K1.out.size))
        clear hr2 hb2 O1 K1
        go_wp2_with fail
        refine (O2.out _).mono ?_
        rintro e w3 ⟨v3, rfl, hr3, hb3⟩
        obtain ⟨va3, vc3, rfl, _⟩ := hr3.slice
        have B3 := Lib.hid (B2.out _ _ hr3)
        have HR3 := Lib.hid (HR2.out.keep hb3)
        have K3 := Lib.hid (K2.out.trans (hb3.mono K2.out.size))
        clear hr3 hb3 O2 K2 HR2 B2
        go_wp2_with fail
        refine B3.out.mono ?_
        rintro e w4 ⟨rfl, hb4⟩
        have HR4 := Lib.hid (HR3.out.keep hb4)
        have K4 := Lib.hid (K3.out.trans (hb4.mono K3.out.size))
        clear hb4 B3 K3 HR3
        go_wp2_with fail
        refine (awake9_any _).mono ?_
        rintro e w6 ⟨rfl, hb6⟩
        go_wp2_with fail
        go_ret
        exact ⟨rfl, K4.out.trans (hb6.mono K4.out.size)⟩
      · have j1 : ¬ (4000 : Int) < (s.length : Int) := by omega
        have hst : t = s := by rw [ht, List.take_of_length_le (by omega)]
        clear ht
        subst hst
        go_enter Tryd.func10, Tryd.ntmps10
        go_wp2_with fail
        refine SM.out.mono ?_
        rintro e w0 ⟨rfl, rfl⟩
        clear SM
        go_wp2_with fail
        refine (B1.out _ (Below.refl _ _)).mono ?_
        rintro e w1 ⟨rfl, hb1⟩
        have K1 := Lib.hid hb1
        clear hb1 B1
        go_wp2_with fail
        refine (O1.out _).mono ?_
        rintro e w2 ⟨v2, rfl, hr2, hb2⟩
        obtain ⟨va2, vc2, rfl, _⟩ := hr2.slice
        have HR2 := Lib.hid hr2
        have K2 := Lib.hid (K1.out.trans (hb2.mono K1.out.size))
        clear hr2 hb2 O1 K1
        go_wp2_with fail
        refine (O2.out _).mono ?_
        rintro e w3 ⟨v3, rfl, hr3, hb3⟩
        obtain ⟨va3, vc3, rfl, _⟩ := hr3.slice
        have B3 := Lib.hid (B2.out _ _ hr3)
        have HR3 := Lib.hid (HR2.out.keep hb3)
        have K3 := Lib.hid (K2.out.trans (hb3.mono K2.out.size))
        clear hr3 hb3 O2 K2 HR2 B2
        go_wp2_with fail
        refine B3.out.mono ?_
        rintro e w4 ⟨rfl, hb4⟩
        have HR4 := Lib.hid (HR3.out.keep hb4)
        have K4 := Lib.hid (K3.out.trans (hb4.mono K3.out.size))
        clear hb4 B3 K3 HR3
        go_wp2_with fail
        refine (awake9_any _).mono ?_
        rintro e w6 ⟨rfl, hb6⟩
        go_wp2_with fail
        go_ret
        exact ⟨rfl, K4.out.trans (hb6.mono K4.out.size)⟩
end Go.Proofs.YtkfkfpfnpfpkaaaDoor

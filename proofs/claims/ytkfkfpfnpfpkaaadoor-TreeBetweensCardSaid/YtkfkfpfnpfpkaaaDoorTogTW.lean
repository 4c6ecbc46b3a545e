/- Landed tree: together, measures, walked. -/
import Derived.Test.YtkfkfpfnpfpkaaaDoorFrame
import Derived.Test.YtkfkfpfnpfpkaaaDoorGen
import Derived.Test.YtkfkfpfnpfpkaaaDoorMarkMath
import Derived.Test.YtkfkfpfnpfpkaaaDoorOrderTW
import Derived.Test.YtkfkfpfnpfpkaaaDoorOwnL
import Derived.Test.YtkfkfpfnpfpkaaaDoorPthX
import Derived.Test.YtkfkfpfnpfpkaaaDoorProg
import Derived.Test.YtkfkfpfnpfpkaaaDoorReadMath
import Derived.Test.YtkfkfpfnpfpkaaaDoorReadW
import Derived.Test.YtkfkfpfnpfpkaaaDoorRowN
import Derived.Test.YtkfkfpfnpfpkaaaDoorRows
import Derived.Test.YtkfkfpfnpfpkaaaDoorShelf
import Derived.Test.YtkfkfpfnpfpkaaaDoorTreeMath
import Derived.BigQuiet
import Derived.Deep.Cut
import Derived.Deep.CutRange
import Derived.Deep.DeepCutAuto
import Derived.Deep.QuietTactic
import Derived.Laws.RangeAny
import Derived.Lib.Hide
import Derived.LoopTactic
import Derived.WalkKit
import Derived.WalkLawsBesides
import Derived.WalkSpells
set_option linter.unusedVariables false
namespace Go.Proofs.YtkfkfpfnpfpkaaaDoor
open Go.RowKit

theorem tog_empty : ∀ l : List Txt, togF (some []) l = togF none l
  | [] => rfl
  | p :: r => by
    unfold togF
    by_cases h : pathS p = 0
    · rw [if_neg (by rw [h]; decide), if_neg (by rw [h]; decide)]
      have hp : p ≠ [] := by rintro rfl; exact absurd h (by decide)
      cases p with
      | nil => exact absurd rfl hp
      | cons c t =>
        have h1 : ¬ ordS (c :: t) [] < 0 := by show ¬ (1 : Int) < 0; decide
        have h2 : ¬ (c :: t = [] ∨ withinS (c :: t) [] = true) := by
          rintro (e | e)
          · cases e
          · unfold withinS at e
            rw [Bool.and_eq_true, beq_iff_eq] at e
            have hc : c = 47 := by have := e.2; simpa using this
            subst hc
            unfold pathS at h
            by_cases hl : 200 < (47 :: t).length
            · rw [if_pos hl] at h; exact absurd h (by decide)
            · rw [if_neg hl] at h
              have hn : (namesS (47 :: t)).all nameS = false := by
                have := names_some [] t (fun c h => by simp at h)
                rw [List.nil_append] at this
                rw [this]; rfl
              rw [hn] at h
              exact absurd h (by decide)
        dsimp only
        rw [if_neg h1, if_neg h2]
    · rw [if_pos h, if_pos h]
def measS (m z : Int) : Int := if m < 0 ∨ 511 < m then 11 else if z < 0 ∨ 65536 < z then 4 else 0
set_option maxRecDepth 100000 in
theorem measures_any (m z : Int) (w : World) : Calls Tryd.prog 52 #[.int .i64 m, .int .i64 z] w fun e w' => e = .returned (.int .i64 (measS m z)) ∧ w' = w := by
  by_cases h1 : m < 0
  · have HR := Lib.hid (show measS m z = 11 by unfold measS; rw [if_pos (.inl h1)])
    rw [HR.out]
    go_enter Tryd.func52, Tryd.ntmps52
    go_wp2_with fail
    go_ret
    exact ⟨rfl, rfl⟩
  by_cases h2 : 511 < m
  · have HR := Lib.hid (show measS m z = 11 by unfold measS; rw [if_pos (.inr h2)])
    rw [HR.out]
    go_enter Tryd.func52, Tryd.ntmps52
    go_wp2_with fail
    go_ret
    exact ⟨rfl, rfl⟩
  have hm : ¬ (m < 0 ∨ 511 < m) := by omega
  by_cases h3 : z < 0
  · have HR := Lib.hid (show measS m z = 4 by unfold measS; rw [if_neg hm, if_pos (.inl h3)])
    rw [HR.out]
    clear hm
    go_enter Tryd.func52, Tryd.ntmps52
    go_wp2_with fail
    go_ret
    exact ⟨rfl, rfl⟩
  by_cases h4 : 65536 < z
  · have HR := Lib.hid (show measS m z = 4 by unfold measS; rw [if_neg hm, if_pos (.inr h4)])
    rw [HR.out]
    clear hm
    go_enter Tryd.func52, Tryd.ntmps52
    go_wp2_with fail
    go_ret
    exact ⟨rfl, rfl⟩
  · have HR := Lib.hid (show measS m z = 0 by unfold measS; rw [if_neg hm, if_neg (by omega)])
    rw [HR.out]
    clear hm
    go_enter Tryd.func52, Tryd.ntmps52
    go_wp2_with fail
    go_ret
    exact ⟨rfl, rfl⟩
set_option maxRecDepth 100000 in
set_option maxHeartbeats 1000000 in
theorem together_any (fp : Nat) (cb : Array Value) (l : List Txt) (w : World) (eg : ∀ (args : Array Value) (w : World), (callFunc fp args).run Tryd.prog w = .ok (.enter fp args) w)
    (hP : ∀ i (hi : i < l.length) w', Below w.heap.size w w' → Calls Tryd.prog fp (#[.int .i64 i] ++ cb) w' fun e w'' => e = .returned (.string ⟨l[i].toArray⟩) ∧ w'' = w')
    (hx : ∀ x ∈ l, x.length ≤ 140737488351232) (hl : l.length ≤ 1000000) :
    Calls Tryd.prog 50 #[.int .i64 l.length, .func (.func fp) #[] cb] w fun e w' => e = .returned (.int .i64 (togS l)) ∧ Below w.heap.size w w' := by
  have HP := Lib.hid hP
  have HX := Lib.hid hx
  clear hP hx
  by_cases h256 : 256 < l.length
  · have HR := Lib.hid (show togS l = 7 by unfold togS; rw [if_pos h256])
    rw [HR.out]
    have j1 : (256 : Int) < (l.length : Int) := by omega
    go_enter Tryd.func50, Tryd.ntmps50
    go_wp2_with fail
    go_ret
    exact ⟨rfl, Below.refl _ _⟩
  · have HR := Lib.hid (show togF (some []) (l.drop 0) = togS l by unfold togS; rw [if_neg h256, tog_empty]; rfl)
    obtain ⟨res, hres⟩ : ∃ res, res = togS l := ⟨_, rfl⟩
    rw [← hres] at HR ⊢
    clear hres
    have j1 : ¬ (256 : Int) < (l.length : Int) := by omega
    go_enter Tryd.func50, Tryd.ntmps50
    go_wp2_with fail
    go_loopw [5, 6, 12] (fun v5 v6 v12 wr => ∃ (i : Nat) (q : Txt), i ≤ l.length ∧ v12 = .int .i64 i ∧ v5 = .string ⟨q.toArray⟩ ∧ q.length ≤ 140737488351232 ∧ Hid (togF (some q) (l.drop i) = res) ∧ Below w.heap.size w wr) (fun _ _ v12 _ => l.length - (intOf v12).toNat)
    case atStart => exact ⟨0, [], by omega, rfl, rfl, by simp, HR, Below.refl _ _⟩
    case round =>
      clear HR j1 h256
      obtain ⟨i, q, hi, rfl, rfl, hq, HA, hbel⟩ := hrel
      have HB := Lib.hid hbel
      clear hbel
      have i0 : (0 : Int) ≤ (i : Int) := by omega
      by_cases hlt : i < l.length
      · have j1 : (i : Int) < (l.length : Int) := by omega
        have PI := Lib.hid (HP.out i hlt wr HB.out)
        have hxs := HX.out l[i] (List.getElem_mem hlt)
        have HT := Lib.hid (show togF (some q) (l.drop i) = if pathS l[i] ≠ 0 then pathS l[i] else if ordS l[i] q < 0 then 12 else if l[i] = q ∨ withinS l[i] q = true then 9 else togF (some l[i]) (l.drop (i + 1)) by
          rw [List.drop_eq_getElem_cons hlt]; rfl)
        generalize l[i] = s at *
        have PA := Lib.hid (path_any s wr hxs)
        by_cases hp : pathS s = 0
        · have HT2 := Lib.hid (show (if ordS s q < 0 then 12 else if s = q ∨ withinS s q = true then 9 else togF (some s) (l.drop (i + 1))) = res by rw [← HA.out, HT.out]; exact (if_neg (by rw [hp]; decide)).symm)
          rw [hp] at PA
          clear HT hp HA
          have OA := fun w' => Lib.hid (order_any s q w' hxs hq)
          have WA := fun w' => Lib.hid (within_any s q w' hxs hq)
          by_cases ho : ordS s q < 0
          · have HR := Lib.hid (show 12 = res by rw [← HT2.out, if_pos ho])
            generalize ordS s q = od at *
            clear HT2 WA
            go_wp2_with fail
            refine PI.out.mono ?_
            rintro e w1 ⟨rfl, rfl⟩
            go_wp2_with fail
            refine PA.out.mono ?_
            rintro e w2 ⟨rfl, hb2⟩
            have HB2 := Lib.hid (HB.out.trans (hb2.mono HB.out.size))
            clear hb2
            go_wp2_with fail
            refine (OA _).out.mono ?_
            rintro e w3 ⟨rfl, hb3⟩
            have HB3 := Lib.hid (HB2.out.trans (hb3.mono HB2.out.size))
            clear hb3
            go_wp2_with fail
            go_ret
            exact ⟨by rw [← HR.out]; rfl, HB3.out⟩
          · have HT3 := Lib.hid (show (if s = q ∨ withinS s q = true then 9 else togF (some s) (l.drop (i + 1))) = res by rw [← HT2.out, if_neg ho])
            generalize ordS s q = od at *
            clear HT2
            by_cases hsq : s = q
            · have HR := Lib.hid (show 9 = res by rw [← HT3.out, if_pos (.inl hsq)])
              have qe : (s == q) = true := by simp [hsq]
              clear HT3 hsq WA
              go_wp2_with fail
              refine PI.out.mono ?_
              rintro e w1 ⟨rfl, rfl⟩
              go_wp2_with fail
              refine PA.out.mono ?_
              rintro e w2 ⟨rfl, hb2⟩
              have HB2 := Lib.hid (HB.out.trans (hb2.mono HB.out.size))
              clear hb2
              go_wp2_with fail
              refine (OA _).out.mono ?_
              rintro e w3 ⟨rfl, hb3⟩
              have HB3 := Lib.hid (HB2.out.trans (hb3.mono HB2.out.size))
              clear hb3
              go_wp2_with fail
              go_ret
              exact ⟨by rw [← HR.out]; rfl, HB3.out⟩
            · have qe : (s == q) = false := by simp [hsq]
              by_cases hwi : withinS s q = true
              · have HR := Lib.hid (show 9 = res by rw [← HT3.out, if_pos (.inr hwi)])
                rw [hwi] at WA
                clear HT3 hsq hwi
                go_wp2_with fail
                refine PI.out.mono ?_
                rintro e w1 ⟨rfl, rfl⟩
                go_wp2_with fail
                refine PA.out.mono ?_
                rintro e w2 ⟨rfl, hb2⟩
                have HB2 := Lib.hid (HB.out.trans (hb2.mono HB.out.size))
                clear hb2
                go_wp2_with fail
                refine (OA _).out.mono ?_
                rintro e w3 ⟨rfl, hb3⟩
                have HB3 := Lib.hid (HB2.out.trans (hb3.mono HB2.out.size))
                clear hb3
                go_wp2_with fail
                refine (WA _).out.mono ?_
                rintro e w4 ⟨rfl, rfl⟩
                go_wp2_with fail
                go_ret
                exact ⟨by rw [← HR.out]; rfl, HB3.out⟩
              · have HR := Lib.hid (show togF (some s) (l.drop (i + 1)) = res by rw [← HT3.out, if_neg (by rintro (h | h); exact hsq h; exact hwi h)])
                rw [Bool.not_eq_true] at hwi
                rw [hwi] at WA
                clear HT3 hsq hwi
                go_wp2_with fail
                refine PI.out.mono ?_
                rintro e w1 ⟨rfl, rfl⟩
                go_wp2_with fail
                refine PA.out.mono ?_
                rintro e w2 ⟨rfl, hb2⟩
                have HB2 := Lib.hid (HB.out.trans (hb2.mono HB.out.size))
                clear hb2
                go_wp2_with fail
                refine (OA _).out.mono ?_
                rintro e w3 ⟨rfl, hb3⟩
                have HB3 := Lib.hid (HB2.out.trans (hb3.mono HB2.out.size))
                clear hb3
                go_wp2_with fail
                refine (WA _).out.mono ?_
                rintro e w4 ⟨rfl, rfl⟩
                go_wp2_with fail
                go_roundw
                case rel => exact ⟨i + 1, s, hlt, by go_num, rfl, hxs, HR, HB3.out⟩
                case measure => simp [intOf]; omega
        · have HR := Lib.hid (show pathS s = res by rw [← HA.out, HT.out, if_pos hp])
          have qp : (pathS s != 0) = true := by simp [hp]
          generalize pathS s = pe at *
          clear HT hp HA
          go_wp2_with fail
          refine PI.out.mono ?_
          rintro e w1 ⟨rfl, rfl⟩
          go_wp2_with fail
          refine PA.out.mono ?_
          rintro e w2 ⟨rfl, hb2⟩
          have HB2 := Lib.hid (HB.out.trans (hb2.mono HB.out.size))
          clear hb2
          go_wp2_with fail
          go_ret
          exact ⟨by rw [← HR.out]; rfl, HB2.out⟩
      · obtain rfl : i = l.length := by omega
        have HR := Lib.hid (show 0 = res by rw [← HA.out, List.drop_eq_nil_of_le (Nat.le_refl _)]; rfl)
        have j1 : ¬ (l.length : Int) < (l.length : Int) := by omega
        go_wp2_with fail
        go_ret
        exact ⟨by rw [← HR.out]; rfl, HB.out⟩
end Go.Proofs.YtkfkfpfnpfpkaaaDoor

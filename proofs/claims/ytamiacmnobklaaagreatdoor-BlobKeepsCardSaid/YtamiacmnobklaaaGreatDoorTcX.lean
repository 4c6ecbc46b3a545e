/- Several texts in one: TogTW, CheckTW, RightTW, TreeW. -/
import Derived.Test.YtamiacmnobklaaaGreatDoorFrame
import Derived.Test.YtamiacmnobklaaaGreatDoorGen
import Derived.Test.YtamiacmnobklaaaGreatDoorMarkMath
import Derived.Test.YtamiacmnobklaaaGreatDoorOrderTW
import Derived.Test.YtamiacmnobklaaaGreatDoorOwnL
import Derived.Test.YtamiacmnobklaaaGreatDoorPthX
import Derived.Test.YtamiacmnobklaaaGreatDoorProg
import Derived.Test.YtamiacmnobklaaaGreatDoorCdX
import Derived.Test.YtamiacmnobklaaaGreatDoorRowN
import Derived.Test.YtamiacmnobklaaaGreatDoorRows
import Derived.Test.YtamiacmnobklaaaGreatDoorShelf
import Derived.Test.YtamiacmnobklaaaGreatDoorTreeMath
import Derived.BigQuiet
import Derived.Deep.Cut
import Derived.Deep.CutRange
import Derived.Deep.DeepCutAuto
import Derived.Deep.QuietTactic
import Derived.Laws.RangeAny
import Derived.Lib.Hide
import Derived.LoopTactic
import Derived.WalkKit
import Derived.WalkLawsBesides
import Derived.WalkSpells
import Derived.Test.YtamiacmnobklaaaGreatDoorArX
import Derived.Test.YtamiacmnobklaaaGreatDoorRfX
import Derived.BigRegion
import Derived.Deep.RegionHeld
import Derived.LoopIn
import Derived.LoopNIn
import Derived.OwnWalkIn
import Derived.RangeFuncBound
import Derived.RangeFuncCalls
import Derived.RangeFuncLeaves
import Derived.RangeFuncNested
import Derived.Shelf.Abstract
import Derived.Shelf.RegionOpen
import Derived.TacticsInMore
import Derived.Laws.IdiomStrings
import Derived.Laws.OwnMore
import Derived.Shelf.Strings.SplitCore
/- Landed tree: together, measures, walked. -/
set_option linter.unusedVariables false
namespace Go.Proofs.YtamiacmnobklaaaGreatDoor
open Go.RowKit

theorem tog_empty : ∀ l : List Txt, togF (some []) l = togF none l
  | [] => rfl
  | p :: r => by
    unfold togF
    by_cases h : pathS p = 0
    · rw [if_neg (by rw [h]; decide), if_neg (by rw [h]; decide)]
      have hp : p ≠ [] := by rintro rfl; exact absurd h (by decide)
      cases p with
      | nil => exact absurd rfl hp
      | cons c t =>
        have h1 : ¬ ordS (c :: t) [] < 0 := by show ¬ (1 : Int) < 0; decide
        have h2 : ¬ (c :: t = [] ∨ withinS (c :: t) [] = true) := by
          rintro (e | e)
          · cases e
          · unfold withinS at e
            rw [Bool.and_eq_true, beq_iff_eq] at e
            have hc : c = 47 := by have := e.2; simpa using this
            subst hc
            unfold pathS at h
            by_cases hl : 200 < (47 :: t).length
            · rw [if_pos hl] at h; exact absurd h (by decide)
            · rw [if_neg hl] at h
              have hn : (namesS (47 :: t)).all nameS = false := by
                have := names_some [] t (fun c h => by simp at h)
                rw [List.nil_append] at this
                rw [this]; rfl
              rw [hn] at h
              exact absurd h (by decide)
        dsimp only
        rw [if_neg h1, if_neg h2]
    · rw [if_pos h, if_pos h]
def measS (m z : Int) : Int := if m < 0 ∨ 511 < m then 11 else if z < 0 ∨ 65536 < z then 4 else 0
set_option maxRecDepth 100000 in
theorem measures_any (m z : Int) (w : World) : Calls Tryz.prog 99 #[.int .i64 m, .int .i64 z] w fun e w' => e = .returned (.int .i64 (measS m z)) ∧ w' = w := by
  by_cases h1 : m < 0
  · have HR := Lib.hid (show measS m z = 11 by unfold measS; rw [if_pos (.inl h1)])
    rw [HR.out]
    go_enter Tryz.func99, Tryz.ntmps99
    go_wp2_with fail
    go_ret
    exact ⟨rfl, rfl⟩
  by_cases h2 : 511 < m
  · have HR := Lib.hid (show measS m z = 11 by unfold measS; rw [if_pos (.inr h2)])
    rw [HR.out]
    go_enter Tryz.func99, Tryz.ntmps99
    go_wp2_with fail
    go_ret
    exact ⟨rfl, rfl⟩
  have hm : ¬ (m < 0 ∨ 511 < m) := by omega
  by_cases h3 : z < 0
  · have HR := Lib.hid (show measS m z = 4 by unfold measS; rw [if_neg hm, if_pos (.inl h3)])
    rw [HR.out]
    clear hm
    go_enter Tryz.func99, Tryz.ntmps99
    go_wp2_with fail
    go_ret
    exact ⟨rfl, rfl⟩
  by_cases h4 : 65536 < z
  · have HR := Lib.hid (show measS m z = 4 by unfold measS; rw [if_neg hm, if_pos (.inr h4)])
    rw [HR.out]
    clear hm
    go_enter Tryz.func99, Tryz.ntmps99
    go_wp2_with fail
    go_ret
    exact ⟨rfl, rfl⟩
  · have HR := Lib.hid (show measS m z = 0 by unfold measS; rw [if_neg hm, if_neg (by omega)])
    rw [HR.out]
    clear hm
    go_enter Tryz.func99, Tryz.ntmps99
    go_wp2_with fail
    go_ret
    exact ⟨rfl, rfl⟩
set_option maxRecDepth 100000 in
set_option maxHeartbeats 1000000 in
theorem together_any (fp : Nat) (cb : Array Value) (l : List Txt) (w : World) (eg : ∀ (args : Array Value) (w : World), (callFunc fp args).run Tryz.prog w = .ok (.enter fp args) w)
    (hP : ∀ i (hi : i < l.length) w', Below w.heap.size w w' → Calls Tryz.prog fp (#[.int .i64 i] ++ cb) w' fun e w'' => e = .returned (.string ⟨l[i].toArray⟩) ∧ w'' = w')
    (hx : ∀ x ∈ l, x.length ≤ 140737488351232) (hl : l.length ≤ 1000000) :
    Calls Tryz.prog 97 #[.int .i64 l.length, .func (.func fp) #[] cb] w fun e w' => e = .returned (.int .i64 (togS l)) ∧ Below w.heap.size w w' := by
  have HP := Lib.hid hP
  have HX := Lib.hid hx
  clear hP hx
  by_cases h256 : 256 < l.length
  · have HR := Lib.hid (show togS l = 7 by unfold togS; rw [if_pos h256])
    rw [HR.out]
    have j1 : (256 : Int) < (l.length : Int) := by omega
    go_enter Tryz.func97, Tryz.ntmps97
    go_wp2_with fail
    go_ret
    exact ⟨rfl, Below.refl _ _⟩
  · have HR := Lib.hid (show togF (some []) (l.drop 0) = togS l by unfold togS; rw [if_neg h256, tog_empty]; rfl)
    obtain ⟨res, hres⟩ : ∃ res, res = togS l := ⟨_, rfl⟩
    rw [← hres] at HR ⊢
    clear hres
    have j1 : ¬ (256 : Int) < (l.length : Int) := by omega
    go_enter Tryz.func97, Tryz.ntmps97
    go_wp2_with fail
    go_loopw [5, 6, 12] (fun v5 v6 v12 wr => ∃ (i : Nat) (q : Txt), i ≤ l.length ∧ v12 = .int .i64 i ∧ v5 = .string ⟨q.toArray⟩ ∧ q.length ≤ 140737488351232 ∧ Hid (togF (some q) (l.drop i) = res) ∧ Below w.heap.size w wr) (fun _ _ v12 _ => l.length - (intOf v12).toNat)
    case atStart => exact ⟨0, [], by omega, rfl, rfl, by simp, HR, Below.refl _ _⟩
    case round =>
      clear HR j1 h256
      obtain ⟨i, q, hi, rfl, rfl, hq, HA, hbel⟩ := hrel
      have HB := Lib.hid hbel
      clear hbel
      have i0 : (0 : Int) ≤ (i : Int) := by omega
      by_cases hlt : i < l.length
      · have j1 : (i : Int) < (l.length : Int) := by omega
        have PI := Lib.hid (HP.out i hlt wr HB.out)
        have hxs := HX.out l[i] (List.getElem_mem hlt)
        have HT := Lib.hid (show togF (some q) (l.drop i) = if pathS l[i] ≠ 0 then pathS l[i] else if ordS l[i] q < 0 then 12 else if l[i] = q ∨ withinS l[i] q = true then 9 else togF (some l[i]) (l.drop (i + 1)) by
          rw [List.drop_eq_getElem_cons hlt]; rfl)
        generalize l[i] = s at *
        have PA := Lib.hid (path_any s wr hxs)
        by_cases hp : pathS s = 0
        · have HT2 := Lib.hid (show (if ordS s q < 0 then 12 else if s = q ∨ withinS s q = true then 9 else togF (some s) (l.drop (i + 1))) = res by rw [← HA.out, HT.out]; exact (if_neg (by rw [hp]; decide)).symm)
          rw [hp] at PA
          clear HT hp HA
          have OA := fun w' => Lib.hid (order_any s q w' hxs hq)
          have WA := fun w' => Lib.hid (within_any s q w' hxs hq)
          by_cases ho : ordS s q < 0
          · have HR := Lib.hid (show 12 = res by rw [← HT2.out, if_pos ho])
            generalize ordS s q = od at *
            clear HT2 WA
            go_wp2_with fail
            refine PI.out.mono ?_
            rintro e w1 ⟨rfl, rfl⟩
            go_wp2_with fail
            refine PA.out.mono ?_
            rintro e w2 ⟨rfl, hb2⟩
            have HB2 := Lib.hid (HB.out.trans (hb2.mono HB.out.size))
            clear hb2
            go_wp2_with fail
            refine (OA _).out.mono ?_
            rintro e w3 ⟨rfl, hb3⟩
            have HB3 := Lib.hid (HB2.out.trans (hb3.mono HB2.out.size))
            clear hb3
            go_wp2_with fail
            go_ret
            exact ⟨by rw [← HR.out]; rfl, HB3.out⟩
          · have HT3 := Lib.hid (show (if s = q ∨ withinS s q = true then 9 else togF (some s) (l.drop (i + 1))) = res by rw [← HT2.out, if_neg ho])
            generalize ordS s q = od at *
            clear HT2
            by_cases hsq : s = q
            · have HR := Lib.hid (show 9 = res by rw [← HT3.out, if_pos (.inl hsq)])
              have qe : (s == q) = true := by simp [hsq]
              clear HT3 hsq WA
              go_wp2_with fail
              refine PI.out.mono ?_
              rintro e w1 ⟨rfl, rfl⟩
              go_wp2_with fail
              refine PA.out.mono ?_
              rintro e w2 ⟨rfl, hb2⟩
              have HB2 := Lib.hid (HB.out.trans (hb2.mono HB.out.size))
              clear hb2
              go_wp2_with fail
              refine (OA _).out.mono ?_
              rintro e w3 ⟨rfl, hb3⟩
              have HB3 := Lib.hid (HB2.out.trans (hb3.mono HB2.out.size))
              clear hb3
              go_wp2_with fail
              go_ret
              exact ⟨by rw [← HR.out]; rfl, HB3.out⟩
            · have qe : (s == q) = false := by simp [hsq]
              by_cases hwi : withinS s q = true
              · have HR := Lib.hid (show 9 = res by rw [← HT3.out, if_pos (.inr hwi)])
                rw [hwi] at WA
                clear HT3 hsq hwi
                go_wp2_with fail
                refine PI.out.mono ?_
                rintro e w1 ⟨rfl, rfl⟩
                go_wp2_with fail
                refine PA.out.mono ?_
                rintro e w2 ⟨rfl, hb2⟩
                have HB2 := Lib.hid (HB.out.trans (hb2.mono HB.out.size))
                clear hb2
                go_wp2_with fail
                refine (OA _).out.mono ?_
                rintro e w3 ⟨rfl, hb3⟩
                have HB3 := Lib.hid (HB2.out.trans (hb3.mono HB2.out.size))
                clear hb3
                go_wp2_with fail
                refine (WA _).out.mono ?_
                rintro e w4 ⟨rfl, rfl⟩
                go_wp2_with fail
                go_ret
                exact ⟨by rw [← HR.out]; rfl, HB3.out⟩
              · have HR := Lib.hid (show togF (some s) (l.drop (i + 1)) = res by rw [← HT3.out, if_neg (by rintro (h | h); exact hsq h; exact hwi h)])
                rw [Bool.not_eq_true] at hwi
                rw [hwi] at WA
                clear HT3 hsq hwi
                go_wp2_with fail
                refine PI.out.mono ?_
                rintro e w1 ⟨rfl, rfl⟩
                go_wp2_with fail
                refine PA.out.mono ?_
                rintro e w2 ⟨rfl, hb2⟩
                have HB2 := Lib.hid (HB.out.trans (hb2.mono HB.out.size))
                clear hb2
                go_wp2_with fail
                refine (OA _).out.mono ?_
                rintro e w3 ⟨rfl, hb3⟩
                have HB3 := Lib.hid (HB2.out.trans (hb3.mono HB2.out.size))
                clear hb3
                go_wp2_with fail
                refine (WA _).out.mono ?_
                rintro e w4 ⟨rfl, rfl⟩
                go_wp2_with fail
                go_roundw
                case rel => exact ⟨i + 1, s, hlt, by go_num, rfl, hxs, HR, HB3.out⟩
                case measure => simp [intOf]; omega
        · have HR := Lib.hid (show pathS s = res by rw [← HA.out, HT.out, if_pos hp])
          have qp : (pathS s != 0) = true := by simp [hp]
          generalize pathS s = pe at *
          clear HT hp HA
          go_wp2_with fail
          refine PI.out.mono ?_
          rintro e w1 ⟨rfl, rfl⟩
          go_wp2_with fail
          refine PA.out.mono ?_
          rintro e w2 ⟨rfl, hb2⟩
          have HB2 := Lib.hid (HB.out.trans (hb2.mono HB.out.size))
          clear hb2
          go_wp2_with fail
          go_ret
          exact ⟨by rw [← HR.out]; rfl, HB2.out⟩
      · obtain rfl : i = l.length := by omega
        have HR := Lib.hid (show 0 = res by rw [← HA.out, List.drop_eq_nil_of_le (Nat.le_refl _)]; rfl)
        have j1 : ¬ (l.length : Int) < (l.length : Int) := by omega
        go_wp2_with fail
        go_ret
        exact ⟨by rw [← HR.out]; rfl, HB.out⟩
end Go.Proofs.YtamiacmnobklaaaGreatDoor
/- Landed tree: Check, walked. -/
set_option linter.unusedVariables false
namespace Go.Proofs.YtamiacmnobklaaaGreatDoor
open Go.RowKit

theorem measS_file (x : FileD) : measS x.mode x.data.length = fileE x := by
  unfold measS fileE
  by_cases h : x.mode < 0 ∨ 511 < x.mode
  · rw [if_pos h, if_pos h]
  · rw [if_neg h, if_neg h]
    by_cases h2 : 65536 < x.data.length
    · rw [if_pos (by omega), if_pos h2]
    · rw [if_neg (by omega), if_neg h2]
set_option maxRecDepth 100000 in
theorem checkPath_any (bx g o n c : Nat) (x : FileD) (i : Nat) (w : World) (hb : w.cell? ⟨bx, 0, none⟩ = some (.slice (some ⟨g, o, none⟩) n c)) (hi : i < n) (hn : n ≤ 1000000) (hel : ElAt encF w g (o + i * 3) x) :
    Calls Tryz.prog 98 #[.int .i64 i, .pointer (some ⟨bx, 0, none⟩)] w fun e w' => e = .returned (.string ⟨x.path.toArray⟩) ∧ w' = w := by
  have c0 := hel.f0
  have j1 : (i : Int) < (n : Int) := by omega
  clear hel
  go_enter Tryz.func98, Tryz.ntmps98
  go_wp2_with fail
  go_ret
  exact ⟨rfl, rfl⟩
set_option maxRecDepth 100000 in
set_option maxHeartbeats 1000000 in
theorem check_any (v : Value) (xs : List FileD) (w : World) (hrow : RowN encF 3 (fun _ => True) w v xs) (hok : ∀ x ∈ xs, FileOk x) (hl : xs.length ≤ 1000000) :
    Calls Tryz.prog 63 #[v] w fun e w' => e = .returned (.int .i64 (checkS xs)) ∧ Below w.heap.size w w' := by
  obtain ⟨va, vc, hv, _⟩ := hrow.slice
  subst hv
  have HOK := Lib.hid hok
  have HCS := Lib.hid (show (if togS (xs.map (·.path)) ≠ 0 then togS (xs.map (·.path)) else firstE fileE (xs.drop 0)) = checkS xs from rfl)
  generalize checkS xs = res at *
  have B0 := Lib.hid ((Below.refl w.heap.size w).alloc (Nat.le_refl _) (.cells #[.slice va xs.length vc] 26))
  have HRO := Lib.hid (hrow.keep B0.out)
  have C0 := Lib.hid (cell1 w (.slice va xs.length vc) 26)
  have hpl : (xs.map (·.path)).length = xs.length := List.length_map _
  have TG := Lib.hid (fun w1 (hw : w1 = w.alloc (.cells #[.slice va xs.length vc] 26)) => by
    subst hw
    have h := together_any 98 #[.pointer (some ⟨w.heap.size, 0, none⟩)] (xs.map (·.path)) (w.alloc (.cells #[.slice va xs.length vc] 26)) (enters_of Tryz.func98 (by kernel_rfl) rfl)
      (fun i hi w' hb => by
        have hi' : i < xs.length := by rw [← hpl]; exact hi
        obtain ⟨g, o, hva, hel⟩ := HRO.out.el hi'
        have hc := (hb.cell (p := ⟨w.heap.size, 0, none⟩) (by simp)).trans C0.out
        rw [hva] at hc
        have := checkPath_any w.heap.size g o xs.length vc xs[i] i w' hc hi' hl ((hel i hi').new hb)
        rw [List.getElem_map]
        exact this)
      (fun x hx => by obtain ⟨y, hy, rfl⟩ := List.mem_map.1 hx; exact (HOK.out y hy).p) (by rw [hpl]; exact hl)
    rw [hpl] at h
    exact h)
  clear hrow hok hpl
  go_enter Tryz.func63, Tryz.ntmps63
  go_wp2_with fail
  have T1 := Lib.hid (TG.out _ rfl)
  refine T1.out.mono ?_
  rintro e w1 ⟨rfl, hb1⟩
  have HB1 := Lib.hid (B0.out.trans (hb1.mono (by have := B0.out.size; omega)))
  have c1 := (hb1.cell (p := ⟨w.heap.size, 0, none⟩) (by simp)).trans C0.out
  have HRN := Lib.hid (HRO.out.keep hb1)
  clear hb1 TG T1 B0 HRO C0
  by_cases ht : togS (xs.map (·.path)) = 0
  · have q1 : (togS (xs.map (·.path)) != 0) = false := by rw [ht]; rfl
    rw [if_neg (by rw [ht]; simp)] at HCS
    generalize togS (xs.map (·.path)) = te at *
    clear ht
    go_wp2_with fail
    clear c1 q1
    go_loopw [16] (fun v16 wr => ∃ k : Nat, k ≤ xs.length ∧ v16 = .int .i64 k ∧ Hid (firstE fileE (xs.drop k) = res) ∧ Below w1.heap.size w1 wr) (fun v16 _ => xs.length - (intOf v16).toNat)
    case atStart => exact ⟨0, by omega, rfl, HCS, Below.refl _ _⟩
    case round =>
      clear HCS
      obtain ⟨k, hk, rfl, HA, hbel⟩ := hrel
      have HB := Lib.hid hbel
      clear hbel
      have k0 : (0 : Int) ≤ (k : Int) := by omega
      by_cases hlk : k < xs.length
      · have m1 : (k : Int) < (xs.length : Int) := by omega
        have HT := Lib.hid (firstE_at fileE xs k hlk)
        obtain ⟨g, o, rfl, hel⟩ := HRN.out.el hlk
        have hel1 := (hel k hlk).new HB.out
        have c0 := hel1.f0
        have c1 := hel1.f1
        have c2 := hel1.f2
        have HM := Lib.hid (measS_file xs[k])
        have hdl := (HOK.out xs[k] (List.getElem_mem hlk)).d
        have ME := fun w' => Lib.hid (measures_any xs[k].mode xs[k].data.length w')
        rw [HM.out] at ME
        clear hel hel1 HM
        obtain ⟨er, her⟩ : ∃ er, er = fileE xs[k] := ⟨_, rfl⟩
        rw [← her] at HT ME
        clear her
        generalize xs[k] = x at *
        obtain ⟨p, md, dt⟩ := x
        dsimp only at c0 c1 c2 hdl ME
        have SD := Lib.hid (show (⟨dt.toArray⟩ : ByteArray).size = dt.length from rfl)
        go_wp2_with fail
        refine (ME _).out.mono ?_
        rintro e w4 ⟨rfl, rfl⟩
        have HB4 := Lib.hid (HB.out.alloc HB.out.size (.cells #[.string ⟨p.toArray⟩, .int .i64 md, .string ⟨dt.toArray⟩] 80))
        by_cases her : er = 0
        · have q1 : (er != 0) = false := by simp [her]
          have HN := Lib.hid (show firstE fileE (xs.drop (k + 1)) = res by rw [← HA.out, HT.out]; exact (if_neg (fun h => h her)).symm)
          clear HT HA her
          go_wp2_with fail
          go_roundw
          case rel => exact ⟨k + 1, hlk, by go_num, HN, HB4.out⟩
          case measure => simp [intOf]; omega
        · have q1 : (er != 0) = true := by simp [her]
          have HN := Lib.hid (show er = res by rw [← HA.out, HT.out]; exact (if_pos her).symm)
          clear HT HA her
          go_wp2_with fail
          go_ret
          exact ⟨by rw [← HN.out]; rfl, HB1.out.trans (HB4.out.mono HB1.out.size)⟩
      · obtain rfl : k = xs.length := by omega
        have HN := Lib.hid (show 0 = res by rw [← HA.out, List.drop_eq_nil_of_le (Nat.le_refl _)]; rfl)
        have m1 : ¬ (xs.length : Int) < (xs.length : Int) := by omega
        go_wp2_with fail
        go_ret
        exact ⟨by rw [← HN.out]; rfl, HB1.out.trans (HB.out.mono HB1.out.size)⟩
  · have q1 : (togS (xs.map (·.path)) != 0) = true := by simp [ht]
    have HN := Lib.hid (show togS (xs.map (·.path)) = res by rw [← HCS.out, if_pos ht])
    generalize togS (xs.map (·.path)) = te at *
    clear ht HCS
    go_wp2_with fail
    go_ret
    exact ⟨by rw [← HN.out]; rfl, HB1.out⟩
end Go.Proofs.YtamiacmnobklaaaGreatDoor
/- Landed tree: Right, walked. -/
set_option linter.unusedVariables false
namespace Go.Proofs.YtamiacmnobklaaaGreatDoor
open Go.RowKit

theorem measS_item (x : ItemD) : itemE x = if measS x.mode x.size ≠ 0 then measS x.mode x.size else if x.mark.length ≠ 32 then 5 else 0 := by
  unfold measS itemE
  by_cases h : x.mode < 0 ∨ 511 < x.mode
  · rw [if_pos h, if_pos h]; rfl
  · rw [if_neg h, if_neg h]
    by_cases h2 : x.size < 0 ∨ 65536 < x.size
    · rw [if_pos h2, if_pos h2]; rfl
    · rw [if_neg h2, if_neg h2]; rfl
set_option maxRecDepth 100000 in
theorem rightPath_any (bx g o n c : Nat) (x : ItemD) (i : Nat) (w : World) (hb : w.cell? ⟨bx, 0, none⟩ = some (.slice (some ⟨g, o, none⟩) n c)) (hi : i < n) (hn : n ≤ 1000000) (hel : ElAt encI w g (o + i * 4) x) :
    Calls Tryz.prog 100 #[.int .i64 i, .pointer (some ⟨bx, 0, none⟩)] w fun e w' => e = .returned (.string ⟨x.path.toArray⟩) ∧ w' = w := by
  have c0 := hel.i0
  have j1 : (i : Int) < (n : Int) := by omega
  clear hel
  go_enter Tryz.func100, Tryz.ntmps100
  go_wp2_with fail
  go_ret
  exact ⟨rfl, rfl⟩
set_option maxRecDepth 100000 in
set_option maxHeartbeats 1000000 in
theorem right_any (v : Value) (xs : List ItemD) (w : World) (hrow : RowN encI 4 (fun _ => True) w v xs) (hok : ∀ x ∈ xs, ItemOk x) (hl : xs.length ≤ 1000000) :
    Calls Tryz.prog 64 #[v] w fun e w' => e = .returned (.int .i64 (rightS xs)) ∧ Below w.heap.size w w' := by
  obtain ⟨va, vc, hv, _⟩ := hrow.slice
  subst hv
  have HOK := Lib.hid hok
  have HCS := Lib.hid (show (if togS (xs.map (·.path)) ≠ 0 then togS (xs.map (·.path)) else firstE itemE (xs.drop 0)) = rightS xs from rfl)
  generalize rightS xs = res at *
  have B0 := Lib.hid ((Below.refl w.heap.size w).alloc (Nat.le_refl _) (.cells #[.slice va xs.length vc] 74))
  have HRO := Lib.hid (hrow.keep B0.out)
  have C0 := Lib.hid (cell1 w (.slice va xs.length vc) 74)
  have hpl : (xs.map (·.path)).length = xs.length := List.length_map _
  have TG := Lib.hid (fun w1 (hw : w1 = w.alloc (.cells #[.slice va xs.length vc] 74)) => by
    subst hw
    have h := together_any 100 #[.pointer (some ⟨w.heap.size, 0, none⟩)] (xs.map (·.path)) (w.alloc (.cells #[.slice va xs.length vc] 74)) (enters_of Tryz.func100 (by kernel_rfl) rfl)
      (fun i hi w' hb => by
        have hi' : i < xs.length := by rw [← hpl]; exact hi
        obtain ⟨g, o, hva, hel⟩ := HRO.out.el hi'
        have hc := (hb.cell (p := ⟨w.heap.size, 0, none⟩) (by simp)).trans C0.out
        rw [hva] at hc
        have := rightPath_any w.heap.size g o xs.length vc xs[i] i w' hc hi' hl ((hel i hi').new hb)
        rw [List.getElem_map]
        exact this)
      (fun x hx => by obtain ⟨y, hy, rfl⟩ := List.mem_map.1 hx; exact (HOK.out y hy).p) (by rw [hpl]; exact hl)
    rw [hpl] at h
    exact h)
  clear hrow hok hpl
  go_enter Tryz.func64, Tryz.ntmps64
  go_wp2_with fail
  have T1 := Lib.hid (TG.out _ rfl)
  refine T1.out.mono ?_
  rintro e w1 ⟨rfl, hb1⟩
  have HB1 := Lib.hid (B0.out.trans (hb1.mono (by have := B0.out.size; omega)))
  have c1 := (hb1.cell (p := ⟨w.heap.size, 0, none⟩) (by simp)).trans C0.out
  have HRN := Lib.hid (HRO.out.keep hb1)
  clear hb1 TG T1 B0 HRO C0
  by_cases ht : togS (xs.map (·.path)) = 0
  · have q1 : (togS (xs.map (·.path)) != 0) = false := by rw [ht]; rfl
    rw [if_neg (by rw [ht]; simp)] at HCS
    generalize togS (xs.map (·.path)) = te at *
    clear ht
    go_wp2_with fail
    clear c1 q1
    go_loopw [16] (fun v16 wr => ∃ k : Nat, k ≤ xs.length ∧ v16 = .int .i64 k ∧ Hid (firstE itemE (xs.drop k) = res) ∧ Below w1.heap.size w1 wr) (fun v16 _ => xs.length - (intOf v16).toNat)
    case atStart => exact ⟨0, by omega, rfl, HCS, Below.refl _ _⟩
    case round =>
      clear HCS
      obtain ⟨k, hk, rfl, HA, hbel⟩ := hrel
      have HB := Lib.hid hbel
      clear hbel
      have k0 : (0 : Int) ≤ (k : Int) := by omega
      by_cases hlk : k < xs.length
      · have m1 : (k : Int) < (xs.length : Int) := by omega
        have HT := Lib.hid (firstE_at itemE xs k hlk)
        obtain ⟨g, o, rfl, hel⟩ := HRN.out.el hlk
        have hel1 := (hel k hlk).new HB.out
        have c0 := hel1.i0
        have c1 := hel1.i1
        have c2 := hel1.i2
        have c3 := hel1.i3
        have HM := Lib.hid (measS_item xs[k])
        have hdl := (HOK.out xs[k] (List.getElem_mem hlk)).k
        have ME := fun w' => Lib.hid (measures_any xs[k].mode xs[k].size w')
        clear hel hel1
        obtain ⟨er, her⟩ : ∃ er, er = itemE xs[k] := ⟨_, rfl⟩
        rw [← her] at HT HM
        clear her
        obtain ⟨me, hme⟩ : ∃ me, me = measS xs[k].mode xs[k].size := ⟨_, rfl⟩
        rw [← hme] at HM ME
        clear hme
        generalize xs[k] = x at *
        obtain ⟨p, md, sz, mk⟩ := x
        dsimp only at c0 c1 c2 c3 hdl ME HM
        have SD := Lib.hid (show (⟨mk.toArray⟩ : ByteArray).size = mk.length from rfl)
        go_wp2_with fail
        refine (ME _).out.mono ?_
        rintro e w4 ⟨rfl, rfl⟩
        have HB4 := Lib.hid (HB.out.alloc HB.out.size (.cells #[.string ⟨p.toArray⟩, .int .i64 md, .int .i64 sz, .string ⟨mk.toArray⟩] 78))
        by_cases hme : me = 0
        · have q1 : (me != 0) = false := by simp [hme]
          by_cases hmk : mk.length = 32
          · have q2 : ((mk.length : Int) != 32) = false := by rw [hmk]; rfl
            have her : er = 0 := by rw [HM.out, if_neg (fun h => h hme), if_neg (fun h => h hmk)]
            have HN := Lib.hid (show firstE itemE (xs.drop (k + 1)) = res by rw [← HA.out, HT.out]; exact (if_neg (fun h => h her)).symm)
            clear HT HA her HM hme hmk
            go_wp2_with fail
            go_roundw
            case rel => exact ⟨k + 1, hlk, by go_num, HN, HB4.out⟩
            case measure => simp [intOf]; omega
          · have q2 : ((mk.length : Int) != 32) = true := by rw [bne_iff_ne]; omega
            have her : er = 5 := by rw [HM.out, if_neg (fun h => h hme), if_pos hmk]
            have HN := Lib.hid (show 5 = res by rw [← HA.out, HT.out, her]; rfl)
            clear HT HA her HM hme hmk
            go_wp2_with fail
            go_ret
            exact ⟨by rw [← HN.out]; rfl, HB1.out.trans (HB4.out.mono HB1.out.size)⟩
        · have q1 : (me != 0) = true := by simp [hme]
          have her : er = me := by rw [HM.out, if_pos hme]
          have HN := Lib.hid (show me = res by rw [← HA.out, HT.out, her]; exact (if_pos hme).symm)
          clear HT HA her HM hme
          go_wp2_with fail
          go_ret
          exact ⟨by rw [← HN.out]; rfl, HB1.out.trans (HB4.out.mono HB1.out.size)⟩
      · obtain rfl : k = xs.length := by omega
        have HN := Lib.hid (show 0 = res by rw [← HA.out, List.drop_eq_nil_of_le (Nat.le_refl _)]; rfl)
        have m1 : ¬ (xs.length : Int) < (xs.length : Int) := by omega
        go_wp2_with fail
        go_ret
        exact ⟨by rw [← HN.out]; rfl, HB1.out.trans (HB.out.mono HB1.out.size)⟩
  · have q1 : (togS (xs.map (·.path)) != 0) = true := by simp [ht]
    have HN := Lib.hid (show togS (xs.map (·.path)) = res by rw [← HCS.out, if_pos ht])
    generalize togS (xs.map (·.path)) = te at *
    clear ht HCS
    go_wp2_with fail
    go_ret
    exact ⟨by rw [← HN.out]; rfl, HB1.out⟩
end Go.Proofs.YtamiacmnobklaaaGreatDoor
/- The contracts of the landed tree that the laws name: Path, Order, Match, Check, Right, Pattern. -/
set_option linter.unusedVariables false
namespace Go.Proofs.YtamiacmnobklaaaGreatDoor
open Go.RowKit

/-- Below 0, 0, above. -/
def sgn (n : Int) : Int := if n < 0 then -1 else if 0 < n then 1 else 0
theorem sgn_ord (a b : Txt) : sgn (ordS a b) = ordS a b := by
  rcases ordS_range a b with h | h | h <;> rw [h] <;> rfl
theorem tPath_any (s : Txt) (w : World) (hs : s.length ≤ 140737488351232) :
    Calls Tryz.prog 128 #[.string ⟨s.toArray⟩] w fun e w' => e = .returned (.int .i64 (pathS s)) ∧ Below w.heap.size w w' := path_any s w hs
theorem tOrder_any (a b : Txt) (w : World) (ha : a.length ≤ 140737488351232) (hb : b.length ≤ 140737488351232) :
    Calls Tryz.prog 129 #[.string ⟨a.toArray⟩, .string ⟨b.toArray⟩] w fun e w' => ∃ n : Int, e = .returned (.int .i64 n) ∧ sgn n = ordS a b ∧ Below w.heap.size w w' :=
  (order_any a b w ha hb).mono fun e w' ⟨h1, h2⟩ => ⟨_, h1, sgn_ord a b, h2⟩
theorem tCheck_any (v : Value) (xs : List FileD) (w : World) (hrow : RowN encF 3 (fun _ => True) w v xs) (hok : ∀ x ∈ xs, FileOk x) (hl : xs.length ≤ 10000) :
    Calls Tryz.prog 63 #[v] w fun e w' => e = .returned (.int .i64 (checkS xs)) ∧ Below w.heap.size w w' := check_any v xs w hrow hok (by omega)
theorem tRight_any (v : Value) (l : List ItemD) (w : World) (hrow : RowN encI 4 (fun _ => True) w v l) (hok : ∀ x ∈ l, ItemOk x) (hl : l.length ≤ 10000) :
    Calls Tryz.prog 64 #[v] w fun e w' => e = .returned (.int .i64 (rightS l)) ∧ Below w.heap.size w w' := right_any v l w hrow hok (by omega)
end Go.Proofs.YtamiacmnobklaaaGreatDoor

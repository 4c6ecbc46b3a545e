/- The document's together, Check, Right. -/
import Derived.Test.YtamiacmnobklaaaGreatDoorFrame
import Derived.Test.YtamiacmnobklaaaGreatDoorGen
import Derived.Test.YtamiacmnobklaaaGreatDoorMarkMath
import Derived.Test.YtamiacmnobklaaaGreatDoorOwnL
import Derived.Test.YtamiacmnobklaaaGreatDoorQuietLaw
import Derived.Test.YtamiacmnobklaaaGreatDoorCdX
import Derived.Test.YtamiacmnobklaaaGreatDoorRefNamesW
import Derived.Test.YtamiacmnobklaaaGreatDoorRefOrdW
import Derived.Test.YtamiacmnobklaaaGreatDoorRowN
import Derived.Test.YtamiacmnobklaaaGreatDoorRows
import Derived.Test.YtamiacmnobklaaaGreatDoorTreeMath
import Derived.BigQuiet
import Derived.Lib.Hide
import Derived.WalkKit
import Derived.WalkLawsBesides
import Derived.WalkSpells
set_option linter.unusedVariables false
namespace Go.Proofs.YtamiacmnobklaaaGreatDoor
open Go.RowKit

def togAt (l : List Txt) (i : Nat) : Int := togF (if i = 0 then none else l[i - 1]?) (l.drop i)
theorem togAt_step (l : List Txt) (i : Nat) (h : i < l.length) : togAt l i = if pathS l[i] ≠ 0 then pathS l[i] else if i = 0 then togAt l (i + 1) else
    if ordS l[i] (l[i - 1]'(by omega)) < 0 then 12 else if l[i] = l[i - 1]'(by omega) ∨ withinS l[i] (l[i - 1]'(by omega)) = true then 9 else togAt l (i + 1) := by
  unfold togAt
  rw [List.drop_eq_getElem_cons h, if_neg (show ¬ i + 1 = 0 by omega), Nat.add_sub_cancel, List.getElem?_eq_getElem h]
  by_cases h0 : i = 0
  · subst h0
    rw [if_pos rfl, if_pos rfl]
    rfl
  · rw [if_neg h0, if_neg h0, List.getElem?_eq_getElem (by omega)]
    rfl
theorem togAt_end (l : List Txt) : togAt l l.length = 0 := by
  unfold togAt
  rw [List.drop_eq_nil_of_le (Nat.le_refl _)]
  split <;> simp [togF]
theorem Row.cell_at {α : Type} {enc : α → Value} {N : Nat → Prop} {w : World} {a : Option Addr} {m c : Nat} {xs : List α} (h : Row enc N w (.slice a m c) xs) {i : Nat} (hi : i < xs.length) : ∃ g o, a = some ⟨g, o, none⟩ ∧ ∀ k (hk : k < xs.length), w.cell? ⟨g, o + k, none⟩ = some (enc xs[k]) := by
  obtain ⟨a', c', hv, hc⟩ := h
  injection hv with e1 _ _
  subst e1
  obtain ⟨g, o, rfl, _, _⟩ := hc i hi
  refine ⟨g, o, rfl, fun k hk => ?_⟩
  obtain ⟨g', o', he, _, h'⟩ := hc k hk
  simp at he
  obtain ⟨rfl, rfl⟩ := he
  exact h'
set_option maxRecDepth 100000 in
set_option maxHeartbeats 2000000 in
theorem refTog_any (v : Value) (l : List Txt) (w : World) (hrow : Row strE (fun _ => True) w v l) (hx : ∀ x ∈ l, x.length ≤ 140737488351232) (hll : l.length ≤ 1000000) :
    Calls Tryz.prog 43 #[v] w fun e w' => e = .returned (.int .i64 (togS l)) ∧ Below w.heap.size w w' := by
  obtain ⟨va, vc, hv⟩ : ∃ a c, v = .slice a l.length c := by obtain ⟨a, c, hv, _⟩ := hrow; exact ⟨a, c, hv⟩
  subst hv
  by_cases h : 256 < l.length
  · have j : (256 : Int) < (l.length : Int) := by omega
    have HR := Lib.hid (show togS l = 7 from if_pos h)
    clear h
    go_enter Tryz.func43, Tryz.ntmps43
    go_wp2_with fail
    go_ret
    exact ⟨by rw [HR.out]; rfl, Below.refl _ _⟩
  · have j : ¬ (256 : Int) < (l.length : Int) := by omega
    have HR := Lib.hid (show togAt l 0 = togS l by unfold togS; rw [if_neg h]; rfl)
    have HX := Lib.hid hx
    have HRO := Lib.hid hrow
    have hlb : l.length ≤ 256 := by omega
    generalize togS l = res at *
    clear h hx hrow
    go_enter Tryz.func43, Tryz.ntmps43
    go_wp2_with fail
    go_loopw [3] (fun v3 wr => ∃ i : Nat, i ≤ l.length ∧ v3 = .int .i64 i ∧ Hid (togAt l i = res) ∧ Below w.heap.size w wr) (fun v3 _ => l.length - (intOf v3).toNat)
    case atStart => exact ⟨0, by omega, rfl, HR, Below.refl _ _⟩
    case round =>
      clear HR
      obtain ⟨i, hi, rfl, HA, hbel⟩ := hrel
      have HB := Lib.hid hbel
      clear hbel
      have i0 : (0 : Int) ≤ (i : Int) := by omega
      by_cases hlt : i < l.length
      · have j1 : (i : Int) < (l.length : Int) := by omega
        have HT := Lib.hid (togAt_step l i hlt)
        obtain ⟨g, o, rfl, hcell⟩ := HRO.out.cell_at hlt
        have HC := Lib.hid hcell
        have c1 : wr.cell? ⟨g, o + i, none⟩ = some (.string ⟨l[i].toArray⟩) := (HB.out.cell (p := ⟨g, o + i, none⟩) (World.block_lt_of_cell? w _ (hcell i hlt))).trans (hcell i hlt)
        have hxl := HX.out l[i] (List.getElem_mem hlt)
        have PA := Lib.hid (refPath_any l[i] wr hxl)
        by_cases hp : pathS l[i] = 0
        · rw [hp] at PA
          have HC2 := Lib.hid (fun w' (hb : Below wr.heap.size wr w') (k : Nat) (hk : k < l.length) => show w'.cell? ⟨g, o + k, none⟩ = some (.string ⟨l[k].toArray⟩) from
            ((HB.out.trans (hb.mono HB.out.size)).cell (p := ⟨g, o + k, none⟩) (World.block_lt_of_cell? w _ (hcell k hk))).trans (hcell k hk))
          by_cases hi0 : i = 0
          · have HN := Lib.hid (show togAt l 1 = res by rw [← HA.out, HT.out, if_neg (by rw [hp]; simp), if_pos hi0, hi0])
            generalize l[i] = x at *
            clear HA HT hp hcell
            subst hi0
            rw [Nat.add_zero] at c1
            go_wp2_with fail
            refine PA.out.mono ?_
            rintro e w1 ⟨rfl, hb1⟩
            have HB1 := Lib.hid (HB.out.trans (hb1.mono HB.out.size))
            clear hb1 PA c1 HC HC2
            go_wp2_with fail
            go_quiet (fail)
            have HB2 := Lib.hid (Below_drewN HB1.out nq)
            generalize w1.drewN nq = w2 at *
            go_wp2_with fail
            go_quiet (fail)
            go_wp2_with fail
            go_roundw
            case rel => exact ⟨1, by omega, by go_num, HN, Below_drewN HB2.out nq⟩
            case measure => simp [intOf]; omega
          · obtain ⟨im, him⟩ : ∃ im, im = i - 1 := ⟨_, rfl⟩
            have him2 : im < l.length := by omega
            have W1 : IntKind.i64.wrap ((i : Int) - 1) = (im : Int) := by rw [IntKind.wrap_i64]; omega
            have W2 : (i : Int) - 1 = (im : Int) := by omega
            have m0 : (0 : Int) ≤ (im : Int) := by omega
            have m1 : (im : Int) < (l.length : Int) := by omega
            have k0 : (0 : Int) < (i : Int) := by omega
            have kb1 : decide ((0 : Int) < (i : Int)) = true := decide_eq_true k0
            have kb2 : decide (0 < i) = true := decide_eq_true (by omega)
            have HT2 := Lib.hid (show togAt l i = if ordS l[i] l[im] < 0 then 12 else if l[i] = l[im] ∨ withinS l[i] l[im] = true then 9 else togAt l (i + 1) by
              rw [HT.out, if_neg (by rw [hp]; simp), if_neg hi0]
              subst him
              rfl)
            have hyl := HX.out l[im] (List.getElem_mem him2)
            have HCi := Lib.hid (fun w' hb => HC2.out w' hb i hlt)
            have HCm := Lib.hid (fun w' hb => HC2.out w' hb im him2)
            generalize l[i] = x at *
            generalize l[im] = y at *
            have OR := fun w' => Lib.hid (refOrder_any x y w' hxl hyl)
            have WI := fun w' => Lib.hid (refWithin_any x y w' hxl hyl)
            clear HT hp hcell HC HC2 him hi0
            go_wp2_with fail
            refine PA.out.mono ?_
            rintro e w1 ⟨rfl, hb1⟩
            have d1 := HCi.out w1 hb1
            have d2 := HCm.out w1 hb1
            have HB1 := Lib.hid (HB.out.trans (hb1.mono HB.out.size))
            have HBR := Lib.hid hb1
            clear hb1 PA c1
            go_wp2_with fail
            by_cases ho : ordS x y < 0
            · have HN := Lib.hid (show 12 = res by rw [← HA.out, HT2.out, if_pos ho])
              clear HT2 HA WI
              generalize ordS x y = oxy at *
              have ob : decide (oxy < 0) = true := decide_eq_true ho
              go_quiet (exact quiet_left (OR _).out)
              go_wp2_with fail
              go_ret
              exact ⟨by rw [← HN.out]; rfl, Below_drewN HB1.out nq⟩
            · have HT3 := Lib.hid (show (if x = y ∨ withinS x y = true then 9 else togAt l (i + 1)) = res by rw [← HA.out, HT2.out, if_neg ho])
              clear HT2 HA
              generalize ordS x y = oxy at *
              have ob : decide (oxy < 0) = false := decide_eq_false ho
              go_quiet (exact quiet_left (OR _).out)
              have e1 := HCi.out (w1.drewN nq) (Below_drewN HBR.out nq)
              have e2 := HCm.out (w1.drewN nq) (Below_drewN HBR.out nq)
              have HB2 := Lib.hid (Below_drewN HB1.out nq)
              clear d1 d2 OR ho ob HCi HCm HBR
              generalize w1.drewN nq = w2 at *
              go_wp2_with fail
              by_cases hxy : x = y
              · have HN := Lib.hid (show 9 = res by rw [← HT3.out, if_pos (.inl hxy)])
                subst hxy
                have q : (x == x) = true := by simp
                clear HT3 WI
                go_quiet (fail)
                go_wp2_with fail
                go_ret
                exact ⟨by rw [← HN.out]; rfl, Below_drewN HB2.out nq⟩
              · have q : (x == y) = false := by simp [hxy]
                by_cases hw : withinS x y = true
                · have HN := Lib.hid (show 9 = res by rw [← HT3.out, if_pos (.inr hw)])
                  rw [hw] at WI
                  clear HT3 hw hxy
                  go_quiet (exact quiet_left (WI _).out)
                  go_wp2_with fail
                  go_ret
                  exact ⟨by rw [← HN.out]; rfl, Below_drewN HB2.out nq⟩
                · have HN := Lib.hid (show togAt l (i + 1) = res by rw [← HT3.out, if_neg (fun h => h.elim hxy hw)])
                  rw [show withinS x y = false by simpa using hw] at WI
                  clear HT3 hw hxy
                  go_quiet (exact quiet_left (WI _).out)
                  go_wp2_with fail
                  go_roundw
                  case rel => exact ⟨i + 1, by omega, by go_num, HN, Below_drewN HB2.out nq⟩
                  case measure => simp [intOf]; omega
        · have q : (pathS l[i] != 0) = true := by simp [hp]
          have HN := Lib.hid (show pathS l[i] = res by rw [← HA.out, HT.out, if_pos hp])
          generalize pathS l[i] = pe at *
          generalize l[i] = x at *
          clear HA HT hp hcell HC
          go_wp2_with fail
          refine PA.out.mono ?_
          rintro e w1 ⟨rfl, hb1⟩
          have HB1 := Lib.hid (HB.out.trans (hb1.mono HB.out.size))
          clear hb1
          go_wp2_with fail
          go_ret
          exact ⟨by rw [← HN.out]; rfl, HB1.out⟩
      · obtain rfl : i = l.length := by omega
        have j1 : ¬ (l.length : Int) < (l.length : Int) := by omega
        have HN := Lib.hid (show 0 = res by rw [← HA.out, togAt_end])
        clear HA
        go_wp2_with fail
        go_ret
        exact ⟨by rw [← HN.out]; rfl, HB.out⟩
end Go.Proofs.YtamiacmnobklaaaGreatDoor

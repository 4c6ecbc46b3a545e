/- Several texts in one: RefTogW, RefCheckW, RefRightTW, RefMbW. -/
import Derived.Test.YtfgimhgkjodcgaaDoorFrame
import Derived.Test.YtfgimhgkjodcgaaDoorGen
import Derived.Test.YtfgimhgkjodcgaaDoorMarkMath
import Derived.Test.YtfgimhgkjodcgaaDoorOwnL
import Derived.Test.YtfgimhgkjodcgaaDoorQuietLaw
import Derived.Test.YtfgimhgkjodcgaaDoorReadW
import Derived.Test.YtfgimhgkjodcgaaDoorRefNamesW
import Derived.Test.YtfgimhgkjodcgaaDoorRefOrdW
import Derived.Test.YtfgimhgkjodcgaaDoorRowN
import Derived.Test.YtfgimhgkjodcgaaDoorRows
import Derived.Test.YtfgimhgkjodcgaaDoorTreeMath
import Derived.BigQuiet
import Derived.Lib.Hide
import Derived.WalkKit
import Derived.WalkLawsBesides
import Derived.WalkSpells
import Derived.Test.YtfgimhgkjodcgaaDoorArgTree
import Derived.Test.YtfgimhgkjodcgaaDoorInfos
import Derived.Deep.Cut
import Derived.Deep.CutRange
import Derived.Deep.DeepCutAuto
import Derived.Deep.QuietTactic
import Derived.Deep.Draws
import Derived.Deep.Slices
import Derived.Deep.Strs
import Derived.Laws.Bits128
import Derived.Laws.IdiomStrings
import Derived.Lib.AppendStr
import Derived.Lib.SmallJoins
import Derived.OpenShut
import Derived.ProofKit
import Derived.ShutString
import Derived.SizedLaws
import Derived.SliceStrings
import Derived.Test.YtfgimhgkjodcgaaDoorArgs3
/- The document's together, Check, Right. -/
set_option linter.unusedVariables false
namespace Go.Proofs.YtfgimhgkjodcgaaDoor
open Go.RowKit

def togAt (l : List Txt) (i : Nat) : Int := togF (if i = 0 then none else l[i - 1]?) (l.drop i)
theorem togAt_step (l : List Txt) (i : Nat) (h : i < l.length) : togAt l i = if pathS l[i] ≠ 0 then pathS l[i] else if i = 0 then togAt l (i + 1) else
    if ordS l[i] (l[i - 1]'(by omega)) < 0 then 12 else if l[i] = l[i - 1]'(by omega) ∨ withinS l[i] (l[i - 1]'(by omega)) = true then 9 else togAt l (i + 1) := by
  unfold togAt
  rw [List.drop_eq_getElem_cons h, if_neg (show ¬ i + 1 = 0 by omega), Nat.add_sub_cancel, List.getElem?_eq_getElem h]
  by_cases h0 : i = 0
  · subst h0
    rw [if_pos rfl, if_pos rfl]
    rfl
  · rw [if_neg h0, if_neg h0, List.getElem?_eq_getElem (by omega)]
    rfl
theorem togAt_end (l : List Txt) : togAt l l.length = 0 := by
  unfold togAt
  rw [List.drop_eq_nil_of_le (Nat.le_refl _)]
  split <;> simp [togF]
theorem Row.cell_at {α : Type} {enc : α → Value} {N : Nat → Prop} {w : World} {a : Option Addr} {m c : Nat} {xs : List α} (h : Row enc N w (.slice a m c) xs) {i : Nat} (hi : i < xs.length) : ∃ g o, a = some ⟨g, o, none⟩ ∧ ∀ k (hk : k < xs.length), w.cell? ⟨g, o + k, none⟩ = some (enc xs[k]) := by
  obtain ⟨a', c', hv, hc⟩ := h
  injection hv with e1 _ _
  subst e1
  obtain ⟨g, o, rfl, _, _⟩ := hc i hi
  refine ⟨g, o, rfl, fun k hk => ?_⟩
  obtain ⟨g', o', he, _, h'⟩ := hc k hk
  simp at he
  obtain ⟨rfl, rfl⟩ := he
  exact h'
set_option maxRecDepth 100000 in
set_option maxHeartbeats 2000000 in
theorem refTog_any (v : Value) (l : List Txt) (w : World) (hrow : Row strE (fun _ => True) w v l) (hx : ∀ x ∈ l, x.length ≤ 140737488351232) (hll : l.length ≤ 1000000) :
    Calls Tryd.prog 56 #[v] w fun e w' => e = .returned (.int .i64 (togS l)) ∧ Below w.heap.size w w' := by
  obtain ⟨va, vc, hv⟩ : ∃ a c, v = .slice a l.length c := by obtain ⟨a, c, hv, _⟩ := hrow; exact ⟨a, c, hv⟩
  subst hv
  by_cases h : 256 < l.length
  · have j : (256 : Int) < (l.length : Int) := by omega
    have HR := Lib.hid (show togS l = 7 from if_pos h)
    clear h
    go_enter Tryd.func56, Tryd.ntmps56
    go_wp2_with fail
    go_ret
    exact ⟨by rw [HR.out]; rfl, Below.refl _ _⟩
  · have j : ¬ (256 : Int) < (l.length : Int) := by omega
    have HR := Lib.hid (show togAt l 0 = togS l by unfold togS; rw [if_neg h]; rfl)
    have HX := Lib.hid hx
    have HRO := Lib.hid hrow
    have hlb : l.length ≤ 256 := by omega
    generalize togS l = res at *
    clear h hx hrow
    go_enter Tryd.func56, Tryd.ntmps56
    go_wp2_with fail
    go_loopw [3] (fun v3 wr => ∃ i : Nat, i ≤ l.length ∧ v3 = .int .i64 i ∧ Hid (togAt l i = res) ∧ Below w.heap.size w wr) (fun v3 _ => l.length - (intOf v3).toNat)
    case atStart => exact ⟨0, by omega, rfl, HR, Below.refl _ _⟩
    case round =>
      clear HR
      obtain ⟨i, hi, rfl, HA, hbel⟩ := hrel
      have HB := Lib.hid hbel
      clear hbel
      have i0 : (0 : Int) ≤ (i : Int) := by omega
      by_cases hlt : i < l.length
      · have j1 : (i : Int) < (l.length : Int) := by omega
        have HT := Lib.hid (togAt_step l i hlt)
        obtain ⟨g, o, rfl, hcell⟩ := HRO.out.cell_at hlt
        have HC := Lib.hid hcell
        have c1 : wr.cell? ⟨g, o + i, none⟩ = some (.string ⟨l[i].toArray⟩) := (HB.out.cell (p := ⟨g, o + i, none⟩) (World.block_lt_of_cell? w _ (hcell i hlt))).trans (hcell i hlt)
        have hxl := HX.out l[i] (List.getElem_mem hlt)
        have PA := Lib.hid (refPath_any l[i] wr hxl)
        by_cases hp : pathS l[i] = 0
        · rw [hp] at PA
          have HC2 := Lib.hid (fun w' (hb : Below wr.heap.size wr w') (k : Nat) (hk : k < l.length) => show w'.cell? ⟨g, o + k, none⟩ = some (.string ⟨l[k].toArray⟩) from
            ((HB.out.trans (hb.mono HB.out.size)).cell (p := ⟨g, o + k, none⟩) (World.block_lt_of_cell? w _ (hcell k hk))).trans (hcell k hk))
          by_cases hi0 : i = 0
          · have HN := Lib.hid (show togAt l 1 = res by rw [← HA.out, HT.out, if_neg (by rw [hp]; simp), if_pos hi0, hi0])
            generalize l[i] = x at *
            clear HA HT hp hcell
            subst hi0
            rw [Nat.add_zero] at c1
            go_wp2_with fail
            refine PA.out.mono ?_
            rintro e w1 ⟨rfl, hb1⟩
            have HB1 := Lib.hid (HB.out.trans (hb1.mono HB.out.size))
            clear hb1 PA c1 HC HC2
            go_wp2_with fail
            go_quiet (fail)
            have HB2 := Lib.hid (Below_drewN HB1.out nq)
            generalize w1.drewN nq = w2 at *
            go_wp2_with fail
            go_quiet (fail)
            go_wp2_with fail
            go_roundw
            case rel => exact ⟨1, by omega, by go_num, HN, Below_drewN HB2.out nq⟩
            case measure => simp [intOf]; omega
          · obtain ⟨im, him⟩ : ∃ im, im = i - 1 := ⟨_, rfl⟩
            have him2 : im < l.length := by omega
            have W1 : IntKind.i64.wrap ((i : Int) - 1) = (im : Int) := by rw [IntKind.wrap_i64]; omega
            have W2 : (i : Int) - 1 = (im : Int) := by omega
            have m0 : (0 : Int) ≤ (im : Int) := by omega
            have m1 : (im : Int) < (l.length : Int) := by omega
            have k0 : (0 : Int) < (i : Int) := by omega
            have kb1 : decide ((0 : Int) < (i : Int)) = true := decide_eq_true k0
            have kb2 : decide (0 < i) = true := decide_eq_true (by omega)
            have HT2 := Lib.hid (show togAt l i = if ordS l[i] l[im] < 0 then 12 else if l[i] = l[im] ∨ withinS l[i] l[im] = true then 9 else togAt l (i + 1) by
              rw [HT.out, if_neg (by rw [hp]; simp), if_neg hi0]
              subst him
              rfl)
            have hyl := HX.out l[im] (List.getElem_mem him2)
            have HCi := Lib.hid (fun w' hb => HC2.out w' hb i hlt)
            have HCm := Lib.hid (fun w' hb => HC2.out w' hb im him2)
            generalize l[i] = x at *
            generalize l[im] = y at *
            have OR := fun w' => Lib.hid (refOrder_any x y w' hxl hyl)
            have WI := fun w' => Lib.hid (refWithin_any x y w' hxl hyl)
            clear HT hp hcell HC HC2 him hi0
            go_wp2_with fail
            refine PA.out.mono ?_
            rintro e w1 ⟨rfl, hb1⟩
            have d1 := HCi.out w1 hb1
            have d2 := HCm.out w1 hb1
            have HB1 := Lib.hid (HB.out.trans (hb1.mono HB.out.size))
            have HBR := Lib.hid hb1
            clear hb1 PA c1
            go_wp2_with fail
            by_cases ho : ordS x y < 0
            · have HN := Lib.hid (show 12 = res by rw [← HA.out, HT2.out, if_pos ho])
              clear HT2 HA WI
              generalize ordS x y = oxy at *
              have ob : decide (oxy < 0) = true := decide_eq_true ho
              go_quiet (exact quiet_left (OR _).out)
              go_wp2_with fail
              go_ret
              exact ⟨by rw [← HN.out]; rfl, Below_drewN HB1.out nq⟩
            · have HT3 := Lib.hid (show (if x = y ∨ withinS x y = true then 9 else togAt l (i + 1)) = res by rw [← HA.out, HT2.out, if_neg ho])
              clear HT2 HA
              generalize ordS x y = oxy at *
              have ob : decide (oxy < 0) = false := decide_eq_false ho
              go_quiet (exact quiet_left (OR _).out)
              have e1 := HCi.out (w1.drewN nq) (Below_drewN HBR.out nq)
              have e2 := HCm.out (w1.drewN nq) (Below_drewN HBR.out nq)
              have HB2 := Lib.hid (Below_drewN HB1.out nq)
              clear d1 d2 OR ho ob HCi HCm HBR
              generalize w1.drewN nq = w2 at *
              go_wp2_with fail
              by_cases hxy : x = y
              · have HN := Lib.hid (show 9 = res by rw [← HT3.out, if_pos (.inl hxy)])
                subst hxy
                have q : (x == x) = true := by simp
                clear HT3 WI
                go_quiet (fail)
                go_wp2_with fail
                go_ret
                exact ⟨by rw [← HN.out]; rfl, Below_drewN HB2.out nq⟩
              · have q : (x == y) = false := by simp [hxy]
                by_cases hw : withinS x y = true
                · have HN := Lib.hid (show 9 = res by rw [← HT3.out, if_pos (.inr hw)])
                  rw [hw] at WI
                  clear HT3 hw hxy
                  go_quiet (exact quiet_left (WI _).out)
                  go_wp2_with fail
                  go_ret
                  exact ⟨by rw [← HN.out]; rfl, Below_drewN HB2.out nq⟩
                · have HN := Lib.hid (show togAt l (i + 1) = res by rw [← HT3.out, if_neg (fun h => h.elim hxy hw)])
                  rw [show withinS x y = false by simpa using hw] at WI
                  clear HT3 hw hxy
                  go_quiet (exact quiet_left (WI _).out)
                  go_wp2_with fail
                  go_roundw
                  case rel => exact ⟨i + 1, by omega, by go_num, HN, Below_drewN HB2.out nq⟩
                  case measure => simp [intOf]; omega
        · have q : (pathS l[i] != 0) = true := by simp [hp]
          have HN := Lib.hid (show pathS l[i] = res by rw [← HA.out, HT.out, if_pos hp])
          generalize pathS l[i] = pe at *
          generalize l[i] = x at *
          clear HA HT hp hcell HC
          go_wp2_with fail
          refine PA.out.mono ?_
          rintro e w1 ⟨rfl, hb1⟩
          have HB1 := Lib.hid (HB.out.trans (hb1.mono HB.out.size))
          clear hb1
          go_wp2_with fail
          go_ret
          exact ⟨by rw [← HN.out]; rfl, HB1.out⟩
      · obtain rfl : i = l.length := by omega
        have j1 : ¬ (l.length : Int) < (l.length : Int) := by omega
        have HN := Lib.hid (show 0 = res by rw [← HA.out, togAt_end])
        clear HA
        go_wp2_with fail
        go_ret
        exact ⟨by rw [← HN.out]; rfl, HB.out⟩
end Go.Proofs.YtfgimhgkjodcgaaDoor
/- The document's Check. -/
set_option linter.unusedVariables false
namespace Go.Proofs.YtfgimhgkjodcgaaDoor
open Go.RowKit

theorem ElAt.f0 {w : World} {g o : Nat} {x : FileD} (h : ElAt encF w g o x) : w.cell? ⟨g, o, none⟩ = some (.string ⟨x.path.toArray⟩) := h 0 _ rfl
theorem ElAt.f1 {w : World} {g o : Nat} {x : FileD} (h : ElAt encF w g o x) : w.cell? ⟨g, o + 1, none⟩ = some (.int .i64 x.mode) := h 1 _ rfl
theorem ElAt.f2 {w : World} {g o : Nat} {x : FileD} (h : ElAt encF w g o x) : w.cell? ⟨g, o + 2, none⟩ = some (.string ⟨x.data.toArray⟩) := h 2 _ rfl
theorem firstE_at {α : Type} (E : α → Int) (l : List α) (i : Nat) (h : i < l.length) : firstE E (l.drop i) = if E l[i] ≠ 0 then E l[i] else firstE E (l.drop (i + 1)) := by
  rw [List.drop_eq_getElem_cons h]; rfl
theorem firstE_end {α : Type} (E : α → Int) (l : List α) : firstE E (l.drop l.length) = 0 := by rw [List.drop_eq_nil_of_le (Nat.le_refl _)]; rfl
theorem RowN.el {α : Type} {enc : α → List Value} {k : Nat} {N : Nat → Prop} {w : World} {a : Option Addr} {m c : Nat} {xs : List α} (h : RowN enc k N w (.slice a m c) xs) {i : Nat} (hi : i < xs.length) : ∃ g o, a = some ⟨g, o, none⟩ ∧ ∀ j (hj : j < xs.length), ElAt enc w g (o + j * k) xs[j] := by
  obtain ⟨a', c', hv, _, hc⟩ := h
  injection hv with e1 _ _
  subst e1
  obtain ⟨g, o, rfl, _, _⟩ := hc i hi
  refine ⟨g, o, rfl, fun j hj => ?_⟩
  obtain ⟨g', o', he, _, h'⟩ := hc j hj
  simp at he
  obtain ⟨rfl, rfl⟩ := he
  exact h'
theorem take_map_succ {α β : Type} (f : α → β) (l : List α) (i : Nat) (h : i < l.length) : (l.take (i + 1)).map f = (l.take i).map f ++ [f l[i]] := by
  rw [List.take_succ_eq_append_getElem h, List.map_append]; rfl
set_option maxRecDepth 100000 in
set_option maxHeartbeats 2000000 in
theorem refCheck_any (v : Value) (xs : List FileD) (w : World) (hrow : RowN encF 3 (fun _ => True) w v xs) (hok : ∀ x ∈ xs, FileOk x) (hl : xs.length ≤ 1000000) :
    Calls Tryd.prog 31 #[v] w fun e w' => e = .returned (.int .i64 (checkS xs)) ∧ Below w.heap.size w w' := by
  obtain ⟨va, vc, hv, _⟩ := hrow.slice
  subst hv
  have HRO := Lib.hid hrow
  have HOK := Lib.hid hok
  have HCS := Lib.hid (show (if togS (xs.map (·.path)) ≠ 0 then togS (xs.map (·.path)) else firstE fileE (xs.drop 0)) = checkS xs from rfl)
  generalize checkS xs = res at *
  clear hrow hok
  go_enter Tryd.func31, Tryd.ntmps31
  go_wp2_with fail
  go_loopw [3, 4] (fun v3 v4 wr => ∃ i : Nat, i ≤ xs.length ∧ v4 = .int .i64 i ∧ OwnL strE wr w.heap.size 9 v3 ((xs.take i).map (·.path)) ∧ Below w.heap.size w wr) (fun _ v4 _ => xs.length - (intOf v4).toNat)
  case atStart => exact ⟨0, by omega, rfl, OwnL.nil _ _ _ _, Below.refl _ _⟩
  case round =>
    obtain ⟨i, hi, rfl, hown, hbel⟩ := hrel
    have HO := Lib.hid hown
    have HB := Lib.hid hbel
    clear hown hbel
    have i0 : (0 : Int) ≤ (i : Int) := by omega
    obtain ⟨wa, wm, wc', hv⟩ := own_slice HO.out
    subst hv
    have hvm : wm = ((xs.take i).map (·.path)).length := own_lenV HO.out
    by_cases hlt : i < xs.length
    · have j1 : (i : Int) < (xs.length : Int) := by omega
      obtain ⟨g, o, rfl, hel⟩ := HRO.out.el hlt
      have c0 := ((hel i hlt).new HB.out).f0
      have HT := Lib.hid (take_map_succ (·.path) xs i hlt)
      have hol : ((xs.take i).map (·.path)).length ≤ 1000000 := by rw [List.length_map, List.length_take]; omega
      generalize (xs.take i).map (·.path) = out at *
      generalize xs[i].path = p at *
      subst hvm
      clear hel
      go_wp2_with (at_builtin; refine append_elem (enc := strE) (w := wr) (by rfl) (.tmp 13) (.tmp 19) 45 9 (.string ByteArray.empty) 16 (by rfl) Tryd.underlying45 info_str (by rfl) w.heap.size _ out p (by rfl) (by rfl) HO.out (by rfl) (by omega) (by unfold maxLen; omega) HB.out.size ?_; intro v' w7 hown7 hb7 _; have HO7 := Lib.hid hown7; have HB7 := Lib.hid (HB.out.trans hb7); clear hown7 hb7)
      go_roundw
      case rel => exact ⟨i + 1, by omega, by go_num, by rw [HT.out]; exact HO7.out, HB7.out⟩
      case measure => simp [intOf]; omega
    · have j1 : ¬ (i : Int) < (xs.length : Int) := by omega
      have HPL := Lib.hid (show (xs.take i).map (·.path) = xs.map (·.path) by rw [List.take_of_length_le (by omega)])
      rw [HPL.out] at HO hvm
      have TG := Lib.hid (refTog_any _ (xs.map (·.path)) wr HO.out.any (fun x hx => by
        obtain ⟨y, hy, rfl⟩ := List.mem_map.1 hx
        exact (HOK.out y hy).p) (by rw [List.length_map]; omega))
      clear hvm HPL
      by_cases ht : togS (xs.map (·.path)) = 0
      · rw [if_neg (by rw [ht]; simp)] at HCS
        rw [ht] at TG
        generalize xs.map (·.path) = pl at *
        clear ht
        go_wp2_with fail
        refine TG.out.mono ?_
        rintro e w1 ⟨rfl, hb1⟩
        have HB1 := Lib.hid (HB.out.trans (hb1.mono HB.out.size))
        clear hb1 TG HB HO
        go_wp2_with fail
        go_loopw [6] (fun v6 wr => ∃ k : Nat, k ≤ xs.length ∧ v6 = .int .i64 k ∧ Hid (firstE fileE (xs.drop k) = res) ∧ w1 = wr) (fun v6 _ => xs.length - (intOf v6).toNat)
        case atStart => exact ⟨0, by omega, rfl, HCS, rfl⟩
        case round =>
          clear HCS
          obtain ⟨k, hk, rfl, HA, rfl⟩ := hrel
          have k0 : (0 : Int) ≤ (k : Int) := by omega
          by_cases hlk : k < xs.length
          · have m1 : (k : Int) < (xs.length : Int) := by omega
            have HT := Lib.hid (firstE_at fileE xs k hlk)
            obtain ⟨g, o, rfl, hel⟩ := HRO.out.el hlk
            have hel1 := (hel k hlk).new HB1.out
            have c1 := hel1.f1
            have c2 := hel1.f2
            have hdl := (HOK.out xs[k] (List.getElem_mem hlk)).d
            have hmb := (HOK.out xs[k] (List.getElem_mem hlk)).m
            generalize xs[k] = x at *
            obtain ⟨p, md, dt⟩ := x
            dsimp only at c1 c2 hdl hmb
            have SD := Lib.hid (show (⟨dt.toArray⟩ : ByteArray).size = dt.length from rfl)
            clear hel hel1
            by_cases m2 : md < 0
            · have HN := Lib.hid (show 11 = res by rw [← HA.out, HT.out, if_pos (by unfold fileE; rw [if_pos (.inl m2)]; decide)]; unfold fileE; rw [if_pos (.inl m2)])
              clear HA HT
              go_wp2_with fail
              go_ret
              exact ⟨by rw [← HN.out]; rfl, HB1.out⟩
            · by_cases m3 : 511 < md
              · have HN := Lib.hid (show 11 = res by rw [← HA.out, HT.out, if_pos (by unfold fileE; rw [if_pos (.inr m3)]; decide)]; unfold fileE; rw [if_pos (.inr m3)])
                clear HA HT
                go_wp2_with fail
                go_ret
                exact ⟨by rw [← HN.out]; rfl, HB1.out⟩
              · have hnm : ¬ (md < 0 ∨ 511 < md) := by omega
                by_cases m4 : 65536 < dt.length
                · have m5 : (65536 : Int) < (dt.length : Int) := by omega
                  have HN := Lib.hid (show 4 = res by rw [← HA.out, HT.out, if_pos (by unfold fileE; rw [if_neg hnm, if_pos m4]; decide)]; unfold fileE; rw [if_neg hnm, if_pos m4])
                  clear HA HT hnm
                  go_wp2_with fail
                  go_ret
                  exact ⟨by rw [← HN.out]; rfl, HB1.out⟩
                · have m5 : ¬ (65536 : Int) < (dt.length : Int) := by omega
                  have HN := Lib.hid (show firstE fileE (xs.drop (k + 1)) = res by rw [← HA.out, HT.out, if_neg (by unfold fileE; rw [if_neg hnm, if_neg m4]; decide)])
                  clear HA HT hnm
                  go_wp2_with fail
                  go_roundw
                  case rel => exact ⟨k + 1, by omega, by go_num, HN, trivial⟩
                  case measure => simp [intOf]; omega
          · obtain rfl : k = xs.length := by omega
            have m1 : ¬ (xs.length : Int) < (xs.length : Int) := by omega
            have HN := Lib.hid (show 0 = res by rw [← HA.out, firstE_end])
            clear HA
            go_wp2_with fail
            go_ret
            exact ⟨by rw [← HN.out]; rfl, HB1.out⟩
      · rw [if_pos ht] at HCS
        have q : (togS (xs.map (·.path)) != 0) = true := by simp [ht]
        generalize togS (xs.map (·.path)) = te at *
        generalize xs.map (·.path) = pl at *
        clear ht
        go_wp2_with fail
        refine TG.out.mono ?_
        rintro e w1 ⟨rfl, hb1⟩
        have HB1 := Lib.hid (HB.out.trans (hb1.mono HB.out.size))
        clear hb1 TG HB HO
        go_wp2_with fail
        go_ret
        exact ⟨by rw [← HCS.out]; rfl, HB1.out⟩
end Go.Proofs.YtfgimhgkjodcgaaDoor
/- The document's Right. -/
set_option linter.unusedVariables false
namespace Go.Proofs.YtfgimhgkjodcgaaDoor
open Go.RowKit

theorem ElAt.i0 {w : World} {g o : Nat} {x : ItemD} (h : ElAt encI w g o x) : w.cell? ⟨g, o, none⟩ = some (.string ⟨x.path.toArray⟩) := h 0 _ rfl
theorem ElAt.i1 {w : World} {g o : Nat} {x : ItemD} (h : ElAt encI w g o x) : w.cell? ⟨g, o + 1, none⟩ = some (.int .i64 x.mode) := h 1 _ rfl
theorem ElAt.i2 {w : World} {g o : Nat} {x : ItemD} (h : ElAt encI w g o x) : w.cell? ⟨g, o + 2, none⟩ = some (.int .i64 x.size) := h 2 _ rfl
theorem ElAt.i3 {w : World} {g o : Nat} {x : ItemD} (h : ElAt encI w g o x) : w.cell? ⟨g, o + 3, none⟩ = some (.string ⟨x.mark.toArray⟩) := h 3 _ rfl
end Go.Proofs.YtfgimhgkjodcgaaDoor
/- The document's Bytes of a manifest. -/
set_option linter.unusedVariables false
namespace Go.Proofs.YtfgimhgkjodcgaaDoor
open Go.RowKit

theorem togF_paths : ∀ (l : List Txt) (q : Option Txt), togF q l = 0 → ∀ p ∈ l, pathS p = 0
  | [], _, _, p, hp => by simp at hp
  | x :: r, q, h, p, hp => by
    have hx : pathS x = 0 := by
      by_cases hx : pathS x = 0
      · exact hx
      · exfalso
        cases q <;> (unfold togF at h; rw [if_pos hx] at h; exact hx h)
    simp at hp
    rcases hp with rfl | hp
    · exact hx
    · cases q with
      | none =>
        unfold togF at h
        rw [if_neg (fun e => e hx)] at h
        exact togF_paths r (some x) h p hp
      | some q =>
        unfold togF at h
        rw [if_neg (fun e => e hx)] at h
        dsimp only at h
        by_cases h1 : ordS x q < 0
        · rw [if_pos h1] at h; exact absurd h (by decide)
        · rw [if_neg h1] at h
          by_cases h2 : x = q ∨ withinS x q = true
          · rw [if_pos h2] at h; exact absurd h (by decide)
          · rw [if_neg h2] at h
            exact togF_paths r (some x) h p hp
theorem path_len {p : Txt} (h : pathS p = 0) : p.length ≤ 200 := by
  unfold pathS at h
  by_cases h1 : 200 < p.length
  · rw [if_pos h1] at h; exact absurd h (by decide)
  · omega
theorem firstE_all {α : Type} (E : α → Int) : ∀ l : List α, firstE E l = 0 → ∀ x ∈ l, E x = 0
  | [], _, x, hx => by simp at hx
  | y :: r, h, x, hx => by
    unfold firstE at h
    by_cases hy : E y = 0
    · rw [if_neg (fun e => e hy)] at h
      simp at hx
      rcases hx with rfl | hx
      · exact hy
      · exact firstE_all E r h x hx
    · rw [if_pos hy] at h; exact absurd h hy
structure ItemR (x : ItemD) : Prop where
  p : x.path.length ≤ 200
  m0 : 0 ≤ x.mode
  m1 : x.mode ≤ 511
  s0 : 0 ≤ x.size
  s1 : x.size ≤ 65536
  k : x.mark.length = 32
theorem rightS_each {l : List ItemD} (h : rightS l = 0) : l.length ≤ 256 ∧ ∀ x ∈ l, ItemR x := by
  unfold rightS at h
  by_cases ht : togS (l.map (·.path)) = 0
  · rw [if_neg (fun e => e ht)] at h
    unfold togS at ht
    by_cases hl : 256 < (l.map (·.path)).length
    · rw [if_pos hl] at ht; exact absurd ht (by decide)
    · rw [if_neg hl] at ht
      rw [List.length_map] at hl
      refine ⟨by omega, fun x hx => ?_⟩
      have hp := path_len (togF_paths _ _ ht x.path (List.mem_map.2 ⟨x, hx, rfl⟩))
      have hi := firstE_all _ _ h x hx
      unfold itemE at hi
      by_cases h1 : x.mode < 0 ∨ 511 < x.mode
      · rw [if_pos h1] at hi; exact absurd hi (by decide)
      · rw [if_neg h1] at hi
        by_cases h2 : x.size < 0 ∨ 65536 < x.size
        · rw [if_pos h2] at hi; exact absurd hi (by decide)
        · rw [if_neg h2] at hi
          by_cases h3 : x.mark.length = 32
          · exact ⟨hp, by omega, by omega, by omega, by omega, h3⟩
          · rw [if_pos h3] at hi; exact absurd hi (by decide)
  · rw [if_pos ht] at h; exact absurd h ht
theorem sharedS_le : ∀ a b : Txt, sharedS a b ≤ a.length ∧ sharedS a b ≤ b.length
  | [], _ => ⟨Nat.zero_le _, Nat.zero_le _⟩
  | _ :: _, [] => ⟨Nat.zero_le _, Nat.zero_le _⟩
  | a :: s, b :: t => by
    unfold sharedS
    split
    · have := sharedS_le s t; simp; omega
    · exact ⟨Nat.zero_le _, Nat.zero_le _⟩
theorem cat2 (a b : List UInt8) : (ByteArray.mk a.toArray) ++ (ByteArray.mk b.toArray) = ⟨(a ++ b).toArray⟩ := by
  apply ByteArray.ext
  simp
end Go.Proofs.YtfgimhgkjodcgaaDoor

/- Landed image: first (the first path of three trees), walked. -/
import Derived.Test.YtfgimhgkjodcgaaDoorArgTree
import Derived.Test.YtfgimhgkjodcgaaDoorArgs3
import Derived.Test.YtfgimhgkjodcgaaDoorFrame
import Derived.Test.YtfgimhgkjodcgaaDoorGen
import Derived.Test.YtfgimhgkjodcgaaDoorMarkMath
import Derived.Test.YtfgimhgkjodcgaaDoorMtX
import Derived.Test.YtfgimhgkjodcgaaDoorOrderTW
import Derived.Test.YtfgimhgkjodcgaaDoorOwnL
import Derived.Test.YtfgimhgkjodcgaaDoorProg
import Derived.Test.YtfgimhgkjodcgaaDoorReadMath
import Derived.Test.YtfgimhgkjodcgaaDoorReadW
import Derived.Test.YtfgimhgkjodcgaaDoorOfX
import Derived.Test.YtfgimhgkjodcgaaDoorCkX
import Derived.Test.YtfgimhgkjodcgaaDoorRowN
import Derived.Test.YtfgimhgkjodcgaaDoorRows
import Derived.Test.YtfgimhgkjodcgaaDoorShelf
import Derived.Test.YtfgimhgkjodcgaaDoorTreeMath
import Derived.BigQuiet
import Derived.BigRegion
import Derived.Deep.Cut
import Derived.Deep.CutBlock
import Derived.Deep.CutRange
import Derived.Deep.DeepCutAuto
import Derived.Deep.QuietTactic
import Derived.Laws.ResultCell
import Derived.Lib.Hide
import Derived.WalkKit
import Derived.WalkLawsBesides
import Derived.WalkSpells
set_option linter.unusedVariables false
namespace Go.Proofs.YtfgimhgkjodcgaaDoor
open Go.RowKit

theorem firstF_len {l : List FileD} {p : Txt} (hl : ∀ x ∈ l, FileOk x) (hp : p.length ≤ 140737488351232) : (firstF l p).length ≤ 140737488351232 := by
  unfold firstF
  cases l with
  | nil => exact hp
  | cons f r =>
    dsimp only
    split
    · exact (hl f (by simp)).p
    · exact hp
theorem RowN.head {w : World} {v : Value} {f : FileD} {r : List FileD} (h : RowN encF 3 (fun _ => True) w v (f :: r)) : ∃ g o c, v = .slice (some ⟨g, o, none⟩) (f :: r).length c ∧ (f :: r).length ≤ c ∧ w.cell? ⟨g, o, none⟩ = some (.string ⟨f.path.toArray⟩) ∧ w.cell? ⟨g, o + 1, none⟩ = some (.int .i64 f.mode) ∧ w.cell? ⟨g, o + 2, none⟩ = some (.string ⟨f.data.toArray⟩) := by
  obtain ⟨a, c, rfl, hc, hx⟩ := h
  obtain ⟨g, o, rfl, _, hel⟩ := hx 0 (by simp)
  rw [Nat.zero_mul, Nat.add_zero] at hel
  exact ⟨g, o, c, rfl, hc, hel 0 _ rfl, hel 1 _ rfl, hel 2 _ rfl⟩
set_option maxRecDepth 100000 in
set_option maxHeartbeats 4000000 in
theorem first_any (va vb vc : Value) (x y z : List FileD) (w : World) (hx : RowN encF 3 (fun _ => True) w va x) (hy : RowN encF 3 (fun _ => True) w vb y) (hz : RowN encF 3 (fun _ => True) w vc z)
    (ox : ∀ f ∈ x, FileOk f) (oy : ∀ f ∈ y, FileOk f) (oz : ∀ f ∈ z, FileOk f) (lx : x.length ≤ 1000000) (ly : y.length ≤ 1000000) (lz : z.length ≤ 1000000) :
    Calls Tryd.prog 48 #[.agg #[va, vb, vc]] w fun e w' => e = .returned (.string ⟨(first3 x y z).toArray⟩) ∧ Below w.heap.size w w' := by
  have HX := Lib.hid hx
  have HY := Lib.hid hy
  have HZ := Lib.hid hz
  have OX := Lib.hid ox
  have OY := Lib.hid oy
  have OZ := Lib.hid oz
  have hp1 := firstF_len (p := []) ox (by simp)
  have hp2 := firstF_len oy hp1
  have HF := Lib.hid (show first3 x y z = firstF z (firstF y (firstF x [])) from rfl)
  have H1 := Lib.hid (show firstF x [] = firstF x [] from rfl)
  have H2 := Lib.hid (show firstF y (firstF x []) = firstF y (firstF x []) from rfl)
  rw [← HF.out] at HF
  obtain ⟨p1, e1⟩ : ∃ p1, p1 = firstF x [] := ⟨_, rfl⟩
  rw [← e1] at hp1 hp2
  obtain ⟨p2, e2⟩ : ∃ p2, p2 = firstF y p1 := ⟨_, rfl⟩
  rw [← e2] at hp2
  obtain ⟨p3, e3⟩ : ∃ p3, p3 = firstF z p2 := ⟨_, rfl⟩
  have E := Lib.hid (show first3 x y z = p3 by rw [e3, e2, e1]; rfl)
  rw [E.out]
  have E1 := Lib.hid e1
  have E2 := Lib.hid e2
  have E3 := Lib.hid e3
  obtain ⟨aa, ca, hva, _⟩ := hx.slice
  obtain ⟨ab, cb, hvb, _⟩ := hy.slice
  obtain ⟨ac, cc, hvc, _⟩ := hz.slice
  subst hva hvb hvc
  have hbw := (Below.refl w.heap.size w).alloc (Nat.le_refl _) (.cells #[.slice aa x.length ca, .slice ab y.length cb, .slice ac z.length cc] 81)
  have HBW := Lib.hid hbw
  have i0 : ∀ w, (Instr.index 81 (.agg #[.slice aa x.length ca, .slice ab y.length cb, .slice ac z.length cc]) (.int .i64 0)).run Tryd.prog w = .ok (.slice aa x.length ca) w := fun _ => by kernel_rfl
  have i1 : ∀ w, (Instr.index 81 (.agg #[.slice aa x.length ca, .slice ab y.length cb, .slice ac z.length cc]) (.int .i64 1)).run Tryd.prog w = .ok (.slice ab y.length cb) w := fun _ => by kernel_rfl
  have i2 : ∀ w, (Instr.index 81 (.agg #[.slice aa x.length ca, .slice ab y.length cb, .slice ac z.length cc]) (.int .i64 2)).run Tryd.prog w = .ok (.slice ac z.length cc) w := fun _ => by kernel_rfl
  clear HF H1 H2 E e1 e2 e3 hx hy hz ox oy oz hbw
  go_enter Tryd.func48, Tryd.ntmps48
  go_wp2_with fail
  generalize w.alloc (.cells #[.slice aa x.length ca, .slice ab y.length cb, .slice ac z.length cc] 81) = w1 at *
  go_loopw [3, 7] (fun v3 v7 wr => ∃ (k : Nat) (p : Txt), v7 = .int .i64 k ∧ v3 = .string ⟨p.toArray⟩ ∧ ((k = 0 ∧ p = []) ∨ (k = 1 ∧ p1 = p) ∨ (k = 2 ∧ p2 = p) ∨ (k = 3 ∧ p3 = p)) ∧ Below w.heap.size w wr) (fun _ v7 _ => 3 - (intOf v7).toNat)
  case atStart => exact ⟨0, [], rfl, rfl, .inl ⟨rfl, rfl⟩, HBW.out⟩
  case round =>
    clear HBW
    obtain ⟨k, p, rfl, rfl, hk, hbel⟩ := hrel
    have HB := Lib.hid hbel
    clear hbel
    rcases hk with ⟨rfl, rfl⟩ | ⟨rfl, rfl⟩ | ⟨rfl, rfl⟩ | ⟨rfl, rfl⟩
    · by_cases hn : x = []
      · have QE := Lib.hid (show p1 = [] by rw [E1.out, hn]; rfl)
        have j1 : ¬ (0 : Int) < (x.length : Int) := by rw [hn]; simp
        clear hn
        go_wp2_with fail
        go_roundw
        case rel => exact ⟨1, p1, by go_num, by rw [QE.out], .inr (.inl ⟨rfl, rfl⟩), HB.out⟩
        case measure => simp [intOf]
      · obtain ⟨f, r, hfr⟩ := List.exists_cons_of_ne_nil hn
        have hrow := (HX.out.keep HB.out)
        rw [hfr] at hrow
        obtain ⟨g, o, c, hv, _, c0, _, _⟩ := hrow.head
        rw [← hfr] at hv
        injection hv with ea eb ec
        subst ea
        have hfo := (OX.out f (by rw [hfr]; simp)).p
        have j1 : (0 : Int) < (x.length : Int) := by rw [hfr, List.length_cons]; omega
        have HFF := Lib.hid (show p1 = if ([] : Txt) = [] ∨ ordS f.path [] < 0 then f.path else [] by rw [E1.out, hfr]; rfl)
        obtain ⟨q, hq⟩ : ∃ q, q = f.path := ⟨_, rfl⟩
        rw [← hq] at c0 hfo HFF
        clear hn hfr hrow hq ec eb
        have QE := Lib.hid (show p1 = q by rw [HFF.out, if_pos (.inl rfl)])
        go_wp2_with fail
        go_roundw
        case rel => exact ⟨1, p1, by go_num, by rw [QE.out], .inr (.inl ⟨rfl, rfl⟩), HB.out⟩
        case measure => simp [intOf]
    · by_cases hn : y = []
      · have QE := Lib.hid (show p2 = p1 by rw [E2.out, hn]; rfl)
        have j1 : ¬ (0 : Int) < (y.length : Int) := by rw [hn]; simp
        clear hn
        go_wp2_with fail
        go_roundw
        case rel => exact ⟨2, p2, by go_num, by rw [QE.out], .inr (.inr (.inl ⟨rfl, rfl⟩)), HB.out⟩
        case measure => simp [intOf]
      · obtain ⟨f, r, hfr⟩ := List.exists_cons_of_ne_nil hn
        have hrow := (HY.out.keep HB.out)
        rw [hfr] at hrow
        obtain ⟨g, o, c, hv, _, c0, _, _⟩ := hrow.head
        rw [← hfr] at hv
        injection hv with ea eb ec
        subst ea
        have hfo := (OY.out f (by rw [hfr]; simp)).p
        have j1 : (0 : Int) < (y.length : Int) := by rw [hfr, List.length_cons]; omega
        have HFF := Lib.hid (show p2 = if p1 = [] ∨ ordS f.path p1 < 0 then f.path else p1 by rw [E2.out, hfr]; rfl)
        obtain ⟨q, hq⟩ : ∃ q, q = f.path := ⟨_, rfl⟩
        rw [← hq] at c0 hfo HFF
        clear hn hfr hrow hq ec eb
        by_cases hpe : p1 = []
        · have QE := Lib.hid (show p2 = q by rw [HFF.out, if_pos (.inl hpe)])
          have qe : (p1 == []) = true := by simp [hpe]
          clear hpe
          go_wp2_with fail
          go_roundw
          case rel => exact ⟨2, p2, by go_num, by rw [QE.out], .inr (.inr (.inl ⟨rfl, rfl⟩)), HB.out⟩
          case measure => simp [intOf]
        · have qe : (p1 == []) = false := by simp [hpe]
          have OR := Lib.hid (fun w' => order_any q p1 w' hfo hp1)
          by_cases hlt : ordS q p1 < 0
          · have QE := Lib.hid (show p2 = q by rw [HFF.out, if_pos (.inr hlt)])
            clear HFF
            generalize ordS q p1 = od at *
            go_wp2_with fail
            refine (OR.out _).mono ?_
            rintro e w2 ⟨rfl, hb2⟩
            have HB2 := Lib.hid (HB.out.trans (hb2.mono HB.out.size))
            have c02 := (hb2.cell (p := ⟨g, o, none⟩) (World.block_lt_of_cell? wr _ c0)).trans c0
            clear hb2 c0
            go_wp2_with fail
            go_roundw
            case rel => exact ⟨2, p2, by go_num, by rw [QE.out], .inr (.inr (.inl ⟨rfl, rfl⟩)), HB2.out⟩
            case measure => simp [intOf]
          · have QE := Lib.hid (show p2 = p1 by rw [HFF.out, if_neg (by rintro (h | h); exact hpe h; exact hlt h)])
            clear HFF
            generalize ordS q p1 = od at *
            go_wp2_with fail
            refine (OR.out _).mono ?_
            rintro e w2 ⟨rfl, hb2⟩
            have HB2 := Lib.hid (HB.out.trans (hb2.mono HB.out.size))
            clear hb2
            go_wp2_with fail
            go_roundw
            case rel => exact ⟨2, p2, by go_num, by rw [QE.out], .inr (.inr (.inl ⟨rfl, rfl⟩)), HB2.out⟩
            case measure => simp [intOf]
    · by_cases hn : z = []
      · have QE := Lib.hid (show p3 = p2 by rw [E3.out, hn]; rfl)
        have j1 : ¬ (0 : Int) < (z.length : Int) := by rw [hn]; simp
        clear hn
        go_wp2_with fail
        go_roundw
        case rel => exact ⟨3, p3, by go_num, by rw [QE.out], .inr (.inr (.inr ⟨rfl, rfl⟩)), HB.out⟩
        case measure => simp [intOf]
      · obtain ⟨f, r, hfr⟩ := List.exists_cons_of_ne_nil hn
        have hrow := (HZ.out.keep HB.out)
        rw [hfr] at hrow
        obtain ⟨g, o, c, hv, _, c0, _, _⟩ := hrow.head
        rw [← hfr] at hv
        injection hv with ea eb ec
        subst ea
        have hfo := (OZ.out f (by rw [hfr]; simp)).p
        have j1 : (0 : Int) < (z.length : Int) := by rw [hfr, List.length_cons]; omega
        have HFF := Lib.hid (show p3 = if p2 = [] ∨ ordS f.path p2 < 0 then f.path else p2 by rw [E3.out, hfr]; rfl)
        obtain ⟨q, hq⟩ : ∃ q, q = f.path := ⟨_, rfl⟩
        rw [← hq] at c0 hfo HFF
        clear hn hfr hrow hq ec eb
        by_cases hpe : p2 = []
        · have QE := Lib.hid (show p3 = q by rw [HFF.out, if_pos (.inl hpe)])
          have qe : (p2 == []) = true := by simp [hpe]
          clear hpe
          go_wp2_with fail
          go_roundw
          case rel => exact ⟨3, p3, by go_num, by rw [QE.out], .inr (.inr (.inr ⟨rfl, rfl⟩)), HB.out⟩
          case measure => simp [intOf]
        · have qe : (p2 == []) = false := by simp [hpe]
          have OR := Lib.hid (fun w' => order_any q p2 w' hfo hp2)
          by_cases hlt : ordS q p2 < 0
          · have QE := Lib.hid (show p3 = q by rw [HFF.out, if_pos (.inr hlt)])
            clear HFF
            generalize ordS q p2 = od at *
            go_wp2_with fail
            refine (OR.out _).mono ?_
            rintro e w2 ⟨rfl, hb2⟩
            have HB2 := Lib.hid (HB.out.trans (hb2.mono HB.out.size))
            have c02 := (hb2.cell (p := ⟨g, o, none⟩) (World.block_lt_of_cell? wr _ c0)).trans c0
            clear hb2 c0
            go_wp2_with fail
            go_roundw
            case rel => exact ⟨3, p3, by go_num, by rw [QE.out], .inr (.inr (.inr ⟨rfl, rfl⟩)), HB2.out⟩
            case measure => simp [intOf]
          · have QE := Lib.hid (show p3 = p2 by rw [HFF.out, if_neg (by rintro (h | h); exact hpe h; exact hlt h)])
            clear HFF
            generalize ordS q p2 = od at *
            go_wp2_with fail
            refine (OR.out _).mono ?_
            rintro e w2 ⟨rfl, hb2⟩
            have HB2 := Lib.hid (HB.out.trans (hb2.mono HB.out.size))
            clear hb2
            go_wp2_with fail
            go_roundw
            case rel => exact ⟨3, p3, by go_num, by rw [QE.out], .inr (.inr (.inr ⟨rfl, rfl⟩)), HB2.out⟩
            case measure => simp [intOf]
    · go_wp2_with fail
      go_ret
      exact ⟨rfl, HB.out⟩
end Go.Proofs.YtfgimhgkjodcgaaDoor

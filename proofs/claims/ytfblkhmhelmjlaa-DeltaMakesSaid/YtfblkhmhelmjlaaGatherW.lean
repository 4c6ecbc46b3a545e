/- Walks of gather and take: texts and copies behind steps. -/
import Derived.Test.YtfblkhmhelmjlaaDelX
import Derived.Test.YtfblkhmhelmjlaaFrame
import Derived.Test.YtfblkhmhelmjlaaGen
import Derived.Test.YtfblkhmhelmjlaaRollX
import Derived.Test.YtfblkhmhelmjlaaMarkMath
import Derived.Test.YtfblkhmhelmjlaaOwnL
import Derived.Test.YtfblkhmhelmjlaaProg
import Derived.Test.YtfblkhmhelmjlaaRows
import Derived.Test.YtfblkhmhelmjlaaShelf
import Derived.Test.YtfblkhmhelmjlaaSigAt
import Derived.Test.YtfblkhmhelmjlaaSignMath
import Derived.Test.YtfblkhmhelmjlaaSignW
import Derived.BigQuiet
import Derived.Deep.QuietTactic
import Derived.IntWalk
import Derived.Laws.BitsAllLaws
import Derived.Laws.Rows
import Derived.Laws.Tables
import Derived.Lib.Hide
import Derived.Outline
import Derived.StillTailTactics
import Derived.WalkKit
import Derived.WalkLawsBesides
import Derived.WalkSpells
set_option linter.unusedVariables false
namespace Go.Proofs.Ytfblkhmhelmjlaa
open Go.RowKit

theorem gather_one (l : List DSt) (s : Txt) (hs : 0 < s.length) : gatherS (l ++ [txtSt (s.take 4096)]) (s.drop 4096) = gatherS l s := (gather_cons l s hs).symm

set_option maxRecDepth 100000 in
set_option maxHeartbeats 1000000 in
theorem gather_any (base n : Nat) (v : Value) (l : List DSt) (s : Txt) (w : World) (h : OwnS w base v l) (hok : OkL n l) (hn : n + s.length ≤ 1100000) (hb : base ≤ w.heap.size) :
    Calls Try.prog 93 #[v, .string ⟨s.toArray⟩] w fun e w' => ∃ v', e = .returned v' ∧ OwnS w' base v' (gatherS l s) ∧ TurnS base w v w' v' := by
  have H0 := Lib.hid h; clear h
  have hlen := hok.len
  have HB0 := hb
  have HSN := Lib.hid (show ∃ a k c, v = .slice a k c from own_slice H0.out)
  go_enter Try.func93, Try.ntmps93
  go_wp2_with fail
  go_loopw [0, 1] (fun a b wr => ∃ (l1 : List DSt) (r : Txt), b = .string ⟨r.toArray⟩ ∧ OwnS wr base a l1 ∧ Hid (gatherS l1 r = gatherS l s) ∧ l1.length + r.length ≤ 1100000 ∧ TurnS base w v wr a) (fun _ b _ => lenT b)
  case atStart => exact ⟨l, s, rfl, H0.out, Lib.hid rfl, by omega, TurnS.refl _ _ _⟩
  case round =>
    obtain ⟨l1, r, rfl, ho, HG, hll, htn⟩ := hrel
    have HO := Lib.hid ho; clear ho
    have RL := Lib.hid (show (⟨r.toArray⟩ : ByteArray).size = r.length from rfl)
    by_cases hlt : 0 < r.length
    · have hne : r.isEmpty = false := by cases r <;> simp_all
      have CL := fun w' => Lib.hid (rclone_any (r.take 4096) w' (by rw [List.length_take]; omega))
      have HSL := Lib.hid (own_slice HO.out)
      have HE := Lib.hid (show (⟨r.toArray⟩ : ByteArray).extract 0 (((min r.length 4096 : Nat) : Int)).toNat = ⟨(r.take 4096).toArray⟩ by
        rw [take_toArray, Int.toNat_natCast]
        congr 2
        rcases Nat.lt_or_ge r.length 4096 with h | h
        · rw [Nat.min_eq_left (by omega), List.take_of_length_le (Nat.le_refl _), List.take_of_length_le (by omega)]
        · rw [Nat.min_eq_right h])
      have HE2 := Lib.hid (show (⟨r.toArray⟩ : ByteArray).extract (((min r.length 4096 : Nat) : Int)).toNat r.length = ⟨(r.drop 4096).toArray⟩ by
        rw [drop_toArray _ _ _ (Nat.le_refl _), Int.toNat_natCast]
        congr 2
        rcases Nat.lt_or_ge r.length 4096 with h | h
        · rw [Nat.min_eq_left (by omega), List.drop_of_length_le (Nat.le_refl _), List.drop_of_length_le (by omega)]
        · rw [Nat.min_eq_right h])
      have HG2 := Lib.hid ((gather_one l1 r hlt).trans HG.out)
      have HM := Lib.hid (show min (r.length : Int) 4096 = ((min r.length 4096 : Nat) : Int) by omega)
      have m1 : ((min r.length 4096 : Nat) : Int) ≤ (r.length : Int) := by omega
      have m2 : (0 : Int) ≤ ((min r.length 4096 : Nat) : Int) := by omega
      have HDL := Lib.hid (show l1.length + 1 + (r.drop 4096).length ≤ 1100000 by rw [List.length_drop]; omega)
      have HDS := Lib.hid (show (r.drop 4096).length < r.length by rw [List.length_drop]; omega)
      go_upto_region 3 with fail
      rw [HM.out]
      clear HM
      generalize ((min r.length 4096 : Nat) : Int) = mm at *
      generalize r.take 4096 = t at *
      generalize r.drop 4096 = r2 at *
      go_wp2_with (first | (rw [HE.out]) | fail)
      refine (CL _).out.mono ?_
      rintro e w1 ⟨rfl, hb1⟩
      have O1 := Lib.hid (HO.out.new hb1)
      have T1 := Lib.hid (htn.new hb1 HB0)
      have hll1 : l1.length ≤ 2000000 := by omega
      have hsz : base ≤ w1.heap.size := by have := hb1.size; have := htn.kept.size; omega
      clear hb1 HO CL
      go_wp2_with (at_builtin; refine append_st (w := w1) (by rfl) (.tmp 11) (.tmp 17) 25 _ (by rfl) Try.underlying25 info_step (by rfl) base u0 l1 (txtSt t) (by rfl) O1.out (by rfl) hll1 hsz ?_; intro v' w3 hown3 htn3)
      have O3 := Lib.hid hown3; clear hown3
      have T3 := Lib.hid (T1.out.trans htn3); clear htn3 htn T1 O1
      go_wp2_with (first | (rw [HE2.out]) | fail)
      go_roundw
      case rel => exact ⟨_, r2, by rw [HE2.out], O3.out, HG2, by simp; have := HDL.out; omega, T3.out⟩
      case measure =>
        rw [HE2.out]
        exact HDS.out
    · obtain rfl : r = [] := List.eq_nil_of_length_eq_zero (by omega)
      have HG2 := Lib.hid (show l1 = gatherS l s by rw [← HG.out, gather_nil])
      clear HG
      go_wp2_with fail
      go_ret
      exact ⟨_, rfl, by rw [← HG2.out]; exact HO.out, htn⟩

theorem own_last {w : World} {base : Nat} {v : Value} {l : List DSt} {x : DSt} (h : OwnS w base v (l ++ [x])) : ∃ g cap, v = .slice (some ⟨g, 0, none⟩) (l.length + 1) cap ∧ base ≤ g ∧ DStAt w g (l.length * 3) x := by
  rcases h.2 with ⟨rfl, hn⟩ | ⟨g, cap, cur, rfl, hb, hg, _⟩
  · simp at hn
  · have C := World.ownsRow.cells h (g := g) rfl
    obtain ⟨f0, f1, f2⟩ := flat_get (l ++ [x]) l.length (by simp)
    have D0 := C _ _ f0
    have D1 := C _ _ f1
    have D2 := C _ _ f2
    rw [addr_add0] at D0 D1 D2
    rw [List.getElem_concat_length (by rfl)] at D0 D1 D2
    refine ⟨g, cap, by simp, hb, D0, D1, D2⟩

set_option maxRecDepth 100000 in
set_option maxHeartbeats 1000000 in
theorem take_any (base n : Nat) (v : Value) (l : List DSt) (a k : Int) (w : World) (h : OwnS w base v l) (hok : OkL n l) (hn : n ≤ 1100000) (ha : 0 ≤ a) (ha2 : a ≤ 1073741824) (hk : 0 ≤ k) (hk2 : k ≤ 1100000) (hb : base ≤ w.heap.size) :
    Calls Try.prog 92 #[v, .int .i64 a, .int .i64 k] w fun e w' => ∃ v', e = .returned v' ∧ OwnS w' base v' (takeS l a k) ∧ TurnS base w v w' v' := by
  have H0 := Lib.hid h; clear h
  have HB := Lib.hid hb; clear hb
  have hlen := hok.len
  rcases List.eq_nil_or_concat l with rfl | ⟨l1, x, rfl⟩
  · obtain ⟨s0, m0, c0, rfl⟩ := own_slice H0.out
    obtain rfl : m0 = 0 := own_lenV H0.out
    go_enter Try.func92, Try.ntmps92
    go_wp2_with (at_builtin; refine append_st (w := w) (by rfl) (.tmp 43) (.tmp 47) 25 _ (by rfl) Try.underlying25 info_step (by rfl) base _ [] ⟨a, k, []⟩ (by rfl) H0.out (by rfl) (by simp) HB.out ?_; intro v' w3 hown3 htn3)
    go_ret
    exact ⟨_, rfl, hown3, htn3⟩
  · rw [List.concat_eq_append] at H0 hok hlen ⊢
    have hx := hok.el x (by simp)
    rw [List.length_append, List.length_singleton] at hlen
    obtain ⟨p, m, t⟩ := x
    dsimp only at hx
    obtain ⟨x1, x2, x3, x4⟩ := hx
    obtain ⟨g, cap, rfl, hg, hst⟩ := own_last H0.out
    obtain ⟨d0, d1, d2⟩ := hst
    dsimp only at d0 d1 d2
    have HT := Lib.hid (take_snoc l1 ⟨p, m, t⟩ a k)
    dsimp only at HT
    have i1 : (0 : Int) < ((l1.length + 1 : Nat) : Int) := by omega
    have i2 : ((l1.length + 1 : Nat) : Int) - 1 = (l1.length : Int) := by omega
    have i3 : (l1.length : Int) < ((l1.length + 1 : Nat) : Int) := by omega
    generalize takeS (l1 ++ [⟨p, m, t⟩]) a k = res at *
    by_cases h1 : t = []
    · subst h1
      by_cases h2 : p + m = a
      · have HR := Lib.hid (show res = l1 ++ [⟨p, m + k, []⟩] by rw [HT.out, if_pos ⟨rfl, h2⟩])
        have q1 : (p + m == a) = true := by simp [h2]
        clear HT h2 hok
        go_enter Try.func92, Try.ntmps92
        go_wp2_with fail
        go_quiet (fail)
        have hbq := Below_drewN (Below.refl w.heap.size w) nq
        have hkq : Kept (fun k => (Value.slice (some ⟨g, 0, none⟩) (l1.length + 1) cap).ownBlock = some k) w (w.drewN nq) := Kept.new hbq _
        have H1 := Lib.hid (H0.out.new hbq)
        obtain ⟨hs1, fz1, hg1⟩ := H1.out.set (m + k)
        have HS := Lib.hid hs1
        have HTN := Lib.hid (show TurnS base w (.slice (some ⟨g, 0, none⟩) (l1.length + 1) cap) ((w.drewN nq).setCell ⟨g, l1.length * 3 + 1, none⟩ (.int .i64 (m + k))) (.slice (some ⟨g, 0, none⟩) (l1.length + 1) cap) from
          ⟨(hbq.mono HB.out).setCell (p := ⟨g, l1.length * 3 + 1, none⟩) hg1 _, hkq.setCell (p := ⟨g, l1.length * 3 + 1, none⟩) rfl _, fun g' e => .inl e⟩)
        have E1 : (w.drewN nq).cell? ⟨g, l1.length * 3 + 1, none⟩ = _ := d1
        clear hs1 hbq hkq d0 d1 d2
        generalize w.drewN nq = w1 at *
        go_wp2_with fail
        go_ret
        exact ⟨_, rfl, by rw [HR.out]; exact HS.out, HTN.out⟩
      · have HR := Lib.hid (show res = l1 ++ [⟨p, m, []⟩] ++ [⟨a, k, []⟩] by rw [HT.out, if_neg (fun c => h2 c.2)])
        have q1 : (p + m == a) = false := by simp [h2]
        clear HT h2 hok
        go_enter Try.func92, Try.ntmps92
        go_wp2_with fail
        go_quiet (fail)
        have hbq := Below_drewN (Below.refl w.heap.size w) nq
        have hkq : Kept (fun k => (Value.slice (some ⟨g, 0, none⟩) (l1.length + 1) cap).ownBlock = some k) w (w.drewN nq) := Kept.new hbq _
        have H1 := Lib.hid (H0.out.new hbq)
        have HTQ := Lib.hid (show TurnS base w (.slice (some ⟨g, 0, none⟩) (l1.length + 1) cap) (w.drewN nq) (.slice (some ⟨g, 0, none⟩) (l1.length + 1) cap) from ⟨hbq.mono HB.out, hkq, fun g' e => .inl e⟩)
        have hsz : base ≤ (w.drewN nq).heap.size := HB.out
        clear hbq hkq d0 d1 d2
        generalize w.drewN nq = w1 at *
        go_wp2_with (at_builtin; refine append_st (w := w1) (by rfl) (.tmp 43) (.tmp 47) 25 _ (by rfl) Try.underlying25 info_step (by rfl) base _ (l1 ++ [⟨p, m, []⟩]) ⟨a, k, []⟩ (by rfl) H1.out (by rfl) (by rw [List.length_append, List.length_singleton]; omega) hsz ?_; intro v' w3 hown3 htn3)
        go_ret
        exact ⟨_, rfl, by rw [HR.out]; exact hown3, HTQ.out.trans htn3⟩
    · have HR := Lib.hid (show res = l1 ++ [⟨p, m, t⟩] ++ [⟨a, k, []⟩] by rw [HT.out, if_neg (fun c => h1 c.1)])
      have hne : t.isEmpty = false := by cases t <;> simp_all
      clear HT h1 hok
      go_enter Try.func92, Try.ntmps92
      go_wp2_with fail
      go_quiet (fail)
      have hbq := Below_drewN (Below.refl w.heap.size w) nq
      have hkq : Kept (fun k => (Value.slice (some ⟨g, 0, none⟩) (l1.length + 1) cap).ownBlock = some k) w (w.drewN nq) := Kept.new hbq _
      have H1 := Lib.hid (H0.out.new hbq)
      have HTQ := Lib.hid (show TurnS base w (.slice (some ⟨g, 0, none⟩) (l1.length + 1) cap) (w.drewN nq) (.slice (some ⟨g, 0, none⟩) (l1.length + 1) cap) from ⟨hbq.mono HB.out, hkq, fun g' e => .inl e⟩)
      have hsz : base ≤ (w.drewN nq).heap.size := HB.out
      clear hbq hkq d0 d1 d2
      generalize w.drewN nq = w1 at *
      go_wp2_with (at_builtin; refine append_st (w := w1) (by rfl) (.tmp 43) (.tmp 47) 25 _ (by rfl) Try.underlying25 info_step (by rfl) base _ (l1 ++ [⟨p, m, t⟩]) ⟨a, k, []⟩ (by rfl) H1.out (by rfl) (by rw [List.length_append, List.length_singleton]; omega) hsz ?_; intro v' w3 hown3 htn3)
      go_ret
      exact ⟨_, rfl, by rw [HR.out]; exact hown3, HTQ.out.trans htn3⟩
end Go.Proofs.Ytfblkhmhelmjlaa

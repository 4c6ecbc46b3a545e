/- The document's Bytes of a manifest. -/
import Derived.Test.YtkfkfpfnpfpkaaaDoorArgTree
import Derived.Test.YtkfkfpfnpfpkaaaDoorArgs3
import Derived.Test.YtkfkfpfnpfpkaaaDoorCodeMath
import Derived.Test.YtkfkfpfnpfpkaaaDoorFrame
import Derived.Test.YtkfkfpfnpfpkaaaDoorGen
import Derived.Test.YtkfkfpfnpfpkaaaDoorMarkMath
import Derived.Test.YtkfkfpfnpfpkaaaDoorOwnL
import Derived.Test.YtkfkfpfnpfpkaaaDoorQuietBelow
import Derived.Test.YtkfkfpfnpfpkaaaDoorReadW
import Derived.Test.YtkfkfpfnpfpkaaaDoorRefCheckW
import Derived.Test.YtkfkfpfnpfpkaaaDoorRefOrdW
import Derived.Test.YtkfkfpfnpfpkaaaDoorRefRightTW
import Derived.Test.YtkfkfpfnpfpkaaaDoorRowN
import Derived.Test.YtkfkfpfnpfpkaaaDoorRows
import Derived.Test.YtkfkfpfnpfpkaaaDoorText
import Derived.Test.YtkfkfpfnpfpkaaaDoorTreeMath
import Derived.BigQuiet
import Derived.Deep.QuietTactic
import Derived.Lib.Hide
import Derived.WalkKit
import Derived.WalkLawsBesides
import Derived.WalkSpells
set_option linter.unusedVariables false
namespace Go.Proofs.YtkfkfpfnpfpkaaaDoor
open Go.RowKit

theorem togF_paths : ∀ (l : List Txt) (q : Option Txt), togF q l = 0 → ∀ p ∈ l, pathS p = 0
  | [], _, _, p, hp => by simp at hp
  | x :: r, q, h, p, hp => by
    have hx : pathS x = 0 := by
      by_cases hx : pathS x = 0
      · exact hx
      · exfalso
        cases q <;> (unfold togF at h; rw [if_pos hx] at h; exact hx h)
    simp at hp
    rcases hp with rfl | hp
    · exact hx
    · cases q with
      | none =>
        unfold togF at h
        rw [if_neg (fun e => e hx)] at h
        exact togF_paths r (some x) h p hp
      | some q =>
        unfold togF at h
        rw [if_neg (fun e => e hx)] at h
        dsimp only at h
        by_cases h1 : ordS x q < 0
        · rw [if_pos h1] at h; exact absurd h (by decide)
        · rw [if_neg h1] at h
          by_cases h2 : x = q ∨ withinS x q = true
          · rw [if_pos h2] at h; exact absurd h (by decide)
          · rw [if_neg h2] at h
            exact togF_paths r (some x) h p hp
theorem path_len {p : Txt} (h : pathS p = 0) : p.length ≤ 200 := by
  unfold pathS at h
  by_cases h1 : 200 < p.length
  · rw [if_pos h1] at h; exact absurd h (by decide)
  · omega
theorem firstE_all {α : Type} (E : α → Int) : ∀ l : List α, firstE E l = 0 → ∀ x ∈ l, E x = 0
  | [], _, x, hx => by simp at hx
  | y :: r, h, x, hx => by
    unfold firstE at h
    by_cases hy : E y = 0
    · rw [if_neg (fun e => e hy)] at h
      simp at hx
      rcases hx with rfl | hx
      · exact hy
      · exact firstE_all E r h x hx
    · rw [if_pos hy] at h; exact absurd h hy
structure ItemR (x : ItemD) : Prop where
  p : x.path.length ≤ 200
  m0 : 0 ≤ x.mode
  m1 : x.mode ≤ 511
  s0 : 0 ≤ x.size
  s1 : x.size ≤ 65536
  k : x.mark.length = 32
theorem rightS_each {l : List ItemD} (h : rightS l = 0) : l.length ≤ 256 ∧ ∀ x ∈ l, ItemR x := by
  unfold rightS at h
  by_cases ht : togS (l.map (·.path)) = 0
  · rw [if_neg (fun e => e ht)] at h
    unfold togS at ht
    by_cases hl : 256 < (l.map (·.path)).length
    · rw [if_pos hl] at ht; exact absurd ht (by decide)
    · rw [if_neg hl] at ht
      rw [List.length_map] at hl
      refine ⟨by omega, fun x hx => ?_⟩
      have hp := path_len (togF_paths _ _ ht x.path (List.mem_map.2 ⟨x, hx, rfl⟩))
      have hi := firstE_all _ _ h x hx
      unfold itemE at hi
      by_cases h1 : x.mode < 0 ∨ 511 < x.mode
      · rw [if_pos h1] at hi; exact absurd hi (by decide)
      · rw [if_neg h1] at hi
        by_cases h2 : x.size < 0 ∨ 65536 < x.size
        · rw [if_pos h2] at hi; exact absurd hi (by decide)
        · rw [if_neg h2] at hi
          by_cases h3 : x.mark.length = 32
          · exact ⟨hp, by omega, by omega, by omega, by omega, h3⟩
          · rw [if_pos h3] at hi; exact absurd hi (by decide)
  · rw [if_pos ht] at h; exact absurd h ht
theorem sharedS_le : ∀ a b : Txt, sharedS a b ≤ a.length ∧ sharedS a b ≤ b.length
  | [], _ => ⟨Nat.zero_le _, Nat.zero_le _⟩
  | _ :: _, [] => ⟨Nat.zero_le _, Nat.zero_le _⟩
  | a :: s, b :: t => by
    unfold sharedS
    split
    · have := sharedS_le s t; simp; omega
    · exact ⟨Nat.zero_le _, Nat.zero_le _⟩
theorem cat2 (a b : List UInt8) : (ByteArray.mk a.toArray) ++ (ByteArray.mk b.toArray) = ⟨(a ++ b).toArray⟩ := by
  apply ByteArray.ext
  simp
set_option maxRecDepth 100000 in
set_option maxHeartbeats 2000000 in
theorem refMBytes_any (v : Value) (l : List ItemD) (w : World) (hrow : RowN encI 4 (fun _ => True) w v l) (hok : ∀ x ∈ l, ItemOk x) (hl : l.length ≤ 1000000) :
    Calls Tryd.prog 31 #[v] w fun e w' => e = .returned (.tuple #[.string ⟨(mbytesS l).1.toArray⟩, .int .i64 (mbytesS l).2]) ∧ Below w.heap.size w w' := by
  have RT := Lib.hid (refRight9_any v l w hrow hok hl)
  obtain ⟨va, vc, hv, _⟩ := hrow.slice
  subst hv
  have HRO := Lib.hid hrow
  clear hrow
  by_cases hr : rightS l = 0
  · have HM := Lib.hid (show mbytesS l = (nb l.length ++ mbE [] l, 0) from if_neg (fun h => h hr))
    obtain ⟨hl2, heach⟩ := rightS_each hr
    have HE := Lib.hid heach
    rw [hr] at RT
    generalize mbytesS l = mres at *
    clear hr heach
    have RB0 := fun w' => Lib.hid (refBytes_ok l.length w' (by omega))
    have hnb := (nb_length l.length).2
    go_enter Tryd.func31, Tryd.ntmps31
    go_wp2_with fail
    refine RT.out.mono ?_
    rintro e w1 ⟨rfl, hb1⟩
    have HB1 := Lib.hid hb1
    clear hb1 RT
    go_wp2_with fail
    refine (RB0 _).out.mono ?_
    rintro e w2 ⟨rfl, hb2⟩
    have HB2 := Lib.hid (HB1.out.trans (hb2.mono HB1.out.size))
    clear hb2 RB0 HB1
    go_wp2_with fail
    go_loopw [5, 6, 7] (fun v5 v6 v7 wr => ∃ (i : Nat) (out last : Txt), i ≤ l.length ∧ v7 = .int .i64 i ∧ v5 = .string ⟨out.toArray⟩ ∧ v6 = .string ⟨last.toArray⟩ ∧ Hid (out ++ mbE last (l.drop i) = nb l.length ++ mbE [] l) ∧ last.length ≤ 200 ∧ out.length ≤ 10 + i * 300 ∧ Below w.heap.size w wr) (fun _ _ v7 _ => l.length - (intOf v7).toNat)
    case atStart => exact ⟨0, _, [], by omega, rfl, rfl, rfl, Lib.hid rfl, by simp, by omega, HB2.out⟩
    case round =>
      clear HB2 hnb
      obtain ⟨i, out, last, hi, rfl, rfl, rfl, HA, hll, hol, hbel⟩ := hrel
      have HB := Lib.hid hbel
      clear hbel
      have i0 : (0 : Int) ≤ (i : Int) := by omega
      by_cases hlt : i < l.length
      · have j1 : (i : Int) < (l.length : Int) := by omega
        obtain ⟨g, o, rfl, hel⟩ := HRO.out.el hlt
        have HX := Lib.hid ((hel i hlt).new HB.out)
        have hx := HE.out l[i] (List.getElem_mem hlt)
        have HD := Lib.hid (show l.drop i = l[i] :: l.drop (i + 1) from List.drop_eq_getElem_cons hlt)
        generalize l[i] = x at *
        obtain ⟨p, md, sz, mk⟩ := x
        obtain ⟨hp, hm0, hm1, hs0, hs1, hk⟩ := hx
        dsimp only at hp hm0 hm1 hs0 hs1 hk
        have hsh := sharedS_le last p
        have SH := fun w' => Lib.hid (refShared_any last p w' (by omega) (by omega))
        have HN := Lib.hid (show out ++ nb (sharedS last p) ++ tb (p.drop (sharedS last p)) ++ nb md.toNat ++ nb sz.toNat ++ mk ++ mbE p (l.drop (i + 1)) = nb l.length ++ mbE [] l by
          rw [← HA.out, HD.out]
          show _ = out ++ (nb (sharedS last p) ++ tb (p.drop (sharedS last p)) ++ nb md.toNat ++ nb sz.toNat ++ mk ++ mbE p (l.drop (i + 1)))
          simp only [List.append_assoc])
        generalize sharedS last p = n at *
        obtain ⟨hn1, hn2⟩ := hsh
        obtain ⟨mdn, hmd⟩ : ∃ mdn : Nat, md = (mdn : Int) := ⟨md.toNat, by omega⟩
        obtain ⟨szn, hsz⟩ : ∃ szn : Nat, sz = (szn : Int) := ⟨sz.toNat, by omega⟩
        subst hmd
        subst hsz
        rw [Int.toNat_natCast, Int.toNat_natCast] at HN
        have EX := Lib.hid (show (⟨p.toArray⟩ : ByteArray).extract n p.length = ⟨(p.drop n).toArray⟩ from drop_toArray p n p.length (Nat.le_refl _))
        have SP := Lib.hid (show (⟨p.toArray⟩ : ByteArray).size = p.length from rfl)
        have htl : (p.drop n).length ≤ 200 := by rw [List.length_drop]; omega
        have TX := fun w' => Lib.hid (refText_ok (p.drop n) w' (by omega))
        have htb : (tb (p.drop n)).length ≤ 210 := by unfold tb; rw [List.length_append]; have := (nb_length (p.drop n).length).2; omega
        generalize p.drop n = rs at *
        have B1 := fun w' => Lib.hid (refBytes_ok n w' (by omega))
        have B2 := fun w' => Lib.hid (refBytes_ok mdn w' (by omega))
        have B3 := fun w' => Lib.hid (refBytes_ok szn w' (by omega))
        have l1 := (nb_length n).2
        have l2 := (nb_length mdn).2
        have l3 := (nb_length szn).2
        generalize nb n = e1 at *
        generalize nb mdn = e2 at *
        generalize nb szn = e3 at *
        generalize tb rs = tbs at *
        have hi256 : i ≤ 256 := by omega
        have k1 : ¬ 9223372036854775807 < out.length + e1.length := by omega
        have k2 : ¬ 9223372036854775807 < out.length + e1.length + tbs.length := by omega
        have k3 : ¬ 9223372036854775807 < out.length + e1.length + tbs.length + e2.length := by omega
        have k4 : ¬ 9223372036854775807 < out.length + e1.length + tbs.length + e2.length + e3.length := by omega
        have k5 : ¬ 9223372036854775807 < out.length + e1.length + tbs.length + e2.length + e3.length + mk.length := by omega
        have n1 : (0 : Int) ≤ (n : Int) := by omega
        have n2 : (n : Int) ≤ (p.length : Int) := by omega
        clear hel HA HD
        have c0 := HX.out.i0
        go_wp2_with fail
        refine (SH _).out.mono ?_
        rintro e w3 ⟨rfl, hb3⟩
        have HB3 := Lib.hid (HB.out.trans (hb3.mono HB.out.size))
        have HX3 := Lib.hid (HX.out.new hb3)
        clear hb3 SH c0 HB HX
        have c0 := HX3.out.i0
        go_wp2_with fail
        rw [EX.out]
        refine (TX _).out.mono ?_
        rintro e w4 ⟨rfl, hb4⟩
        have HB4 := Lib.hid (HB3.out.trans (hb4.mono HB3.out.size))
        have HX4 := Lib.hid (HX3.out.new hb4)
        clear hb4 TX c0 HB3 HX3
        have d1 := HX4.out.i1
        have d2 := HX4.out.i2
        have d3 := HX4.out.i3
        go_wp2_with fail
        have F1 := below_cell d1
        have F2 := below_cell d2
        have F3 := below_cell d3
        clear d1 d2 d3
        refine wp_region_below (by kernel_rfl) (by kernel_rfl) ?_
        repeat (go_big_quiet_step ((first | (go_at_call 71; with_reducible exact below_calls (B1 _).out) | (go_at_call 71; with_reducible exact below_calls (B2 _).out) | (go_at_call 71; with_reducible exact below_calls (B3 _).out))))
        refine wpQuiet_nil ?_
        rintro _ ⟨⟨w5, hb5⟩, rfl⟩
        have HB5 := Lib.hid (HB4.out.trans (hb5.mono HB4.out.size))
        have HX5 := Lib.hid (HX4.out.new hb5)
        clear F1 F2 F3 hb5 HB4 HX4
        have c0 := HX5.out.i0
        go_wp2_with fail
        go_roundw
        case rel => exact ⟨i + 1, out ++ e1 ++ tbs ++ e2 ++ e3 ++ mk, p, by omega, by go_num, by rw [cat2, cat2, cat2, cat2, cat2], rfl, HN, hp, by simp only [List.length_append]; omega, HB5.out⟩
        case measure => simp [intOf]; omega
      · obtain rfl : i = l.length := by omega
        have j1 : ¬ (l.length : Int) < (l.length : Int) := by omega
        have HN := Lib.hid (show out = nb l.length ++ mbE [] l by rw [← HA.out, List.drop_eq_nil_of_le (Nat.le_refl _)]; simp [mbE])
        clear HA
        go_wp2_with fail
        go_ret2
        refine ⟨?_, HB.out⟩
        rw [HM.out, ← HN.out]
        rfl
  · have HM := Lib.hid (show mbytesS l = ([], rightS l) from if_pos hr)
    have q : (rightS l != 0) = true := by simp [hr]
    generalize rightS l = re at *
    generalize mbytesS l = mres at *
    clear hr
    go_enter Tryd.func31, Tryd.ntmps31
    go_wp2_with fail
    refine RT.out.mono ?_
    rintro e w1 ⟨rfl, hb1⟩
    go_wp2_with fail
    go_ret2
    refine ⟨?_, hb1⟩
    rw [HM.out]
    rfl
end Go.Proofs.YtkfkfpfnpfpkaaaDoor

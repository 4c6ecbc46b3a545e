/- The document's image of a tree. -/
import Derived.Test.YtfgimhgkjodcgaaDoorArgTree
import Derived.Test.YtfgimhgkjodcgaaDoorCodeMath
import Derived.Test.YtfgimhgkjodcgaaDoorFrame
import Derived.Test.YtfgimhgkjodcgaaDoorGen
import Derived.Test.YtfgimhgkjodcgaaDoorImgMath
import Derived.Test.YtfgimhgkjodcgaaDoorMarkMath
import Derived.Test.YtfgimhgkjodcgaaDoorOwnL
import Derived.Test.YtfgimhgkjodcgaaDoorQuietBelow
import Derived.Test.YtfgimhgkjodcgaaDoorReadW
import Derived.Test.YtfgimhgkjodcgaaDoorCkX
import Derived.Test.YtfgimhgkjodcgaaDoorRowN
import Derived.Test.YtfgimhgkjodcgaaDoorRows
import Derived.Test.YtfgimhgkjodcgaaDoorText
import Derived.Test.YtfgimhgkjodcgaaDoorTreeMath
import Derived.BigQuiet
import Derived.Deep.Cut
import Derived.Deep.CutBlock
import Derived.Deep.CutRange
import Derived.Deep.DeepCutAuto
import Derived.Deep.QuietTactic
import Derived.Lib.Hide
import Derived.WalkKit
import Derived.WalkLawsBesides
import Derived.WalkSpells
set_option linter.unusedVariables false
namespace Go.Proofs.YtfgimhgkjodcgaaDoor
open Go.RowKit

theorem imgcat (a b : Txt) : (⟨a.toArray⟩ : ByteArray) ++ ⟨b.toArray⟩ = ⟨(a ++ b).toArray⟩ := by simp [ByteArray.ext_iff]
set_option maxRecDepth 100000 in
set_option maxHeartbeats 2000000 in
theorem refImgOf_any (v : Value) (l : List FileD) (w : World) (hrow : RowN encF 3 (fun _ => True) w v l) (hok : ∀ x ∈ l, FileOk x) (hl : l.length ≤ 1000000) :
    Calls Tryd.prog 13 #[v] w fun e w' => e = .returned (.tuple #[.string ⟨(imgS l).1.toArray⟩, .int .i64 (imgS l).2]) ∧ Below w.heap.size w w' := by
  obtain ⟨va, vc, hv, _⟩ := hrow.slice
  subst hv
  have CK := Lib.hid (refCheck_any _ l w hrow hok hl)
  have HRO := Lib.hid hrow
  clear hrow hok
  by_cases hc : checkS l = 0
  · obtain ⟨hl2, hR⟩ := checkS_each hc
    have HR := Lib.hid hR
    have hhd := hdsE_len l hR
    have HIM := Lib.hid (show imgS l = if 524288 < (imgB l).length then ([], 4) else (imgB l, 0) from if_neg (fun k => k hc))
    rw [hc] at CK
    clear hc hR
    have hnb := (nb_length l.length).2
    have B0 := fun w' => Lib.hid (refBytes_ok l.length w' (by omega))
    have HB0 := Lib.hid (show imgB l = nb l.length ++ hdsE l ++ datE l from rfl)
    generalize imgS l = res at *
    generalize imgB l = img at *
    go_enter Tryd.func13, Tryd.ntmps13
    go_wp2_with fail
    refine CK.out.mono ?_
    rintro e w1 ⟨rfl, hb1⟩
    have HB1 := Lib.hid hb1
    clear hb1 CK
    go_wp2_with fail
    refine (B0 _).out.mono ?_
    rintro e w2 ⟨rfl, hb2⟩
    have HB2 := Lib.hid (HB1.out.trans (hb2.mono HB1.out.size))
    clear hb2 B0 HB1
    go_wp2_with fail
    go_loopw [5, 6] (fun v5 v6 wr => ∃ (i : Nat) (out : Txt), i ≤ l.length ∧ v6 = .int .i64 i ∧ v5 = .string ⟨out.toArray⟩ ∧ Hid (out ++ hdsE (l.drop i) = nb l.length ++ hdsE l) ∧ out.length ≤ 10 + i * 230 ∧ Below w.heap.size w wr) (fun _ v6 _ => l.length - (intOf v6).toNat)
    case atStart => exact ⟨0, _, by omega, rfl, rfl, Lib.hid rfl, by omega, HB2.out⟩
    case round =>
      clear HB2
      obtain ⟨i, out, hi, rfl, rfl, HA, hol, hbel⟩ := hrel
      have HB := Lib.hid hbel
      clear hbel
      have i0 : (0 : Int) ≤ (i : Int) := by omega
      by_cases hlt : i < l.length
      · have j1 : (i : Int) < (l.length : Int) := by omega
        obtain ⟨g, o, rfl, hel⟩ := HRO.out.el hlt
        have HX := Lib.hid ((hel i hlt).new HB.out)
        have hx := HR.out l[i] (List.getElem_mem hlt)
        have HD := Lib.hid (show l.drop i = l[i] :: l.drop (i + 1) from List.drop_eq_getElem_cons hlt)
        generalize l[i] = x at *
        obtain ⟨p, md, dt⟩ := x
        obtain ⟨hp, hm0, hm1, hd⟩ := hx
        dsimp only at hp hm0 hm1 hd
        have HN := Lib.hid (show out ++ tb p ++ nb md.toNat ++ nb dt.length ++ hdsE (l.drop (i + 1)) = nb l.length ++ hdsE l by
          rw [← HA.out, HD.out]
          show _ = out ++ (tb p ++ nb md.toNat ++ nb dt.length ++ hdsE (l.drop (i + 1)))
          simp only [List.append_assoc])
        obtain ⟨mdn, hmd⟩ : ∃ mdn : Nat, md = (mdn : Int) := ⟨md.toNat, by omega⟩
        subst hmd
        rw [Int.toNat_natCast] at HN
        have TX := fun w' => Lib.hid (refText_ok p w' (by omega))
        have htb : (tb p).length ≤ 210 := by unfold tb; rw [List.length_append]; have := (nb_length p.length).2; omega
        have B1 := fun w' => Lib.hid (refBytes_ok mdn w' (by omega))
        have B2 := fun w' => Lib.hid (refBytes_ok dt.length w' (by omega))
        have l1 := (nb_length mdn).2
        have l2 := (nb_length dt.length).2
        generalize nb mdn = e1 at *
        generalize nb dt.length = e2 at *
        generalize tb p = tbs at *
        have hi256 : i ≤ 256 := by omega
        have k1 : ¬ 9223372036854775807 < out.length + tbs.length := by omega
        have k2 : ¬ 9223372036854775807 < out.length + tbs.length + e1.length := by omega
        have k3 : ¬ 9223372036854775807 < out.length + tbs.length + e1.length + e2.length := by omega
        have hle : e1.length + e2.length + tbs.length ≤ 230 := by omega
        clear hel HA HD
        have c0 := HX.out.f0
        go_wp2_with fail
        refine (TX _).out.mono ?_
        rintro e w3 ⟨rfl, hb3⟩
        have HB3 := Lib.hid (HB.out.trans (hb3.mono HB.out.size))
        have HX3 := Lib.hid (HX.out.new hb3)
        clear hb3 TX c0 HB HX
        have c1 := HX3.out.f1
        have c2 := HX3.out.f2
        go_wp2_with fail
        have F1 := below_cell c1
        have F2 := below_cell c2
        clear c1 c2
        refine wp_region_below (by kernel_rfl) (by kernel_rfl) ?_
        repeat (go_big_quiet_step ((first | (go_at_call 32; with_reducible exact below_calls (B1 _).out) | (go_at_call 32; with_reducible exact below_calls (B2 _).out))))
        refine wpQuiet_nil ?_
        rintro _ ⟨⟨w5, hb5⟩, rfl⟩
        have HB5 := Lib.hid (HB3.out.trans (hb5.mono HB3.out.size))
        clear F1 F2 hb5 HB3 HX3
        go_wp2_with fail
        go_roundw
        case rel => exact ⟨i + 1, out ++ tbs ++ e1 ++ e2, by omega, by go_num, by rw [imgcat, imgcat, imgcat], HN, by simp only [List.length_append]; omega, HB5.out⟩
        case measure => simp [intOf]; omega
      · obtain rfl : i = l.length := by omega
        have j1 : ¬ (l.length : Int) < (l.length : Int) := by omega
        have HN := Lib.hid (show out = nb l.length ++ hdsE l by rw [← HA.out, List.drop_eq_nil_of_le (Nat.le_refl _)]; simp [hdsE])
        rw [← HN.out] at HB0
        have hol2 : out.length ≤ 60000 := by omega
        clear HA HN hol
        go_wp2_with fail
        go_loopw [5, 9] (fun v5 v9 wr => ∃ (i : Nat) (out : Txt), i ≤ l.length ∧ v9 = .int .i64 i ∧ v5 = .string ⟨out.toArray⟩ ∧ Hid (out ++ datE (l.drop i) = img) ∧ out.length ≤ 524288 ∧ Below w.heap.size w wr) (fun _ v9 _ => l.length - (intOf v9).toNat)
        case atStart => exact ⟨0, _, by omega, rfl, rfl, Lib.hid HB0.out.symm, by omega, HB.out⟩
        case round =>
          clear HB HB0 hol2 j1 i0 hi
          obtain ⟨i, out, hi, rfl, rfl, HA, hol, hbel⟩ := hrel
          have HB := Lib.hid hbel
          clear hbel
          have i0 : (0 : Int) ≤ (i : Int) := by omega
          by_cases hlt : i < l.length
          · have j1 : (i : Int) < (l.length : Int) := by omega
            obtain ⟨g, o, rfl, hel⟩ := HRO.out.el hlt
            have c2 := ((hel i hlt).new HB.out).f2
            have hd := (HR.out l[i] (List.getElem_mem hlt)).d
            have HD := Lib.hid (show l.drop i = l[i] :: l.drop (i + 1) from List.drop_eq_getElem_cons hlt)
            generalize l[i] = x at *
            obtain ⟨p, md, dt⟩ := x
            dsimp only at hd c2
            have HN := Lib.hid (show out ++ dt ++ datE (l.drop (i + 1)) = img by
              rw [← HA.out, HD.out, List.append_assoc]
              rfl)
            have k1 : ¬ 9223372036854775807 < out.length + dt.length := by omega
            clear hel HA HD
            by_cases hbig : 524288 < (out ++ dt).length
            · have hbig2 : 524288 < out.length + dt.length := by rw [List.length_append] at hbig; exact hbig
              have jb : (524288 : Int) < (out.length : Int) + (dt.length : Int) := by omega
              have HRE := Lib.hid (show res = ([], 4) by
                rw [HIM.out, if_pos]
                rw [← HN.out, List.length_append]
                omega)
              clear hbig
              go_wp2_with fail
              go_ret2
              exact ⟨by rw [HRE.out]; rfl, HB.out⟩
            · have hbig2 : ¬ 524288 < out.length + dt.length := by rw [List.length_append] at hbig; exact hbig
              have jb : ¬ (524288 : Int) < (out.length : Int) + (dt.length : Int) := by omega
              clear hbig
              go_wp2_with fail
              go_roundw
              case rel => exact ⟨i + 1, out ++ dt, by omega, by go_num, by rw [imgcat], HN, by rw [List.length_append]; omega, HB.out⟩
              case measure => simp [intOf]; omega
          · obtain rfl : i = l.length := by omega
            have j1 : ¬ (l.length : Int) < (l.length : Int) := by omega
            have HN := Lib.hid (show out = img by rw [← HA.out, List.drop_eq_nil_of_le (Nat.le_refl _)]; simp [datE])
            have HRE := Lib.hid (show res = (img, 0) by rw [HIM.out, if_neg]; rw [← HN.out]; omega)
            go_wp2_with fail
            go_ret2
            exact ⟨by rw [HRE.out, HN.out]; rfl, HB.out⟩
  · have HIM := Lib.hid (show imgS l = ([], checkS l) from if_pos hc)
    have q : (checkS l != 0) = true := by simp [hc]
    generalize checkS l = ce at *
    generalize imgS l = res at *
    clear hc
    go_enter Tryd.func13, Tryd.ntmps13
    go_wp2_with fail
    refine CK.out.mono ?_
    rintro e w1 ⟨rfl, hb1⟩
    go_wp2_with fail
    go_ret2
    exact ⟨by rw [HIM.out]; rfl, hb1⟩
end Go.Proofs.YtfgimhgkjodcgaaDoor

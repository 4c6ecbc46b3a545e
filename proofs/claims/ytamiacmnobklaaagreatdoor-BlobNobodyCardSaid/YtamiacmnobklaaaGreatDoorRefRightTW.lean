/- The document's Right. -/
import Derived.Test.YtamiacmnobklaaaGreatDoorArgTree
import Derived.Test.YtamiacmnobklaaaGreatDoorFrame
import Derived.Test.YtamiacmnobklaaaGreatDoorGen
import Derived.Test.YtamiacmnobklaaaGreatDoorInfos
import Derived.Test.YtamiacmnobklaaaGreatDoorOwnL
import Derived.Test.YtamiacmnobklaaaGreatDoorCdX
import Derived.Test.YtamiacmnobklaaaGreatDoorRefCheckW
import Derived.Test.YtamiacmnobklaaaGreatDoorRefNamesW
import Derived.Test.YtamiacmnobklaaaGreatDoorRefTogW
import Derived.Test.YtamiacmnobklaaaGreatDoorRowN
import Derived.Test.YtamiacmnobklaaaGreatDoorRows
import Derived.Test.YtamiacmnobklaaaGreatDoorTreeMath
import Derived.BigQuiet
import Derived.Deep.Cut
import Derived.Deep.CutRange
import Derived.Deep.DeepCutAuto
import Derived.Deep.QuietTactic
import Derived.Lib.Hide
import Derived.WalkKit
import Derived.WalkLawsBesides
import Derived.WalkSpells
set_option linter.unusedVariables false
namespace Go.Proofs.YtamiacmnobklaaaGreatDoor
open Go.RowKit

theorem ElAt.i0 {w : World} {g o : Nat} {x : ItemD} (h : ElAt encI w g o x) : w.cell? ⟨g, o, none⟩ = some (.string ⟨x.path.toArray⟩) := h 0 _ rfl
theorem ElAt.i1 {w : World} {g o : Nat} {x : ItemD} (h : ElAt encI w g o x) : w.cell? ⟨g, o + 1, none⟩ = some (.int .i64 x.mode) := h 1 _ rfl
theorem ElAt.i2 {w : World} {g o : Nat} {x : ItemD} (h : ElAt encI w g o x) : w.cell? ⟨g, o + 2, none⟩ = some (.int .i64 x.size) := h 2 _ rfl
theorem ElAt.i3 {w : World} {g o : Nat} {x : ItemD} (h : ElAt encI w g o x) : w.cell? ⟨g, o + 3, none⟩ = some (.string ⟨x.mark.toArray⟩) := h 3 _ rfl
set_option maxRecDepth 100000 in
set_option maxHeartbeats 2000000 in
theorem refRight9_any (v : Value) (xs : List ItemD) (w : World) (hrow : RowN encI 4 (fun _ => True) w v xs) (hok : ∀ x ∈ xs, ItemOk x) (hl : xs.length ≤ 1000000) :
    Calls Tryz.prog 92 #[v] w fun e w' => e = .returned (.int .i64 (rightS xs)) ∧ Below w.heap.size w w' := by
  obtain ⟨va, vc, hv, _⟩ := hrow.slice
  subst hv
  have HRO := Lib.hid hrow
  have HOK := Lib.hid hok
  have HCS := Lib.hid (show (if togS (xs.map (·.path)) ≠ 0 then togS (xs.map (·.path)) else firstE itemE (xs.drop 0)) = rightS xs from rfl)
  generalize rightS xs = res at *
  clear hrow hok
  go_enter Tryz.func92, Tryz.ntmps92
  go_wp2_with fail
  go_loopw [3, 4] (fun v3 v4 wr => ∃ i : Nat, i ≤ xs.length ∧ v4 = .int .i64 i ∧ OwnL strE wr w.heap.size 9 v3 ((xs.take i).map (·.path)) ∧ Below w.heap.size w wr) (fun _ v4 _ => xs.length - (intOf v4).toNat)
  case atStart => exact ⟨0, by omega, rfl, OwnL.nil _ _ _ _, Below.refl _ _⟩
  case round =>
    obtain ⟨i, hi, rfl, hown, hbel⟩ := hrel
    have HO := Lib.hid hown
    have HB := Lib.hid hbel
    clear hown hbel
    have i0 : (0 : Int) ≤ (i : Int) := by omega
    obtain ⟨wa, wm, wc', hv⟩ := own_slice HO.out
    subst hv
    have hvm : wm = ((xs.take i).map (·.path)).length := own_lenV HO.out
    by_cases hlt : i < xs.length
    · have j1 : (i : Int) < (xs.length : Int) := by omega
      obtain ⟨g, o, rfl, hel⟩ := HRO.out.el hlt
      have c0 := ((hel i hlt).new HB.out).i0
      have HT := Lib.hid (take_map_succ (·.path) xs i hlt)
      have hol : ((xs.take i).map (·.path)).length ≤ 1000000 := by rw [List.length_map, List.length_take]; omega
      generalize (xs.take i).map (·.path) = out at *
      generalize xs[i].path = p at *
      subst hvm
      clear hel
      go_wp2_with (at_builtin; refine append_elem (enc := strE) (w := wr) (by rfl) (.tmp 13) (.tmp 19) 54 9 (.string ByteArray.empty) 16 (by rfl) Tryz.underlying54 info_str (by rfl) w.heap.size _ out p (by rfl) (by rfl) HO.out (by rfl) (by omega) (by unfold maxLen; omega) HB.out.size ?_; intro v' w7 hown7 hb7 _; have HO7 := Lib.hid hown7; have HB7 := Lib.hid (HB.out.trans hb7); clear hown7 hb7)
      go_roundw
      case rel => exact ⟨i + 1, by omega, by go_num, by rw [HT.out]; exact HO7.out, HB7.out⟩
      case measure => simp [intOf]; omega
    · have j1 : ¬ (i : Int) < (xs.length : Int) := by omega
      have HPL := Lib.hid (show (xs.take i).map (·.path) = xs.map (·.path) by rw [List.take_of_length_le (by omega)])
      rw [HPL.out] at HO hvm
      have TG := Lib.hid (refTog_any _ (xs.map (·.path)) wr HO.out.any (fun x hx => by
        obtain ⟨y, hy, rfl⟩ := List.mem_map.1 hx
        exact (HOK.out y hy).p) (by rw [List.length_map]; omega))
      clear hvm HPL
      by_cases ht : togS (xs.map (·.path)) = 0
      · rw [if_neg (by rw [ht]; simp)] at HCS
        rw [ht] at TG
        generalize xs.map (·.path) = pl at *
        clear ht
        go_wp2_with fail
        refine TG.out.mono ?_
        rintro e w1 ⟨rfl, hb1⟩
        have HB1 := Lib.hid (HB.out.trans (hb1.mono HB.out.size))
        clear hb1 TG HB HO
        go_wp2_with fail
        go_loopw [6] (fun v6 wr => ∃ k : Nat, k ≤ xs.length ∧ v6 = .int .i64 k ∧ Hid (firstE itemE (xs.drop k) = res) ∧ w1 = wr) (fun v6 _ => xs.length - (intOf v6).toNat)
        case atStart => exact ⟨0, by omega, rfl, HCS, rfl⟩
        case round =>
          clear HCS
          obtain ⟨k, hk, rfl, HA, rfl⟩ := hrel
          have k0 : (0 : Int) ≤ (k : Int) := by omega
          by_cases hlk : k < xs.length
          · have m1 : (k : Int) < (xs.length : Int) := by omega
            have HT := Lib.hid (firstE_at itemE xs k hlk)
            obtain ⟨g, o, rfl, hel⟩ := HRO.out.el hlk
            have hel1 := (hel k hlk).new HB1.out
            have c1 := hel1.i1
            have c2 := hel1.i2
            have c3 := hel1.i3
            have hkl := (HOK.out xs[k] (List.getElem_mem hlk)).k
            have hmb := (HOK.out xs[k] (List.getElem_mem hlk)).m
            have hsb := (HOK.out xs[k] (List.getElem_mem hlk)).s
            generalize xs[k] = x at *
            obtain ⟨p, md, sz, mk⟩ := x
            dsimp only at c1 c2 c3 hkl hmb hsb
            have SD := Lib.hid (show (⟨mk.toArray⟩ : ByteArray).size = mk.length from rfl)
            clear hel hel1
            have HE := Lib.hid (show itemE ⟨p, md, sz, mk⟩ = if md < 0 ∨ 511 < md then 11 else if sz < 0 ∨ 65536 < sz then 4 else if mk.length ≠ 32 then 5 else 0 from rfl)
            generalize itemE ⟨p, md, sz, mk⟩ = ie at *
            by_cases hm : md < 0 ∨ 511 < md
            · have HN := Lib.hid (show 11 = res by rw [← HA.out, HT.out, HE.out, if_pos hm, if_pos (by decide)])
              have hcc : md < 0 ∨ (¬ md < 0 ∧ 511 < md) := by omega
              clear HA HT HE hm
              rcases hcc with m2 | ⟨m2, m3⟩
              all_goals
                go_wp2_with fail
                go_ret
                exact ⟨by rw [← HN.out]; rfl, HB1.out⟩
            · have m2 : ¬ md < 0 := fun h => hm (.inl h)
              have m3 : ¬ 511 < md := fun h => hm (.inr h)
              by_cases hs : sz < 0 ∨ 65536 < sz
              · have HN := Lib.hid (show 4 = res by rw [← HA.out, HT.out, HE.out, if_neg hm, if_pos hs, if_pos (by decide)])
                have hcc : sz < 0 ∨ (¬ sz < 0 ∧ 65536 < sz) := by omega
                clear HA HT HE hm hs
                rcases hcc with m4 | ⟨m4, m5⟩
                all_goals
                  go_wp2_with fail
                  go_ret
                  exact ⟨by rw [← HN.out]; rfl, HB1.out⟩
              · have m4 : ¬ sz < 0 := fun h => hs (.inl h)
                have m5 : ¬ 65536 < sz := fun h => hs (.inr h)
                by_cases hk32 : mk.length = 32
                · have q : ((mk.length : Int) != 32) = false := by rw [hk32]; rfl
                  have e5 : ie = 0 := by rw [HE.out, if_neg hm, if_neg hs, if_neg (fun h => h hk32)]
                  have HN := Lib.hid (show firstE itemE (xs.drop (k + 1)) = res by rw [← HA.out, HT.out, if_neg (by rw [e5]; decide)])
                  clear e5
                  clear HA HT HE hm hs hk32
                  go_wp2_with fail
                  go_roundw
                  case rel => exact ⟨k + 1, by omega, by go_num, HN, trivial⟩
                  case measure => simp [intOf]; omega
                · have q : ((mk.length : Int) != 32) = true := by rw [bne_iff_ne]; omega
                  have HN := Lib.hid (show 5 = res by rw [← HA.out, HT.out, HE.out, if_neg hm, if_neg hs, if_pos hk32, if_pos (by decide)])
                  clear HA HT HE hm hs hk32
                  go_wp2_with fail
                  go_ret
                  exact ⟨by rw [← HN.out]; rfl, HB1.out⟩
          · obtain rfl : k = xs.length := by omega
            have m1 : ¬ (xs.length : Int) < (xs.length : Int) := by omega
            have HN := Lib.hid (show 0 = res by rw [← HA.out, firstE_end])
            clear HA
            go_wp2_with fail
            go_ret
            exact ⟨by rw [← HN.out]; rfl, HB1.out⟩
      · rw [if_pos ht] at HCS
        have q : (togS (xs.map (·.path)) != 0) = true := by simp [ht]
        generalize togS (xs.map (·.path)) = te at *
        generalize xs.map (·.path) = pl at *
        clear ht
        go_wp2_with fail
        refine TG.out.mono ?_
        rintro e w1 ⟨rfl, hb1⟩
        have HB1 := Lib.hid (HB.out.trans (hb1.mono HB.out.size))
        clear hb1 TG HB HO
        go_wp2_with fail
        go_ret
        exact ⟨by rw [← HCS.out]; rfl, HB1.out⟩
end Go.Proofs.YtamiacmnobklaaaGreatDoor

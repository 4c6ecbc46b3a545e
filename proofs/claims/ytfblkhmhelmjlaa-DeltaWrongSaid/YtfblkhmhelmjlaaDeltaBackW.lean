/- The walks of the laws DeltaBack and DeltaWrong. -/
import Derived.Test.YtfblkhmhelmjlaaApplyDW
import Derived.Test.YtfblkhmhelmjlaaTabX
import Derived.Test.YtfblkhmhelmjlaaBldShelf
import Derived.Test.YtfblkhmhelmjlaaBookW
import Derived.Test.YtfblkhmhelmjlaaDelX
import Derived.Test.YtfblkhmhelmjlaaFrame
import Derived.Test.YtfblkhmhelmjlaaGen
import Derived.Test.YtfblkhmhelmjlaaMarkMath
import Derived.Test.YtfblkhmhelmjlaaRollX
import Derived.Test.YtfblkhmhelmjlaaNewTabW
import Derived.Test.YtfblkhmhelmjlaaOfDW
import Derived.Test.YtfblkhmhelmjlaaOfIW
import Derived.Test.YtfblkhmhelmjlaaOwnL
import Derived.Test.YtfblkhmhelmjlaaProg
import Derived.Test.YtfblkhmhelmjlaaReadW
import Derived.Test.YtfblkhmhelmjlaaRightDW
import Derived.Test.YtfblkhmhelmjlaaRowKeep
import Derived.Test.YtfblkhmhelmjlaaRows
import Derived.Test.YtfblkhmhelmjlaaSentW
import Derived.Test.YtfblkhmhelmjlaaShelf
import Derived.Test.YtfblkhmhelmjlaaSigAt
import Derived.Test.YtfblkhmhelmjlaaSignMath
import Derived.Test.YtfblkhmhelmjlaaSignedW
import Derived.Test.YtfblkhmhelmjlaaSortX
import Derived.Test.YtfblkhmhelmjlaaSortEW
import Derived.Test.YtfblkhmhelmjlaaStepW
import Derived.BigQuiet
import Derived.BigRegion
import Derived.Deep.CutBlock
import Derived.Deep.DeepCutAuto
import Derived.Deep.LoopGhost
import Derived.Deep.QuietTactic
import Derived.Deep.RegionHeld3
import Derived.Deep.RegionLaw
import Derived.IntWalk
import Derived.Laws.BitsAllLaws
import Derived.Laws.Externs
import Derived.Laws.MakeOwn
import Derived.Laws.Rows
import Derived.Laws.Tables
import Derived.Lib.AppendStr
import Derived.Lib.Builder
import Derived.Lib.Hide
import Derived.Lib.Strings
import Derived.Lib.Walk
import Derived.Outline
import Derived.Sort.Walk0
import Derived.StillTailTactics
import Derived.WalkKit
import Derived.WalkLawsBesides
import Derived.WalkSpells
set_option linter.unusedVariables false
namespace Go.Proofs.Ytfblkhmhelmjlaa
open Go.RowKit

theorem st_ok {x : DSt} (h : stS x = true) : StOk x := by
  unfold stS at h
  split at h
  · have := of_decide_eq_true h; exact ⟨by omega, by omega, by omega, by omega, by omega⟩
  · rename_i c; have := of_decide_eq_true h; simp at c; exact ⟨by omega, by omega, by omega, by omega, by rw [c]; simp⟩
theorem good_len {n : Nat} : ∀ (l : List DSt), goodS n l → (l.length : Int) ≤ (l.map mkS).sum := by
  intro l
  induction l with
  | nil => intro _; simp
  | cons x l ih =>
    intro h
    have h1 := ih (fun y hy => h y (by simp [hy]))
    have h2 := (mk_bound (h x (by simp)).1).1
    rw [List.map_cons, List.sum_cons, List.length_cons]; omega
theorem BackS.len {basis s : Txt} {l : List DSt} (h : BackS basis s l) : l.length ≤ s.length := by
  have h1 := good_len l h.good
  rw [sum_good l h.good, h.out] at h1
  omega
theorem BackS.stok {basis s : Txt} {l : List DSt} (h : BackS basis s l) : ∀ x ∈ l, StOk x := fun x hx => st_ok (h.good x hx).1
theorem BackS.apply {basis s : Txt} {l : List DSt} (h : BackS basis s l) (hs : s.length ≤ 524288) {is : Txt → Txt → Bool} {bm mm : Txt} (h1 : bm.length = 32) (h2 : mm.length = 32) (hb : is basis bm = true) (hm : is s mm = true) :
    applyS is basis bm mm s.length l = (0, s) := by
  unfold applyS
  rw [h.right hs h1 h2, if_neg (by simp), hb, if_neg (by simp), h.run hs, if_neg (by simp), if_pos hm]
theorem BackS.wrong {basis s other : Txt} {l : List DSt} (h : BackS basis s l) (hs : s.length ≤ 524288) {is : Txt → Txt → Bool} {bm mm : Txt} (h1 : bm.length = 32) (h2 : mm.length = 32) (hb : is other bm = false) :
    applyS is other bm mm s.length l = (13, []) := by
  unfold applyS
  rw [h.right hs h1 h2, if_neg (by simp), hb, if_pos rfl]

set_option maxRecDepth 100000 in
set_option maxHeartbeats 4000000 in
theorem deltaBack_walk (l0 : Txt) (hl0 : l0.length ≤ 140737488351232) (s0 : Txt) (hs0 : s0.length ≤ 140737488351232) (z : Int) (hz1 : -9223372036854775808 ≤ z) (hz2 : z ≤ 9223372036854775807) (w : World) :
    Calls Try.prog 4 #[.string ⟨l0.toArray⟩, .string ⟨s0.toArray⟩, .int .i64 z] w fun e w' => e = .returned (.bool true) ∧ Below w.heap.size w w' := by
  have CT := fun w' => Lib.hid (cutD_any l0 3000 w' (by decide) hl0)
  have CT2 := fun w' => Lib.hid (cutD_any s0 3000 w' (by decide) hs0)
  have hl : (l0.take 3000).length ≤ 3000 := List.length_take_le _ _
  have hs : (s0.take 3000).length ≤ 3000 := List.length_take_le _ _
  generalize l0.take 3000 = l at *
  generalize s0.take 3000 = s at *
  by_cases hz : z < 16 ∨ 1024 < z
  · have OF := fun bp w' => Lib.hid (ofD_arg bp l s z w' hz hs)
    clear hz
    go_enter Try.func4, Try.ntmps4
    go_wp2_with fail
    refine (CT _).out.mono ?_
    rintro e w' ⟨rfl, rfl⟩
    go_wp2_with fail
    refine (CT2 _).out.mono ?_
    rintro e w' ⟨rfl, rfl⟩
    go_wp2_with fail
    refine (ideal_any _).mono ?_
    rintro e w1 ⟨pb, bm, rfl, hid1, hp, hbm, hb1⟩
    have HB1 := Lib.hid hb1; clear hb1 hid1 hp hbm
    go_wp2_with fail
    refine (OF _ _).out.mono ?_
    rintro e w2 ⟨rfl, hb2⟩
    have hbb := below_self_alloc w2 (delC [] [] 0 (.slice none 0 0))
    have HB2 := Lib.hid ((HB1.out.trans (hb2.mono HB1.out.size)).trans (hbb.mono (Nat.le_trans HB1.out.size hb2.size)))
    clear hb2 hbb
    have q1 : ((1 : Int) != 0) = true := rfl
    go_wp2_with fail
    refine (awake_any _).mono ?_
    rintro e w7 ⟨rfl, hb7⟩
    go_wp2_with fail
    go_ret
    exact ⟨rfl, HB2.out.trans (hb7.mono HB2.out.size)⟩
  · obtain ⟨B, rfl⟩ : ∃ B : Nat, z = (B : Int) := ⟨z.toNat, by omega⟩
    have OF := Lib.hid (fun pb bm w' h1 h2 h3 h4 => ofI_ok pb bm B l s w' w (by omega) (by omega) hl hs h1 h2 h3 h4)
    have HBK := Lib.hid (stepsI_back (B := B) (by omega) l s (by omega))
    have SL := Lib.hid (show (⟨s.toArray⟩ : ByteArray).size = s.length from rfl)
    clear hz
    go_enter Try.func4, Try.ntmps4
    go_wp2_with fail
    refine (CT _).out.mono ?_
    rintro e w' ⟨rfl, rfl⟩
    go_wp2_with fail
    refine (CT2 _).out.mono ?_
    rintro e w' ⟨rfl, rfl⟩
    go_wp2_with fail
    refine (ideal_any _).mono ?_
    rintro e w1 ⟨pb, bm, rfl, hid1, hp, hbm, hb1⟩
    have OF1 := Lib.hid (OF.out pb bm w1 hid1 hb1 hp hbm)
    clear OF hid1 hp hbm hb1
    go_wp2_with fail
    refine OF1.out.mono ?_
    rintro e w2 ⟨v, S, b1, b2, rfl, ho, hid2, hbel, hS, h1, h2, his1, his2, _⟩
    generalize stepsI B l s = st at *
    have hbb := below_self_alloc w2 (delC b1 b2 s.length v)
    have R3 := Lib.hid (ho.row.keep hbb)
    have HI3 := Lib.hid (hid2.new hbb)
    obtain ⟨c0, c1, c2, c3⟩ := delO_cells (heap_alloc_new w2 (delO b1 b2 s.length v))
    have HB3 := Lib.hid (hbel.trans (hbb.mono hbel.size))
    have hlen := HBK.out.len
    have AP := Lib.hid (applyD_any (ask_ideal pb bm S (by omega)) (by decide) (Nat.le_refl _) _ l b1 b2 s.length v st _ R3.out HBK.out.stok (by omega) (by omega) (by omega) (by omega) (by omega) HI3.out (by omega) (fun _ => by omega))
    rw [HBK.out.apply (by omega) h1 h2 (by rw [his1]; simp) (by rw [his2]; simp)] at AP
    have RT := Lib.hid (fun w' hr => rightD_any (w.heap.size ≤ ·) b1 b2 s.length v st w' hr HBK.out.stok (by omega) (by omega) (by omega) (by omega) (by omega))
    rw [HBK.out.right (by omega) h1 h2] at RT
    have SE := Lib.hid (fun w' hr => sentD_any (w.heap.size ≤ ·) v st w' hr (by omega) (by have := HBK.out.sent; omega))
    have hsent : ((sentS st : Nat) : Int) ≤ (s.length : Int) := by have := HBK.out.sent; omega
    obtain ⟨av, cv, hv⟩ := R3.out.slice
    generalize sentS st = se at *
    clear hbb ho hid2 hbel OF1 his1 his2 HBK hlen h1 h2
    subst hv
    have q0 : ((0 : Int) != 0) = false := rfl
    have qs : (s == s) = true := by simp
    go_wp2_with fail
    generalize w2.alloc (.cells #[.string ⟨b1.toArray⟩, .string ⟨b2.toArray⟩, .int .i64 s.length, .slice av st.length cv] 27) = w3 at *
    refine AP.out.mono ?_
    rintro e w4 ⟨rfl, hb4⟩
    have E0 := (hb4.cell (World.block_lt_of_cell? w3 _ c0)).trans c0
    have E1 := (hb4.cell (World.block_lt_of_cell? w3 _ c1)).trans c1
    have E2 := (hb4.cell (World.block_lt_of_cell? w3 _ c2)).trans c2
    have E3 := (hb4.cell (World.block_lt_of_cell? w3 _ c3)).trans c3
    have R4 := Lib.hid (R3.out.keep hb4)
    have HB4 := Lib.hid (HB3.out.trans (hb4.mono HB3.out.size))
    have RT4 := Lib.hid (RT.out w4 R4.out)
    clear hb4 c0 c1 c2 c3 AP R3 RT HI3
    go_wp2_with fail
    refine RT4.out.mono ?_
    rintro e w5 ⟨rfl, hb5⟩
    have F3 := (hb5.cell (World.block_lt_of_cell? w4 _ E3)).trans E3
    have HB5 := Lib.hid (HB4.out.trans (hb5.mono HB4.out.size))
    have SE5 := Lib.hid (SE.out w5 (R4.out.keep hb5))
    clear hb5 E0 E1 E2 E3 RT4 R4 SE
    go_wp2_with fail
    refine SE5.out.mono ?_
    rintro e w6 ⟨rfl, hb6⟩
    have HB6 := Lib.hid (HB5.out.trans (hb6.mono HB5.out.size))
    clear hb6 F3 SE5
    go_wp2_with fail
    refine (awake_any _).mono ?_
    rintro e w7 ⟨rfl, hb7⟩
    go_wp2_with fail
    go_ret
    exact ⟨rfl, HB6.out.trans (hb7.mono HB6.out.size)⟩

set_option maxRecDepth 100000 in
set_option maxHeartbeats 4000000 in
theorem deltaWrong_walk (l0 : Txt) (hl0 : l0.length ≤ 140737488351232) (s0 : Txt) (hs0 : s0.length ≤ 140737488351232) (z : Int) (hz1 : -9223372036854775808 ≤ z) (hz2 : z ≤ 9223372036854775807) (ot : Txt) (hot : ot.length ≤ 140737488351232) (w : World) :
    Calls Try.prog 9 #[.string ⟨l0.toArray⟩, .string ⟨s0.toArray⟩, .int .i64 z, .string ⟨ot.toArray⟩] w fun e w' => e = .returned (.bool true) ∧ Below w.heap.size w w' := by
  have CT := fun w' => Lib.hid (cutD_any l0 2000 w' (by decide) hl0)
  have CT2 := fun w' => Lib.hid (cutD_any s0 2000 w' (by decide) hs0)
  have hl : (l0.take 2000).length ≤ 2000 := List.length_take_le _ _
  have hs : (s0.take 2000).length ≤ 2000 := List.length_take_le _ _
  generalize l0.take 2000 = l at *
  generalize s0.take 2000 = s at *
  by_cases hz : z < 16 ∨ 1024 < z
  · have OF := fun bp w' => Lib.hid (ofD_arg bp l s z w' hz (by omega))
    clear hz
    go_enter Try.func9, Try.ntmps9
    go_wp2_with fail
    refine (CT _).out.mono ?_
    rintro e w' ⟨rfl, rfl⟩
    go_wp2_with fail
    refine (CT2 _).out.mono ?_
    rintro e w' ⟨rfl, rfl⟩
    go_wp2_with fail
    refine (ideal_any _).mono ?_
    rintro e w1 ⟨pb, bm, rfl, hid1, hp, hbm, hb1⟩
    have HB1 := Lib.hid hb1; clear hb1 hid1 hp hbm
    go_wp2_with fail
    refine (OF _ _).out.mono ?_
    rintro e w2 ⟨rfl, hb2⟩
    have hbb := below_self_alloc w2 (delC [] [] 0 (.slice none 0 0))
    have HB2 := Lib.hid ((HB1.out.trans (hb2.mono HB1.out.size)).trans (hbb.mono (Nat.le_trans HB1.out.size hb2.size)))
    clear hb2 hbb
    have q1 : ((1 : Int) != 0) = true := rfl
    go_wp2_with fail
    refine (awake_any _).mono ?_
    rintro e w7 ⟨rfl, hb7⟩
    go_wp2_with fail
    go_ret
    exact ⟨rfl, HB2.out.trans (hb7.mono HB2.out.size)⟩
  · obtain ⟨B, rfl⟩ : ∃ B : Nat, z = (B : Int) := ⟨z.toNat, by omega⟩
    have OF := Lib.hid (fun pb bm w' h1 h2 h3 h4 => ofI_ok pb bm B l s w' w (by omega) (by omega) (by omega) (by omega) h1 h2 h3 h4)
    have HBK := Lib.hid (stepsI_back (B := B) (by omega) l s (by omega))
    clear hz
    go_enter Try.func9, Try.ntmps9
    go_wp2_with fail
    refine (CT _).out.mono ?_
    rintro e w' ⟨rfl, rfl⟩
    go_wp2_with fail
    refine (CT2 _).out.mono ?_
    rintro e w' ⟨rfl, rfl⟩
    go_wp2_with fail
    refine (ideal_any _).mono ?_
    rintro e w1 ⟨pb, bm, rfl, hid1, hp, hbm, hb1⟩
    have OF1 := Lib.hid (OF.out pb bm w1 hid1 hb1 hp hbm)
    clear OF hid1 hp hbm hb1
    go_wp2_with fail
    refine OF1.out.mono ?_
    rintro e w2 ⟨v, S, b1, b2, rfl, ho, hid2, hbel, hS, h1, h2, his1, his2, _⟩
    generalize stepsI B l s = st at *
    have hbb := below_self_alloc w2 (delC b1 b2 s.length v)
    have R3 := Lib.hid (ho.row.keep hbb)
    have HI3 := Lib.hid (hid2.new hbb)
    obtain ⟨c0, c1, c2, c3⟩ := delO_cells (heap_alloc_new w2 (delO b1 b2 s.length v))
    have HB3 := Lib.hid (hbel.trans (hbb.mono hbel.size))
    have hlen := HBK.out.len
    have AP := Lib.hid (applyD_any (ask_ideal pb bm S (by omega)) (by decide) (Nat.le_refl _) _ ot b1 b2 s.length v st _ R3.out HBK.out.stok (by omega) (by omega) (by omega) (by omega) (by omega) HI3.out hot (fun h => by rw [his1] at h; have := of_decide_eq_true h; rw [this]; omega))
    obtain ⟨av, cv, hv⟩ := R3.out.slice
    have q0 : ((0 : Int) != 0) = false := rfl
    by_cases hol : ot = l
    · have qo : (ot == l) = true := by simp [hol]
      rw [hol] at AP
      rw [HBK.out.apply (by omega) h1 h2 (by rw [his1]; simp) (by rw [his2]; simp)] at AP
      have HOL := Lib.hid hol
      clear hbb ho hid2 hbel OF1 his1 his2 HBK hlen h1 h2 hol
      subst hv
      have qs : (s == s) = true := by simp
      have AP2 := AP.out
      rw [← HOL.out] at AP2
      have AP3 := Lib.hid AP2
      clear AP AP2
      go_wp2_with fail
      refine AP3.out.mono ?_
      rintro e w4 ⟨rfl, hb4⟩
      have HB4 := Lib.hid (HB3.out.trans (hb4.mono HB3.out.size))
      clear hb4 c0 c1 c2 c3 AP3 R3 HI3
      go_wp2_with fail
      refine (awake_any _).mono ?_
      rintro e w7 ⟨rfl, hb7⟩
      go_wp2_with fail
      go_ret
      exact ⟨rfl, HB4.out.trans (hb7.mono HB4.out.size)⟩
    · have qo : (ot == l) = false := by simp [hol]
      rw [HBK.out.wrong (by omega) h1 h2 (by rw [his1]; exact decide_eq_false hol)] at AP
      clear hbb ho hid2 hbel OF1 his1 his2 HBK hlen h1 h2 hol
      subst hv
      go_wp2_with fail
      refine AP.out.mono ?_
      rintro e w4 ⟨rfl, hb4⟩
      have HB4 := Lib.hid (HB3.out.trans (hb4.mono HB3.out.size))
      clear hb4 c0 c1 c2 c3 AP R3 HI3
      go_wp2_with fail
      refine (awake_any _).mono ?_
      rintro e w7 ⟨rfl, hb7⟩
      go_wp2_with fail
      go_ret
      exact ⟨rfl, HB4.out.trans (hb7.mono HB4.out.size)⟩
end Go.Proofs.Ytfblkhmhelmjlaa

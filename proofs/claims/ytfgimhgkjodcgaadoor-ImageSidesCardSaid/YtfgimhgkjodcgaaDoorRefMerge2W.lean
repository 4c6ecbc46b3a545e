/- The document's Merge of three images, walked. -/
import Derived.Test.YtfgimhgkjodcgaaDoorArgTree
import Derived.Test.YtfgimhgkjodcgaaDoorArgs3
import Derived.Test.YtfgimhgkjodcgaaDoorFrame
import Derived.Test.YtfgimhgkjodcgaaDoorGen
import Derived.Test.YtfgimhgkjodcgaaDoorImgMath
import Derived.Test.YtfgimhgkjodcgaaDoorMarkMath
import Derived.Test.YtfgimhgkjodcgaaDoorOwnL
import Derived.Test.YtfgimhgkjodcgaaDoorReadW
import Derived.Test.YtfgimhgkjodcgaaDoorCkX
import Derived.Test.YtfgimhgkjodcgaaDoorPuX
import Derived.Test.YtfgimhgkjodcgaaDoorRefImgW
import Derived.Test.YtfgimhgkjodcgaaDoorRefReadW
import Derived.Test.YtfgimhgkjodcgaaDoorRefSortW
import Derived.Test.YtfgimhgkjodcgaaDoorTrX
import Derived.Test.YtfgimhgkjodcgaaDoorRowN
import Derived.Test.YtfgimhgkjodcgaaDoorRows
import Derived.Test.YtfgimhgkjodcgaaDoorTreeMath
import Derived.BigQuiet
import Derived.Deep.Cut
import Derived.Deep.CutRange
import Derived.Deep.DeepCutAuto
import Derived.Deep.QuietTactic
import Derived.Lib.Hide
import Derived.WalkKit
import Derived.WalkLawsBesides
import Derived.WalkSpells
set_option linter.unusedVariables false
namespace Go.Proofs.YtfgimhgkjodcgaaDoor
open Go.RowKit

theorem pickS_ok' (x y z : List FileD) (p : Txt) (hx : ∀ f ∈ x, FileOk f) (hy : ∀ f ∈ y, FileOk f) (hz : ∀ f ∈ z, FileOk f) : (∀ f ∈ pickS (fromS x y z p) p, FileOk f) ∧ (pickS (fromS x y z p) p).length ≤ 1 := by
  refine pickS_ok _ p ?_
  unfold fromS
  split
  · exact hy
  · split
    · exact hy
    · split
      · exact hz
      · exact hy
theorem toldM_len (x y z : List FileD) (p : Txt) : (toldM x y z p).length ≤ 1 := by
  unfold toldM
  split
  · simp
  · split
    · simp
    · split <;> simp
set_option maxRecDepth 100000 in
set_option maxHeartbeats 4000000 in
theorem refMergeI_any (s t u : Txt) (w : World) (hs : s.length ≤ 1000000) (ht : t.length ≤ 1000000) (hu : u.length ≤ 1000000) :
    Calls Tryd.prog 25 #[.string ⟨s.toArray⟩, .string ⟨t.toArray⟩, .string ⟨u.toArray⟩] w fun e w' => ∃ v', e = .returned (.tuple #[.string ⟨(mergeS s t u).s.toArray⟩, v', .int .i64 (mergeS s t u).e]) ∧ RowN encS 1 (fun _ => True) w' v' (mergeS s t u).l ∧ Below w.heap.size w w' := by
  have T1 := Lib.hid (fun w' => refTreeI_any s w' hs)
  have T2 := Lib.hid (fun w' => refTreeI_any t w' ht)
  have T3 := Lib.hid (fun w' => refTreeI_any u w' hu)
  obtain ⟨ox, lx⟩ := treeS_ok s
  obtain ⟨oy, ly⟩ := treeS_ok t
  obtain ⟨oz, lz⟩ := treeS_ok u
  have HM := Lib.hid (show mergeS s t u = if (treeS s).2 ≠ 0 then ⟨[], [], (treeS s).2⟩ else if (treeS t).2 ≠ 0 then ⟨[], [], (treeS t).2⟩ else if (treeS u).2 ≠ 0 then ⟨[], [], (treeS u).2⟩ else mergeE (treeS s).1 (treeS t).1 (treeS u).1 from rfl)
  generalize mergeS s t u = res at *
  generalize treeS s = tx at *
  generalize treeS t = ty at *
  generalize treeS u = tz at *
  obtain ⟨x, ex⟩ := tx
  obtain ⟨y, ey⟩ := ty
  obtain ⟨z, ez⟩ := tz
  dsimp only at T1 T2 T3 ox lx oy ly oz lz HM
  have HX := Lib.hid ox
  have HY := Lib.hid oy
  have HZ := Lib.hid oz
  clear ox oy oz
  go_enter Tryd.func25, Tryd.ntmps25
  go_wp2_with fail
  refine (T1.out _).mono ?_
  rintro e w1 ⟨v1, rfl, hr1, hb1⟩
  obtain ⟨xa, xc, rfl, _⟩ := hr1.slice
  have R1 := Lib.hid hr1
  have K1 := Lib.hid hb1
  clear hr1 hb1 T1
  by_cases he1 : ex = 0
  case neg =>
    have q1 : (ex != 0) = true := by simp [he1]
    have HR := Lib.hid (show res = ⟨[], [], ex⟩ by rw [HM.out, if_pos he1])
    clear HM he1
    go_wp2_with fail
    go_ret3
    exact ⟨_, by rw [HR.out]; rfl, by rw [HR.out]; exact RowN.nil _ _ _ _, K1.out⟩
  have q1 : (ex != 0) = false := by simp [he1]
  rw [if_neg (fun k => k he1)] at HM
  clear he1
  go_wp2_with fail
  refine (T2.out _).mono ?_
  rintro e w2 ⟨v2, rfl, hr2, hb2⟩
  obtain ⟨ya, yc, rfl, _⟩ := hr2.slice
  have R2 := Lib.hid hr2
  have R1b := Lib.hid (R1.out.keep hb2)
  have K2 := Lib.hid (K1.out.trans (hb2.mono K1.out.size))
  clear hr2 hb2 T2 K1 R1
  by_cases he2 : ey = 0
  case neg =>
    have q2 : (ey != 0) = true := by simp [he2]
    have HR := Lib.hid (show res = ⟨[], [], ey⟩ by rw [HM.out, if_pos he2])
    clear HM he2
    go_wp2_with fail
    go_ret3
    exact ⟨_, by rw [HR.out]; rfl, by rw [HR.out]; exact RowN.nil _ _ _ _, K2.out⟩
  have q2 : (ey != 0) = false := by simp [he2]
  rw [if_neg (fun k => k he2)] at HM
  clear he2
  go_wp2_with fail
  refine (T3.out _).mono ?_
  rintro e w3 ⟨v3, rfl, hr3, hb3⟩
  obtain ⟨za, zc, rfl, _⟩ := hr3.slice
  have RZ := Lib.hid hr3
  have RX := Lib.hid (R1b.out.keep hb3)
  have RY := Lib.hid (R2.out.keep hb3)
  have K3 := Lib.hid (K2.out.trans (hb3.mono K2.out.size))
  clear hr3 hb3 T3 K2 R1b R2
  by_cases he3 : ez = 0
  case neg =>
    have q3 : (ez != 0) = true := by simp [he3]
    have HR := Lib.hid (show res = ⟨[], [], ez⟩ by rw [HM.out, if_pos he3])
    clear HM he3
    go_wp2_with fail
    go_ret3
    exact ⟨_, by rw [HR.out]; rfl, by rw [HR.out]; exact RowN.nil _ _ _ _, K3.out⟩
  have q3 : (ez != 0) = false := by simp [he3]
  rw [if_neg (fun k => k he3)] at HM
  clear he3
  have HAL := Lib.hid (show allS [] ((x ++ y ++ z).drop 0) = allS [] (x ++ y ++ z) from rfl)
  obtain ⟨hao, hal⟩ := allS_ok (x ++ y ++ z) [] (by simp) (fun f hf => by
    rcases List.mem_append.1 hf with hf | hf
    · rcases List.mem_append.1 hf with hf | hf
      · exact HX.out f hf
      · exact HY.out f hf
    · exact HZ.out f hf)
  have hal : (allS [] (x ++ y ++ z)).length ≤ 768 := by
    have hxl : (x ++ y ++ z).length = x.length + y.length + z.length := by rw [List.length_append, List.length_append]
    rw [hxl, List.length_nil] at hal
    omega
  have HAO := Lib.hid hao
  have HML := Lib.hid (show mergeL x y z = sortS (allS [] (x ++ y ++ z)) from rfl)
  generalize hAL : allS [] (x ++ y ++ z) = AL at *
  clear hAL hao
  go_wp2_with fail
  go_loopw [15, 16, 17] (fun v15 v16 _ wr => ∃ (i : Nat) (all : List FileD), i ≤ x.length + y.length + z.length ∧ v16 = .int .i64 i ∧ OwnN encF 3 wr w3.heap.size 33 v15 all ∧ Hid (allS all ((x ++ y ++ z).drop i) = AL) ∧ all.length ≤ i ∧ Below w3.heap.size w3 wr) (fun _ v16 _ _ => x.length + y.length + z.length - (intOf v16).toNat)
  case atStart => exact ⟨0, [], by omega, rfl, OwnN.nil _ _ _ _ _, HAL, by simp, Below.refl _ _⟩
  case round =>
    clear HAL
    obtain ⟨i, all, hi, rfl, hown, HA, hall, hbel⟩ := hrel
    have HO := Lib.hid hown
    have HB := Lib.hid hbel
    clear hown hbel
    have hws := HB.out.size
    have i0 : (0 : Int) ≤ (i : Int) := by omega
    obtain ⟨oa, om, oc, hv15⟩ := own_slice HO.out
    subst hv15
    by_cases hlt : i < x.length + y.length + z.length
    · have j1 : (i : Int) < (x.length : Int) + (y.length : Int) + (z.length : Int) := by omega
      have c1 : ¬ 9223372036854775807 < x.length + y.length := by omega
      have AP := Lib.hid (fun (f : FileD) (hf : (x ++ y ++ z)[i]? = some f) => show allS (if findT all f.path < 0 then all ++ [⟨f.path, 0, []⟩] else all) ((x ++ y ++ z).drop (i + 1)) = AL by
        have hil : i < (x ++ y ++ z).length := (List.getElem?_eq_some_iff.1 hf).1
        rw [← HA.out, List.drop_eq_getElem_cons hil, (List.getElem?_eq_some_iff.1 hf).2]
        rfl)
      have RA := Lib.hid ((OwnN.row encF_ok HO.out).mono (M := fun _ => True) (fun _ _ => trivial))
      clear HA
      go_upto_if 65 with fail
      go_cut [17] (fun v17 wx => wx = wr ∧ ∃ f : FileD, v17 = .string ⟨f.path.toArray⟩ ∧ (x ++ y ++ z)[i]? = some f)
      case first =>
        by_cases h1 : i < x.length
        · have k1 : (i : Int) < (x.length : Int) := by omega
          obtain ⟨g, o, rfl, hel⟩ := RX.out.el h1
          have c0 := ((hel i h1).new HB.out).f0
          go_wp2_with fail
          go_meet
          exact ⟨rfl, x[i], rfl, by rw [List.append_assoc, List.getElem?_append_left h1, List.getElem?_eq_getElem h1]⟩
        · have k1 : ¬ (i : Int) < (x.length : Int) := by omega
          by_cases h2 : i < x.length + y.length
          · obtain ⟨j, rfl⟩ : ∃ j, i = x.length + j := ⟨i - x.length, by omega⟩
            have h3 : j < y.length := by omega
            have k2 : ((x.length + j : Nat) : Int) < (x.length : Int) + (y.length : Int) := by omega
            have k3 : (0 : Int) ≤ (j : Int) := by omega
            have k4 : (j : Int) < (y.length : Int) := by omega
            have k5 : ((x.length + j : Nat) : Int) - (x.length : Int) = (j : Int) := by omega
            obtain ⟨g, o, rfl, hel⟩ := RY.out.el h3
            have c0 := ((hel j h3).new HB.out).f0
            go_wp2_with fail
            go_meet
            exact ⟨rfl, y[j], rfl, by rw [List.append_assoc, List.getElem?_append_right (by omega), Nat.add_sub_cancel_left, List.getElem?_append_left h3, List.getElem?_eq_getElem h3]⟩
          · obtain ⟨j, rfl⟩ : ∃ j, i = x.length + y.length + j := ⟨i - x.length - y.length, by omega⟩
            have h3 : j < z.length := by omega
            have k2 : ¬ ((x.length + y.length + j : Nat) : Int) < (x.length : Int) + (y.length : Int) := by omega
            have k3 : (0 : Int) ≤ (j : Int) := by omega
            have k4 : (j : Int) < (z.length : Int) := by omega
            have k5 : (x.length : Int) + (y.length : Int) + (j : Int) - (x.length : Int) = (y.length : Int) + (j : Int) := by omega
            obtain ⟨g, o, rfl, hel⟩ := RZ.out.el h3
            have c0 := ((hel j h3).new HB.out).f0
            go_wp2_with fail
            go_meet
            exact ⟨rfl, z[j], rfl, by rw [List.getElem?_append_right (by rw [List.length_append]; omega), List.length_append, Nat.add_sub_cancel_left, List.getElem?_eq_getElem h3]⟩
      case rest =>
        obtain ⟨hwx, f, hv17, hf⟩ := hcut
        subst hwx
        subst hv17
        have AP2 := Lib.hid (AP.out f hf)
        obtain ⟨fp, fm, fd⟩ := f
        dsimp only at AP2 ⊢
        have FD := Lib.hid (refFind_any _ all fp _ RA.out (by omega))
        have hfr := findT_range all fp
        generalize findT all fp = fi at *
        clear AP hf
        rcases hfr with rfl | ⟨n, rfl, hn⟩
        · have HN := Lib.hid (show allS (all ++ [⟨fp, 0, []⟩]) ((x ++ y ++ z).drop (i + 1)) = AL by rw [← AP2.out, if_pos (by decide)])
          go_wp2_with fail
          refine FD.out.mono ?_
          rintro e w4 ⟨rfl, rfl⟩
          go_wp2_with (at_builtin; go_loud (refine append_new (enc := encF) (k := 3) (w := _) (by rfl) (.tmp 101) (.tmp 104) 22 33 (.agg #[.string ByteArray.empty, .int .i64 0, .string ByteArray.empty]) 40 (by rfl) Tryd.underlying22 info_file (by rfl) (by decide) encF_ok w3.heap.size _ all ⟨fp, 0, []⟩ (by rfl) HO.out (by rfl) (by omega) (by unfold maxLen; omega) hws _ (by rfl) ?_; intro v7 w7 hown7 ht7; obtain ⟨va7, vm7, vc7, rfl⟩ := own_slice hown7; have HO7 := Lib.hid hown7; have HB7 := Lib.hid (HB.out.trans ht7.bel); clear hown7 ht7))
          go_roundw
          case rel => exact ⟨i + 1, _, by omega, by go_num, HO7.out, HN, by simp; omega, HB7.out⟩
          case measure => simp [intOf]; omega
        · have k1 : ¬ (n : Int) < 0 := by omega
          have HN := Lib.hid (show allS all ((x ++ y ++ z).drop (i + 1)) = AL by rw [← AP2.out, if_neg k1])
          go_wp2_with fail
          refine FD.out.mono ?_
          rintro e w4 ⟨rfl, rfl⟩
          go_wp2_with fail
          go_roundw
          case rel => exact ⟨i + 1, all, by omega, by go_num, HO.out, HN, by omega, HB.out⟩
          case measure => simp [intOf]; omega
    · obtain rfl : i = x.length + y.length + z.length := by omega
      have j1 : ¬ ((x.length + y.length + z.length : Nat) : Int) < (x.length : Int) + (y.length : Int) + (z.length : Int) := by omega
      have HEQ : all = AL := by rw [← HA.out, List.drop_eq_nil_of_le (by rw [List.length_append, List.length_append]; omega)]; rfl
      subst HEQ
      have ST := Lib.hid (refSort_any _ all wr ((OwnN.row encF_ok HO.out).mono (fun _ _ => trivial)) HAO.out (by omega))
      have HLL := Lib.hid (sortI_len all)
      have HLO := Lib.hid (fun f hf => HAO.out f (sortI_mem all f hf))
      rw [← HML.out] at ST HLL HLO
      have HME := Lib.hid (show mergeE x y z = if (imgS (mergeO x y z (mergeL x y z))).2 ≠ 0 then ⟨[], [], (imgS (mergeO x y z (mergeL x y z))).2⟩ else ⟨(imgS (mergeO x y z (mergeL x y z))).1, mergeT x y z (mergeL x y z), 0⟩ from rfl)
      generalize mergeL x y z = L at *
      have hL : L.length ≤ 768 := by rw [HLL.out]; exact hal
      clear HA HML HLL HAO
      go_wp2_with fail
      refine ST.out.mono ?_
      rintro e w4 ⟨v4, rfl, hown4, hb4⟩
      obtain ⟨la, lm, lc, hv4⟩ := own_slice hown4
      subst hv4
      have hlm : lm = L.length := own_lenV hown4
      subst hlm
      have RL := Lib.hid ((OwnN.row encF_ok hown4).mono (M := fun _ => True) (fun _ _ => trivial))
      have B34 := Lib.hid (HB.out.trans (hb4.mono HB.out.size))
      have RX4 := Lib.hid (RX.out.keep B34.out)
      have RY4 := Lib.hid (RY.out.keep B34.out)
      have RZ4 := Lib.hid (RZ.out.keep B34.out)
      have K4 := Lib.hid (K3.out.trans (B34.out.mono K3.out.size))
      clear hown4 hb4 HB B34 RX RY RZ K3 HO ST
      go_wp2_with fail
      go_loopw [18, 19, 20, 21, 22, 23] (fun v18 v19 v20 _ _ _ wr => ∃ (k : Nat) (out : List FileD) (told : List Txt), k ≤ L.length ∧ v20 = .int .i64 k ∧ OwnN encF 3 wr w4.heap.size 33 v18 out ∧ Hid (out = mergeO x y z (L.take k)) ∧ OwnN encS 1 wr w4.heap.size 9 v19 told ∧ Hid (told = mergeT x y z (L.take k)) ∧ Below w4.heap.size w4 wr) (fun _ _ v20 _ _ _ _ => L.length - (intOf v20).toNat)
      case atStart => exact ⟨0, [], [], by omega, rfl, OwnN.nil _ _ _ _ _, Lib.hid rfl, OwnN.nil _ _ _ _ _, Lib.hid rfl, Below.refl _ _⟩
      case round =>
        obtain ⟨k, out, told, hk, rfl, hown, HOE, hownt, HTE, hbel⟩ := hrel
        have HO := Lib.hid hown
        have HT := Lib.hid hownt
        have HB := Lib.hid hbel
        clear hown hownt hbel
        have hws := HB.out.size
        have k0 : (0 : Int) ≤ (k : Int) := by omega
        have hol : out.length ≤ 768 := by
          rw [HOE.out]
          have := flat_len (fun f : FileD => pickS (fromS x y z f.path) f.path) 1 (L.take k) (fun f _ => (pickS_ok' x y z f.path HX.out HY.out HZ.out).2)
          rw [List.length_take] at this
          unfold mergeO
          omega
        have htl : told.length ≤ 768 := by
          rw [HTE.out]
          have := flat_len (fun f : FileD => toldM x y z f.path) 1 (L.take k) (fun f _ => toldM_len x y z f.path)
          rw [List.length_take] at this
          unfold mergeT
          omega
        obtain ⟨oa, om, oc, hv18⟩ := own_slice HO.out
        subst hv18
        obtain ⟨ta, tm, tc, hv19⟩ := own_slice HT.out
        subst hv19
        by_cases hlt : k < L.length
        · have j1 : (k : Int) < (L.length : Int) := by omega
          obtain ⟨g, o, rfl, hel⟩ := RL.out.el hlt
          have c0 := ((hel k hlt).new HB.out).f0
          have MO := Lib.hid (show mergeO x y z (L.take (k + 1)) = out ++ pickS (fromS x y z L[k].path) L[k].path by rw [HOE.out]; exact flat_next2 (fun f : FileD => pickS (fromS x y z f.path) f.path) L k hlt)
          have MT := Lib.hid (show mergeT x y z (L.take (k + 1)) = told ++ toldM x y z L[k].path by rw [HTE.out]; exact flat_next2 (fun f : FileD => toldM x y z f.path) L k hlt)
          have hpl := (HLO.out L[k] (List.getElem_mem hlt)).p
          clear hel HOE HTE
          generalize L[k] = f at *
          obtain ⟨p, fm, fd⟩ := f
          dsimp only at c0 MO MT hpl
          have LK1 := Lib.hid (fun (w' : World) (hb : Below w4.heap.size w4 w') => refLike_any _ _ y z p w' (RY4.out.keep hb) (RZ4.out.keep hb) (by omega) (by omega))
          have LK2 := Lib.hid (fun (w' : World) (hb : Below w4.heap.size w4 w') => refLike_any _ _ x z p w' (RX4.out.keep hb) (RZ4.out.keep hb) (by omega) (by omega))
          have LK3 := Lib.hid (fun (w' : World) (hb : Below w4.heap.size w4 w') => refLike_any _ _ x y p w' (RX4.out.keep hb) (RY4.out.keep hb) (by omega) (by omega))
          have HF0 := Lib.hid (show fromS x y z p = if likeS y z p = true then y else if likeS x z p = true then y else if likeS x y p = true then z else y from rfl)
          have HT0 := Lib.hid (show toldM x y z p = if likeS y z p = true then [] else if likeS x z p = true then [] else if likeS x y p = true then [] else [p] from rfl)
          generalize likeS y z p = b1 at *
          generalize likeS x z p = b2 at *
          generalize likeS x y p = b3 at *
          go_wp2_with fail
          refine (LK1.out _ HB.out).mono ?_
          rintro e wa ⟨rfl, hba⟩
          have HOa := Lib.hid (HO.out.new hba)
          have HTa := Lib.hid (HT.out.new hba)
          have HBa := Lib.hid (HB.out.trans (hba.mono HB.out.size))
          clear hba HO HT HB LK1 c0
          cases b1 with
          | true =>
            have HFS := Lib.hid (show fromS x y z p = y by rw [HF0.out]; rfl)
            have HTL := Lib.hid (show toldM x y z p = [] by rw [HT0.out]; rfl)
            clear HF0 HT0 LK2 LK3
            have FR := Lib.hid (RY4.out.keep HBa.out)
            have FD := Lib.hid (refFind_any _ y p _ FR.out (by omega))
            have HPK := Lib.hid (show pickS y p = if findT y p < 0 then [] else match y[(findT y p).toNat]? with | some f => [f] | none => [] from rfl)
            have hfr := findT_range y p
            generalize findT y p = fi at *
            obtain ⟨pk, hpk⟩ : ∃ pk, pickS y p = pk := ⟨_, rfl⟩
            rw [hpk] at HPK
            have hpk2 := Lib.hid hpk
            clear hpk
            rcases hfr with rfl | ⟨n, rfl, hn⟩
            · have HN := Lib.hid (show pk = [] by rw [HPK.out]; rfl)
              clear HPK
              go_wp2_with fail
              refine FD.out.mono ?_
              rintro e w5 ⟨rfl, rfl⟩
              go_wp2_with fail
              go_roundw
              case rel => exact ⟨k + 1, _, _, by omega, by go_num, HOa.out, Lib.hid (by rw [MO.out, HFS.out, hpk2.out, HN.out]; simp), HTa.out, Lib.hid (by rw [MT.out, HTL.out]; simp), HBa.out⟩
              case measure => simp [intOf]; omega
            · have k1 : ¬ (n : Int) < 0 := by omega
              have k2 : (0 : Int) ≤ (n : Int) := by omega
              have k3 : (n : Int) < (y.length : Int) := by omega
              have HN := Lib.hid (show pk = [y[n]] by rw [HPK.out, if_neg k1, Int.toNat_natCast, List.getElem?_eq_getElem hn])
              obtain ⟨g, o, rfl, hel⟩ := FR.out.el hn
              have hel1 := hel n hn
              generalize y[n] = q at *
              obtain ⟨qp, qm, qd⟩ := q
              have c0 := hel1.f0
              have c1 := hel1.f1
              have c2 := hel1.f2
              dsimp only at c0 c1 c2
              have hszz := HBa.out.size
              clear hel hel1 HPK
              go_wp2_with fail
              refine FD.out.mono ?_
              rintro e w5 ⟨rfl, rfl⟩
              go_wp2_with (at_builtin; go_loud (refine append_new (enc := encF) (k := 3) (w := _) (by rfl) (.tmp 146) (.tmp 151) 22 33 (.agg #[.string ByteArray.empty, .int .i64 0, .string ByteArray.empty]) 40 (by rfl) Tryd.underlying22 info_file (by rfl) (by decide) encF_ok w4.heap.size _ out ⟨qp, qm, qd⟩ (by rfl) HOa.out (by rfl) (by omega) (by unfold maxLen; omega) hszz _ (by rfl) ?_; intro v7 w7 hown7 ht7; obtain ⟨va7, vm7, vc7, rfl⟩ := own_slice hown7; have HO7 := Lib.hid hown7; have HX7 := Lib.hid (HTa.out.kept ht7.kept (fun g h1 h2 => own_apart HOa.out HTa.out (by decide) h2 h1)); have HB7 := Lib.hid (HBa.out.trans ht7.bel); clear hown7 ht7))
              go_roundw
              case rel => exact ⟨k + 1, _, _, by omega, by go_num, HO7.out, Lib.hid (by rw [MO.out, HFS.out, hpk2.out, HN.out]), HX7.out, Lib.hid (by rw [MT.out, HTL.out]; simp), HB7.out⟩
              case measure => simp [intOf]; omega
          | false =>
            go_wp2_with fail
            refine (LK2.out _ HBa.out).mono ?_
            rintro e wb ⟨rfl, hbb⟩
            have HOb := Lib.hid (HOa.out.new hbb)
            have HTb := Lib.hid (HTa.out.new hbb)
            have HBb := Lib.hid (HBa.out.trans (hbb.mono HBa.out.size))
            clear hbb HOa HTa HBa LK2
            cases b2 with
            | true =>
              have HFS := Lib.hid (show fromS x y z p = y by rw [HF0.out]; rfl)
              have HTL := Lib.hid (show toldM x y z p = [] by rw [HT0.out]; rfl)
              clear HF0 HT0 LK3
              have FR := Lib.hid (RY4.out.keep HBb.out)
              have FD := Lib.hid (refFind_any _ y p _ FR.out (by omega))
              have HPK := Lib.hid (show pickS y p = if findT y p < 0 then [] else match y[(findT y p).toNat]? with | some f => [f] | none => [] from rfl)
              have hfr := findT_range y p
              generalize findT y p = fi at *
              obtain ⟨pk, hpk⟩ : ∃ pk, pickS y p = pk := ⟨_, rfl⟩
              rw [hpk] at HPK
              have hpk2 := Lib.hid hpk
              clear hpk
              rcases hfr with rfl | ⟨n, rfl, hn⟩
              · have HN := Lib.hid (show pk = [] by rw [HPK.out]; rfl)
                clear HPK
                go_wp2_with fail
                refine FD.out.mono ?_
                rintro e w5 ⟨rfl, rfl⟩
                go_wp2_with fail
                go_roundw
                case rel => exact ⟨k + 1, _, _, by omega, by go_num, HOb.out, Lib.hid (by rw [MO.out, HFS.out, hpk2.out, HN.out]; simp), HTb.out, Lib.hid (by rw [MT.out, HTL.out]; simp), HBb.out⟩
                case measure => simp [intOf]; omega
              · have k1 : ¬ (n : Int) < 0 := by omega
                have k2 : (0 : Int) ≤ (n : Int) := by omega
                have k3 : (n : Int) < (y.length : Int) := by omega
                have HN := Lib.hid (show pk = [y[n]] by rw [HPK.out, if_neg k1, Int.toNat_natCast, List.getElem?_eq_getElem hn])
                obtain ⟨g, o, rfl, hel⟩ := FR.out.el hn
                have hel1 := hel n hn
                generalize y[n] = q at *
                obtain ⟨qp, qm, qd⟩ := q
                have c0 := hel1.f0
                have c1 := hel1.f1
                have c2 := hel1.f2
                dsimp only at c0 c1 c2
                have hszz := HBb.out.size
                clear hel hel1 HPK
                go_wp2_with fail
                refine FD.out.mono ?_
                rintro e w5 ⟨rfl, rfl⟩
                go_wp2_with (at_builtin; go_loud (refine append_new (enc := encF) (k := 3) (w := _) (by rfl) (.tmp 146) (.tmp 151) 22 33 (.agg #[.string ByteArray.empty, .int .i64 0, .string ByteArray.empty]) 40 (by rfl) Tryd.underlying22 info_file (by rfl) (by decide) encF_ok w4.heap.size _ out ⟨qp, qm, qd⟩ (by rfl) HOb.out (by rfl) (by omega) (by unfold maxLen; omega) hszz _ (by rfl) ?_; intro v7 w7 hown7 ht7; obtain ⟨va7, vm7, vc7, rfl⟩ := own_slice hown7; have HO7 := Lib.hid hown7; have HX7 := Lib.hid (HTb.out.kept ht7.kept (fun g h1 h2 => own_apart HOb.out HTb.out (by decide) h2 h1)); have HB7 := Lib.hid (HBb.out.trans ht7.bel); clear hown7 ht7))
                go_roundw
                case rel => exact ⟨k + 1, _, _, by omega, by go_num, HO7.out, Lib.hid (by rw [MO.out, HFS.out, hpk2.out, HN.out]), HX7.out, Lib.hid (by rw [MT.out, HTL.out]; simp), HB7.out⟩
                case measure => simp [intOf]; omega
            | false =>
              go_wp2_with fail
              refine (LK3.out _ HBb.out).mono ?_
              rintro e wc ⟨rfl, hbc⟩
              have HOc := Lib.hid (HOb.out.new hbc)
              have HTc := Lib.hid (HTb.out.new hbc)
              have HBc := Lib.hid (HBb.out.trans (hbc.mono HBb.out.size))
              clear hbc HOb HTb HBb LK3
              cases b3 with
              | true =>
                have HFS := Lib.hid (show fromS x y z p = z by rw [HF0.out]; rfl)
                have HTL := Lib.hid (show toldM x y z p = [] by rw [HT0.out]; rfl)
                clear HF0 HT0
                have FR := Lib.hid (RZ4.out.keep HBc.out)
                have FD := Lib.hid (refFind_any _ z p _ FR.out (by omega))
                have HPK := Lib.hid (show pickS z p = if findT z p < 0 then [] else match z[(findT z p).toNat]? with | some f => [f] | none => [] from rfl)
                have hfr := findT_range z p
                generalize findT z p = fi at *
                obtain ⟨pk, hpk⟩ : ∃ pk, pickS z p = pk := ⟨_, rfl⟩
                rw [hpk] at HPK
                have hpk2 := Lib.hid hpk
                clear hpk
                rcases hfr with rfl | ⟨n, rfl, hn⟩
                · have HN := Lib.hid (show pk = [] by rw [HPK.out]; rfl)
                  clear HPK
                  go_wp2_with fail
                  refine FD.out.mono ?_
                  rintro e w5 ⟨rfl, rfl⟩
                  go_wp2_with fail
                  go_roundw
                  case rel => exact ⟨k + 1, _, _, by omega, by go_num, HOc.out, Lib.hid (by rw [MO.out, HFS.out, hpk2.out, HN.out]; simp), HTc.out, Lib.hid (by rw [MT.out, HTL.out]; simp), HBc.out⟩
                  case measure => simp [intOf]; omega
                · have k1 : ¬ (n : Int) < 0 := by omega
                  have k2 : (0 : Int) ≤ (n : Int) := by omega
                  have k3 : (n : Int) < (z.length : Int) := by omega
                  have HN := Lib.hid (show pk = [z[n]] by rw [HPK.out, if_neg k1, Int.toNat_natCast, List.getElem?_eq_getElem hn])
                  obtain ⟨g, o, rfl, hel⟩ := FR.out.el hn
                  have hel1 := hel n hn
                  generalize z[n] = q at *
                  obtain ⟨qp, qm, qd⟩ := q
                  have c0 := hel1.f0
                  have c1 := hel1.f1
                  have c2 := hel1.f2
                  dsimp only at c0 c1 c2
                  have hszz := HBc.out.size
                  clear hel hel1 HPK
                  go_wp2_with fail
                  refine FD.out.mono ?_
                  rintro e w5 ⟨rfl, rfl⟩
                  go_wp2_with (at_builtin; go_loud (refine append_new (enc := encF) (k := 3) (w := _) (by rfl) (.tmp 146) (.tmp 151) 22 33 (.agg #[.string ByteArray.empty, .int .i64 0, .string ByteArray.empty]) 40 (by rfl) Tryd.underlying22 info_file (by rfl) (by decide) encF_ok w4.heap.size _ out ⟨qp, qm, qd⟩ (by rfl) HOc.out (by rfl) (by omega) (by unfold maxLen; omega) hszz _ (by rfl) ?_; intro v7 w7 hown7 ht7; obtain ⟨va7, vm7, vc7, rfl⟩ := own_slice hown7; have HO7 := Lib.hid hown7; have HX7 := Lib.hid (HTc.out.kept ht7.kept (fun g h1 h2 => own_apart HOc.out HTc.out (by decide) h2 h1)); have HB7 := Lib.hid (HBc.out.trans ht7.bel); clear hown7 ht7))
                  go_roundw
                  case rel => exact ⟨k + 1, _, _, by omega, by go_num, HO7.out, Lib.hid (by rw [MO.out, HFS.out, hpk2.out, HN.out]), HX7.out, Lib.hid (by rw [MT.out, HTL.out]; simp), HB7.out⟩
                  case measure => simp [intOf]; omega
              | false =>
                have HFS := Lib.hid (show fromS x y z p = y by rw [HF0.out]; rfl)
                have HTL := Lib.hid (show toldM x y z p = [p] by rw [HT0.out]; rfl)
                have hszc := HBc.out.size
                clear HF0 HT0
                go_wp2_with (at_builtin; go_loud (refine append_new (enc := encS) (k := 1) (w := _) (by rfl) (.tmp 137) (.tmp 139) 45 9 (.string ByteArray.empty) 16 (by rfl) Tryd.underlying45 info_strS (by rfl) (by decide) encS_ok w4.heap.size _ told p (by rfl) HTc.out (by rfl) (by omega) (by unfold maxLen; omega) hszc _ (by rfl) ?_; intro v6 w6 hown6 ht6; obtain ⟨va6, vm6, vc6, rfl⟩ := own_slice hown6; have HO6 := Lib.hid hown6; have HX6 := Lib.hid (HOc.out.kept ht6.kept (fun g h1 h2 => own_apart HTc.out HOc.out (by decide) h2 h1)); have HB6 := Lib.hid (HBc.out.trans ht6.bel); clear hown6 ht6))
                have FR := Lib.hid (RY4.out.keep HB6.out)
                have FD := Lib.hid (refFind_any _ y p _ FR.out (by omega))
                have HPK := Lib.hid (show pickS y p = if findT y p < 0 then [] else match y[(findT y p).toNat]? with | some f => [f] | none => [] from rfl)
                have hfr := findT_range y p
                generalize findT y p = fi at *
                obtain ⟨pk, hpk⟩ : ∃ pk, pickS y p = pk := ⟨_, rfl⟩
                rw [hpk] at HPK
                have hpk2 := Lib.hid hpk
                clear hpk
                rcases hfr with rfl | ⟨n, rfl, hn⟩
                · have HN := Lib.hid (show pk = [] by rw [HPK.out]; rfl)
                  clear HPK
                  go_wp2_with fail
                  refine FD.out.mono ?_
                  rintro e w5 ⟨rfl, rfl⟩
                  go_wp2_with fail
                  go_roundw
                  case rel => exact ⟨k + 1, _, _, by omega, by go_num, HX6.out, Lib.hid (by rw [MO.out, HFS.out, hpk2.out, HN.out]; simp), HO6.out, Lib.hid (by rw [MT.out, HTL.out]), HB6.out⟩
                  case measure => simp [intOf]; omega
                · have k1 : ¬ (n : Int) < 0 := by omega
                  have k2 : (0 : Int) ≤ (n : Int) := by omega
                  have k3 : (n : Int) < (y.length : Int) := by omega
                  have HN := Lib.hid (show pk = [y[n]] by rw [HPK.out, if_neg k1, Int.toNat_natCast, List.getElem?_eq_getElem hn])
                  obtain ⟨g, o, rfl, hel⟩ := FR.out.el hn
                  have hel1 := hel n hn
                  generalize y[n] = q at *
                  obtain ⟨qp, qm, qd⟩ := q
                  have c0 := hel1.f0
                  have c1 := hel1.f1
                  have c2 := hel1.f2
                  dsimp only at c0 c1 c2
                  have hszz := HB6.out.size
                  clear hel hel1 HPK
                  go_wp2_with fail
                  refine FD.out.mono ?_
                  rintro e w5 ⟨rfl, rfl⟩
                  go_wp2_with (at_builtin; go_loud (refine append_new (enc := encF) (k := 3) (w := _) (by rfl) (.tmp 146) (.tmp 151) 22 33 (.agg #[.string ByteArray.empty, .int .i64 0, .string ByteArray.empty]) 40 (by rfl) Tryd.underlying22 info_file (by rfl) (by decide) encF_ok w4.heap.size _ out ⟨qp, qm, qd⟩ (by rfl) HX6.out (by rfl) (by omega) (by unfold maxLen; omega) hszz _ (by rfl) ?_; intro v7 w7 hown7 ht7; obtain ⟨va7, vm7, vc7, rfl⟩ := own_slice hown7; have HO7 := Lib.hid hown7; have HX7 := Lib.hid (HO6.out.kept ht7.kept (fun g h1 h2 => own_apart HX6.out HO6.out (by decide) h2 h1)); have HB7 := Lib.hid (HB6.out.trans ht7.bel); clear hown7 ht7))
                  go_roundw
                  case rel => exact ⟨k + 1, _, _, by omega, by go_num, HO7.out, Lib.hid (by rw [MO.out, HFS.out, hpk2.out, HN.out]), HX7.out, Lib.hid (by rw [MT.out, HTL.out]), HB7.out⟩
                  case measure => simp [intOf]; omega
        · obtain rfl : k = L.length := by omega
          have j1 : ¬ (L.length : Int) < (L.length : Int) := by omega
          rw [List.take_of_length_le (Nat.le_refl _)] at HOE HTE
          have hor : ∀ f ∈ out, FileOk f := by
            rw [HOE.out]
            intro f hf
            obtain ⟨h, _, hh⟩ := List.mem_flatMap.1 hf
            exact (pickS_ok' x y z h.path HX.out HY.out HZ.out).1 f hh
          have IM := Lib.hid (refImgOf_any _ out wr ((OwnN.row encF_ok HO.out).mono (fun _ _ => trivial)) hor (by omega))
          rw [← HOE.out, ← HTE.out, ← HM.out] at HME
          generalize imgS out = im at *
          obtain ⟨mi, me⟩ := im
          dsimp only at IM HME
          by_cases hme : me = 0
          · have q9 : (me != 0) = false := by simp [hme]
            have HR := Lib.hid (show res = ⟨mi, told, 0⟩ by rw [HME.out, if_neg (fun k => k hme)])
            clear HME HM hme
            go_wp2_with fail
            refine IM.out.mono ?_
            rintro e w9 ⟨rfl, hb9⟩
            have HB9 := Lib.hid (HB.out.trans (hb9.mono HB.out.size))
            have HT9 := Lib.hid (HT.out.new hb9)
            go_wp2_with fail
            go_ret3
            exact ⟨_, by rw [HR.out]; rfl, by rw [HR.out]; exact (OwnN.row encS_ok HT9.out).mono (fun _ _ => trivial), K4.out.trans (HB9.out.mono K4.out.size)⟩
          · have q9 : (me != 0) = true := by simp [hme]
            have HR := Lib.hid (show res = ⟨[], [], me⟩ by rw [HME.out, if_pos hme])
            clear HME HM hme
            go_wp2_with fail
            refine IM.out.mono ?_
            rintro e w9 ⟨rfl, hb9⟩
            have HB9 := Lib.hid (HB.out.trans (hb9.mono HB.out.size))
            go_wp2_with fail
            go_ret3
            exact ⟨_, by rw [HR.out]; rfl, by rw [HR.out]; exact RowN.nil _ _ _ _, K4.out.trans (HB9.out.mono K4.out.size)⟩
end Go.Proofs.YtfgimhgkjodcgaaDoor

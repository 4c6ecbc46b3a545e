/- The document's Between. -/
import Derived.Test.YtkfkfpfnpfpkaaaDoorArgTree
import Derived.Test.YtkfkfpfnpfpkaaaDoorFrame
import Derived.Test.YtkfkfpfnpfpkaaaDoorGen
import Derived.Test.YtkfkfpfnpfpkaaaDoorOwnL
import Derived.Test.YtkfkfpfnpfpkaaaDoorPlaceTW
import Derived.Test.YtkfkfpfnpfpkaaaDoorReadW
import Derived.Test.YtkfkfpfnpfpkaaaDoorRefCheckW
import Derived.Test.YtkfkfpfnpfpkaaaDoorRefRightTW
import Derived.Test.YtkfkfpfnpfpkaaaDoorRefSortW
import Derived.Test.YtkfkfpfnpfpkaaaDoorRowN
import Derived.Test.YtkfkfpfnpfpkaaaDoorRows
import Derived.Test.YtkfkfpfnpfpkaaaDoorTreeMath
import Derived.BigQuiet
import Derived.Deep.Cut
import Derived.Deep.CutRange
import Derived.Deep.DeepCutAuto
import Derived.Deep.QuietTactic
import Derived.Lib.Hide
import Derived.WalkKit
import Derived.WalkLawsBesides
import Derived.WalkSpells
set_option linter.unusedVariables false
namespace Go.Proofs.YtkfkfpfnpfpkaaaDoor
open Go.RowKit

theorem filterN_succ {α : Type} (f : α → Bool) (l : List α) (i : Nat) (h : i < l.length) : (l.take (i + 1)).filter f = (l.take i).filter f ++ (if f l[i] = true then [l[i]] else []) := by
  rw [List.take_succ_eq_append_getElem h, List.filter_append]
  congr 1
  by_cases c : f l[i] = true
  · rw [if_pos c, List.filter_cons_of_pos c]; rfl
  · rw [if_neg c, List.filter_cons_of_neg c]; rfl
theorem flat_succ {α β : Type} (f : α → List β) (l : List α) (i : Nat) (h : i < l.length) : ((l.take (i + 1)).map f).flatten = ((l.take i).map f).flatten ++ f l[i] := by
  rw [List.take_succ_eq_append_getElem h, List.map_append, List.flatten_append]
  simp
theorem chgs_len (a b : List ItemD) : ∀ l : List FileD, ((l.map (chgS a b)).flatten).length ≤ l.length
  | [] => by simp
  | x :: r => by
    have := chgs_len a b r
    rw [List.map_cons, List.flatten_cons, List.length_append, List.length_cons]
    have h1 : (chgS a b x).length ≤ 1 := by unfold chgS; split <;> simp
    omega
theorem bare_ok (x : ItemD) (h : ItemOk x) : FileOk (bareS x) := ⟨h.p, ⟨(by decide : (-9223372036854775808 : Int) ≤ 0), (by decide : (0 : Int) ≤ 9223372036854775807)⟩, (by decide : 0 ≤ 140737488351232)⟩
theorem info_chg : (Tryd.prog.info? 56).map (fun i => (i.zero, i.size, i.bytes)) = some (some (.agg #[.int .i64 0, .string ByteArray.empty]), 2, 24) := by kernel_rfl
set_option maxRecDepth 100000 in
set_option maxHeartbeats 2000000 in
theorem refBetween_any (va vb : Value) (a b : List ItemD) (w : World) (hra : RowN encI 4 (fun _ => True) w va a) (hrb : RowN encI 4 (fun _ => True) w vb b) (hoka : ∀ x ∈ a, ItemOk x) (hokb : ∀ x ∈ b, ItemOk x) (hla : a.length ≤ 2000) (hlb : b.length ≤ 2000) :
    Calls Tryd.prog 37 #[va, vb] w fun e w' => ∃ v', e = .returned (.tuple #[v', .int .i64 (betweenE a b)]) ∧ RowN encG 2 (fun _ => True) w' v' (betweenS a b) ∧ Below w.heap.size w w' := by
  have RA := Lib.hid (refRight9_any va a w hra hoka (by omega))
  have RB := Lib.hid (fun w' (hb : Below w.heap.size w w') => refRight9_any vb b w' (hrb.keep hb) hokb (by omega))
  obtain ⟨pa, ca, hv, _⟩ := hra.slice
  subst hv
  obtain ⟨pb, cb, hv, _⟩ := hrb.slice
  subst hv
  have HA := Lib.hid hra
  have HB := Lib.hid hrb
  have HOA := Lib.hid hoka
  have HOB := Lib.hid hokb
  clear hra hrb hoka hokb
  by_cases h1 : rightS a = 0
  · by_cases h2 : rightS b = 0
    · have HE := Lib.hid (show betweenE a b = 0 by unfold betweenE; rw [if_neg (fun h => h h1)]; exact h2)
      have HS := Lib.hid (show betweenS a b = ((allS a b).map (chgS a b)).flatten by unfold betweenS; rw [if_neg (fun h => h HE.out)])
      rw [h1] at RA
      rw [h2] at RB
      clear h1 h2
      go_enter Tryd.func37, Tryd.ntmps37
      go_wp2_with fail
      refine RA.out.mono ?_
      rintro e w1 ⟨rfl, hb1⟩
      have HB1 := Lib.hid hb1
      clear hb1 RA
      go_wp2_with fail
      refine (RB.out _ HB1.out).mono ?_
      rintro e w2 ⟨rfl, hb2⟩
      have HB2 := Lib.hid (HB1.out.trans (hb2.mono HB1.out.size))
      clear hb2 RB HB1
      go_wp2_with fail
      go_loopw [7, 8] (fun v7 v8 wr => ∃ i : Nat, i ≤ a.length ∧ v8 = .int .i64 i ∧ OwnN encF 3 wr w2.heap.size 42 v7 ((a.take i).map bareS) ∧ Below w2.heap.size w2 wr) (fun _ v8 _ => a.length - (intOf v8).toNat)
      case atStart => exact ⟨0, by omega, rfl, OwnN.nil _ _ _ _ _, Below.refl _ _⟩
      case round =>
        obtain ⟨i, hi, rfl, hown, hbel⟩ := hrel
        have HO := Lib.hid hown
        have HBl := Lib.hid hbel
        have HBw := Lib.hid (HB2.out.trans (hbel.mono HB2.out.size))
        clear hown hbel
        have i0 : (0 : Int) ≤ (i : Int) := by omega
        obtain ⟨wa, wm, wc', hv⟩ := own_slice HO.out
        subst hv
        have hvm : wm = ((a.take i).map bareS).length := own_lenV HO.out
        by_cases hlt : i < a.length
        · have j1 : (i : Int) < (a.length : Int) := by omega
          obtain ⟨g, o, rfl, hel⟩ := HA.out.el hlt
          have c0 := ((hel i hlt).new HBw.out).i0
          have HT := Lib.hid (take_map_succ bareS a i hlt)
          have hol : ((a.take i).map bareS).length ≤ 2000 := by rw [List.length_map, List.length_take]; omega
          generalize (a.take i).map bareS = out at *
          generalize a[i] = x at *
          subst hvm
          clear hel
          go_wp2_with (at_builtin; refine append_new (enc := encF) (k := 3) (w := wr) (by rfl) (.tmp 31) (.tmp 38) 29 42 (.agg #[.string ByteArray.empty, .int .i64 0, .string ByteArray.empty]) 40 (by rfl) Tryd.underlying29 info_file (by rfl) (by decide) encF_ok w2.heap.size _ out (bareS x) (by rfl) HO.out (by rfl) (by omega) (by unfold maxLen; omega) HBl.out.size _ (by rfl) ?_; intro v7 w7 hown7 ht7; obtain ⟨va7, vm7, vc7, rfl⟩ := own_slice hown7; have HO7 := Lib.hid hown7; have HB7 := Lib.hid (HBl.out.trans ht7.bel); clear hown7 ht7)
          go_roundw
          case rel => exact ⟨i + 1, by omega, by go_num, by rw [HT.out]; exact HO7.out, HB7.out⟩
          case measure => simp [intOf]; omega
        · have j1 : ¬ (i : Int) < (a.length : Int) := by omega
          rw [List.take_of_length_le (show a.length ≤ i by omega)] at HO hvm
          subst hvm
          go_wp2_with fail
          obtain ⟨w3, rfl⟩ : ∃ w3, w3 = wr := ⟨_, rfl⟩
          have HG := Lib.hid (show ∀ y : ItemD, (atS a y.path).isNone = (atS a y.path).isNone from fun _ => rfl)
          obtain ⟨G, hG⟩ : ∃ G : ItemD → Bool, G = fun y => (atS a y.path).isNone := ⟨_, rfl⟩
          have HGX := Lib.hid (show ∀ y : ItemD, G y = (atS a y.path).isNone from fun y => by rw [hG])
          have HALL := Lib.hid (show allS a b = sortS (a.map bareS ++ (b.filter G).map bareS) by rw [hG]; rfl)
          clear hG HG
          go_loopw [7, 9] (fun v7 v9 wr => ∃ i : Nat, i ≤ b.length ∧ v9 = .int .i64 i ∧ OwnN encF 3 wr w2.heap.size 42 v7 (a.map bareS ++ ((b.take i).filter G).map bareS) ∧ Below w2.heap.size w2 wr) (fun _ v9 _ => b.length - (intOf v9).toNat)
          case atStart => exact ⟨0, by omega, rfl, by rw [show a.map bareS ++ ((b.take 0).filter G).map bareS = a.map bareS by simp, ← List.length_map (f := bareS)]; simpa using HO.out, HBl.out⟩
          case round =>
            clear HO HBl HBw
            obtain ⟨i, hi, rfl, hown, hbel⟩ := hrel
            have HO := Lib.hid hown
            have HBl := Lib.hid hbel
            have HBw := Lib.hid (HB2.out.trans (hbel.mono HB2.out.size))
            clear hown hbel
            have i0 : (0 : Int) ≤ (i : Int) := by omega
            obtain ⟨wa, wm, wc', hv⟩ := own_slice HO.out
            subst hv
            have hvm : wm = (a.map bareS ++ ((b.take i).filter G).map bareS).length := own_lenV HO.out
            have hol : (a.map bareS ++ ((b.take i).filter G).map bareS).length ≤ 4000 := by
              have := List.length_filter_le G (b.take i)
              rw [List.length_take] at this
              rw [List.length_append, List.length_map, List.length_map]
              omega
            by_cases hlt : i < b.length
            · have j1 : (i : Int) < (b.length : Int) := by omega
              obtain ⟨g, o, rfl, hel⟩ := HB.out.el hlt
              have c0 := ((hel i hlt).new HBw.out).i0
              have HT := Lib.hid (show a.map bareS ++ ((b.take (i + 1)).filter G).map bareS = (a.map bareS ++ ((b.take i).filter G).map bareS) ++ (if G b[i] = true then [bareS b[i]] else []) by
                rw [filterN_succ G b i hlt, List.map_append, ← List.append_assoc]
                congr 1
                split <;> rfl)
              have PL := Lib.hid (refPlace_any _ a b[i].path wr (HA.out.keep HBw.out) (by omega))
              have HGB := Lib.hid (HGX.out b[i])
              generalize a.map bareS ++ ((b.take i).filter G).map bareS = out at *
              generalize b[i] = x at *
              generalize G x = gx at *
              subst hvm
              clear hel
              go_wp2_with fail
              refine PL.out.mono ?_
              rintro e w5 ⟨n, rfl, hpl, rfl⟩
              rcases hpl with ⟨rfl, hn⟩ | ⟨k, hk, rfl, hn⟩
              · have HGT := Lib.hid (show gx = true by rw [HGB.out, hn]; rfl)
                clear hn HGB PL
                go_wp2_with (at_builtin; refine append_new (enc := encF) (k := 3) (w := wr) (by rfl) (.tmp 54) (.tmp 61) 29 42 (.agg #[.string ByteArray.empty, .int .i64 0, .string ByteArray.empty]) 40 (by rfl) Tryd.underlying29 info_file (by rfl) (by decide) encF_ok w2.heap.size _ out (bareS x) (by rfl) HO.out (by rfl) (by omega) (by unfold maxLen; omega) HBl.out.size _ (by rfl) ?_; intro v7 w7 hown7 ht7; obtain ⟨va7, vm7, vc7, rfl⟩ := own_slice hown7; have HO7 := Lib.hid hown7; have HB7 := Lib.hid (HBl.out.trans ht7.bel); clear hown7 ht7)
                go_roundw
                case rel => exact ⟨i + 1, by omega, by go_num, by rw [HT.out, if_pos HGT.out]; exact HO7.out, HB7.out⟩
                case measure => simp [intOf]; omega
              · have HGF := Lib.hid (show ¬ gx = true by rw [HGB.out, hn]; simp)
                have m1 : ¬ (k : Int) < 0 := by omega
                clear hn HGB PL
                go_wp2_with fail
                go_roundw
                case rel => exact ⟨i + 1, by omega, by go_num, by rw [HT.out, if_neg HGF.out, List.append_nil]; exact HO.out, HBl.out⟩
                case measure => simp [intOf]; omega
            · have j1 : ¬ (i : Int) < (b.length : Int) := by omega
              rw [List.take_of_length_le (show b.length ≤ i by omega)] at HO hvm hol
              have HF0 := Lib.hid (show ∀ x ∈ a.map bareS ++ (b.filter G).map bareS, FileOk x by
                intro x hx
                rw [List.mem_append, List.mem_map, List.mem_map] at hx
                rcases hx with ⟨y, hy, rfl⟩ | ⟨y, hy, rfl⟩
                · exact bare_ok y (HOA.out y hy)
                · exact bare_ok y (HOB.out y (List.mem_filter.1 hy).1))
              have SO := Lib.hid (refSort_any _ _ wr ((OwnN.row encF_ok HO.out).mono (fun _ _ => trivial)) HF0.out (by omega))
              rw [← HALL.out] at SO
              have hal : (allS a b).length ≤ 4000 := by rw [HALL.out, sortS_len _ _ rfl]; exact hol
              generalize a.map bareS ++ (b.filter G).map bareS = out at *
              subst hvm
              go_wp2_with fail
              refine SO.out.mono ?_
              rintro e w4 ⟨v4, rfl, hown4, hb4⟩
              obtain ⟨va4, vm4, vc4, rfl⟩ := own_slice hown4
              have hvm4 : vm4 = (allS a b).length := own_lenV hown4
              have HSO := Lib.hid (OwnN.row encF_ok hown4)
              have HB4 := Lib.hid (HBw.out.trans (hb4.mono HBw.out.size))
              clear hb4 hown4 SO HO HBl HBw HALL HF0 HGX
              obtain ⟨al, hal0⟩ : ∃ al, al = allS a b := ⟨_, rfl⟩
              have HAL := Lib.hid hal0
              rw [← hal0] at hal hvm4 HSO
              rw [← hal0] at HS
              clear hal0
              subst hvm4
              go_wp2_with fail
              go_loopw [10, 11] (fun v10 v11 wr => ∃ i : Nat, i ≤ al.length ∧ v11 = .int .i64 i ∧ OwnN encG 2 wr w4.heap.size 56 v10 ((al.take i).map (chgS a b)).flatten ∧ Below w4.heap.size w4 wr) (fun _ v11 _ => al.length - (intOf v11).toNat)
              case atStart => exact ⟨0, by omega, rfl, OwnN.nil _ _ _ _ _, Below.refl _ _⟩
              case round =>
                obtain ⟨i, hi, rfl, hown, hbel⟩ := hrel
                have HO := Lib.hid hown
                have HBl := Lib.hid hbel
                have HBw := Lib.hid (HB4.out.trans (hbel.mono HB4.out.size))
                clear hown hbel
                obtain ⟨w0, rfl⟩ : ∃ w0, w0 = wr := ⟨_, rfl⟩
                have i0 : (0 : Int) ≤ (i : Int) := by omega
                obtain ⟨wa, wm, wc', hv⟩ := own_slice HO.out
                subst hv
                by_cases hlt : i < al.length
                · have j1 : (i : Int) < (al.length : Int) := by omega
                  obtain ⟨g, o, rfl, hel⟩ := HSO.out.el hlt
                  have c0 := ((hel i hlt).new HBl.out).f0
                  have HT := Lib.hid (flat_succ (chgS a b) al i hlt)
                  have hol : (((al.take i).map (chgS a b)).flatten).length ≤ 4000 := by
                    have := chgs_len a b (al.take i)
                    rw [List.length_take] at this; omega
                  have HC := Lib.hid (show chgS a b al[i] = if 0 < kindS a b al[i].path then [⟨kindS a b al[i].path, al[i].path⟩] else [] from rfl)
                  generalize ((al.take i).map (chgS a b)).flatten = out at *
                  generalize al[i] = f at *
                  obtain ⟨p, md, dt⟩ := f
                  dsimp only at c0
                  obtain ⟨kd, hkd⟩ : ∃ kd, kd = kindS a b p := ⟨_, rfl⟩
                  have HKD := Lib.hid hkd
                  have HT2 := Lib.hid (show ((al.take (i + 1)).map (chgS a b)).flatten = out ++ (if 0 < kd then [⟨kd, p⟩] else []) by rw [HT.out, HC.out, HKD.out])
                  clear hkd hel HC HT
                  have PA := Lib.hid (refPlace_any _ a p w0 (HA.out.keep HBw.out) (by omega))
                  have PB := Lib.hid (refPlace_any _ b p w0 (HB.out.keep HBw.out) (by omega))
                  go_wp2_with fail
                  refine PA.out.mono ?_
                  rintro e w5 ⟨n1, rfl, hpa, rfl⟩
                  have HPA := Lib.hid hpa
                  clear hpa PA
                  go_wp2_with fail
                  refine PB.out.mono ?_
                  rintro e w6 ⟨n2, rfl, hpb, rfl⟩
                  have HPB := Lib.hid hpb
                  clear hpb PB
                  go_upto_if 83 with fail
                  go_cut [15] (fun v15 wx => v15 = .int .i64 kd ∧ Below w0.heap.size w0 wx)
                  case first =>
                    rcases HPB.out with ⟨rfl, hnb⟩ | ⟨kb, hkb, rfl, hnb⟩
                    · have HK := Lib.hid (show kd = 1 by rw [HKD.out]; unfold kindS; rw [hnb])
                      clear hnb HPB HKD
                      go_wp2_with fail
                      go_meet
                      exact ⟨by rw [HK.out], Below.refl _ _⟩
                    · have m1 : ¬ (kb : Int) < 0 := by omega
                      rcases HPA.out with ⟨rfl, hna⟩ | ⟨ka, hka, rfl, hna⟩
                      · have HK := Lib.hid (show kd = 2 by rw [HKD.out]; unfold kindS; rw [hnb, hna])
                        clear hnb hna HPB HPA HKD
                        go_wp2_with fail
                        go_meet
                        exact ⟨by rw [HK.out], Below.refl _ _⟩
                      · have m2 : ¬ (ka : Int) < 0 := by omega
                        have HK := Lib.hid (show kd = if a[ka].size ≠ b[kb].size ∨ a[ka].mark ≠ b[kb].mark then 3 else if a[ka].mode ≠ b[kb].mode then 4 else 0 by rw [HKD.out]; unfold kindS; rw [hnb, hna])
                        obtain ⟨g1, o1, rfl, he1⟩ := HA.out.el hka
                        obtain ⟨g2, o2, rfl, he2⟩ := HB.out.el hkb
                        have n0 : (0 : Int) ≤ (ka : Int) := by omega
                        have n1 : (0 : Int) ≤ (kb : Int) := by omega
                        have n2 : (ka : Int) < (a.length : Int) := by omega
                        have n3 : (kb : Int) < (b.length : Int) := by omega
                        have hX := Lib.hid (fun w' (hb : Below w0.heap.size w0 w') => (he1 ka hka).new (HBw.out.trans (hb.mono HBw.out.size)))
                        have hY := Lib.hid (fun w' (hb : Below w0.heap.size w0 w') => (he2 kb hkb).new (HBw.out.trans (hb.mono HBw.out.size)))
                        generalize a[ka] = X at *
                        generalize b[kb] = Y at *
                        have x1 := (hX.out w0 (Below.refl _ _)).i1
                        have x2 := (hX.out w0 (Below.refl _ _)).i2
                        have x3 := (hX.out w0 (Below.refl _ _)).i3
                        have y1 := (hY.out w0 (Below.refl _ _)).i1
                        have y2 := (hY.out w0 (Below.refl _ _)).i2
                        have y3 := (hY.out w0 (Below.refl _ _)).i3
                        obtain ⟨Xp, Xm, Xs, Xk⟩ := X
                        obtain ⟨Yp, Ym, Ys, Yk⟩ := Y
                        dsimp only at x1 x2 x3 y1 y2 y3
                        clear hnb hna HPB HPA HKD he1 he2
                        by_cases hs : Xs = Ys
                        · have q1 : (Xs != Ys) = false := by simp [hs]
                          have q1b : (Xs == Ys) = true := by simp [hs]
                          by_cases hm : Xk = Yk
                          · have q2 : (Xk != Yk) = false := by simp [hm]
                            have q2b : (Xk == Yk) = true := by simp [hm]
                            have HK2 := Lib.hid (show kd = if Xm ≠ Ym then 4 else 0 by rw [HK.out]; dsimp only; rw [if_neg (fun h => h.elim (fun h => h hs) (fun h => h hm))])
                            clear hs hm HK
                            go_wp2_with fail
                            go_quiet (fail)
                            have HBQ := Lib.hid (Below_drewN (Below.refl w0.heap.size w0) nq)
                            clear x1 x2 x3 y1 y2 y3
                            generalize w0.drewN nq = w7 at *
                            have x1 := (hX.out w7 HBQ.out).i1
                            have y1 := (hY.out w7 HBQ.out).i1
                            dsimp only at x1 y1
                            by_cases ho : Xm = Ym
                            · have q3 : (Xm != Ym) = false := by simp [ho]
                              have HK3 := Lib.hid (show kd = 0 by rw [HK2.out, if_neg (fun h => h ho)])
                              clear ho HK2
                              go_wp2_with fail
                              go_quiet (fail)
                              have HBQ2 := Lib.hid (HBQ.out.trans ((Below_drewN (Below.refl w7.heap.size w7) nq).mono HBQ.out.size))
                              go_wp2_with fail
                              go_meet
                              exact ⟨by rw [HK3.out], HBQ2.out⟩
                            · have q3 : (Xm != Ym) = true := by simp [ho]
                              have HK3 := Lib.hid (show kd = 4 by rw [HK2.out, if_pos ho])
                              clear ho HK2
                              go_wp2_with fail
                              go_quiet (fail)
                              have HBQ2 := Lib.hid (HBQ.out.trans ((Below_drewN (Below.refl w7.heap.size w7) nq).mono HBQ.out.size))
                              go_wp2_with fail
                              go_meet
                              exact ⟨by rw [HK3.out], HBQ2.out⟩
                          · have q2 : (Xk != Yk) = true := by simp [hm]
                            have q2b : (Xk == Yk) = false := by simp [hm]
                            have HK3 := Lib.hid (show kd = 3 by rw [HK.out, if_pos (.inr hm)])
                            clear hs hm HK
                            go_wp2_with fail
                            go_quiet (fail)
                            have HBQ := Lib.hid (Below_drewN (Below.refl w0.heap.size w0) nq)
                            go_wp2_with fail
                            go_meet
                            exact ⟨by rw [HK3.out], HBQ.out⟩
                        · have q1 : (Xs != Ys) = true := by simp [hs]
                          have q1b : (Xs == Ys) = false := by simp [hs]
                          have HK3 := Lib.hid (show kd = 3 by rw [HK.out, if_pos (.inl hs)])
                          clear hs HK
                          go_wp2_with fail
                          go_quiet (fail)
                          have HBQ := Lib.hid (Below_drewN (Below.refl w0.heap.size w0) nq)
                          go_wp2_with fail
                          go_meet
                          exact ⟨by rw [HK3.out], HBQ.out⟩
                  obtain ⟨rfl, hbc⟩ := hcut
                  have hvm : wm = out.length := own_lenV HO.out
                  subst hvm
                  have HO6 := Lib.hid (HO.out.new hbc)
                  have HB6 := Lib.hid (HBl.out.trans (hbc.mono HBl.out.size))
                  clear hbc HO HPA HPB
                  by_cases hk0 : 0 < kd
                  · have HT3 := Lib.hid (HT2.out.trans (by rw [if_pos hk0]))
                    clear HT2
                    go_wp2_with (at_builtin; refine append_new (enc := encG) (k := 2) (w := wc) (by rfl) (.tmp 123) (.tmp 127) 52 56 (.agg #[.int .i64 0, .string ByteArray.empty]) 24 (by rfl) Tryd.underlying52 info_chg (by rfl) (by decide) encG_ok w4.heap.size _ out ⟨kd, p⟩ (by rfl) HO6.out (by rfl) (by omega) (by unfold maxLen; omega) HB6.out.size _ (by rfl) ?_; intro v7 w7 hown7 ht7; obtain ⟨va7, vm7, vc7, rfl⟩ := own_slice hown7; have HO7 := Lib.hid hown7; have HB7 := Lib.hid (HB6.out.trans ht7.bel); clear hown7 ht7)
                    go_roundw
                    case rel => exact ⟨i + 1, by omega, by go_num, by rw [HT3.out]; exact HO7.out, HB7.out⟩
                    case measure => simp [intOf]; omega
                  · have HT3 := Lib.hid (HT2.out.trans (by rw [if_neg hk0, List.append_nil]))
                    clear HT2
                    go_wp2_with fail
                    go_roundw
                    case rel => exact ⟨i + 1, by omega, by go_num, by rw [HT3.out]; exact HO6.out, HB6.out⟩
                    case measure => simp [intOf]; omega
                · have j1 : ¬ (i : Int) < (al.length : Int) := by omega
                  rw [List.take_of_length_le (show al.length ≤ i by omega)] at HO
                  go_wp2_with fail
                  go_ret2
                  exact ⟨_, by rw [HE.out]; rfl, by rw [HS.out]; exact (OwnN.row encG_ok HO.out).mono (fun _ _ => trivial), HBw.out⟩
    · have HE := Lib.hid (show betweenE a b = rightS b by unfold betweenE; rw [if_neg (fun h => h h1)])
      have HS := Lib.hid (show betweenS a b = [] by unfold betweenS; rw [if_pos (by rw [HE.out]; exact h2)])
      rw [h1] at RA
      generalize rightS b = rb at *
      have m1 : (rb != 0) = true := by simp [h2]
      clear h1
      go_enter Tryd.func37, Tryd.ntmps37
      go_wp2_with fail
      refine RA.out.mono ?_
      rintro e w1 ⟨rfl, hb1⟩
      have HB1 := Lib.hid hb1
      clear hb1 RA
      go_wp2_with fail
      refine (RB.out _ HB1.out).mono ?_
      rintro e w2 ⟨rfl, hb2⟩
      have HB2 := Lib.hid (HB1.out.trans (hb2.mono HB1.out.size))
      clear hb2 RB HB1
      go_wp2_with fail
      go_ret2
      exact ⟨_, by rw [HE.out]; rfl, by rw [HS.out]; exact RowN.nil _ _ _ _, HB2.out⟩
  · have HE := Lib.hid (show betweenE a b = rightS a by unfold betweenE; rw [if_pos h1])
    have HS := Lib.hid (show betweenS a b = [] by unfold betweenS; rw [if_pos (by rw [HE.out]; exact h1)])
    generalize rightS a = ra at *
    have m1 : (ra != 0) = true := by simp [h1]
    have m2 : (ra == 0) = false := by simp [h1]
    go_enter Tryd.func37, Tryd.ntmps37
    go_wp2_with fail
    refine RA.out.mono ?_
    rintro e w1 ⟨rfl, hb1⟩
    have HB1 := Lib.hid hb1
    clear hb1 RA
    go_wp2_with fail
    go_ret2
    exact ⟨_, by rw [HE.out]; rfl, by rw [HS.out]; exact RowN.nil _ _ _ _, HB1.out⟩
end Go.Proofs.YtkfkfpfnpfpkaaaDoor

/- (*places).longest. -/
import Derived.Test.YtjlhhnkfedfdnaaAlikeW
import Derived.Test.YtjlhhnkfedfdnaaCodeMath
import Derived.Test.YtjlhhnkfedfdnaaFrame
import Derived.Test.YtjlhhnkfedfdnaaGen
import Derived.Test.YtjlhhnkfedfdnaaMarkMath
import Derived.Test.YtjlhhnkfedfdnaaOwnL
import Derived.Test.YtjlhhnkfedfdnaaPlaceMath
import Derived.Test.YtjlhhnkfedfdnaaPressMath
import Derived.Test.YtjlhhnkfedfdnaaReadW
import Derived.Test.YtjlhhnkfedfdnaaRows
import Derived.BigQuiet
import Derived.Deep.Cut
import Derived.Deep.DeepCutAuto
import Derived.Deep.QuietTactic
import Derived.IntWalk
import Derived.Lib.Hide
import Derived.Outline
import Derived.StillTailTactics
import Derived.WalkKit
import Derived.WalkLawsBesides
import Derived.WalkSpells
set_option linter.unusedVariables false
namespace Go.Proofs.Ytjlhhnkfedfdnaa
open Go.RowKit

theorem PlAt.below {w w' : World} {q : Nat} {s : Txt} {L A : Nat → Nat} (h : PlAt w q s L A) (hb : Below w.heap.size w w') : PlAt w' q s L A :=
  (hb.block q (Array.getElem?_eq_some_iff.1 h).1).trans h
set_option maxRecDepth 100000 in
set_option maxHeartbeats 2000000 in
theorem longest_press (s : Txt) (p q : Nat) (L A : Nat → Nat) (w : World) (hs : s.length ≤ 1048576) (hp : p < s.length) (hpl : PlAt w q s L A) (hin : PlInv s p L A) :
    Calls Try.prog 21 #[.pointer (some ⟨q, 0, none⟩), .int .i64 p] w fun e w' => e = .returned (.tuple #[.int .i64 ((best s p).1 : Nat), .int .i64 (lenB (best s p) : Nat)]) ∧ Below w.heap.size w w' := by
  have HP := Lib.hid hpl
  have HC := hpl.text
  have SL := Lib.hid (show (⟨s.toArray⟩ : ByteArray).size = s.length from rfl)
  obtain ⟨lp, hlp⟩ : ∃ lp, lp = s.length - p := ⟨_, rfl⟩
  have W1 : (s.length : Int) - (p : Int) = (lp : Int) := by omega
  obtain ⟨m, hm⟩ : ∃ m, m = min 259 lp := ⟨_, rfl⟩
  have M1 : min (259 : Int) (lp : Int) = (m : Int) := by omega
  have lpb : lp ≤ 1048576 := by omega
  have mb : m ≤ 259 := by omega
  by_cases h4 : p + 4 ≤ s.length
  · have i1 : ¬ (m : Int) < 4 := by omega
    have i2 : (p : Int) + (m : Int) ≤ (s.length : Int) := by omega
    have CL := hpl.cellL (hashS s p) (hashS_lt s p)
    have hc := hashS_lt s p
    have HL := Lib.hid (hin.last (hashS s p) hc)
    have EX := Lib.hid (show (⟨s.toArray⟩ : ByteArray).extract p (p + m) = ⟨((s.drop p).take m).toArray⟩ by rw [slice_toArray, ← List.take_drop])
    have HST := Lib.hid (Goes.start s p)
    rw [← HL.out] at HST
    have hYl : ((s.drop p).take m).length = m := by rw [List.length_take, List.length_drop]; omega
    have HYG := Lib.hid (fun k (hk : k < m) => show ((s.drop p).take m)[k]? = s[p + k]? by rw [List.getElem?_take_of_lt hk, List.getElem?_drop])
    have AK := fun fr w' (h : fr ≤ p) => Lib.hid (alike_press s fr p m w' hs h (by omega) mb)
    have HAK := fun fr => Lib.hid (show alkF s fr p m = alk s fr p from alkF_alk mb (by omega))
    have HIN := Lib.hid hin
    have HM := Lib.hid (show min 259 (s.length - p) = m by omega)
    have hml : p + m ≤ s.length := by omega
    generalize (s.drop p).take m = Y at *
    have SY := Lib.hid (show (⟨Y.toArray⟩ : ByteArray).size = m from hYl)
    have HYL := Lib.hid hYl
    clear hpl hin hlp hYl
    go_enter Try.func21, Try.ntmps21
    go_upto_region 1 with fail
    go_cut [6] (fun v6 wx => v6 = .int .i64 m ∧ w = wx)
    case first =>
      by_cases h : 259 ≤ lp
      · obtain rfl : m = 259 := by omega
        have j1 : (259 : Int) ≤ (lp : Int) := by omega
        clear hm
        go_wp2_with fail
        go_meet
        exact ⟨rfl, rfl⟩
      · obtain rfl : m = lp := by omega
        have j1 : ¬ (259 : Int) ≤ (m : Int) := by omega
        clear hm
        go_wp2_with fail
        go_meet
        exact ⟨rfl, rfl⟩
    case rest =>
      obtain ⟨rfl, rfl⟩ := hcut
      clear hm W1 M1
      go_upto_region 5 with fail
      rw [EX.out]
      clear EX
      go_cut [8] (fun v8 wx => v8 = .int .i64 ((L (hashS s p) : Nat) - 1 : Int) ∧ PlAt wx q s L A ∧ Below w.heap.size w wx)
      case first =>
        as_aux_lemma =>
          obtain ⟨ci, hci⟩ : ∃ ci : Int, ci = ((hashS s p : Nat) : Int) := ⟨_, rfl⟩
          have hcn : ci.toNat = hashS s p := by omega
          have CH := (chain_press s p q L A w.drew hs h4 (show PlAt w.drew q s L A from HP.out)).mono (fun e w' h => show e = .returned (.int .i64 ci) ∧ w' = w.drew from ⟨by rw [hci]; exact h.1, h.2.symm⟩)
          have CL' := show w.drew.cell? ⟨q, 1 + hashS s p, none⟩ = some (.int .i64 ((L (hashS s p) : Nat) : Int)) from CL
          have HPd := Lib.hid (show PlAt w.drew q s L A from HP.out)
          have HKd := Lib.hid (show Below w.heap.size w w.drew from Below_drew (Below.refl _ _))
          clear CL
          have lb : (L (hashS s p) : Int) ≤ 1048576 := by rw [HL.out]; have := lastC_le s (hashS s p) p; omega
          have c1 : ci < 8192 := by omega
          have c0 : (0 : Int) ≤ ci := by omega
          have lb0 : (0 : Int) ≤ (L (hashS s p) : Int) := by omega
          have W5 : IntKind.i64.wrap ((L (hashS s p) : Int) - 1) = (L (hashS s p) : Int) - 1 := by rw [IntKind.wrap_i64]; omega
          generalize ((L (hashS s p) : Nat) : Int) = lc at *
          rw [← hcn] at CL'
          clear hcn hci hc
          refine wp_region_still_lit (by kernel_rfl) (by kernel_rfl) ?_
          change wpStill _ _ w.drew _ _ _
          still_step
          still_step
          still_step
          still_call CH
          still_step
          still_step
          still_step
          still_step
          still_step
          still_step
          refine wpStill_nil ?_
          go_wp2_with fail
          go_meet
          exact ⟨rfl, HPd.out, HKd.out⟩
      case rest =>
        obtain ⟨rfl, hp5, hb5⟩ := hcut
        have HP5 := Lib.hid hp5
        have HB5 := Lib.hid hb5
        clear CL HP HC hp5 hb5
        go_wp2_with fail
        go_loopw [4, 5, 8] (fun vb vn v8 wr => ∃ (x b n : Nat) (ii : Int), vb = .int .i64 b ∧ vn = .int .i64 n ∧ v8 = .int .i64 ii ∧ Hid (ii = (x : Int) - 1) ∧ Hid (Goes s p x b n) ∧ PlAt wr q s L A ∧ Below w.heap.size w wr) (fun _ _ v8 _ => (intOf v8 + 1).toNat)
        case atStart => exact ⟨_, 0, 0, _, rfl, rfl, rfl, Lib.hid rfl, HST, HP5.out, HB5.out⟩
        case round =>
          clear HST HP5 HB5 HL hc
          obtain ⟨x, b, n, ii, rfl, rfl, rfl, HII, HG, hpl, hbel⟩ := hrel
          have HP6 := Lib.hid hpl
          have HB6 := Lib.hid hbel
          have HXL := Lib.hid HG.out.xle
          have hnm : n ≤ m := by have := HG.out.most; have := HM.out; omega
          have hbb : b ≤ 4096 := by
            by_cases h : n = 0
            · rw [HG.out.nb h]; omega
            · exact (HG.out.four h).2.2.1
          clear hbel
          have ib0 : -1 ≤ ii := by have := HII.out; omega
          have ib1 : ii ≤ 1048576 := by have := HII.out; have := HXL.out; omega
          by_cases hx : x = 0
          · have HD := Lib.hid (HG.out.done (.inl hx))
            have HL2 := Lib.hid (lenB_cOf HG.out)
            have j1 : ¬ (0 : Int) ≤ ii := by have := HII.out; omega
            clear hx
            go_wp2_with fail
            go_ret2
            refine ⟨?_, HB6.out⟩
            rw [← HD.out, HL2.out.1, HL2.out.2]
            rfl
          · obtain ⟨fr, hfr⟩ : ∃ fr, x = fr + 1 := ⟨x - 1, by omega⟩
            obtain rfl : ii = (fr : Int) := by have := HII.out; omega
            have hfp : fr < p := by have := HXL.out; omega
            have j1 : (0 : Int) ≤ (fr : Int) := by omega
            obtain ⟨di, hdi⟩ : ∃ di : Int, (p : Int) - (fr : Int) = di := ⟨_, rfl⟩
            have hd0 : 0 ≤ di := by omega
            have hd1 : di ≤ 1048576 := by omega
            by_cases hd : di ≤ 4096
            · by_cases hn : n < m
              · have HN2 := Lib.hid (HG.out.next hx (by omega))
                have HH := Lib.hid (HG.out.xis hx).2
                obtain ⟨x', hx'⟩ : ∃ x', x' = lastC s (hashS s p) fr := ⟨_, rfl⟩
                have hfr4 : fr + 4 ≤ s.length := by have := (HG.out.xis hx).1; omega
                obtain ⟨ri, hri⟩ : ∃ ri : Int, ri = ((fr % 4096 : Nat) : Int) := ⟨_, rfl⟩
                have T1 : Int.tmod (fr : Int) 4096 = ri := by rw [hri]; rfl
                have T2 : (fr : Int) % 4096 = ri := by omega
                have r0 : 0 ≤ ri := by omega
                have r1 : ri < 4096 := by omega
                have HCA := Lib.hid (fun w' (h : PlAt w' q s L A) => show w'.cell? ⟨q, 8193 + ri.toNat, none⟩ = some (.int .i64 (x' : Int)) by
                  rw [show ri.toNat = fr % 4096 by omega, h.cellA (fr % 4096) (by omega), HIN.out.ahead fr hfp hfr4 (by omega), hx']
                  have := HH.out
                  rw [show x - 1 = fr by omega] at this
                  rw [this])
                have hxl := lastC_le s (hashS s p) fr
                have xb : (x' : Int) ≤ 1048576 := by omega
                have xb0 : (0 : Int) ≤ (x' : Int) := by omega
                have HXF := Lib.hid (show x' ≤ fr by omega)
                rw [show x - 1 = fr by omega, ← hx', show ((p - fr : Nat)) = di.toNat by omega] at HN2
                obtain ⟨dn, hdn⟩ : ∃ dn : Nat, di = (dn : Int) := ⟨di.toNat, by omega⟩
                rw [hdn, Int.toNat_natCast] at HN2
                have HDN := Lib.hid hdn
                have j3 : (n : Int) < (m : Int) := by omega
                have j4 : (fr : Int) + (n : Int) < (s.length : Int) := by omega
                have j5 : (0 : Int) ≤ (fr : Int) + (n : Int) := by omega
                have W6 : IntKind.i64.wrap ((fr : Int) + (n : Int)) = (fr : Int) + (n : Int) := by rw [IntKind.wrap_i64]; omega
                have t1 : ((fr : Int) + (n : Int)).toNat = fr + n := by omega
                have n0 : (0 : Int) ≤ (n : Int) := by omega
                have hfn : fr + n < s.length := by omega
                have hyn : n < Y.length := by rw [HYL.out]; exact hn
                have hpn : p + n < s.length := by omega
                have hYs : Y[n] = s[p + n]'hpn := by
                  have := HYG.out n hn
                  rw [List.getElem?_eq_getElem hyn, List.getElem?_eq_getElem hpn] at this
                  exact Option.some.inj this
                clear hri hdn hx' hfr T2 hxl
                have HCA8 := Lib.hid (fun nq => HCA.out (wr.drewN nq) HP6.out)
                by_cases heq : s[fr + n] = Y[n]
                · have q0 : (((((⟨s.toArray⟩ : ByteArray)[fr + n]'hfn).toNat : Nat) : Int) != ((((⟨Y.toArray⟩ : ByteArray)[n]'hyn).toNat : Nat) : Int)) = false := by
                    have e : (⟨s.toArray⟩ : ByteArray)[fr + n]'hfn = (⟨Y.toArray⟩ : ByteArray)[n]'hyn := heq
                    rw [e]; simp
                  have AL := fun w' => AK fr w' (by omega)
                  have HAE := Lib.hid (HAK fr)
                  rw [HAE.out.out] at AL
                  have EXF := Lib.hid (show (⟨s.toArray⟩ : ByteArray).extract fr s.length = ⟨(s.drop fr).toArray⟩ from drop_toArray s fr s.length (Nat.le_refl _))
                  have HALE := Lib.hid (alk_spec s fr p).le
                  generalize alk s fr p = k at *
                  have hk259 := HALE.out
                  clear heq hYs hx HAE
                  have j7 : (fr : Int) ≤ (s.length : Int) := by omega
                  have tx0 := HP6.out.text
                  go_wp2_with fail
                  go_quiet (fail)
                  clear tx0
                  have TX := Lib.hid (show (wr.drewN nq).cell? ⟨q, 0, none⟩ = some (.string ⟨s.toArray⟩) from HP6.out.text)
                  have tx := TX.out
                  have HP9 := Lib.hid (show PlAt (wr.drewN nq) q s L A from HP6.out)
                  have HB9 := Lib.hid (Below_drewN HB6.out nq)
                  clear HCA8 TX
                  generalize wr.drewN nq = w8 at *
                  go_wp2_with fail
                  rw [EXF.out]
                  refine (AL _).out.mono ?_
                  rintro e w9 ⟨rfl, hb9⟩
                  have HP10 := Lib.hid (PlAt.below HP9.out hb9)
                  have HB10 := Lib.hid (HB9.out.trans (hb9.mono HB9.out.size))
                  have CA10 := HCA.out w9 HP10.out
                  clear HP9 HB9 hb9 AL tx HCA EXF
                  by_cases c1 : n < k
                  · have i5 : (n : Int) < (k : Int) := by omega
                    by_cases c2 : 4 ≤ k
                    · have i6 : (4 : Int) ≤ (k : Int) := by omega
                      have HGN := Lib.hid (HN2.out.1 ⟨c1, c2⟩)
                      have HDN2 := HDN.out
                      clear HN2
                      go_wp2_with fail
                      go_roundw
                      case rel => exact ⟨x', dn, k, _, rfl, rfl, rfl, Lib.hid rfl, HGN, HP10.out, HB10.out⟩
                      case measure => have := HXF.out; simp [intOf]; omega
                    · have i6 : ¬ (4 : Int) ≤ (k : Int) := by omega
                      have HGN := Lib.hid (HN2.out.2 (fun h => c2 h.2))
                      clear HN2
                      go_wp2_with fail
                      go_roundw
                      case rel => exact ⟨x', b, n, _, rfl, rfl, rfl, Lib.hid rfl, HGN, HP10.out, HB10.out⟩
                      case measure => have := HXF.out; simp [intOf]; omega
                  · have i5 : ¬ (n : Int) < (k : Int) := by omega
                    have HGN := Lib.hid (HN2.out.2 (fun h => c1 h.1))
                    clear HN2
                    go_wp2_with fail
                    go_roundw
                    case rel => exact ⟨x', b, n, _, rfl, rfl, rfl, Lib.hid rfl, HGN, HP10.out, HB10.out⟩
                    case measure => have := HXF.out; simp [intOf]; omega
                · have q0 : (((((⟨s.toArray⟩ : ByteArray)[fr + n]'hfn).toNat : Nat) : Int) != ((((⟨Y.toArray⟩ : ByteArray)[n]'hyn).toNat : Nat) : Int)) = true := by
                    rw [bne_iff_ne]
                    exact fun e => heq (UInt8.toNat_inj.1 (Int.ofNat_inj.1 e))
                  have HGN := Lib.hid (HN2.out.2 (fun h => by
                    have := (alk_spec s fr p).eq n h.1
                    rw [List.getElem?_eq_getElem hfn, List.getElem?_eq_getElem hpn, ← hYs] at this
                    exact heq (Option.some.inj this)))
                  clear HN2 heq hYs hx
                  have tx0 := HP6.out.text
                  go_wp2_with fail
                  go_quiet (fail)
                  clear tx0
                  have CAx := HCA8.out nq
                  have HP9 := Lib.hid (show PlAt (wr.drewN nq) q s L A from HP6.out)
                  have HB9 := Lib.hid (Below_drewN HB6.out nq)
                  clear HCA8 HCA
                  generalize wr.drewN nq = w8 at *
                  go_wp2_with fail
                  go_roundw
                  case rel => exact ⟨x', b, n, _, rfl, rfl, rfl, Lib.hid rfl, HGN, HP9.out, HB9.out⟩
                  case measure => have := HXF.out; simp [intOf]; omega
              · have HD := Lib.hid (HG.out.done (.inr (.inr ⟨by have := HM.out; omega, by have := HM.out; omega⟩)))
                have HL2 := Lib.hid (lenB_cOf HG.out)
                have j3 : ¬ (n : Int) < (m : Int) := by omega
                clear hx hfr
                go_wp2_with fail
                go_ret2
                refine ⟨?_, HB6.out⟩
                rw [← HD.out, HL2.out.1, HL2.out.2]
                rfl
            · have HD := Lib.hid (HG.out.done (.inr (.inl (by omega))))
              have HL2 := Lib.hid (lenB_cOf HG.out)
              clear hx hfr
              go_wp2_with fail
              go_ret2
              refine ⟨?_, HB6.out⟩
              rw [← HD.out, HL2.out.1, HL2.out.2]
              rfl
  · have HB := Lib.hid (best_short (s := s) (at' := p) (by omega))
    have i1 : (m : Int) < 4 := by omega
    clear hpl hm
    go_enter Try.func21, Try.ntmps21
    go_wp2_with fail
    go_ret2
    rw [HB.out]
    exact ⟨rfl, Below.refl _ _⟩
end Go.Proofs.Ytjlhhnkfedfdnaa

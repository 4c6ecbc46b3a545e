/- KeepHolds: the walk (gen/keeplaws.py). -/
import Derived.Test.YtgejocceegadhaaFrame
import Derived.Test.YtgejocceegadhaaGen
import Derived.Test.YtgejocceegadhaaKeepAftersW
import Derived.Test.YtgejocceegadhaaKeepAwakeW
import Derived.Test.YtgejocceegadhaaKeepHoldMath
import Derived.Test.YtgejocceegadhaaKeepMath
import Derived.Test.YtgejocceegadhaaKeepNeedsW
import Derived.Test.YtgejocceegadhaaLandK4W
import Derived.Test.YtgejocceegadhaaLandK5W
import Derived.Test.YtgejocceegadhaaLandK6W
import Derived.Test.YtgejocceegadhaaLandK7W
import Derived.Test.YtgejocceegadhaaLandKAW
import Derived.Test.YtgejocceegadhaaOwnL
import Derived.Test.YtgejocceegadhaaOwnPut
import Derived.Test.YtgejocceegadhaaRefKeep2W
import Derived.Test.YtgejocceegadhaaRefKeep4W
import Derived.Test.YtgejocceegadhaaRowN
import Derived.Test.YtgejocceegadhaaRows
import Derived.Test.YtgejocceegadhaaShelf
import Derived.BigQuiet
import Derived.BigRegion
import Derived.ChangeAlike
import Derived.Deep.QuietTactic
import Derived.Laws.OwnMore
import Derived.Lib.Hide
import Derived.LoopIn
import Derived.LoopNIn
import Derived.Maps.OwnIn
import Derived.Maps.OwnOps
import Derived.Maps.OwnSet
import Derived.Maps.RangeWalk
import Derived.Outline
import Derived.OwnWalkIn
import Derived.RangeFuncBound
import Derived.RangeFuncCalls
import Derived.RangeFuncLeaves
import Derived.RangeFuncNested
import Derived.RegionTactic
import Derived.Shelf.Abstract
import Derived.Shelf.RegionOpen
import Derived.TacticsInMore
import Derived.WalkKit
import Derived.WalkLawsBesides
import Derived.WalkSpells
set_option linter.unusedVariables false
namespace Go.Proofs.Ytgejocceegadhaa
open Go.RowKit

theorem afterG_ok {l : List GenD} {wt wh : List Int} (hl : ∀ x ∈ l, GenOk x) (hv : ∀ v ∈ wh, -9223372036854775808 ≤ v ∧ v ≤ 9223372036854775807) : ∀ x ∈ afterG l wt wh, GenOk x := by
  intro x hx
  unfold afterG at hx
  split at hx
  · simp at hx
  · unfold afterL at hx
    obtain ⟨y, hy, rfl⟩ := List.mem_map.1 hx
    have hk := hl y (List.mem_filter.1 hy).1
    unfold afterX
    cases k : wholeAt (needL l wt) wh y.gen with
    | some v => exact ⟨hk.g, hk.g, hv v (wholeAt_mem k).1, hk.m⟩
    | none => exact hk
theorem make_intsN (w : World) (base n : Nat) (N : Int) (hN : N = n) (hn : n ≤ 1000000) (hbase : base ≤ w.heap.size) :
    ∃ g w', (Instr.makeSlice 34 (.int .i64 N) (.int .i64 N)).run Try.prog w = .ok (.slice (some ⟨g, 0, none⟩) n n) w' ∧ OwnN encI1 1 w' base 3 (.slice (some ⟨g, 0, none⟩) n n) (List.replicate n 0) ∧ Below base w w' := by
  subst hN
  obtain ⟨i0, hi, hz0, hz1, hz2⟩ := info_parts info_int12
  obtain ⟨w', hr, hown, hg⟩ := run_make_full (P := Try.prog) w base 34 3 i0 (.int .i64 0) 1 Try.underlying34 hi hz0 hz1 .i64 .i64 n (by rw [hz2]; omega) (by unfold maxLen; omega) hbase
  refine ⟨_, w', hr, ?_, (Below.refl base w).grown hg hbase (fun k hk => by cases hk)⟩
  unfold OwnN
  rw [List.length_replicate]
  have e1 : (madeCells (Value.int .i64 0).cells (n * 1)).toList = List.replicate n (Value.int .i64 0) := by
    rw [Nat.mul_one]; exact toList_madeCells_one _ _
  have e2 : ∀ n, flatN encI1 (List.replicate n 0) = List.replicate n (Value.int .i64 0) := by
    intro n
    induction n with
    | zero => rfl
    | succ n ih => rw [List.replicate_succ, flatN_cons, ih, List.replicate_succ]; rfl
  rw [e1] at hown
  rw [e2]
  exact hown
theorem OwnN.setI {w : World} {base g n c i : Nat} {xs : List Int} {e : TypeId} {v : Int} (h : OwnN encI1 1 w base e (.slice (some ⟨g, 0, none⟩) n c) xs) (hi : i < xs.length) :
    w.cell? ⟨g, i, none⟩ = some (.int .i64 xs[i]) ∧ w.frozen? ⟨g, i, none⟩ = false ∧ OwnN encI1 1 (w.setCell ⟨g, i, none⟩ (.int .i64 v)) base e (.slice (some ⟨g, 0, none⟩) n c) (xs.set i v) ∧ Kept (· = g) w (w.setCell ⟨g, i, none⟩ (.int .i64 v)) := by
  obtain ⟨h1, h2⟩ := OwnN.putB encI1_ok h i 0 (.int .i64 v) v hi (by decide) rfl
  rw [Nat.mul_one, Nat.add_zero] at h1 h2
  obtain ⟨g', c', hv, _, _, _, hel, hfz⟩ := OwnN.atB encI1_ok h (fun e => by rw [e] at hi; exact absurd hi (by simp))
  injection hv with ea eb ec
  injection ea with ea
  injection ea with ea1 ea2
  subst ea1
  have := hel i hi 0 _ rfl
  rw [Nat.mul_one, Nat.add_zero] at this
  exact ⟨this, hfz i, h1, h2⟩
theorem fill_step (b : Int) {i n : Nat} (h : i < n) : (List.replicate i b ++ List.replicate (n - i) 0).set i b = List.replicate (i + 1) b ++ List.replicate (n - (i + 1)) 0 := by
  rw [List.set_append_right _ _ (by simp), List.length_replicate, Nat.sub_self, show n - i = (n - (i + 1)) + 1 by omega, List.replicate_succ, List.set_cons_zero, List.replicate_succ', List.append_assoc]
  rfl
set_option maxRecDepth 100000 in
set_option maxHeartbeats 4000000 in
theorem keepHolds_walk (v : Value) (l : List GenD) (u : Value) (wt : List Int) (by' : Int) (by1 : -9223372036854775808 ≤ by') (by2 : by' ≤ 9223372036854775807) (w : World) (hrow : RowN encGn 4 (· < w.heap.size) w v l) (hl : l.length ≤ 140737488351232) (hok : ∀ x ∈ l, GenOk x)
    (hu : RowN encI1 1 (· < w.heap.size) w u wt) (hul : wt.length ≤ 140737488351232) (huo : ∀ x ∈ wt, -9223372036854775808 ≤ x ∧ x ≤ 9223372036854775807) :
    Calls Try.prog 9 #[v, u, .int .i64 by'] w fun e w' => e = .returned (.bool true) ∧ Below w.heap.size w w' := by
  have HR := Lib.hid hrow
  have Hu := Lib.hid hu
  have HOK := Lib.hid hok
  obtain ⟨va, vc, hv, hvc⟩ := hrow.slice
  subst hv
  obtain ⟨ua, uc, hv, huc⟩ := hu.slice
  subst hv
  have FW := Lib.hid (few12_any _ l w HR.out hl)
  have HUO := Lib.hid huo
  clear hrow hu hok huo
  go_enter Try.func9, Try.ntmps9
  go_wp2_with fail
  refine FW.out.mono ?_
  rintro e w1 ⟨v1, rfl, hr1, rfl⟩
  have HOK1 := Lib.hid (fun x (hx : x ∈ l.take 60) => HOK.out x (List.mem_of_mem_take hx))
  obtain ⟨l1, hl1⟩ : ∃ l1, l1 = l.take 60 := ⟨_, rfl⟩
  rw [← hl1] at HOK1 hr1
  have hl60 : l1.length ≤ 60 := by rw [hl1, List.length_take]; omega
  have HR1 := Lib.hid hr1
  clear hl1
  obtain ⟨va1, vc1, hv, _⟩ := hr1.slice
  subst hv
  clear hr1 FW HR
  by_cases hcu : 60 < wt.length
  · have h1u : (60 : Int) < (wt.length : Int) := by omega
    have h2u : (60 : Int) ≤ (uc : Int) := by omega
    have Hu1 := Lib.hid (Hu.out.take 60 (by omega))
    clear hcu
    obtain ⟨wt1, hwt1⟩ : ∃ wt1, wt1 = wt.take 60 := ⟨_, rfl⟩
    rw [← hwt1] at Hu1
    have hw1 : wt1.length ≤ 60 := by rw [hwt1, List.length_take]; omega
    have HUO1 := Lib.hid (fun x (hx : x ∈ wt1) => HUO.out x (List.mem_of_mem_take (by rw [← hwt1]; exact hx)))
    clear hwt1
    have Eb := Lib.hid (show (60 : Int) = (wt1.length : Int) by obtain ⟨_, _, hv, _⟩ := Hu1.out.slice; injection hv with _ eb _; omega)
    go_wp2_with fail
    have ND := Lib.hid (keepNeed_any _ _ l1 wt1 _ HR1.out (by omega) HOK1.out Hu1.out (by omega) HUO1.out)
    refine ND.out.mono ?_
    rintro e w2 ⟨v2, rfl, ho2, hb2⟩
    have HO2 := Lib.hid (OwnN.row encI1_ok ho2)
    obtain ⟨va2, vc2, hv2, _⟩ := HO2.out.slice
    subst hv2
    have HB2 := Lib.hid hb2
    have HRa := Lib.hid (HR1.out.keep hb2)
    have Hua := Lib.hid (Hu1.out.keep hb2)
    clear ND ho2 hb2
    by_cases hne : needE l1 wt1 = 0
    case neg =>
      have q1 : (needE l1 wt1 != 0) = true := by simp [hne]
      go_wp2_with fail
      refine (awake12_any _).mono ?_
      rintro e w5 ⟨rfl, hb5⟩
      have HB5 := Lib.hid (HB2.out.trans (hb5.mono HB2.out.size))
      go_wp2_with fail
      go_ret
      exact ⟨rfl, HB5.out⟩
    rw [hne]
    by_cases hb0 : by' < 0
    · go_wp2_with fail
      refine (awake12_any _).mono ?_
      rintro e w5 ⟨rfl, hb5⟩
      have HB5 := Lib.hid (HB2.out.trans (hb5.mono HB2.out.size))
      go_wp2_with fail
      go_ret
      exact ⟨rfl, HB5.out⟩
    by_cases hb1 : 524288 < by'
    · go_wp2_with fail
      refine (awake12_any _).mono ?_
      rintro e w5 ⟨rfl, hb5⟩
      have HB5 := Lib.hid (HB2.out.trans (hb5.mono HB2.out.size))
      go_wp2_with fail
      go_ret
      exact ⟨rfl, HB5.out⟩
    have HKH := Lib.hid (keep_holds hne (n := by') ⟨by omega, by omega⟩)
    have hgl := needG_len l1 wt1
    obtain ⟨ng, hng⟩ : ∃ ng, ng = (needG l1 wt1).length := ⟨_, rfl⟩
    rw [← hng] at HKH hgl ⊢
    clear hng HO2
    obtain ⟨g3, w3, hr, ho3, hb3⟩ := make_intsN w2 w2.heap.size ng (ng : Int) rfl (by omega) (Nat.le_refl _)
    have HO3 := Lib.hid ho3
    have HB23 := Lib.hid hb3
    have hs23 := hb3.size
    clear ho3 hb3
    go_wp2_with fail
    clear hr
    go_loopw [10] (fun v10 wr => ∃ i : Nat, i ≤ ng ∧ v10 = .int .i64 (i : Nat) ∧ OwnN encI1 1 wr w2.heap.size 3 (.slice (some ⟨g3, 0, none⟩) ng ng) (List.replicate i by' ++ List.replicate (ng - i) 0) ∧ Below w2.heap.size w3 wr) (fun v10 _ => ng - (intOf v10).toNat)
    case atStart => exact ⟨0, Nat.zero_le _, rfl, HO3.out, Below.refl _ _⟩
    case round =>
      clear HO3
      obtain ⟨i, hi, rfl, hown, hb⟩ := hrel
      have HO := Lib.hid hown
      have HB := Lib.hid hb
      clear hown hb
      have i0 : (0 : Int) ≤ (i : Int) := by omega
      by_cases hlt : i < ng
      · have j1 : (i : Int) < (ng : Int) := by omega
        obtain ⟨s1, s2, s3, s4⟩ := HO.out.setI (i := i) (v := by') (by simp; omega)
        have HS3 := Lib.hid s3
        have HS4 := Lib.hid s4
        have HEQ := Lib.hid (fill_step by' hlt)
        clear s3 s4
        go_wp2_with fail
        go_roundw
        case rel => exact ⟨i + 1, by omega, by go_num, by rw [← HEQ.out]; exact HS3.out, HB.out.trans (HS4.out.below (Nat.le_trans hs23 HB.out.size) (fun k e => by rw [e]; exact (HO.out.lt (g := g3) rfl).1))⟩
        case measure => simp [intOf]; omega
      · have j1 : ¬ (i : Int) < (ng : Int) := by omega
        have hin : i = ng := by omega
        subst hin
        have HO' := Lib.hid (show OwnN encI1 1 wr w2.heap.size 3 (.slice (some ⟨g3, 0, none⟩) i i) (List.replicate i by') by have := HO.out; rwa [Nat.sub_self, List.replicate_zero, List.append_nil] at this)
        clear HO
        have HBQ := Lib.hid (HB23.out.trans HB.out)
        have HB4 := Lib.hid (HB2.out.trans (HBQ.out.mono HB2.out.size))
        have HRc := Lib.hid (HRa.out.keep HBQ.out)
        have Huc := Lib.hid (Hua.out.keep HBQ.out)
        have HZ := Lib.hid (OwnN.row encI1_ok HO'.out)
        have AF := Lib.hid (keepAfter_any _ _ _ l1 wt1 (List.replicate i by') _ HRc.out (by omega) HOK1.out Huc.out (by omega) HUO1.out HZ.out (by simp; omega))
        have HAG := Lib.hid (afterG_ok (l := l1) (wt := wt1) (wh := List.replicate i by') HOK1.out (fun v hv => by rw [(List.mem_replicate.1 hv).2]; omega))
        have hagl := afterG_len l1 wt1 (List.replicate i by')
        rw [HKH.out.1] at AF
        have HK2 := Lib.hid HKH.out.2
        clear HB HB23 HB2 HRa Hua HO' HZ HKH HBQ
        generalize afterG l1 wt1 (List.replicate i by') = ag at *
        go_wp2_with fail
        refine AF.out.mono ?_
        rintro e w5 ⟨v5, rfl, ho5, hb5⟩
        have HO5 := Lib.hid (OwnN.row encGn_ok ho5)
        obtain ⟨va5, vc5, hv5, _⟩ := HO5.out.slice
        subst hv5
        have HB5 := Lib.hid (HB4.out.trans (hb5.mono HB4.out.size))
        have HRd := Lib.hid (HRc.out.keep hb5)
        have Hud := Lib.hid (Huc.out.keep hb5)
        clear AF ho5 hb5 HB4 HRc Huc
        have CK := Lib.hid (keepCheck_any _ ag _ HO5.out (by omega) HAG.out)
        rw [HK2.out.1] at CK
        go_wp2_with fail
        refine CK.out.mono ?_
        rintro e w6 ⟨rfl, hb6⟩
        have HB6 := Lib.hid (HB5.out.trans (hb6.mono HB5.out.size))
        have HRe := Lib.hid (HRd.out.keep hb6)
        have Hue := Lib.hid (Hud.out.keep hb6)
        have HO6 := Lib.hid (HO5.out.keep hb6)
        clear CK hb6 HB5 HRd Hud HO5
        go_wp2_with fail
        go_loopw [13] (fun v13 wr => ∃ k : Nat, k ≤ wt1.length ∧ v13 = .int .i64 (k : Nat) ∧ Below w6.heap.size w6 wr) (fun v13 _ => wt1.length - (intOf v13).toNat)
        case atStart => exact ⟨0, Nat.zero_le _, rfl, Below.refl _ _⟩
        case round =>
          obtain ⟨k, hk, rfl, hb⟩ := hrel
          have HB := Lib.hid hb
          clear hb
          have k0 : (0 : Int) ≤ (k : Int) := by omega
          by_cases hlt2 : k < wt1.length
          · have j3 : (k : Int) < (60 : Int) := by have := Eb.out; omega
            obtain ⟨b, o, c', hv, _, hel⟩ := (Hue.out.keep HB.out).at hlt2
            injection hv with ea eb2 ec
            subst ea; subst ec
            clear eb2
            have HG := Lib.hid (HK2.out.2 _ (List.getElem_mem hlt2))
            generalize wt1[k] = g at *
            have d4 : wr.cell? ⟨b, o + k * 1 + 0, none⟩ = some (.int .i64 g) := hel 0 _ rfl
            rw [Nat.mul_one, Nat.add_zero] at d4
            have R1 := Lib.hid (keepRoad_any _ ag g wr (HO6.out.keep HB.out) (by omega) HAG.out)
            rw [HG.out.1] at R1
            clear hel
            go_wp2_with fail
            refine R1.out.mono ?_
            rintro e w7 ⟨v7, rfl, ho7, hb7⟩
            obtain ⟨va7, vc7, hv7, _⟩ := (OwnN.row encI1_ok ho7).slice
            subst hv7
            have HB7 := Lib.hid (HB.out.trans (hb7.mono HB.out.size))
            have d5 := (hb7.cell (p := ⟨b, o + k, none⟩) (World.block_lt_of_cell? wr _ d4)).trans d4
            have R2 := Lib.hid (keepRoad_any _ l1 g w7 (HRe.out.keep HB7.out) (by omega) HOK1.out)
            rw [HG.out.2.1] at R2
            clear hb7 ho7 HB R1 d4
            go_wp2_with fail
            refine R2.out.mono ?_
            rintro e w8 ⟨v8, rfl, ho8, hb8⟩
            obtain ⟨va8, vc8, hv8, _⟩ := (OwnN.row encI1_ok ho8).slice
            subst hv8
            have HB8 := Lib.hid (HB7.out.trans (hb8.mono HB7.out.size))
            have hg2 := HG.out.2.2
            have j5 : ¬ ((roadG l1 g).length : Int) < ((roadG ag g).length : Int) := by omega
            clear hb8 ho8 HB7 R2 d5
            go_wp2_with fail
            go_roundw
            case rel => exact ⟨k + 1, by omega, by go_num, HB8.out⟩
            case measure => simp [intOf]; omega
          · have j3 : ¬ (k : Int) < (60 : Int) := by have := Eb.out; omega
            go_wp2_with fail
            refine (awake12_any _).mono ?_
            rintro e w7 ⟨rfl, hb7⟩
            have HB7 := Lib.hid (HB6.out.trans ((HB.out.trans (hb7.mono HB.out.size)).mono HB6.out.size))
            go_wp2_with fail
            go_ret
            exact ⟨rfl, HB7.out⟩
  · have h1u : ¬ (60 : Int) < (wt.length : Int) := by omega
    have Hu1 := Lib.hid (show RowN encI1 1 _ _ (.slice ua wt.length uc) (wt.take 60) by rw [List.take_of_length_le (by omega)]; exact Hu.out)
    clear hcu
    obtain ⟨wt1, hwt1⟩ : ∃ wt1, wt1 = wt.take 60 := ⟨_, rfl⟩
    rw [← hwt1] at Hu1
    have hw1 : wt1.length ≤ 60 := by rw [hwt1, List.length_take]; omega
    have HUO1 := Lib.hid (fun x (hx : x ∈ wt1) => HUO.out x (List.mem_of_mem_take (by rw [← hwt1]; exact hx)))
    clear hwt1
    have Eb := Lib.hid (show (wt.length : Int) = (wt1.length : Int) by obtain ⟨_, _, hv, _⟩ := Hu1.out.slice; injection hv with _ eb _; omega)
    go_wp2_with fail
    have ND := Lib.hid (keepNeed_any _ _ l1 wt1 _ HR1.out (by omega) HOK1.out Hu1.out (by omega) HUO1.out)
    refine ND.out.mono ?_
    rintro e w2 ⟨v2, rfl, ho2, hb2⟩
    have HO2 := Lib.hid (OwnN.row encI1_ok ho2)
    obtain ⟨va2, vc2, hv2, _⟩ := HO2.out.slice
    subst hv2
    have HB2 := Lib.hid hb2
    have HRa := Lib.hid (HR1.out.keep hb2)
    have Hua := Lib.hid (Hu1.out.keep hb2)
    clear ND ho2 hb2
    by_cases hne : needE l1 wt1 = 0
    case neg =>
      have q1 : (needE l1 wt1 != 0) = true := by simp [hne]
      go_wp2_with fail
      refine (awake12_any _).mono ?_
      rintro e w5 ⟨rfl, hb5⟩
      have HB5 := Lib.hid (HB2.out.trans (hb5.mono HB2.out.size))
      go_wp2_with fail
      go_ret
      exact ⟨rfl, HB5.out⟩
    rw [hne]
    by_cases hb0 : by' < 0
    · go_wp2_with fail
      refine (awake12_any _).mono ?_
      rintro e w5 ⟨rfl, hb5⟩
      have HB5 := Lib.hid (HB2.out.trans (hb5.mono HB2.out.size))
      go_wp2_with fail
      go_ret
      exact ⟨rfl, HB5.out⟩
    by_cases hb1 : 524288 < by'
    · go_wp2_with fail
      refine (awake12_any _).mono ?_
      rintro e w5 ⟨rfl, hb5⟩
      have HB5 := Lib.hid (HB2.out.trans (hb5.mono HB2.out.size))
      go_wp2_with fail
      go_ret
      exact ⟨rfl, HB5.out⟩
    have HKH := Lib.hid (keep_holds hne (n := by') ⟨by omega, by omega⟩)
    have hgl := needG_len l1 wt1
    obtain ⟨ng, hng⟩ : ∃ ng, ng = (needG l1 wt1).length := ⟨_, rfl⟩
    rw [← hng] at HKH hgl ⊢
    clear hng HO2
    obtain ⟨g3, w3, hr, ho3, hb3⟩ := make_intsN w2 w2.heap.size ng (ng : Int) rfl (by omega) (Nat.le_refl _)
    have HO3 := Lib.hid ho3
    have HB23 := Lib.hid hb3
    have hs23 := hb3.size
    clear ho3 hb3
    go_wp2_with fail
    clear hr
    go_loopw [10] (fun v10 wr => ∃ i : Nat, i ≤ ng ∧ v10 = .int .i64 (i : Nat) ∧ OwnN encI1 1 wr w2.heap.size 3 (.slice (some ⟨g3, 0, none⟩) ng ng) (List.replicate i by' ++ List.replicate (ng - i) 0) ∧ Below w2.heap.size w3 wr) (fun v10 _ => ng - (intOf v10).toNat)
    case atStart => exact ⟨0, Nat.zero_le _, rfl, HO3.out, Below.refl _ _⟩
    case round =>
      clear HO3
      obtain ⟨i, hi, rfl, hown, hb⟩ := hrel
      have HO := Lib.hid hown
      have HB := Lib.hid hb
      clear hown hb
      have i0 : (0 : Int) ≤ (i : Int) := by omega
      by_cases hlt : i < ng
      · have j1 : (i : Int) < (ng : Int) := by omega
        obtain ⟨s1, s2, s3, s4⟩ := HO.out.setI (i := i) (v := by') (by simp; omega)
        have HS3 := Lib.hid s3
        have HS4 := Lib.hid s4
        have HEQ := Lib.hid (fill_step by' hlt)
        clear s3 s4
        go_wp2_with fail
        go_roundw
        case rel => exact ⟨i + 1, by omega, by go_num, by rw [← HEQ.out]; exact HS3.out, HB.out.trans (HS4.out.below (Nat.le_trans hs23 HB.out.size) (fun k e => by rw [e]; exact (HO.out.lt (g := g3) rfl).1))⟩
        case measure => simp [intOf]; omega
      · have j1 : ¬ (i : Int) < (ng : Int) := by omega
        have hin : i = ng := by omega
        subst hin
        have HO' := Lib.hid (show OwnN encI1 1 wr w2.heap.size 3 (.slice (some ⟨g3, 0, none⟩) i i) (List.replicate i by') by have := HO.out; rwa [Nat.sub_self, List.replicate_zero, List.append_nil] at this)
        clear HO
        have HBQ := Lib.hid (HB23.out.trans HB.out)
        have HB4 := Lib.hid (HB2.out.trans (HBQ.out.mono HB2.out.size))
        have HRc := Lib.hid (HRa.out.keep HBQ.out)
        have Huc := Lib.hid (Hua.out.keep HBQ.out)
        have HZ := Lib.hid (OwnN.row encI1_ok HO'.out)
        have AF := Lib.hid (keepAfter_any _ _ _ l1 wt1 (List.replicate i by') _ HRc.out (by omega) HOK1.out Huc.out (by omega) HUO1.out HZ.out (by simp; omega))
        have HAG := Lib.hid (afterG_ok (l := l1) (wt := wt1) (wh := List.replicate i by') HOK1.out (fun v hv => by rw [(List.mem_replicate.1 hv).2]; omega))
        have hagl := afterG_len l1 wt1 (List.replicate i by')
        rw [HKH.out.1] at AF
        have HK2 := Lib.hid HKH.out.2
        clear HB HB23 HB2 HRa Hua HO' HZ HKH HBQ
        generalize afterG l1 wt1 (List.replicate i by') = ag at *
        go_wp2_with fail
        refine AF.out.mono ?_
        rintro e w5 ⟨v5, rfl, ho5, hb5⟩
        have HO5 := Lib.hid (OwnN.row encGn_ok ho5)
        obtain ⟨va5, vc5, hv5, _⟩ := HO5.out.slice
        subst hv5
        have HB5 := Lib.hid (HB4.out.trans (hb5.mono HB4.out.size))
        have HRd := Lib.hid (HRc.out.keep hb5)
        have Hud := Lib.hid (Huc.out.keep hb5)
        clear AF ho5 hb5 HB4 HRc Huc
        have CK := Lib.hid (keepCheck_any _ ag _ HO5.out (by omega) HAG.out)
        rw [HK2.out.1] at CK
        go_wp2_with fail
        refine CK.out.mono ?_
        rintro e w6 ⟨rfl, hb6⟩
        have HB6 := Lib.hid (HB5.out.trans (hb6.mono HB5.out.size))
        have HRe := Lib.hid (HRd.out.keep hb6)
        have Hue := Lib.hid (Hud.out.keep hb6)
        have HO6 := Lib.hid (HO5.out.keep hb6)
        clear CK hb6 HB5 HRd Hud HO5
        go_wp2_with fail
        go_loopw [13] (fun v13 wr => ∃ k : Nat, k ≤ wt1.length ∧ v13 = .int .i64 (k : Nat) ∧ Below w6.heap.size w6 wr) (fun v13 _ => wt1.length - (intOf v13).toNat)
        case atStart => exact ⟨0, Nat.zero_le _, rfl, Below.refl _ _⟩
        case round =>
          obtain ⟨k, hk, rfl, hb⟩ := hrel
          have HB := Lib.hid hb
          clear hb
          have k0 : (0 : Int) ≤ (k : Int) := by omega
          by_cases hlt2 : k < wt1.length
          · have j3 : (k : Int) < (wt.length : Int) := by have := Eb.out; omega
            obtain ⟨b, o, c', hv, _, hel⟩ := (Hue.out.keep HB.out).at hlt2
            injection hv with ea eb2 ec
            subst ea; subst ec
            clear eb2
            have HG := Lib.hid (HK2.out.2 _ (List.getElem_mem hlt2))
            generalize wt1[k] = g at *
            have d4 : wr.cell? ⟨b, o + k * 1 + 0, none⟩ = some (.int .i64 g) := hel 0 _ rfl
            rw [Nat.mul_one, Nat.add_zero] at d4
            have R1 := Lib.hid (keepRoad_any _ ag g wr (HO6.out.keep HB.out) (by omega) HAG.out)
            rw [HG.out.1] at R1
            clear hel
            go_wp2_with fail
            refine R1.out.mono ?_
            rintro e w7 ⟨v7, rfl, ho7, hb7⟩
            obtain ⟨va7, vc7, hv7, _⟩ := (OwnN.row encI1_ok ho7).slice
            subst hv7
            have HB7 := Lib.hid (HB.out.trans (hb7.mono HB.out.size))
            have d5 := (hb7.cell (p := ⟨b, o + k, none⟩) (World.block_lt_of_cell? wr _ d4)).trans d4
            have R2 := Lib.hid (keepRoad_any _ l1 g w7 (HRe.out.keep HB7.out) (by omega) HOK1.out)
            rw [HG.out.2.1] at R2
            clear hb7 ho7 HB R1 d4
            go_wp2_with fail
            refine R2.out.mono ?_
            rintro e w8 ⟨v8, rfl, ho8, hb8⟩
            obtain ⟨va8, vc8, hv8, _⟩ := (OwnN.row encI1_ok ho8).slice
            subst hv8
            have HB8 := Lib.hid (HB7.out.trans (hb8.mono HB7.out.size))
            have hg2 := HG.out.2.2
            have j5 : ¬ ((roadG l1 g).length : Int) < ((roadG ag g).length : Int) := by omega
            clear hb8 ho8 HB7 R2 d5
            go_wp2_with fail
            go_roundw
            case rel => exact ⟨k + 1, by omega, by go_num, HB8.out⟩
            case measure => simp [intOf]; omega
          · have j3 : ¬ (k : Int) < (wt.length : Int) := by have := Eb.out; omega
            go_wp2_with fail
            refine (awake12_any _).mono ?_
            rintro e w7 ⟨rfl, hb7⟩
            have HB7 := Lib.hid (HB6.out.trans ((HB.out.trans (hb7.mono HB.out.size)).mono HB6.out.size))
            go_wp2_with fail
            go_ret
            exact ⟨rfl, HB7.out⟩
end Go.Proofs.Ytgejocceegadhaa

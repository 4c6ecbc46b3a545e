/- Landed keep: what is wanted, as it is. -/
import Derived.Test.YtgejocceegadhaaFrame
import Derived.Test.YtgejocceegadhaaGen
import Derived.Test.YtgejocceegadhaaKeepHoldMath
import Derived.Test.YtgejocceegadhaaKeepMath
import Derived.Test.YtgejocceegadhaaLandK3W
import Derived.Test.YtgejocceegadhaaLandKMath
import Derived.Test.YtgejocceegadhaaOwnL
import Derived.Test.YtgejocceegadhaaRefKeep2W
import Derived.Test.YtgejocceegadhaaRefKeep6W
import Derived.Test.YtgejocceegadhaaRowN
import Derived.Test.YtgejocceegadhaaRows
import Derived.Test.YtgejocceegadhaaShelf
import Derived.BigQuiet
import Derived.Deep.QuietTactic
import Derived.Deep.RegionHeld3
import Derived.Lib.Hide
import Derived.Outline
import Derived.WalkKit
import Derived.WalkLawsBesides
import Derived.WalkSpells
set_option linter.unusedVariables false
namespace Go.Proofs.Ytgejocceegadhaa
open Go.RowKit

/-- The set of the numbers that were asked for. -/
structure SetIs (D : DataW Unit) (ws : List Int) : Prop where
  tidy : Maps.Tidy D
  has : ∀ g : Int, Maps.has D (.int .i64 g) = decide (g ∈ ws)
theorem SetIs.start : SetIs (.map []) [] := ⟨Maps.tidy_empty, fun m => by simp [Maps.has]⟩
theorem SetIs.put {D : DataW Unit} {ws : List Int} (h : SetIs D ws) (x : Int) (d : DataW Unit) : SetIs (D.put (.int .i64 x) d) (ws ++ [x]) := by
  have hk : WideAt.IsKeyLit (.int .i64 x) := trivial
  refine ⟨h.tidy.put hk _, fun g => ?_⟩
  by_cases e : g = x
  · subst e
    rw [Maps.has_put_same h.tidy.isMap hk]
    exact (decide_eq_true (by simp)).symm
  · rw [Maps.has_put_other (fun e' => e (by injection e')), h.has]
    simp [e]
def SetAt (w : World) (b n : Nat) (ws : List Int) : Prop := ∃ D, w.ownsMap Try.prog 3 (unitElem (H := Unit)) b n D ∧ SetIs D ws
theorem SetAt.new {w w' : World} {b n : Nat} {ws : List Int} (h : SetAt w b n ws) (hb : Below w.heap.size w w') : SetAt w' b n ws := by
  obtain ⟨D, ⟨es, cl, hm, rest⟩, hd⟩ := h
  exact ⟨D, ⟨es, cl, (hb.block b (Array.getElem?_eq_some_iff.1 hm).1).trans hm, rest⟩, hd⟩
theorem zeroU (w : World) : (zeroValue 65).run Try.prog w = .ok (.agg #[]) w := by kernel_rfl
theorem SetAt.look {w : World} {b n : Nat} {ws : List Int} (h : SetAt w b n ws) {g : Int} (hg : -9223372036854775808 ≤ g ∧ g ≤ 9223372036854775807) :
    (Instr.lookup 64 (.map (some b)) (.int .i64 g) true).run Try.prog w = .ok (.tuple #[.agg #[], .bool (decide (g ∈ ws))]) w := by
  obtain ⟨D, hown, hd⟩ := h
  obtain ⟨v, ps, hrun, hv⟩ := hown.look_ok intLaw Try.underlying64 (zeroU _) unitElem_mk (keyI hg)
  obtain ⟨rfl, _⟩ := unitElem_inv hv
  rw [hd.has g] at hrun
  exact hrun
theorem DepAt.grown {w w' : World} {b n : Nat} {l : List GenD} (h : DepAt w b n l) {row : Option Nat} (hg : w.grownBy w' row) (hne : some b ≠ row) : DepAt w' b n l := by
  obtain ⟨D, hown, hd⟩ := h
  exact ⟨D, hown.kept hg hne, hd⟩
def stayX (l : List GenD) (wt : List Int) : List GenD := if needE l wt ≠ 0 then [] else stayG l wt
set_option maxRecDepth 100000 in
set_option maxHeartbeats 4000000 in
theorem staying_any (v u : Value) (l : List GenD) (wt : List Int) (w : World) {N M : Nat → Prop} (hrow : RowN encGn 4 N w v l) (hl : l.length ≤ 140737488351232) (hok : ∀ x ∈ l, GenOk x) (hwt : RowN encI1 1 M w u wt) (hwl : wt.length ≤ 140737488351232) (hwi : ∀ x ∈ wt, -9223372036854775808 ≤ x ∧ x ≤ 9223372036854775807) :
    Calls Try.prog 33 #[v, u] w fun e w' => ∃ v', e = .returned (.tuple #[v', .int .i64 (needE l wt)]) ∧ OwnN encGn 4 w' w.heap.size 38 v' (stayX l wt) ∧ Below w.heap.size w w' := by
  have HR := Lib.hid hrow
  have HW := Lib.hid hwt
  have HWI := Lib.hid hwi
  have HOK := Lib.hid hok
  have DP := Lib.hid (depths_any v l w hrow hl hok)
  obtain ⟨va, vc, hv, hvc⟩ := hrow.slice
  subst hv
  obtain ⟨ua, uc, hu, _⟩ := hwt.slice
  subst hu
  clear hrow hwt hwi hok
  have HNE := Lib.hid (show needE l wt = if checkG l ≠ 0 then checkG l else if ∀ g ∈ wt, atN l g < l.length then 0 else 8 from rfl)
  have hmm := @run_makeMap Try.prog
  go_enter Try.func33, Try.ntmps33
  go_wp2_with fail
  refine DP.out.mono ?_
  rintro e w1 ⟨hb1, ⟨hc, rfl⟩ | ⟨hc, rfl, hd⟩⟩
  · have HB1 := Lib.hid hb1
    have HE := Lib.hid (HNE.out.trans (if_pos hc))
    have HG := Lib.hid (show stayX l wt = [] by unfold stayX; rw [if_pos (by rw [HE.out]; exact hc)])
    have q1 : (checkG l != 0) = true := by simp [hc]
    clear hb1 DP hmm HNE
    generalize checkG l = ce at *
    clear hc
    go_wp2_with fail
    go_ret2
    exact ⟨_, by rw [HE.out]; rfl, by rw [HG.out]; exact OwnN.nil _ _ _ _ _, HB1.out⟩
  · have hlen := (checkG_wf hc).2
    have HNE1 := Lib.hid (HNE.out.trans (if_neg (by rw [hc]; simp)))
    have hbM : Below w1.heap.size w1 (w1.alloc (.map #[] 0)) := (Below.refl _ w1).alloc (Nat.le_refl _) _
    have HSM := Lib.hid (show SetAt (w1.alloc (.map #[] 0)) w1.heap.size 0 [] from ⟨_, World.ownsMap_made _ _ _ _, SetIs.start⟩)
    have HDM := Lib.hid (hd.new hbM)
    have HBM := Lib.hid (hb1.trans (hbM.mono hb1.size))
    have hw1 : w.heap.size < w1.heap.size := by
      obtain ⟨D, ⟨es, cl, hm, _⟩, _⟩ := hd
      exact (Array.getElem?_eq_some_iff.1 hm).1
    clear hc hb1 hd hbM DP HNE
    go_wp2_with fail
    generalize w1.alloc (.map #[] 0) = wM at *
    obtain ⟨mb, hmb⟩ : ∃ mb, mb = w1.heap.size := ⟨_, rfl⟩
    rw [← hmb] at HSM hw1 ⊢
    clear hmb hmm
    go_loopw [27] (fun v27 wr => ∃ i : Nat, i ≤ wt.length ∧ v27 = .int .i64 (i : Nat) ∧ Below w.heap.size w wr ∧ DepAt wr w.heap.size l.length l ∧ SetAt wr mb i (wt.take i) ∧ ∀ g ∈ wt.take i, atN l g < l.length) (fun v27 _ => wt.length - (intOf v27).toNat)
    case atStart => exact ⟨0, Nat.zero_le _, rfl, HBM.out, HDM.out, HSM.out, fun g hg => by simp at hg⟩
    case round =>
      obtain ⟨i, hi, rfl, hb, hd, hs, hal⟩ := hrel
      have HB := Lib.hid hb
      have HD := Lib.hid hd
      have HS := Lib.hid hs
      have HAL := Lib.hid hal
      clear hb hd hs hal HBM HDM HSM
      have i0 : (0 : Int) ≤ (i : Int) := by omega
      by_cases hlt : i < wt.length
      · have j1 : (i : Int) < (wt.length : Int) := by omega
        obtain ⟨b, o, c', hv, hn, hel⟩ := HW.out.at hlt
        injection hv with ea eb ec
        subst ea; subst ec
        clear eb
        have HT := Lib.hid (show wt.take (i + 1) = wt.take i ++ [wt[i]] from by rw [List.take_succ_eq_append_getElem hlt])
        have HM := Lib.hid (List.getElem_mem hlt)
        generalize wt[i] = g at *
        have d0 : w.cell? ⟨b, o + i * 1 + 0, none⟩ = some (.int .i64 g) := hel 0 _ rfl
        rw [Nat.mul_one, Nat.add_zero] at d0
        have d0 := (HB.out.cell (p := ⟨b, o + i, none⟩) (World.block_lt_of_cell? w _ d0)).trans d0
        clear hel
        have L1 := HD.out.look (g := g) (HWI.out g HM.out)
        have hkey := keyI (g := g) (HWI.out g HM.out)
        have HDP := Lib.hid (depG_pos (l := l) (g := g))
        generalize depG l g = dp at *
        rcases Nat.eq_zero_or_pos dp with hz | hz
        · have q2 : ((dp : Int) == 0) = true := by simp [hz]
          have HE := Lib.hid (HNE1.out.trans (if_neg (fun k => by have := HDP.out.2 (k g HM.out); omega)))
          have HG := Lib.hid (show stayX l wt = [] by unfold stayX; rw [if_pos (by rw [HE.out]; decide)])
          clear hz
          go_wp2_with fail
          go_ret2
          exact ⟨_, by rw [HE.out]; rfl, by rw [HG.out]; exact OwnN.nil _ _ _ _ _, HB.out⟩
        · have q2 : ((dp : Int) == 0) = false := by simp; omega
          have HAG := Lib.hid (HDP.out.1 hz)
          obtain ⟨D, hown, hset⟩ := HS.out
          have HOW := Lib.hid hown
          have HSE := Lib.hid (fun d => hset.put g d)
          clear hz hown hset
          go_wp2_with (at_mapUpdate; go_loud (refine wpList_mapUpdate_own _ rfl _ _ _ 64 rfl 3 65 intLaw Try.underlying64 _ mb i D rfl HOW.out (by unfold maxLen; omega) _ _ _ rfl rfl hkey _ [] unitElem_mk ?_; intro w2 hown2 hg2; have HO2 := Lib.hid hown2; have HB2 := Lib.hid (HB.out.grown hg2 HB.out.size (fun j hj => by cases hj; omega)); have HD2 := Lib.hid (HD.out.grown hg2 (by simp; omega)); clear hown2 hg2))
          go_roundw
          case rel =>
            refine ⟨i + 1, hlt, by go_num, HB2.out, HD2.out, by rw [HT.out]; exact ⟨_, HO2.out, HSE.out _⟩, fun y hy => ?_⟩
            rw [HT.out] at hy
            rcases List.mem_append.1 hy with c | c
            · exact HAL.out y c
            · rw [List.mem_singleton.1 c]; exact HAG.out
          case measure => simp [intOf]; omega
      · have j1 : ¬ (i : Int) < (wt.length : Int) := by omega
        have hii : wt.take i = wt := List.take_of_length_le (by omega)
        rw [hii] at HS HAL
        have HE := Lib.hid (HNE1.out.trans (if_pos HAL.out))
        have HG := Lib.hid (show stayX l wt = stayG l wt by unfold stayX; rw [if_neg (by rw [HE.out]; simp)])
        clear hii HAL HNE1 HD
        go_wp2_with fail
        obtain ⟨w5, hw5⟩ : ∃ w5, w5 = wr := ⟨_, rfl⟩
        rw [← hw5] at HB HS ⊢
        clear hw5
        have HR5 := Lib.hid (HR.out.keep HB.out)
        go_loopw [11, 41] (fun v11 v41 wr => ∃ k : Nat, k ≤ l.length ∧ v41 = .int .i64 (k : Nat) ∧ OwnN encGn 4 wr w5.heap.size 38 v11 (stayG (l.take k) wt) ∧ Below w5.heap.size w5 wr) (fun _ v41 _ => l.length - (intOf v41).toNat)
        case atStart => exact ⟨0, Nat.zero_le _, rfl, OwnN.nil _ _ _ _ _, Below.refl _ _⟩
        case round =>
          obtain ⟨k, hk, rfl, hown, hb⟩ := hrel
          have HO := Lib.hid hown
          have HB5 := Lib.hid hb
          have HS5 := Lib.hid (HS.out.new hb)
          clear hown hb
          have k0 : (0 : Int) ≤ (k : Int) := by omega
          by_cases hkl : k < l.length
          · have j2 : (k : Int) < (l.length : Int) := by omega
            obtain ⟨b, o, c', hv, hn, hel⟩ := HR5.out.at hkl
            injection hv with ea eb ec
            subst ea; subst ec
            clear eb
            have HT := Lib.hid (show stayG (l.take (k + 1)) wt = stayG (l.take k) wt ++ if l[k].gen ∈ wt then [l[k]] else [] from by rw [List.take_succ_eq_append_getElem hkl, stayG_snoc])
            have hol : (stayG (l.take k) wt).length ≤ 4096 := by have := stayG_len (l.take k) wt; rw [List.length_take] at this; omega
            have CX := fun (q : Addr) (y : Value) (hq : w5.cell? q = some y) => (HB5.out.cell (p := q) (World.block_lt_of_cell? w5 _ hq)).trans hq
            have HGO := Lib.hid (HOK.out _ (List.getElem_mem hkl))
            generalize l[k] = x at *
            obtain ⟨xg, xb, xn, xm⟩ := x
            have d0 := CX _ _ (hel 0 _ rfl)
            have d1 := CX _ _ (hel 1 _ rfl)
            have d2 := CX _ _ (hel 2 _ rfl)
            have d3 := CX _ _ (hel 3 _ rfl)
            rw [Nat.add_zero] at d0
            dsimp only at d0 d1 d2 d3 HT
            clear hel CX
            generalize stayG (l.take k) wt = out at *
            have hbA : Below wr.heap.size wr (wr.alloc (.cells #[.int .i64 xg, .int .i64 xb, .int .i64 xn, .string ⟨xm.toArray⟩] 38)) := (Below.refl _ wr).alloc (Nat.le_refl _) _
            have L1 := (HS5.out.new hbA).look (g := xg) HGO.out.g
            have hbx := heap_alloc_new wr (.cells #[.int .i64 xg, .int .i64 xb, .int .i64 xn, .string ⟨xm.toArray⟩] 38)
            generalize hwA : wr.alloc (.cells #[.int .i64 xg, .int .i64 xb, .int .i64 xn, .string ⟨xm.toArray⟩] 38) = wA at *
            have hbE : Below wA.heap.size wA (wA.alloc (.cells #[] 65)) := (Below.refl _ wA).alloc (Nat.le_refl _) _
            have hxE := (Kept.new hbE (fun _ => False)).old hbx id
            have g0 : (wA.alloc (.cells #[] 65)).cell? ⟨wr.heap.size, 0, none⟩ = some (.int .i64 xg) := by rw [cell_of_row _ _ _ _ _ _ hxE]; rfl
            have g1 : (wA.alloc (.cells #[] 65)).cell? ⟨wr.heap.size, 1, none⟩ = some (.int .i64 xb) := by rw [cell_of_row _ _ _ _ _ _ hxE]; rfl
            have g2 : (wA.alloc (.cells #[] 65)).cell? ⟨wr.heap.size, 2, none⟩ = some (.int .i64 xn) := by rw [cell_of_row _ _ _ _ _ _ hxE]; rfl
            have g3 : (wA.alloc (.cells #[] 65)).cell? ⟨wr.heap.size, 3, none⟩ = some (.string ⟨xm.toArray⟩) := by rw [cell_of_row _ _ _ _ _ _ hxE]; rfl
            have hbE2 : Below wr.heap.size wr (wA.alloc (.cells #[] 65)) := hbA.trans (hbE.mono hbA.size)
            have HOE := Lib.hid (HO.out.new hbE2)
            have HBE := Lib.hid (HB5.out.trans (hbE2.mono HB5.out.size))
            have hsz := HBE.out.size
            have HSZ := Lib.hid (show (wA.alloc (.cells #[] 65)).heap.size = wr.heap.size + 1 + 1 by rw [World.size_alloc, ← hwA, World.size_alloc])
            subst hwA
            clear hbx hxE hbE hbE2 hbA
            by_cases c1 : xg ∈ wt
            · rw [decide_eq_true c1] at L1
              have HT1 := Lib.hid (HT.out.trans (by rw [if_pos c1]))
              clear HT c1
              go_wp2_with (at_builtin; go_loud (refine append_new (enc := encGn) (k := 4) (w := _) (by rfl) (.tmp 53) (.tmp 55) 28 38 (.agg #[.int .i64 0, .int .i64 0, .int .i64 0, .string ByteArray.empty]) 40 (by rfl) Try.underlying28 info_gen12 (by rfl) (by decide) encGn_ok w5.heap.size _ out ⟨xg, xb, xn, xm⟩ (by rfl) HOE.out (by rw [HSZ.out]; rfl) (by omega) (by unfold maxLen; omega) hsz _ (by rfl) ?_; intro v7 w7 hown7 ht7; have HO7 := Lib.hid hown7; have HB7 := Lib.hid (HBE.out.trans ht7.bel); clear hown7 ht7))
              go_roundw
              case rel => exact ⟨k + 1, hkl, by go_num, by rw [HT1.out]; exact HO7.out, HB7.out⟩
              case measure => simp [intOf]; omega
            · rw [decide_eq_false c1] at L1
              have HT1 := Lib.hid (HT.out.trans (by rw [if_neg c1, List.append_nil]))
              clear HT c1
              go_wp2_with fail
              go_roundw
              case rel => exact ⟨k + 1, hkl, by go_num, by rw [HT1.out]; exact HOE.out, HBE.out⟩
              case measure => simp [intOf]; omega
          · have j2 : ¬ (k : Int) < (l.length : Int) := by omega
            rw [List.take_of_length_le (by omega)] at HO
            have HBF := Lib.hid (HB.out.trans (HB5.out.mono HB.out.size))
            have HOF := Lib.hid (HO.out.mono HB.out.size)
            go_wp2_with fail
            go_ret2
            exact ⟨_, by rw [HE.out]; rfl, by rw [HG.out]; exact HOF.out, HBF.out⟩
end Go.Proofs.Ytgejocceegadhaa

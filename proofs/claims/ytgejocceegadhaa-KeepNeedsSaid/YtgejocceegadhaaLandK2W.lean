/- Landed keep: a number is looked for among what stays; the places of what must be made whole. -/
import Derived.Test.YtgejocceegadhaaFrame
import Derived.Test.YtgejocceegadhaaGen
import Derived.Test.YtgejocceegadhaaKeepHoldMath
import Derived.Test.YtgejocceegadhaaKeepMath
import Derived.Test.YtgejocceegadhaaLandK1W
import Derived.Test.YtgejocceegadhaaLandKMath
import Derived.Test.YtgejocceegadhaaOwnL
import Derived.Test.YtgejocceegadhaaRefKeep4W
import Derived.Test.YtgejocceegadhaaRowN
import Derived.Test.YtgejocceegadhaaRows
import Derived.Test.YtgejocceegadhaaShelf
import Derived.BigQuiet
import Derived.Deep.QuietTactic
import Derived.Lib.Hide
import Derived.Outline
import Derived.WalkKit
import Derived.WalkLawsBesides
import Derived.WalkSpells
set_option linter.unusedVariables false
namespace Go.Proofs.Ytgejocceegadhaa
open Go.RowKit

/-- Whether one is there. -/
def inG (s : List GenD) (g : Int) : Bool := decide (g ∈ s.map (·.gen))
theorem cmp_lt {a b : Int} : Lib.compareInt a b < 0 ↔ a < b := by
  unfold Lib.compareInt
  by_cases h : a < b
  · rw [if_pos h]; omega
  · rw [if_neg h]
    by_cases k : a > b
    · rw [if_pos k]; omega
    · rw [if_neg k]; omega
theorem cmp_eq {a b : Int} : Lib.compareInt a b = 0 ↔ a = b := by
  unfold Lib.compareInt
  by_cases h : a < b
  · rw [if_pos h]; omega
  · rw [if_neg h]
    by_cases k : a > b
    · rw [if_pos k]; omega
    · rw [if_neg k]; omega
set_option maxRecDepth 100000 in
set_option maxHeartbeats 2000000 in
theorem bsearch_any (v : Value) (s : List GenD) (g : Int) (w : World) {N : Nat → Prop} (hrow : RowN encGn 4 N w v s) (hl : s.length ≤ 4096) (hup : UpG s) :
    Calls Try.prog 39 #[v, .int .i64 g, .func (.func 40) #[] #[]] w fun e w' => (∃ p : Int, e = .returned (.tuple #[.int .i64 p, .bool (inG s g)])) ∧ Below w.heap.size w w' := by
  have HR := Lib.hid hrow
  have HU := Lib.hid hup
  have eg := enters_of Try.func40 (by kernel_rfl) rfl
  obtain ⟨va, vc, hv, hvc⟩ := hrow.slice
  subst hv
  clear hrow hup
  go_enter Try.func39, Try.ntmps39
  go_wp2_with fail
  go_loopw [9, 10, 11] (fun v9 v10 _ wr => ∃ i j : Nat, i ≤ j ∧ j ≤ s.length ∧ v9 = .int .i64 (i : Nat) ∧ v10 = .int .i64 (j : Nat) ∧ Below w.heap.size w wr ∧ Hid ((∀ a (ha : a < s.length), a < i → s[a].gen < g) ∧ (∀ a (ha : a < s.length), j ≤ a → g ≤ s[a].gen))) (fun v9 v10 _ _ => (intOf v10).toNat - (intOf v9).toNat)
  case atStart => exact ⟨0, s.length, Nat.zero_le _, Nat.le_refl _, rfl, rfl, Below.refl _ _, Lib.hid ⟨fun a ha h => by omega, fun a ha h => by omega⟩⟩
  case round =>
    obtain ⟨i, j, hij, hj, rfl, rfl, hb, HS⟩ := hrel
    have HB := Lib.hid hb
    clear hb
    by_cases hlt : i < j
    · obtain ⟨h, hh⟩ : ∃ h, h = (i + j) / 2 := ⟨_, rfl⟩
      have E : ((i : Int) + (j : Int)) / 2 = (h : Int) := by omega
      have hih : i ≤ h := by omega
      have hhj : h < j := by omega
      clear hh
      have hhn : h < s.length := by omega
      have jn : (h : Int) < (s.length : Int) := by omega
      have j0 : (0 : Int) ≤ (h : Int) := by omega
      obtain ⟨b, o, c', hv, hn, hel⟩ := HR.out.at hhn
      injection hv with ea eb ec
      subst ea; subst ec
      clear eb
      have HX := Lib.hid (show ∀ a (ha : a < s.length), (a ≤ h → s[a].gen ≤ s[h].gen) ∧ (h ≤ a → s[h].gen ≤ s[a].gen) from fun a ha => ⟨fun hc => by
        rcases Nat.lt_or_eq_of_le hc with d | d
        · have := HU.out a h hhn d; omega
        · subst d; omega, fun hc => by
        rcases Nat.lt_or_eq_of_le hc with d | d
        · have := HU.out h a ha d; omega
        · subst d; omega⟩)
      have CX := fun (q : Addr) (y : Value) (hq : w.cell? q = some y) => (HB.out.cell (p := q) (World.block_lt_of_cell? w _ hq)).trans hq
      generalize s[h] = x at *
      obtain ⟨xg, xb, xn, xm⟩ := x
      have d0 := CX _ _ (hel 0 _ rfl)
      have d1 := CX _ _ (hel 1 _ rfl)
      have d2 := CX _ _ (hel 2 _ rfl)
      have d3 := CX _ _ (hel 3 _ rfl)
      rw [Nat.add_zero] at d0
      dsimp only at d0 d1 d2 d3 HX
      clear hel CX
      have CC := Lib.hid (against_any ⟨xg, xb, xn, xm⟩ g wr)
      have HC := Lib.hid (cmp_lt (a := xg) (b := g))
      unfold genV at CC
      dsimp only at CC
      generalize Lib.compareInt xg g = c at *
      by_cases hc : c < 0
      · have HG := Lib.hid (HC.out.1 hc)
        go_wp2_with fail
        refine CC.out.mono ?_
        rintro e w2 ⟨rfl, hb2⟩
        have HB2 := Lib.hid (HB.out.trans (hb2.mono HB.out.size))
        clear hb2 CC
        go_wp2_with fail
        go_roundw
        case rel => exact ⟨h + 1, j, by omega, hj, by go_num, rfl, HB2.out, Lib.hid ⟨fun a ha hk => by
          have := (HX.out a ha).1 (by omega)
          have := HG.out
          omega, HS.out.2⟩⟩
        case measure => simp [intOf]; omega
      · have HG := Lib.hid (show g ≤ xg by
          rcases Int.lt_or_le xg g with k | k
          · exact absurd (HC.out.2 k) hc
          · exact k)
        go_wp2_with fail
        refine CC.out.mono ?_
        rintro e w2 ⟨rfl, hb2⟩
        have HB2 := Lib.hid (HB.out.trans (hb2.mono HB.out.size))
        clear hb2 CC
        go_wp2_with fail
        go_roundw
        case rel => exact ⟨i, h, hih, by omega, rfl, rfl, HB2.out, Lib.hid ⟨HS.out.1, fun a ha hk => by
          have := (HX.out a ha).2 hk
          have := HG.out
          omega⟩⟩
        case measure => simp [intOf]; omega
    · obtain rfl : i = j := by omega
      have j0 : (0 : Int) ≤ (i : Int) := by omega
      by_cases hin : i < s.length
      · have jn : (i : Int) < (s.length : Int) := by omega
        obtain ⟨b, o, c', hv, hn, hel⟩ := HR.out.at hin
        injection hv with ea eb ec
        subst ea; subst ec
        clear eb
        have HM := Lib.hid (show g ∈ s.map (·.gen) ↔ s[i].gen = g from ⟨fun hm => by
          obtain ⟨y, hy, e⟩ := List.mem_map.1 hm
          obtain ⟨a, ha, rfl⟩ := List.getElem_of_mem hy
          rcases Nat.lt_trichotomy a i with d | d | d
          · have := HS.out.1 a ha d; omega
          · subst d; exact e
          · have h1 := HU.out i a ha d
            have h2 := HS.out.2 i hin (Nat.le_refl _)
            omega, fun e => List.mem_map.2 ⟨s[i], List.getElem_mem hin, e⟩⟩)
        have CX := fun (q : Addr) (y : Value) (hq : w.cell? q = some y) => (HB.out.cell (p := q) (World.block_lt_of_cell? w _ hq)).trans hq
        generalize s[i] = x at *
        obtain ⟨xg, xb, xn, xm⟩ := x
        have d0 := CX _ _ (hel 0 _ rfl)
        have d1 := CX _ _ (hel 1 _ rfl)
        have d2 := CX _ _ (hel 2 _ rfl)
        have d3 := CX _ _ (hel 3 _ rfl)
        rw [Nat.add_zero] at d0
        dsimp only at d0 d1 d2 d3 HM
        clear hel CX
        have CC := Lib.hid (against_any ⟨xg, xb, xn, xm⟩ g wr)
        have HC := Lib.hid (cmp_eq (a := xg) (b := g))
        unfold genV at CC
        dsimp only at CC
        generalize Lib.compareInt xg g = c at *
        have HZ := Lib.hid (show inG s g = (c == 0) by
          unfold inG
          by_cases k : c = 0
          · rw [decide_eq_true (HM.out.2 (HC.out.1 k))]; simp [k]
          · rw [decide_eq_false (fun m => k (HC.out.2 (HM.out.1 m)))]; simp [k])
        go_wp2_with fail
        refine CC.out.mono ?_
        rintro e w2 ⟨rfl, hb2⟩
        have HB2 := Lib.hid (HB.out.trans (hb2.mono HB.out.size))
        clear hb2 CC
        go_wp2_with fail
        go_ret2
        exact ⟨⟨_, by rw [HZ.out]; rfl⟩, HB2.out⟩
      · have jn : ¬ (i : Int) < (s.length : Int) := by omega
        have HZ := Lib.hid (show inG s g = false from decide_eq_false (fun hm => by
          obtain ⟨y, hy, e⟩ := List.mem_map.1 hm
          obtain ⟨a, ha, rfl⟩ := List.getElem_of_mem hy
          have := HS.out.1 a ha (by omega)
          omega))
        go_wp2_with fail
        go_ret2
        exact ⟨⟨_, by rw [HZ.out]; rfl⟩, HB.out⟩
/-- A number of a place. -/
def encPl (i : Nat) : List Value := [.int .i64 (i : Int)]
theorem encPl_ok : EncN encPl 1 := ⟨fun _ => rfl, fun x u hu => by simp [encPl] at hu; rw [hu]; rfl⟩
set_option maxRecDepth 100000 in
set_option maxHeartbeats 2000000 in
theorem needing_any (v : Value) (s : List GenD) (w : World) {N : Nat → Prop} (hrow : RowN encGn 4 N w v s) (hl : s.length ≤ 4096) (hup : UpG s) :
    Calls Try.prog 34 #[v] w fun e w' => ∃ v', e = .returned v' ∧ OwnN encPl 1 w' w.heap.size 3 v' (placesG s) ∧ Below w.heap.size w w' := by
  have HR := Lib.hid hrow
  have HU := Lib.hid hup
  obtain ⟨va, vc, hv, hvc⟩ := hrow.slice
  subst hv
  clear hrow hup
  go_enter Try.func34, Try.ntmps34
  go_wp2_with fail
  go_loopw [3, 10] (fun v3 v10 wr => ∃ i : Nat, i ≤ s.length ∧ v10 = .int .i64 (i : Nat) ∧ OwnN encPl 1 wr w.heap.size 3 v3 (placesTo s i) ∧ Below w.heap.size w wr) (fun _ v10 _ => s.length - (intOf v10).toNat)
  case atStart => exact ⟨0, Nat.zero_le _, rfl, OwnN.nil _ _ _ _ _, Below.refl _ _⟩
  case round =>
    obtain ⟨i, hi, rfl, hown, hb⟩ := hrel
    have HO := Lib.hid hown
    have HB := Lib.hid hb
    clear hown hb
    have i0 : (0 : Int) ≤ (i : Int) := by omega
    by_cases hlt : i < s.length
    · have j1 : (i : Int) < (s.length : Int) := by omega
      obtain ⟨b, o, c', hv, hn, hel⟩ := HR.out.at hlt
      injection hv with ea eb ec
      subst ea; subst ec
      clear eb
      have HT := Lib.hid (placesTo_succ hlt)
      have hpl := placesTo_len s i
      have CX := fun (q : Addr) (y : Value) (hq : w.cell? q = some y) => (HB.out.cell (p := q) (World.block_lt_of_cell? w _ hq)).trans hq
      generalize s[i] = x at *
      obtain ⟨xg, xb, xn, xm⟩ := x
      have d0 := CX _ _ (hel 0 _ rfl)
      have d1 := CX _ _ (hel 1 _ rfl)
      have d2 := CX _ _ (hel 2 _ rfl)
      have d3 := CX _ _ (hel 3 _ rfl)
      rw [Nat.add_zero] at d0
      dsimp only at d0 d1 d2 d3 HT
      clear hel CX
      have BS := Lib.hid (fun X (hX : Below w.heap.size w X) => bsearch_any _ s xb X (HR.out.keep hX) hl HU.out)
      generalize placesTo s i = out at *
      have hbA : Below wr.heap.size wr (wr.alloc (.cells #[.int .i64 xg, .int .i64 xb, .int .i64 xn, .string ⟨xm.toArray⟩] 38)) := (Below.refl _ wr).alloc (Nat.le_refl _) _
      have HBA := Lib.hid (HB.out.trans (hbA.mono HB.out.size))
      have HOA := Lib.hid (HO.out.new hbA)
      have BS1 := Lib.hid (BS.out _ HBA.out)
      by_cases hm : xb ∈ s.map (·.gen)
      · have hz : inG s xb = true := decide_eq_true hm
        rw [hz] at BS1
        rw [if_pos hm, List.append_nil] at HT
        clear hz hm BS
        clear hbA
        go_wp2_with fail
        generalize wr.alloc (.cells #[.int .i64 xg, .int .i64 xb, .int .i64 xn, .string ⟨xm.toArray⟩] 38) = wA at *
        refine BS1.out.mono ?_
        rintro e w2 ⟨⟨p, rfl⟩, hb2⟩
        have HB2 := Lib.hid (HBA.out.trans (hb2.mono HBA.out.size))
        have HO2 := Lib.hid (HOA.out.new hb2)
        clear hb2 BS1 HOA HBA
        go_wp2_with fail
        go_roundw
        case rel => exact ⟨i + 1, hlt, by go_num, by rw [HT.out]; exact HO2.out, HB2.out⟩
        case measure => simp [intOf]; omega
      · have hz : inG s xb = false := decide_eq_false hm
        rw [hz] at BS1
        rw [if_neg hm] at HT
        clear hz hm BS
        clear hbA
        go_wp2_with fail
        generalize wr.alloc (.cells #[.int .i64 xg, .int .i64 xb, .int .i64 xn, .string ⟨xm.toArray⟩] 38) = wA at *
        refine BS1.out.mono ?_
        rintro e w2 ⟨⟨p, rfl⟩, hb2⟩
        have HB2 := Lib.hid (HBA.out.trans (hb2.mono HBA.out.size))
        have HO2 := Lib.hid (HOA.out.new hb2)
        have hsz := HB2.out.size
        clear hb2 BS1 HOA HBA
        go_wp2_with (at_builtin; go_loud (refine append_new (enc := encPl) (k := 1) (w := w2) (by rfl) (.tmp 24) (.tmp 26) 34 3 (.int .i64 0) 8 (by rfl) Try.underlying34 info_int12 (by rfl) (by decide) encPl_ok w.heap.size _ out i (by rfl) HO2.out (by rfl) (by omega) (by unfold maxLen; omega) hsz _ (by rfl) ?_; intro v7 w7 hown7 ht7; have HO7 := Lib.hid hown7; have HB7 := Lib.hid (HB2.out.trans ht7.bel); clear hown7 ht7))
        go_roundw
        case rel => exact ⟨i + 1, hlt, by go_num, by rw [HT.out]; exact HO7.out, HB7.out⟩
        case measure => simp [intOf]; omega
    · have j1 : ¬ (i : Int) < (s.length : Int) := by omega
      have hii : i = s.length := by omega
      have HPG := Lib.hid (show placesTo s i = placesG s by unfold placesG; rw [hii])
      clear hii
      go_wp2_with fail
      go_ret
      exact ⟨_, rfl, by rw [← HPG.out]; exact HO.out, HB.out⟩
end Go.Proofs.Ytgejocceegadhaa

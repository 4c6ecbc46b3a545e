/- The document's keep: Check. -/
import Derived.Test.YtgejocceegadhaaFrame
import Derived.Test.YtgejocceegadhaaGen
import Derived.Test.YtgejocceegadhaaKeepMath
import Derived.Test.YtgejocceegadhaaOwnL
import Derived.Test.YtgejocceegadhaaQuietBelow
import Derived.Test.YtgejocceegadhaaRefKeepW
import Derived.Test.YtgejocceegadhaaRowN
import Derived.Test.YtgejocceegadhaaRows
import Derived.Deep.QuietTactic
set_option linter.unusedVariables false
namespace Go.Proofs.Ytgejocceegadhaa
open Go.RowKit

theorem chkG_app : ∀ (a pre b : List GenD), chkG pre a = 0 → chkG pre (a ++ b) = chkG (pre ++ a) b
  | [], pre, b, _ => by simp
  | x :: r, pre, b, h => by
    rw [chkG] at h
    by_cases c : badG pre x = 0
    · rw [if_neg (by simpa using c)] at h
      rw [List.cons_append, chkG, if_neg (by simpa using c), chkG_app r _ b h, List.append_assoc]
      rfl
    · rw [if_pos c] at h
      exact absurd h c
theorem chkG_take : ∀ (a pre : List GenD) (n : Nat), chkG pre a = 0 → chkG pre (a.take n) = 0
  | [], pre, n, _ => by simp [chkG]
  | x :: r, pre, 0, _ => rfl
  | x :: r, pre, n + 1, h => by
    rw [chkG] at h
    by_cases c : badG pre x = 0
    · rw [if_neg (by simpa using c)] at h
      rw [List.take_succ_cons, chkG, if_neg (by simpa using c)]
      exact chkG_take r _ n h
    · rw [if_pos c] at h
      exact absurd h c
theorem checkG_take {l : List GenD} (h : checkG l = 0) (n : Nat) : checkG (l.take n) = 0 := by
  unfold checkG at h ⊢
  split at h
  · cases h
  · rw [if_neg (by rw [List.length_take]; omega)]
    exact chkG_take l [] n h
/-- What the walk sees of the i-th, all ahead of it being right. -/
theorem chk_step {l : List GenD} {i : Nat} (hi : i < l.length) (h : chkG [] (l.take i) = 0) : (badG (l.take i) l[i] ≠ 0 → chkG [] l = badG (l.take i) l[i]) ∧ (badG (l.take i) l[i] = 0 → chkG [] (l.take (i + 1)) = 0) := by
  have e : l = l.take i ++ (l[i] :: l.drop (i + 1)) := by rw [← List.drop_eq_getElem_cons hi, List.take_append_drop]
  have e2 : l.take (i + 1) = l.take i ++ [l[i]] := by rw [List.take_succ_eq_append_getElem hi]
  constructor
  · intro hb
    have h2 := chkG_app (l.take i) [] (l[i] :: l.drop (i + 1)) h
    rw [← e, List.nil_append, chkG, if_pos hb] at h2
    exact h2
  · intro hb
    rw [e2, chkG_app _ _ _ h, List.nil_append, chkG, if_neg (by simpa using hb)]
    rfl
set_option maxRecDepth 100000 in
set_option maxHeartbeats 4000000 in
theorem refCheck12_any (v : Value) (l : List GenD) (w : World) {N : Nat → Prop} (hrow : RowN encGn 4 N w v l) (hl : l.length ≤ 140737488351232) (hok : ∀ x ∈ l, GenOk x) :
    Calls Try.prog 17 #[v] w fun e w' => e = .returned (.int .i64 (checkG l)) ∧ Below w.heap.size w w' := by
  have HR := Lib.hid hrow
  have HOK := Lib.hid hok
  obtain ⟨va, vc, hv, hvc⟩ := hrow.slice
  subst hv
  clear hrow hok
  by_cases h4 : 4096 < l.length
  · have HZ := Lib.hid (show checkG l = 4 by unfold checkG; rw [if_pos h4])
    have h4' : (4096 : Int) < (l.length : Int) := by omega
    go_enter Try.func17, Try.ntmps17
    go_wp2_with fail
    go_ret
    exact ⟨by rw [HZ.out]; rfl, Below.refl _ _⟩
  · have HC := Lib.hid (show checkG l = chkG [] l by unfold checkG; rw [if_neg h4])
    have h4' : ¬ (4096 : Int) < (l.length : Int) := by omega
    go_enter Try.func17, Try.ntmps17
    go_wp2_with fail
    go_loopw [3] (fun v3 wr => ∃ i : Nat, i ≤ l.length ∧ v3 = .int .i64 (i : Nat) ∧ Below w.heap.size w wr ∧ chkG [] (l.take i) = 0) (fun v3 _ => l.length - (intOf v3).toNat)
    case atStart => exact ⟨0, Nat.zero_le _, rfl, Below.refl _ _, rfl⟩
    case round =>
      obtain ⟨i, hi, rfl, hb, hch⟩ := hrel
      have HB := Lib.hid hb
      have HCH := Lib.hid hch
      clear hb hch
      have i0 : (0 : Int) ≤ (i : Int) := by omega
      by_cases hlt : i < l.length
      · have j1 : (i : Int) < (l.length : Int) := by omega
        obtain ⟨b, o, c', hv, hn, hel⟩ := HR.out.at hlt
        injection hv with ea eb ec
        subst ea; subst ec
        clear eb
        have HS := Lib.hid (chk_step hlt HCH.out)
        have HGO := Lib.hid (HOK.out _ (List.getElem_mem hlt))
        have HLA := Lib.hid (show 0 < i → (l.take i).getLast? = some l[i - 1] from fun h => by
          rw [List.getLast?_eq_getElem?, List.length_take, Nat.min_eq_left (by omega), List.getElem?_take, if_pos (by omega), List.getElem?_eq_getElem (by omega)])
        have HPV := Lib.hid (show 0 < i → ∃ (y : GenD) (j : Nat), j + 1 = i ∧ (l.take i).getLast? = some y ∧ w.cell? ⟨b, o + j * 4, none⟩ = some (.int .i64 y.gen) from fun h => by
          refine ⟨_, i - 1, by omega, HLA.out h, ?_⟩
          obtain ⟨b2, o2, c2, hv2, _, hel2⟩ := HR.out.at (show i - 1 < l.length by omega)
          injection hv2 with ea _ _
          injection ea with ea
          injection ea with ea1 ea2 _
          have := hel2 0 _ rfl
          rw [Nat.add_zero, ← ea1, ← ea2] at this
          exact this)
        have HAT := Lib.hid (fun X (hX : Below w.heap.size w X) (g : Int) => refAt12_any (.slice (some ⟨b, o, none⟩) i vc) (l.take i) g X ((HR.out.keep hX).take i hi) (by rw [List.length_take]; omega))
        have HAZ := Lib.hid (show ∀ g, (atZ (l.take i) g < 0 ↔ g ∉ (l.take i).map (·.gen)) from fun g => by
          rw [← atN_lt]
          unfold atZ
          by_cases c : atN (l.take i) g < (l.take i).length
          · rw [if_pos c]; omega
          · rw [if_neg c]; omega)
        generalize hx : l[i] = x at *
        obtain ⟨xg, xb, xn, xm⟩ := x
        have CX := fun (q : Addr) (y : Value) (hq : w.cell? q = some y) => (HB.out.cell (p := q) (World.block_lt_of_cell? w _ hq)).trans hq
        have d0 := CX _ _ (hel 0 _ rfl)
        have d1 := CX _ _ (hel 1 _ rfl)
        have d2 := CX _ _ (hel 2 _ rfl)
        rw [Nat.add_zero] at d0
        dsimp only at d0 d1 d2 HS
        clear hel
        have HBZ := Lib.hid (fun (z : Int) (hz : badG (l.take i) ⟨xg, xb, xn, xm⟩ = z) (h0 : z ≠ 0) => show checkG l = z from by rw [HC.out, HS.out.1 (by rw [hz]; exact h0), hz])
        by_cases b1 : xg < 0 ∨ xn < 0 ∨ 524288 < xn
        · have HZ := Lib.hid (HBZ.out 2 (by unfold badG; rw [if_pos b1]) (by decide))
          rcases (show xg < 0 ∨ (¬ xg < 0 ∧ xn < 0) ∨ (¬ xg < 0 ∧ ¬ xn < 0 ∧ 524288 < xn) by omega) with c1 | ⟨c1, c2⟩ | ⟨c1, c2, c3⟩
          all_goals
            clear b1
            go_wp2_with fail
            go_ret
            exact ⟨by rw [HZ.out]; rfl, HB.out⟩
        · have c1 : ¬ xg < 0 := by omega
          have c2 : ¬ xn < 0 := by omega
          have c3 : ¬ 524288 < xn := by omega
          have HB1 := Lib.hid b1
          clear b1
          go_wp2_with fail
          have HBR := Lib.hid (HB.out.trans ((Below_drew (Below.refl wr.heap.size wr)).mono HB.out.size))
          by_cases hbad : ∃ y, (l.take i).getLast? = some y ∧ xg ≤ y.gen
          · obtain ⟨y0, hy0, hle⟩ := hbad
            have hip : 0 < i := by
              rcases Nat.eq_zero_or_pos i with c | c
              · subst c; simp at hy0
              · exact c
            have HZ := Lib.hid (HBZ.out 12 (by unfold badG; rw [if_neg HB1.out, if_pos ⟨y0, hy0, hle⟩]) (by decide))
            obtain ⟨y, j, hj, hy, dy⟩ := HPV.out hip
            rw [hy0] at hy
            injection hy with hy
            subst hy
            have dyr := CX _ _ dy
            have k1 : decide ((0 : Int) < (i : Int)) = true := decide_eq_true (by omega)
            have k0 : decide (0 < i) = true := decide_eq_true hip
            have k2 : decide (xg ≤ y0.gen) = true := decide_eq_true hle
            have k3 : wrap64 ((i : Int) - 1) = (j : Int) := by rw [IntWalk.wrap64_in _ (by omega)]; omega
            have k4 : IntKind.i64.wrap ((i : Int) - 1) = (j : Int) := by rw [IntWalk.i64_in _ (by omega)]; omega
            have k5 : (0 : Int) ≤ (j : Int) := by omega
            have k6 : (j : Int) < (l.length : Int) := by omega
            generalize y0.gen = yg at *
            clear dy hj hy0 hle hip CX
            go_quiet (fail)
            have HBQ := Lib.hid (HB.out.trans ((Below_drewN (Below.refl wr.heap.size wr) nq).mono HB.out.size))
            go_wp2_with fail
            go_ret
            exact ⟨by rw [HZ.out]; rfl, HBQ.out⟩
          · have HNB := Lib.hid hbad
            have hw8 : ∃ A8 : Prop, A8 := ⟨True, trivial⟩
            clear hw8
            by_cases hip : 0 < i
            · obtain ⟨y, j, hj, hy, dy⟩ := HPV.out hip
              have dyr := CX _ _ dy
              have hle : ¬ xg ≤ y.gen := fun c => HNB.out ⟨y, hy, c⟩
              have k1 : decide ((0 : Int) < (i : Int)) = true := decide_eq_true (by omega)
              have k0 : decide (0 < i) = true := decide_eq_true hip
              have k2 : decide (xg ≤ y.gen) = false := decide_eq_false hle
              have k3 : wrap64 ((i : Int) - 1) = (j : Int) := by rw [IntWalk.wrap64_in _ (by omega)]; omega
              have k4 : IntKind.i64.wrap ((i : Int) - 1) = (j : Int) := by rw [IntWalk.i64_in _ (by omega)]; omega
              have k5 : (0 : Int) ≤ (j : Int) := by omega
              have k6 : (j : Int) < (l.length : Int) := by omega
              generalize y.gen = yg at *
              clear dy hj hy hle hip
              go_quiet (fail)
              have HBQ := Lib.hid (HB.out.trans ((Below_drewN (Below.refl wr.heap.size wr) nq).mono HB.out.size))
              have e0 : (wr.drewN nq).cell? ⟨b, o + i * 4, none⟩ = some (.int .i64 xg) := d0
              have e1 : (wr.drewN nq).cell? ⟨b, o + i * 4 + 1, none⟩ = some (.int .i64 xb) := d1
              generalize wr.drewN nq = w9 at *
              have AT := fun (q : BelowOf w9) => Lib.hid (HAT.out q.w (HBQ.out.trans (q.h.mono HBQ.out.size)) xb)
              have E0 := below_cell e0
              have E1 := below_cell e1
              have ivc : (i : Int) ≤ (vc : Int) := by omega
              by_cases hq : xb = xg
              · have q1 : (xb != xg) = false := by simp [hq]
                have HG := Lib.hid (show badG (l.take i) ⟨xg, xb, xn, xm⟩ = 0 by unfold badG; rw [if_neg HB1.out, if_neg HNB.out, if_neg (fun c => c.1 hq)])
                clear hq
                go_wp2_with fail
                have q1 : (xb != xg) = false := by assumption
                refine wp_region_below (by kernel_rfl) (by kernel_rfl) ?_
                repeat (go_big_quiet_step (fail))
                refine wpQuiet_nil ?_
                rintro wa ⟨⟨wab, hba⟩, ea⟩
                have ea' : wa = wab := ea
                clear ea
                subst ea'
                have HBA := Lib.hid (HBQ.out.trans (hba.mono HBQ.out.size))
                clear hba
                go_wp2_with fail
                go_roundw
                case rel => exact ⟨i + 1, hlt, by go_num, HBA.out, HS.out.2 HG.out⟩
                case measure => simp [intOf]; omega
              · have q1 : (xb != xg) = true := by simp [hq]
                have HQ := Lib.hid hq
                clear hq
                by_cases hm : xb ∈ (l.take i).map (·.gen)
                · have HG := Lib.hid (show badG (l.take i) ⟨xg, xb, xn, xm⟩ = 0 by unfold badG; rw [if_neg HB1.out, if_neg HNB.out, if_neg (fun c => c.2 hm)])
                  have hz : ¬ atZ (l.take i) xb < 0 := fun c => (HAZ.out xb).1 c hm
                  have q2 : decide (atZ (l.take i) xb < 0) = false := decide_eq_false hz
                  generalize atZ (l.take i) xb = az at *
                  clear hm
                  go_wp2_with fail
                  have q1 : (xb != xg) = true := by assumption
                  refine wp_region_below (by kernel_rfl) (by kernel_rfl) ?_
                  repeat (go_big_quiet_step ((go_at_call 23; with_reducible exact below_calls_same (AT _).out)))
                  refine wpQuiet_nil ?_
                  rintro wa ⟨⟨wab, hba⟩, ea⟩
                  have ea' : wa = wab := ea
                  clear ea
                  subst ea'
                  have HBA := Lib.hid (HBQ.out.trans (hba.mono HBQ.out.size))
                  clear hba
                  go_wp2_with fail
                  go_roundw
                  case rel => exact ⟨i + 1, hlt, by go_num, HBA.out, HS.out.2 HG.out⟩
                  case measure => simp [intOf]; omega
                · have HZ := Lib.hid (HBZ.out 13 (by unfold badG; rw [if_neg HB1.out, if_neg HNB.out, if_pos ⟨HQ.out, hm⟩]) (by decide))
                  have hz : atZ (l.take i) xb < 0 := (HAZ.out xb).2 hm
                  have q2 : decide (atZ (l.take i) xb < 0) = true := decide_eq_true hz
                  generalize atZ (l.take i) xb = az at *
                  clear hm
                  go_wp2_with fail
                  have q1 : (xb != xg) = true := by assumption
                  refine wp_region_below (by kernel_rfl) (by kernel_rfl) ?_
                  repeat (go_big_quiet_step ((go_at_call 23; with_reducible exact below_calls_same (AT _).out)))
                  refine wpQuiet_nil ?_
                  rintro wa ⟨⟨wab, hba⟩, ea⟩
                  have ea' : wa = wab := ea
                  clear ea
                  subst ea'
                  have HBA := Lib.hid (HBQ.out.trans (hba.mono HBQ.out.size))
                  clear hba
                  go_wp2_with fail
                  go_ret
                  exact ⟨by rw [HZ.out]; rfl, HBA.out⟩
            · have k1 : decide ((0 : Int) < (i : Int)) = false := decide_eq_false (by omega)
              have k0 : decide (0 < i) = false := decide_eq_false hip
              clear hip
              go_quiet (fail)
              have HBQ := Lib.hid (HB.out.trans ((Below_drewN (Below.refl wr.heap.size wr) nq).mono HB.out.size))
              have e0 : (wr.drewN nq).cell? ⟨b, o + i * 4, none⟩ = some (.int .i64 xg) := d0
              have e1 : (wr.drewN nq).cell? ⟨b, o + i * 4 + 1, none⟩ = some (.int .i64 xb) := d1
              generalize wr.drewN nq = w9 at *
              have AT := fun (q : BelowOf w9) => Lib.hid (HAT.out q.w (HBQ.out.trans (q.h.mono HBQ.out.size)) xb)
              have E0 := below_cell e0
              have E1 := below_cell e1
              have ivc : (i : Int) ≤ (vc : Int) := by omega
              by_cases hq : xb = xg
              · have q1 : (xb != xg) = false := by simp [hq]
                have HG := Lib.hid (show badG (l.take i) ⟨xg, xb, xn, xm⟩ = 0 by unfold badG; rw [if_neg HB1.out, if_neg HNB.out, if_neg (fun c => c.1 hq)])
                clear hq
                go_wp2_with fail
                have q1 : (xb != xg) = false := by assumption
                refine wp_region_below (by kernel_rfl) (by kernel_rfl) ?_
                repeat (go_big_quiet_step (fail))
                refine wpQuiet_nil ?_
                rintro wa ⟨⟨wab, hba⟩, ea⟩
                have ea' : wa = wab := ea
                clear ea
                subst ea'
                have HBA := Lib.hid (HBQ.out.trans (hba.mono HBQ.out.size))
                clear hba
                go_wp2_with fail
                go_roundw
                case rel => exact ⟨i + 1, hlt, by go_num, HBA.out, HS.out.2 HG.out⟩
                case measure => simp [intOf]; omega
              · have q1 : (xb != xg) = true := by simp [hq]
                have HQ := Lib.hid hq
                clear hq
                by_cases hm : xb ∈ (l.take i).map (·.gen)
                · have HG := Lib.hid (show badG (l.take i) ⟨xg, xb, xn, xm⟩ = 0 by unfold badG; rw [if_neg HB1.out, if_neg HNB.out, if_neg (fun c => c.2 hm)])
                  have hz : ¬ atZ (l.take i) xb < 0 := fun c => (HAZ.out xb).1 c hm
                  have q2 : decide (atZ (l.take i) xb < 0) = false := decide_eq_false hz
                  generalize atZ (l.take i) xb = az at *
                  clear hm
                  go_wp2_with fail
                  have q1 : (xb != xg) = true := by assumption
                  refine wp_region_below (by kernel_rfl) (by kernel_rfl) ?_
                  repeat (go_big_quiet_step ((go_at_call 23; with_reducible exact below_calls_same (AT _).out)))
                  refine wpQuiet_nil ?_
                  rintro wa ⟨⟨wab, hba⟩, ea⟩
                  have ea' : wa = wab := ea
                  clear ea
                  subst ea'
                  have HBA := Lib.hid (HBQ.out.trans (hba.mono HBQ.out.size))
                  clear hba
                  go_wp2_with fail
                  go_roundw
                  case rel => exact ⟨i + 1, hlt, by go_num, HBA.out, HS.out.2 HG.out⟩
                  case measure => simp [intOf]; omega
                · have HZ := Lib.hid (HBZ.out 13 (by unfold badG; rw [if_neg HB1.out, if_neg HNB.out, if_pos ⟨HQ.out, hm⟩]) (by decide))
                  have hz : atZ (l.take i) xb < 0 := (HAZ.out xb).2 hm
                  have q2 : decide (atZ (l.take i) xb < 0) = true := decide_eq_true hz
                  generalize atZ (l.take i) xb = az at *
                  clear hm
                  go_wp2_with fail
                  have q1 : (xb != xg) = true := by assumption
                  refine wp_region_below (by kernel_rfl) (by kernel_rfl) ?_
                  repeat (go_big_quiet_step ((go_at_call 23; with_reducible exact below_calls_same (AT _).out)))
                  refine wpQuiet_nil ?_
                  rintro wa ⟨⟨wab, hba⟩, ea⟩
                  have ea' : wa = wab := ea
                  clear ea
                  subst ea'
                  have HBA := Lib.hid (HBQ.out.trans (hba.mono HBQ.out.size))
                  clear hba
                  go_wp2_with fail
                  go_ret
                  exact ⟨by rw [HZ.out]; rfl, HBA.out⟩
      · have j1 : ¬ (i : Int) < (l.length : Int) := by omega
        have HZ := Lib.hid (show checkG l = 0 by
          have := HCH.out
          rw [List.take_of_length_le (by omega)] at this
          rw [HC.out, this])
        go_wp2_with fail
        go_ret
        exact ⟨by rw [HZ.out]; rfl, HB.out⟩
end Go.Proofs.Ytgejocceegadhaa

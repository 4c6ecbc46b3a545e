/- The library's stable sort of numbers, walked: symMerge. -/
import Derived.Test.YtpkgjokehgihjaaGreatFrame
import Derived.Test.YtpkgjokehgihjaaGreatGen
import Derived.Test.YtpkgjokehgihjaaGreatOwnL
import Derived.Test.YtpkgjokehgihjaaGreatProg
import Derived.Test.YtpkgjokehgihjaaGreatSortX
import Derived.Deep.CutBlock
import Derived.Deep.CutRange
import Derived.Deep.DeepCutAuto
import Derived.Deep.QuietTactic
set_option linter.unusedVariables false
namespace Go.Proofs.YtpkgjokehgihjaaGreat
open Go.RowKit

theorem SortPost.self {cv : Nat → Nat → Int} {d : Nat → Nat} {a b g N : Nat} {w w1 : World} (hs : Sorted (ltOf cv) d a b) (hi : IR w1 g N d) (hk : Kept (· = g) w w1) : SortPost (ltOf cv) d a b g N w (.returned (.tuple #[])) w1 := ⟨rfl, d, Merged.self hs, hi, hk⟩
/-- Where the search of the middle begins and ends. -/
structure MidIn (a m b md q s r : Nat) : Prop where
  ha : a ≤ s
  hsr : s ≤ r
  hrm : r ≤ m
  hmd : r ≤ md
  hlo : ∀ c, s ≤ c → c < r → m ≤ q - c ∧ q - c < b ∧ c ≤ q
  hs : s = a ∨ md + m - s = b
  hr : r = m ∨ md + m - r = m
  ht : md + m - s ≤ b

def MidRel (cv : Nat → Nat → Int) (d : Nat → Nat) (a m b md q s r : Nat) : Prop := ∃ s0 r0, MidIn a m b md q s0 r0 ∧ s0 ≤ s ∧ s ≤ r ∧ r ≤ r0 ∧ (∀ c, s0 ≤ c → c < s → ltOf cv (d (q - c)) (d c) = false) ∧ (∀ c, r ≤ c → c < r0 → ltOf cv (d (q - c)) (d c) = true)
theorem MidRel.start {cv : Nat → Nat → Int} {d : Nat → Nat} {a m b md q s r : Nat} (h : MidIn a m b md q s r) : MidRel cv d a m b md q s r := ⟨s, r, h, Nat.le_refl _, h.hsr, Nat.le_refl _, fun c h1 h2 => by omega, fun c h1 h2 => by omega⟩
theorem MidRel.range {cv : Nat → Nat → Int} {d : Nat → Nat} {a m b md q s r : Nat} (h : MidRel cv d a m b md q s r) : a ≤ s ∧ s ≤ r ∧ r ≤ m ∧ r ≤ md := by
  obtain ⟨s0, r0, hM, h1, h2, h3, _⟩ := h
  have := hM.ha; have := hM.hrm; have := hM.hmd
  omega
theorem MidRel.at {cv : Nat → Nat → Int} {d : Nat → Nat} {a m b md q s r : Nat} (h : MidRel cv d a m b md q s r) {c : Nat} (hc : s ≤ c) (hr : c < r) : a ≤ c ∧ c < m ∧ m ≤ q - c ∧ q - c < b ∧ c ≤ q := by
  obtain ⟨s0, r0, hM, h1, h2, h3, _⟩ := h
  have := hM.hlo c (by omega) (by omega)
  have := hM.ha; have := hM.hrm
  omega
section
variable {f : Nat} {cb : Array Value} {cv : Nat → Nat → Int} {d : Nat → Nat} {N g a m b md q s r c : Nat} {w : World}
theorem MidRel.ge (H : SWo (ltOf cv)) (I : SymIn f cb cv d N g a m b w) (h : MidRel cv d a m b md q s r) (hc : s ≤ c) (hr : c < r) (hl : ltOf cv (d (q - c)) (d c) = false) : MidRel cv d a m b md q (c + 1) r := by
  have R := h.at hc hr
  obtain ⟨s0, r0, hM, h1, h2, h3, h4, h5⟩ := h
  refine ⟨s0, r0, hM, by omega, by omega, h3, fun k k1 k2 => ?_, h5⟩
  have R2 := hM.hlo k k1 (by omega)
  have := hM.ha
  exact mid_ge H I.s1 I.s2 I.lo hl (by omega) (by omega) (by omega) (by omega) (by omega) (by omega)
theorem MidRel.lt (H : SWo (ltOf cv)) (I : SymIn f cb cv d N g a m b w) (h : MidRel cv d a m b md q s r) (hc : s ≤ c) (hr : c < r) (hl : ltOf cv (d (q - c)) (d c) = true) : MidRel cv d a m b md q s c := by
  have R := h.at hc hr
  obtain ⟨s0, r0, hM, h1, h2, h3, h4, h5⟩ := h
  refine ⟨s0, r0, hM, by omega, by omega, by omega, h4, fun k k1 k2 => ?_⟩
  have R2 := hM.hlo k (by omega) k2
  have := hM.hrm
  exact mid_lt H I.s1 I.s2 I.lo hl (by omega) (by omega) k1 (by omega) (by omega) (by omega)
/-- The middle, found. -/
structure MidOut (cv : Nat → Nat → Int) (d : Nat → Nat) (a m b md s t : Nat) : Prop where
  has : a ≤ s
  hsm : s ≤ m
  hmt : m ≤ t
  htb : t ≤ b
  hmd : md = s + (t - m)
  ht : md + (m - s) = t
  low : a < s → t < b → ltOf cv (d t) (d (s - 1)) = false
  high : s < m → m < t → ltOf cv (d (t - 1)) (d s) = true
theorem MidRel.out (h : MidRel cv d a m b md q s s) (hq : q + 1 = md + m) (hm : 0 < m) (hmb : m < b) : MidOut cv d a m b md s (md + m - s) := by
  have R := h.range
  obtain ⟨s0, r0, hM, h1, h2, h3, h4, h5⟩ := h
  have := hM.ha; have := hM.hrm; have := hM.hmd; have h6 := hM.ht; have h7 := hM.hs; have h8 := hM.hr
  refine ⟨by omega, by omega, by omega, by omega, by omega, by omega, fun k1 k2 => ?_, fun k1 k2 => ?_⟩
  · have := h4 (s - 1) (by omega) (by omega)
    rwa [show q - (s - 1) = md + m - s by omega] at this
  · have := h5 s (by omega) (by omega)
    rwa [show q - s = md + m - s - 1 by omega] at this
theorem MidOut.all (H : SWo (ltOf cv)) (I : SymIn f cb cv d N g a m b w) {t : Nat} (h : MidOut cv d a m b md s t) :
    Sorted (ltOf cv) (rot d s m t) a s ∧ Sorted (ltOf cv) (rot d s m t) s md ∧ Lows (rot d s m t) a s md ∧ Sorted (ltOf cv) (rot d s m t) md t ∧ Sorted (ltOf cv) (rot d s m t) t b ∧ Lows (rot d s m t) md t b ∧ (∀ i j, a ≤ i → i < md → md ≤ j → j < b → Ltn (ltOf cv) (rot d s m t i) (rot d s m t j)) :=
  merge_mid H I.s1 I.s2 I.lo h.has h.hsm h.hmt h.htb h.hmd h.ht h.low h.high
theorem rot_lt (h : ∀ k, k < N → d k < N) {t : Nat} (h1 : s ≤ m) (h2 : m ≤ t) (h3 : t ≤ N) : ∀ k, k < N → rot d s m t k < N := by
  intro k hk
  unfold rot
  split
  · exact h _ (by omega)
  · split
    · exact h _ (by omega)
    · exact h _ hk
theorem Merged.lt {lt : Nat → Nat → Bool} {e : Nat → Nat} (h : Merged lt d a b e) (hd : ∀ k, k < N → d k < N) (hb : b ≤ N) : ∀ k, k < N → e k < N := by
  intro k hk
  by_cases c1 : k < a ∨ b ≤ k
  · rw [h.off k c1]; exact hd k hk
  · obtain ⟨i', h1, h2, h3⟩ := h.mem (show a ≤ k by omega) (show k < b by omega)
    rw [← h3]; exact hd i' (by omega)
end

theorem Sorted.congr {lt : Nat → Nat → Bool} {d e : Nat → Nat} {a b : Nat} (h : Sorted lt d a b) (he : ∀ k, a ≤ k → k < b → e k = d k) : Sorted lt e a b := by
  intro i j hi hij hj
  rw [he i hi (by omega), he j (by omega) hj]
  exact h i j hi hij hj
theorem Lows.congr {d e : Nat → Nat} {a m b : Nat} (h : Lows d a m b) (he : ∀ k, a ≤ k → k < b → e k = d k) (hm : m ≤ b) (ham : a ≤ m) : Lows e a m b := by
  intro i j hi him hj hjb
  rw [he i hi (by omega), he j (by omega) hjb]
  exact h i j hi him hj hjb
/-- What the two calls of itself ask, what comes of it where it isn't called. -/
theorem half1 {f : Nat} {cb : Array Value} {cv : Nat → Nat → Int} {d : Nat → Nat} {N g a m b md s t : Nat} {w w1 : World} (H : SWo (ltOf cv)) (I : SymIn f cb cv d N g a m b w) (MO : MidOut cv d a m b md s t) (hi : IR w1 g N (rot d s m t)) (hk : Kept (· = g) w w1) :
    (a < s ∧ s < md → SymIn f cb cv (rot d s m t) N g a s md w1) ∧ (¬ (a < s ∧ s < md) → Merged (ltOf cv) (rot d s m t) a md (rot d s m t)) := by
  obtain ⟨A1, A2, A3, A4, A5, A6, A7⟩ := MO.all H I
  have h1 := MO.has; have h2 := MO.hsm; have h3 := MO.hmt; have h4 := MO.htb; have h5 := MO.hmd; have h6 := I.bN
  refine ⟨fun h => ⟨I.cm.on hk, hi, rot_lt I.lt h2 h3 (by omega), A1, A2, A3, h.1, h.2, by omega⟩, fun h => Merged.self ?_⟩
  by_cases e : s = a
  · rw [← e]; exact A2
  · rw [show md = s by omega]; exact A1
theorem half2 {f : Nat} {cb : Array Value} {cv : Nat → Nat → Int} {d d2 : Nat → Nat} {N g a m b md s t : Nat} {w w1 : World} (H : SWo (ltOf cv)) (I : SymIn f cb cv d N g a m b w) (MO : MidOut cv d a m b md s t) (hm : Merged (ltOf cv) (rot d s m t) a md d2) (hi : IR w1 g N d2) (hk : Kept (· = g) w w1) :
    (md < t ∧ t < b → SymIn f cb cv d2 N g md t b w1) ∧ (¬ (md < t ∧ t < b) → Merged (ltOf cv) d2 md b d2) ∧ (∀ d3, Merged (ltOf cv) d2 md b d3 → Merged (ltOf cv) d a b d3) := by
  obtain ⟨A1, A2, A3, A4, A5, A6, A7⟩ := MO.all H I
  have h1 := MO.has; have h2 := MO.hsm; have h3 := MO.hmt; have h4 := MO.htb; have h5 := MO.hmd; have h6 := I.bN; have h7 := MO.ht
  have hoff : ∀ k, md ≤ k → d2 k = rot d s m t k := fun k hk => hm.off k (.inr hk)
  have B4 : Sorted (ltOf cv) d2 md t := A4.congr (fun k hk _ => hoff k hk)
  have B5 : Sorted (ltOf cv) d2 t b := A5.congr (fun k hk _ => hoff k (by omega))
  refine ⟨fun h => ⟨I.cm.on hk, hi, hm.lt (rot_lt I.lt h2 h3 (by omega)) (by omega), B4, B5, A6.congr (fun k hk _ => hoff k hk) h4 (by omega), h.1, h.2, h6⟩, fun h => Merged.self ?_, fun d3 hd3 => ?_⟩
  · by_cases e : t = md
    · rw [← e]; exact B5
    · rw [show b = t by omega]; exact B4
  · exact merge_both (by omega) (by omega) (fun k hk => by unfold rot; grind) (rot_perm d h1 h2 h3 h4) A7 hm hd3

set_option maxRecDepth 100000 in
set_option maxHeartbeats 8000000 in
theorem sym_mid (n : Nat) (f : Nat) (cb : Array Value) (cv : Nat → Nat → Int) (H : SWo (ltOf cv)) (N g c : Nat) (hN : N ≤ 1000000)
    (ih : ∀ (d : Nat → Nat) (a m b : Nat) (w : World), b - a ≤ n → SymIn f cb cv d N g a m b w → Calls Tryz.prog 98 #[.slice (some ⟨g, 0, none⟩) N c, .int .i64 a, .int .i64 m, .int .i64 b, .func (.func f) #[] cb] w (SortPost (ltOf cv) d a b g N w))
    (d : Nat → Nat) (a m b : Nat) (w : World) (hn : b - a ≤ n + 1) (hI : SymIn f cb cv d N g a m b w) (ham : m ≠ a + 1) (hmb : b ≠ m + 1) :
    Calls Tryz.prog 98 #[.slice (some ⟨g, 0, none⟩) N c, .int .i64 a, .int .i64 m, .int .i64 b, .func (.func f) #[] cb] w (SortPost (ltOf cv) d a b g N w) := by
  have I := Lib.hid hI
  have IH := Lib.hid ih; clear ih
  have eg := hI.cm.1
  have ha := hI.am
  have hb := hI.mb
  have hbN := hI.bN
  clear hI
  have q0 : ((m : Int) - (a : Int) == 1) = false := by simp; omega
  have q1 : ((b : Int) - (m : Int) == 1) = false := by simp; omega
  obtain ⟨md, hmd⟩ : ∃ md, md = (a + b) / 2 := ⟨_, rfl⟩
  have E1 : ((a : Int) + (b : Int)) / 2 = (md : Int) := by omega
  obtain ⟨q, hq⟩ : ∃ q, q + 1 = md + m := ⟨md + m - 1, by omega⟩
  have E2 : (md : Int) + (m : Int) - 1 = (q : Int) := by omega
  have HQ := Lib.hid hq
  have MI1 := Lib.hid (show md < m → MidIn a m b md q (md + m - b) md from fun h => ⟨by omega, by omega, by omega, by omega, fun c h1 h2 => by omega, by omega, by omega, by omega⟩)
  have MI2 := Lib.hid (show ¬ md < m → MidIn a m b md q a m from fun h => ⟨by omega, by omega, by omega, by omega, fun c h1 h2 => by omega, by omega, by omega, by omega⟩)
  have E3 : md < m → (md : Int) + (m : Int) - (b : Int) = ((md + m - b : Nat) : Int) := by omega
  have mdb : md < b := by omega
  have HMD := Lib.hid (show a < md ∧ b - md ≤ n ∧ md - a ≤ n by omega)
  clear hmd hq
  go_enter Tryz.func98, Tryz.ntmps98
  go_upto_if 140 with fail
  go_cut [20, 21] (fun u v wx => ∃ s r : Nat, u = .int .i64 s ∧ v = .int .i64 r ∧ w = wx ∧ Hid (MidRel cv d a m b md q s r))
  case first =>
    as_aux_lemma =>
      by_cases hc : md < m
      · have E4 := E3 hc
        have MR := Lib.hid (MidRel.start (cv := cv) (d := d) (MI1.out hc))
        have i0 : (md : Int) < (m : Int) := by omega
        clear E3
        generalize md + m - b = s at *
        go_wp2
        go_meet
        case rel => exact ⟨s, md, rfl, rfl, rfl, MR⟩
      · have MR := Lib.hid (MidRel.start (cv := cv) (d := d) (MI2.out hc))
        have i0 : ¬ (md : Int) < (m : Int) := by omega
        clear E3
        go_wp2
        go_meet
        case rel => exact ⟨a, m, rfl, rfl, rfl, MR⟩
  case rest =>
    as_aux_lemma =>
      obtain ⟨s, r, rfl, rfl, rfl, MR⟩ := hcut
      clear MI1 MI2 E3
      go_wp2
      go_loopw [20, 21, 23] (fun u v x wr => ∃ s r : Nat, u = .int .i64 s ∧ v = .int .i64 r ∧ IR wr g N d ∧ Kept (· = g) w wr ∧ Hid (MidRel cv d a m b md q s r)) (fun u v _ _ => (intOf v).toNat - (intOf u).toNat)
      case atStart => exact ⟨s, r, rfl, rfl, I.out.ir, Kept.refl _ _, MR⟩
      case round =>
        clear MR
        clear s r
        obtain ⟨s, r, rfl, rfl, hir0, hkp0, MR⟩ := hrel
        have HI0 := Lib.hid hir0; clear hir0
        have HK0 := Lib.hid hkp0; clear hkp0
        by_cases hlt : s < r
        · obtain ⟨h, hh⟩ : ∃ h, h = (s + r) / 2 := ⟨_, rfl⟩
          have RG := Lib.hid MR.out.range
          have RA := Lib.hid (MR.out.at (c := h) (by omega) (by omega))
          have E4 : ((s : Int) + (r : Int)) / 2 = (h : Int) := by omega
          have hih : s ≤ h := by omega
          have hhj : h < r := by omega
          have hhN : h < N := by have := RA.out; omega
          obtain ⟨p, hp⟩ : ∃ p, p = q - h := ⟨_, rfl⟩
          have hpN : p < N := by have := RA.out; omega
          have E5 : (q : Int) - (h : Int) = (p : Int) := by have := RA.out; omega
          have W5 : IntKind.i64.wrap ((q : Int) - (h : Int)) = (p : Int) := by rw [IntWalk.i64_in _ (by omega), E5]
          have hsr : s + r ≤ N + N := by have := RG.out; omega
          have hsN : s ≤ N := by have := RG.out; omega
          have hrN : r ≤ N := by have := RG.out; omega
          have hqN : q ≤ N + N := by have := RA.out; omega
          clear hh
          have c1 := HI0.out.cell hhN
          have c2 := HI0.out.cell hpN
          have CC := Lib.hid (fun n => I.out.cm.at HK0.out (I.out.lt p hpN) (I.out.lt h hhN) n)
          have i1 : (0 : Int) ≤ (h : Int) := by omega
          have i2 : (h : Int) < (N : Int) := by omega
          have i3 : (0 : Int) ≤ (p : Int) := by omega
          have i4 : (p : Int) < (N : Int) := by omega
          cases hl : ltOf cv (d p) (d h) with
          | false =>
            have MR2 := Lib.hid (MR.out.ge H I.out hih hhj (by rw [← hp]; exact hl))
            have hb1 : decide (cv (d p) (d h) < 0) = false := hl
            clear hl hp
            generalize cv (d p) (d h) = v at *
            go_wp2_with fail
            go_quiet (first | (go_at_fn f; refine Calls.quiet_of (CC.out _)))
            go_wp2_with fail
            go_roundw
            case rel => exact ⟨h + 1, r, by go_num, rfl, HI0.out, HK0.out.drewN _, MR2⟩
            case measure => simp [intOf]; omega
          | true =>
            have MR2 := Lib.hid (MR.out.lt H I.out hih hhj (by rw [← hp]; exact hl))
            have hb1 : decide (cv (d p) (d h) < 0) = true := hl
            clear hl hp
            generalize cv (d p) (d h) = v at *
            go_wp2_with fail
            go_quiet (first | (go_at_fn f; refine Calls.quiet_of (CC.out _)))
            go_wp2_with fail
            go_roundw
            case rel => exact ⟨s, h, rfl, rfl, HI0.out, HK0.out.drewN _, MR2⟩
            case measure => simp [intOf]; omega
        · have RG := MR.out.range
          obtain rfl : s = r := by omega
          have MO := Lib.hid (MR.out.out HQ.out (by omega) hb)
          obtain ⟨t, ht⟩ : ∃ t, t = md + m - s := ⟨_, rfl⟩
          rw [← ht] at MO
          have E6 : (md : Int) + (m : Int) - (s : Int) = (t : Int) := by omega
          have htb := MO.out.htb
          have hmt := MO.out.hmt
          clear ht MR
          obtain ⟨w0, rfl⟩ : ∃ w0, w0 = wr := ⟨_, rfl⟩
          have hsm := RG.2.2.1
          have hsN : s ≤ N := by omega
          have htN : t ≤ N := by omega
          go_upto_region 39 with fail
          clear E6
          obtain ⟨B, hB⟩ : ∃ B : Bool, B = decide (s < m ∧ m < t) := ⟨_, rfl⟩
          have HB := Lib.hid hB; clear hB
          go_cut [185] (fun v wx => v = .bool B ∧ w0 = wx)
          case first =>
            as_aux_lemma =>
              by_cases k1 : s < m
              · have j1 : (s : Int) < (m : Int) := by omega
                by_cases k2 : m < t
                · have j2 : (m : Int) < (t : Int) := by omega
                  obtain rfl : B = true := by rw [HB.out]; simp [k1, k2]
                  go_wp2_with fail
                  go_meet
                  case rel => exact ⟨rfl, rfl⟩
                · have j2 : ¬ (m : Int) < (t : Int) := by omega
                  obtain rfl : B = false := by rw [HB.out]; simp [k2]
                  go_wp2_with fail
                  go_meet
                  case rel => exact ⟨rfl, rfl⟩
              · have j1 : ¬ (s : Int) < (m : Int) := by omega
                obtain rfl : B = false := by rw [HB.out]; simp [k1]
                go_wp2_with fail
                go_meet
                case rel => exact ⟨rfl, rfl⟩
          case rest =>
            as_aux_lemma =>
              obtain ⟨rfl, rfl⟩ := hcut
              go_upto_if 185 with fail
              go_cut [] (fun wx => IR wx g N (rot d s m t) ∧ Kept (· = g) w wx)
              case first =>
                as_aux_lemma =>
                  cases B with
                  | true =>
                    have k1 := of_decide_eq_true HB.out.symm
                    have RT := Lib.hid (rotate_any f cb d N g s m t c w0 HI0.out k1.1 k1.2 htN hN)
                    clear k1
                    go_wp2_with fail
                    refine RT.out.mono ?_
                    rintro e1 w1 ⟨rfl, hi1, hk1⟩
                    go_wp2_with fail
                    go_meet
                    case rel => exact ⟨hi1, HK0.out.trans hk1⟩
                  | false =>
                    have HR := Lib.hid (show rot d s m t = d by
                      have k1 := of_decide_eq_false HB.out.symm
                      by_cases e : s = m
                      · rw [e, rot_left]
                      · rw [show t = m by omega, rot_right])
                    go_wp2_with fail
                    go_meet
                    case rel => exact ⟨by rw [HR.out]; exact HI0.out, HK0.out⟩
              case rest =>
                as_aux_lemma =>
                  obtain ⟨hi1, hk1⟩ := hcut
                  have HI1 := Lib.hid hi1; clear hi1
                  have HK1 := Lib.hid hk1; clear hk1
                  generalize wc = w1 at *
                  have HF := Lib.hid (half1 H I.out MO.out HI1.out HK1.out)
                  clear HI0 HK0 HB B
                  go_upto_region 41 with fail
                  obtain ⟨B, hB⟩ : ∃ B : Bool, B = decide (a < s ∧ s < md) := ⟨_, rfl⟩
                  have HB := Lib.hid hB; clear hB
                  go_cut [199] (fun v wx => v = .bool B ∧ w1 = wx)
                  case first =>
                    as_aux_lemma =>
                      by_cases k1 : a < s
                      · have j1 : (a : Int) < (s : Int) := by omega
                        by_cases k2 : s < md
                        · have j2 : (s : Int) < (md : Int) := by omega
                          obtain rfl : B = true := by rw [HB.out]; simp [k1, k2]
                          go_wp2_with fail
                          go_meet
                          case rel => exact ⟨rfl, rfl⟩
                        · have j2 : ¬ (s : Int) < (md : Int) := by omega
                          obtain rfl : B = false := by rw [HB.out]; simp [k2]
                          go_wp2_with fail
                          go_meet
                          case rel => exact ⟨rfl, rfl⟩
                      · have j1 : ¬ (a : Int) < (s : Int) := by omega
                        obtain rfl : B = false := by rw [HB.out]; simp [k1]
                        go_wp2_with fail
                        go_meet
                        case rel => exact ⟨rfl, rfl⟩
                  case rest =>
                    as_aux_lemma =>
                      obtain ⟨rfl, rfl⟩ := hcut
                      go_upto_if 199 with fail
                      go_cut [] (fun wx => ∃ d2, Hid (Merged (ltOf cv) (rot d s m t) a md d2) ∧ IR wx g N d2 ∧ Kept (· = g) w wx)
                      case first =>
                        as_aux_lemma =>
                          cases B with
                          | true =>
                            have k1 := of_decide_eq_true HB.out.symm
                            have RT := Lib.hid (IH.out _ a s md w1 (by have := HMD.out; omega) (HF.out.1 k1))
                            clear k1
                            go_wp2_with fail
                            refine RT.out.mono ?_
                            rintro e1 w2 ⟨rfl, d2, hm2, hi2, hk2⟩
                            go_wp2_with fail
                            go_meet
                            case rel => exact ⟨d2, Lib.hid hm2, hi2, HK1.out.trans hk2⟩
                          | false =>
                            have k1 := Lib.hid (HF.out.2 (of_decide_eq_false HB.out.symm))
                            go_wp2_with fail
                            go_meet
                            case rel => exact ⟨_, k1, HI1.out, HK1.out⟩
                      case rest =>
                        as_aux_lemma =>
                          obtain ⟨d2, HM2, hi2, hk2⟩ := hcut
                          have HI2 := Lib.hid hi2; clear hi2
                          have HK2 := Lib.hid hk2; clear hk2
                          generalize wc = w2 at *
                          have HG := Lib.hid (half2 H I.out MO.out HM2.out HI2.out HK2.out)
                          clear HI1 HK1 HB HF B
                          by_cases k1 : md < t
                          · have j1 : (md : Int) < (t : Int) := by omega
                            by_cases k2 : t < b
                            · have j2 : (t : Int) < (b : Int) := by omega
                              have RT := Lib.hid (IH.out _ md t b w2 (by have := HMD.out; omega) (HG.out.1 ⟨k1, k2⟩))
                              go_wp2_with fail
                              refine RT.out.mono ?_
                              rintro e1 w3 ⟨rfl, d3, hm3, hi3, hk3⟩
                              go_wp2_with fail
                              go_end0
                              exact ⟨rfl, d3, HG.out.2.2 d3 hm3, hi3, HK2.out.trans hk3⟩
                            · have j2 : ¬ (t : Int) < (b : Int) := by omega
                              have k3 := Lib.hid (HG.out.2.2 _ (HG.out.2.1 (fun h => k2 h.2)))
                              go_wp2_with fail
                              go_end0
                              exact ⟨rfl, d2, k3.out, HI2.out, HK2.out⟩
                          · have j1 : ¬ (md : Int) < (t : Int) := by omega
                            have k3 := Lib.hid (HG.out.2.2 _ (HG.out.2.1 (fun h => k1 h.1)))
                            go_wp2_with fail
                            go_end0
                            exact ⟨rfl, d2, k3.out, HI2.out, HK2.out⟩
theorem symMerge_any (n : Nat) (f : Nat) (cb : Array Value) (cv : Nat → Nat → Int) (H : SWo (ltOf cv)) (N g c : Nat) (hN : N ≤ 1000000) :
    ∀ (d : Nat → Nat) (a m b : Nat) (w : World), b - a ≤ n → SymIn f cb cv d N g a m b w → Calls Tryz.prog 98 #[.slice (some ⟨g, 0, none⟩) N c, .int .i64 a, .int .i64 m, .int .i64 b, .func (.func f) #[] cb] w (SortPost (ltOf cv) d a b g N w) := by
  induction n with
  | zero =>
    intro d a m b w hn hI
    have := hI.am; have := hI.mb
    omega
  | succ n ih =>
    intro d a m b w hn hI
    by_cases h1 : m = a + 1
    · subst h1
      exact sym_left f cb cv H d N g a b c w hI hN
    · by_cases h2 : b = m + 1
      · subst h2
        exact sym_right f cb cv H d N g a m c w hI h1 hN
      · exact sym_mid n f cb cv H N g c hN ih d a m b w hn hI h1 h2
end Go.Proofs.YtpkgjokehgihjaaGreat

/- Several texts in one: GatherW, MatP, TabSizeW. -/
import Derived.Test.YtpkgjokehgihjaaGreatDelX
import Derived.Test.YtpkgjokehgihjaaGreatFrame
import Derived.Test.YtpkgjokehgihjaaGreatGen
import Derived.Test.YtpkgjokehgihjaaGreatRollX
import Derived.Test.YtpkgjokehgihjaaGreatMarkMath
import Derived.Test.YtpkgjokehgihjaaGreatOwnL
import Derived.Test.YtpkgjokehgihjaaGreatProg
import Derived.Test.YtpkgjokehgihjaaGreatRows
import Derived.Test.YtpkgjokehgihjaaGreatShelf
import Derived.Test.YtpkgjokehgihjaaGreatSigAt
import Derived.Test.YtpkgjokehgihjaaGreatSignMath
import Derived.Test.YtpkgjokehgihjaaGreatSignW
import Derived.BigQuiet
import Derived.Deep.QuietTactic
import Derived.IntWalk
import Derived.Laws.BitsAllLaws
import Derived.Laws.Rows
import Derived.Laws.Tables
import Derived.Lib.Hide
import Derived.Outline
import Derived.StillTailTactics
import Derived.WalkKit
import Derived.WalkLawsBesides
import Derived.WalkSpells
import Derived.Test.YtpkgjokehgihjaaGreatTabX
import Derived.Test.YtpkgjokehgihjaaGreatCmpW
import Derived.Test.YtpkgjokehgihjaaGreatNewTabW
import Derived.Test.YtpkgjokehgihjaaGreatRollMath
import Derived.Test.YtpkgjokehgihjaaGreatSortX
import Derived.Test.YtpkgjokehgihjaaGreatSortEW
import Derived.BigRegion
import Derived.ChangeAlike
import Derived.Deep.CutBlock
import Derived.Deep.DeepCutAuto
import Derived.Deep.Draws
import Derived.Deep.RegionHeld3
import Derived.Deep.RegionLaw
import Derived.Laws.Bits128
import Derived.Laws.IdiomStrings
import Derived.Laws.MakeOwn
import Derived.Lib.AppendStr
import Derived.Maps.OwnSet
import Derived.Maps.Views
import Derived.RegionTactic
import Derived.Deep.AppendLies
import Derived.Deep.CutRange
import Derived.OpenShut
import Derived.ProofKit
import Derived.Shelf.Abstract
import Derived.ShutString
import Derived.SizedLaws
import Derived.SliceStrings
/- Walks of gather and take: texts and copies behind steps. -/
set_option linter.unusedVariables false
namespace Go.Proofs.YtpkgjokehgihjaaGreat
open Go.RowKit

theorem gather_one (l : List DSt) (s : Txt) (hs : 0 < s.length) : gatherS (l ++ [txtSt (s.take 4096)]) (s.drop 4096) = gatherS l s := (gather_cons l s hs).symm

set_option maxRecDepth 100000 in
set_option maxHeartbeats 1000000 in
theorem gather_any (base n : Nat) (v : Value) (l : List DSt) (s : Txt) (w : World) (h : OwnS w base v l) (hok : OkL n l) (hn : n + s.length ≤ 1100000) (hb : base ≤ w.heap.size) :
    Calls Tryz.prog 63 #[v, .string ⟨s.toArray⟩] w fun e w' => ∃ v', e = .returned v' ∧ OwnS w' base v' (gatherS l s) ∧ TurnS base w v w' v' := by
  have H0 := Lib.hid h; clear h
  have hlen := hok.len
  have HB0 := hb
  have HSN := Lib.hid (show ∃ a k c, v = .slice a k c from own_slice H0.out)
  go_enter Tryz.func63, Tryz.ntmps63
  go_wp2_with fail
  go_loopw [0, 1] (fun a b wr => ∃ (l1 : List DSt) (r : Txt), b = .string ⟨r.toArray⟩ ∧ OwnS wr base a l1 ∧ Hid (gatherS l1 r = gatherS l s) ∧ l1.length + r.length ≤ 1100000 ∧ TurnS base w v wr a) (fun _ b _ => lenT b)
  case atStart => exact ⟨l, s, rfl, H0.out, Lib.hid rfl, by omega, TurnS.refl _ _ _⟩
  case round =>
    obtain ⟨l1, r, rfl, ho, HG, hll, htn⟩ := hrel
    have HO := Lib.hid ho; clear ho
    have RL := Lib.hid (show (⟨r.toArray⟩ : ByteArray).size = r.length from rfl)
    by_cases hlt : 0 < r.length
    · have hne : r.isEmpty = false := by cases r <;> simp_all
      have CL := fun w' => Lib.hid (rclone_any (r.take 4096) w' (by rw [List.length_take]; omega))
      have HSL := Lib.hid (own_slice HO.out)
      have HE := Lib.hid (show (⟨r.toArray⟩ : ByteArray).extract 0 (((min r.length 4096 : Nat) : Int)).toNat = ⟨(r.take 4096).toArray⟩ by
        rw [take_toArray, Int.toNat_natCast]
        congr 2
        rcases Nat.lt_or_ge r.length 4096 with h | h
        · rw [Nat.min_eq_left (by omega), List.take_of_length_le (Nat.le_refl _), List.take_of_length_le (by omega)]
        · rw [Nat.min_eq_right h])
      have HE2 := Lib.hid (show (⟨r.toArray⟩ : ByteArray).extract (((min r.length 4096 : Nat) : Int)).toNat r.length = ⟨(r.drop 4096).toArray⟩ by
        rw [drop_toArray _ _ _ (Nat.le_refl _), Int.toNat_natCast]
        congr 2
        rcases Nat.lt_or_ge r.length 4096 with h | h
        · rw [Nat.min_eq_left (by omega), List.drop_of_length_le (Nat.le_refl _), List.drop_of_length_le (by omega)]
        · rw [Nat.min_eq_right h])
      have HG2 := Lib.hid ((gather_one l1 r hlt).trans HG.out)
      have HM := Lib.hid (show min (r.length : Int) 4096 = ((min r.length 4096 : Nat) : Int) by omega)
      have m1 : ((min r.length 4096 : Nat) : Int) ≤ (r.length : Int) := by omega
      have m2 : (0 : Int) ≤ ((min r.length 4096 : Nat) : Int) := by omega
      have HDL := Lib.hid (show l1.length + 1 + (r.drop 4096).length ≤ 1100000 by rw [List.length_drop]; omega)
      have HDS := Lib.hid (show (r.drop 4096).length < r.length by rw [List.length_drop]; omega)
      go_upto_region 3 with fail
      rw [HM.out]
      clear HM
      generalize ((min r.length 4096 : Nat) : Int) = mm at *
      generalize r.take 4096 = t at *
      generalize r.drop 4096 = r2 at *
      go_wp2_with (first | (rw [HE.out]) | fail)
      refine (CL _).out.mono ?_
      rintro e w1 ⟨rfl, hb1⟩
      have O1 := Lib.hid (HO.out.new hb1)
      have T1 := Lib.hid (htn.new hb1 HB0)
      have hll1 : l1.length ≤ 2000000 := by omega
      have hsz : base ≤ w1.heap.size := by have := hb1.size; have := htn.kept.size; omega
      clear hb1 HO CL
      go_wp2_with (at_builtin; refine append_st (w := w1) (by rfl) (.tmp 11) (.tmp 17) 32 _ (by rfl) Tryz.underlying32 info_step (by rfl) base u0 l1 (txtSt t) (by rfl) O1.out (by rfl) hll1 hsz ?_; intro v' w3 hown3 htn3)
      have O3 := Lib.hid hown3; clear hown3
      have T3 := Lib.hid (T1.out.trans htn3); clear htn3 htn T1 O1
      go_wp2_with (first | (rw [HE2.out]) | fail)
      go_roundw
      case rel => exact ⟨_, r2, by rw [HE2.out], O3.out, HG2, by simp; have := HDL.out; omega, T3.out⟩
      case measure =>
        rw [HE2.out]
        exact HDS.out
    · obtain rfl : r = [] := List.eq_nil_of_length_eq_zero (by omega)
      have HG2 := Lib.hid (show l1 = gatherS l s by rw [← HG.out, gather_nil])
      clear HG
      go_wp2_with fail
      go_ret
      exact ⟨_, rfl, by rw [← HG2.out]; exact HO.out, htn⟩

theorem own_last {w : World} {base : Nat} {v : Value} {l : List DSt} {x : DSt} (h : OwnS w base v (l ++ [x])) : ∃ g cap, v = .slice (some ⟨g, 0, none⟩) (l.length + 1) cap ∧ base ≤ g ∧ DStAt w g (l.length * 3) x := by
  rcases h.2 with ⟨rfl, hn⟩ | ⟨g, cap, cur, rfl, hb, hg, _⟩
  · simp at hn
  · have C := World.ownsRow.cells h (g := g) rfl
    obtain ⟨f0, f1, f2⟩ := flat_get (l ++ [x]) l.length (by simp)
    have D0 := C _ _ f0
    have D1 := C _ _ f1
    have D2 := C _ _ f2
    rw [addr_add0] at D0 D1 D2
    rw [List.getElem_concat_length (by rfl)] at D0 D1 D2
    refine ⟨g, cap, by simp, hb, D0, D1, D2⟩

set_option maxRecDepth 100000 in
set_option maxHeartbeats 1000000 in
theorem take_any (base n : Nat) (v : Value) (l : List DSt) (a k : Int) (w : World) (h : OwnS w base v l) (hok : OkL n l) (hn : n ≤ 1100000) (ha : 0 ≤ a) (ha2 : a ≤ 1073741824) (hk : 0 ≤ k) (hk2 : k ≤ 1100000) (hb : base ≤ w.heap.size) :
    Calls Tryz.prog 62 #[v, .int .i64 a, .int .i64 k] w fun e w' => ∃ v', e = .returned v' ∧ OwnS w' base v' (takeS l a k) ∧ TurnS base w v w' v' := by
  have H0 := Lib.hid h; clear h
  have HB := Lib.hid hb; clear hb
  have hlen := hok.len
  rcases List.eq_nil_or_concat l with rfl | ⟨l1, x, rfl⟩
  · obtain ⟨s0, m0, c0, rfl⟩ := own_slice H0.out
    obtain rfl : m0 = 0 := own_lenV H0.out
    go_enter Tryz.func62, Tryz.ntmps62
    go_wp2_with (at_builtin; refine append_st (w := w) (by rfl) (.tmp 43) (.tmp 47) 32 _ (by rfl) Tryz.underlying32 info_step (by rfl) base _ [] ⟨a, k, []⟩ (by rfl) H0.out (by rfl) (by simp) HB.out ?_; intro v' w3 hown3 htn3)
    go_ret
    exact ⟨_, rfl, hown3, htn3⟩
  · rw [List.concat_eq_append] at H0 hok hlen ⊢
    have hx := hok.el x (by simp)
    rw [List.length_append, List.length_singleton] at hlen
    obtain ⟨p, m, t⟩ := x
    dsimp only at hx
    obtain ⟨x1, x2, x3, x4⟩ := hx
    obtain ⟨g, cap, rfl, hg, hst⟩ := own_last H0.out
    obtain ⟨d0, d1, d2⟩ := hst
    dsimp only at d0 d1 d2
    have HT := Lib.hid (take_snoc l1 ⟨p, m, t⟩ a k)
    dsimp only at HT
    have i1 : (0 : Int) < ((l1.length + 1 : Nat) : Int) := by omega
    have i2 : ((l1.length + 1 : Nat) : Int) - 1 = (l1.length : Int) := by omega
    have i3 : (l1.length : Int) < ((l1.length + 1 : Nat) : Int) := by omega
    generalize takeS (l1 ++ [⟨p, m, t⟩]) a k = res at *
    by_cases h1 : t = []
    · subst h1
      by_cases h2 : p + m = a
      · have HR := Lib.hid (show res = l1 ++ [⟨p, m + k, []⟩] by rw [HT.out, if_pos ⟨rfl, h2⟩])
        have q1 : (p + m == a) = true := by simp [h2]
        clear HT h2 hok
        go_enter Tryz.func62, Tryz.ntmps62
        go_wp2_with fail
        go_quiet (fail)
        have hbq := Below_drewN (Below.refl w.heap.size w) nq
        have hkq : Kept (fun k => (Value.slice (some ⟨g, 0, none⟩) (l1.length + 1) cap).ownBlock = some k) w (w.drewN nq) := Kept.new hbq _
        have H1 := Lib.hid (H0.out.new hbq)
        obtain ⟨hs1, fz1, hg1⟩ := H1.out.set (m + k)
        have HS := Lib.hid hs1
        have HTN := Lib.hid (show TurnS base w (.slice (some ⟨g, 0, none⟩) (l1.length + 1) cap) ((w.drewN nq).setCell ⟨g, l1.length * 3 + 1, none⟩ (.int .i64 (m + k))) (.slice (some ⟨g, 0, none⟩) (l1.length + 1) cap) from
          ⟨(hbq.mono HB.out).setCell (p := ⟨g, l1.length * 3 + 1, none⟩) hg1 _, hkq.setCell (p := ⟨g, l1.length * 3 + 1, none⟩) rfl _, fun g' e => .inl e⟩)
        have E1 : (w.drewN nq).cell? ⟨g, l1.length * 3 + 1, none⟩ = _ := d1
        clear hs1 hbq hkq d0 d1 d2
        generalize w.drewN nq = w1 at *
        go_wp2_with fail
        go_ret
        exact ⟨_, rfl, by rw [HR.out]; exact HS.out, HTN.out⟩
      · have HR := Lib.hid (show res = l1 ++ [⟨p, m, []⟩] ++ [⟨a, k, []⟩] by rw [HT.out, if_neg (fun c => h2 c.2)])
        have q1 : (p + m == a) = false := by simp [h2]
        clear HT h2 hok
        go_enter Tryz.func62, Tryz.ntmps62
        go_wp2_with fail
        go_quiet (fail)
        have hbq := Below_drewN (Below.refl w.heap.size w) nq
        have hkq : Kept (fun k => (Value.slice (some ⟨g, 0, none⟩) (l1.length + 1) cap).ownBlock = some k) w (w.drewN nq) := Kept.new hbq _
        have H1 := Lib.hid (H0.out.new hbq)
        have HTQ := Lib.hid (show TurnS base w (.slice (some ⟨g, 0, none⟩) (l1.length + 1) cap) (w.drewN nq) (.slice (some ⟨g, 0, none⟩) (l1.length + 1) cap) from ⟨hbq.mono HB.out, hkq, fun g' e => .inl e⟩)
        have hsz : base ≤ (w.drewN nq).heap.size := HB.out
        clear hbq hkq d0 d1 d2
        generalize w.drewN nq = w1 at *
        go_wp2_with (at_builtin; refine append_st (w := w1) (by rfl) (.tmp 43) (.tmp 47) 32 _ (by rfl) Tryz.underlying32 info_step (by rfl) base _ (l1 ++ [⟨p, m, []⟩]) ⟨a, k, []⟩ (by rfl) H1.out (by rfl) (by rw [List.length_append, List.length_singleton]; omega) hsz ?_; intro v' w3 hown3 htn3)
        go_ret
        exact ⟨_, rfl, by rw [HR.out]; exact hown3, HTQ.out.trans htn3⟩
    · have HR := Lib.hid (show res = l1 ++ [⟨p, m, t⟩] ++ [⟨a, k, []⟩] by rw [HT.out, if_neg (fun c => h1 c.1)])
      have hne : t.isEmpty = false := by cases t <;> simp_all
      clear HT h1 hok
      go_enter Tryz.func62, Tryz.ntmps62
      go_wp2_with fail
      go_quiet (fail)
      have hbq := Below_drewN (Below.refl w.heap.size w) nq
      have hkq : Kept (fun k => (Value.slice (some ⟨g, 0, none⟩) (l1.length + 1) cap).ownBlock = some k) w (w.drewN nq) := Kept.new hbq _
      have H1 := Lib.hid (H0.out.new hbq)
      have HTQ := Lib.hid (show TurnS base w (.slice (some ⟨g, 0, none⟩) (l1.length + 1) cap) (w.drewN nq) (.slice (some ⟨g, 0, none⟩) (l1.length + 1) cap) from ⟨hbq.mono HB.out, hkq, fun g' e => .inl e⟩)
      have hsz : base ≤ (w.drewN nq).heap.size := HB.out
      clear hbq hkq d0 d1 d2
      generalize w.drewN nq = w1 at *
      go_wp2_with (at_builtin; refine append_st (w := w1) (by rfl) (.tmp 43) (.tmp 47) 32 _ (by rfl) Tryz.underlying32 info_step (by rfl) base _ (l1 ++ [⟨p, m, t⟩]) ⟨a, k, []⟩ (by rfl) H1.out (by rfl) (by rw [List.length_append, List.length_singleton]; omega) hsz ?_; intro v' w3 hown3 htn3)
      go_ret
      exact ⟨_, rfl, by rw [HR.out]; exact hown3, HTQ.out.trans htn3⟩
end Go.Proofs.YtpkgjokehgihjaaGreat
/- Plain mathematics of Match and Tail by any book that takes one mark a text alone. -/
set_option linter.unusedVariables false
namespace Go.Proofs.YtpkgjokehgihjaaGreat
open Go.RowKit

/-- What a table tells, where P i says that block i is that text. -/
def matchP (P : Nat → Bool) (N B : Nat) (t : Txt) (wanted : Int) : Int :=
  if t.length ≠ B then -1 else if 0 ≤ wanted ∧ wanted < N ∧ P wanted.toNat = true then wanted else lowF P 0 N
theorem lowF_spec {P : Nat → Bool} : ∀ (m k : Nat), ¬ lowF P k m < 0 → ∃ i : Nat, lowF P k m = (i : Int) ∧ k ≤ i ∧ i < k + m ∧ P i = true := by
  intro m
  induction m with
  | zero => intro k h; exact absurd (by unfold lowF; decide) h
  | succ m ih =>
    intro k h
    unfold lowF at h ⊢
    by_cases hp : P k = true
    · rw [if_pos hp]; exact ⟨k, rfl, Nat.le_refl _, by omega, hp⟩
    · rw [if_neg hp] at h ⊢
      obtain ⟨i, h1, h2, h3, h4⟩ := ih (k + 1) h
      exact ⟨i, h1, by omega, by omega, h4⟩
theorem lowF_congr {P Q : Nat → Bool} : ∀ (m k : Nat), (∀ i : Nat, k ≤ i → i < k + m → P i = Q i) → lowF P k m = lowF Q k m := by
  intro m
  induction m with
  | zero => intro k _; rfl
  | succ m ih =>
    intro k h
    unfold lowF
    rw [h k (Nat.le_refl _) (by omega), ih (k + 1) (fun i h1 h2 => h i (by omega) (by omega))]
theorem matchP_spec {P : Nat → Bool} {N B : Nat} {t : Txt} {wanted : Int} (h : ¬ matchP P N B t wanted < 0) : ∃ i : Nat, matchP P N B t wanted = i ∧ i < N ∧ P i = true ∧ t.length = B := by
  unfold matchP at h ⊢
  by_cases hl : t.length = B
  · rw [if_neg (fun c => c hl)] at h ⊢
    by_cases hc : 0 ≤ wanted ∧ wanted < N ∧ P wanted.toNat = true
    · rw [if_pos hc]; exact ⟨wanted.toNat, by omega, by omega, hc.2.2, hl⟩
    · rw [if_neg hc] at h ⊢
      obtain ⟨i, h1, h2, h3, h4⟩ := lowF_spec _ _ h
      exact ⟨i, h1, by omega, h4, hl⟩
  · rw [if_pos hl] at h; exact absurd (by decide) h
theorem matchP_congr {P Q : Nat → Bool} {N B : Nat} (h : ∀ i : Nat, i < N → P i = Q i) (t : Txt) (wanted : Int) : matchP P N B t wanted = matchP Q N B t wanted := by
  unfold matchP
  have h1 : (0 ≤ wanted ∧ wanted < N ∧ P wanted.toNat = true) ↔ (0 ≤ wanted ∧ wanted < N ∧ Q wanted.toNat = true) := by
    constructor
    · rintro ⟨a, b, c⟩; exact ⟨a, b, by rw [← h _ (by omega)]; exact c⟩
    · rintro ⟨a, b, c⟩; exact ⟨a, b, by rw [h _ (by omega)]; exact c⟩
  rw [lowF_congr N 0 (fun i _ h2 => h i (by omega))]
  split
  · rfl
  · by_cases c : 0 ≤ wanted ∧ wanted < N ∧ P wanted.toNat = true
    · rw [if_pos c, if_pos (h1.1 c)]
    · rw [if_neg c, if_neg (fun d => c (h1.2 d))]
theorem matchP_wanted {P : Nat → Bool} {N B : Nat} {t : Txt} {k : Nat} (hl : t.length = B) (hk : k < N) (hp : P k = true) : matchP P N B t k = k := by
  unfold matchP
  rw [if_neg (fun c => c hl), if_pos ⟨by omega, by omega, by rw [Int.toNat_natCast]; exact hp⟩]

def pOf (is : Txt → Bool) (ws : List Int) (ms : List Txt) (weak : Int) (i : Nat) : Bool := decide (wOf ws i = weak) && is (mOf ms i)
theorem matchZ_P {is : Txt → Bool} {ws : List Int} {ms : List Txt} {N B : Nat} {ord : List Nat} (hO : OrdIs ws ms N ord) (hinj : ∀ m m', is m = true → is m' = true → m = m') (t : Txt) (weak wanted : Int) :
    matchZ is ws ms N B ord weak wanted t = matchP (pOf is ws ms weak) N B t wanted := by
  unfold matchZ matchP
  by_cases hl : t.length = B
  · have e1 : ¬ t.length ≠ B := fun c => c hl
    rw [if_neg e1, if_neg e1]
    have hA : (isOfB ws N wanted weak = true ∧ is (mOf ms wanted.toNat) = true) ↔ (0 ≤ wanted ∧ wanted < N ∧ pOf is ws ms weak wanted.toNat = true) := by
      unfold pOf
      rw [Bool.and_eq_true, decide_eq_true_eq]
      constructor
      · rintro ⟨h1, h2⟩
        have h3 := of_decide_eq_true h1
        exact ⟨h3.1, by omega, h3.2.2, h2⟩
      · rintro ⟨h1, h2, h3, h4⟩
        exact ⟨decide_eq_true ⟨h1, by omega, h3⟩, h4⟩
    by_cases hc : isOfB ws N wanted weak = true ∧ is (mOf ms wanted.toNat) = true
    · rw [if_pos hc, if_pos (hA.1 hc)]
    · rw [if_neg hc, if_neg (fun c => hc (hA.2 c))]
      unfold fstS
      have hmem : ∀ j, j ∈ runS ws ord weak ↔ j < N ∧ wOf ws j = weak := by
        intro j
        unfold runS
        rw [List.mem_filter, hO.perm.mem_iff, List.mem_range, decide_eq_true_eq]
      cases hf : (runS ws ord weak).find? (fun i => is (mOf ms i)) with
      | none =>
        rw [List.find?_eq_none] at hf
        symm
        refine lowF_none _ _ (fun j _ hj => ?_)
        unfold pOf
        by_cases hw : wOf ws j = weak
        · have := hf j ((hmem j).2 ⟨by omega, hw⟩)
          simp at this
          rw [this]; simp
        · rw [decide_eq_false hw]; rfl
      | some i =>
        rw [List.find?_eq_some_iff_append] at hf
        obtain ⟨hpi, l1, l2, hl', has⟩ := hf
        have hi := (hmem i).1 (by rw [hl']; simp)
        symm
        refine lowF_some (by unfold pOf; rw [decide_eq_true hi.2, hpi]; rfl) _ _ (Nat.zero_le _) (by omega) (fun j _ hj => ?_)
        cases hcj : pOf is ws ms weak j with
        | false => rfl
        | true =>
          unfold pOf at hcj
          rw [Bool.and_eq_true, decide_eq_true_eq] at hcj
          have hjm : j ∈ runS ws ord weak := (hmem j).2 ⟨by omega, hcj.1⟩
          have hms := runS_MS hO weak
          unfold MS at hms
          rw [hl'] at hjm hms
          rcases List.mem_append.1 hjm with c | c
          · have := has j c
            simp [hcj.2] at this
          · rcases List.mem_cons.1 c with c | c
            · omega
            · have h2 := (List.pairwise_append.1 hms).2.1
              have h3 := (List.pairwise_cons.1 h2).1 j c
              rcases h3 with h3 | ⟨_, h3⟩
              · rw [hinj _ _ hpi hcj.2] at h3
                exact absurd h3 (txt_irr _)
              · omega
  · rw [if_pos hl, if_pos hl]
/-- The first of the blocks of a weak sum. -/
theorem fst_find (is : Txt → Bool) (ws : List Int) (ms : List Txt) (N : Nat) (weak : Int) : fstS is ms ((List.range N).filter (fun i => decide (wOf ws i = weak))) = lowF (pOf is ws ms weak) 0 N := by
  unfold fstS
  have hmem : ∀ j, j ∈ (List.range N).filter (fun i => decide (wOf ws i = weak)) ↔ j < N ∧ wOf ws j = weak := by
    intro j; rw [List.mem_filter, List.mem_range, decide_eq_true_eq]
  have hpw : ((List.range N).filter (fun i => decide (wOf ws i = weak))).Pairwise (fun a b => a < b) := List.Pairwise.filter _ List.pairwise_lt_range
  cases hf : ((List.range N).filter (fun i => decide (wOf ws i = weak))).find? (fun i => is (mOf ms i)) with
  | none =>
    rw [List.find?_eq_none] at hf
    symm
    refine lowF_none _ _ (fun j _ hj => ?_)
    unfold pOf
    by_cases hw : wOf ws j = weak
    · have := hf j ((hmem j).2 ⟨by omega, hw⟩)
      simp at this
      rw [this]; simp
    · rw [decide_eq_false hw]; rfl
  | some i =>
    rw [List.find?_eq_some_iff_append] at hf
    obtain ⟨hpi, l1, l2, hl', has⟩ := hf
    have hi := (hmem i).1 (by rw [hl']; simp)
    symm
    refine lowF_some (by unfold pOf; rw [decide_eq_true hi.2, hpi]; rfl) _ _ (Nat.zero_le _) (by omega) (fun j _ hj => ?_)
    cases hcj : pOf is ws ms weak j with
    | false => rfl
    | true =>
      unfold pOf at hcj
      rw [Bool.and_eq_true, decide_eq_true_eq] at hcj
      have hjm := (hmem j).2 ⟨by omega, hcj.1⟩
      rw [hl'] at hjm hpw
      rcases List.mem_append.1 hjm with c | c
      · have := has j c
        simp [hcj.2] at this
      · rcases List.mem_cons.1 c with c | c
        · omega
        · have h2 := (List.pairwise_append.1 hpw).2.1
          have h3 := (List.pairwise_cons.1 h2).1 j c
          omega
end Go.Proofs.YtpkgjokehgihjaaGreat
/- Walks of a table's Size and Block. -/
set_option linter.unusedVariables false
namespace Go.Proofs.YtpkgjokehgihjaaGreat
open Go.RowKit

set_option maxRecDepth 100000 in
set_option maxHeartbeats 1000000 in
theorem tabSize_any (p B M : Nat) (vw vs vo : Value) (w : World) (h : w.heap[p]? = some (tabC B M vw vs vo)) : Calls Tryz.prog 65 #[.pointer (some ⟨p, 0, none⟩)] w fun e w' => e = .returned (.int .i64 M) ∧ w = w' := by
  obtain ⟨d0, d1, d2, d3, d4⟩ := tab_c h
  clear h
  go_enter Tryz.func65, Tryz.ntmps65
  go_wp2
  go_ret
  exact ⟨rfl, rfl⟩
theorem tabBlock_any (p B M : Nat) (vw vs vo : Value) (w : World) (h : w.heap[p]? = some (tabC B M vw vs vo)) : Calls Tryz.prog 56 #[.pointer (some ⟨p, 0, none⟩)] w fun e w' => e = .returned (.int .i64 B) ∧ w = w' := by
  obtain ⟨d0, d1, d2, d3, d4⟩ := tab_c h
  clear h
  go_enter Tryz.func56, Tryz.ntmps56
  go_wp2
  go_ret
  exact ⟨rfl, rfl⟩
end Go.Proofs.YtpkgjokehgihjaaGreat

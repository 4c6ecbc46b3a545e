/- The document's keep: Keeps, in, Ints, Gens, Check. -/
import Derived.Test.YtgejocceegadhaaFrame
import Derived.Test.YtgejocceegadhaaGen
import Derived.Test.YtgejocceegadhaaKeepMath
import Derived.Test.YtgejocceegadhaaOwnL
import Derived.Test.YtgejocceegadhaaRefKeepW
import Derived.Test.YtgejocceegadhaaRowN
import Derived.Test.YtgejocceegadhaaRows
import Derived.BigQuiet
import Derived.Deep.QuietTactic
set_option linter.unusedVariables false
namespace Go.Proofs.Ytgejocceegadhaa
open Go.RowKit

def encI1 (n : Int) : List Value := [.int .i64 n]
theorem encI1_ok : EncN encI1 1 := ⟨fun _ => rfl, fun x u hu => by simp [encI1] at hu; rw [hu]; rfl⟩
set_option maxRecDepth 100000 in
set_option maxHeartbeats 2000000 in
theorem refKeeps12_any (l e g top : Int) (w : World) (h : PolIn l e) (hg : -9223372036854775808 ≤ g ∧ g ≤ 9223372036854775807) (ht : -9223372036854775808 ≤ top ∧ top ≤ 9223372036854775807) : Calls Try.prog 13 #[polV l e, .int .i64 g, .int .i64 top] w fun en w' => en = .returned (.bool (keepsP l e g top)) ∧ Below w.heap.size w w' := by
  have HBA := Lib.hid ((Below.refl _ w).alloc (Nat.le_refl _) (.cells #[.int .i64 l, .int .i64 e] 23))
  have hbx := heap_alloc_new w (.cells #[.int .i64 l, .int .i64 e] 23)
  have RR := fun X => Lib.hid (refRight12_any l e X h)
  obtain ⟨⟨a1, a2⟩, a3, a4⟩ := h
  obtain ⟨b1, b2⟩ := hg
  obtain ⟨c1, c2⟩ := ht
  unfold polV at RR ⊢
  obtain ⟨rp, hrp⟩ : ∃ rp, rp = rightP l e := ⟨_, rfl⟩
  have HRP := Lib.hid hrp
  rw [← hrp] at RR
  go_enter Try.func13, Try.ntmps13
  go_wp2_with fail
  generalize w.alloc (.cells #[.int .i64 l, .int .i64 e] 23) = wA at *
  obtain ⟨nb, hnb⟩ : ∃ nb, nb = w.heap.size := ⟨_, rfl⟩
  rw [← hnb] at hbx ⊢
  clear hnb
  have HBX := Lib.hid hbx
  refine (RR _).out.mono ?_
  rintro en w2 ⟨rfl, hb2⟩
  have HB2 := Lib.hid (HBA.out.trans (hb2.mono HBA.out.size))
  have HX2 := Lib.hid ((Kept.new hb2 (fun _ => False)).old HBX.out id)
  have k0 : w2.cell? ⟨nb, 0, none⟩ = some (.int .i64 l) := by rw [cell_of_row _ _ _ _ _ _ HX2.out]; rfl
  have k1 : w2.cell? ⟨nb, 1, none⟩ = some (.int .i64 e) := by rw [cell_of_row _ _ _ _ _ _ HX2.out]; rfl
  clear hbx HBX hb2 RR hrp
  cases rp with
  | false =>
    have HZ := Lib.hid (show keepsP l e g top = false by unfold keepsP; rw [← HRP.out]; rfl)
    go_wp2_with fail
    go_ret
    exact ⟨by rw [HZ.out]; rfl, HB2.out⟩
  | true =>
    have hR := of_decide_eq_true (show decide _ = true from HRP.out.symm)
    by_cases d0 : g < 0
    · have HZ := Lib.hid (show keepsP l e g top = false by unfold keepsP; rw [decide_eq_false (show ¬ (0 ≤ g ∧ g ≤ top) by omega)]; simp)
      go_wp2_with fail
      go_ret
      exact ⟨by rw [HZ.out]; rfl, HB2.out⟩
    · by_cases d1 : top < g
      · have HZ := Lib.hid (show keepsP l e g top = false by unfold keepsP; rw [decide_eq_false (show ¬ (0 ≤ g ∧ g ≤ top) by omega)]; simp)
        go_wp2_with fail
        go_ret
        exact ⟨by rw [HZ.out]; rfl, HB2.out⟩
      · have HK := Lib.hid (show keepsP l e g top = (decide (top - g < l) || decide (0 < e ∧ g.tmod e = 0)) by unfold keepsP; rw [← HRP.out, decide_eq_true (show 0 ≤ g ∧ g ≤ top by omega)]; simp)
        have u1 : wrap64 (top - g) = top - g := IntWalk.wrap64_in _ (by omega)
        by_cases d2 : top - g < l
        · have HZ := Lib.hid (HK.out.trans (by rw [decide_eq_true d2] <;> rfl))
          go_wp2_with fail
          go_ret
          exact ⟨by rw [HZ.out]; rfl, HB2.out⟩
        · by_cases d3 : 0 < e
          · have u2 : wrap64 (g.tmod e) = g.tmod e := IntWalk.wrap64_in _ (by
              have h1 := Int.tmod_nonneg e (show 0 ≤ g by omega)
              have h2 := Int.tmod_lt_of_pos g d3
              omega)
            have u3 : IntKind.i64.wrap (g.tmod e) = g.tmod e := IntWalk.i64_in _ (by
              have h1 := Int.tmod_nonneg e (show 0 ≤ g by omega)
              have h2 := Int.tmod_lt_of_pos g d3
              omega)
            have e0 : ¬ e = 0 := by omega
            have e1 : (e == 0) = false := by simp; omega
            have HZ := Lib.hid (HK.out.trans (show _ = (decide (top - g < l) || g % e == 0) from by
              have ht : g.tmod e = g % e := Int.tmod_eq_emod_of_nonneg (by omega)
              have hd : decide (0 < e ∧ g.tmod e = 0) = (g % e == 0) := by
                rw [ht]
                by_cases c : g % e = 0
                · rw [decide_eq_true ⟨d3, c⟩]; simp [c]
                · rw [decide_eq_false (fun k => c k.2)]; simp [c]
              rw [hd]))
            go_wp2_with fail
            go_ret
            exact ⟨by rw [HZ.out]; rfl, HB2.out⟩
          · have HZ := Lib.hid (HK.out.trans (show _ = decide (top - g < l) from by rw [decide_eq_false (show ¬ (0 < e ∧ g.tmod e = 0) from fun c => d3 c.1), Bool.or_false]))
            go_wp2_with fail
            go_ret
            exact ⟨by rw [HZ.out]; rfl, HB2.out⟩
set_option maxRecDepth 100000 in
theorem refIn12_any (v : Value) (l : List Int) (g : Int) (w : World) {N : Nat → Prop} (hrow : RowN encI1 1 N w v l) (hl : l.length ≤ 140737488351232) :
    Calls Try.prog 35 #[v, .int .i64 g] w fun e w' => e = .returned (.bool (decide (g ∈ l))) ∧ w = w' := by
  have HR := Lib.hid hrow
  obtain ⟨va, vc, hv, _⟩ := hrow.slice
  subst hv
  clear hrow
  go_enter Try.func35, Try.ntmps35
  go_wp2_with fail
  go_loopw [5] (fun v5 wr => ∃ i : Nat, i ≤ l.length ∧ v5 = .int .i64 (i : Nat) ∧ w = wr ∧ ∀ x ∈ l.take i, x ≠ g) (fun v5 _ => l.length - (intOf v5).toNat)
  case atStart => exact ⟨0, Nat.zero_le _, rfl, rfl, fun x hx => by simp at hx⟩
  case round =>
    obtain ⟨i, hi, rfl, rfl, hno⟩ := hrel
    have HN := Lib.hid hno
    clear hno
    have i0 : (0 : Int) ≤ (i : Int) := by omega
    by_cases hlt : i < l.length
    · have j1 : (i : Int) < (l.length : Int) := by omega
      obtain ⟨b, o, c', hv, hn, hel⟩ := HR.out.at hlt
      injection hv with ea eb ec
      subst ea; subst ec
      clear eb
      have HT := Lib.hid (show l.take (i + 1) = l.take i ++ [l[i]] from by rw [List.take_succ_eq_append_getElem hlt])
      have HM := Lib.hid (List.getElem_mem hlt)
      generalize l[i] = x at *
      have d0 : w.cell? ⟨b, o + i * 1 + 0, none⟩ = some (.int .i64 x) := hel 0 _ rfl
      rw [Nat.mul_one, Nat.add_zero] at d0
      clear hel
      by_cases he : x = g
      · have q : (x == g) = true := by simp [he]
        have HZ := Lib.hid (show decide (g ∈ l) = true from decide_eq_true (he ▸ HM.out))
        clear he
        go_wp2_with fail
        go_ret
        exact ⟨by rw [HZ.out]; rfl, rfl⟩
      · have q : (x == g) = false := by simp [he]
        have HE := Lib.hid he
        clear he
        go_wp2_with fail
        go_roundw
        case rel =>
          refine ⟨i + 1, hlt, by go_num, trivial, fun y hy => ?_⟩
          rw [HT.out] at hy
          rcases List.mem_append.1 hy with c | c
          · exact HN.out y c
          · rw [List.mem_singleton.1 c]; exact HE.out
        case measure => simp [intOf]; omega
    · have j1 : ¬ (i : Int) < (l.length : Int) := by omega
      have HZ := Lib.hid (show decide (g ∈ l) = false from decide_eq_false (fun hm => HN.out g (by rw [List.take_of_length_le (by omega)]; exact hm) rfl))
      go_wp2_with fail
      go_ret
      exact ⟨by rw [HZ.out]; rfl, rfl⟩
set_option maxRecDepth 100000 in
theorem refInts12_same (u v : Value) (l : List Int) (w : World) {N M : Nat → Prop} (hu : RowN encI1 1 N w u l) (hv : RowN encI1 1 M w v l) (hl : l.length ≤ 140737488351232) :
    Calls Try.prog 24 #[u, v] w fun e w' => e = .returned (.bool true) ∧ Below w.heap.size w w' := by
  have HU := Lib.hid hu
  have HV := Lib.hid hv
  obtain ⟨ua, uc, hu2, _⟩ := hu.slice
  obtain ⟨va, vc, hv2, _⟩ := hv.slice
  subst hu2; subst hv2
  clear hu hv
  have q0 : ((l.length : Int) != (l.length : Int)) = false := by simp
  go_enter Try.func24, Try.ntmps24
  go_wp2_with fail
  go_loopw [5] (fun v5 wr => ∃ i : Nat, i ≤ l.length ∧ v5 = .int .i64 (i : Nat) ∧ Below w.heap.size w wr) (fun v5 _ => l.length - (intOf v5).toNat)
  case atStart => exact ⟨0, Nat.zero_le _, rfl, Below.refl _ _⟩
  case round =>
    obtain ⟨i, hi, rfl, hb⟩ := hrel
    have HB := Lib.hid hb
    clear hb
    have i0 : (0 : Int) ≤ (i : Int) := by omega
    by_cases hlt : i < l.length
    · have j1 : (i : Int) < (l.length : Int) := by omega
      obtain ⟨b, o, c', hv, hn, hel⟩ := HU.out.at hlt
      injection hv with ea eb ec
      subst ea; subst ec
      clear eb
      obtain ⟨b', o', c', hv, hn', hel'⟩ := HV.out.at hlt
      injection hv with ea eb ec
      subst ea; subst ec
      clear eb
      generalize l[i] = x at *
      have d0 : w.cell? ⟨b, o + i * 1 + 0, none⟩ = some (.int .i64 x) := hel 0 _ rfl
      have d1 : w.cell? ⟨b', o' + i * 1 + 0, none⟩ = some (.int .i64 x) := hel' 0 _ rfl
      rw [Nat.mul_one, Nat.add_zero] at d0 d1
      have f0 := (HB.out.cell (p := ⟨b, o + i, none⟩) (World.block_lt_of_cell? w _ d0)).trans d0
      have f1 := (HB.out.cell (p := ⟨b', o' + i, none⟩) (World.block_lt_of_cell? w _ d1)).trans d1
      clear hel hel' d0 d1
      have q : (x != x) = false := by simp
      go_wp2_with fail
      go_quiet (fail)
      have HB2 := Lib.hid (HB.out.trans ((Below_drewN (Below.refl wr.heap.size wr) nq).mono HB.out.size))
      go_wp2_with fail
      go_roundw
      case rel => exact ⟨i + 1, hlt, by go_num, HB2.out⟩
      case measure => simp [intOf]; omega
    · have j1 : ¬ (i : Int) < (l.length : Int) := by omega
      go_wp2_with fail
      go_ret
      exact ⟨rfl, HB.out⟩
set_option maxRecDepth 100000 in
set_option maxHeartbeats 2000000 in
theorem refGens12_same (u v : Value) (l : List GenD) (w : World) {N M : Nat → Prop} (hu : RowN encGn 4 N w u l) (hv : RowN encGn 4 M w v l) (hl : l.length ≤ 140737488351232) :
    Calls Try.prog 29 #[u, v] w fun e w' => e = .returned (.bool true) ∧ Below w.heap.size w w' := by
  have HU := Lib.hid hu
  have HV := Lib.hid hv
  obtain ⟨ua, uc, hu2, _⟩ := hu.slice
  obtain ⟨va, vc, hv2, _⟩ := hv.slice
  subst hu2; subst hv2
  clear hu hv
  have q0 : ((l.length : Int) != (l.length : Int)) = false := by simp
  go_enter Try.func29, Try.ntmps29
  go_wp2_with fail
  go_loopw [5] (fun v5 wr => ∃ i : Nat, i ≤ l.length ∧ v5 = .int .i64 (i : Nat) ∧ Below w.heap.size w wr) (fun v5 _ => l.length - (intOf v5).toNat)
  case atStart => exact ⟨0, Nat.zero_le _, rfl, Below.refl _ _⟩
  case round =>
    obtain ⟨i, hi, rfl, hb⟩ := hrel
    have HB := Lib.hid hb
    clear hb
    have i0 : (0 : Int) ≤ (i : Int) := by omega
    by_cases hlt : i < l.length
    · have j1 : (i : Int) < (l.length : Int) := by omega
      obtain ⟨b, o, c', hv, hn, hel⟩ := HU.out.at hlt
      injection hv with ea eb ec
      subst ea; subst ec
      clear eb
      obtain ⟨b', o', c', hv, hn', hel'⟩ := HV.out.at hlt
      injection hv with ea eb ec
      subst ea; subst ec
      clear eb
      generalize l[i] = x at *
      obtain ⟨xg, xb, xn, xm⟩ := x
      have CX := fun (q : Addr) (y : Value) (hq : w.cell? q = some y) => (HB.out.cell (p := q) (World.block_lt_of_cell? w _ hq)).trans hq
      have d0 := CX _ _ (hel 0 _ rfl)
      have d1 := CX _ _ (hel 1 _ rfl)
      have d2 := CX _ _ (hel 2 _ rfl)
      have d3 := CX _ _ (hel 3 _ rfl)
      have f0 := CX _ _ (hel' 0 _ rfl)
      have f1 := CX _ _ (hel' 1 _ rfl)
      have f2 := CX _ _ (hel' 2 _ rfl)
      have f3 := CX _ _ (hel' 3 _ rfl)
      rw [Nat.add_zero] at d0 f0
      dsimp only at d0 d1 d2 d3 f0 f1 f2 f3
      clear hel hel' CX
      go_wp2_with fail
      go_quiet (fail)
      have HB2 := Lib.hid (HB.out.trans ((Below_drewN (Below.refl wr.heap.size wr) nq).mono HB.out.size))
      go_wp2_with fail
      go_roundw
      case rel => exact ⟨i + 1, hlt, by go_num, HB2.out⟩
      case measure => simp [intOf]; omega
    · have j1 : ¬ (i : Int) < (l.length : Int) := by omega
      go_wp2_with fail
      go_ret
      exact ⟨rfl, HB.out⟩
end Go.Proofs.Ytgejocceegadhaa

/- The contracts of press: Loose, Open. -/
import Derived.Test.YtjlhhnkfedfdnaaFrame
import Derived.Test.YtjlhhnkfedfdnaaGen
import Derived.Test.YtjlhhnkfedfdnaaInfos
import Derived.Test.YtjlhhnkfedfdnaaLists
import Derived.Test.YtjlhhnkfedfdnaaLooseMath
import Derived.Test.YtjlhhnkfedfdnaaMarkMath
import Derived.Test.YtjlhhnkfedfdnaaOwnL
import Derived.Test.YtjlhhnkfedfdnaaParts
import Derived.Test.YtjlhhnkfedfdnaaPartsMath
import Derived.Test.YtjlhhnkfedfdnaaReadMath
import Derived.Test.YtjlhhnkfedfdnaaReadNumW
import Derived.Test.YtjlhhnkfedfdnaaReadW
import Derived.Test.YtjlhhnkfedfdnaaRefLoW
import Derived.Test.YtjlhhnkfedfdnaaRefNumW
import Derived.Test.YtjlhhnkfedfdnaaRefReadW
import Derived.Test.YtjlhhnkfedfdnaaRows
import Derived.Test.YtjlhhnkfedfdnaaShelf
import Derived.BigQuiet
import Derived.Deep.Cut
import Derived.Deep.DeepCutAuto
import Derived.Deep.QuietTactic
import Derived.Lib.Hide
import Derived.WalkKit
import Derived.WalkLawsBesides
import Derived.WalkSpells
set_option linter.unusedVariables false
namespace Go.Proofs.Ytjlhhnkfedfdnaa
open Go.RowKit

/-- What a round of Loose stands on. -/
structure PoAt (w0 wr : World) (q : Nat) (v : Value) (r : RS) (b : Txt) : Prop where
  own : Own wr (q + 1) 5 v b
  rd : Rd wr q r
  bel : Below q w0 wr
  sz : q + 1 ≤ wr.heap.size
theorem PoAt.does {w0 wr w' : World} {q : Nat} {v : Value} {r r' : RS} {b : Txt} (h : PoAt w0 wr q v r b) (hr : Rd w' q r') (hk : Kept (· = q) wr w') : PoAt w0 w' q v r' b :=
  ⟨Kept.own h.own hk (fun k hk e => by omega), hr, h.bel.trans (hk.below (by have := h.sz; omega) (fun k e => by omega)), Nat.le_trans h.sz hk.size⟩
theorem PoAt.turn {w0 wr w' : World} {q : Nat} {v v' : Value} {r : RS} {b b' : Txt} (h : PoAt w0 wr q v r b) (ho : Own w' (q + 1) 5 v' b') (hb : Below (q + 1) wr w') : PoAt w0 w' q v' r b' :=
  ⟨ho, h.rd.kept (Kept.of_below hb) (by omega), h.bel.trans (hb.mono (by omega)), Nat.le_trans h.sz hb.size⟩
set_option maxRecDepth 100000 in
set_option maxHeartbeats 1000000 in
theorem readText_any (q k lf z : Nat) (v : Value) (r : RS) (b : Txt) (w : World) (hok : r.ok) (hz : b.length + lf = z) (hzb : z ≤ 1048576) (hk : k ≤ 4611686018427387903) (h : PoAt w w q v r b) :
    Calls Try.prog 44 #[ptr q, .int .i64 k, v, .int .i64 lf] w fun e w' => ∃ v', e = .returned (.tuple #[v', .int .i64 (rRaw (evR z b (((2 * k : Nat) : Int), r)) k).2.e]) ∧
      ((rRaw (evR z b (((2 * k : Nat) : Int), r)) k).2.e = 0 → PoAt w w' q v' (rRaw (evR z b (((2 * k : Nat) : Int), r)) k).2 (b ++ (rRaw (evR z b (((2 * k : Nat) : Int), r)) k).1)) ∧ Below q w w' := by
  have ER := Lib.hid (err_any w q r h.rd)
  have HA := Lib.hid h
  have k0 : (0 : Int) ≤ (k : Int) := by omega
  clear h
  by_cases he : r.e = 0
  · have q1 : (r.e != 0) = false := by simp [he]
    by_cases hb : k = 0 ∨ lf < k
    · have ev : evR z b (((2 * k : Nat) : Int), r) = ⟨[], 5⟩ := if_pos ⟨he, hb.elim (fun h => .inl (by dsimp only; omega)) (fun h => .inr (by dsimp only; omega))⟩
      rw [ev, rRaw_err _ _ (by decide)]
      have hc : ((k : Int) == 0) = true ∨ (((k : Int) == 0) = false ∧ (lf : Int) < (k : Int)) := by
        by_cases h : k = 0
        · left; simp [h]
        · right; exact ⟨by simp [h], by omega⟩
      clear he hb ev
      rcases hc with c1 | ⟨c1, c2⟩
      all_goals
        go_enter Try.func44, Try.ntmps44
        go_wp2_with fail
        refine ER.out.mono ?_
        rintro e w1 ⟨rfl, rfl⟩
        go_wp2_with fail
        go_ret2
        exact ⟨_, rfl, fun h => absurd h (by decide), Below.refl _ _⟩
    · have ev : evR z b (((2 * k : Nat) : Int), r) = r := if_neg (by rintro ⟨_, h | h⟩; exact hb (.inl (by dsimp only at h; omega)); exact hb (.inr (by dsimp only at h; omega)))
      rw [ev]
      have RW := Lib.hid (raw_any w q r (k : Int) HA.out.rd hok)
      have HRL := Lib.hid (show (rRaw r (k : Int)).1.length ≤ k by
        unfold rRaw
        rw [if_neg (by simp [he]), if_neg (by omega)]
        split
        · simp
        · simp; omega)
      have hrl := HRL.out
      generalize (rRaw r (k : Int)).1 = tx at *
      generalize (rRaw r (k : Int)).2 = r3 at *
      have c1 : ((k : Int) == 0) = false := by
        have : k ≠ 0 := fun h => hb (.inl h)
        simp [this]
      have c2 : ¬ (lf : Int) < (k : Int) := fun h => hb (.inr (by omega))
      obtain ⟨va, vm, vc, hv⟩ := own_slice HA.out.own
      subst hv
      have hvm : vm = b.length := own_lenV HA.out.own
      subst hvm
      clear he hb ev
      go_enter Try.func44, Try.ntmps44
      go_wp2_with fail
      refine ER.out.mono ?_
      rintro e w1 ⟨rfl, rfl⟩
      go_wp2_with fail
      refine RW.out.mono ?_
      rintro e w4 ⟨rfl, hr4, hk4⟩
      have L4 := Lib.hid (HA.out.does hr4 hk4)
      clear hr4 hk4 RW ER HA
      go_wp2_with (at_builtin; refine append_text (by rfl) (.tmp 23) (.tmp 26) 28 9 5 (by rfl) Try.underlying28 Try.underlying9 info_u8 (q + 1) _ b ⟨tx.toArray⟩ (by rfl) L4.out.own (by rfl) (by have e : (⟨tx.toArray⟩ : ByteArray).size = tx.length := rfl; omega) L4.out.sz ?_; intro v' w5 hown5 hb5; have L5 := Lib.hid (L4.out.turn hown5 hb5); clear hown5 hb5)
      have E5 := Lib.hid (err_any w5 q r3 L5.out.rd)
      refine E5.out.mono ?_
      rintro e w6 ⟨rfl, rfl⟩
      go_wp2_with fail
      go_ret2
      exact ⟨_, rfl, fun _ => L5.out, L5.out.bel⟩
  · have q1 : (r.e != 0) = true := by simp [he]
    have ev : evR z b (((2 * k : Nat) : Int), r) = r := if_neg (fun h => he h.1)
    rw [ev, rRaw_err _ _ he]
    have HE := Lib.hid he
    clear he ev
    go_enter Try.func44, Try.ntmps44
    go_wp2_with fail
    refine ER.out.mono ?_
    rintro e w1 ⟨rfl, rfl⟩
    go_wp2_with fail
    go_ret2
    exact ⟨_, rfl, fun h => absurd h HE.out, Below.refl _ _⟩
set_option maxRecDepth 100000 in
set_option maxHeartbeats 2000000 in
theorem readCopy_any (q k lf z : Nat) (v : Value) (r : RS) (b : Txt) (w : World) (hok : r.ok) (hz : b.length + lf = z) (hzb : z ≤ 1048576) (hk : k ≤ 2305843009213693952) (h : PoAt w w q v r b) :
    Calls Try.prog 43 #[ptr q, .int .i64 ((k : Int) + 4), v, .int .i64 lf] w fun e w' => ∃ v', e = .returned (.tuple #[v', .int .i64 (odR z b ((2 * k + 1 : Nat) : Int) (rNum r)).e]) ∧
      ((odR z b ((2 * k + 1 : Nat) : Int) (rNum r)).e = 0 → PoAt w w' q v' (odR z b ((2 * k + 1 : Nat) : Int) (rNum r)) (copyF (k + 4) ((rNum r).1 + 1).toNat b)) ∧ Below q w w' := by
  have NM := Lib.hid (rnum_any w q r h.rd hok)
  obtain ⟨m, hm, hmb⟩ : ∃ c : Nat, (rNum r).1 = (c : Int) ∧ c ≤ 4611686018427387903 := by
    by_cases h : (rNum r).2.e = 0
    · obtain ⟨c, h1, h2, _⟩ := rNum_split r hok h
      exact ⟨c, h2, h1⟩
    · exact ⟨0, by rw [rNum_zero r h]; rfl, by omega⟩
  have HN0 := Lib.hid (rNum_ok r hok)
  have HEQ := Lib.hid (show rNum r = ((m : Int), (rNum r).2) by rw [← hm])
  rw [hm] at NM
  rw [HEQ.out]
  dsimp only
  generalize (rNum r).2 = r1 at *
  obtain ⟨bk, hbk⟩ : ∃ bk, bk = m + 1 := ⟨_, rfl⟩
  have W1 : (m : Int) + 1 = (bk : Int) := by omega
  have bkb : bk ≤ 4611686018427387904 := by omega
  rw [W1, Int.toNat_natCast]
  have hT : ((2 * k + 1 : Nat) : Int) / 2 = (k : Int) := by omega
  obtain ⟨va, vm, vc, hv⟩ := own_slice h.own
  subst hv
  have hvm : vm = b.length := own_lenV h.own
  subst hvm
  obtain ⟨rx, hrx⟩ : ∃ rx, rx = odR z b ((2 * k + 1 : Nat) : Int) ((m : Int), r1) := ⟨_, rfl⟩
  rw [← hrx]
  have HA := Lib.hid h
  have hbl : b.length ≤ 1048576 := by omega
  clear hm h
  by_cases he : r1.e = 0
  · have q1 : (r1.e != 0) = false := by simp [he]
    by_cases hc : b.length < bk ∨ 4096 < bk ∨ 255 < k ∨ lf < k + 4
    · have er : rx = ⟨[], 5⟩ := by rw [hrx]; exact if_pos ⟨he, by dsimp only; omega⟩
      have hcc : min (b.length : Int) 4096 < (bk : Int) ∨ (¬ min (b.length : Int) 4096 < (bk : Int) ∧ min 259 (lf : Int) < (k : Int) + 4) := by omega
      subst er
      clear hc hrx hT hbk
      rcases hcc with d1 | ⟨d1, d2⟩
      all_goals
        go_enter Try.func43, Try.ntmps43
        go_wp2_with fail
        refine NM.out.mono ?_
        rintro e w2 ⟨rfl, hr2, hk2⟩
        have L2 := Lib.hid (HA.out.does hr2 hk2)
        clear hr2 hk2 NM HA
        go_wp2_with fail
        refine (err_any w2 q r1 L2.out.rd).mono ?_
        rintro e w3 ⟨rfl, rfl⟩
        go_wp2_with fail
        go_ret2
        first | exact ⟨_, rfl, fun h => absurd h (by decide), L2.out.bel⟩ | exact ⟨⟨_, rfl⟩, L2.out.bel⟩
    · have er : rx = r1 := by rw [hrx]; exact if_neg (fun h => hc (by have := h.2; dsimp only at this; omega))
      subst er
      have hb1 : ¬ b.length < bk := fun h => hc (.inl h)
      have hb2 : ¬ 4096 < bk := fun h => hc (.inr (.inl h))
      have hb3 : ¬ 255 < k := fun h => hc (.inr (.inr (.inl h)))
      have hb4 : ¬ lf < k + 4 := fun h => hc (.inr (.inr (.inr h)))
      have hbp : 1 ≤ bk := by omega
      clear hc hrx hT hbk
      go_enter Try.func43, Try.ntmps43
      go_wp2_with fail
      refine NM.out.mono ?_
      rintro e w2 ⟨rfl, hr2, hk2⟩
      have L2 := Lib.hid (HA.out.does hr2 hk2)
      clear hr2 hk2 NM HA
      go_wp2_with fail
      refine (err_any w2 q rx L2.out.rd).mono ?_
      rintro e w3 ⟨rfl, rfl⟩
      have j1 : ¬ min (b.length : Int) 4096 < (bk : Int) := by omega
      have j2 : ¬ min 259 (lf : Int) < (k : Int) + 4 := by omega
      have k40 : (0 : Int) ≤ (k : Int) + 4 := by omega
      go_wp2_with fail
      go_loopw [2, 32] (fun v vk wr => ∃ j : Nat, vk = .int .i64 j ∧ j ≤ k + 4 ∧ PoAt w wr q v rx (copyF j bk b)) (fun _ vk _ => 300 - (intOf vk).toNat)
      case atStart => exact ⟨0, rfl, by omega, L2.out⟩
      case round =>
        obtain ⟨j, rfl, hjk, hla⟩ := hrel
        have L6 := Lib.hid hla
        clear hla
        obtain ⟨vb, vn, vd, hv⟩ := own_slice L6.out.own
        subst hv
        have hvn : vn = (copyF j bk b).length := own_lenV L6.out.own
        subst hvn
        by_cases hj : j < k + 4
        · have HCL := Lib.hid (copyF_len j bk b)
          have HS := Lib.hid (copyF_snoc bk j b)
          generalize copyF j bk b = C at *
          have hcl := HCL.out
          obtain ⟨ix, hix⟩ : ∃ ix, ix = C.length - bk := ⟨_, rfl⟩
          have hil : ix < C.length := by omega
          obtain ⟨gx, hgx, hcell⟩ : ∃ gx, vb = some ⟨gx, 0, none⟩ ∧ wr.cell? ⟨gx, ix, none⟩ = some (.int .u8 ((C[ix].toNat : Nat) : Int)) := by
            rcases L6.out.own.2 with ⟨h, hn⟩ | ⟨gx, cap, cur, hv, _⟩
            · omega
            · simp at hv
              obtain ⟨rfl, rfl⟩ := hv
              have := World.ownsRow.cells L6.out.own (g := gx) rfl ix (.int .u8 ((C[ix].toNat : Nat) : Int)) (by simp [cellsOf, hil])
              rw [addr_add0] at this
              exact ⟨gx, rfl, this⟩
          subst hgx
          have HSC := Lib.hid (show copyF (j + 1) bk b = C ++ [UInt8.ofNat (((C[ix].toNat : Nat) : Int)).toNat] by
            rw [HS.out, ← hix, List.getD_eq_getElem?_getD, List.getElem?_eq_getElem hil]
            simp)
          have hby := C[ix].toNat_lt
          obtain ⟨by', hby'⟩ : ∃ y : Int, y = ((C[ix].toNat : Nat) : Int) := ⟨_, rfl⟩
          rw [← hby'] at hcell HSC
          have hy0 : 0 ≤ by' := by omega
          have hy1 : by' < 256 := by omega
          have W4 : (C.length : Int) - (bk : Int) = (ix : Int) := by omega
          have W5 : IntKind.i64.wrap ((C.length : Int) - (bk : Int)) = (ix : Int) := by rw [IntKind.wrap_i64]; omega
          have hcl2 : C.length ≤ 1048576 := by omega
          have i1 : (ix : Int) < (C.length : Int) := by omega
          have i0 : (0 : Int) ≤ (ix : Int) := by omega
          have j1 : (j : Int) < (k : Int) + 4 := by omega
          have HLN := Lib.hid (show C.length ≤ 1048576 by omega)
          have hj300 : j < 300 := by omega
          clear hix hby hby' hil HS HCL hcl
          go_wp2_with (at_builtin; refine append_byte (w := wr) (by rfl) (.tmp 34) (.tmp 42) 28 5 (by rfl) Try.underlying28 info_u8 (q + 1) _ C by' (by rfl) L6.out.own (by rfl) hy0 hy1 (by have := HLN.out; omega) L6.out.sz ?_; intro v' w7 hown7 hb7; obtain ⟨va7, vm7, vc7, rfl⟩ := own_slice hown7; have L7 := Lib.hid (L6.out.turn hown7 hb7); clear hown7 hb7)
          go_roundw
          case rel => exact ⟨j + 1, by go_num, by omega, by rw [HSC.out]; exact L7.out⟩
          case measure => simp [intOf]; omega
        · obtain rfl : j = k + 4 := by omega
          have j1 : ¬ ((k + 4 : Nat) : Int) < (k : Int) + 4 := by omega
          go_wp2_with fail
          go_ret2
          have HE0 := he
          refine ⟨_, ?_, L6.out, L6.out.bel⟩
          first | rfl | (rw [HE0]; rfl)
  · have q1 : (r1.e != 0) = true := by simp [he]
    have er : rx = r1 := by rw [hrx]; exact if_neg (fun h => he h.1)
    subst er
    have HE := Lib.hid he
    clear he hrx hT hbk
    go_enter Try.func43, Try.ntmps43
    go_wp2_with fail
    refine NM.out.mono ?_
    rintro e w2 ⟨rfl, hr2, hk2⟩
    have L2 := Lib.hid (HA.out.does hr2 hk2)
    clear hr2 hk2 NM HA
    go_wp2_with fail
    refine (err_any w2 q rx L2.out.rd).mono ?_
    rintro e w3 ⟨rfl, rfl⟩
    go_wp2_with fail
    go_ret2
    exact ⟨_, rfl, fun h => absurd h HE.out, L2.out.bel⟩
set_option maxRecDepth 100000 in
set_option maxHeartbeats 1000000 in
theorem readStep_any (q lf z f : Nat) (v : Value) (r : RS) (b : Txt) (w : World) (he : r.e = 0) (hz : b.length + lf = z) (hlf : 1 ≤ lf) (hzb : z ≤ 1048576) (h : PoAt w w q v r b) :
    ∃ (rx : RS) (bx : Txt), looseF z (f + 1) r b = looseF z f rx bx ∧ rx.ok ∧ (rx.e = 0 → rx.l.length < r.l.length ∧ bx.length ≤ z) ∧
    Calls Try.prog 29 #[ptr q, v, .int .i64 lf] w fun e w' => ∃ v', e = .returned (.tuple #[v', .int .i64 rx.e]) ∧ (rx.e = 0 → PoAt w w' q v' rx bx) ∧ Below q w w' := by
  have hok : r.ok := .inl he
  have NM := Lib.hid (rnum_any w q r h.rd hok)
  obtain ⟨m, hm, hmb⟩ : ∃ c : Nat, (rNum r).1 = (c : Int) ∧ c ≤ 4611686018427387903 := by
    by_cases h : (rNum r).2.e = 0
    · obtain ⟨c, h1, h2, _⟩ := rNum_split r hok h
      exact ⟨c, h2, h1⟩
    · exact ⟨0, by rw [rNum_zero r h]; rfl, by omega⟩
  have HNL := fun (h : (rNum r).2.e = 0) => rNum_less r hok h
  have HN0 := rNum_ok r hok
  have HEQ : rNum r = ((m : Int), (rNum r).2) := by rw [← hm]
  rw [hm] at NM
  generalize (rNum r).2 = r1 at *
  have HA := Lib.hid h
  have hgo : r.e = 0 ∧ b.length < z := ⟨he, by omega⟩
  obtain ⟨k, hk⟩ : ∃ k, k = m / 2 := ⟨_, rfl⟩
  have T1 : Int.tdiv (m : Int) 2 = (k : Int) := by rw [hk]; rfl
  have T2 : (m : Int) / 2 = (k : Int) := by omega
  have kb : k ≤ 2305843009213693952 := by omega
  clear h
  by_cases hpar : m % 2 = 0
  · have P1 : Int.tmod (m : Int) 2 = 0 := by show ((m % 2 : Nat) : Int) = 0; rw [hpar]; rfl
    have P2 : (m : Int) % 2 = 0 := by omega
    have hmk : m = 2 * k := by omega
    refine ⟨(rRaw (evR z b (((2 * k : Nat) : Int), r1)) k).2, b ++ (rRaw (evR z b (((2 * k : Nat) : Int), r1)) k).1, ?_, ?_, ?_, ?_⟩
    · rw [looseF_even hgo HEQ P2, T2, hmk]
    · refine rRaw_ok _ _ ?_
      unfold evR
      split
      · exact .inr rfl
      · exact HN0
    · intro h0
      by_cases hc : r1.e = 0 ∧ (((2 * k : Nat) : Int) = 0 ∨ ((z - b.length : Nat) : Int) < ((2 * k : Nat) : Int) / 2)
      · have ev : evR z b (((2 * k : Nat) : Int), r1) = ⟨[], 5⟩ := if_pos hc
        rw [ev, rRaw_err _ _ (by decide)] at h0
        exact absurd h0 (by decide)
      · have ev : evR z b (((2 * k : Nat) : Int), r1) = r1 := if_neg hc
        rw [ev] at h0 ⊢
        by_cases h1 : r1.e = 0
        · have hl := HNL h1
          have hkl : k ≤ lf := by
            by_cases hkl : k ≤ lf
            · exact hkl
            · exact absurd ⟨h1, .inr (by omega)⟩ hc
          unfold rRaw at h0 ⊢
          rw [if_neg (by simp [h1]), if_neg (by omega)] at h0 ⊢
          by_cases hs : (r1.l.length : Int) < (k : Int)
          · rw [if_pos hs] at h0; exact absurd h0 (by dsimp only; decide)
          · rw [if_neg hs]
            dsimp only
            rw [List.length_drop, List.length_append, List.length_take]
            omega
        · rw [rRaw_err _ _ h1] at h0
          exact absurd h0 h1
    · have RT := fun w2 v' (h' : PoAt w2 w2 q v' r1 b) => Lib.hid (readText_any q k lf z v' r1 b w2 HN0 hz hzb (by omega) h')
      generalize (rRaw (evR z b (((2 * k : Nat) : Int), r1)) k).2 = rx at *
      generalize b ++ (rRaw (evR z b (((2 * k : Nat) : Int), r1)) k).1 = bx at *
      have hee := Lib.hid he
      clear HNL hm HEQ hgo hk hpar hmk he
      go_enter Try.func29, Try.ntmps29
      go_wp2_with fail
      refine NM.out.mono ?_
      rintro e w2 ⟨rfl, hr2, hk2⟩
      have L2 := Lib.hid (HA.out.does hr2 hk2)
      have R2 := RT w2 v ⟨L2.out.own, L2.out.rd, Below.refl _ _, L2.out.sz⟩
      clear hr2 hk2 NM HA RT
      go_wp2_with fail
      refine R2.out.mono ?_
      rintro e w3 ⟨v3, rfl, hp3, hb3⟩
      have HB3 := Lib.hid (L2.out.bel.trans hb3)
      have HP3 := Lib.hid hp3
      clear hp3 hb3
      go_wp2_with fail
      go_ret2
      exact ⟨_, rfl, fun h => ⟨(HP3.out h).own, (HP3.out h).rd, HB3.out, (HP3.out h).sz⟩, HB3.out⟩
  · have P1 : Int.tmod (m : Int) 2 = 1 := by show ((m % 2 : Nat) : Int) = 1; rw [show m % 2 = 1 by omega]; rfl
    have P2 : (m : Int) % 2 = 1 := by omega
    have hmk : m = 2 * k + 1 := by omega
    have HO := looseF_odd (f := f) hgo HEQ (show ¬ (m : Int) % 2 = 0 by omega)
    refine ⟨odR z b ((2 * k + 1 : Nat) : Int) (rNum r1), if (odR z b ((2 * k + 1 : Nat) : Int) (rNum r1)).e = 0 then copyF (k + 4) ((rNum r1).1 + 1).toNat b else b, ?_, ?_, ?_, ?_⟩
    · rw [HO, T2, hmk, show ((k : Int) + 4).toNat = k + 4 by omega]
    · unfold odR
      split
      · exact .inr rfl
      · exact rNum_ok r1 HN0
    · intro h0
      rw [if_pos h0]
      by_cases hc : (rNum r1).2.e = 0 ∧ ((b.length : Int) < (rNum r1).1 + 1 ∨ 4096 < (rNum r1).1 + 1 ∨ 255 < ((2 * k + 1 : Nat) : Int) / 2 ∨ ((z - b.length : Nat) : Int) < ((2 * k + 1 : Nat) : Int) / 2 + 4)
      · rw [show odR z b ((2 * k + 1 : Nat) : Int) (rNum r1) = ⟨[], 5⟩ from if_pos hc] at h0
        exact absurd h0 (by decide)
      · have eo : odR z b ((2 * k + 1 : Nat) : Int) (rNum r1) = (rNum r1).2 := if_neg hc
        rw [eo] at h0 ⊢
        have hl1 := rNum_less r1 HN0 h0
        have hl2 := HNL (rNum_e r1 HN0 h0)
        have : ¬ ((z - b.length : Nat) : Int) < ((2 * k + 1 : Nat) : Int) / 2 + 4 := fun h => hc ⟨h0, .inr (.inr (.inr h))⟩
        rw [copyF_len]
        omega
    · have RC := fun w2 v' (h' : PoAt w2 w2 q v' r1 b) => Lib.hid (readCopy_any q k lf z v' r1 b w2 HN0 hz hzb kb h')
      have HIF := Lib.hid (fun (h : (odR z b ((2 * k + 1 : Nat) : Int) (rNum r1)).e = 0) => show (if (odR z b ((2 * k + 1 : Nat) : Int) (rNum r1)).e = 0 then copyF (k + 4) ((rNum r1).1 + 1).toNat b else b) = copyF (k + 4) ((rNum r1).1 + 1).toNat b from if_pos h)
      generalize (if (odR z b ((2 * k + 1 : Nat) : Int) (rNum r1)).e = 0 then copyF (k + 4) ((rNum r1).1 + 1).toNat b else b) = bx at *
      generalize odR z b ((2 * k + 1 : Nat) : Int) (rNum r1) = rx at *
      generalize copyF (k + 4) ((rNum r1).1 + 1).toNat b = bc at *
      have hee := Lib.hid he
      clear HNL hm HEQ hgo hk hpar hmk HO he
      go_enter Try.func29, Try.ntmps29
      go_wp2_with fail
      refine NM.out.mono ?_
      rintro e w2 ⟨rfl, hr2, hk2⟩
      have L2 := Lib.hid (HA.out.does hr2 hk2)
      have R2 := RC w2 v ⟨L2.out.own, L2.out.rd, Below.refl _ _, L2.out.sz⟩
      clear hr2 hk2 NM HA RC
      go_wp2_with fail
      refine R2.out.mono ?_
      rintro e w3 ⟨v3, rfl, hp3, hb3⟩
      have HB3 := Lib.hid (L2.out.bel.trans hb3)
      have HP3 := Lib.hid hp3
      clear hp3 hb3
      go_wp2_with fail
      go_ret2
      exact ⟨_, rfl, fun h => by rw [HIF.out h]; exact ⟨(HP3.out h).own, (HP3.out h).rd, HB3.out, (HP3.out h).sz⟩, HB3.out⟩
/-- What is left to do: the bytes that the reader has left. -/
def rdM (w : World) (q : Nat) : Nat := match w.cell? ⟨q, 0, none⟩ with
  | some (.string s) => s.size
  | _ => 0
theorem Rd.left {w : World} {q : Nat} {s : RS} (h : Rd w q s) : rdM w q = s.l.length := by
  unfold rdM
  rw [h.c0]
  rfl
set_option maxRecDepth 100000 in
set_option maxHeartbeats 2000000 in
theorem loose_any (s : Txt) (w : World) (hs : s.length ≤ 1000000) :
    Calls Try.prog 16 #[.string ⟨s.toArray⟩] w fun e w' => e = .returned (.tuple #[.string ⟨(looseS s).1.toArray⟩, .int .i64 (looseS s).2]) ∧ Below w.heap.size w w' := by
  have RD := Lib.hid (read_any s w)
  have HLS := Lib.hid (show looseS s = if (rEnd (looseF (rCount ⟨s, 0⟩ 1048576).1.toNat (s.length + 1) (rCount ⟨s, 0⟩ 1048576).2 []).1).e ≠ 0 then ([], (rEnd (looseF (rCount ⟨s, 0⟩ 1048576).1.toNat (s.length + 1) (rCount ⟨s, 0⟩ 1048576).2 []).1).e) else ((looseF (rCount ⟨s, 0⟩ 1048576).1.toNat (s.length + 1) (rCount ⟨s, 0⟩ 1048576).2 []).2, 0) from rfl)
  have hcok := rCount_ok ⟨s, 0⟩ 1048576 (.inl rfl)
  have CN := fun w' (h : Rd w' w.heap.size ⟨s, 0⟩) => Lib.hid (count_any w' w.heap.size ⟨s, 0⟩ 1048576 h (.inl rfl))
  obtain ⟨z, hz1, _, hz3⟩ := rCount_nat ⟨s, 0⟩ 1048576 (.inl rfl)
  have hz2 : z ≤ 1048576 := by
    rcases rCount_cases ⟨s, 0⟩ 1048576 (.inl rfl) with ⟨h1, _⟩ | ⟨_, h2, h3⟩
    · omega
    · rw [h2] at hz1; omega
  have HLL := Lib.hid (fun (he : (rCount ⟨s, 0⟩ 1048576).2.e = 0) => rCount_less ⟨s, 0⟩ 1048576 (.inl rfl) he)
  have HZE := Lib.hid (show (rCount ⟨s, 0⟩ 1048576).2.e = 0 ∨ z = 0 by
    by_cases h : (rCount ⟨s, 0⟩ 1048576).2.e = 0
    · exact .inl h
    · right
      have : (rCount ⟨s, 0⟩ 1048576).1 = 0 := by
        unfold rCount at h ⊢
        split
        · rfl
        · rename_i h1
          rw [if_neg h1] at h
          split
          · rfl
          · rename_i h2
            rw [if_neg h2] at h
            exact absurd h h2
      omega)
  rw [hz1] at CN HLS
  rw [Int.toNat_natCast] at HLS
  generalize (rCount ⟨s, 0⟩ 1048576).2 = r0 at *
  generalize looseS s = res at *
  clear hz1 hz3
  obtain ⟨q, hq⟩ : ∃ q, q = w.heap.size := ⟨_, rfl⟩
  have HQ := Lib.hid hq
  rw [← hq] at CN RD
  rw [← hq]
  clear hq
  generalize hfin : looseF z (s.length + 1) r0 [] = fin at *
  have HFI := Lib.hid hfin
  have HR0 := Lib.hid hcok
  clear hfin hcok
  go_enter Try.func16, Try.ntmps16
  go_wp2_with fail
  refine RD.out.mono ?_
  rintro e w1 ⟨rfl, hr1, hb1⟩
  have C1 := CN w1 hr1
  have HB1 := Lib.hid hb1
  have HLT := Lib.hid hr1.lt
  clear CN RD hb1 hr1
  go_wp2_with fail
  refine C1.out.mono ?_
  rintro e w2 ⟨rfl, hr2, hk2⟩
  have LA := Lib.hid (show PoAt w w2 q (.slice none 0 0) r0 [] from ⟨Own.nil _ _ _, hr2, HB1.out.trans (hk2.below (Nat.le_of_lt HLT.out) (fun k e => by omega)), Nat.le_trans HLT.out hk2.size⟩)
  clear hr2 hk2 C1 HB1 HLT
  go_wp2_with fail
  go_loopw [6] (fun v wr => ∃ (f : Nat) (r : RS) (b : Txt), PoAt w wr q v r b ∧ Hid (looseF z f r b = fin) ∧ Hid (r.e = 0 → r.l.length < f) ∧ Hid (r.e = 0 ∨ z = 0) ∧ r.ok ∧ b.length ≤ z) (fun _ wr => rdM wr q)
  case atStart => exact ⟨s.length + 1, r0, [], LA.out, HFI, Lib.hid (fun he => by have := HLL.out he; have e : (⟨s, 0⟩ : RS).l.length = s.length := rfl; omega), HZE, HR0.out, by simp⟩
  case round =>
    clear LA HLL HZE HR0 HFI
    obtain ⟨f, r, b, hla, HF, HL, HZ, hok, hbl⟩ := hrel
    have LA := Lib.hid hla
    clear hla
    obtain ⟨va, vm, vc, hv⟩ := own_slice LA.out.own
    subst hv
    have hvm : vm = b.length := own_lenV LA.out.own
    subst hvm
    have HME := Lib.hid LA.out.rd.left
    by_cases hlt : b.length < z
    · have he : r.e = 0 := by rcases HZ.out with h | h; exact h; omega
      have j1 : (b.length : Int) < (z : Int) := by omega
      obtain ⟨lf, hlf⟩ : ∃ lf, lf = z - b.length := ⟨_, rfl⟩
      have W1 : (z : Int) - (b.length : Int) = (lf : Int) := by omega
      have lfb : lf ≤ 1048576 := by omega
      obtain ⟨f, rfl⟩ : ∃ g, f = g + 1 := ⟨f - 1, by have := HL.out he; omega⟩
      obtain ⟨rx, bx, hst, hrok, hrl, hcall⟩ := readStep_any q lf z f (.slice va b.length vc) r b wr he (by omega) (by omega) hz2 ⟨LA.out.own, LA.out.rd, Below.refl _ _, LA.out.sz⟩
      have HST := Lib.hid (hst.symm.trans HF.out)
      have HLF := Lib.hid (HL.out he)
      have HC := Lib.hid hcall
      have HRL := Lib.hid hrl
      have HRK := Lib.hid hrok
      clear hst hcall hrl hrok he hlf HF HL hok
      go_wp2_with fail
      refine HC.out.mono ?_
      rintro e w3 ⟨v3, rfl, hp3, hb3⟩
      have HB3 := Lib.hid (LA.out.bel.trans hb3)
      have HP3 := Lib.hid hp3
      clear hp3 hb3 HC
      by_cases hx : rx.e = 0
      · have q1 : (rx.e != 0) = false := by simp [hx]
        have HX := Lib.hid hx
        have HP := Lib.hid (HP3.out hx)
        clear hx HP3
        go_wp2_with fail
        have HM3 := Lib.hid HP.out.rd.left
        go_roundw
        case rel => exact ⟨f, rx, bx, ⟨HP.out.own, HP.out.rd, HB3.out, HP.out.sz⟩, HST, Lib.hid (fun h => by have := (HRL.out h).1; have := HLF.out; omega), Lib.hid (.inl HX.out), HRK.out, (HRL.out HX.out).2⟩
        case measure =>
          rw [HM3.out, HME.out]
          exact (HRL.out HX.out).1
      · have q1 : (rx.e != 0) = true := by simp [hx]
        have HR := Lib.hid (show res = ([], rx.e) by
          have hf : fin = (rx, bx) := by rw [← HST.out, looseF_end _ _ _ _ (fun h => hx h.1)]
          have hl : rx.l = [] := by rcases HRK.out with h | h; exact absurd h hx; exact h
          have hend : rEnd rx = rx := by unfold rEnd; rw [if_neg (by simp [hl])]
          rw [HLS.out, hf]
          dsimp only
          rw [hend]
          exact if_pos hx)
        clear hx HLS
        go_wp2_with fail
        go_ret2
        rw [HR.out]
        exact ⟨rfl, by have := HB3.out; exact this⟩
    · have j1 : ¬ (b.length : Int) < (z : Int) := by omega
      have HEW := Lib.hid (show (r, b) = fin by rw [← HF.out, looseF_end _ _ _ _ (fun h => hlt h.2)])
      have EN := Lib.hid (end_any wr q r LA.out.rd)
      rw [← HEW.out] at HLS
      dsimp only at HLS
      generalize rEnd r = re at *
      obtain ⟨rel', ree⟩ := re
      dsimp only at HLS EN
      clear HF HL
      go_wp2_with fail
      refine EN.out.mono ?_
      rintro e w6 ⟨rfl, hr6, hk6⟩
      have L6 := Lib.hid (LA.out.does hr6 hk6)
      clear hr6 hk6 EN
      have OS6 := own_string w6 (q + 1) 28 9 5 (.slice va b.length vc) b Try.underlying28 Try.underlying5 Try.underlying9 L6.out.own
      have HB6 := Lib.hid L6.out.bel
      by_cases hz : ree = 0
      · have q7 : (ree != 0) = false := by simp [hz]
        have HR := Lib.hid (show res = (b, 0) by rw [HLS.out]; exact if_neg (fun h => h hz))
        clear HLS hz
        go_wp2_with fail
        go_ret2
        rw [HR.out]
        exact ⟨rfl, HB6.out⟩
      · have q7 : (ree != 0) = true := by simp [hz]
        have HR := Lib.hid (show res = ([], ree) by rw [HLS.out]; exact if_pos hz)
        clear HLS hz
        go_wp2_with fail
        go_ret2
        rw [HR.out]
        exact ⟨rfl, HB6.out⟩
theorem pclone_any (l : Txt) (w : World) (hl : l.length ≤ 140737488351232) :
    Calls Try.prog 35 #[.string ⟨l.toArray⟩] w fun e w' => e = .returned (.string ⟨l.toArray⟩) ∧ Below w.heap.size w w' := by
  have C := fun w' => Lib.hid (Try.stringslite_Clone ⟨l.toArray⟩ w' (by show l.length ≤ _; omega))
  go_enter Try.func35, Try.ntmps35
  go_wp2_with fail
  refine (C _).out.mono ?_
  rintro e w1 ⟨rfl, hb⟩
  go_wp2_with fail
  go_ret
  exact ⟨rfl, hb⟩
set_option maxRecDepth 100000 in
set_option maxHeartbeats 1000000 in
theorem open_any (s : Txt) (w : World) (hs : s.length ≤ 1000000) :
    Calls Try.prog 19 #[.string ⟨s.toArray⟩] w fun e w' => e = .returned (.tuple #[.string ⟨(openS s).1.toArray⟩, .int .i64 (openS s).2]) ∧ Below w.heap.size w w' := by
  cases s with
  | nil =>
    go_enter Try.func19, Try.ntmps19
    go_wp2_with fail
    go_ret2
    exact ⟨rfl, Below.refl _ _⟩
  | cons c t =>
    have hl : t.length ≤ 1000000 := by simp at hs; omega
    have SL := Lib.hid (show (⟨(c :: t).toArray⟩ : ByteArray).size = t.length + 1 from rfl)
    have EX := Lib.hid (show (⟨(c :: t).toArray⟩ : ByteArray).extract 1 (t.length + 1) = ⟨t.toArray⟩ from by rw [slice_toArray]; simp)
    have EX1 := show (⟨(c :: t).toArray⟩ : ByteArray).extract 0 1 = ⟨[c].toArray⟩ from by rw [slice_toArray]; simp
    have HO := Lib.hid (show openS (c :: t) = if c = 82 then (t, 0) else if c = 90 then looseS t else ([], 5) from rfl)
    have LA := Lib.hid (loose_any t w hl)
    have CL := Lib.hid (pclone_any t w (by omega))
    generalize openS (c :: t) = res at *
    rw [← EX.out] at LA CL
    have i0 : (0 : Int) < (t.length : Int) + 1 := by omega
    have i1 : (1 : Int) ≤ (t.length : Int) + 1 := by omega
    by_cases h1 : c = 82
    · rw [if_pos h1] at HO
      have q1 : ([c] == [82]) = true := by rw [h1]; rfl
      clear h1
      go_enter Try.func19, Try.ntmps19
      go_wp2_with fail
      refine CL.out.mono ?_
      rintro e w1 ⟨rfl, hb⟩
      go_wp2_with fail
      go_ret2
      rw [HO.out]
      refine ⟨?_, hb⟩
      rw [← EX.out]
      rfl
    · rw [if_neg h1] at HO
      have q1 : ([c] == [82]) = false := by simp [h1]
      by_cases h2 : c = 90
      · rw [if_pos h2] at HO
        have q2 : ([c] == [90]) = true := by rw [h2]; rfl
        clear h1 h2
        generalize looseS t = lo at *
        obtain ⟨lt, le⟩ := lo
        go_enter Try.func19, Try.ntmps19
        go_wp2_with fail
        refine LA.out.mono ?_
        rintro e w1 ⟨rfl, hb⟩
        go_wp2_with fail
        go_ret2
        rw [HO.out]
        exact ⟨rfl, hb⟩
      · rw [if_neg h2] at HO
        have q2 : ([c] == [90]) = false := by simp [h2]
        clear h1 h2
        go_enter Try.func19, Try.ntmps19
        go_wp2_with fail
        go_ret2
        rw [HO.out]
        exact ⟨rfl, Below.refl _ _⟩
end Go.Proofs.Ytjlhhnkfedfdnaa

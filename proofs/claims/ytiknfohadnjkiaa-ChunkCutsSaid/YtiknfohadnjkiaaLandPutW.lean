/- The landed box (chunk): Put (gen/landput.py). -/
import Derived.Test.YtiknfohadnjkiaaBoxC
import Derived.Test.YtiknfohadnjkiaaChunkBoxM
import Derived.Test.YtiknfohadnjkiaaChunkFillM
import Derived.Test.YtiknfohadnjkiaaChunkMath
import Derived.Test.YtiknfohadnjkiaaChunkMoreM
import Derived.Test.YtiknfohadnjkiaaFrame
import Derived.Test.YtiknfohadnjkiaaGen
import Derived.Test.YtiknfohadnjkiaaLandBox1W
import Derived.Test.YtiknfohadnjkiaaLandCloneW
import Derived.Test.YtiknfohadnjkiaaOwnL
import Derived.Test.YtiknfohadnjkiaaOwnPut
import Derived.Test.YtiknfohadnjkiaaRefBoxW
import Derived.Test.YtiknfohadnjkiaaRowN
import Derived.Test.YtiknfohadnjkiaaRows
import Derived.Test.YtiknfohadnjkiaaShelf
import Derived.BigQuiet
import Derived.BigRegion
import Derived.Deep.QuietTactic
import Derived.Deep.RegionHeld3
import Derived.Laws.OwnMore
import Derived.Laws.ResultCell
import Derived.Lib.Hide
import Derived.Outline
import Derived.WalkKit
import Derived.WalkLawsBesides
import Derived.WalkSpells
set_option linter.unusedVariables false
namespace Go.Proofs.Ytiknfohadnjkiaa
open Go.RowKit

/-! ### A place of an own list, stored whole -/
def encTB (x : List UInt8 × Bool) : List Value := [.string ⟨x.1.toArray⟩, .bool x.2]
theorem encTB_ok : EncN encTB 2 := ⟨fun _ => rfl, fun x u hu => by simp [encTB] at hu; rcases hu with rfl | rfl <;> rfl⟩
def tbO (o : Option (List UInt8)) : List UInt8 × Bool := (o.getD [], o.isSome)
theorem own_tb {w : World} {base : Nat} {e : TypeId} {v : Value} {xs : BoxS} : OwnN encPl 2 w base e v xs ↔ OwnN encTB 2 w base e v (xs.map tbO) := by
  unfold OwnN flatN
  rw [List.length_map, List.map_map]
  exact Iff.rfl
theorem own_fill {w : World} {base : Nat} {e : TypeId} {g n c : Nat} {xs : BoxS} (h : OwnN encPl 2 w base e (.slice (some ⟨g, 0, none⟩) n c) xs) {i : Nat} (hi : i < xs.length) (t : List UInt8) :
    OwnN encPl 2 ((w.setCell ⟨g, i * 2, none⟩ (.string ⟨t.toArray⟩)).setCell ⟨g, i * 2 + 1, none⟩ (.bool true)) base e (.slice (some ⟨g, 0, none⟩) n c) (xs.set i (some t)) ∧ Kept (· = g) w ((w.setCell ⟨g, i * 2, none⟩ (.string ⟨t.toArray⟩)).setCell ⟨g, i * 2 + 1, none⟩ (.bool true)) := by
  obtain ⟨a1, a2⟩ := OwnN.putB encTB_ok (own_tb.1 h) i 0 (.string ⟨t.toArray⟩) (t, xs[i].isSome) (by rw [List.length_map]; exact hi) (by decide) (by rw [List.getElem_map]; rfl)
  obtain ⟨b1, b2⟩ := OwnN.putB encTB_ok a1 i 1 (.bool true) (t, true) (by rw [List.length_set, List.length_map]; exact hi) (by decide) (by rw [List.getElem_set, if_pos rfl]; rfl)
  rw [List.set_set] at b1
  refine ⟨own_tb.2 ?_, a2.trans b2⟩
  rw [List.map_set]
  exact b1
/-- A box and the call's own copy of a part, while a part is put in. -/
structure PS (N : Nat → Prop) (w0 W : World) (b g c nb n : Nat) (L B : Int) (xs : BoxS) (a o : Int) (t : List UInt8) : Prop where
  box : W.heap[b]? = some (.cells #[.slice (some ⟨g, 0, none⟩) n c, .int .i64 L, .int .i64 B] 60 (0, 0))
  pl : OwnN encPl 2 W 0 68 (.slice (some ⟨g, 0, none⟩) n c) xs
  pt : W.heap[nb]? = some (.cells #[.int .i64 a, .int .i64 o, .string ⟨t.toArray⟩] 40 (0, 0))
  n1 : b ≠ g
  m0 : nb ≠ b
  m1 : nb ≠ g
  kp : Kept N w0 W
  k0 : N b
  k1 : N g
section
variable {N : Nat → Prop} {w0 W W' : World} {b g c nb n : Nat} {L B : Int} {xs : BoxS} {a o : Int} {t : List UInt8}
theorem PS.turn {M : Nat → Prop} (h : PS N w0 W b g c nb n L B xs a o t) (hk : Kept M W W') (h0 : ¬ M b) (h1 : ¬ M g) (h3 : ¬ M nb) (hn : ∀ i, M i → N i) : PS N w0 W' b g c nb n L B xs a o t :=
  ⟨hk.old h.box h0, h.pl.kept hk (fun g0 hg => by injection hg with hg; have hg' : g = g0 := hg; rw [← hg']; exact h1), hk.old h.pt h3, h.n1, h.m0, h.m1, h.kp.trans (hk.mono (fun i _ e => hn i e)), h.k0, h.k1⟩
theorem PS.q (h : PS N w0 W b g c nb n L B xs a o t) (m : Nat) : PS N w0 (W.drewN m) b g c nb n L B xs a o t :=
  h.turn (M := fun _ => False) (Kept.of_drewN W m) id id id (fun _ e => e.elim)
theorem PS.d (h : PS N w0 W b g c nb n L B xs a o t) : PS N w0 W.drew b g c nb n L B xs a o t :=
  h.turn (M := fun _ => False) ((Kept.refl _ W).drew) id id id (fun _ e => e.elim)
theorem PS.new (h : PS N w0 W b g c nb n L B xs a o t) (hb : Below W.heap.size W W') : PS N w0 W' b g c nb n L B xs a o t :=
  h.turn (M := fun _ => False) (Kept.new hb _) id id id (fun _ e => e.elim)
theorem PS.cl (h : PS N w0 W b g c nb n L B xs a o t) :
    W.cell? ⟨nb, 0, none⟩ = some (.int .i64 a) ∧ W.cell? ⟨nb, 1, none⟩ = some (.int .i64 o) ∧ W.cell? ⟨nb, 2, none⟩ = some (.string ⟨t.toArray⟩) ∧
    W.cell? ⟨b, 0, none⟩ = some (.slice (some ⟨g, 0, none⟩) n c) ∧ W.cell? ⟨b, 1, none⟩ = some (.int .i64 L) ∧ W.cell? ⟨b, 2, none⟩ = some (.int .i64 B) := by
  refine ⟨?_, ?_, ?_, ?_, ?_, ?_⟩
  · rw [cell_of_row _ _ _ _ _ _ h.pt]; rfl
  · rw [cell_of_row _ _ _ _ _ _ h.pt]; rfl
  · rw [cell_of_row _ _ _ _ _ _ h.pt]; rfl
  all_goals rw [cell_of_row _ _ _ _ _ _ h.box]; rfl
theorem PS.f (h : PS N w0 W b g c nb n L B xs a o t) : W.frozen? ⟨b, 1, none⟩ = false ∧ W.frozen? ⟨b, 2, none⟩ = false := ⟨frozen_row h.box, frozen_row h.box⟩
theorem PS.x (h : PS N w0 W b g c nb n L B xs a o t) {i : Nat} (hi : i < xs.length) : W.cell? ⟨g, i * 2, none⟩ = some (.string ⟨(xs[i].getD []).toArray⟩) ∧ W.cell? ⟨g, i * 2 + 1, none⟩ = some (.bool xs[i].isSome) ∧ W.frozen? ⟨g, i * 2, none⟩ = false ∧ W.frozen? ⟨g, i * 2 + 1, none⟩ = false := pl_at h.pl hi
theorem PS.sx (h : PS N w0 W b g c nb n L B xs a o t) {i : Nat} (hi : i < xs.length) (s : List UInt8) : PS N w0 ((W.setCell ⟨g, i * 2, none⟩ (.string ⟨s.toArray⟩)).setCell ⟨g, i * 2 + 1, none⟩ (.bool true)) b g c nb n L B (xs.set i (some s)) a o t := by
  obtain ⟨o1, k1⟩ := own_fill h.pl hi s
  exact ⟨k1.old h.box h.n1, o1, k1.old h.pt h.m1, h.n1, h.m0, h.m1, h.kp.trans (k1.mono (fun i _ e => by have : i = g := e; rw [this]; exact h.k1)), h.k0, h.k1⟩
theorem PS.s1 (h : PS N w0 W b g c nb n L B xs a o t) (L' : Int) : PS N w0 (W.setCell ⟨b, 1, none⟩ (.int .i64 L')) b g c nb n L' B xs a o t := by
  have k1 : Kept (· = b) W (W.setCell ⟨b, 1, none⟩ (.int .i64 L')) := (Kept.refl (· = b) W).setCell (p := ⟨b, 1, none⟩) rfl _
  exact ⟨by rw [heap_setCell_same _ _ _ _ _ _ h.box]; rfl, h.pl.kept k1 (fun g0 hg => by injection hg with hg; have hg' : g = g0 := hg; rw [← hg']; exact fun c => h.n1 c.symm), k1.old h.pt h.m0, h.n1, h.m0, h.m1, h.kp.trans (k1.mono (fun i _ e => by have : i = b := e; rw [this]; exact h.k0)), h.k0, h.k1⟩
theorem PS.s2 (h : PS N w0 W b g c nb n L B xs a o t) (B' : Int) : PS N w0 (W.setCell ⟨b, 2, none⟩ (.int .i64 B')) b g c nb n L B' xs a o t := by
  have k1 : Kept (· = b) W (W.setCell ⟨b, 2, none⟩ (.int .i64 B')) := (Kept.refl (· = b) W).setCell (p := ⟨b, 2, none⟩) rfl _
  exact ⟨by rw [heap_setCell_same _ _ _ _ _ _ h.box]; rfl, h.pl.kept k1 (fun g0 hg => by injection hg with hg; have hg' : g = g0 := hg; rw [← hg']; exact fun c => h.n1 c.symm), k1.old h.pt h.m0, h.n1, h.m0, h.m1, h.kp.trans (k1.mono (fun i _ e => by have : i = b := e; rw [this]; exact h.k0)), h.k0, h.k1⟩
theorem PS.back {st : BoxS} (h : PS N w0 W b g c nb st.length (leftB st : Nat) ((allB st).length : Nat) st a o t) (hl : 1 ≤ st.length ∧ st.length ≤ 4096 ∧ (allB st).length ≤ 524288) : BXF W b g c st :=
  ⟨h.box, h.pl, h.n1, hl⟩
theorem BXF.start {w : World} {st : BoxS} (h : BXF w b g c st) (a o : Int) (t : List UInt8) : PS (fun i => i = b ∨ i = g) w (w.alloc (.cells #[.int .i64 a, .int .i64 o, .string ⟨t.toArray⟩] 40)) b g c w.heap.size st.length (leftB st : Nat) ((allB st).length : Nat) st a o t := by
  have hlt := h.lt
  have hbA : Below w.heap.size w (w.alloc (.cells #[.int .i64 a, .int .i64 o, .string ⟨t.toArray⟩] 40)) := (Below.refl _ w).alloc (Nat.le_refl _) _
  have hh := h.kept (Kept.new hbA (fun _ => False)) (fun _ _ h => h)
  exact ⟨hh.box, hh.pl, heap_alloc_new w _, hh.n1, by omega, by omega, Kept.new hbA _, .inl rfl, .inr rfl⟩
end
set_option maxRecDepth 100000 in
set_option maxHeartbeats 4000000 in
theorem put13_any {w : World} {b g c : Nat} {st : BoxS} (h : BXF w b g c st) (p : PartD) (hp : PartOk p) : Calls Try.prog 19 #[.pointer (some ⟨b, 0, none⟩), partV p] w fun e w' => e = .returned (.int .i64 (putE st p)) ∧ BXF w' b g c (putB' st p) ∧ Kept (fun i => i = b ∨ i = g) w w' := by
  obtain ⟨hl1, hl2, hl3⟩ := h.len
  have HLEN := Lib.hid h.len
  have h2 := h.kept (Kept.new ((Below.refl w.heap.size w).alloc (Nat.le_refl _) (.cells #[.int .i64 p.at', .int .i64 p.of', .string ⟨p.text.toArray⟩] 40)) (fun _ => False)) (fun _ _ h => h)
  have OF := Lib.hid (of13_any h2)
  clear h2
  obtain ⟨⟨pa1, pa2⟩, ⟨po1, po2⟩, pt⟩ := hp
  have HE := Lib.hid (show putE st p = if p.of' ≠ st.length then 1 else if p.at' < 0 ∨ (st.length : Int) ≤ p.at' then 2 else match st[p.at'.toNat]?.getD none with | some t => if t = p.text then 0 else 6 | none => if 524288 < (allB st).length + p.text.length then 4 else 0 from rfl)
  have HP := Lib.hid (show putB' st p = if putE st p ≠ 0 then st else st.set p.at'.toNat (some p.text) from rfl)
  have PSM := Lib.hid (fun i (hi : i < st.length) h1 h2 (h : st[i] = some p.text) => put_same (p := p) hi h1 h2 h)
  have POT := Lib.hid (fun i (hi : i < st.length) h1 h2 t (h : st[i] = some t) hne => put_other (p := p) hi h1 h2 h hne)
  have PFR := Lib.hid (fun i (hi : i < st.length) h1 h2 (h : st[i] = none) hs => put_free (p := p) hi h1 h2 h hs)
  have PNO := Lib.hid (fun i (hi : i < st.length) h1 h2 (h : st[i] = none) => putE_none (p := p) hi h1 h2 h)
  obtain ⟨xa, xo, xt⟩ := p
  dsimp only at pa1 pa2 po1 po2 pt PSM POT PFR PNO OF
  have P0 := Lib.hid (h.start xa xo xt)
  have SX := Lib.hid (show (⟨xt.toArray⟩ : ByteArray).size = xt.length from rfl)
  have CL := fun w' => Lib.hid (cclone_any xt w' pt)
  clear h
  unfold partV
  dsimp only
  go_enter Try.func19, Try.ntmps19
  go_wp2_with fail
  generalize w.alloc (.cells #[.int .i64 xa, .int .i64 xo, .string ⟨xt.toArray⟩] 40) = wA at *
  obtain ⟨nb, hnb⟩ : ∃ nb, nb = w.heap.size := ⟨_, rfl⟩
  rw [← hnb] at P0 ⊢
  clear hnb
  refine OF.out.mono ?_
  rintro e w1 ⟨rfl, ew⟩
  rw [← ew]
  clear ew w1 OF
  obtain ⟨k0, k1, k2, e0, e1, e2⟩ := P0.out.cl
  have z0 : ((st.length : Int) == 0) = false := by rw [beq_eq_false_iff_ne]; omega
  by_cases b1 : xo = (st.length : Int)
  · have q1 : (xo != (st.length : Int)) = false := by simp [b1]
    have HB1 := Lib.hid b1
    clear b1
    by_cases b2 : xa < 0 ∨ (st.length : Int) ≤ xa
    · have HZ := Lib.hid (HE.out.trans (by rw [if_neg (by simp [HB1.out]), if_pos b2]))
      have HPZ := Lib.hid (HP.out.trans (if_pos (by rw [HZ.out]; decide)))
      rcases (show xa < 0 ∨ (¬ xa < 0 ∧ (st.length : Int) ≤ xa) by omega) with b3 | ⟨b3, b4⟩
      · have m1 : decide (xa < 0) = true := decide_eq_true b3
        clear b2
        go_wp2_with fail
        go_ret
        exact ⟨by rw [HZ.out]; rfl, by rw [HPZ.out]; exact P0.out.back HLEN.out, P0.out.kp⟩
      · have m1 : decide (xa < 0) = false := decide_eq_false b3
        have m2 : decide ((st.length : Int) ≤ xa) = true := decide_eq_true b4
        clear b2
        go_wp2_with fail
        go_ret
        exact ⟨by rw [HZ.out]; rfl, by rw [HPZ.out]; exact P0.out.back HLEN.out, P0.out.kp⟩
    · have b3 : ¬ xa < 0 := fun c => b2 (.inl c)
      have b4 : ¬ (st.length : Int) ≤ xa := fun c => b2 (.inr c)
      have m1 : decide (xa < 0) = false := decide_eq_false b3
      have m2 : decide ((st.length : Int) ≤ xa) = false := decide_eq_false b4
      clear b2
      go_wp2_with fail
      clear m1 m2
      obtain ⟨i, hi⟩ : ∃ i : Nat, i = xa.toNat := ⟨_, rfl⟩
      have hxa : xa = (i : Int) := by omega
      subst hxa
      have i0 : (0 : Int) ≤ (i : Int) := by omega
      have hil : i < st.length := by omega
      have i1 : (i : Int) < (st.length : Int) := by omega
      have HI := Lib.hid hil
      clear hi b3 b4
      go_quiet (fail)
      have P1 := Lib.hid (P0.out.q nq)
      clear k0 k1 k2 e0 e1 e2
      generalize wA.drewN nq = W1 at *
      obtain ⟨k0, k1, k2, e0, e1, e2⟩ := P1.out.cl
      obtain ⟨d0, d1, _, _⟩ := P1.out.x hil
      generalize hx : st[i] = x at *
      have HX := Lib.hid hx
      cases x with
      | some t =>
        dsimp only [Option.isSome, Option.getD] at d0 d1
        clear hx
        go_wp2_with fail
        by_cases ht : t = xt
        · have v1 : (t != xt) = false := by simp [ht]
          have v2 : (t == xt) = true := by simp [ht]
          have HZ2 := Lib.hid (PSM.out i HI.out rfl HB1.out (by rw [← ht]; exact HX.out))
          have HZ := Lib.hid HZ2.out.1
          have HPZ := Lib.hid HZ2.out.2
          clear ht
          go_quiet (fail)
          have P2 := Lib.hid (P1.out.q nq)
          clear k0 k1 k2 e0 e1 e2
          have d0 : (W1.drewN nq).cell? ⟨g, i * 2, none⟩ = _ := d0
          have d1 : (W1.drewN nq).cell? ⟨g, i * 2 + 1, none⟩ = _ := d1
          generalize W1.drewN nq = W2 at *
          obtain ⟨k0, k1, k2, e0, e1, e2⟩ := P2.out.cl
          go_wp2_with fail
          go_ret
          exact ⟨by rw [HZ.out]; rfl, by rw [HPZ.out]; exact P2.out.back HLEN.out, P2.out.kp⟩
        · have v1 : (t != xt) = true := by simp [ht]
          have v2 : (t == xt) = false := by simp [ht]
          have HZ2 := Lib.hid (POT.out i HI.out rfl HB1.out t HX.out ht)
          have HZ := Lib.hid HZ2.out.1
          have HPZ := Lib.hid HZ2.out.2
          clear ht
          go_quiet (fail)
          have P3 := Lib.hid (P1.out.q nq)
          clear k0 k1 k2 e0 e1 e2
          have d0 : (W1.drewN nq).cell? ⟨g, i * 2, none⟩ = _ := d0
          have d1 : (W1.drewN nq).cell? ⟨g, i * 2 + 1, none⟩ = _ := d1
          generalize W1.drewN nq = W3 at *
          obtain ⟨k0, k1, k2, e0, e1, e2⟩ := P3.out.cl
          go_wp2_with fail
          go_ret
          exact ⟨by rw [HZ.out]; rfl, by rw [HPZ.out]; exact P3.out.back HLEN.out, P3.out.kp⟩
      | none =>
        dsimp only [Option.isSome, Option.getD] at d0 d1
        clear hx
        have HAL := Lib.hid (allB_set st i xt HI.out HX.out)
        have HLB := Lib.hid (leftB_set HI.out HX.out xt)
        have HLL := Lib.hid (leftB_le st)
        have u1 : wrap64 (524288 - ((allB st).length : Int)) = 524288 - ((allB st).length : Int) := IntWalk.wrap64_in _ (by omega)
        go_wp2_with fail
        by_cases hl : 524288 < (allB st).length + xt.length
        · have m1 : (524288 : Int) - ((allB st).length : Int) < (xt.length : Int) := by omega
          have m2 : decide ((524288 : Int) - ((allB st).length : Int) < (xt.length : Int)) = true := decide_eq_true m1
          have HZ := Lib.hid ((PNO.out i HI.out rfl HB1.out HX.out).trans (if_pos hl))
          have HPZ := Lib.hid (HP.out.trans (if_pos (by rw [HZ.out]; decide)))
          clear hl
          go_quiet (fail)
          have P4 := Lib.hid (P1.out.q nq)
          clear k0 k1 k2 e0 e1 e2 d0 d1
          generalize W1.drewN nq = W4 at *
          obtain ⟨k0, k1, k2, e0, e1, e2⟩ := P4.out.cl
          go_wp2_with fail
          go_ret
          exact ⟨by rw [HZ.out]; rfl, by rw [HPZ.out]; exact P4.out.back HLEN.out, P4.out.kp⟩
        · have m1 : ¬ (524288 : Int) - ((allB st).length : Int) < (xt.length : Int) := by omega
          have m2 : decide ((524288 : Int) - ((allB st).length : Int) < (xt.length : Int)) = false := decide_eq_false m1
          have HZ2 := Lib.hid (PFR.out i HI.out rfl HB1.out HX.out (by omega))
          have HZ := Lib.hid HZ2.out.1
          have HPZ := Lib.hid HZ2.out.2
          have HLN := Lib.hid hl
          clear hl
          go_quiet (fail)
          have P5 := Lib.hid (P1.out.q nq)
          clear k0 k1 k2 e0 e1 e2 d0 d1
          generalize W1.drewN nq = W5 at *
          obtain ⟨k0, k1, k2, e0, e1, e2⟩ := P5.out.cl
          have u2 : wrap64 ((leftB st : Int) - 1) = (leftB st : Int) - 1 := IntWalk.wrap64_in _ (by have := HLL.out; omega)
          have u3 : wrap64 (((allB st).length : Int) + (xt.length : Int)) = ((allB st).length : Int) + (xt.length : Int) := IntWalk.wrap64_in _ (by have := HLN.out; omega)
          go_wp2_with (go_at_call 24; refine (CL _).out.mono ?_; rintro e wc ⟨rfl, hbc⟩; have PC := Lib.hid (P5.out.new hbc); clear hbc k0 k1 k2 e0 e1 e2; obtain ⟨d0, d1, f0, f3⟩ := PC.out.x HI.out; have PF := Lib.hid (PC.out.sx HI.out xt); obtain ⟨k0, k1, k2, e0, e1, e2⟩ := PF.out.cl; obtain ⟨g1, g2⟩ := PF.out.f)
          have PG := Lib.hid (PF.out.s1 ((leftB st : Int) - 1))
          generalize ((wc.setCell ⟨g, i * 2, none⟩ (.string ⟨xt.toArray⟩)).setCell ⟨g, i * 2 + 1, none⟩ (.bool true)).setCell ⟨b, 1, none⟩ (.int .i64 ((leftB st : Int) - 1)) = V1 at *
          clear k0 k1 k2 e0 e1 e2 d0 d1 f0 f3 g1 g2 PC PF
          obtain ⟨k0, k1, k2, e0, e1, e2⟩ := PG.out.cl
          obtain ⟨g1, g2⟩ := PG.out.f
          have QH := Lib.hid (PG.out.s2 (((allB st).length : Int) + (xt.length : Int)))
          go_region
          generalize V1.setCell ⟨b, 2, none⟩ (.int .i64 (((allB st).length : Int) + (xt.length : Int))) = V2 at *
          have HF := Lib.hid (show BXF V2.drew b g c (st.set i (some xt)) ∧ Kept (fun i => i = b ∨ i = g) w V2.drew from by
            have q4 := QH.out.d
            have hN : (st.set i (some xt)).length = st.length := List.length_set
            have h1 := HAL.out
            have h2 := HLB.out
            have h3 := HLN.out
            have hL : ((leftB st : Int) - 1) = ((leftB (st.set i (some xt)) : Nat) : Int) := by omega
            have hB : ((allB st).length : Int) + (xt.length : Int) = (((allB (st.set i (some xt))).length : Nat) : Int) := by omega
            have hl3 := HLEN.out
            refine ⟨?_, q4.kp⟩
            rw [hL] at q4
            rw [hB, ← hN] at q4
            exact q4.back (by rw [hN]; omega))
          go_wp2_with fail
          go_ret
          exact ⟨by rw [HZ.out]; rfl, by rw [HPZ.out]; exact HF.out.1, HF.out.2⟩
  · have q1 : (xo != (st.length : Int)) = true := by simp [b1]
    have HZ := Lib.hid (HE.out.trans (if_pos b1))
    have HPZ := Lib.hid (HP.out.trans (if_pos (by rw [HZ.out]; decide)))
    clear b1
    go_wp2_with fail
    go_ret
    exact ⟨by rw [HZ.out]; rfl, by rw [HPZ.out]; exact P0.out.back HLEN.out, P0.out.kp⟩
end Go.Proofs.Ytiknfohadnjkiaa

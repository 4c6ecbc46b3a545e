/- Landed keep: what stands along the road. -/
import Derived.Test.YtgejocceegadhaaAppendIn
import Derived.Test.YtgejocceegadhaaBackW
import Derived.Test.YtgejocceegadhaaFrame
import Derived.Test.YtgejocceegadhaaGen
import Derived.Test.YtgejocceegadhaaKeepHoldMath
import Derived.Test.YtgejocceegadhaaKeepMath
import Derived.Test.YtgejocceegadhaaLandK3W
import Derived.Test.YtgejocceegadhaaLandK4W
import Derived.Test.YtgejocceegadhaaLandK8W
import Derived.Test.YtgejocceegadhaaLandKMath
import Derived.Test.YtgejocceegadhaaOwnL
import Derived.Test.YtgejocceegadhaaOwnPut
import Derived.Test.YtgejocceegadhaaRefKeep6W
import Derived.Test.YtgejocceegadhaaRowN
import Derived.Test.YtgejocceegadhaaRows
import Derived.Test.YtgejocceegadhaaShelf
import Derived.BigQuiet
import Derived.Deep.QuietTactic
import Derived.Deep.RegionHeld3
import Derived.Lib.Hide
import Derived.Outline
import Derived.WalkKit
import Derived.WalkLawsBesides
import Derived.WalkSpells
set_option linter.unusedVariables false
namespace Go.Proofs.Ytgejocceegadhaa
open Go.RowKit
attribute [local go_sem] Oper.semAt_some

def wayX (l : List GenD) (g : Int) : List GenD := if roadE l g ≠ 0 then [] else wayL l g
/-- What stands when k have come. -/
structure AlongAt (W : World) (gb wb B : Nat) (l : List GenD) (g : Int) (k : Nat) (gk : Int) (wk : List GenD) (v : Value) : Prop where
  gbox : W.heap[gb]? = some (.cells #[.int .i64 gk] 3 (0, 0))
  wbox : W.heap[wb]? = some (.cells #[v] 28 (0, 0))
  own : OwnN encGn 4 W (B + 2) 38 v wk
  len : wk.length ≤ k
  way : wayR l.reverse g = wk ++ wayR (l.reverse.drop k) gk
theorem AlongAt.kept {W W' : World} {gb wb B : Nat} {l : List GenD} {g : Int} {k : Nat} {gk : Int} {wk : List GenD} {v : Value} (h : AlongAt W gb wb B l g k gk wk v) (hg : gb < B) (hw : wb < B) (hk : Kept (fun b => b = B ∨ b = B + 1) W W') : AlongAt W' gb wb B l g k gk wk v :=
  ⟨hk.old h.gbox (by omega), hk.old h.wbox (by omega), h.own.kept hk (fun j hj e => by have := (h.own.lt hj).1; omega), h.len, h.way⟩
theorem AlongAt.new {W W' : World} {gb wb B : Nat} {l : List GenD} {g : Int} {k : Nat} {gk : Int} {wk : List GenD} {v : Value} (h : AlongAt W gb wb B l g k gk wk v) (hb : Below W.heap.size W W') : AlongAt W' gb wb B l g k gk wk v :=
  ⟨(Kept.new hb (fun _ => False)).old h.gbox id, (Kept.new hb (fun _ => False)).old h.wbox id, h.own.new hb, h.len, h.way⟩
set_option maxRecDepth 100000 in
set_option maxHeartbeats 4000000 in
theorem along_any (v : Value) (l : List GenD) (g : Int) (w : World) {N : Nat → Prop} (hrow : RowN encGn 4 N w v l) (hl : l.length ≤ 140737488351232) (hok : ∀ x ∈ l, GenOk x) :
    Calls Try.prog 32 #[v, .int .i64 g] w fun e w' => ∃ v', e = .returned (.tuple #[v', .int .i64 (roadE l g)]) ∧ OwnN encGn 4 w' w.heap.size 38 v' (wayX l g) ∧ Below w.heap.size w w' := by
  have CH := Lib.hid (fun X (hX : Below w.heap.size w X) => keepCheck_any v l X (hrow.keep hX) hl hok)
  have HR := Lib.hid hrow
  obtain ⟨va, vc, hv, hvc⟩ := hrow.slice
  subst hv
  clear hrow
  have BK := Lib.hid (fun X => backward_any va l.length vc X)
  have hbA := (Below.refl _ w).alloc (Nat.le_refl _) (.cells #[.int .i64 g] 3)
  have HBA := Lib.hid hbA
  have CH1 := Lib.hid (CH.out _ hbA)
  have hbx := heap_alloc_new w (.cells #[.int .i64 g] 3)
  have HGX := Lib.hid hbx
  have hsA : (w.alloc (.cells #[.int .i64 g] 3)).heap.size = w.heap.size + 1 := by simp
  refine (callsIn_wide (n := 3)).1 ?_
  refine callsIn_of_wp_marks Try.func32 rfl trivial ?_ rfl
  simp only [Try.ntmps32, List.size_toArray, List.length_cons, List.length_nil, Nat.reduceAdd, Nat.reduceSub, Array.replicate_succ, Array.replicate_zero, List.push_toArray, List.append_toArray, List.nil_append, List.cons_append]
  by_cases hc : checkG l = 0
  · have hlen := (checkG_wf hc).2
    have HRE := Lib.hid (show roadE l g = if atN l g < l.length then 0 else 8 by unfold roadE; rw [if_neg (by rw [hc]; simp)])
    have HWL := Lib.hid (show (wayL l g).length = 0 ↔ ¬ atN l g < l.length by rw [wayL_len (checkG_wf hc).1, ← depG_pos]; omega)
    rw [hc] at CH1
    clear hc hbA hbx
    gi_wp2_with (refine ⟨trivial, ?_⟩; gi_at_call 19; refine (callsIn_wide.2 (CH1).out).mono ?_; rintro e w2 ⟨rfl, hb2⟩)
    generalize w.alloc (.cells #[.int .i64 g] 3) = wA at *
    have HB2 := Lib.hid (HBA.out.trans (hb2.mono HBA.out.size))
    have HG2 := Lib.hid ((Kept.new hb2 (fun _ => False)).old HGX.out id)
    have hs2 : w.heap.size < w2.heap.size := by have := hb2.size; omega
    clear hb2 HGX HBA CH1
    refine ⟨trivial, ?_⟩
    refine (callsIn_wide.2 (BK.out _)).mono ?_
    rintro e w3 ⟨rfl, rfl⟩
    have hbW : Below w2.heap.size w2 (w2.alloc (.cells #[.slice none 0 0] 28)) := (Below.refl _ w2).alloc (Nat.le_refl _) _
    have hbI : Below w2.heap.size w2 ((w2.alloc (.cells #[.slice none 0 0] 28)).alloc (.cells #[.slice va l.length vc] 28)) := hbW.alloc (by simp) _
    have h4 : ((w2.alloc (.cells #[.slice none 0 0] 28)).alloc (.cells #[.slice va l.length vc] 28)).heap.size = w2.heap.size + 2 := by simp
    have hwb : ((w2.alloc (.cells #[.slice none 0 0] 28)).alloc (.cells #[.slice va l.length vc] 28)).heap[w2.heap.size]? = some (.cells #[.slice none 0 0] 28 (0, 0)) :=
      (Below.heap_alloc _ _ _ (by simp)).trans (heap_alloc_new w2 _)
    have hib : ((w2.alloc (.cells #[.slice none 0 0] 28)).alloc (.cells #[.slice va l.length vc] 28)).heap[w2.heap.size + 1]? = some (.cells #[.slice va l.length vc] 28 (0, 0)) := by
      have := heap_alloc_new (w2.alloc (.cells #[.slice none 0 0] 28)) (.cells #[.slice va l.length vc] 28)
      rwa [World.size_alloc] at this
    have HG4 := Lib.hid ((Kept.new hbI (fun _ => False)).old HG2.out id)
    have HB4 := Lib.hid (HB2.out.trans (hbI.mono HB2.out.size))
    gi_wp2
    generalize (w2.alloc (.cells #[.slice none 0 0] 28)).alloc (.cells #[.slice va l.length vc] 28) = w4 at *
    have HR4 := Lib.hid (HR.out.keep HB4.out)
    obtain ⟨wb, hwbe⟩ : ∃ wb, wb = w2.heap.size := ⟨_, rfl⟩
    obtain ⟨gb, hgbe⟩ : ∃ gb, gb = w.heap.size := ⟨_, rfl⟩
    obtain ⟨B, hBe⟩ : ∃ B, B = w4.heap.size := ⟨_, rfl⟩
    rw [← hwbe] at hwb hib h4 hs2 ⊢
    rw [← hgbe] at HG4 hs2 ⊢
    have HWB := Lib.hid hwb
    have HIB := Lib.hid hib
    have hrow4 : RowN encGn 4 (fun b => ¬ (b = gb ∨ b = wb ∨ B + 2 ≤ b) ∧ b < w4.heap.size) w4 (.slice va l.length vc) l := by
      obtain ⟨a, c, hv, hlc, hcc⟩ := HR.out
      refine ⟨a, c, hv, hlc, fun i hi => ?_⟩
      obtain ⟨g', o', rfl, _, hx⟩ := hcc i hi
      have hlt : g' < w.heap.size := World.block_lt_of_cell? w _ (hx 0 _ rfl)
      exact ⟨g', o', rfl, ⟨by omega, by omega⟩, hx.new HB4.out⟩
    have HBE := Lib.hid hBe
    have hgw : gb < wb := by omega
    have hwB : wb + 1 < B := by omega
    have hBw : B = w4.heap.size := hBe
    have HWE := Lib.hid hwbe
    have HGE := Lib.hid hgbe
    clear hwbe hgbe hBe h4 hsA hs2
    refine wp_back (wb + 1) va vc l (by omega) rfl (fun b => b = gb ∨ b = wb ∨ B + 2 ≤ b) (by omega) (by omega) (by omega) (by omega) HIB.out hrow4
      (fun k W => ∃ gk wk v, AlongAt W gb wb B l g k gk wk v) ?hI ⟨g, [], _, HG4.out, HWB.out, OwnN.nil _ _ _ _ _, Nat.le_refl _, rfl⟩
      (fun x a' W => ∃ (Bx : Nat) (u : Value), B + 2 ≤ Bx ∧ W.heap[Bx]? = some (.cells #[.int .i64 x.gen, .int .i64 x.basis, .int .i64 x.bytes, .string ⟨x.mark.toArray⟩] 38 (0, 0)) ∧ (∀ v', W.heap[wb]? = some (.cells #[v'] 28 (0, 0)) → v'.ownBlock ≠ some Bx) ∧ a' = { tmps := #[.slice va l.length vc, .int .i64 g, undef, .pointer (some ⟨gb, 0, none⟩), .slice none 0 0, .int .i64 0, .int .i64 0, .pointer (some ⟨wb, 0, none⟩), undef, .pointer (some ⟨Bx, 0, none⟩), .slice va l.length vc, .int .i64 0, .int .i64 0, .bool false, undef, .slice va l.length vc, .func (.func 42) #[] #[.pointer (some ⟨wb + 1, 0, none⟩)], u, genVl x, undef, undef, undef, undef, undef, undef, undef, undef, undef, undef, undef, undef, undef, undef, undef, undef], defers := [] })
      ?hAx ?assign ?body ?done
    case hI =>
      rintro k W W' ⟨gk, wk, v, h⟩ hk
      exact ⟨gk, wk, v, h.kept (by omega) (by omega) (by rw [hBw]; exact hk)⟩
    case hAx =>
      rintro x a' W W' ⟨Bx, u, h1, h2, h3, rfl⟩ hk
      have hws : wb < W.heap.size := Nat.lt_trans (show wb < Bx by omega) (Array.getElem?_eq_some_iff.1 h2).1
      exact ⟨Bx, u, h1, hk.old h2 (by omega), fun v' hv' => h3 v' ((hk.block wb hws (by omega)).symm.trans hv'), rfl⟩
    case assign =>
      intro lr k hk W K hsz hI hK
      have HI := Lib.hid hI
      have HK := Lib.hid hK
      have hBW : B + 2 ≤ W.heap.size := by omega
      clear hI hK hsz hBw
      generalize l[l.length - 1 - k] = x at *
      have hbX : Below W.heap.size W (W.alloc (.cells #[.int .i64 x.gen, .int .i64 x.basis, .int .i64 x.bytes, .string ⟨x.mark.toArray⟩] 38)) := (Below.refl _ W).alloc (Nat.le_refl _) _
      have HBX := Lib.hid hbX
      have HXX := Lib.hid (heap_alloc_new W (.cells #[.int .i64 x.gen, .int .i64 x.basis, .int .i64 x.bytes, .string ⟨x.mark.toArray⟩] 38))
      have HKF := Lib.hid (fun a' h => HK.out a' _ hbX (by obtain ⟨gk, wk, v, h⟩ := HI.out; exact ⟨gk, wk, v, h.new hbX⟩) h)
      have HNV := Lib.hid (show ∀ v', (W.alloc (.cells #[.int .i64 x.gen, .int .i64 x.basis, .int .i64 x.bytes, .string ⟨x.mark.toArray⟩] 38)).heap[wb]? = some (.cells #[v'] 28 (0, 0)) → v'.ownBlock ≠ some W.heap.size from fun v' hv' e => by
        obtain ⟨gk, wk, v, h⟩ := HI.out
        rw [hbX.block wb (by omega), h.wbox] at hv'
        injection hv' with hv'
        injection hv' with e1 _ _
        have e2 : v = v' := by simpa using e1
        subst e2
        have := (h.own.lt e).2.1
        omega)
      clear hbX
      obtain ⟨xg, xb, xn, xm⟩ := x
      dsimp only [genVl] at HKF HXX HNV ⊢
      gi_wp2
      exact HKF.out _ ⟨W.heap.size, _, hBW, HXX.out, HNV.out, rfl⟩
    case body =>
      intro lr k hk a' W hsz hI hA
      obtain ⟨Bx, u, hBx, hX, hnv, rfl⟩ := hA
      obtain ⟨gk, wk, v, hAL⟩ := hI
      dsimp only
      have hBW : B + 2 ≤ W.heap.size := by omega
      have HAL := Lib.hid hAL
      have hlt := List.getElem?_eq_getElem (l := l.reverse) (i := k) (by simp; exact hk)
      have HRV := Lib.hid (show l.reverse.drop k = l[l.length - 1 - k]'(by omega) :: l.reverse.drop (k + 1) from by
        rw [List.drop_eq_getElem_cons (by simp; exact hk), List.getElem_reverse])
      have hwl := hAL.len
      have g0 : W.cell? ⟨gb, 0, none⟩ = some (.int .i64 gk) := by rw [cell_of_row _ _ _ _ _ _ hAL.gbox]; rfl
      have g1 : W.frozen? ⟨gb, 0, none⟩ = false := frozen_of_row _ _ _ _ _ hAL.gbox
      have v0 : W.cell? ⟨wb, 0, none⟩ = some v := by rw [cell_of_row _ _ _ _ _ _ hAL.wbox]; rfl
      have v1 : W.frozen? ⟨wb, 0, none⟩ = false := frozen_of_row _ _ _ _ _ hAL.wbox
      generalize l[l.length - 1 - k] = x at *
      obtain ⟨xg, xb, xn, xm⟩ := x
      dsimp only [genVl] at hX ⊢
      have x0 : W.cell? ⟨Bx, 0, none⟩ = some (.int .i64 xg) := by rw [cell_of_row _ _ _ _ _ _ hX]; rfl
      have x1 : W.cell? ⟨Bx, 1, none⟩ = some (.int .i64 xb) := by rw [cell_of_row _ _ _ _ _ _ hX]; rfl
      have x2 : W.cell? ⟨Bx, 2, none⟩ = some (.int .i64 xn) := by rw [cell_of_row _ _ _ _ _ _ hX]; rfl
      have x3 : W.cell? ⟨Bx, 3, none⟩ = some (.string ⟨xm.toArray⟩) := by rw [cell_of_row _ _ _ _ _ _ hX]; rfl
      have HXB := Lib.hid hX
      clear hX hAL hlt hsz hBw
      by_cases he : xg = gk
      · have q1 : (xg == gk) = true := by simp [he]
        have HE := Lib.hid he
        clear he
        have hne := hnv v HAL.out.wbox
        have hBL : Bx < W.heap.size := (Array.getElem?_eq_some_iff.1 HXB.out).1
        have HFIN := Lib.hid (show ∀ (v7 : Value) (w7 : World), OwnN encGn 4 w7 (B + 2) 38 v7 (wk ++ [⟨xg, xb, xn, xm⟩]) → TurnN (B + 2) W v w7 v7 →
            w7.cell? ⟨wb, 0, none⟩ = some v ∧ w7.frozen? ⟨wb, 0, none⟩ = false ∧ w7.cell? ⟨Bx, 1, none⟩ = some (.int .i64 xb) ∧ (w7.setCell ⟨wb, 0, none⟩ v7).cell? ⟨Bx, 1, none⟩ = some (.int .i64 xb) ∧
            (w7.setCell ⟨wb, 0, none⟩ v7).cell? ⟨gb, 0, none⟩ = some (.int .i64 gk) ∧ (w7.setCell ⟨wb, 0, none⟩ v7).frozen? ⟨gb, 0, none⟩ = false ∧
            Kept (fun b => b = gb ∨ b = wb ∨ B + 2 ≤ b) W ((w7.setCell ⟨wb, 0, none⟩ v7).setCell ⟨gb, 0, none⟩ (.int .i64 xb)) ∧
            AlongAt ((w7.setCell ⟨wb, 0, none⟩ v7).setCell ⟨gb, 0, none⟩ (.int .i64 xb)) gb wb B l g (k + 1) xb (wk ++ [⟨xg, xb, xn, xm⟩]) v7 from by
          intro v7 w7 ho ht
          have hW7 := (ht.bel.block wb (by omega)).trans HAL.out.wbox
          have hG7 := (ht.bel.block gb (by omega)).trans HAL.out.gbox
          have hX7 := ht.kept.old HXB.out hne
          have hGs : (w7.setCell ⟨wb, 0, none⟩ v7).heap[gb]? = some (.cells #[.int .i64 gk] 3 (0, 0)) := (Below.heap_setCell _ _ _ _ (by simp; omega)).trans hG7
          have hXs : (w7.setCell ⟨wb, 0, none⟩ v7).heap[Bx]? = some (.cells #[.int .i64 xg, .int .i64 xb, .int .i64 xn, .string ⟨xm.toArray⟩] 38 (0, 0)) := (Below.heap_setCell _ _ _ _ (by simp; omega)).trans hX7
          have hWs : (w7.setCell ⟨wb, 0, none⟩ v7).heap[wb]? = some (.cells #[v7] 28 (0, 0)) := by rw [heap_setCell_same w7 wb 0 _ _ _ hW7]; rfl
          have kk : Kept (fun b => b = gb ∨ b = wb) w7 ((w7.setCell ⟨wb, 0, none⟩ v7).setCell ⟨gb, 0, none⟩ (.int .i64 xb)) := ((Kept.refl _ w7).setCell (p := ⟨wb, 0, none⟩) (.inr rfl) _).setCell (p := ⟨gb, 0, none⟩) (.inl rfl) _
          refine ⟨by rw [cell_of_row _ _ _ _ _ _ hW7]; rfl, frozen_of_row _ _ _ _ _ hW7, by rw [cell_of_row _ _ _ _ _ _ hX7]; rfl, by rw [cell_of_row _ _ _ _ _ _ hXs]; rfl, by rw [cell_of_row _ _ _ _ _ _ hGs]; rfl, frozen_of_row _ _ _ _ _ hGs, ?_, ?_, ?_, ?_, ?_, ?_⟩
          · exact (ht.kept.mono (fun b _ e => .inr (.inr (HAL.out.own.lt e).1))).trans (kk.mono (fun b _ e => by rcases e with e | e; exact .inl e; exact .inr (.inl e)))
          · rw [heap_setCell_same _ gb 0 _ _ _ hGs]; rfl
          · exact (Below.heap_setCell _ _ _ _ (by simp; omega)).trans hWs
          · exact ho.kept kk (fun j hj e => by have := (ho.lt hj).1; omega)
          · rw [List.length_append]; simp; omega
          · rw [HAL.out.way, HRV.out, wayR, if_pos HE.out, List.append_assoc]; rfl)
        clear hne hBL hnv
        gi_wp2_with (gi_at_builtin; refine append_newIn (enc := encGn) (k := 4) (w := W) (by rfl) (.tmp 23) (.tmp 25) 28 38 (.agg #[.int .i64 0, .int .i64 0, .int .i64 0, .string ByteArray.empty]) 40 (by rfl) Try.underlying28 info_gen12 (by rfl) (by decide) encGn_ok (B + 2) _ wk ⟨xg, xb, xn, xm⟩ (by rfl) HAL.out.own (by rfl) (by omega) (by unfold maxLen; omega) hBW _ (by rfl) ?_; intro v7 w7 hown7 ht7; obtain ⟨sa, sc, hv7, _⟩ := (OwnN.row encGn_ok hown7).slice; rw [List.length_append, List.length_singleton] at hv7; subst hv7; obtain ⟨z1, z2, z3, z4, z5, z6, z7, z8⟩ := HFIN.out _ _ hown7 ht7; have HZ7 := Lib.hid z7; have HZ8 := Lib.hid z8; clear z7 z8 hown7 ht7 x0 x1 x2 x3 v0 v1 g0 g1)
        exact ⟨HZ7.out, _, _, _, HZ8.out⟩
      · have q1 : (xg == gk) = false := by simp [he]
        have HNX := Lib.hid (show AlongAt W gb wb B l g (k + 1) gk wk v from ⟨HAL.out.gbox, HAL.out.wbox, HAL.out.own, by omega, by rw [HAL.out.way, HRV.out, wayR, if_neg he]⟩)
        clear he
        gi_wp2
        exact ⟨Kept.refl _ _, gk, wk, v, HNX.out⟩
    case done =>
      rintro D W hD hkk ⟨gk, wk, v, hAL⟩ hDef
      have HBW := Lib.hid (HB4.out.trans (hkk.below (B := w.heap.size) (by have := HGE.out; omega) (fun b hb => by have := HGE.out; omega)))
      have hwk : wayR l.reverse g = wk := by have := hAL.way; rwa [List.drop_of_length_le (by simp), wayR, List.append_nil] at this
      have HWK := Lib.hid (show wayL l g = wk.reverse by unfold wayL; rw [hwk])
      have hlk := hAL.len
      have hDB : B ≤ D := by omega
      have hBW2 : B + 2 ≤ W.heap.size ∨ wk = [] := by
        rcases hAL.own.2 with ⟨_, h⟩ | ⟨g', cap', cur, _, hb', hg', _⟩
        · exact .inr (List.eq_nil_of_length_eq_zero h)
        · exact .inl (by have := (Array.getElem?_eq_some_iff.1 hg').1; omega)
      have v0 : W.cell? ⟨wb, 0, none⟩ = some v := by rw [cell_of_row _ _ _ _ _ _ hAL.wbox]; rfl
      obtain ⟨sa, sc, hv, _⟩ := (OwnN.row encGn_ok hAL.own).slice
      subst hv
      have HAL := Lib.hid hAL
      clear hkk hAL hwk
      have hP : ∀ W2 : World, D < W2.heap.size → Below w.heap.size W2 (W2.putObj D (.deferred none)) := fun W2 h => (Below.refl _ W2).grown (grownBy_putObj' W2 _ _) (by have := HGE.out; omega) (fun k e => by cases e; have := HGE.out; omega)
      have HP := Lib.hid hP
      have hDW : D < W.heap.size := (Array.getElem?_eq_some_iff.1 hDef).1
      clear hP
      by_cases hz : wk.length = 0
      · have hz0 : wk = [] := List.eq_nil_of_length_eq_zero hz
        have HE := Lib.hid (show roadE l g = 8 by
          rw [HRE.out, if_neg]
          exact HWL.out.1 (by rw [HWK.out, hz0]; rfl))
        have HX := Lib.hid (show wayX l g = [] by unfold wayX; rw [if_pos (by rw [HE.out]; decide)])
        subst hz0
        clear hz hBW2
        gi_wp2
        refine ⟨by simp, .inl ⟨_, _, rfl, run_takeDeferred hDef, ?_⟩⟩
        exact ⟨_, results_tmp2 Try.results32 _ _ _, _, by rw [HE.out]; rfl, by rw [HX.out]; exact OwnN.nil _ _ _ _ _, HBW.out.trans (HP.out W hDW)⟩
      · have hne : wk ≠ [] := fun e => hz (by rw [e]; rfl)
        have HE := Lib.hid (show roadE l g = 0 by
          rw [HRE.out, if_pos]
          refine Classical.byContradiction fun c => hne ?_
          have := HWL.out.2 c
          rw [HWK.out, List.length_reverse] at this
          exact List.eq_nil_of_length_eq_zero this)
        have HX := Lib.hid (show wayX l g = wk.reverse by unfold wayX; rw [if_neg (by rw [HE.out]; simp), HWK.out])
        have q1 : ((wk.length : Int) == 0) = false := by simp; exact hne
        obtain ⟨g', c', hv, _, hgb, hgl, _, _⟩ := HAL.out.own.atB encGn_ok hne
        injection hv with ea eb ec
        subst ea; subst ec
        clear eb
        have RV := Lib.hid (reverse_any wk W (B + 2) g' sc HAL.out.own (by omega))
        obtain ⟨_, _, cur, hcur⟩ := HAL.out.own.lt (g := g') rfl
        have hDg : D ≠ g' := fun e => by subst e; rw [hDef] at hcur; cases hcur
        have hwg : wb ≠ g' := by omega
        have HWB7 := Lib.hid (fun W2 (hk : Kept (· = g') W W2) => show W2.cell? ⟨wb, 0, none⟩ = some (.slice (some ⟨g', 0, none⟩) wk.length sc) from (World.cell?_of_block (w := W) (a := ⟨wb, 0, none⟩) (hk.block wb (World.block_lt_of_cell? W _ v0) hwg)).trans v0)
        clear hcur hz hBW2 hwg
        gi_wp2_with (refine ⟨trivial, ?_⟩; gi_at_call 38; refine (callsIn_wide.2 RV.out).mono ?_; rintro e W2 ⟨rfl, ho2, hk2⟩; have v2 := HWB7.out _ hk2)
        have hD2 := (hk2.block D hDW hDg).trans hDef
        refine ⟨by simp, .inl ⟨_, _, rfl, run_takeDeferred hD2, ?_⟩⟩
        have hDW2 : D < W2.heap.size := (Array.getElem?_eq_some_iff.1 hD2).1
        have hB2 := HBW.out.trans (hk2.below (B := w.heap.size) HBW.out.size (fun b e => by have := HGE.out; omega))
        exact ⟨_, results_tmp2 Try.results32 _ _ _, _, by rw [HE.out]; rfl, by
          rw [HX.out]
          have := (ho2.mono (show w.heap.size ≤ B + 2 by have := HGE.out; omega)).kept ((Kept.refl (· = D) W2).putObjK rfl (.deferred none)) (fun j hj e => by
            injection hj with hj
            exact hDg (e.symm.trans hj.symm))
          exact this, hB2.trans (HP.out W2 hDW2)⟩
  · have HE := Lib.hid (show roadE l g = checkG l by unfold roadE; rw [if_pos hc])
    have HX := Lib.hid (show wayX l g = [] by unfold wayX; rw [if_pos (by rw [HE.out]; exact hc)])
    have q1 : (checkG l != 0) = true := by simp [hc]
    rw [HE.out]
    generalize checkG l = ce at *
    clear hc HE hbA hbx hsA
    gi_wp2_with (refine ⟨trivial, ?_⟩; gi_at_call 19; refine (callsIn_wide.2 (CH1).out).mono ?_; rintro e w2 ⟨rfl, hb2⟩)
    exact ⟨_, results_tmp2 Try.results32 _ _ _, _, rfl, by rw [HX.out]; exact OwnN.nil _ _ _ _ _, HBA.out.trans (hb2.mono HBA.out.size)⟩
end Go.Proofs.Ytgejocceegadhaa

/- A range over the library's Backward: the generations come to the body one by one, the last one first. -/
import Derived.Test.YtgejocceegadhaaFrame
import Derived.Test.YtgejocceegadhaaGen
import Derived.Test.YtgejocceegadhaaKeepHoldMath
import Derived.Test.YtgejocceegadhaaKeepMath
import Derived.Test.YtgejocceegadhaaLandKMath
import Derived.Test.YtgejocceegadhaaOwnL
import Derived.Test.YtgejocceegadhaaRowN
import Derived.Test.YtgejocceegadhaaRows
import Derived.BigQuiet
import Derived.Deep.QuietTactic
import Derived.Deep.RegionHeld3
import Derived.Lib.Hide
import Derived.LoopIn
import Derived.LoopNIn
import Derived.Outline
import Derived.OwnWalkIn
import Derived.RangeFuncBound
import Derived.RangeFuncCalls
import Derived.RangeFuncLeaves
import Derived.RangeFuncNested
import Derived.Shelf.Abstract
import Derived.Shelf.RegionOpen
import Derived.TacticsInMore
import Derived.WalkKit
import Derived.WalkLawsBesides
import Derived.WalkSpells
set_option linter.unusedVariables false
namespace Go.Proofs.Ytgejocceegadhaa
open Go.RowKit
attribute [local go_sem] Oper.semAt_some

theorem Kept.putObjK {M : Nat → Prop} {a w : World} (h : Kept M a w) {l : Nat} (hl : M l) (o : Obj) : Kept M a (w.putObj l o) :=
  h.trans ⟨rfl, rfl, rfl, by simp, fun k _ hm => World.putObj_heap_other (fun e => hm (e ▸ hl))⟩
set_option maxRecDepth 100000 in
theorem backward_any (va : Option Addr) (n c : Nat) (w : World) :
    Calls Try.prog 37 #[.slice va n c] w fun e w' => e = .returned (.func (.func 42) #[] #[.pointer (some ⟨w.heap.size, 0, none⟩)]) ∧ w' = w.alloc (.cells #[.slice va n c] 28) := by
  go_enter Try.func37, Try.ntmps37
  go_wp2_with fail
  go_ret
  exact ⟨by simp, rfl⟩
def genVl (x : GenD) : Value := .agg #[.int .i64 x.gen, .int .i64 x.basis, .int .i64 x.bytes, .string ⟨x.mark.toArray⟩]
set_option maxRecDepth 100000 in
set_option maxHeartbeats 1000000 in
theorem back_in (l ib : Nat) (va : Option Addr) (vc : Nat) (xs : List GenD) (hxl : xs.length ≤ 4096) (K0 : Nat → Prop) (hib : ¬ K0 ib) (J : Nat → World → Prop) (W : World)
    (hY : ∀ k (hk : k < xs.length) W1, J k W1 → Kept K0 W W1 → YieldAt Fence.wide 1 Try.prog l #[.int .i64 ((xs.length - 1 - k : Nat) : Int), genVl (xs[xs.length - 1 - k]'(by omega))] W1 fun e W' => e = .returned (.bool true) ∧ J (k + 1) W' ∧ Kept K0 W1 W')
    (hbox : W.heap[ib]? = some (.cells #[.slice va xs.length vc] 28 (0, 0))) (hrow : RowN encGn 4 (fun b => ¬ K0 b) W (.slice va xs.length vc) xs) (h0 : J 0 W) :
    CallsIn Fence.wide 2 Try.prog 42 #[.func (.yield l) #[] #[], .pointer (some ⟨ib, 0, none⟩)] W fun e W' => (∃ v, e = .returned v) ∧ J xs.length W' ∧ Kept K0 W W' := by
  have HY := Lib.hid hY; clear hY
  have HX := Lib.hid hbox
  have HR := Lib.hid hrow
  have cib : W.cell? ⟨ib, 0, none⟩ = some (.slice va xs.length vc) := by rw [cell_of_row _ _ _ _ _ _ hbox]; rfl
  have hvc : xs.length ≤ vc := by
    obtain ⟨_, _, e, h⟩ := hrow.slice
    injection e with e1 e2 e3
    omega
  clear hrow hbox
  refine callsIn_of_wp Try.func42 rfl trivial ?_ rfl
  simp only [Try.ntmps42, List.size_toArray, List.length_cons, List.length_nil, Nat.reduceAdd, Nat.reduceSub, Array.replicate_succ, Array.replicate_zero, List.push_toArray, List.append_toArray, List.nil_append, List.cons_append]
  gi_wp2
  gi_loopw [3] (fun v3 wr => ∃ k : Nat, k ≤ xs.length ∧ v3 = .int .i64 ((xs.length : Int) - 1 - k) ∧ Hid (J k wr) ∧ Hid (Kept K0 W wr)) (fun v3 wr => (intOf v3 + 1).toNat)
  case atStart => exact ⟨0, Nat.zero_le _, by congr 1; omega, Lib.hid h0, Lib.hid (Kept.refl _ _)⟩
  case round =>
    obtain ⟨k, hk, rfl, HJ, HK⟩ := hrel
    by_cases hlt : k < xs.length
    · obtain ⟨j, hj⟩ : ∃ j : Nat, j = xs.length - 1 - k := ⟨_, rfl⟩
      have ej : (xs.length : Int) - 1 - k = (j : Int) := by omega
      rw [ej]
      have i0 : (0 : Int) ≤ (j : Int) := by omega
      have i1 : (j : Int) < (xs.length : Int) := by omega
      have hjl : j < xs.length := by omega
      obtain ⟨fn, tmps, assign, body, hy, hR⟩ := HY.out k hlt wr HJ.out HK.out
      have c0 : wr.cell? ⟨ib, 0, none⟩ = some (.slice va xs.length vc) := (World.cell?_of_block (w := W) (a := ⟨ib, 0, none⟩) (HK.out.block ib (World.block_lt_of_cell? W _ cib) hib)).trans cib
      obtain ⟨b, o, c', hv, hn, hel⟩ := (HR.out.kept HK.out (fun g hg => hg)).at hjl
      injection hv with ea eb ec
      subst ea; subst ec
      clear eb
      have hxj : xs[xs.length - 1 - k]'(by omega) = xs[j] := by simp only [hj]
      rw [hxj, ← hj] at hy
      generalize xs[j] = x at *
      obtain ⟨xg, xb, xn, xm⟩ := x
      have d0 := hel 0 _ rfl
      have d1 := hel 1 _ rfl
      have d2 := hel 2 _ rfl
      have d3 := hel 3 _ rfl
      rw [Nat.add_zero] at d0
      dsimp only [genVl] at d0 d1 d2 d3 hy
      have HJ2 := Lib.hid hj
      clear hel hxj hj ej
      gi_wp2
      refine hR.mono ?_
      rintro e W3 ⟨rfl, hJ3, hk3⟩
      have HJ3 := Lib.hid hJ3
      have HK3 := Lib.hid (HK.out.trans hk3)
      have u1 : wrap64 ((j : Int) - 1) = (j : Int) - 1 := IntWalk.wrap64_in _ (by omega)
      clear hJ3 hk3 d0 d1 d2 d3 c0 hR hy
      gi_wp2
      go_roundw
      case rel => exact ⟨k + 1, hlt, by have := HJ2.out; congr 1; omega, HJ3, HK3⟩
      case measure => have := HJ2.out; first | (simp [intOf]; done) | (simp [intOf]; omega)
    · have hkn : k = xs.length := by omega
      have i0 : ¬ (0 : Int) ≤ (xs.length : Int) - 1 - k := by omega
      have HJF := Lib.hid (show J xs.length wr by rw [← hkn]; exact HJ.out)
      clear hkn
      gi_wp2
      go_end0
      exact ⟨⟨_, rfl⟩, HJF.out, HK.out⟩
set_option maxHeartbeats 1000000 in
theorem wp_back {g : Operand} {p1 p2 : Tmp} {assign body : Code} {Q : Exit → Act → World → Prop} {a : Act} {w : World} (ib : Nat) (va : Option Addr) (vc : Nat) (xs : List GenD) (hxl : xs.length ≤ 4096)
    (hg : a.eval g = .func (.func 42) #[] #[.pointer (some ⟨ib, 0, none⟩)])
    (M : Nat → Prop) (hib : ¬ M ib) (hibw : ib < w.heap.size) (hMD : ¬ M w.heap.size) (hML : ¬ M (w.heap.size + 1))
    (hbox : w.heap[ib]? = some (.cells #[.slice va xs.length vc] 28 (0, 0))) (hrow : RowN encGn 4 (fun b => ¬ M b ∧ b < w.heap.size) w (.slice va xs.length vc) xs)
    (I : Nat → World → Prop) (hI : ∀ k W W', I k W → Kept (fun b => b = w.heap.size ∨ b = w.heap.size + 1) W W' → I k W') (h0 : I 0 w)
    (Ax : GenD → Act → World → Prop) (hAx : ∀ x a' W W', Ax x a' W → Kept (fun b => b = w.heap.size ∨ b = w.heap.size + 1) W W' → Ax x a' W')
    (hassign : ∀ (l k : Nat) (hk : k < xs.length) (W : World) (K : Act → World → Prop), w.heap.size + 2 ≤ W.heap.size → I k W → (∀ a' W', Below W.heap.size W W' → I k W' → Ax (xs[xs.length - 1 - k]'(by omega)) a' W' → K a' W') →
      assign.wpIn (Fence.wide.inRound l) 1 Try.prog (Exit.then K (fun _ _ _ => False)) { tmps := (a.tmps.setIfInBounds p1 (.int .i64 ((xs.length - 1 - k : Nat) : Int))).setIfInBounds p2 (genVl (xs[xs.length - 1 - k]'(by omega))), defers := [] } W)
    (hbody : ∀ (l k : Nat) (hk : k < xs.length) (a' : Act) (W : World), w.heap.size + 2 ≤ W.heap.size → I k W → Ax (xs[xs.length - 1 - k]'(by omega)) a' W → body.wpIn (Fence.wide.inRound l) 1 Try.prog (fun e _ W' => match e with
      | .normal => Kept M W W' ∧ I (k + 1) W'
      | _ => False) a' W)
    (hdone : ∀ (D : Nat) (W : World), w.heap.size ≤ D → Kept (fun b => M b ∨ b = w.heap.size ∨ b = w.heap.size + 1) w W → I xs.length W → W.heap[D]? = some (.deferred (some [])) → Q .normal { a with defers := { target := .collected D, args := #[] } :: a.defers } W) :
    (Code.rangeFunc g #[p1, p2] assign body).wpIn Fence.wide 3 Try.prog Q a w := by
  refine wpIn_rangeFunc ?_
  intro fn hfn
  obtain ⟨r0, hr0⟩ : ∃ r0 : Loop, r0 = { state := .ready, pending := none, fn, tmps := a.tmps, params := #[p1, p2], assign, body, defers := w.heap.size } := ⟨_, rfl⟩
  obtain ⟨W1, hW1⟩ : ∃ W1, (w.alloc (.deferred (some []))).alloc (.loop r0) = W1 := ⟨_, rfl⟩
  have hL1 : W1.heap[w.heap.size + 1]? = some (.loop r0) := by
    rw [← hW1]
    have h := World.alloc_heap_new (w.alloc (.deferred (some []))) (.loop r0)
    rwa [World.size_alloc] at h
  have hD1 : W1.heap[w.heap.size]? = some (.deferred (some [])) := by
    rw [← hW1]
    exact (Below.heap_alloc _ _ _ (by simp)).trans (World.alloc_heap_new w _)
  have hs1 : W1.heap.size = w.heap.size + 2 := by rw [← hW1]; simp
  have hb1 : Below w.heap.size w W1 := by rw [← hW1]; exact ((Below.refl _ w).alloc (Nat.le_refl _) _).alloc (by simp) _
  have hnM : ∀ b, b < w.heap.size → ¬ M b → ¬ (M b ∨ b = w.heap.size ∨ b = w.heap.size + 1) := fun b hb hm h => by rcases h with h | h | h; exact hm h; omega; omega
  refine ⟨w.heap.size + 1, [{ target := .collected w.heap.size, args := #[] }], W1, { target := .fn (.func 42) #[.pointer (some ⟨ib, 0, none⟩)], args := #[.func (.yield (w.heap.size + 1)) #[] #[]] }, W1, 42,
    #[.func (.yield (w.heap.size + 1)) #[] #[]] ++ #[.pointer (some ⟨ib, 0, none⟩)], W1, ?_, ?_, fun _ _ => trivial, ?_, fun h => by simp [Fence.wide] at h, ?_⟩
  · rw [← hW1, hr0]; exact run_enterLoop_outer _ _ _ _ _
  · simp only [resolve, hg]
    simp [go_sem]
  · simp [invoke, go_sem]
  · have hput : ∀ (W : World) (o : Obj), w.heap.size + 1 < W.heap.size → W.heap[w.heap.size]? = some (.deferred (some [])) →
        (W.putObj (w.heap.size + 1) o).heap[w.heap.size + 1]? = some o ∧ (W.putObj (w.heap.size + 1) o).heap[w.heap.size]? = some (.deferred (some [])) ∧ Kept (fun b => b = w.heap.size ∨ b = w.heap.size + 1) W (W.putObj (w.heap.size + 1) o) :=
      fun W o hl hd => ⟨World.putObj_heap_same hl, (World.putObj_heap_other (by omega)).trans hd, (Kept.refl _ W).putObjK (.inr rfl) o⟩
    refine (back_in (w.heap.size + 1) ib va vc xs hxl (fun b => M b ∨ b = w.heap.size ∨ b = w.heap.size + 1) (hnM ib hibw hib)
      (fun k W => I k W ∧ W.heap[w.heap.size + 1]? = some (.loop r0) ∧ W.heap[w.heap.size]? = some (.deferred (some [])))
      W1 ?_ ((hb1.block ib hibw).trans hbox) ((hrow.keep hb1).mono (fun b h => hnM b h.2 h.1)) ⟨hI 0 w W1 h0 (Kept.of_below hb1 |>.mono (fun k hk h => by omega)), hL1, hD1⟩).mono ?_
    · rintro k hk W ⟨hi, hl, hd⟩ hKW
      have hlt : w.heap.size + 1 < W.heap.size := (Array.getElem?_eq_some_iff.1 hl).1
      have hy : (Instr.yield (w.heap.size + 1) #[.int .i64 ((xs.length - 1 - k : Nat) : Int), genVl (xs[xs.length - 1 - k]'(by omega))]).run Try.prog W = .ok (.round (w.heap.size + 1) fn ((a.tmps.setIfInBounds p1 (.int .i64 ((xs.length - 1 - k : Nat) : Int))).setIfInBounds p2 (genVl (xs[xs.length - 1 - k]'(by omega)))) assign body) W := by
        have h := run_yield (P := Try.prog) (args := #[.int .i64 ((xs.length - 1 - k : Nat) : Int), genVl (xs[xs.length - 1 - k]'(by omega))]) hl (by rw [hr0]; rfl)
        rw [hr0] at h
        simpa using h
      refine ⟨fn, _, assign, body, hy, roundIn_of_wpIn hfn ?_⟩
      refine hassign _ k hk W _ (by omega) hi (fun a' W2 hb2 hi2 hx2 => ?_)
      have hl2 := (hb2.block (w.heap.size + 1) hlt).trans hl
      have hd2 := (hb2.block w.heap.size (by omega)).trans hd
      have hs2 := hb2.size
      obtain ⟨hl3, hd3, hk3⟩ := hput W2 (.loop { r0 with state := .busy }) (by omega) hd2
      have hs3 : (W2.putObj (w.heap.size + 1) (.loop { r0 with state := .busy })).heap.size = W2.heap.size := World.putObj_size
      refine ⟨_, run_beginRound hl2 (by rw [hr0]), ?_⟩
      refine wpIn_mono (hbody _ k hk a' _ (by omega) (hI k W2 _ hi2 hk3) (hAx _ _ _ _ hx2 hk3)) ?_
      rintro e a3 W3 hp
      cases e with
      | normal =>
        obtain ⟨hk4, hi3⟩ := hp
        have hl4 := (hk4.block (w.heap.size + 1) (by omega) hML).trans hl3
        have hd4 := (hk4.block w.heap.size (by omega) hMD).trans hd3
        have hs4 := hk4.size
        obtain ⟨hl5, hd5, hk5⟩ := hput W3 (.loop r0) (by omega) hd4
        have he : (Instr.endRound (w.heap.size + 1) none).run Try.prog W3 = .ok (.bool true) (W3.putObj (w.heap.size + 1) (.loop r0)) := by
          have h := run_endRound (P := Try.prog) none hl4
          rw [hr0] at h ⊢
          exact h
        have kk : Kept (fun b => M b ∨ b = w.heap.size ∨ b = w.heap.size + 1) W (W3.putObj (w.heap.size + 1) (.loop r0)) :=
          (Kept.new hb2 _).trans ((hk3.mono (fun b _ h => .inr h)).trans ((hk4.mono (fun b _ h => .inl h)).trans (hk5.mono (fun b _ h => .inr h))))
        exact ⟨_, _, he, rfl, ⟨hI _ W3 _ hi3 hk5, hl5, hd5⟩, kk⟩
      | ret => exact hp.elim
      | exit id => exact hp.elim
      | goto t => exact hp.elim
      | panic ch => exact hp.elim
      | outgrown => exact hp.elim
    · rintro e W2 ⟨⟨v, rfl⟩, ⟨hi, hl, hd⟩, hKW⟩
      have hlt : w.heap.size + 1 < W2.heap.size := (Array.getElem?_eq_some_iff.1 hl).1
      obtain ⟨hl4, hd4, hk4⟩ := hput W2 (.loop { r0 with state := .exhausted }) hlt hd
      refine ⟨none, _, ?_, hdone w.heap.size _ (Nat.le_refl _) (((Kept.of_below hb1).mono (fun k hk h => by omega)).trans (hKW.trans (hk4.mono (fun b _ h => .inr h)))) (hI _ W2 _ hi hk4) hd4⟩
      have h := run_endLoop (P := Try.prog) hl (by rw [hr0]; simp)
      rw [h, hr0]
end Go.Proofs.Ytgejocceegadhaa

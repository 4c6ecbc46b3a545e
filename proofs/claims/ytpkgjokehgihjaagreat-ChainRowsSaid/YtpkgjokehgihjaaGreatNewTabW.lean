/- The walk of NewTable. -/
import Derived.Test.YtpkgjokehgihjaaGreatBookW
import Derived.Test.YtpkgjokehgihjaaGreatBytesW
import Derived.Test.YtpkgjokehgihjaaGreatCmpW
import Derived.Test.YtpkgjokehgihjaaGreatFrame
import Derived.Test.YtpkgjokehgihjaaGreatGen
import Derived.Test.YtpkgjokehgihjaaGreatInfos
import Derived.Test.YtpkgjokehgihjaaGreatMarkMath
import Derived.Test.YtpkgjokehgihjaaGreatOwnL
import Derived.Test.YtpkgjokehgihjaaGreatProg
import Derived.Test.YtpkgjokehgihjaaGreatCdX
import Derived.Test.YtpkgjokehgihjaaGreatRightW
import Derived.Test.YtpkgjokehgihjaaGreatRollMath
import Derived.Test.YtpkgjokehgihjaaGreatRowKeep
import Derived.Test.YtpkgjokehgihjaaGreatRows
import Derived.Test.YtpkgjokehgihjaaGreatSameW
import Derived.Test.YtpkgjokehgihjaaGreatShelf
import Derived.Test.YtpkgjokehgihjaaGreatSigAt
import Derived.Test.YtpkgjokehgihjaaGreatSigOwnW
import Derived.Test.YtpkgjokehgihjaaGreatSignAW
import Derived.Test.YtpkgjokehgihjaaGreatSignMath
import Derived.Test.YtpkgjokehgihjaaGreatSortX
import Derived.Test.YtpkgjokehgihjaaGreatSortEW
import Derived.Test.YtpkgjokehgihjaaGreatSortFW
import Derived.Test.YtpkgjokehgihjaaGreatWkX
import Derived.BigQuiet
import Derived.BigRegion
import Derived.Deep.CutBlock
import Derived.Deep.DeepCutAuto
import Derived.Deep.QuietTactic
import Derived.Deep.RegionLaw
import Derived.IntWalk
import Derived.Laws.BitsAllLaws
import Derived.Laws.Rows
import Derived.Laws.Tables
import Derived.Lib.Hide
import Derived.Outline
import Derived.StillTailTactics
import Derived.WalkKit
import Derived.WalkLawsBesides
import Derived.WalkSpells
set_option linter.unusedVariables false
namespace Go.Proofs.YtpkgjokehgihjaaGreat
open Go.RowKit

/-- A list with what is spare behind it. -/
def RowC {α : Type} (enc : α → Value) (base : Nat) (w : World) (v : Value) (xs : List α) : Prop :=
  (v = .slice none 0 0 ∧ xs = []) ∨ ∃ g o c, v = .slice (some ⟨g, o, none⟩) xs.length c ∧ base ≤ g ∧ xs.length ≤ c ∧ ∀ i (h : i < xs.length), w.cell? ⟨g, o + i, none⟩ = some (enc xs[i])

/-- A table in block p. -/
structure TabAt (w : World) (base p : Nat) (B M : Nat) (ws : List Int) (ms : List Txt) (vw vs vo : Value) (ord : List Nat) : Prop where
  hp : base ≤ p
  tab : w.heap[p]? = some (tabC B M vw vs vo)
  rw : Row (Value.int .i64) (base ≤ ·) w vw ws
  rs : Row encT (base ≤ ·) w vs ms
  ro : RowC encN base w vo ord
/-- How the blocks stand in a table. -/
structure OrdIs (ws : List Int) (ms : List Txt) (N : Nat) (ord : List Nat) : Prop where
  perm : ord.Perm (List.range N)
  sorted : ord.Pairwise (Ltn (ltOf (cvT ws ms)))
theorem OrdIs.len {ws : List Int} {ms : List Txt} {N : Nat} {ord : List Nat} (h : OrdIs ws ms N ord) : ord.length = N := by rw [h.perm.length_eq, List.length_range]
theorem ord_of {ws : List Int} {ms : List Txt} {N : Nat} {d : Nat → Nat} (hs : Sorted (ltOf (cvT ws ms)) d 0 N) (hp : (seg d 0 N).Perm (seg (fun k => k) 0 N)) : OrdIs ws ms N (seg d 0 N) := by
  refine ⟨?_, ?_⟩
  · have e : seg (fun k => k) 0 N = List.range N := by
      unfold seg
      rw [List.map_id']
      exact List.range_eq_range'.symm
    rwa [e] at hp
  · rw [List.pairwise_iff_getElem]
    intro i j hi hj hij
    have hj' : j < N := by simpa [seg] using hj
    have e : ∀ k (h : k < (seg d 0 N).length), (seg d 0 N)[k] = d k := by intro k h; simp [seg]
    rw [e, e]
    exact hs i j (Nat.zero_le _) hij hj'
theorem row_lt {α : Type} {enc : α → Value} {N : Nat → Prop} {w : World} {v : Value} {xs : List α} (h : Row enc N w v xs) : Row enc (fun k => N k ∧ k < w.heap.size) w v xs := by
  obtain ⟨a, c, rfl, hc⟩ := h
  refine ⟨a, c, rfl, fun i hi => ?_⟩
  obtain ⟨b, o, rfl, hn, hcell⟩ := hc i hi
  exact ⟨b, o, rfl, ⟨hn, World.block_lt_of_cell? w _ hcell⟩, hcell⟩
/-- A table's list of so many numbers, as the sort takes it. -/
theorem own_IR {w : World} {base N : Nat} {v : Value} (h : OwnL encN w base 3 v (List.range N)) : (N = 0 ∧ v = .slice none 0 0) ∨ ∃ g c, v = .slice (some ⟨g, 0, none⟩) N c ∧ base ≤ g ∧ N ≤ c ∧ IR w g N (fun k => k) := by
  rcases h.2 with ⟨rfl, hn⟩ | ⟨g, cap, cur, rfl, hb, hg, hle, _, hcs, htake⟩
  · left
    rw [List.length_range] at hn
    exact ⟨hn, rfl⟩
  · right
    rw [List.length_range] at hle
    refine ⟨g, cap, by rw [List.length_range], hb, hle, cur, hg, fun k hk => ?_⟩
    have h1 := World.ownsRow.cells h (g := g) rfl k (encN k) (by simp [hk])
    rw [addr_add0, cell_of_row _ _ _ _ _ _ hg] at h1
    exact h1
theorem IR.rowC {w : World} {g N c base : Nat} {d : Nat → Nat} (h : IR w g N d) (hb : base ≤ g) (hc : N ≤ c) : RowC encN base w (.slice (some ⟨g, 0, none⟩) N c) (seg d 0 N) := by
  have hl : (seg d 0 N).length = N := by simp [seg]
  refine .inr ⟨g, 0, c, by rw [hl], hb, by omega, fun i hi => ?_⟩
  have e : (seg d 0 N)[i] = d i := by simp [seg]
  rw [e, Nat.zero_add]
  exact h.cell (by omega)
/-- An empty list is sorted as it is. -/
theorem insertion_nil (fn : Nat) (cb : Array Value) (a : Option Addr) (c : Nat) (w : World) : Calls Tryz.prog 97 #[.slice a 0 c, .int .i64 0, .int .i64 0, .func (.func fn) #[] cb] w fun e w' => e = .returned (.tuple #[]) ∧ w = w' := by
  go_enter Tryz.func97, Tryz.ntmps97
  go_wp2
  refine wp_loop_rounds 1 ?_
  rw [rounds_succ]
  go_wp2
  go_end0
  exact ⟨rfl, rfl⟩
theorem stable_nil (fn : Nat) (cb : Array Value) (a : Option Addr) (c : Nat) (w : World) : Calls Tryz.prog 82 #[.slice a 0 c, .int .i64 0, .func (.func fn) #[] cb] w fun e w' => e = .returned (.tuple #[]) ∧ w = w' := by
  have IN := Lib.hid (insertion_nil fn cb a c w)
  go_enter Tryz.func82, Tryz.ntmps82
  go_wp2_with fail
  refine wp_loop_rounds 1 ?_
  rw [rounds_succ]
  go_wp2_with fail
  refine IN.out.mono ?_
  rintro e w' ⟨rfl, rfl⟩
  go_wp2_with fail
  refine wp_loop_rounds 1 ?_
  rw [rounds_succ]
  go_wp2_with fail
  go_end0
  exact ⟨rfl, rfl⟩
theorem sortStable_nil (fn : Nat) (cb : Array Value) (a : Option Addr) (c : Nat) (w : World) : Calls Tryz.prog 52 #[.slice a 0 c, .func (.func fn) #[] cb] w fun e w' => e = .returned (.tuple #[]) ∧ w = w' := by
  have ST := Lib.hid (stable_nil fn cb a c w)
  go_enter Tryz.func52, Tryz.ntmps52
  go_wp2_with fail
  refine ST.out.mono ?_
  rintro e w' ⟨rfl, rfl⟩
  go_wp2_with fail
  go_end0
  exact ⟨rfl, rfl⟩
theorem enters_cmp : ∀ (args : Array Value) (w : World), (callFunc 53 args).run Tryz.prog w = .ok (.enter 53 args) w := enters_of Tryz.func53 (by kernel_rfl) rfl
def NewPost (w : World) (B M : Nat) (ws : List Int) (ms : List Txt) (e : Ending) (w' : World) : Prop :=
  ∃ p vw vs vo ord, e = .returned (.tuple #[.pointer (some ⟨p, 0, none⟩), .int .i64 0]) ∧ TabAt w' w.heap.size p B M ws ms vw vs vo ord ∧ OrdIs ws ms (M / B) ord ∧ Below w.heap.size w w'

/-- How far NewTable's loop is. -/
structure NewL (w3 : World) (p q : Nat) (b n : Int) (vw vs vo : Value) (k : Nat) (wr : World) : Prop where
  var : VarAt wr q p b n vw vs vo
  own : OwnL encN wr w3.heap.size 3 vo (List.range k)
  kept : Kept (fun x => x = p ∨ w3.heap.size ≤ x) w3 wr
  plt : p < w3.heap.size
  qlt : q < w3.heap.size
theorem NewL.off {w3 : World} {p q : Nat} {b n : Int} {vw vs vo : Value} {k : Nat} {wr : World} (h : NewL w3 p q b n vw vs vo k wr) : (∀ g, vo.ownBlock = some g → g ≠ p ∧ g ≠ q) ∧ p ≠ q := by
  refine ⟨fun g hg => ?_, fun e => ?_⟩
  · have := (own_cells h.own hg).1
    have := h.plt; have := h.qlt
    omega
  · have h1 := h.var.var
    have h2 := h.var.tab
    rw [← e, h2] at h1
    simp at h1
theorem NewL.drew {w3 : World} {p q : Nat} {b n : Int} {vw vs vo : Value} {k : Nat} {wr : World} (h : NewL w3 p q b n vw vs vo k wr) : NewL w3 p q b n vw vs vo k wr.drew :=
  ⟨h.var.kept (M := fun _ => False) (Kept.refl _ _).drew id id, own_none h.own ((Kept.refl (fun _ => False) _).drew) (fun _ _ => id), h.kept.drew, h.plt, h.qlt⟩
theorem NewL.push {w3 : World} {p q : Nat} {b n : Int} {vw vs vo : Value} {k : Nat} {wr w2 : World} {o : Obj} {g c : Nat} (h : NewL w3 p q b n vw vs vo k wr)
    (hown : w2.ownsRow w3.heap.size 3 1 (.slice (some ⟨g, 0, none⟩) (k + 1) c) (k + 1) ((List.range k).map encN ++ [encN k])) (hg : (wr.alloc o).drew.grownBy w2 vo.ownBlock) :
    w2.frozen? ⟨p, 4, none⟩ = false ∧ w2.cell? ⟨p, 4, none⟩ = some vo ∧ w2.cell? ⟨q, 0, none⟩ = some (.pointer (some ⟨p, 0, none⟩)) ∧ NewL w3 p q b n vw vs (.slice (some ⟨g, 0, none⟩) (k + 1) c) (k + 1) (w2.setCell ⟨p, 4, none⟩ (.slice (some ⟨g, 0, none⟩) (k + 1) c)) := by
  have k1 : Kept (fun x => vo.ownBlock = some x) wr w2 := ((Kept.of_alloc wr o).drew |>.mono (fun _ _ h => h.elim)).trans ⟨hg.os, hg.tape, hg.output, hg.size, fun x hx hm => hg.block x hx (fun he => hm he.symm)⟩
  have hb : w2.heap[p]? = some (tabC b n vw vs vo) := k1.old h.var.tab (fun e => (h.off.1 p e).1 rfl)
  have hq : w2.heap[q]? = _ := k1.old h.var.var (fun e => (h.off.1 q e).2 rfl)
  have k2 : Kept (fun x => x = p) w2 (w2.setCell ⟨p, 4, none⟩ (.slice (some ⟨g, 0, none⟩) (k + 1) c)) := (Kept.refl _ _).setCell (by rfl) _
  refine ⟨frozen_of_row w2 p 4 _ _ hb, (tab_c hb).2.2.2.2, var_c hq, ⟨⟨k2.old hq (fun e => h.off.2 e.symm), ?_⟩, ?_, ?_, h.plt, h.qlt⟩⟩
  · rw [heap_setCell_same w2 p 4 _ _ _ hb]; rfl
  · unfold OwnL
    rw [List.range_succ, List.map_append, List.length_append, List.length_range]
    refine own_off hown k2 (fun g' cur hg' _ e => ?_)
    rw [e, hb] at hg'
    simp at hg'
  · exact (h.kept.trans (k1.mono (fun x _ e => .inr (own_cells h.own e).1))).trans (k2.mono (fun x _ e => .inl e))

set_option maxRecDepth 100000 in
set_option maxHeartbeats 4000000 in
theorem newTable_ok (B M : Nat) (ws : List Int) (ms : List Txt) (vw vs : Value) (N1 N2 : Nat → Prop) (w : World) (h1 : Row (Value.int .i64) N1 w vw ws) (h2 : Row encT N2 w vs ms) (hr : rightS B M ws ms = true) (hR : RightIs B M ws ms B M) :
    Calls Tryz.prog 40 #[sigV B M vw vs] w (NewPost w B M ws ms) := by
  have H1 := Lib.hid (h1.mono (M := fun _ => True) (fun _ _ => trivial))
  have H2 := Lib.hid (h2.mono (M := fun _ => True) (fun _ _ => trivial))
  have hlw := hR.lw
  have hlm := hR.lm
  have hq := hR.q
  obtain ⟨a1, m1, k1, rfl⟩ := h1.slice
  obtain ⟨a2, m2, k2, rfl⟩ := h2.slice
  have RG := fun w' h1 h2 => Lib.hid (sigRight_any B M ws ms (.slice a1 m1 k1) (.slice a2 m2 k2) (fun _ => True) (fun _ => True) w' h1 h2 (by omega) (by omega))
  have OW := fun w' h1 h2 => Lib.hid (own_any B M ws ms (.slice a1 m1 k1) (.slice a2 m2 k2) (fun _ => True) (fun _ => True) w' h1 h2 (by omega) (by omega) (fun m hm => by rw [hR.m m hm]; decide))
  rw [hr] at RG
  have HR := Lib.hid hR
  clear h1 h2 hr hlw hlm hq hR
  have G0 := Lib.hid (heap_alloc_new w (sigC B M (.slice a1 m1 k1) (.slice a2 m2 k2)))
  have B0 := Lib.hid (below_self_alloc w (sigC B M (.slice a1 m1 k1) (.slice a2 m2 k2)))
  have J1 := Lib.hid (H1.out.keep B0.out)
  have J2 := Lib.hid (H2.out.keep B0.out)
  clear H1 H2
  go_enter Tryz.func40, Tryz.ntmps40
  go_wp2_with fail
  generalize w.alloc (.cells #[.int .i64 B, .int .i64 M, .slice a1 m1 k1, .slice a2 m2 k2] 58) = w0 at *
  refine (RG _ J1.out J2.out).out.mono ?_
  rintro e w1 ⟨rfl, hb1⟩
  have G1 := Lib.hid (old_of hb1 G0.out)
  have B1 := Lib.hid (B0.out.trans (hb1.mono B0.out.size))
  have I1 := Lib.hid (J1.out.keep hb1)
  have I2 := Lib.hid (J2.out.keep hb1)
  have c0 := sig_c0 G1.out
  have c1 := sig_c1 G1.out
  have c2 := sig_c2 G1.out
  have c3 := sig_c3 G1.out
  clear G0 B0 J1 J2 hb1
  go_wp2_with fail
  refine (OW _ I1.out I2.out).out.mono ?_
  rintro e w2 ⟨vw', vs', rfl, o1, o2, hb2⟩
  obtain ⟨a3, m3, k3, rfl⟩ := own_slice o1
  obtain ⟨a4, m4, k4, rfl⟩ := own_slice o2
  have G2 := Lib.hid (old_of hb2 G1.out)
  have B2 := Lib.hid (B1.out.trans (hb2.mono B1.out.size))
  have O1 := Lib.hid o1
  have O2 := Lib.hid o2
  have d0 := fun o o' => sig_c0 (heap_later (heap_later G2.out o) o')
  have d1 := fun o o' => sig_c1 (heap_later (heap_later G2.out o) o')
  clear o1 o2 hb2 c0 c1 c2 c3 G1 I1 I2
  obtain ⟨N, hN⟩ : ∃ N, N = M / B := ⟨_, rfl⟩
  have E : (M : Int) / (B : Int) = (N : Int) := by rw [hN]; rfl
  have hB1 := HR.out.b1
  have hB2 := HR.out.b2
  have hM2 := HR.out.n2
  have hb0 : ((B : Int) == 0) = false := by simp; omega
  have hNq : N ≤ 40000 := by
    have h1 := HR.out.n2
    have h2 := HR.out.b1
    rw [hN]
    exact Nat.le_trans (Nat.div_le_div_left h2 (by decide)) (Nat.le_trans (Nat.div_le_div_right h1) (by decide))
  have HN := Lib.hid hN; clear hN
  have L0 := Lib.hid (show NewL ((w2.alloc (tabC B M (.slice a3 m3 k3) (.slice a4 m4 k4) (.slice none 0 0))).alloc (.cells #[.pointer (some ⟨w2.heap.size, 0, none⟩)] 82)) w2.heap.size (w2.heap.size + 1) B M (.slice a3 m3 k3) (.slice a4 m4 k4) (.slice none 0 0) 0 ((w2.alloc (tabC B M (.slice a3 m3 k3) (.slice a4 m4 k4) (.slice none 0 0))).alloc (.cells #[.pointer (some ⟨w2.heap.size, 0, none⟩)] 82)) from
    ⟨⟨heap_alloc2_new _ _ _, heap_alloc2_old _ _ _⟩, OwnL.nil _ _ _ _, Kept.refl _ _, by simp; omega, by simp⟩)
  have K3 := Lib.hid ((below_self_alloc w2 (tabC B M (.slice a3 m3 k3) (.slice a4 m4 k4) (.slice none 0 0))).trans ((below_self_alloc (w2.alloc (tabC B M (.slice a3 m3 k3) (.slice a4 m4 k4) (.slice none 0 0))) (.cells #[.pointer (some ⟨w2.heap.size, 0, none⟩)] 82)).mono (by simp)))
  have S3 := Lib.hid (show ((w2.alloc (tabC B M (.slice a3 m3 k3) (.slice a4 m4 k4) (.slice none 0 0))).alloc (.cells #[.pointer (some ⟨w2.heap.size, 0, none⟩)] 82)).heap.size = w2.heap.size + 2 by simp)
  have R1 := Lib.hid (show Row (Value.int .i64) (fun x => w.heap.size ≤ x ∧ x < w2.heap.size) ((w2.alloc (tabC B M (.slice a3 m3 k3) (.slice a4 m4 k4) (.slice none 0 0))).alloc (.cells #[.pointer (some ⟨w2.heap.size, 0, none⟩)] 82)) (.slice a3 m3 k3) ws from
    (row_lt (O1.out.row.mono (M := (w.heap.size ≤ ·)) (fun x h => Nat.le_trans B1.out.size h))).keep K3.out)
  have R2 := Lib.hid (show Row encT (fun x => w.heap.size ≤ x ∧ x < w2.heap.size) ((w2.alloc (tabC B M (.slice a3 m3 k3) (.slice a4 m4 k4) (.slice none 0 0))).alloc (.cells #[.pointer (some ⟨w2.heap.size, 0, none⟩)] 82)) (.slice a4 m4 k4) ms from
    (row_lt (O2.out.row.mono (M := (w.heap.size ≤ ·)) (fun x h => Nat.le_trans B1.out.size h))).keep K3.out)
  have BW := Lib.hid (B2.out.trans (K3.out.mono B2.out.size))
  have PW := Lib.hid B2.out.size
  clear O1 O2 K3 B1 B2 S3
  obtain ⟨i0, hi0, hz0, hz1, hz2⟩ := info_parts info_i64
  have Hi := Lib.hid hi0; clear hi0
  have Z0 := Lib.hid hz0; clear hz0
  have Z1 := Lib.hid hz1; clear hz1
  have Z2 := Lib.hid hz2; clear hz2
  go_wp2_with fail
  generalize (w2.alloc (.cells #[.int .i64 B, .int .i64 M, .slice a3 m3 k3, .slice a4 m4 k4, .slice none 0 0] 110)).alloc (.cells #[.pointer (some ⟨w2.heap.size, 0, none⟩)] 82) = w3 at *
  generalize w2.heap.size + 1 = q at *
  generalize w2.heap.size = p at *
  clear d0 d1 E hb0
  go_loopw [18, 5] (fun v x wr => ∃ (k : Nat) (vo : Value), k ≤ N ∧ v = .int .i64 k ∧ NewL w3 p q B M (.slice a3 m3 k3) (.slice a4 m4 k4) vo k wr) (fun v _ _ => N - (intOf v).toNat)
  case atStart => exact ⟨0, _, by omega, rfl, L0.out⟩
  case round =>
    clear L0
    obtain ⟨k, vo, hk, rfl, hL⟩ := hrel
    have HL := Lib.hid hL; clear hL
    by_cases hlt : k < N
    · have i1 : (k : Int) < (N : Int) := by omega
      obtain ⟨dp0, dp1, dp2, dp3, dp4⟩ := tab_c HL.out.var.tab
      have dq := var_c HL.out.var.var
      clear dp0 dp1 dp2 dp3
      have HO := Lib.hid (show (wr.alloc (.cells #[.int .i64 (k : Nat)] 3)).drew.ownsRow w3.heap.size 3 1 vo (List.range k).length ((List.range k).map encN) from own_none (World.ownsRow.alloc HL.out.own (.cells #[.int .i64 (k : Nat)] 3)) ((Kept.refl (fun _ => False) _).drew) (fun _ _ => id))
      have HNW := Lib.hid (show ∀ j v, [Value.int .i64 (k : Nat)][j]? = some v → (wr.alloc (.cells #[.int .i64 (k : Nat)] 3)).drew.cell? ((⟨wr.heap.size, 0, none⟩ : Addr).add j) = some v from news_new wr (.int .i64 (k : Nat)) 3)
      have dp4' := cell_alloc1 (w := wr) dp4 (.cells #[.int .i64 (k : Nat)] 3)
      have dq' := cell_alloc1 (w := wr) dq (.cells #[.int .i64 (k : Nat)] 3)
      have hsz : w3.heap.size ≤ wr.heap.size := HL.out.kept.size
      have HLR := Lib.hid (List.length_range (n := k))
      go_upto_region 7 with fail
      go_region_law (first
        | ((with_reducible refine step_append_lies (o := ⟨some 28, _, _, _, _, _⟩) ((wr.alloc (.cells #[.int .i64 (k : Nat)] 3)).drew) rfl (.tmp 25) (.tmp 27) 56 rfl w3.heap.size 3 i0 (.int .i64 0) 1 8 Tryz.underlying56 Hi.out Z0.out Z1.out Z2.out rfl (by decide) vo (List.range k).length ((List.range k).map encN) ?ev HO.out ⟨wr.heap.size, 0, none⟩ 1 1 [.int .i64 (k : Nat)] ?ex rfl HNW.out ?oc (Nat.succ_pos 0) ?l1 ?l2 ?l3 (wr.heap.size + 1) ?l4 ?_)
           case ev => simp [Act.eval]
           case ex => simp [Act.eval]
           case oc => simp [Value.oneCell']
           case l1 => rw [HLR.out]; unfold maxLen; omega
           case l2 => rw [HLR.out]; omega
           case l3 => simp; omega
           case l4 => simp
           intro g' cap w4 hown hgrow hat hlt2
           rw [HLR.out] at hown ⊢
           obtain ⟨f1, e4, e5, PS⟩ := HL.out.push hown hgrow
           have HP := Lib.hid PS; clear PS hown hgrow hat hlt2))
      all_goals
        go_wp2
        go_roundw
        case rel => exact ⟨k + 1, _, by omega, by go_num, HP.out⟩
        case measure => simp [intOf]; omega
    · obtain rfl : k = N := by omega
      have i1 : ¬ (k : Int) < (k : Int) := by omega
      obtain ⟨dp0, dp1, dp2, dp3, dp4⟩ := tab_c HL.out.var.tab
      have dq := var_c HL.out.var.var
      clear dp0 dp1 dp2 dp3
      have hNW : k ≤ ws.length := by
        rw [HR.out.lw, HN.out]
        exact Nat.div_le_div_right (by omega)
      have hNM : k ≤ ms.length := by rw [HR.out.lm, ← HR.out.lw]; exact hNW
      have hWl : ws.length ≤ 40000 := by rw [HR.out.lw]; exact HR.out.q
      have hMl : ms.length ≤ 40000 := by rw [HR.out.lm]; exact HR.out.q
      have P3 := HL.out.plt
      have Q1 := Lib.hid (row_kept R1.out HL.out.kept (fun x h e => by rcases e with e | e <;> omega))
      have Q2 := Lib.hid (row_kept R2.out HL.out.kept (fun x h e => by rcases e with e | e <;> omega))
      clear P3 R1 R2
      have BR := Lib.hid (BW.out.trans (HL.out.kept.below BW.out.size (fun x e => by have := PW.out; have := BW.out.size; rcases e with e | e <;> omega)))
      rcases own_IR HL.out.own with ⟨h0, rfl⟩ | ⟨g, c5, rfl, hg, hc5, hir⟩
      · have SN := Lib.hid (sortStable_nil 53 #[.pointer (some ⟨q, 0, none⟩)] none 0 wr)
        have H0 := Lib.hid h0
        go_wp2_with fail
        refine SN.out.mono ?_
        rintro e w' ⟨rfl, rfl⟩
        go_wp2_with fail
        go_ret2
        exact ⟨p, _, _, _, [], rfl, ⟨PW.out, HL.out.var.tab, Q1.out.mono (fun x h => h.1), Q2.out.mono (fun x h => h.1), .inl ⟨rfl, rfl⟩⟩, by rw [← HN.out, H0.out]; exact ⟨List.Perm.refl _, List.Pairwise.nil⟩, BR.out⟩
      · have CM : Hid (CmpI 53 #[.pointer (some ⟨q, 0, none⟩)] (cvT ws ms) k g wr) := Lib.hid ⟨enters_cmp, fun W hk x y hx hy => by
          have P3 := HL.out.plt
          have P4 := HL.out.qlt
          exact cmpBlocks_any B M ws ms _ _ _ _ _ q p x y W (HL.out.var.kept hk (fun e => by have e' : q = g := e; omega) (fun e => by have e' : p = g := e; omega)) (row_kept Q1.out hk (fun z h e => by have e' : z = g := e; omega)) (row_kept Q2.out hk (fun z h e => by have e' : z = g := e; omega)) (by omega) (by omega) (by omega) (by omega) (by omega) (by omega)⟩
        have SS := Lib.hid (sortStable_any 53 #[.pointer (some ⟨q, 0, none⟩)] (cvT ws ms) (cvT_swo ws ms) (fun x => x) k g c5 wr CM.out hir (fun x _ => rfl) (by omega))
        have P3 := HL.out.plt
        have P4 := HL.out.qlt
        go_wp2_with fail
        refine SS.out.mono ?_
        rintro e w4 ⟨rfl, d', hs, hp, hi4, hk4⟩
        have V4 := Lib.hid (HL.out.var.kept hk4 (fun e => by have e' : q = g := e; omega) (fun e => by have e' : p = g := e; omega))
        have dq4 := var_c V4.out.var
        have T1 := Lib.hid (row_kept Q1.out hk4 (fun z h e => by have e' : z = g := e; omega))
        have T2 := Lib.hid (row_kept Q2.out hk4 (fun z h e => by have e' : z = g := e; omega))
        have OI := Lib.hid (ord_of hs hp)
        have RO := Lib.hid (hi4.rowC (base := w.heap.size) (c := c5) (by have := BW.out.size; omega) hc5)
        have BF := Lib.hid (BR.out.trans (hk4.below BR.out.size (fun x e => by have e' : x = g := e; have := BW.out.size; omega)))
        clear hs hp hi4 hk4 dq dp4
        go_wp2_with fail
        go_ret2
        exact ⟨p, _, _, _, _, rfl, ⟨PW.out, V4.out.tab, T1.out.mono (fun x h => h.1), T2.out.mono (fun x h => h.1), RO.out⟩, by rw [← HN.out]; exact OI.out, BF.out⟩

set_option maxRecDepth 100000 in
set_option maxHeartbeats 1000000 in
theorem newTable_no (b n : Int) (ws : List Int) (ms : List Txt) (vw vs : Value) (N1 N2 : Nat → Prop) (w : World) (h1 : Row (Value.int .i64) N1 w vw ws) (h2 : Row encT N2 w vs ms) (hl1 : ws.length ≤ 1000000) (hl2 : ms.length ≤ 1000000) (hr : rightS b n ws ms = false) :
    Calls Tryz.prog 40 #[sigV b n vw vs] w fun e w' => e = .returned (.tuple #[.pointer none, .int .i64 1]) ∧ Below w.heap.size w w' := by
  obtain ⟨a1, m1, k1, rfl⟩ := h1.slice
  obtain ⟨a2, m2, k2, rfl⟩ := h2.slice
  have B0 := Lib.hid (below_self_alloc w (sigC b n (.slice a1 m1 k1) (.slice a2 m2 k2)))
  have RG := Lib.hid (sigRight_any b n ws ms (.slice a1 m1 k1) (.slice a2 m2 k2) N1 N2 (w.alloc (sigC b n (.slice a1 m1 k1) (.slice a2 m2 k2))) (h1.keep B0.out) (h2.keep B0.out) (by omega) (by omega))
  rw [hr] at RG
  clear h1 h2 hr
  go_enter Tryz.func40, Tryz.ntmps40
  go_wp2_with fail
  refine RG.out.mono ?_
  rintro e w1 ⟨rfl, hb1⟩
  have B1 := Lib.hid (B0.out.trans (hb1.mono B0.out.size))
  clear hb1
  go_wp2_with fail
  go_ret2
  exact ⟨rfl, B1.out⟩
end Go.Proofs.YtpkgjokehgihjaaGreat

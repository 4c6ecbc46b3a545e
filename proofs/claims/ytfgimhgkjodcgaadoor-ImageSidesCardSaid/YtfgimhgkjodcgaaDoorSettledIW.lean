/- Landed image: settled, walked. -/
import Derived.Test.YtfgimhgkjodcgaaDoorGen
import Derived.Test.YtfgimhgkjodcgaaDoorMtX
import Derived.Test.YtfgimhgkjodcgaaDoorProg
import Derived.Test.YtfgimhgkjodcgaaDoorReadMath
import Derived.Test.YtfgimhgkjodcgaaDoorReadW
import Derived.Test.YtfgimhgkjodcgaaDoorOfX
import Derived.Test.YtfgimhgkjodcgaaDoorRowN
import Derived.Test.YtfgimhgkjodcgaaDoorRows
import Derived.Test.YtfgimhgkjodcgaaDoorShelf
import Derived.Test.YtfgimhgkjodcgaaDoorSoX
import Derived.Test.YtfgimhgkjodcgaaDoorTreeMath
import Derived.BigQuiet
import Derived.BigRegion
import Derived.ChangeAlike
import Derived.Deep.Cut
import Derived.Deep.CutBlock
import Derived.Deep.CutRange
import Derived.Deep.DeepCutAuto
import Derived.Deep.QuietTactic
import Derived.Deep.RegionHeld
import Derived.Deep.Slices
import Derived.Deep.Strs
import Derived.Laws.RangeAny
import Derived.Laws.ResultCell
import Derived.Lib.Hide
import Derived.Lib.SmallJoins
import Derived.LoopIn
import Derived.LoopNIn
import Derived.LoopTactic
import Derived.OpenShut
import Derived.OwnWalkIn
import Derived.ProofKit
import Derived.RangeFuncBound
import Derived.RangeFuncCalls
import Derived.RangeFuncLeaves
import Derived.RangeFuncNested
import Derived.RegionTactic
import Derived.Shelf.Abstract
import Derived.Shelf.RegionOpen
import Derived.ShutString
import Derived.SizedLaws
import Derived.SliceStrings
import Derived.StillTail
import Derived.TacticsInMore
import Derived.WalkKit
import Derived.WalkLawsBesides
import Derived.WalkSpells
set_option linter.unusedVariables false
namespace Go.Proofs.YtfgimhgkjodcgaaDoor
open Go.RowKit

theorem file_sizeI : (Tryd.prog.info? 33).map (·.size) = some 3 := by kernel_rfl
theorem results_fileI {fn : Func} {p u : Tmp} (h : fn.results = #[.cell p 33, .tmp u]) (tmps : Array Value) (w : World) (b : Nat) (y : FileD) (hp : tmps.getD p undef = .pointer (some ⟨b, 0, none⟩)) (hy : w.heap[b]? = some (.cells #[.string ⟨y.path.toArray⟩, .int .i64 y.mode, .string ⟨y.data.toArray⟩] 33 (0, 0))) :
    (results fn tmps).run Tryd.prog w = .ok (.tuple #[aggF y, tmps.getD u undef]) w := by
  rw [results_cell_tmp h, hp]
  have hl := run_loadVar_row (P := Tryd.prog) w b 33 33 _ _ _ hy Tryd.underlying33 rfl file_sizeI
  simp [asAddr, Result.andThen, hl, aggF]
def fileO (f : FileD) : Obj := .cells #[.string ⟨f.path.toArray⟩, .int .i64 f.mode, .string ⟨f.data.toArray⟩] 33
theorem four_heap (w : World) (a b c d : Obj) : ((((w.alloc a).alloc b).alloc c).alloc d).heap[w.heap.size + 1 + 1 + 1]? = some d := by
  have := heap_alloc_new (((w.alloc a).alloc b).alloc c) d
  rw [World.size_alloc, World.size_alloc, World.size_alloc] at this
  exact this
theorem four_below (w : World) (a b c d : Obj) : Below w.heap.size w ((((w.alloc a).alloc b).alloc c).alloc d) :=
  ((((Below.refl w.heap.size w).alloc (Nat.le_refl _) a).alloc (by simp) b).alloc (by simp; omega) c).alloc (by simp; omega) d
theorem neF {x y : FileD} (h : ¬ eqF x y = true) : ¬ x.path = y.path ∨ (x.path = y.path ∧ ¬ x.mode = y.mode) ∨ (x.path = y.path ∧ x.mode = y.mode ∧ ¬ x.data = y.data) := by
  by_cases hp : x.path = y.path
  · by_cases hm : x.mode = y.mode
    · by_cases hd : x.data = y.data
      · exact absurd (by unfold eqF; rw [hp, hm, hd]; simp) h
      · exact .inr (.inr ⟨hp, hm, hd⟩)
    · exact .inr (.inl ⟨hp, hm⟩)
  · exact .inl hp
set_option maxRecDepth 100000 in
set_option maxHeartbeats 4000000 in
theorem settled_any (b x y : FileD) (w : World) :
    Calls Tryd.prog 49 #[aggF b, aggF x, aggF y] w fun e w' => e = .returned (.tuple #[aggF (settF b x y).1, .bool (settF b x y).2]) ∧ Below w.heap.size w w' := by
  have HX := Lib.hid (four_heap w (fileO b) (fileO x) (fileO y) (fileO x))
  have HY := Lib.hid (four_heap w (fileO b) (fileO x) (fileO y) (fileO y))
  have BX := Lib.hid (four_below w (fileO b) (fileO x) (fileO y) (fileO x))
  have BY := Lib.hid (four_below w (fileO b) (fileO x) (fileO y) (fileO y))
  unfold fileO at HX HY BX BY
  by_cases h1 : eqF x y = true
  · obtain rfl := (eqF_iff _ _).1 h1
    have HR := Lib.hid (show settF b x x = (x, true) from if_pos (.inl h1))
    clear HY BY h1
    generalize settF b x x = res at *
    obtain ⟨bp, bm, bd⟩ := b
    obtain ⟨xp, xm, xd⟩ := x
    unfold aggF
    dsimp only at HX BX ⊢
    go_enter Tryd.func49, Tryd.ntmps49
    go_wp2_with fail
    exact bodyPost_ret (results_fileI Tryd.results49 _ _ (w.heap.size + 1 + 1 + 1) _ rfl HX.out) rfl ⟨by rw [HR.out]; rfl, BX.out⟩
  · by_cases h2 : eqF y b = true
    · obtain rfl := (eqF_iff _ _).1 h2
      have HR := Lib.hid (show settF y x y = (x, true) from if_pos (.inr h2))
      have h1 := neF h1
      clear HY BY h2
      generalize settF y x y = res at *
      obtain ⟨yp, ym, yd⟩ := y
      obtain ⟨xp, xm, xd⟩ := x
      unfold aggF
      dsimp only at HX BX h1 ⊢
      rcases h1 with h1 | ⟨rfl, h1⟩ | ⟨rfl, rfl, h1⟩
      · go_enter Tryd.func49, Tryd.ntmps49
        go_wp2_with fail
        exact bodyPost_ret (results_fileI Tryd.results49 _ _ (w.heap.size + 1 + 1 + 1) _ rfl HX.out) rfl ⟨by rw [HR.out]; rfl, BX.out⟩
      · go_enter Tryd.func49, Tryd.ntmps49
        go_wp2_with fail
        exact bodyPost_ret (results_fileI Tryd.results49 _ _ (w.heap.size + 1 + 1 + 1) _ rfl HX.out) rfl ⟨by rw [HR.out]; rfl, BX.out⟩
      · go_enter Tryd.func49, Tryd.ntmps49
        go_wp2_with fail
        exact bodyPost_ret (results_fileI Tryd.results49 _ _ (w.heap.size + 1 + 1 + 1) _ rfl HX.out) rfl ⟨by rw [HR.out]; rfl, BX.out⟩
    · by_cases h3 : eqF x b = true
      · obtain rfl := (eqF_iff _ _).1 h3
        have HR := Lib.hid (show settF x x y = (y, true) by unfold settF; rw [if_neg (fun h => h.elim h1 h2), if_pos h3])
        have k1 := neF h1
        clear HX BX h1 h2 h3
        have h1 := k1
        clear k1
        generalize settF x x y = res at *
        obtain ⟨yp, ym, yd⟩ := y
        obtain ⟨xp, xm, xd⟩ := x
        unfold aggF
        dsimp only at HY BY h1 ⊢
        have g1 : ∀ {α : Type} {a b : α}, ¬ a = b → ¬ b = a := fun h e => h e.symm
        rcases h1 with h1 | ⟨rfl, h1⟩ | ⟨rfl, rfl, h1⟩
        · have h1s := g1 h1
          have hq1 := beq_eq_false_iff_ne.2 h1
          have hq2 := beq_eq_false_iff_ne.2 h1s
          clear g1
          go_enter Tryd.func49, Tryd.ntmps49
          go_wp2_with fail
          exact bodyPost_ret (results_fileI Tryd.results49 _ _ (w.heap.size + 1 + 1 + 1) _ rfl HY.out) rfl ⟨by rw [HR.out]; rfl, BY.out⟩
        · have h1s := g1 h1
          have hq1 := beq_eq_false_iff_ne.2 h1
          have hq2 := beq_eq_false_iff_ne.2 h1s
          clear g1
          go_enter Tryd.func49, Tryd.ntmps49
          go_wp2_with fail
          exact bodyPost_ret (results_fileI Tryd.results49 _ _ (w.heap.size + 1 + 1 + 1) _ rfl HY.out) rfl ⟨by rw [HR.out]; rfl, BY.out⟩
        · have h1s := g1 h1
          have hq1 : (xd == yd) = false := by simp [h1]
          have hq2 : (yd == xd) = false := by simp [h1s]
          clear g1
          go_enter Tryd.func49, Tryd.ntmps49
          go_wp2_with fail
          exact bodyPost_ret (results_fileI Tryd.results49 _ _ (w.heap.size + 1 + 1 + 1) _ rfl HY.out) rfl ⟨by rw [HR.out]; rfl, BY.out⟩
      · have HR := Lib.hid (show settF b x y = (x, false) by unfold settF; rw [if_neg (fun h => h.elim h1 h2), if_neg h3])
        clear HY BY
        generalize settF b x y = res at *
        obtain ⟨bp, bm, bd⟩ := b
        obtain ⟨yp, ym, yd⟩ := y
        obtain ⟨xp, xm, xd⟩ := x
        unfold aggF
        dsimp only at HX BX ⊢
        by_cases e1 : xp = yp
        · subst e1
          by_cases e2 : xp = bp
          · subst e2
            by_cases m1 : xm = ym
            · subst m1
              by_cases m2 : xm = bm
              · subst m2
                have d0 : ¬ xd = yd := fun e => h1 (by rw [e]; exact eqF_self _)
                have dq0 : (xd == yd) = false := by simp [d0]
                have d1 : ¬ yd = bd := fun e => h2 (by rw [e]; exact eqF_self _)
                have dq1 : (yd == bd) = false := by simp [d1]
                have d2 : ¬ xd = bd := fun e => h3 (by rw [e]; exact eqF_self _)
                have dq2 : (xd == bd) = false := by simp [d2]
                clear h1 h2 h3
                go_enter Tryd.func49, Tryd.ntmps49
                go_wp2_with fail
                exact bodyPost_ret (results_fileI Tryd.results49 _ _ (w.heap.size + 1 + 1 + 1) _ rfl HX.out) rfl ⟨by rw [HR.out]; rfl, BX.out⟩
              · have m2q : (xm == bm) = false := by simp [m2]
                have d0 : ¬ xd = yd := fun e => h1 (by rw [e]; exact eqF_self _)
                have dq0 : (xd == yd) = false := by simp [d0]
                clear h1 h2 h3
                go_enter Tryd.func49, Tryd.ntmps49
                go_wp2_with fail
                exact bodyPost_ret (results_fileI Tryd.results49 _ _ (w.heap.size + 1 + 1 + 1) _ rfl HX.out) rfl ⟨by rw [HR.out]; rfl, BX.out⟩
            · have m1q : (xm == ym) = false := by simp [m1]
              by_cases m2 : ym = bm
              · subst m2
                have d0 : ¬ yd = bd := fun e => h2 (by rw [e]; exact eqF_self _)
                have dq0 : (yd == bd) = false := by simp [d0]
                clear h1 h2 h3
                go_enter Tryd.func49, Tryd.ntmps49
                go_wp2_with fail
                exact bodyPost_ret (results_fileI Tryd.results49 _ _ (w.heap.size + 1 + 1 + 1) _ rfl HX.out) rfl ⟨by rw [HR.out]; rfl, BX.out⟩
              · have m2q : (ym == bm) = false := by simp [m2]
                by_cases m3 : xm = bm
                · subst m3
                  have d0 : ¬ xd = bd := fun e => h3 (by rw [e]; exact eqF_self _)
                  have dq0 : (xd == bd) = false := by simp [d0]
                  clear h1 h2 h3
                  go_enter Tryd.func49, Tryd.ntmps49
                  go_wp2_with fail
                  exact bodyPost_ret (results_fileI Tryd.results49 _ _ (w.heap.size + 1 + 1 + 1) _ rfl HX.out) rfl ⟨by rw [HR.out]; rfl, BX.out⟩
                · have m3q : (xm == bm) = false := by simp [m3]
                  clear h1 h2 h3
                  go_enter Tryd.func49, Tryd.ntmps49
                  go_wp2_with fail
                  exact bodyPost_ret (results_fileI Tryd.results49 _ _ (w.heap.size + 1 + 1 + 1) _ rfl HX.out) rfl ⟨by rw [HR.out]; rfl, BX.out⟩
          · have e2q : (xp == bp) = false := by simp [e2]
            by_cases m1 : xm = ym
            · subst m1
              have d0 : ¬ xd = yd := fun e => h1 (by rw [e]; exact eqF_self _)
              have dq0 : (xd == yd) = false := by simp [d0]
              clear h1 h2 h3
              go_enter Tryd.func49, Tryd.ntmps49
              go_wp2_with fail
              exact bodyPost_ret (results_fileI Tryd.results49 _ _ (w.heap.size + 1 + 1 + 1) _ rfl HX.out) rfl ⟨by rw [HR.out]; rfl, BX.out⟩
            · have m1q : (xm == ym) = false := by simp [m1]
              clear h1 h2 h3
              go_enter Tryd.func49, Tryd.ntmps49
              go_wp2_with fail
              exact bodyPost_ret (results_fileI Tryd.results49 _ _ (w.heap.size + 1 + 1 + 1) _ rfl HX.out) rfl ⟨by rw [HR.out]; rfl, BX.out⟩
        · have e1q : (xp == yp) = false := by simp [e1]
          by_cases e2 : yp = bp
          · subst e2
            by_cases m2 : ym = bm
            · subst m2
              have d0 : ¬ yd = bd := fun e => h2 (by rw [e]; exact eqF_self _)
              have dq0 : (yd == bd) = false := by simp [d0]
              clear h1 h2 h3
              go_enter Tryd.func49, Tryd.ntmps49
              go_wp2_with fail
              exact bodyPost_ret (results_fileI Tryd.results49 _ _ (w.heap.size + 1 + 1 + 1) _ rfl HX.out) rfl ⟨by rw [HR.out]; rfl, BX.out⟩
            · have m2q : (ym == bm) = false := by simp [m2]
              clear h1 h2 h3
              go_enter Tryd.func49, Tryd.ntmps49
              go_wp2_with fail
              exact bodyPost_ret (results_fileI Tryd.results49 _ _ (w.heap.size + 1 + 1 + 1) _ rfl HX.out) rfl ⟨by rw [HR.out]; rfl, BX.out⟩
          · have e2q : (yp == bp) = false := by simp [e2]
            by_cases e3 : xp = bp
            · subst e3
              by_cases m3 : xm = bm
              · subst m3
                have d0 : ¬ xd = bd := fun e => h3 (by rw [e]; exact eqF_self _)
                have dq0 : (xd == bd) = false := by simp [d0]
                clear h1 h2 h3
                go_enter Tryd.func49, Tryd.ntmps49
                go_wp2_with fail
                exact bodyPost_ret (results_fileI Tryd.results49 _ _ (w.heap.size + 1 + 1 + 1) _ rfl HX.out) rfl ⟨by rw [HR.out]; rfl, BX.out⟩
              · have m3q : (xm == bm) = false := by simp [m3]
                clear h1 h2 h3
                go_enter Tryd.func49, Tryd.ntmps49
                go_wp2_with fail
                exact bodyPost_ret (results_fileI Tryd.results49 _ _ (w.heap.size + 1 + 1 + 1) _ rfl HX.out) rfl ⟨by rw [HR.out]; rfl, BX.out⟩
            · have e3q : (xp == bp) = false := by simp [e3]
              clear h1 h2 h3
              go_enter Tryd.func49, Tryd.ntmps49
              go_wp2_with fail
              exact bodyPost_ret (results_fileI Tryd.results49 _ _ (w.heap.size + 1 + 1 + 1) _ rfl HX.out) rfl ⟨by rw [HR.out]; rfl, BX.out⟩
end Go.Proofs.YtfgimhgkjodcgaaDoor

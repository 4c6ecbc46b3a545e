/- The walk of TreeItems: a tree's manifest by the ideal book. -/
import Derived.Test.YtkfkfpfnpfpkaaaDoorArgTree
import Derived.Test.YtkfkfpfnpfpkaaaDoorArgs3
import Derived.Test.YtkfkfpfnpfpkaaaDoorBookW
import Derived.Test.YtkfkfpfnpfpkaaaDoorFitX
import Derived.Test.YtkfkfpfnpfpkaaaDoorFrame
import Derived.Test.YtkfkfpfnpfpkaaaDoorGen
import Derived.Test.YtkfkfpfnpfpkaaaDoorItemsTW
import Derived.Test.YtkfkfpfnpfpkaaaDoorLists
import Derived.Test.YtkfkfpfnpfpkaaaDoorMarkMath
import Derived.Test.YtkfkfpfnpfpkaaaDoorOwnL
import Derived.Test.YtkfkfpfnpfpkaaaDoorPthX
import Derived.Test.YtkfkfpfnpfpkaaaDoorProg
import Derived.Test.YtkfkfpfnpfpkaaaDoorQuietBelow
import Derived.Test.YtkfkfpfnpfpkaaaDoorReadW
import Derived.Test.YtkfkfpfnpfpkaaaDoorRefCheckW
import Derived.Test.YtkfkfpfnpfpkaaaDoorRefMatchW9
import Derived.Test.YtkfkfpfnpfpkaaaDoorOfX
import Derived.Test.YtkfkfpfnpfpkaaaDoorRefRightTW
import Derived.Test.YtkfkfpfnpfpkaaaDoorRowN
import Derived.Test.YtkfkfpfnpfpkaaaDoorRows
import Derived.Test.YtkfkfpfnpfpkaaaDoorShelf
import Derived.Test.YtkfkfpfnpfpkaaaDoorSoX
import Derived.Test.YtkfkfpfnpfpkaaaDoorSortMath
import Derived.Test.YtkfkfpfnpfpkaaaDoorTBackMath
import Derived.Test.YtkfkfpfnpfpkaaaDoorLwX
import Derived.Test.YtkfkfpfnpfpkaaaDoorTreeMath
import Derived.Test.YtkfkfpfnpfpkaaaDoorTcX
import Derived.BigQuiet
import Derived.BigRegion
import Derived.Deep.Cut
import Derived.Deep.CutBlock
import Derived.Deep.CutRange
import Derived.Deep.DeepCutAuto
import Derived.Deep.QuietTactic
import Derived.IntWalk
import Derived.Laws.BitsAllLaws
import Derived.Laws.IdiomStrings
import Derived.Laws.OwnMore
import Derived.Laws.RangeAny
import Derived.Laws.Rows
import Derived.Laws.Tables
import Derived.Lib.Hide
import Derived.LoopTactic
import Derived.Outline
import Derived.Shelf.Strings.SplitCore
import Derived.StillTail
import Derived.WalkKit
import Derived.WalkLawsBesides
import Derived.WalkSpells
set_option linter.unusedVariables false
namespace Go.Proofs.YtkfkfpfnpfpkaaaDoor
open Go.RowKit

theorem itemsG_paths : ∀ (l : List FileD) (S : List Txt), (itemsG S l).map (·.path) = l.map (·.path)
  | [], _ => rfl
  | x :: r, S => by show x.path :: (itemsG _ r).map _ = _; rw [itemsG_paths r]; rfl
theorem firstE_alls {α : Type} {E : α → Int} : ∀ l : List α, (∀ x ∈ l, E x = 0) → firstE E l = 0
  | [], _ => rfl
  | y :: r, h => by
    unfold firstE
    rw [if_neg (fun k => k (h y (by simp)))]
    exact firstE_alls r (fun x hx => h x (by simp [hx]))
theorem itemsG_mem : ∀ (l : List FileD) (S : List Txt), ∀ y ∈ itemsG S l, ∃ x ∈ l, ∃ k : Nat, y = ⟨x.path, x.mode, (x.data.length : Int), numM k⟩
  | [], _, y, h => by cases h
  | x :: r, S, y, h => by
    rcases List.mem_cons.1 (show y ∈ (⟨x.path, x.mode, (x.data.length : Int), numM (noS S x.data)⟩ : ItemD) :: itemsG (markS S x.data) r from h) with rfl | h
    · exact ⟨x, by simp, _, rfl⟩
    · obtain ⟨z, hz, k, e⟩ := itemsG_mem r _ y h
      exact ⟨z, by simp [hz], k, e⟩
theorem items_right {l : List FileD} (h : checkS l = 0) : rightS (itemsG [] l) = 0 := by
  unfold checkS at h
  unfold rightS
  rw [itemsG_paths]
  by_cases h1 : togS (l.map (·.path)) = 0
  · rw [if_neg (fun k => k h1)] at h ⊢
    refine firstE_alls _ (fun y hy => ?_)
    obtain ⟨x, hx, k, rfl⟩ := itemsG_mem l [] y hy
    have hf := firstE_mem l h x hx
    have hm := numM_length k
    unfold fileE at hf
    split at hf
    · cases hf
    · split at hf
      · cases hf
      · rename_i a b
        unfold itemE
        dsimp only
        rw [if_neg a, if_neg (by omega), if_neg (by omega)]
  · rw [if_pos h1] at h; exact absurd h h1
theorem itemsG_get : ∀ (l : List FileD) (S : List Txt) (i : Nat) (h : i < l.length), (itemsG S l)[i]? = some ⟨l[i].path, l[i].mode, (l[i].data.length : Int), numM (noS (((l.take i).map (·.data)).foldl markS S) l[i].data)⟩
  | [], _, i, h => by simp at h
  | x :: r, S, 0, h => rfl
  | x :: r, S, i + 1, h => by
    show (itemsG (markS S x.data) r)[i]? = _
    rw [itemsG_get r _ i (by simpa using h)]
    rfl
/-- The book knows each item's mark. -/
theorem items_is (l : List FileD) (i : Nat) (h : i < l.length) : ∃ mk : Txt, mk.length = 32 ∧ (itemsG [] l)[i]? = some ⟨l[i].path, l[i].mode, (l[i].data.length : Int), mk⟩ ∧ isS (seenS (l.map (·.data))) l[i].data mk = true := by
  refine ⟨_, numM_length _, itemsG_get l [] i h, ?_⟩
  have hi : i < (l.map (·.data)).length := by simpa using h
  have e := noS_later (l.map (·.data)) i hi
  have hm : l[i].data ∈ seenS (l.map (·.data)) := (mem_seenS _ _).2 (List.mem_map.2 ⟨l[i], List.getElem_mem h, rfl⟩)
  rw [List.getElem_map, ← List.map_take] at e
  show isS (seenS (l.map (·.data))) l[i].data (numM (noS (seenS ((l.take i).map (·.data))) l[i].data)) = true
  rw [e]
  unfold isS
  rw [decide_eq_true hm, decide_eq_true rfl]
  rfl
theorem items_ok {l : List FileD} (hok : ∀ x ∈ l, FileOk x) : ∀ y ∈ itemsG [] l, ItemOk y := by
  intro y hy
  obtain ⟨x, hx, k, rfl⟩ := itemsG_mem l [] y hy
  have hm := numM_length k
  have h := hok x hx
  have h3 := h.d
  exact ⟨h.p, h.m, by dsimp only; omega, by dsimp only; omega⟩
set_option maxRecDepth 100000 in
set_option maxHeartbeats 2000000 in
theorem treeItems_walk (v : Value) (w : World) (h : FsIn w v) :
    Calls Tryd.prog 7 #[v] w fun e w' => e = .returned (.bool true) ∧ Below w.heap.size w w' := by
  obtain ⟨xs, hrow0, hok, hlen⟩ := h
  have hrow := hrow0.mono (M := fun _ => True) (fun _ _ => trivial)
  obtain ⟨va, vc, hv, hcap⟩ := hrow.slice
  subst hv
  have FW := Lib.hid (few9_any va vc xs w hrow)
  have hrN := hrow0.firsts 60
  have hr := hrow.firsts 60
  have hy := fun x (hx : x ∈ xs.take 60) => hok x (List.mem_of_mem_take hx)
  have hl : (xs.take 60).length ≤ 60 := List.length_take_le _ _
  clear hrow hrow0 hok hcap hlen
  generalize xs.take 60 = ys at *
  have HRN := Lib.hid hrN
  have HRY := Lib.hid hr
  have HY := Lib.hid hy
  have ITS := Lib.hid (fun (p bm : Nat) (w' : World) (hb : Below w.heap.size w w') (hi : IdealAt w' p bm []) (hm : w.heap.size ≤ bm) => tItems_any p bm (.slice va ys.length vc) ys w' (N := (· < w.heap.size)) (fun g hg e => by omega) (hrN.keep hb) hi hy (by omega))
  have RC := Lib.hid (fun (w' : World) (hb : Below w.heap.size w w') => refCheck_any _ ys w' (hr.keep hb) hy (by omega))
  have RZ := Lib.hid (fun (h : checkS ys = 0) => items_right h)
  clear hrN hr hy
  generalize checkS ys = ce at *
  go_enter Tryd.func7, Tryd.ntmps7
  go_wp2_with fail
  refine FW.out.mono ?_
  rintro e w0 ⟨rfl, rfl⟩
  clear FW
  go_wp2_with fail
  refine (ideal_any _).mono ?_
  rintro e w1 ⟨p, bm, rfl, hid1, hp1, hbm1, hb1⟩
  have IT := Lib.hid (ITS.out p bm w1 hb1 hid1 hbm1)
  have K1 := Lib.hid hb1
  clear hid1 hb1 ITS
  go_wp2_with fail
  refine IT.out.mono ?_
  rintro e w2 ⟨v2, rfl, hz, hg, hk2⟩
  have K2 := Lib.hid (K1.out.trans (hk2.below K1.out.size (fun k e => by omega)))
  have RC2 := Lib.hid (RC.out w2 K2.out)
  clear hk2 IT RC
  by_cases hc : ce = 0
  · obtain ⟨hown, hid2⟩ := hg hc
    have hsz1 := K1.out.size
    obtain ⟨oa, om, oc, hv2⟩ := own_slice hown
    subst hv2
    have hom := own_lenV hown
    have hom' : om = ys.length := by rw [itemsG_len] at hom; exact hom
    subst hom'
    have HROW := Lib.hid ((OwnN.row encI_ok hown).mono (M := fun _ => True) (fun _ _ => trivial))
    have HID2 := Lib.hid hid2
    have HRT := Lib.hid (RZ.out hc)
    clear hz hg hown hid2 hom RZ
    subst hc
    go_wp2_with fail
    refine RC2.out.mono ?_
    rintro e w3 ⟨rfl, hb3⟩
    have K3 := Lib.hid (K2.out.trans (hb3.mono K2.out.size))
    have HROW3 := Lib.hid (HROW.out.keep hb3)
    have HID3 := Lib.hid (HID2.out.new hb3)
    have HRY3 := Lib.hid (HRY.out.keep K3.out)
    clear hb3 RC2 K2 HROW HID2
    go_wp2_with fail
    go_loopw [7] (fun v7 wr => ∃ i : Nat, i ≤ ys.length ∧ v7 = .int .i64 i ∧ Below w3.heap.size w3 wr) (fun v7 _ => ys.length - (intOf v7).toNat)
    case atStart => exact ⟨0, by omega, rfl, Below.refl _ _⟩
    case round =>
      obtain ⟨i, hi, rfl, hbel⟩ := hrel
      have HB := Lib.hid hbel
      clear hbel
      have i0 : (0 : Int) ≤ (i : Int) := by omega
      by_cases hlt : i < ys.length
      · have j1 : (i : Int) < (ys.length : Int) := by omega
        obtain ⟨g1, o1, e1, hel1⟩ := HRY3.out.el hlt
        obtain ⟨g2, o2, e2, hel2⟩ := HROW3.out.el (by rw [itemsG_len]; exact hlt)
        subst e1; subst e2
        obtain ⟨mk, hmk, hget, his⟩ := items_is ys i hlt
        have h1 := (hel1 i hlt).new HB.out
        have h2 := (hel2 i (by rw [itemsG_len]; exact hlt)).new HB.out
        have eg : (itemsG [] ys)[i]'(by rw [itemsG_len]; exact hlt) = ⟨ys[i].path, ys[i].mode, (ys[i].data.length : Int), mk⟩ := by
          have := List.getElem?_eq_getElem (l := itemsG [] ys) (i := i) (by rw [itemsG_len]; exact hlt)
          rw [hget] at this
          injection this with this
          exact this.symm
        rw [eg] at h2
        have hdl := (HY.out ys[i] (List.getElem_mem hlt)).d
        have IS := Lib.hid (fun (q : BelowOf wr) => by
          have A := is_ideal q.w p bm (seenS (ys.map (·.data))) ys[i].data mk ((HID3.out.new HB.out).new q.h) hdl (by have := seenS_length (ys.map (·.data)); rw [List.length_map] at this; omega)
          rw [his] at A
          exact A)
        clear hel1 hel2 hget his eg
        generalize ys[i] = x at *
        obtain ⟨pt, md, dt⟩ := x
        have c0 := h1.f0
        have c1 := h1.f1
        have c2 := h1.f2
        have d0 := h2.i0
        have d1 := h2.i1
        have d2 := h2.i2
        have d3 := h2.i3
        dsimp only at c0 c1 c2 d0 d1 d2 d3 IS
        clear h1 h2
        have q1 : (pt == pt) = true := by simp
        have q2 : (md != md) = false := by simp
        have q3 : ((dt.length : Int) != (dt.length : Int)) = false := by simp
        go_wp2_with fail
        have A0 := below_cell c0
        have A1 := below_cell c1
        have A2 := below_cell c2
        have D0 := below_cell d0
        have D1 := below_cell d1
        have D2 := below_cell d2
        have D3 := below_cell d3
        refine wp_region_below (by kernel_rfl) (by kernel_rfl) ?_
        repeat (go_big_quiet_step ((go_at_call 27; with_reducible exact below_calls (IS.out _))))
        refine wpQuiet_nil ?_
        rintro w8 ⟨⟨w8b, hb8⟩, e8⟩
        have e8' : w8 = w8b := e8
        clear e8
        subst e8'
        have HB8 := Lib.hid (HB.out.trans (hb8.mono HB.out.size))
        clear A0 A1 A2 D0 D1 D2 D3 hb8 IS c0 c1 c2 d0 d1 d2 d3
        go_wp2_with fail
        go_roundw
        case rel => exact ⟨i + 1, hlt, by go_num, HB8.out⟩
        case measure => simp [intOf]; omega
      · obtain rfl : i = ys.length := by omega
        have j1 : ¬ (ys.length : Int) < (ys.length : Int) := by omega
        have RT := Lib.hid (tRight_any _ (itemsG [] ys) wr (HROW3.out.keep HB.out) (items_ok HY.out) (by rw [itemsG_len]; omega))
        rw [HRT.out] at RT
        have K4 := Lib.hid (K3.out.trans (HB.out.mono K3.out.size))
        go_wp2_with fail
        refine RT.out.mono ?_
        rintro e w5 ⟨rfl, hb5⟩
        have K5 := Lib.hid (K4.out.trans (hb5.mono K4.out.size))
        clear hb5 RT
        go_wp2_with fail
        refine (awake9_any _).mono ?_
        rintro e w6 ⟨rfl, hb6⟩
        go_wp2_with fail
        go_ret
        exact ⟨rfl, K5.out.trans (hb6.mono K5.out.size)⟩
  · have q1 : (ce != 0) = true := by simp [hc]
    have q2 : (ce == ce) = true := by simp
    have hv2 := hz hc
    subst hv2
    clear hz hg hc RZ
    go_wp2_with fail
    refine RC2.out.mono ?_
    rintro e w3 ⟨rfl, hb3⟩
    have K3 := Lib.hid (K2.out.trans (hb3.mono K2.out.size))
    clear hb3 RC2 K2
    go_wp2_with fail
    refine (awake9_any _).mono ?_
    rintro e w6 ⟨rfl, hb6⟩
    go_wp2_with fail
    go_ret
    exact ⟨rfl, K3.out.trans (hb6.mono K3.out.size)⟩
end Go.Proofs.YtkfkfpfnpfpkaaaDoor

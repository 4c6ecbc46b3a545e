/- Landed tree: Path, walked: a range over the library's iterator. -/
import Derived.Test.YtkfkfpfnpfpkaaaDoorFrame
import Derived.Test.YtkfkfpfnpfpkaaaDoorGen
import Derived.Test.YtkfkfpfnpfpkaaaDoorMarkMath
import Derived.Test.YtkfkfpfnpfpkaaaDoorNameTW
import Derived.Test.YtkfkfpfnpfpkaaaDoorOwnL
import Derived.Test.YtkfkfpfnpfpkaaaDoorPiecesW
import Derived.Test.YtkfkfpfnpfpkaaaDoorProg
import Derived.Test.YtkfkfpfnpfpkaaaDoorRangeTW
import Derived.Test.YtkfkfpfnpfpkaaaDoorReadMath
import Derived.Test.YtkfkfpfnpfpkaaaDoorReadW
import Derived.Test.YtkfkfpfnpfpkaaaDoorRowN
import Derived.Test.YtkfkfpfnpfpkaaaDoorRows
import Derived.Test.YtkfkfpfnpfpkaaaDoorShelf
import Derived.Test.YtkfkfpfnpfpkaaaDoorTreeMath
import Derived.BigQuiet
import Derived.Lib.Hide
import Derived.WalkKit
import Derived.WalkLawsBesides
import Derived.WalkSpells
set_option linter.unusedVariables false
namespace Go.Proofs.YtkfkfpfnpfpkaaaDoor
open Go.RowKit
attribute [local go_sem] Oper.semAt_some

/-- The world with the three boxes of the iterator. -/
def boxW (w : World) (s : Txt) : World := ((w.alloc (.cells #[.string ⟨s.toArray⟩] 9)).alloc (.cells #[.string ⟨#[47]⟩] 9)).alloc (.cells #[.int .i64 0] 3)
theorem boxW_below (w : World) (s : Txt) : Below w.heap.size w (boxW w s) := (((Below.refl _ w).alloc (Nat.le_refl _) _).alloc (by simp) _).alloc (by simp; omega) _
theorem boxW_size (w : World) (s : Txt) : (boxW w s).heap.size = w.heap.size + 3 := by unfold boxW; simp
theorem cell1 (w : World) (v : Value) (t : TypeId) : (w.alloc (.cells #[v] t)).cell? ⟨w.heap.size, 0, none⟩ = some v := by
  rw [cell_of_row _ _ _ _ _ _ (heap_alloc_new _ _)]; rfl
theorem frozen1 (w : World) (v : Value) (t : TypeId) : (w.alloc (.cells #[v] t)).frozen? ⟨w.heap.size, 0, none⟩ = false := frozen_of_row _ _ _ _ _ (heap_alloc_new _ _)
theorem boxW_pb (w : World) (s : Txt) : PB (boxW w s) (w.heap.size + 1) w.heap.size (w.heap.size + 2) s := by
  have e1 : (w.alloc (.cells #[.string ⟨s.toArray⟩] 9)).heap.size = w.heap.size + 1 := by simp
  have e2 : ((w.alloc (.cells #[.string ⟨s.toArray⟩] 9)).alloc (.cells #[.string ⟨#[47]⟩] 9)).heap.size = w.heap.size + 2 := by simp
  have c2 := cell1 (w.alloc (.cells #[.string ⟨s.toArray⟩] 9)) (.string ⟨#[47]⟩) 9
  have c3 := cell1 ((w.alloc (.cells #[.string ⟨s.toArray⟩] 9)).alloc (.cells #[.string ⟨#[47]⟩] 9)) (.int .i64 0) 3
  have b : Below (w.heap.size + 1) (w.alloc (.cells #[.string ⟨s.toArray⟩] 9)) (boxW w s) := ((Below.refl _ _).alloc (by simp) _).alloc (by simp) _
  rw [e1] at c2
  rw [e2] at c3
  exact ⟨cell_alloc1 c2 _, (b.cell (p := ⟨w.heap.size, 0, none⟩) (Nat.lt_succ_self _)).trans (cell1 _ _ _), c3, (b.frozen (p := ⟨w.heap.size, 0, none⟩) (Nat.lt_succ_self _)).trans (frozen1 _ _ _)⟩
theorem results_cell1 {P : Program} {fn : Func} {p : Tmp} {ty : TypeId} {d : TypeDesc} (h : fn.results = #[.cell p ty]) (tmps : Array Value) (w : World) (a : Addr) (v : Value) (hp : tmps.getD p undef = .pointer (some a))
    (hu : P.underlying ty = some d) (hd : (match d with | .struct _ | .array _ _ => true | _ => false) = false) (hc : w.cell? a = some v) : (results fn tmps).run P w = .ok v w := by
  have hg : (isAgg ty).run P w = .ok false w := by
    unfold isAgg
    rw [Sem.run_bind, run_underlying hu]
    cases d <;> simp_all [Result.andThen]
  have hl : (loadVar ty a).run P w = .ok v w := by
    unfold loadVar
    simp [Sem.run_bind, hg, Result.andThen, go_sem, hc]
  simp only [results, h]
  have hp' : tmps[p]?.getD undef = .pointer (some a) := by simpa using hp
  simp [Sem.run_bind, Result.andThen, hp', asAddr, hl]
set_option maxRecDepth 100000 in
theorem splitSeq_any (s : Txt) (w : World) :
    Calls Tryd.prog 44 #[.string ⟨s.toArray⟩, .string ⟨#[47]⟩] w fun e w' => e = .returned (.func (.func 117) #[] #[.pointer (some ⟨w.heap.size + 1, 0, none⟩), .pointer (some ⟨w.heap.size, 0, none⟩), .pointer (some ⟨w.heap.size + 2, 0, none⟩)]) ∧ w' = boxW w s := by
  have SP : ∀ w', Calls Tryd.prog 92 #[.string ⟨s.toArray⟩, .string ⟨#[47]⟩, .int .i64 0] w' fun e w1 => e = .returned (.func (.func 117) #[] #[.pointer (some ⟨w'.heap.size + 1, 0, none⟩), .pointer (some ⟨w'.heap.size, 0, none⟩), .pointer (some ⟨w'.heap.size + 2, 0, none⟩)]) ∧ w1 = boxW w' s := by
    intro w'
    go_enter Tryd.func92, Tryd.ntmps92
    go_wp2_with fail
    go_ret
    exact ⟨by simp, rfl⟩
  go_enter Tryd.func44, Tryd.ntmps44
  go_wp2_with fail
  refine (SP _).mono ?_
  rintro e w1 ⟨rfl, rfl⟩
  go_wp2_with fail
  go_ret
  exact ⟨rfl, rfl⟩
theorem names_len (s x : Txt) (h : x ∈ namesS s) : x.length ≤ s.length := by
  have key : ∀ (t cur : Txt), ∀ y ∈ namesG cur t, y.length ≤ cur.length + t.length := by
    intro t
    induction t with
    | nil => intro cur y hy; simp [namesG] at hy; rw [hy]; simp
    | cons c t ih =>
      intro cur y hy
      unfold namesG at hy
      split at hy
      · simp at hy
        rcases hy with rfl | hy
        · simp
        · have := ih [] y hy; simp at this ⊢; omega
      · have := ih _ y hy; simp at this ⊢; omega
  have := key s [] x h
  simpa using this
set_option maxRecDepth 100000 in
set_option maxHeartbeats 1000000 in
theorem path_any (s : Txt) (w : World) (hs : s.length ≤ 140737488351232) :
    Calls Tryd.prog 14 #[.string ⟨s.toArray⟩] w fun e w' => e = .returned (.int .i64 (pathS s)) ∧ Below w.heap.size w w' := by
  have SA := Lib.hid (show (⟨s.toArray⟩ : ByteArray).size = s.length from rfl)
  refine (callsIn_wide (n := 3)).1 ?_
  refine callsIn_of_wp_marks Tryd.func14 rfl trivial ?_ rfl
  simp only [Tryd.ntmps14, List.size_toArray, List.length_cons, List.length_nil, Nat.reduceAdd, Nat.reduceSub, Array.replicate_succ, Array.replicate_zero, List.push_toArray, List.append_toArray, List.nil_append, List.cons_append]
  by_cases h200 : 200 < s.length
  · have HR := Lib.hid (show pathS s = 4 by unfold pathS; rw [if_pos h200])
    rw [HR.out]
    have j1 : (200 : Int) < (s.length : Int) := by omega
    gi_wp2
    exact ⟨_, results_cell1 Tryd.results14 _ _ _ _ rfl Tryd.underlying22 rfl (cell1 _ _ _), rfl, (Below.refl _ _).alloc (Nat.le_refl _) _⟩
  · have j1 : ¬ (200 : Int) < (s.length : Int) := by omega
    have SP := fun w' => Lib.hid (splitSeq_any s w')
    gi_wp2_with (refine ⟨trivial, ?_⟩; gi_at_call 44; refine (callsIn_wide.2 (SP _).out).mono ?_; rintro e w' ⟨rfl, rfl⟩)
    have SZ := Lib.hid (show (boxW (w.alloc (.cells #[.int .i64 0] 22)) s).heap.size = w.heap.size + 4 by rw [boxW_size]; simp)
    have PB0 := Lib.hid (show PB (boxW (w.alloc (.cells #[.int .i64 0] 22)) s) (w.heap.size + 2) (w.heap.size + 1) (w.heap.size + 3) s by
      have h := boxW_pb (w.alloc (.cells #[.int .i64 0] 22)) s
      rwa [World.size_alloc] at h)
    have BL := boxW_below (w.alloc (.cells #[.int .i64 0] 22)) s
    rw [World.size_alloc] at BL
    have HBW := Lib.hid (((Below.refl _ w).alloc (Nat.le_refl _) (.cells #[.int .i64 0] 22)).trans (BL.mono (Nat.le_succ _)))
    have HC0 := Lib.hid ((BL.cell (p := ⟨w.heap.size, 0, none⟩) (Nat.lt_succ_self _)).trans (cell1 w (.int .i64 0) 22))
    have HF0 := Lib.hid ((BL.frozen (p := ⟨w.heap.size, 0, none⟩) (Nat.lt_succ_self _)).trans (frozen1 w (.int .i64 0) 22))
    clear BL
    generalize boxW (w.alloc (.cells #[.int .i64 0] 22)) s = w1 at *
    have IN := fun (x : Txt) (hx : x.length ≤ 140737488351232) (w' : World) => Lib.hid (isName_any x w' hx)
    have HX := Lib.hid (show ∀ x ∈ namesS s, x.length ≤ 140737488351232 from fun x hx => by have := names_len s x hx; omega)
    refine wp_pieces (w.heap.size + 2) (w.heap.size + 1) (w.heap.size + 3) w.heap.size s hs rfl PB0.out (by rw [SZ.out]; omega) (by rw [SZ.out]; omega) (by rw [SZ.out]; omega) (by omega) (by omega) (by rw [SZ.out]; omega)
      (fun k W => Below w.heap.size w W ∧ W.cell? ⟨w.heap.size, 0, none⟩ = some (.int .i64 0) ∧ W.frozen? ⟨w.heap.size, 0, none⟩ = false ∧ w.heap.size < W.heap.size ∧ ∀ j (hj : j < (namesS s).length), j < k → nameS (namesS s)[j] = true)
      (fun W => Below w.heap.size w W ∧ W.cell? ⟨w.heap.size, 0, none⟩ = some (.int .i64 10) ∧ w.heap.size < W.heap.size ∧ pathS s = 10)
      ?hI ?hIx ⟨HBW.out, HC0.out, HF0.out, by rw [SZ.out]; omega, fun j hj h => by omega⟩
      (fun x => { tmps := #[.string ⟨s.toArray⟩, undef, .pointer (some ⟨w.heap.size, 0, none⟩), .string ⟨x.toArray⟩, .string ⟨s.toArray⟩, .int .i64 s.length, .bool false, .string ⟨s.toArray⟩, .func (.func 117) #[] #[.pointer (some ⟨w.heap.size + 2, 0, none⟩), .pointer (some ⟨w.heap.size + 1, 0, none⟩), .pointer (some ⟨w.heap.size + 3, 0, none⟩)], .string ⟨x.toArray⟩, undef, undef, undef], defers := [] })
      ?assign ?body ?done ?stop
    case hI =>
      rintro k W W' ⟨h1, h2, h3, h4, h5⟩ hk
      have hne : ¬ (w.heap.size = w.heap.size + 1 ∨ w1.heap.size ≤ w.heap.size) := by have := SZ.out; omega
      have hblk := hk.block w.heap.size h4 hne
      exact ⟨h1.trans (hk.below h1.size (fun b hb => by have := SZ.out; omega)), (World.cell?_of_block (w := W) (a := ⟨w.heap.size, 0, none⟩) hblk).trans h2, (World.frozen?_of_block (w := W) (a := ⟨w.heap.size, 0, none⟩) hblk).trans h3, by have := hk.size; omega, h5⟩
    case hIx =>
      rintro W W' ⟨h1, h2, h4, h5⟩ hk
      have hne : ¬ (w.heap.size = w.heap.size + 1 ∨ w1.heap.size ≤ w.heap.size) := by have := SZ.out; omega
      have hblk := hk.block w.heap.size h4 hne
      exact ⟨h1.trans (hk.below h1.size (fun b hb => by have := SZ.out; omega)), (World.cell?_of_block (w := W) (a := ⟨w.heap.size, 0, none⟩) hblk).trans h2, by have := hk.size; omega, h5⟩
    case assign =>
      intro l x W K hK
      gi_wp2
      exact hK
    case body =>
      rintro l k hk W ⟨h1, h2, h3, h4, h5⟩
      have INk := Lib.hid (IN _ (HX.out _ (List.getElem_mem hk)) W).out
      have H1 := Lib.hid h1
      have H5 := Lib.hid h5
      have HK := Lib.hid (show ∀ b, b = nameS (namesS s)[k] → b = false → pathS s = 10 from fun b hb hf => by
        unfold pathS
        rw [if_neg h200, if_neg]
        intro hall
        rw [List.all_eq_true] at hall
        have := hall _ (List.getElem_mem hk)
        rw [← hb, hf] at this
        cases this)
      have HS := Lib.hid (show ∀ b, b = nameS (namesS s)[k] → b = true → ∀ j (hj : j < (namesS s).length), j < k + 1 → nameS (namesS s)[j] = true from fun b hb ht j hj hjk => by
        by_cases e : j = k
        · subst e; rw [← hb, ht]
        · exact h5 j hj (by omega))
      clear h1 h5 IN HX
      obtain ⟨b, hb⟩ : ∃ b, b = nameS (namesS s)[k] := ⟨_, rfl⟩
      rw [← hb] at INk
      have HKb := Lib.hid (HK.out b hb)
      have HSb := Lib.hid (HS.out b hb)
      clear HK HS hb
      generalize (namesS s)[k] = x at *
      cases b with
      | true =>
        gi_wp2_with (refine ⟨trivial, ?_⟩; gi_at_call 45; refine (CallsIn.inRound l (callsIn_wide.2 INk.out)).mono ?_; rintro e w' ⟨rfl, hb'⟩)
        have hsz := hb'.size
        exact ⟨H1.out.trans (hb'.mono H1.out.size), (hb'.cell (p := ⟨w.heap.size, 0, none⟩) h4).trans h2, (hb'.frozen (p := ⟨w.heap.size, 0, none⟩) h4).trans h3, by omega, HSb.out trivial⟩
      | false =>
        gi_wp2_with (refine ⟨trivial, ?_⟩; gi_at_call 45; refine (CallsIn.inRound l (callsIn_wide.2 INk.out)).mono ?_; rintro e w' ⟨rfl, hb'⟩; have c2 := (hb'.cell (p := ⟨w.heap.size, 0, none⟩) h4).trans h2; have f2 := (hb'.frozen (p := ⟨w.heap.size, 0, none⟩) h4).trans h3)
        have hsz := hb'.size
        exact ⟨(Kept.new hb' (fun x => x = w.heap.size)).setCell (p := ⟨w.heap.size, 0, none⟩) rfl _, (H1.out.trans (hb'.mono H1.out.size)).setCell (p := ⟨w.heap.size, 0, none⟩) (Nat.le_refl _) _, by omega, HKb.out trivial⟩
    case done =>
      rintro D W hD ⟨h1, h2, h3, h4, h5⟩ hK
      have HR := Lib.hid (show pathS s = 0 by
        unfold pathS
        rw [if_neg h200, if_pos]
        rw [List.all_eq_true]
        intro x hx
        obtain ⟨j, hj, rfl⟩ := List.mem_iff_getElem.1 hx
        exact h5 j hj hj)
      clear h5
      have hD2 : (W.setCell ⟨w.heap.size, 0, none⟩ (.int .i64 0)).heap[D]? = some (.deferred (some [])) := (Below.heap_setCell _ _ _ _ (by have := SZ.out; simp; omega)).trans hK
      have hc2 : (W.setCell ⟨w.heap.size, 0, none⟩ (.int .i64 0)).cell? ⟨w.heap.size, 0, none⟩ = some (.int .i64 0) := World.cell?_setCell_same' _ _ _ (by rw [h2]; rfl)
      have hB2 := Lib.hid (h1.setCell (p := ⟨w.heap.size, 0, none⟩) (Nat.le_refl _) (.int .i64 0))
      clear h1
      gi_wp2
      generalize W.setCell ⟨w.heap.size, 0, none⟩ (.int .i64 0) = W2 at *
      have hP : Below w.heap.size W2 (W2.putObj D (.deferred none)) := (Below.refl _ W2).grown (grownBy_putObj' W2 _ _) (by have := hB2.out.size; omega) (fun k e => by cases e; have := SZ.out; omega)
      refine ⟨by simp, .inl ⟨_, _, rfl, run_takeDeferred hD2, ?_⟩⟩
      refine ⟨_, results_cell1 Tryd.results14 _ _ _ _ rfl Tryd.underlying22 rfl ((World.cell?_of_block (w := W2) (a := ⟨w.heap.size, 0, none⟩) (World.putObj_heap_other (by have := SZ.out; simp; omega))).trans hc2), ?_, hB2.out.trans hP⟩
      rw [HR.out]
    case stop =>
      rintro D W hD ⟨h1, h2, h4, h5⟩ hK
      gi_wp2
      have hP : Below w.heap.size W (W.putObj D (.deferred none)) := (Below.refl _ W).grown (grownBy_putObj' W _ _) (by omega) (fun k e => by cases e; have := SZ.out; omega)
      refine ⟨by simp, .inl ⟨_, _, rfl, run_takeDeferred hK, ?_⟩⟩
      refine ⟨_, results_cell1 Tryd.results14 _ _ _ _ rfl Tryd.underlying22 rfl ((World.cell?_of_block (w := W) (a := ⟨w.heap.size, 0, none⟩) (World.putObj_heap_other (by have := SZ.out; simp; omega))).trans h2), ?_, h1.trans hP⟩
      rw [h5]
end Go.Proofs.YtkfkfpfnpfpkaaaDoor

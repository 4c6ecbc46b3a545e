/- Several texts in one: OwnDelW, RowMath, RunCW, FewCW, RowCW, StopMath. -/
import Derived.Test.YtpkgjokehgihjaaGreatTabX
import Derived.Test.YtpkgjokehgihjaaGreatBookW
import Derived.Test.YtpkgjokehgihjaaGreatTyX
import Derived.Test.YtpkgjokehgihjaaGreatCmpW
import Derived.Test.YtpkgjokehgihjaaGreatSrX
import Derived.Test.YtpkgjokehgihjaaGreatMkX
import Derived.Test.YtpkgjokehgihjaaGreatDelX
import Derived.Test.YtpkgjokehgihjaaGreatFrame
import Derived.Test.YtpkgjokehgihjaaGreatGen
import Derived.Test.YtpkgjokehgihjaaGreatRollX
import Derived.Test.YtpkgjokehgihjaaGreatOdX
import Derived.Test.YtpkgjokehgihjaaGreatOwnL
import Derived.Test.YtpkgjokehgihjaaGreatProg
import Derived.Test.YtpkgjokehgihjaaGreatRightDW
import Derived.Test.YtpkgjokehgihjaaGreatRollMath
import Derived.Test.YtpkgjokehgihjaaGreatRowKeep
import Derived.Test.YtpkgjokehgihjaaGreatRows
import Derived.Test.YtpkgjokehgihjaaGreatShelf
import Derived.Test.YtpkgjokehgihjaaGreatSigAt
import Derived.Test.YtpkgjokehgihjaaGreatSigOfW
import Derived.Test.YtpkgjokehgihjaaGreatSignMath
import Derived.Test.YtpkgjokehgihjaaGreatSortX
import Derived.Test.YtpkgjokehgihjaaGreatSortEW
import Derived.Test.YtpkgjokehgihjaaGreatSortFW
import Derived.Test.YtpkgjokehgihjaaGreatWkX
import Derived.BigQuiet
import Derived.BigRegion
import Derived.Deep.CutBlock
import Derived.Deep.DeepCutAuto
import Derived.Deep.LoopGhost
import Derived.Deep.QuietTactic
import Derived.Deep.RegionHeld3
import Derived.Deep.RegionLaw
import Derived.IntWalk
import Derived.Laws.BitsAllLaws
import Derived.Laws.MakeOwn
import Derived.Laws.Rows
import Derived.Laws.Tables
import Derived.Lib.Hide
import Derived.Outline
import Derived.StillTailTactics
import Derived.WalkKit
import Derived.WalkLawsBesides
import Derived.WalkSpells
import Derived.Test.YtpkgjokehgihjaaGreatBlX
import Derived.Test.YtpkgjokehgihjaaGreatBldShelf
import Derived.Test.YtpkgjokehgihjaaGreatMarkMath
import Derived.Test.YtpkgjokehgihjaaGreatCdX
import Derived.Deep.AppendLies
import Derived.Laws.Externs
import Derived.Lib.AppendStr
import Derived.Lib.Builder
import Derived.Lib.Strings
import Derived.Lib.Walk
import Derived.Maps.OwnSet
import Derived.Maps.Views
import Derived.Sort.Walk0
import Derived.Test.YtpkgjokehgihjaaGreatNewTabW
import Derived.ChangeAlike
import Derived.RegionTactic
import Derived.Test.YtpkgjokehgihjaaGreatInfos
import Derived.Test.YtpkgjokehgihjaaGreatSignW
/- Lists of deltas of the call's own; some appended. Of no program. -/
set_option linter.unusedVariables false
namespace Go.Proofs.YtpkgjokehgihjaaGreat
open Go.RowKit

/-- A delta and where its steps stand. -/
abbrev DV := DD × Value
def dlC (x : DV) : List Value := [.string ⟨x.1.bm.toArray⟩, .string ⟨x.1.mm.toArray⟩, .int .i64 x.1.n, x.2]
def flatD (l : List DV) : List Value := (l.map dlC).flatten
theorem flatD_nil : flatD [] = [] := rfl
theorem flatD_cons (x : DV) (l : List DV) : flatD (x :: l) = dlC x ++ flatD l := rfl
theorem flatD_append (l m : List DV) : flatD (l ++ m) = flatD l ++ flatD m := by unfold flatD; simp
theorem flatD_one (x : DV) : flatD [x] = dlC x := by unfold flatD; simp
theorem flatD_len (l : List DV) : (flatD l).length = l.length * 4 := by
  induction l with
  | nil => rfl
  | cons x l ih => rw [flatD_cons, List.length_append, ih, List.length_cons]; show 4 + _ = _; omega
theorem flatD_get : ∀ (l : List DV) (i : Nat) (h : i < l.length), (flatD l)[i * 4]? = some (.string ⟨l[i].1.bm.toArray⟩) ∧ (flatD l)[i * 4 + 1]? = some (.string ⟨l[i].1.mm.toArray⟩) ∧ (flatD l)[i * 4 + 2]? = some (.int .i64 l[i].1.n) ∧ (flatD l)[i * 4 + 3]? = some l[i].2 := by
  intro l
  induction l with
  | nil => intro i h; simp at h
  | cons x l ih =>
    intro i h
    rw [flatD_cons]
    cases i with
    | zero => exact ⟨rfl, rfl, rfl, rfl⟩
    | succ i =>
      have := ih i (by simpa using h)
      have e : ∀ r, (dlC x ++ flatD l)[(i + 1) * 4 + r]? = (flatD l)[i * 4 + r]? := fun r => by
        rw [List.getElem?_append_right (by show 4 ≤ _; omega)]
        congr 1
        show (i + 1) * 4 + r - 4 = _
        omega
      refine ⟨(e 0).trans this.1, (e 1).trans this.2.1, (e 2).trans this.2.2.1, (e 3).trans this.2.2.2⟩
/-- A list of deltas of the call's own. -/
def OwnP (w : World) (base : Nat) (v : Value) (xs : List DV) : Prop := w.ownsRow base 34 4 v xs.length (flatD xs)
theorem OwnP.nil (w : World) (base : Nat) : OwnP w base (.slice none 0 0) [] := World.ownsRow_nil w base _ 4
theorem OwnP.at {w : World} {base : Nat} {v : Value} {xs : List DV} (h : OwnP w base v xs) {i : Nat} (hi : i < xs.length) : ∃ g c, v = .slice (some ⟨g, 0, none⟩) xs.length c ∧ base ≤ g ∧ DAt w g (i * 4) xs[i].1 xs[i].2 := by
  rcases h.2 with ⟨rfl, hn⟩ | ⟨g, cap, cur, rfl, hb, hg, _⟩
  · omega
  · refine ⟨g, cap, rfl, hb, ?_⟩
    have C := World.ownsRow.cells h (g := g) rfl
    obtain ⟨f0, f1, f2, f3⟩ := flatD_get xs i hi
    have D0 := C _ _ f0
    have D1 := C _ _ f1
    have D2 := C _ _ f2
    have D3 := C _ _ f3
    rw [addr_add0] at D0 D1 D2 D3
    exact ⟨D0, D1, D2, D3⟩
theorem OwnP.slice {w : World} {base : Nat} {v : Value} {xs : List DV} (h : OwnP w base v xs) : ∃ a c, v = .slice a xs.length c ∧ xs.length ≤ c := by
  have h1 := h.1
  rcases h.2 with ⟨rfl, hn⟩ | ⟨g, cap, cur, rfl, hb, hg, hc⟩
  · exact ⟨none, 0, by rw [hn], by omega⟩
  · exact ⟨_, _, rfl, hc.1⟩
theorem OwnP.mono {w : World} {base base' : Nat} {v : Value} {xs : List DV} (h : OwnP w base v xs) (hb : base' ≤ base) : OwnP w base' v xs := by
  refine ⟨h.1, ?_⟩
  rcases h.2 with hn | ⟨g, cap, cur, rfl, hg, rest⟩
  · exact .inl hn
  · exact .inr ⟨g, cap, cur, rfl, Nat.le_trans hb hg, rest⟩
theorem OwnP.kept {w w' : World} {M : Nat → Prop} {base : Nat} {v : Value} {xs : List DV} (h : OwnP w base v xs) (hk : Kept M w w') (hm : ∀ g, v.ownBlock = some g → ¬ M g) : OwnP w' base v xs :=
  own_off h hk (fun g _ _ hg => hm g hg)
theorem OwnP.new {w w' : World} {base : Nat} {v : Value} {xs : List DV} (h : OwnP w base v xs) (hb : Below w.heap.size w w') : OwnP w' base v xs :=
  h.kept (Kept.new hb (fun _ => False)) (fun _ _ => id)
theorem OwnP.lt {w : World} {base : Nat} {v : Value} {xs : List DV} (h : OwnP w base v xs) {g : Nat} (hg : v.ownBlock = some g) : base ≤ g ∧ g < w.heap.size ∧ ∃ cur, w.heap[g]? = some (.cells cur 34 (0, 0)) := by
  rcases h.2 with ⟨rfl, _⟩ | ⟨g', cap, cur, rfl, hb, hgg, _⟩
  · simp [Value.ownBlock] at hg
  · simp [Value.ownBlock] at hg
    subst hg
    exact ⟨hb, (Array.getElem?_eq_some_iff.1 hgg).1, cur, hgg⟩
/-- It, and the steps of each. -/
structure OwnD (w : World) (base : Nat) (v : Value) (xs : List DV) : Prop where
  own : OwnP w base v xs
  st : ∀ x ∈ xs, OwnS w base x.2 x.1.l
theorem OwnD.nil (w : World) (base : Nat) : OwnD w base (.slice none 0 0) [] := ⟨OwnP.nil _ _, fun x hx => by simp at hx⟩
theorem OwnD.mono {w : World} {base base' : Nat} {v : Value} {xs : List DV} (h : OwnD w base v xs) (hb : base' ≤ base) : OwnD w base' v xs := ⟨h.own.mono hb, fun x hx => (h.st x hx).mono hb⟩
theorem OwnD.new {w w' : World} {base : Nat} {v : Value} {xs : List DV} (h : OwnD w base v xs) (hb : Below w.heap.size w w') : OwnD w' base v xs := ⟨h.own.new hb, fun x hx => (h.st x hx).new hb⟩
theorem OwnD.kept {w w' : World} {M : Nat → Prop} {base : Nat} {v : Value} {xs : List DV} (h : OwnD w base v xs) (hk : Kept M w w') (hm : ∀ g, base ≤ g → g < w.heap.size → ¬ M g) : OwnD w' base v xs :=
  ⟨h.own.kept hk (fun g hg => hm g (h.own.lt hg).1 (h.own.lt hg).2.1), fun x hx => (h.st x hx).kept hk (fun g hg => hm g ((h.st x hx).lt hg).1 ((h.st x hx).lt hg).2.1)⟩
theorem OwnD.row {w : World} {base : Nat} {v : Value} {xs : List DV} (h : OwnD w base v xs) : RowD w v (xs.map (·.1)) := by
  obtain ⟨a, c, rfl, hc⟩ := h.own.slice
  refine ⟨a, c, by simp, by simpa using hc, fun i hi => ?_⟩
  have hi' : i < xs.length := by simpa using hi
  obtain ⟨g, c', he, hg, hat⟩ := h.own.at hi'
  injection he with he1 he2 he3
  subst he1
  refine ⟨g, 0, xs[i].2, rfl, ?_, ?_⟩
  · rw [List.getElem_map, Nat.zero_add]; exact hat
  · rw [List.getElem_map]; exact ((h.st xs[i] (List.getElem_mem hi')).row).mono (fun _ _ => trivial)
theorem info_del : (Tryz.prog.info? 34).map (fun i => (i.zero, i.size, i.bytes)) = some (some (.agg #[.string ⟨#[]⟩, .string ⟨#[]⟩, .int .i64 0, .slice none 0 0]), 4, 64) := by kernel_rfl
/-- What a list of the call's own is behind a turn of another one. -/
theorem OwnS.turnP {w w' : World} {base : Nat} {v : Value} {xs : List DV} {u : Value} {l : List DSt} (h : OwnS w base u l) (hv : OwnP w base v xs) (k : Kept (fun k => v.ownBlock = some k) w w') : OwnS w' base u l := by
  refine h.kept k (fun g hg e => ?_)
  obtain ⟨_, _, cur, hc⟩ := hv.lt e
  exact own_ne h hc (by decide) hg
theorem one_flat {ys : List DV} (h1 : ∀ y ∈ ys, y.2.oneCell' = true) : ∀ u ∈ flatD ys, u.oneCell' = true := by
  intro u hu
  unfold flatD at hu
  obtain ⟨q, hq, hu⟩ := List.mem_flatten.1 hu
  obtain ⟨y, hy, rfl⟩ := List.mem_map.1 hq
  simp [dlC] at hu
  rcases hu with rfl | rfl | rfl | rfl
  · rfl
  · rfl
  · rfl
  · exact h1 y hy
/-- The cells of a part of a list of the call's own. -/
theorem OwnP.part {w : World} {base g n c : Nat} {xs : List DV} (h : OwnP w base (.slice (some ⟨g, 0, none⟩) n c) xs) (k m : Nat) : ∀ j u, (flatD ((xs.drop k).take m))[j]? = some u → w.cell? ((⟨g, k * 4, none⟩ : Addr).add j) = some u := by
  intro j u hj
  have C := World.ownsRow.cells h (g := g) rfl
  by_cases hk : k ≤ xs.length
  · have e : flatD xs = flatD (xs.take k) ++ (flatD ((xs.drop k).take m) ++ flatD ((xs.drop k).drop m)) := by
      rw [← flatD_append, List.take_append_drop, ← flatD_append, List.take_append_drop]
    have hl : (flatD (xs.take k)).length = k * 4 := by rw [flatD_len, List.length_take]; omega
    have hjl := (List.getElem?_eq_some_iff.1 hj).1
    have := C (k * 4 + j) u (by rw [e, List.getElem?_append_right (by omega), hl, Nat.add_sub_cancel_left, List.getElem?_append_left hjl]; exact hj)
    rw [addr_add0] at this
    have ea : (⟨g, k * 4, none⟩ : Addr).add j = ⟨g, k * 4 + j, none⟩ := by unfold Addr.add; split <;> simp_all
    rw [ea]
    exact this
  · rw [List.drop_of_length_le (by omega)] at hj
    simp [flatD] at hj
theorem OwnP.nilAt (w : World) (g : Nat) (h : w.heap[g]? = some (.cells #[] 34 (0, 0))) (base : Nat) (hb : base ≤ g) : OwnP w base (.slice (some ⟨g, 0, none⟩) 0 0) [] :=
  ⟨rfl, .inr ⟨g, 0, #[], rfl, hb, h, Nat.le_refl _, by unfold maxLen; omega, rfl, rfl⟩⟩
/-- A delta is put into a box of zero. -/
abbrev putD (w : World) (p : Nat) (d : DD) (v : Value) : World := (((w.setCell ⟨p, 0, none⟩ (.string ⟨d.bm.toArray⟩)).setCell ⟨p, 1, none⟩ (.string ⟨d.mm.toArray⟩)).setCell ⟨p, 2, none⟩ (.int .i64 d.n)).setCell ⟨p, 3, none⟩ v
section
variable {P : Program}
/-- Deltas behind others of the call's own. -/
theorem append_dels {w : World} {ops : Array Oper} {rest : List Oper} {o : Oper} {a : Act} {Q : Exit → Act → World → Prop} (hgd : o.guard = none) (s x : Operand) (t : TypeId) (z : Value)
    (ho : o.op = .call { callee := .builtin .append, args := #[s, x], argTypes := #[t, t] }) (ht : P.underlying t = some (.slice 34))
    (hinfo : (P.info? 34).map (fun i => (i.zero, i.size, i.bytes)) = some (some z, 4, 64)) (hz : z.cells.size = 4)
    (base : Nat) (v : Value) (l : List DV) (ys : List DV) (ad : Addr) (m c : Nat) (hm : m = ys.length) (hs : a.eval s = v) (hown : OwnP w base v l) (hx : a.eval x = .slice (some ad) m c)
    (hnews : ∀ j u, (flatD ys)[j]? = some u → w.cell? (ad.add j) = some u) (h1 : ∀ y ∈ ys, y.2.oneCell' = true)
    (hlen : l.length + ys.length ≤ 2000000) (hbase : base ≤ w.heap.size)
    (h : ∀ v' w', OwnP w' base v' (l ++ ys) → TurnS base w v w' v' → wpList P ops Q rest (a.put o.dst v') w') :
    wpList P ops Q (o :: rest) a w := by
  obtain ⟨i0, hi, hz0, hz1, hz2⟩ := info_parts hinfo
  subst hm
  refine wpList_append_own_at _ hgd s x t ho base _ i0 z 4 64 ht hi hz0 hz1 hz2 hz (by decide) v l.length (flatD l) hs hown ad ys.length c (flatD ys) hx (flatD_len ys) hnews ?_ (by unfold maxLen; omega) (by omega) hbase ?_
  · intro u hu
    unfold flatD at hu
    obtain ⟨q, hq, hu⟩ := List.mem_flatten.1 hu
    obtain ⟨y, hy, rfl⟩ := List.mem_map.1 hq
    simp [dlC] at hu
    rcases hu with rfl | rfl | rfl | rfl
    · rfl
    · rfl
    · rfl
    · exact h1 y hy
  · intro v' w' hown' hg _ hat
    refine h v' w' ?_ ⟨(Below.refl base w).grown hg hbase (fun k hk => (World.ownsRow.lt hown k hk).1), ⟨hg.os, hg.tape, hg.output, hg.size, fun k hk hm => hg.block k hk (fun he => hm he.symm)⟩, fun g' hg' => ?_⟩
    · unfold OwnP
      rw [flatD_append, List.length_append]
      exact hown'
    · rcases hat with h | h
      · exact .inl (by rw [← h]; exact hg')
      · right
        rw [hg'] at h
        simp at h
        omega
/-- The same as one step of a region that draws its order. -/
theorem step_dels {w : World} {ops : Array Oper} {o : Oper} {a : Act} {K : Act → World → Prop} {Q : Exit → Act → World → Prop} {E : Prop} (hgd : o.guard = none) (s x : Operand) (t : TypeId) (z : Value)
    (ho : o.op = .call { callee := .builtin .append, args := #[s, x], argTypes := #[t, t] }) (ht : P.underlying t = some (.slice 34))
    (hinfo : (P.info? 34).map (fun i => (i.zero, i.size, i.bytes)) = some (some z, 4, 64)) (hz : z.cells.size = 4)
    (base : Nat) (v : Value) (l : List DV) (ys : List DV) (ad : Addr) (m c : Nat) (hs : a.eval s = v) (hown : OwnP w base v l) (hx : a.eval x = .slice (some ad) m c) (hm : m = ys.length)
    (hnews : ∀ j u, (flatD ys)[j]? = some u → w.cell? (ad.add j) = some u) (h1 : ∀ y ∈ ys, y.2.oneCell' = true)
    (hlen : l.length + ys.length ≤ 2000000) (hbase : base ≤ w.heap.size)
    (h : ∀ v' w', OwnP w' base v' (l ++ ys) → TurnS base w v w' v' → K (a.put o.dst v') w') :
    if Region.wanted o (yielded ops a.tmps) = true then Oper.wp P o a w K Q else E := by
  have hw : Region.wanted o (yielded ops a.tmps) = true := by simp [Region.wanted, hgd]
  rw [if_pos hw]
  obtain ⟨i0, hi, hz0, hz1, hz2⟩ := info_parts hinfo
  subst hm
  obtain ⟨v', w', hrun, hown', hg, _, hat⟩ := run_append_own_at (P := P) w base t o.type _ i0 z 4 64 ht hi hz0 hz1 hz2 hz (by decide) v l.length (flatD l) hown ad ys.length c (flatD ys) (flatD_len ys) hnews (one_flat h1) (by unfold maxLen; omega) (by omega) hbase
  unfold Oper.wp execOp
  simp only [ho, resolve, invoke, builtin, Sem.run_bind, Sem.run_pure, Result.andThen_ok, List.map_toArray, List.map_cons, List.map_nil, hs, hx, hrun]
  refine h v' w' ?_ ⟨(Below.refl base w).grown hg hbase (fun k hk => (World.ownsRow.lt hown k hk).1), ⟨hg.os, hg.tape, hg.output, hg.size, fun k hk hm => hg.block k hk (fun he => hm he.symm)⟩, fun g' hg' => ?_⟩
  · unfold OwnP
    rw [flatD_append, List.length_append]
    exact hown'
  · rcases hat with h | h
    · exact .inl (by rw [← h]; exact hg')
    · right
      rw [hg'] at h
      simp at h
      omega
/-- One that was built behind others of the call's own. -/
theorem append_del {w : World} {ops : Array Oper} {rest : List Oper} {o : Oper} {a : Act} {Q : Exit → Act → World → Prop} (hgd : o.guard = none) (s x : Operand) (t : TypeId) (z : Value)
    (ho : o.op = .call { callee := .builtin .append, args := #[s, x], argTypes := #[t, t] }) (ht : P.underlying t = some (.slice 34))
    (hinfo : (P.info? 34).map (fun i => (i.zero, i.size, i.bytes)) = some (some z, 4, 64)) (hz : z.cells.size = 4)
    (base : Nat) (v : Value) (l : List DV) (y : DV) (hs : a.eval s = v) (hown : OwnD w base v l) (hst : OwnS w base y.2 y.1.l) (hx : a.eval x = .slice (some ⟨w.heap.size, 0, none⟩) 1 1)
    (hlen : l.length + 1 ≤ 2000000) (hbase : base ≤ w.heap.size)
    (h : ∀ v' w', OwnD w' base v' (l ++ [y]) → TurnS base w v w' v' → wpList P ops Q rest (a.put o.dst v') w') :
    wpList P ops Q (o :: rest) a (w.alloc (.cells #[.string ⟨y.1.bm.toArray⟩, .string ⟨y.1.mm.toArray⟩, .int .i64 y.1.n, y.2] 34)) := by
  have hw := below_self_alloc w (delO y.1.bm y.1.mm y.1.n y.2)
  have hg0 := heap_alloc_new w (delO y.1.bm y.1.mm y.1.n y.2)
  obtain ⟨d0, d1, d2, d3⟩ := delO_cells hg0
  obtain ⟨ya, ym, yc, hy⟩ := own_slice hst
  have hsz := hw.size
  refine append_dels hgd s x t z ho ht hinfo hz base v l [y] ⟨w.heap.size, 0, none⟩ 1 1 rfl hs (hown.own.new hw) hx ?_ ?_ hlen (Nat.le_trans hbase hsz) ?_
  · intro j u hj
    rw [flatD_one] at hj
    rw [addr_add0]
    match j, hj with
    | 0, hj => simp [dlC] at hj; subst hj; exact d0
    | 1, hj => simp [dlC] at hj; subst hj; exact d1
    | 2, hj => simp [dlC] at hj; subst hj; exact d2
    | 3, hj => simp [dlC] at hj; subst hj; exact d3
  · intro q hq
    simp at hq
    subst hq
    rw [hy]; rfl
  · intro v' w' ho' ht'
    have hv := hown.own.new hw
    refine h v' w' ⟨ho', fun q hq => ?_⟩ ?_
    · rcases List.mem_append.1 hq with hq | hq
      · exact ((hown.st q hq).new hw).turnP hv ht'.kept
      · simp at hq
        subst hq
        exact (hst.new hw).turnP hv ht'.kept
    · exact (TurnS.new (TurnS.refl base w v) hw hbase).trans ht'
end
end Go.Proofs.YtpkgjokehgihjaaGreat
/- Plain mathematics of rows: deltas between texts, one behind the other; composed, folded, run. Of no program. -/
set_option linter.unusedVariables false
namespace Go.Proofs.YtpkgjokehgihjaaGreat
open Go.RowKit

/-- A delta that makes s of l, in a book that has numbered S. -/
structure DMk (S : List Txt) (l s : Txt) (d : DD) : Prop where
  bm : d.bm = numM (noS S l)
  mm : d.mm = numM (noS S s)
  n : d.n = s.length
  good : goodS l.length d.l
  out : outS l d.l = s
  ll : l.length ≤ 524288
  sl : s.length ≤ 524288
section
variable {S : List Txt} {l s t : Txt} {a b d : DD}
theorem DMk.sum (h : DMk S l s d) : (d.l.map mkS).sum = (s.length : Int) := by rw [sum_good d.l h.good, h.out]
theorem DMk.bl (h : DMk S l s d) : d.bm.length = 32 := by rw [h.bm]; exact numM_length _
theorem DMk.ml (h : DMk S l s d) : d.mm.length = 32 := by rw [h.mm]; exact numM_length _
theorem DMk.right (h : DMk S l s d) : d.right = true := by
  unfold DD.right rightD
  have h1 := h.sl
  simp only [Bool.and_eq_true, decide_eq_true_eq, List.all_eq_true]
  exact ⟨⟨⟨⟨h.bl, h.ml⟩, by rw [h.n]; omega⟩, fun x hx => (h.good x hx).1⟩, by rw [h.sum, h.n]⟩
theorem DMk.ok (h : DMk S l s d) : d.Ok := ok_right h.right
theorem DMk.inr (h : DMk S l s d) : InR (bytesA d.l) l.length := inR_good h.good
theorem DMk.bytes (h : DMk S l s d) : outT l (bytesA d.l) = s := by rw [← out_bytes d.l h.good, h.out]
theorem DMk.blen (h : DMk S l s d) : (bytesA d.l).length = s.length := by have := congrArg List.length h.bytes; unfold outT at this; simpa using this
theorem DMk.of {B : List BT} {bm mm : Txt} (h1 : bm = numM (noS S l)) (h2 : mm = numM (noS S s)) (hr : InR B l.length) (ho : outT l B = s) (ll : l.length ≤ 524288) (sl : s.length ≤ 524288) : DMk S l s ⟨bm, mm, s.length, stepsB B⟩ := by
  have hg := steps_good ll hr
  exact ⟨h1, h2, rfl, hg, by rw [out_bytes _ hg, bytes_steps, ho], ll, sl⟩
theorem DMk.tid (h : DMk S l s d) : DMk S l s (tidR d) := by
  have h1 := DMk.of h.bm h.mm h.inr h.bytes h.ll h.sl
  unfold tidR
  rw [h.n]
  exact h1
/-- The two as one. -/
def cmpD (a b : DD) : DD := ⟨a.bm, b.mm, b.n, stepsB (compB (bytesA a.l) (bytesA b.l))⟩
theorem DMk.reach (h : DMk S l s d) : reachS d.l ≤ l.length := (reach_iff _ d.l (fun x hx => (h.good x hx).1)).2 h.inr
theorem DMk.comp (h : DMk S l s a) (k : DMk S s t b) : compR a b = (cmpD a b, 0) := by
  unfold compR
  rw [if_neg (by rw [h.right, k.right]; simp), if_neg (by rw [h.mm, k.bm]; simp), if_neg (by rw [h.n]; exact fun c => c k.reach)]
  rfl
theorem DMk.cmp (h : DMk S l s a) (k : DMk S s t b) : DMk S l t (cmpD a b) := by
  have hr : InR (bytesA b.l) (bytesA a.l).length := by rw [h.blen]; exact k.inr
  have h1 := DMk.of (B := compB (bytesA a.l) (bytesA b.l)) h.bm k.mm (comp_inR h.inr hr) (by rw [← outT_comp hr, h.bytes, k.bytes]) h.ll k.sl
  unfold cmpD
  rw [k.n]
  exact h1
end
/-- A row from one text to another one. -/
inductive RowTo (S : List Txt) : Txt → Txt → List DD → Prop
  | nil (l : Txt) : RowTo S l l []
  | cons {l s t : Txt} {d : DD} {ds : List DD} : s ∈ S → DMk S l s d → RowTo S s t ds → RowTo S l t (d :: ds)
theorem fold_row {S : List Txt} {s t : Txt} {ds : List DD} (h : RowTo S s t ds) : ∀ {l : Txt} {d : DD}, DMk S l s d → (foldG d ds).2 = 0 ∧ DMk S l t (foldG d ds).1 := by
  induction h with
  | nil l => intro l' d hd; exact ⟨rfl, hd⟩
  | @cons l s t d ds _ hd _ ih =>
    intro l' d' hd'
    have e := hd'.comp hd
    have e2 : foldG d' (d :: ds) = if (compR d' d).2 ≠ 0 then (ddZ, (compR d' d).2) else foldG (compR d' d).1 ds := rfl
    rw [e2, e, if_neg (by simp)]
    exact ih (hd'.cmp hd)
theorem foldR_row {S : List Txt} {l t : Txt} {ds : List DD} (h : RowTo S l t ds) (hne : ds ≠ []) : (foldR ds).2 = 0 ∧ DMk S l t (foldR ds).1 := by
  cases h with
  | nil => exact absurd rfl hne
  | @cons _ s _ d ds _ hd hds =>
    have e2 : foldR (d :: ds) = if d.right = false then (ddZ, 1) else foldG (tidR d) ds := rfl
    rw [e2, if_neg (by rw [hd.right]; simp)]
    exact fold_row hds hd.tid
/-! ### Run -/
theorem DMk.apply {S : List Txt} {l s : Txt} {d : DD} (h : DMk S l s d) {is : Txt → Txt → Bool} (hb : is l d.bm = true) (hm : is s d.mm = true) : applyS is l d.bm d.mm d.n d.l = (0, s) := by
  unfold applyS
  have h2 := h.sl
  rw [show rightD d.bm d.mm d.n d.l = true from h.right, if_neg (by simp), hb, if_neg (by simp), run_good d.l [] h.good (by rw [h.out]; simpa using h2), h.out, List.nil_append, if_neg (by simp), if_pos hm]
theorem DMk.wrong {S : List Txt} {l s : Txt} {d : DD} (h : DMk S l s d) {is : Txt → Txt → Bool} {o : Txt} (hb : is o d.bm = false) : applyS is o d.bm d.mm d.n d.l = (13, []) := by
  unfold applyS
  rw [show rightD d.bm d.mm d.n d.l = true from h.right, if_neg (by simp), hb, if_pos rfl]
def runC (is : Txt → Txt → Bool) : Txt → Int → List DD → Txt × Int × Int
  | s, i, [] => (s, i, 0)
  | s, i, d :: ds => if (applyS is s d.bm d.mm d.n d.l).1 ≠ 0 then ([], i, (applyS is s d.bm d.mm d.n d.l).1) else runC is (applyS is s d.bm d.mm d.n d.l).2 (i + 1) ds
theorem run_row {S : List Txt} {l t : Txt} {ds : List DD} (h : RowTo S l t ds) (hS : S.length ≤ 10000) : ∀ (hl : l ∈ S) (i : Int) (es : List DD), runC (isS S) l i (ds ++ es) = runC (isS S) t (i + ds.length) es := by
  induction h with
  | nil l => intro _ i es; simp
  | @cons l s t d ds hs hd hds ih =>
    intro hl i es
    have hb : isS S l d.bm = true := by rw [hd.bm, isS_one hl hS, decide_eq_true rfl]
    have hm : isS S s d.mm = true := by rw [hd.mm, isS_one hs hS, decide_eq_true rfl]
    have e := hd.apply hb hm
    show (if (applyS (isS S) l d.bm d.mm d.n d.l).1 ≠ 0 then _ else runC (isS S) (applyS (isS S) l d.bm d.mm d.n d.l).2 (i + 1) (ds ++ es)) = _
    rw [e, if_neg (by simp), ih hs, List.length_cons]
    congr 1
    push_cast
    omega
theorem run_all {S : List Txt} {l t : Txt} {ds : List DD} (h : RowTo S l t ds) (hS : S.length ≤ 10000) (hl : l ∈ S) : runC (isS S) l 0 ds = (t, (ds.length : Int), (0 : Int)) := by
  have := run_row h hS hl 0 []
  rw [List.append_nil] at this
  rw [this]
  simp [runC]
theorem run_stop {S : List Txt} {l t o s : Txt} {ds es : List DD} {d : DD} (h : RowTo S l t ds) (hS : S.length ≤ 10000) (hl : l ∈ S) (hd : DMk S o s d) (ho : o ∈ S) (hne : t ≠ o) : runC (isS S) l 0 (ds ++ d :: es) = (([] : Txt), (ds.length : Int), (13 : Int)) := by
  rw [run_row h hS hl]
  have e := hd.wrong (is := isS S) (o := t) (by rw [hd.bm, isS_one ho hS, decide_eq_false hne])
  show (if (applyS (isS S) t d.bm d.mm d.n d.l).1 ≠ 0 then _ else _) = _
  rw [e, if_pos (by simp)]
  simp
/-! ### The deltas between texts -/
def dOf (S : List Txt) (B : Nat) (l s : Txt) : DD := ⟨numM (noS S l), numM (noS S s), s.length, stepsI B l s⟩
def rowL (S : List Txt) (B : Nat) : List Txt → List DD
  | l :: s :: r => dOf S B l s :: rowL S B (s :: r)
  | _ => []
theorem rowL_snoc (S : List Txt) (B : Nat) (a b : Txt) : ∀ xs : List Txt, rowL S B (xs ++ [a, b]) = rowL S B (xs ++ [a]) ++ [dOf S B a b]
  | [] => rfl
  | [x] => rfl
  | x :: y :: r => by
    have := rowL_snoc S B a b (y :: r)
    show dOf S B x y :: rowL S B (y :: r ++ [a, b]) = (dOf S B x y :: rowL S B (y :: r ++ [a])) ++ [dOf S B a b]
    rw [this]; rfl
theorem rowL_len (S : List Txt) (B : Nat) : ∀ xs : List Txt, (rowL S B xs).length = xs.length - 1
  | [] => rfl
  | [x] => rfl
  | x :: y :: r => by
    have := rowL_len S B (y :: r)
    show (rowL S B (y :: r)).length + 1 = _
    rw [this]; simp
theorem rowL_congr {S S' : List Txt} (B : Nat) : ∀ xs : List Txt, (∀ t ∈ xs, noS S' t = noS S t) → rowL S' B xs = rowL S B xs
  | [], _ => rfl
  | [x], _ => rfl
  | x :: y :: r, h => by
    have := rowL_congr B (y :: r) (fun t ht => h t (List.mem_cons_of_mem _ ht))
    show dOf S' B x y :: rowL S' B (y :: r) = dOf S B x y :: rowL S B (y :: r)
    rw [this]
    unfold dOf
    rw [h x (by simp), h y (by simp)]
theorem dOf_mk (S : List Txt) {B : Nat} (hb : 16 ≤ B) {l s : Txt} (hl : l.length ≤ 1000) (hs : s.length ≤ 1000) : DMk S l s (dOf S B l s) := by
  have h := stepsI_back hb l s (by omega)
  exact ⟨rfl, rfl, rfl, h.good, h.out, by omega, by omega⟩
theorem rowL_row (S : List Txt) {B : Nat} (hb : 16 ≤ B) : ∀ (xs : List Txt) (x : Txt), (∀ t ∈ x :: xs, t ∈ S ∧ t.length ≤ 1000) → RowTo S x (xs.getLastD x) (rowL S B (x :: xs))
  | [], x, h => .nil x
  | y :: r, x, h => by
    have := rowL_row S hb r y (fun t ht => h t (List.mem_cons_of_mem _ ht))
    have hx := h x (by simp)
    have hy := h y (by simp)
    rw [List.getLastD_cons]
    exact .cons hy.1 (dOf_mk S hb hx.2 hy.2) this
theorem rowL_get (S : List Txt) (B : Nat) : ∀ (xs : List Txt) (i : Nat) (h : i < (rowL S B xs).length), (rowL S B xs)[i] = dOf S B (xs.getD i []) (xs.getD (i + 1) [])
  | [], i, h => by simp [rowL] at h
  | [x], i, h => by simp [rowL] at h
  | x :: y :: r, i, h => by
    cases i with
    | zero => rfl
    | succ i =>
      have := rowL_get S B (y :: r) i (by simpa [rowL] using h)
      exact this
end Go.Proofs.YtpkgjokehgihjaaGreat
/- The walk of chain's Run, by any book that is asked. -/
set_option linter.unusedVariables false
namespace Go.Proofs.YtpkgjokehgihjaaGreat
open Go.RowKit

theorem apply_len (is : Txt → Txt → Bool) (basis bm mm : Txt) (n : Int) (l : List DSt) : (applyS is basis bm mm n l).2.length ≤ 524288 := by
  have h := run_len (basis := basis) l [] (by simp)
  unfold applyS
  split
  · simp
  · split
    · simp
    · split
      · simp
      · split
        · exact h
        · simp
set_option maxRecDepth 100000 in
set_option maxHeartbeats 1000000 in
theorem runCh_any {nn pb : Nat} {At : World → Prop} {is : Txt → Txt → Bool} (A : AskI nn pb At is) (hn1 : 1000000 ≤ nn) (hn2 : nn ≤ 140737488351232) (s : Txt) (v : Value) (ds : List DD) (w : World) (h : RowD w v ds) (hok : ∀ d ∈ ds, d.Ok) (hl : ds.length ≤ 1000000) (hs : s.length ≤ 524288) (hAt : At w) :
    Calls Tryz.prog 8 #[.pointer (some ⟨pb, 0, none⟩), .string ⟨s.toArray⟩, v] w fun e w' => e = .returned (.tuple #[.string ⟨(runC is s 0 ds).1.toArray⟩, .int .i64 (runC is s 0 ds).2.1, .int .i64 (runC is s 0 ds).2.2]) ∧ Below w.heap.size w w' := by
  have HD := Lib.hid h
  have HOK := Lib.hid hok
  have HA := Lib.hid A
  have HAT := Lib.hid hAt
  have HRC := Lib.hid (show runC is s 0 ds = runC is s 0 ds from rfl)
  generalize hres : runC is s 0 ds = res at *
  obtain ⟨a, c, rfl, hlc, _⟩ := h
  clear hAt A hok
  go_enter Tryz.func8, Tryz.ntmps8
  go_wp2_with fail
  refine (rclone_any s _ (by omega)).mono ?_
  rintro e w1 ⟨rfl, b1⟩
  have B1 := Lib.hid b1
  clear b1
  go_wp2_with fail
  go_loopw [9, 17] (fun sv i wr => ∃ (k : Nat) (t : Txt), k ≤ ds.length ∧ i = .int .i64 k ∧ sv = .string ⟨t.toArray⟩ ∧ t.length ≤ 524288 ∧ Hid (runC is t k (ds.drop k) = res) ∧ Below w.heap.size w wr) (fun _ i _ => ds.length - (intOf i).toNat)
  case atStart => exact ⟨0, s, by omega, rfl, rfl, hs, Lib.hid hres, B1.out⟩
  case round =>
    obtain ⟨k, t, hk, rfl, rfl, ht, HF, hbel⟩ := hrel
    have HB := Lib.hid hbel
    clear hbel
    by_cases hlt : k < ds.length
    · obtain ⟨a', c', he, _, hd⟩ := HD.out.keep HB.out
      injection he with he1 he2 he3
      subst he1
      clear he2 he3
      obtain ⟨g, o, vi, rfl, hat, hri⟩ := hd k hlt
      have okx := HOK.out ds[k] (List.getElem_mem _)
      have HF2 := Lib.hid HF.out
      rw [List.drop_eq_getElem_cons hlt] at HF2
      generalize ds[k] = x at *
      obtain ⟨bmx, mmx, nx, lx⟩ := x
      obtain ⟨c0, c1, c2, c3⟩ := hat
      obtain ⟨via, vic, hvi⟩ := hri.slice
      subst hvi
      dsimp only at c0 c1 c2 c3 hri
      have bx := below_self_alloc wr (delO bmx mmx nx (.slice via lx.length vic))
      have HAX := Lib.hid (HA.out.new (HA.out.new HAT.out HB.out) bx)
      have AP := Lib.hid (applyD_any HA.out hn1 hn2 _ t bmx mmx nx (.slice via lx.length vic) lx _ (hri.keep bx) okx.st okx.len okx.b okx.m okx.n1 okx.n2 HAX.out (by omega) (fun _ => by omega))
      have HF3 := Lib.hid (show (if (applyS is t bmx mmx nx lx).1 ≠ 0 then (([] : Txt), (k : Int), (applyS is t bmx mmx nx lx).1) else runC is (applyS is t bmx mmx nx lx).2 (k + 1) (ds.drop (k + 1))) = res from HF2.out)
      have HTL := Lib.hid (apply_len is t bmx mmx nx lx)
      generalize applyS is t bmx mmx nx lx = ap at *
      obtain ⟨er, tx⟩ := ap
      dsimp only at HF3 HTL
      have HBX := Lib.hid (HB.out.trans (bx.mono HB.out.size))
      obtain ⟨t0, t1, t2, t3⟩ := delO_cells (heap_alloc_new wr (delO bmx mmx nx (.slice via lx.length vic)))
      have k0 : (0 : Int) ≤ (k : Int) := by omega
      have k1 : (k : Int) < (ds.length : Int) := by omega
      clear HF HF2 bx hri HB okx hd HAX
      go_wp2_with fail
      generalize wr.alloc (.cells #[.string ⟨bmx.toArray⟩, .string ⟨mmx.toArray⟩, .int .i64 nx, .slice via lx.length vic] 34) = wx at *
      refine AP.out.mono ?_
      rintro e w4 ⟨rfl, b4⟩
      have HB4 := Lib.hid (HBX.out.trans (b4.mono HBX.out.size))
      clear b4 HBX AP t0 t1 t2 t3 c0 c1 c2 c3
      by_cases hz : er = 0
      · have q0 : (er != 0) = false := by simp [hz]
        have HFN := Lib.hid (show runC is tx (k + 1) (ds.drop (k + 1)) = res by rw [← HF3.out]; exact (if_neg (fun h => h hz)).symm)
        have hlx := HTL.out
        clear HF3
        go_wp2_with fail
        go_roundw
        case rel => exact ⟨k + 1, tx, by omega, by go_num, rfl, hlx, Lib.hid (by push_cast; exact HFN.out), HB4.out⟩
        case measure => simp [intOf]; omega
      · have q0 : (er != 0) = true := by simp [hz]
        have HFN := Lib.hid (show (([] : Txt), (k : Int), er) = res by rw [← HF3.out]; exact (if_pos hz).symm)
        clear HF3
        go_wp2_with fail
        go_ret3
        rw [← HFN.out]
        exact ⟨rfl, HB4.out⟩
    · obtain rfl : k = ds.length := by omega
      have j1 : ¬ (ds.length : Int) < (ds.length : Int) := by omega
      have HFN := Lib.hid (show (t, (ds.length : Int), (0 : Int)) = res by rw [← HF.out, List.drop_length]; rfl)
      clear HF
      go_wp2_with fail
      go_ret3
      rw [← HFN.out]
      exact ⟨rfl, HB.out⟩
end Go.Proofs.YtpkgjokehgihjaaGreat
/- The walk of the law's few: at most six texts of at most 1000 bytes. -/
set_option linter.unusedVariables false
namespace Go.Proofs.YtpkgjokehgihjaaGreat
open Go.RowKit

def fewS (ts : List Txt) : List Txt := (ts.map (·.take 1000)).take 6
theorem fewS_len (ts : List Txt) : (fewS ts).length ≤ 6 := by unfold fewS; rw [List.length_take]; omega
theorem fewS_le (ts : List Txt) : ∀ t ∈ fewS ts, t.length ≤ 1000 := by
  intro t ht
  unfold fewS at ht
  obtain ⟨s, _, rfl⟩ := List.mem_map.1 (List.mem_of_mem_take ht)
  exact List.length_take_le _ _
abbrev encX (l : List UInt8) : Value := .string ⟨l.toArray⟩
set_option maxRecDepth 100000 in
set_option maxHeartbeats 1000000 in
theorem few7_any (N : Nat → Prop) (v : Value) (ts : List Txt) (w : World) (h : Row encX N w v ts) :
    Calls Tryz.prog 4 #[v] w fun e w' => ∃ v', e = .returned v' ∧ OwnL encX w' w.heap.size 9 v' (fewS ts) ∧ Below w.heap.size w w' := by
  have HR := Lib.hid h
  obtain ⟨a, c, rfl, _⟩ := h
  go_enter Tryz.func4, Tryz.ntmps4
  go_wp2_with fail
  go_loopw [3, 4] (fun v i wr => ∃ k : Nat, k ≤ ts.length ∧ k ≤ 6 ∧ i = .int .i64 k ∧ OwnL encX wr w.heap.size 9 v ((ts.map (·.take 1000)).take k) ∧ Below w.heap.size w wr) (fun _ i _ => 6 - (intOf i).toNat)
  case atStart => exact ⟨0, by omega, by omega, rfl, OwnL.nil _ _ _ _, Below.refl _ _⟩
  case round =>
    obtain ⟨k, hk, hk6, rfl, ho, hbel⟩ := hrel
    have Hown := Lib.hid ho
    have HB := Lib.hid hbel
    have hbw := hbel.size
    clear ho hbel
    obtain ⟨sa, sm, sc, hsv⟩ := own_slice Hown.out
    subst hsv
    have i0 : (0 : Int) ≤ (k : Int) := by omega
    by_cases hin : k < ts.length ∧ k < 6
    · obtain ⟨h1, h2⟩ := hin
      have i1 : (k : Int) < (ts.length : Int) := by omega
      have i2 : (k : Int) < 6 := by omega
      obtain ⟨a', c', he, hc⟩ := HR.out.grow HB.out
      injection he with he1 _ _
      subst he1
      obtain ⟨g, o, rfl, _, hcell⟩ := hc k h1
      have HT := Lib.hid (show (ts.map (·.take 1000)).take (k + 1) = (ts.map (·.take 1000)).take k ++ [ts[k].take 1000] by rw [List.take_succ_eq_append_getElem (by simpa using h1), List.getElem_map])
      have hlen : ((ts.map (·.take 1000)).take k).length ≤ 6 := by rw [List.length_take]; omega
      generalize ts[k] = t at *
      generalize (ts.map (·.take 1000)).take k = L at *
      have SL := Lib.hid (show (⟨t.toArray⟩ : ByteArray).size = t.length from rfl)
      by_cases hl : 1000 < t.length
      · have i3 : (1000 : Int) < (t.length : Int) := by omega
        have i4 : (1000 : Int) ≤ (t.length : Int) := by omega
        have HE := Lib.hid (show (⟨t.toArray⟩ : ByteArray).extract 0 1000 = ⟨(t.take 1000).toArray⟩ from take_toArray t 1000)
        generalize t.take 1000 = t2 at *
        go_wp2_with (at_builtin; (try rw [HE.out]); refine append_elem (enc := encX) (y := t2) rfl _ _ 22 9 (.string ByteArray.empty) 16 (by rfl) Tryz.underlying22 info_str rfl w.heap.size _ _ rfl (by rfl) Hown.out (by rfl) (by omega) (by unfold maxLen; omega) hbw ?_; intro v' w3 hown3 hb3 hk3; have HO3 := Lib.hid hown3; have HB3 := Lib.hid (HB.out.trans hb3); clear hown3 hb3 hk3)
        go_roundw
        case rel => exact ⟨k + 1, by omega, by omega, by go_num, by rw [HT.out]; exact HO3.out, HB3.out⟩
        case measure => simp [intOf]; omega
      · have i3 : ¬ (1000 : Int) < (t.length : Int) := by omega
        rw [List.take_of_length_le (show t.length ≤ 1000 by omega)] at HT
        go_wp2_with (at_builtin; refine append_elem (enc := encX) (y := t) rfl _ _ 22 9 (.string ByteArray.empty) 16 (by rfl) Tryz.underlying22 info_str rfl w.heap.size _ _ rfl (by rfl) Hown.out (by rfl) (by omega) (by unfold maxLen; omega) hbw ?_; intro v' w3 hown3 hb3 hk3; have HO3 := Lib.hid hown3; have HB3 := Lib.hid (HB.out.trans hb3); clear hown3 hb3 hk3)
        go_roundw
        case rel => exact ⟨k + 1, by omega, by omega, by go_num, by rw [HT.out]; exact HO3.out, HB3.out⟩
        case measure => simp [intOf]; omega
    · have HT := Lib.hid (show (ts.map (·.take 1000)).take k = fewS ts by
        unfold fewS
        by_cases c : k < ts.length
        · obtain rfl : k = 6 := by omega
          rfl
        · rw [List.take_of_length_le (by simp; omega), List.take_of_length_le (by simp; omega)])
      rw [HT.out] at Hown
      by_cases hl : k < ts.length
      · have i1 : (k : Int) < (ts.length : Int) := by omega
        have i2 : ¬ (k : Int) < 6 := by omega
        clear hin HT
        go_wp2_with fail
        go_ret
        exact ⟨_, rfl, Hown.out, HB.out⟩
      · have i1 : ¬ (k : Int) < (ts.length : Int) := by omega
        clear hin HT
        go_wp2_with fail
        go_ret
        exact ⟨_, rfl, Hown.out, HB.out⟩
end Go.Proofs.YtpkgjokehgihjaaGreat
/- The walk of the law's row: the deltas between texts, by an ideal book. -/
set_option linter.unusedVariables false
namespace Go.Proofs.YtpkgjokehgihjaaGreat
open Go.RowKit

/-! ### Plain mathematics -/
theorem row_step {S S' : List Txt} {B : Nat} {ts : List Txt} {j : Nat} (hj : j + 1 < ts.length) {xs : List DD} (hx : xs = rowL S B (ts.take (j + 1))) (hm : j = 0 ∨ ∀ t ∈ ts.take (j + 1), t ∈ S)
    (hl : ts[j] ∈ S') (hs : ts[j + 1] ∈ S') (hst : ∀ t ∈ S, t ∈ S' ∧ noS S' t = noS S t) : xs ++ [dOf S' B ts[j] ts[j + 1]] = rowL S' B (ts.take (j + 1 + 1)) ∧ ∀ t ∈ ts.take (j + 1 + 1), t ∈ S' := by
  have e1 : ts.take (j + 1) = ts.take j ++ [ts[j]] := List.take_succ_eq_append_getElem (by omega)
  have e2 : ts.take (j + 1 + 1) = ts.take (j + 1) ++ [ts[j + 1]] := List.take_succ_eq_append_getElem hj
  have e3 : ts.take (j + 1 + 1) = ts.take j ++ [ts[j], ts[j + 1]] := by rw [e2, e1, List.append_assoc]; rfl
  refine ⟨?_, fun t ht => ?_⟩
  · rw [e3, rowL_snoc, ← e1, hx]
    congr 1
    rcases hm with rfl | hm
    · rw [e1]; rfl
    · exact (rowL_congr B _ (fun t ht => (hst t (hm t ht)).2)).symm
  · rw [e3] at ht
    rcases List.mem_append.1 ht with ht | ht
    · rcases hm with rfl | hm
      · simp at ht
      · exact (hst t (hm t (by rw [e1]; exact List.mem_append.2 (.inl ht)))).1
    · simp at ht
      rcases ht with rfl | rfl
      · exact hl
      · exact hs
/-- Of the book alone: what it is and what turned. -/
def MB (pb bm : Nat) (k : Nat) : Prop := k = pb ∨ k = bm
structure RBox (wf w : World) (pb bm p6 base : Nat) (S' : List Txt) (y : DD) (vy vx : Value) (xs : List DV) : Prop where
  h6 : wf.heap[p6]? = some (y.o vy)
  ho : OwnS wf base vy y.l
  hd : OwnD wf base vx xs
  hi : IdealAt wf pb bm S'
  hk : Kept (MB pb bm) w wf
theorem row_new {w wr w6 : World} {pb bm base : Nat} {S' : List Txt} {y : DD} {vy vx : Value} {xs : List DV} (hkw : Kept (MB pb bm) w wr) (hk6 : Kept (MB pb bm) wr w6) (ho : OwnS w6 base vy y.l) (hd : OwnD wr base vx xs) (hi : IdealAt w6 pb bm S')
    (hpb : pb < base) (hbm : bm < base) : RBox (w6.alloc (y.o vy)) w pb bm w6.heap.size base S' y vy vx xs := by
  have b := below_self_alloc w6 (y.o vy)
  have k := hk6.trans (Kept.new b _)
  exact ⟨heap_alloc_new _ _, ho.new b, hd.kept k (fun g hg _ e => by rcases e with rfl | rfl <;> omega), hi.new b, hkw.trans k⟩
theorem row_put {w wr w6 : World} {pb bm p6 base : Nat} {S' : List Txt} {y : DD} {vy vx : Value} {xs : List DV} (hkw : Kept (MB pb bm) w wr) (hk6 : Kept (MB pb bm) wr w6) (h6 : w6.heap[p6]? = some (delO [] [] 0 (.slice none 0 0))) (ho : OwnS w6 base vy y.l) (hd : OwnD wr base vx xs) (hi : IdealAt w6 pb bm S')
    (hp : wr.heap.size ≤ p6) (hpb : pb < base) (hbm : bm < base) (hbw : base ≤ wr.heap.size) : RBox (putD w6 p6 y vy) w pb bm p6 base S' y vy vx xs := by
  obtain ⟨_, _, _, _, s4, s5⟩ := four_store h6 (.string ⟨y.bm.toArray⟩) (.string ⟨y.mm.toArray⟩) (.int .i64 y.n) vy
  have k : Kept (MB pb bm) wr (putD w6 p6 y vy) := hk6.step s5 (fun i hi e => by omega)
  exact ⟨s4, ho.kept s5 (fun g' hg' e => own_ne ho h6 (by decide) (e ▸ hg')), hd.kept k (fun g hg _ e => by rcases e with rfl | rfl <;> omega), hi.kept s5 (fun e => by omega) (fun e => by omega), hkw.trans k⟩
theorem with_rbox {A : World → Prop} {wf w : World} {pb bm p6 base : Nat} {S' : List Txt} {y : DD} {vy vx : Value} {xs : List DV} (h : Hid (RBox wf w pb bm p6 base S' y vy vx xs)) (k : ∀ wf', Hid (RBox wf' w pb bm p6 base S' y vy vx xs) → A wf') : A wf := k wf h

def RowPost (pb bm B : Nat) (ts : List Txt) (w : World) (e : Ending) (w' : World) : Prop :=
  ∃ v' S xs, e = .returned v' ∧ OwnD w' w.heap.size v' xs ∧ xs.map (·.1) = rowL S B ts ∧ (∀ t ∈ ts, t ∈ S) ∧ S.length ≤ 7000 ∧ IdealAt w' pb bm S ∧ Kept (MB pb bm) w w'
set_option maxRecDepth 100000 in
set_option maxHeartbeats 1000000 in
theorem row_any (pb bm B : Nat) (vl : Value) (ts : List Txt) (w : World) (hb : 16 ≤ B) (hb2 : B ≤ 1024) (h : Row encX (fun k => ¬ MB pb bm k) w vl ts) (hl : ts.length ≤ 6) (h2 : 2 ≤ ts.length) (ht : ∀ t ∈ ts, t.length ≤ 1000) (hI : IdealAt w pb bm []) :
    Calls Tryz.prog 7 #[.pointer (some ⟨pb, 0, none⟩), vl, .int .i64 B] w (RowPost pb bm B ts w) := by
  have HLT := hI.lt
  have HR := Lib.hid h
  have HTL := Lib.hid ht
  have HI := Lib.hid hI
  obtain ⟨a, c, rfl, hc⟩ := h
  obtain ⟨g, o, rfl, _⟩ := hc 0 (by omega)
  have HC := Lib.hid (fun w' (k : Kept (MB pb bm) w w') i (hi : i < ts.length) => show w'.cell? ⟨g, o + i, none⟩ = some (.string ⟨(ts[i]'hi).toArray⟩) by
    obtain ⟨a', c', he, hc'⟩ := HR.out.kept k (fun _ hn hm => hn hm)
    injection he with he1 he2 he3
    obtain ⟨g', o', he', _, hcell⟩ := hc' i hi
    rw [← he1] at he'
    injection he' with he'
    injection he' with e1 e2
    subst e1
    subst e2
    exact hcell)
  clear hc ht hI HR
  have hpb := HLT.1
  have hbm := HLT.2
  clear HLT
  go_enter Tryz.func7, Tryz.ntmps7
  go_wp2_with fail
  go_loopw [7, 8] (fun v i wr => ∃ (j : Nat) (S : List Txt) (xs : List DV), j + 1 ≤ ts.length ∧ i = .int .i64 ((j : Int) + 1) ∧ OwnD wr w.heap.size v xs ∧ Hid (xs.map (·.1) = rowL S B (ts.take (j + 1))) ∧ Hid (j = 0 ∨ ∀ t ∈ ts.take (j + 1), t ∈ S) ∧ Hid (S.length ≤ j * 1002) ∧ Hid (xs.length ≤ j) ∧ IdealAt wr pb bm S ∧ Kept (MB pb bm) w wr) (fun _ i _ => 7 - (intOf i).toNat)
  case atStart => exact ⟨0, [], [], by omega, rfl, OwnD.nil _ _, Lib.hid (by rw [List.take_succ_eq_append_getElem (by omega)]; rfl), Lib.hid (.inl rfl), Lib.hid (by simp), Lib.hid (by simp), HI.out, Kept.refl _ _⟩
  case round =>
    obtain ⟨j, S, xs, hj, rfl, hown, HX, HM, HSL, HXL, hid, hkw⟩ := hrel
    have HD := Lib.hid hown
    have HIr := Lib.hid hid
    have HKW := Lib.hid hkw
    have hbw := hkw.size
    clear hown hid hkw
    obtain ⟨sa, sm, sc, hsv⟩ := own_slice HD.out.own
    subst hsv
    by_cases hlt : j + 1 < ts.length
    · have i1 : (j : Int) + 1 < (ts.length : Int) := by omega
      have i2 : (0 : Int) ≤ (j : Int) := by omega
      have i3 : (j : Int) < (ts.length : Int) := by omega
      have i4 : (0 : Int) ≤ (j : Int) + 1 := by omega
      have hsl := HSL.out
      have hj7 : j * 1002 ≤ 5010 := by omega
      have htj := HTL.out ts[j] (List.getElem_mem _)
      have htj1 := HTL.out ts[j + 1] (List.getElem_mem _)
      have HSTEP := Lib.hid (fun S' => row_step (S := S) (S' := S') (B := B) (j := j) hlt HX.out HM.out)
      have HCr := Lib.hid (fun w' (k : Kept (MB pb bm) w w') => (⟨HC.out w' k j (by omega), HC.out w' k (j + 1) hlt⟩ : w'.cell? ⟨g, o + j, none⟩ = some (.string ⟨ts[j].toArray⟩) ∧ w'.cell? ⟨g, o + (j + 1), none⟩ = some (.string ⟨ts[j + 1].toArray⟩)))
      generalize ts[j] = tl at *
      generalize ts[j + 1] = tn at *
      have CP := fun w' (hI : IdealAt w' pb bm S) => Lib.hid (ofJ_ok pb bm B S tl tn w' hb hb2 (by omega) (by omega) hI (by omega))
      have bdr : Below wr.heap.size wr wr.drew := Below_drew (Below.refl _ _)
      have bA : Below wr.heap.size wr (wr.alloc (delO [] [] 0 (.slice none 0 0))).drew := Below_drew (below_self_alloc wr _)
      have KD := Lib.hid (Kept.new bdr (MB pb bm))
      have KA := Lib.hid (Kept.new bA (MB pb bm))
      have ID := Lib.hid (HIr.out.new bdr)
      have IA := Lib.hid (HIr.out.new bA)
      have XA : Hid ((wr.alloc (delO [] [] 0 (.slice none 0 0))).drew.heap[wr.heap.size]? = some (delO [] [] 0 (.slice none 0 0))) := Lib.hid (heap_alloc_new wr _)
      obtain ⟨c0, c1⟩ := HCr.out _ (HKW.out.trans KD.out)
      obtain ⟨c0A, c1A⟩ := HCr.out _ (HKW.out.trans KA.out)
      clear bdr bA HX HM HSL
      go_upto_region 5 with fail
      have W1 : IntKind.i64.wrap ((j : Int) + 1 - 1) = (j : Int) := by rw [IntKind.wrap_i64]; omega
      have W2 : IntKind.i64.wrap (j : Int) = (j : Int) := by rw [IntKind.wrap_i64]; omega
      go_region_held3 (fun w' => w'.cell? ⟨g, o + j, none⟩ = some (.string ⟨tl.toArray⟩) ∧ w'.cell? ⟨g, o + (j + 1), none⟩ = some (.string ⟨tn.toArray⟩))
        (first | with_reducible exact ⟨by assumption, by assumption⟩ | go_keep)
        (first | (go_at_call 12; go_split_ands; first
          | (refine (CP _ ID.out).out.mono ?_; rintro e w6 ⟨v', S2, rfl, ho, hi, hk, hln, hl2, hs2, hst⟩; obtain ⟨vca, vcm, vcc, rfl⟩ := own_slice ho; have HLN := Lib.hid hln; have HST := Lib.hid (HSTEP.out S2 hl2 hs2 hst); have hk6 := Lib.hid (KD.out.trans hk); have ML := Lib.hid hk6.out.size; have hoB := Lib.hid (ho.mono (show w.heap.size ≤ _ from Nat.le_trans hbw KD.out.size)); have hiB := Lib.hid hi; have b6 := below_self_alloc w6 (delO [] [] 0 (.slice none 0 0)); have x6 := Lib.hid (heap_alloc_new w6 (delO [] [] 0 (.slice none 0 0))); have FB2 := Lib.hid (row_new (y := ⟨numM (noS S2 tl), numM (noS S2 tn), tn.length, stepsI B tl tn⟩) HKW.out hk6.out hoB.out HD.out hiB.out hpb hbm); have hk6a := Lib.hid (hk6.out.trans (Kept.new b6 _)); have FB := Lib.hid (row_put (y := ⟨numM (noS S2 tl), numM (noS S2 tn), tn.length, stepsI B tl tn⟩) HKW.out hk6a.out x6.out (hoB.out.new b6) HD.out (hiB.out.new b6) ML.out hpb hbm hbw); obtain ⟨c0', c1'⟩ := HCr.out w6 (HKW.out.trans hk6.out); obtain ⟨c0'', c1''⟩ := HCr.out _ (HKW.out.trans hk6a.out); clear b6 ho hi hk hln hl2 hs2 hst; obtain ⟨⟨S0, S0f⟩, ⟨S1, S1f⟩, ⟨S2', S2f⟩, ⟨S3, S3f⟩, _, _⟩ := four_store x6.out (.string ⟨(numM (noS S2 tl)).toArray⟩) (.string ⟨(numM (noS S2 tn)).toArray⟩) (.int .i64 tn.length) (.slice vca vcm vcc); obtain ⟨c0f, c1f⟩ := HCr.out _ FB.out.hk; clear x6)
          | (refine (CP _ IA.out).out.mono ?_; rintro e w6 ⟨v', S2, rfl, ho, hi, hk, hln, hl2, hs2, hst⟩; obtain ⟨vca, vcm, vcc, rfl⟩ := own_slice ho; have HLN := Lib.hid hln; have HST := Lib.hid (HSTEP.out S2 hl2 hs2 hst); have hk6 := Lib.hid (KA.out.trans hk); have x6 := Lib.hid (hk.old XA.out (fun e => by rcases e with e | e <;> omega)); have FB := Lib.hid (row_put (y := ⟨numM (noS S2 tl), numM (noS S2 tn), tn.length, stepsI B tl tn⟩) HKW.out hk6.out x6.out (ho.mono (show w.heap.size ≤ _ from Nat.le_trans hbw KA.out.size)) HD.out hi (Nat.le_refl _) hpb hbm hbw); obtain ⟨c0', c1'⟩ := HCr.out w6 (HKW.out.trans hk6.out); clear ho hi hk hln hl2 hs2 hst; obtain ⟨⟨S0, S0f⟩, ⟨S1, S1f⟩, ⟨S2', S2f⟩, ⟨S3, S3f⟩, _, _⟩ := four_store x6.out (.string ⟨(numM (noS S2 tl)).toArray⟩) (.string ⟨(numM (noS S2 tn)).toArray⟩) (.int .i64 tn.length) (.slice vca vcm vcc); obtain ⟨c0f, c1f⟩ := HCr.out _ FB.out.hk; clear x6)))
      all_goals
        clear c0 c1 c0A c1A c0' c1' c0f c1f CP KD KA ID IA XA S0 S0f S1 S1f S2' S2f S3 S3f W1 W2
        first
          | (refine with_rbox FB2 ?_; clear FB2)
          | refine with_rbox FB ?_
        clear FB
        intro wf FB
        obtain ⟨e0, e1, e2, e3⟩ := delO_cells FB.out.h6
        have q0 : ((0 : Int) != 0) = false := rfl
        have hln := HLN.out
        have hxl := HXL.out
        have hbf := FB.out.hk.size
        have HOW := Lib.hid (fun k (e : (Value.slice sa sm sc).ownBlock = some k) => (FB.out.hd.own.lt e).1)
        go_wp2_with (at_builtin; refine append_del (w := wf) (by rfl) (.tmp 34) (.tmp 36) 27 _ (by rfl) Tryz.underlying27 info_del (by rfl) w.heap.size _ xs (⟨numM (noS S2 tl), numM (noS S2 tn), tn.length, stepsI B tl tn⟩, .slice vca vcm vcc) (by rfl) FB.out.hd FB.out.ho (by rfl) (by omega) hbf ?_; intro v' w8 hd8 ht8; obtain ⟨va8, vm8, vc8, rfl⟩ := own_slice hd8.own; have HD8 := Lib.hid hd8; have HI8 := Lib.hid (FB.out.hi.kept ht8.kept (fun e => by have := HOW.out _ e; omega) (fun e => by have := HOW.out _ e; omega)); have HK8 := Lib.hid (FB.out.hk.step ht8.kept (fun k hk e => by have := HOW.out _ e; omega)); clear hd8 ht8)
        go_roundw
        case rel => exact ⟨j + 1, S2, xs ++ [(⟨numM (noS S2 tl), numM (noS S2 tn), tn.length, stepsI B tl tn⟩, .slice vca vcm vcc)], by omega, by go_num, HD8.out, Lib.hid (by rw [List.map_append]; exact HST.out.1), Lib.hid (.inr HST.out.2), Lib.hid (by omega), Lib.hid (by rw [List.length_append]; simp; omega), HI8.out, HK8.out⟩
        case measure => simp [intOf]; omega
    · have i1 : ¬ (j : Int) + 1 < (ts.length : Int) := by omega
      have HTE := Lib.hid (show ts.take (j + 1) = ts from List.take_of_length_le (by omega))
      rw [HTE.out] at HX HM
      have hsl := HSL.out
      have hjj : 1 ≤ j := by omega
      go_wp2_with fail
      go_ret
      exact ⟨_, S, xs, rfl, HD.out, HX.out, fun t ht => HM.out.elim (fun e => absurd e (by omega)) (fun e => e t ht), by omega, HIr.out, HKW.out⟩
end Go.Proofs.YtpkgjokehgihjaaGreat
/- Plain mathematics: a row of deltas of which one is left out, run. Of no program. -/
set_option linter.unusedVariables false
namespace Go.Proofs.YtpkgjokehgihjaaGreat
open Go.RowKit

theorem rowL_append (S : List Txt) (B : Nat) (x : Txt) (R : List Txt) : ∀ A : List Txt, rowL S B (A ++ x :: R) = rowL S B (A ++ [x]) ++ rowL S B (x :: R)
  | [] => rfl
  | [a] => rfl
  | a :: b :: A => by
    have := rowL_append S B x R (b :: A)
    show dOf S B a b :: rowL S B (b :: A ++ x :: R) = dOf S B a b :: rowL S B (b :: A ++ [x]) ++ rowL S B (x :: R)
    rw [this]; rfl
theorem rowTo_snoc (S : List Txt) {B : Nat} (hb : 16 ≤ B) (x : Txt) (A : List Txt) (h : ∀ t ∈ A ++ [x], t ∈ S ∧ t.length ≤ 1000) : RowTo S ((A ++ [x]).headD []) x (rowL S B (A ++ [x])) := by
  cases A with
  | nil => exact .nil x
  | cons a A =>
    have := rowL_row S hb (A ++ [x]) a h
    rw [List.getLastD_concat] at this
    exact this
theorem last_get (L : List Txt) (x y : Txt) (A R : List Txt) (h : L = A ++ x :: y :: R) (h0 : L.length - 1 < L.length) : L[L.length - 1] = R.getLastD y := by
  have hne : L ≠ [] := by intro e; rw [e] at h0; simp at h0
  rw [← List.getLast_eq_getElem hne]
  subst h
  rw [List.getLast_append_of_ne_nil (by simp) (by simp), List.getLast_eq_getLastD, List.getLastD_cons]
theorem rowL_ok (S : List Txt) {B : Nat} (hb : 16 ≤ B) : ∀ L : List Txt, (∀ t ∈ L, t.length ≤ 1000) → ∀ d ∈ rowL S B L, d.Ok
  | [], _, d, hd => by simp [rowL] at hd
  | [x], _, d, hd => by simp [rowL] at hd
  | x :: y :: R, h, d, hd => by
    have hd' : d = dOf S B x y ∨ d ∈ rowL S B (y :: R) := List.mem_cons.1 hd
    rcases hd' with rfl | hd'
    · exact (dOf_mk S hb (h x (by simp)) (h y (by simp))).ok
    · exact rowL_ok S hb (y :: R) (fun t ht => h t (List.mem_cons_of_mem _ ht)) d hd'
theorem stops_math {S L : List Txt} {B r : Nat} (hb : 16 ≤ B) (hr : r + 2 < L.length) (hin : ∀ t ∈ L, t ∈ S ∧ t.length ≤ 1000) (hS : S.length ≤ 10000) :
    (L[r] = L[r + 1] → runC (isS S) L[0] 0 ((rowL S B L).take r ++ (rowL S B L).drop (r + 1)) = (L[L.length - 1], ((L.length - 2 : Nat) : Int), 0)) ∧
    (L[r] ≠ L[r + 1] → runC (isS S) L[0] 0 ((rowL S B L).take r ++ (rowL S B L).drop (r + 1)) = ([], (r : Int), 13)) := by
  obtain ⟨A, x, y, z, R, hL, hA⟩ : ∃ A x y z R, L = A ++ x :: y :: z :: R ∧ A.length = r := by
    refine ⟨L.take r, L[r], L[r + 1], L[r + 2], L.drop (r + 3), ?_, by rw [List.length_take]; omega⟩
    rw [← List.drop_eq_getElem_cons, ← List.drop_eq_getElem_cons, ← List.drop_eq_getElem_cons, List.take_append_drop]
  have ex : L[r] = x := by subst hL; subst hA; simp
  have ey : L[r + 1] = y := by subst hL; subst hA; simp
  have e0 : L[0] = (A ++ [x]).headD [] := by subst hL; cases A <;> rfl
  have el := last_get L x y A (z :: R) hL (by omega)
  have hlen : L.length - 2 = r + (R.length + 1) := by rw [hL]; simp; omega
  have hD : rowL S B L = rowL S B (A ++ [x]) ++ (dOf S B x y :: rowL S B (y :: z :: R)) := by rw [hL, rowL_append]; rfl
  have hDl : (rowL S B (A ++ [x])).length = r := by rw [rowL_len]; simp [hA]
  have e1 : (rowL S B L).take r = rowL S B (A ++ [x]) := by rw [hD, ← hDl, List.take_left']; rfl
  have e2 : (rowL S B L).drop (r + 1) = rowL S B (y :: z :: R) := by
    rw [hD, List.drop_append, List.drop_of_length_le (by omega), hDl, Nat.add_sub_cancel_left]; rfl
  have hx : ∀ t ∈ A ++ [x], t ∈ S ∧ t.length ≤ 1000 := fun t ht => hin t (by
    rw [hL]
    rcases List.mem_append.1 ht with h | h
    · exact List.mem_append.2 (.inl h)
    · simp at h; subst h; simp)
  have hy : ∀ t ∈ y :: z :: R, t ∈ S ∧ t.length ≤ 1000 := fun t ht => hin t (by rw [hL]; exact List.mem_append.2 (.inr (List.mem_cons_of_mem _ ht)))
  have h1 := rowTo_snoc S hb x A hx
  have h2 := rowL_row S hb (z :: R) y hy
  have hl0 : (A ++ [x]).headD [] ∈ S := by
    cases A with
    | nil => exact (hx x (by simp)).1
    | cons a A => exact (hx a (by simp)).1
  have hlz : (rowL S B (y :: z :: R)).length = R.length + 1 := by rw [rowL_len]; simp
  rw [ex, ey, e0, el, e1, e2, hlen]
  refine ⟨fun e => ?_, fun e => ?_⟩
  · subst e
    rw [run_row h1 hS hl0]
    have := run_row h2 hS (hx x (by simp)).1 (0 + ((rowL S B (A ++ [x])).length : Int)) []
    rw [List.append_nil] at this
    rw [this, hDl, hlz]
    simp [runC]
  · have := run_stop (es := rowL S B (z :: R)) h1 hS hl0 (dOf_mk S hb (hy y (by simp)).2 (hy z (by simp)).2) (hy y (by simp)).1 e
    rw [hDl] at this
    exact this
end Go.Proofs.YtpkgjokehgihjaaGreat

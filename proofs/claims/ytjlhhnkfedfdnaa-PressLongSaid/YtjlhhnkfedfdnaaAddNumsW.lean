/- press.addNums and press.addText: numbers' bytes, and a gathered piece, behind bytes of the call's own. -/
import Derived.Test.YtjlhhnkfedfdnaaCodeMath
import Derived.Test.YtjlhhnkfedfdnaaCodeNumW
import Derived.Test.YtjlhhnkfedfdnaaFrame
import Derived.Test.YtjlhhnkfedfdnaaGen
import Derived.Test.YtjlhhnkfedfdnaaInfos
import Derived.Test.YtjlhhnkfedfdnaaMarkMath
import Derived.Test.YtjlhhnkfedfdnaaOwnL
import Derived.Test.YtjlhhnkfedfdnaaPressMath
import Derived.Test.YtjlhhnkfedfdnaaReadW
import Derived.Test.YtjlhhnkfedfdnaaRows
import Derived.BigQuiet
import Derived.Lib.Hide
import Derived.WalkKit
import Derived.WalkLawsBesides
import Derived.WalkSpells
set_option linter.unusedVariables false
namespace Go.Proofs.Ytjlhhnkfedfdnaa
open Go.RowKit

/-- All is as it was, but for rows of bytes from block base on. -/
def BK (base : Nat) (w w' : World) : Prop := Kept (fun k => base ≤ k ∧ ∃ cur fr, w.heap[k]? = some (.cells cur 5 fr)) w w'
theorem BK.refl (base : Nat) (w : World) : BK base w w := Kept.refl _ _
theorem BK.trans {base : Nat} {a b c : World} (h : BK base a b) (k : BK base b c) : BK base a c := by
  refine ⟨k.os.trans h.os, k.tape.trans h.tape, k.output.trans h.output, Nat.le_trans h.size k.size, fun i hi hm => ?_⟩
  have e := h.block i hi hm
  refine (k.block i (Nat.lt_of_lt_of_le hi h.size) ?_).trans e
  rintro ⟨hb, cur, fr, hc⟩
  rw [e] at hc
  exact hm ⟨hb, cur, fr, hc⟩
theorem BK.below {base : Nat} {w w' : World} (h : BK base w w') (hb : base ≤ w.heap.size) : Below base w w' := Kept.below h hb (fun k hk => hk.1)
theorem BK.old {base : Nat} {w w' : World} (h : BK base w w') {g : Nat} {cur : Array Value} {T : TypeId} {fr : Nat × Nat} (hg : w.heap[g]? = some (.cells cur T fr)) (hT : T ≠ 5) : w'.heap[g]? = some (.cells cur T fr) := by
  refine Kept.old h hg ?_
  rintro ⟨_, cur', fr', hc⟩
  rw [hg] at hc
  injection hc with hc
  injection hc with _ h2 _
  exact hT h2
theorem BK.new {base : Nat} {w w' : World} (h : Below w.heap.size w w') : BK base w w' := Kept.new h _
theorem BK.of_own {base : Nat} {w w' : World} {v : Value} {l : Txt} (ho : Own w base 5 v l) (hk : Kept (fun k => some k = v.ownBlock) w w') : BK base w w' := by
  refine hk.mono ?_
  intro k hk hm
  rcases ho.2 with ⟨rfl, _⟩ | ⟨g, cap, cur, rfl, hb, hg, _⟩
  · simp [Value.ownBlock] at hm
  · simp [Value.ownBlock] at hm
    subst hm
    exact ⟨hb, cur, _, hg⟩
section
variable {P : Program}
theorem append_textK {w : World} {ops : Array Oper} {rest : List Oper} {o : Oper} {a : Act} {Q : Exit → Act → World → Prop} (hgd : o.guard = none) (s x : Operand) (t u : TypeId)
    (ho : o.op = .call { callee := .builtin .append, args := #[s, x], argTypes := #[t, u] }) (ht : P.underlying t = some (.slice 5)) (hu : P.underlying u = some .string)
    (hinfo : (P.info? 5).map (fun i => (i.zero, i.size, i.bytes)) = some (some (.int .u8 0), 1, 1))
    (base : Nat) (v : Value) (l m : Txt) (hs : a.eval s = v) (hown : Own w base 5 v l) (hx : a.eval x = .string ⟨m.toArray⟩)
    (hlen : l.length + m.length < 70368744177664) (hbase : base ≤ w.heap.size)
    (h : ∀ v' w', Own w' base 5 v' (l ++ m) → BK base w w' → wpList P ops Q rest (a.put o.dst v') w') :
    wpList P ops Q (o :: rest) a w := by
  obtain ⟨i0, hi, hz0, hz1, hz2⟩ := info_parts hinfo
  have hsz : (⟨m.toArray⟩ : ByteArray).size = m.length := rfl
  refine Lib.wpList_append_own_string w hgd s x t u ho base 5 i0 ht hu hi hz0 hz1 hz2 v l.length (cellsOf l) hs hown ⟨m.toArray⟩ hx (by unfold maxLen; omega) (by omega) hbase ?_
  intro v' w' hown' hg _
  refine h v' w' ?_ (BK.of_own hown ⟨hg.os, hg.tape, hg.output, hg.size, fun k hk hm => hg.block k hk (fun he => hm he)⟩)
  unfold Own
  rw [cellsOf_append, List.length_append, ← hsz]
  exact hown'
end

def natV (xs : List Nat) : Array Value := (xs.map fun n : Nat => Value.int .i64 (n : Int)).toArray
theorem natV_get (xs : List Nat) (k : Nat) (h : k < xs.length) : (natV xs)[k]? = some (.int .i64 ((xs[k] : Nat) : Int)) := by
  unfold natV
  simp [h]
def numsB (xs : List Nat) : Txt := xs.flatMap nb
theorem numsB_drop (xs : List Nat) (k : Nat) (h : k < xs.length) : numsB (xs.drop k) = nb xs[k] ++ numsB (xs.drop (k + 1)) := by
  unfold numsB
  rw [List.drop_eq_getElem_cons h, List.flatMap_cons]
set_option maxRecDepth 100000 in
set_option maxHeartbeats 1000000 in
theorem addNums_any (base : Nat) (v : Value) (b : Txt) (xs : List Nat) (g : Nat) (w : World) (hx : ∀ n ∈ xs, n ≤ 4611686018427387903) (hxl : xs.length ≤ 2) (hbl : b.length < 70368740000000) (hb : base ≤ w.heap.size)
    (hown : Own w base 5 v b) (hg : w.heap[g]? = some (.cells (natV xs) 3 (0, 0))) :
    Calls Try.prog 20 #[v, .slice (some ⟨g, 0, none⟩) xs.length xs.length] w fun e w' => ∃ v', e = .returned v' ∧ Own w' base 5 v' (b ++ numsB xs) ∧ BK base w w' := by
  have HO := Lib.hid hown
  have HG := Lib.hid hg
  clear hown hg
  generalize hres : b ++ numsB xs = res at *
  have HR := Lib.hid hres
  clear hres
  go_enter Try.func20, Try.ntmps20
  go_wp2_with fail
  go_loopw [0, 11] (fun v0 i wr => ∃ (k : Nat) (acc : Txt), k ≤ xs.length ∧ i = .int .i64 k ∧ Own wr base 5 v0 acc ∧ Hid (acc ++ numsB (xs.drop k) = res) ∧ acc.length ≤ b.length + k * 10 ∧ BK base w wr) (fun _ i _ => xs.length - (intOf i).toNat)
  case atStart => exact ⟨0, b, by omega, rfl, HO.out, HR, by omega, BK.refl _ _⟩
  case round =>
    obtain ⟨k, acc, hk, rfl, hown, HA, hacc, hbk⟩ := hrel
    have HW := Lib.hid hown
    have HB := Lib.hid hbk
    clear hown hbk
    have i0 : (0 : Int) ≤ (k : Int) := by omega
    by_cases hlt : k < xs.length
    · have i1 : (k : Int) < (xs.length : Int) := by omega
      have hcell : wr.cell? ⟨g, k, none⟩ = some (.int .i64 ((xs[k] : Nat) : Int)) := by
        rw [cell_of_row _ _ _ _ _ _ (HB.out.old HG.out (by decide))]
        exact natV_get xs k hlt
      have hxk := hx xs[k] (List.getElem_mem hlt)
      have HD := Lib.hid (numsB_drop xs k hlt)
      have hnl := (nb_length xs[k]).2
      generalize xs[k] = n at *
      have NO := fun w' => Lib.hid (num_ok n w' hxk)
      generalize nb n = nbn at *
      go_wp2_with fail
      refine (NO _).out.mono ?_
      rintro e w1 ⟨rfl, hb1⟩
      have hb2 : BK base wr w1 := BK.new hb1
      have HW1 := Lib.hid (Own.below HW.out hb1 (Nat.le_refl _))
      have HB1 := Lib.hid (HB.out.trans hb2)
      have hbs : base ≤ w1.heap.size := Nat.le_trans hb (HB1.out.size)
      clear hb1 hb2
      go_wp2_with (at_builtin; refine append_textK (by rfl) (.tmp 20) (.tmp 21) 28 9 (by rfl) Try.underlying28 Try.underlying9 info_u8 base _ acc nbn (by rfl) HW1.out (by rfl) (by omega) hbs ?_; intro v' w5 hown5 hb5; have HW5 := Lib.hid hown5; have HB5 := Lib.hid (HB1.out.trans hb5); clear hown5 hb5)
      go_roundw
      case rel => exact ⟨k + 1, acc ++ nbn, by omega, by go_num, HW5.out, Lib.hid (by rw [List.append_assoc, ← HD.out]; exact HA.out), by rw [List.length_append]; omega, HB5.out⟩
      case measure => simp [intOf]; omega
    · have i1 : ¬ (k : Int) < (xs.length : Int) := by omega
      have HE := Lib.hid (show acc = res by
        rw [← HA.out, List.drop_eq_nil_of_le (by omega)]; simp [numsB])
      go_wp2_with fail
      go_ret
      exact ⟨_, rfl, by rw [← HE.out]; exact HW.out, HB.out⟩
set_option maxRecDepth 100000 in
set_option maxHeartbeats 1000000 in
theorem addText_press (base : Nat) (v : Value) (b t : Txt) (w : World) (ht : t.length ≤ 1048576) (hbl : b.length < 70368730000000) (hb : base ≤ w.heap.size) (hown : Own w base 5 v b) :
    Calls Try.prog 22 #[v, .string ⟨t.toArray⟩] w fun e w' => ∃ v', e = .returned v' ∧ Own w' base 5 v' (b ++ plainS t) ∧ BK base w w' := by
  have SL := Lib.hid (show (⟨t.toArray⟩ : ByteArray).size = t.length from rfl)
  have HO := Lib.hid hown
  clear hown
  by_cases h : t = []
  · subst h
    go_enter Try.func22, Try.ntmps22
    go_wp2_with fail
    go_ret
    refine ⟨_, rfl, ?_, BK.refl _ _⟩
    have e : b ++ plainS [] = b := by simp [plainS]
    rw [e]
    exact HO.out
  · obtain ⟨n2, hn2⟩ : ∃ n2, n2 = 2 * t.length := ⟨_, rfl⟩
    have HP := Lib.hid (show plainS t = nb n2 ++ t by unfold plainS; rw [if_neg h, hn2])
    have W1 : 2 * (t.length : Int) = (n2 : Int) := by omega
    have hne : t.isEmpty = false := by cases t <;> simp_all
    have hn3 : n2 ≤ 2097152 := by omega
    have HA := Lib.hid (Own.alloc HO.out (.cells (natV [n2]) 3 (0, 0)))
    have AN := Lib.hid (addNums_any base v b [n2] w.heap.size (w.alloc (.cells (natV [n2]) 3 (0, 0))) (by simp; omega) (by simp) (by omega) (by simp; omega) HA.out (heap_alloc_new _ _))
    have HB0 := Lib.hid (show BK base w (w.alloc (.cells (natV [n2]) 3 (0, 0))) from Kept.alloc (Kept.refl _ _) _)
    have hnb := (nb_length n2).2
    have HN := Lib.hid (show numsB [n2] = nb n2 by simp [numsB])
    rw [HN.out] at AN
    clear h hn2
    go_enter Try.func22, Try.ntmps22
    go_wp2_with fail
    refine AN.out.mono ?_
    rintro e w1 ⟨v1, rfl, hown1, hb1⟩
    have HW1 := Lib.hid hown1
    have HB1 := Lib.hid (HB0.out.trans hb1)
    have hbs : base ≤ w1.heap.size := Nat.le_trans hb (HB1.out.size)
    clear hown1 hb1
    go_wp2_with (at_builtin; refine append_textK (by rfl) (.tmp 13) (.tmp 14) 28 9 (by rfl) Try.underlying28 Try.underlying9 info_u8 base _ (b ++ nb n2) t (by rfl) HW1.out (by rfl) (by rw [List.length_append]; omega) hbs ?_; intro v' w5 hown5 hb5; have HW5 := Lib.hid hown5; have HB5 := Lib.hid (HB1.out.trans hb5); clear hown5 hb5)
    go_ret
    refine ⟨_, rfl, ?_, HB5.out⟩
    rw [HP.out, ← List.append_assoc]
    exact HW5.out
end Go.Proofs.Ytjlhhnkfedfdnaa

/- Several texts in one: RefBookW, RefRunW, RefMatW, RefMakeW, RefRightDW. -/
import Derived.Test.YtpkgjokehgihjaaBookW
import Derived.Test.YtpkgjokehgihjaaGen
import Derived.Test.YtpkgjokehgihjaaInfos
import Derived.Test.YtpkgjokehgihjaaMarkMath
import Derived.Test.YtpkgjokehgihjaaOwnL
import Derived.Test.YtpkgjokehgihjaaRows
import Derived.Test.YtpkgjokehgihjaaShelf
import Derived.Deep.CutBlock
import Derived.Deep.DeepCutAuto
import Derived.Deep.RegionHeld3
import Derived.IntWalk
import Derived.Laws.BitsAllLaws
import Derived.Laws.Rows
import Derived.Laws.Tables
import Derived.Lib.Hide
import Derived.Maps.AppendAt
import Derived.OpenShut
import Derived.Outline
import Derived.ProofKit
import Derived.ShutString
import Derived.SizedLaws
import Derived.SliceStrings
import Derived.WalkKit
import Derived.WalkLawsBesides
import Derived.WalkSpells
import Derived.Test.YtpkgjokehgihjaaBldShelf
import Derived.Test.YtpkgjokehgihjaaDelX
import Derived.Test.YtpkgjokehgihjaaFrame
import Derived.Test.YtpkgjokehgihjaaProg
import Derived.Test.YtpkgjokehgihjaaRowKeep
import Derived.Test.YtpkgjokehgihjaaSignMath
import Derived.Test.YtpkgjokehgihjaaStepW
import Derived.BigQuiet
import Derived.Deep.Draws
import Derived.Deep.QuietTactic
import Derived.Laws.Bits128
import Derived.Laws.Externs
import Derived.Laws.IdiomStrings
import Derived.Lib.AppendStr
import Derived.Lib.Builder
import Derived.Lib.Strings
import Derived.Lib.Walk
import Derived.Test.YtpkgjokehgihjaaTabX
import Derived.Test.YtpkgjokehgihjaaCmpW
import Derived.Test.YtpkgjokehgihjaaNewTabW
import Derived.Test.YtpkgjokehgihjaaCdX
import Derived.Test.YtpkgjokehgihjaaRollMath
import Derived.Test.YtpkgjokehgihjaaSigAt
import Derived.Test.YtpkgjokehgihjaaSignAW
import Derived.Test.YtpkgjokehgihjaaSignW
import Derived.Test.YtpkgjokehgihjaaSortX
import Derived.Test.YtpkgjokehgihjaaSortEW
import Derived.Test.YtpkgjokehgihjaaWkX
import Derived.Deep.RegionLaw
import Derived.Laws.MakeOwn
import Derived.StillTailTactics
import Derived.Test.YtpkgjokehgihjaaAgX
import Derived.Test.YtpkgjokehgihjaaGaX
import Derived.Test.YtpkgjokehgihjaaRollX
import Derived.Deep.LoopGhost
import Derived.Sort.Walk0
import Derived.Test.YtpkgjokehgihjaaRightDW
/- Walks of the document's own book, where it numbers. -/
set_option linter.unusedVariables false
namespace Go.Proofs.Ytpkgjokehgihjaa
open Go.RowKit

/-- Where a list's row may lie behind an append. -/
def Moved (w : World) (v v' : Value) : Prop := ∀ g, v'.ownBlock = some g → v.ownBlock = some g ∨ w.heap.size ≤ g
theorem Moved.refl (w : World) (v : Value) : Moved w v v := fun g h => .inl h
section
variable {P : Program}
theorem append_elem_at {α : Type} {enc : α → Value} {w : World} {ops : Array Oper} {rest : List Oper} {o : Oper} {a : Act} {Q : Exit → Act → World → Prop} (hgd : o.guard = none) (s x : Operand) (t e : TypeId) (z : Value) (bytes : Nat)
    (ho : o.op = .call { callee := .builtin .append, args := #[s, x], argTypes := #[t, t] }) (ht : P.underlying t = some (.slice e))
    (hinfo : (P.info? e).map (fun i => (i.zero, i.size, i.bytes)) = some (some z, 1, bytes)) (hz : z.cells.size = 1)
    (base : Nat) (v : Value) (l : List α) (y : α) (hone : (enc y).oneCell' = true) (hs : a.eval s = v) (hown : OwnL enc w base e v l) (hx : a.eval x = .slice (some ⟨w.heap.size, 0, none⟩) 1 1)
    (hlen : (l.length + 1) * bytes ≤ 140737488355328) (hlen2 : l.length + 1 ≤ maxLen) (hbase : base ≤ w.heap.size)
    (h : ∀ v' w', OwnL enc w' base e v' (l ++ [y]) → Kept (fun k => v.ownBlock = some k) w w' → Moved w v v' → wpList P ops Q rest (a.put o.dst v') w') :
    wpList P ops Q (o :: rest) a (w.alloc (.cells #[enc y] e)) := by
  obtain ⟨i0, hi, hz0, hz1, hz2⟩ := info_parts hinfo
  refine wpList_append_own_at _ hgd s x t ho base e i0 z 1 bytes ht hi hz0 hz1 hz2 hz (by decide) v l.length (l.map enc) hs (World.ownsRow.alloc hown _) ⟨w.heap.size, 0, none⟩ 1 1 [enc y] hx rfl ?_ ?_ hlen2 hlen ?_ ?_
  · exact cell_one_new w (enc y) e
  · intro u hu; simp at hu; subst hu; exact hone
  · simp; omega
  · intro v' w' hown' hg _ hat
    refine h v' w' ?_ ?_ ?_
    · unfold OwnL
      rw [List.map_append, List.length_append]
      exact hown'
    · have k1 : Kept (fun k => v.ownBlock = some k) w (w.alloc (.cells #[enc y] e)) := (Kept.refl _ _).alloc _
      refine k1.trans ⟨hg.os, hg.tape, hg.output, hg.size, fun k hk hm => hg.block k hk (fun he => hm he.symm)⟩
    · intro g hg'
      rcases hat with h | h
      · exact .inl (by rw [← h]; exact hg')
      · right
        rw [hg'] at h
        simp at h
        omega
end


theorem OwnL.shape {w : World} {base : Nat} {e : TypeId} {v : Value} {S : List Txt} (h : OwnL encT w base e v S) : ∃ a n c, v = .slice a n c := by
  obtain ⟨a, c, rfl, _⟩ := h.row
  exact ⟨_, _, _, rfl⟩
theorem idxOf_first (S : List Txt) (s : Txt) (k : Nat) (hk : k < S.length) (h : s ∉ S.take k) (he : S[k] = s) : S.idxOf s = k := by
  have e : S = S.take k ++ S.drop k := (List.take_append_drop _ _).symm
  rw [e, List.idxOf_append, if_neg h, List.drop_eq_getElem_cons hk, he, List.idxOf_cons_self, List.length_take]
  omega
theorem not_mem_take_succ (S : List Txt) (s : Txt) (k : Nat) (hk : k < S.length) (h : s ∉ S.take k) (he : S[k] ≠ s) : s ∉ S.take (k + 1) := by
  rw [List.take_succ_eq_append_getElem hk]
  intro hm
  rcases List.mem_append.1 hm with hm | hm
  · exact h hm
  · simp at hm; exact he hm.symm
/-- Where a text stands, or -1. -/
def placeS (S : List Txt) (s : Txt) : Int := if s ∈ S then ((S.idxOf s : Nat) : Int) else -1


theorem placeS_in {S : List Txt} {s : Txt} (h : s ∈ S) : placeS S s = ((S.idxOf s : Nat) : Int) := if_pos h
theorem placeS_no {S : List Txt} {s : Txt} (h : s ∉ S) : placeS S s = -1 := if_neg h
theorem noS_idx (S : List Txt) (s : Txt) (k : Nat) (h : S.idxOf s = k) : noS S s = k + 1 := by unfold noS; rw [h]



end Go.Proofs.Ytpkgjokehgihjaa
/- The walks of the document's step, Run. -/
set_option linter.unusedVariables false
namespace Go.Proofs.Ytpkgjokehgihjaa
open Go.RowKit

set_option maxRecDepth 100000 in
set_option maxHeartbeats 1000000 in
theorem refStep_any (x : DSt) (w : World) (h : StOk x) :
    Calls Try.prog 41 #[stV x] w fun e w' => e = .returned (.bool (stS x)) ∧ Below w.heap.size w w' := by
  obtain ⟨p, n, t⟩ := x
  have hp1 := h.p1
  have hp2 := h.p2
  have hn1 := h.l1
  have hn2 := h.l2
  have ht := h.t
  dsimp only at hp1 hp2 hn1 hn2 ht
  have B0 := Lib.hid (below_self_alloc w (stO ⟨p, n, t⟩))
  obtain ⟨c0, c1, c2⟩ := stO_at w ⟨p, n, t⟩
  dsimp only at c0 c1 c2
  rw [Nat.zero_add] at c1 c2
  have TL := Lib.hid (show (⟨t.toArray⟩ : ByteArray).size = t.length from rfl)
  have HR := Lib.hid (show stS ⟨p, n, t⟩ = if t ≠ [] then decide (t.length ≤ 4096 ∧ p = 0 ∧ n = 0) else decide (0 < n ∧ n ≤ 524288 ∧ 0 ≤ p ∧ p ≤ 524288 - n) from rfl)
  generalize stS ⟨p, n, t⟩ = res at *
  clear h
  by_cases h0 : 0 < t.length
  · have hne : t.isEmpty = false := by cases t <;> simp_all
    have HR2 := Lib.hid (show res = decide (t.length ≤ 4096 ∧ p = 0 ∧ n = 0) by rw [HR.out, if_pos (by rintro rfl; simp at h0)])
    clear HR
    by_cases h2 : p = 0
    · have q1 : (p == 0) = true := by simp [h2]
      by_cases h3 : n = 0
      · have q2 : (n == 0) = true := by simp [h3]
        by_cases h1 : t.length ≤ 4096
        · have i1 : (t.length : Int) ≤ 4096 := by omega
          have HRR := Lib.hid (show res = true by rw [HR2.out]; exact decide_eq_true ⟨h1, h2, h3⟩)
          clear h2 h3 HR2
          go_enter Try.func41, Try.ntmps41
          go_wp2
          go_ret
          exact ⟨by rw [HRR.out]; rfl, B0.out⟩
        · have i1 : ¬ (t.length : Int) ≤ 4096 := by omega
          have HRR := Lib.hid (show res = false by rw [HR2.out]; exact decide_eq_false (fun c => h1 c.1))
          clear h2 h3 HR2 h1
          go_enter Try.func41, Try.ntmps41
          go_wp2
          go_ret
          exact ⟨by rw [HRR.out]; rfl, B0.out⟩
      · have q2 : (n == 0) = false := by simp [h3]
        have HRR := Lib.hid (show res = false by rw [HR2.out]; exact decide_eq_false (fun c => h3 c.2.2))
        clear h2 h3 HR2
        go_enter Try.func41, Try.ntmps41
        go_wp2
        go_ret
        exact ⟨by rw [HRR.out]; rfl, B0.out⟩
    · have q1 : (p == 0) = false := by simp [h2]
      have HRR := Lib.hid (show res = false by rw [HR2.out]; exact decide_eq_false (fun c => h2 c.2.1))
      clear h2 HR2
      go_enter Try.func41, Try.ntmps41
      go_wp2
      go_ret
      exact ⟨by rw [HRR.out]; rfl, B0.out⟩
  · obtain rfl : t = [] := List.eq_nil_of_length_eq_zero (by omega)
    have HR2 := Lib.hid (show res = decide (0 < n ∧ n ≤ 524288 ∧ 0 ≤ p ∧ p ≤ 524288 - n) by rw [HR.out, if_neg (by simp)])
    clear HR
    by_cases h1 : 0 < n
    · by_cases h2 : n ≤ 524288
      · by_cases h3 : 0 ≤ p
        · by_cases h4 : p ≤ 524288 - n
          · have HRR := Lib.hid (show res = true by rw [HR2.out]; exact decide_eq_true ⟨h1, h2, h3, h4⟩)
            clear HR2
            go_enter Try.func41, Try.ntmps41
            go_wp2
            go_ret
            exact ⟨by rw [HRR.out]; rfl, B0.out⟩
          · have HRR := Lib.hid (show res = false by rw [HR2.out]; exact decide_eq_false (fun c => h4 c.2.2.2))
            clear HR2
            go_enter Try.func41, Try.ntmps41
            go_wp2
            go_ret
            exact ⟨by rw [HRR.out]; rfl, B0.out⟩
        · have HRR := Lib.hid (show res = false by rw [HR2.out]; exact decide_eq_false (fun c => h3 c.2.2.1))
          clear HR2
          go_enter Try.func41, Try.ntmps41
          go_wp2
          go_ret
          exact ⟨by rw [HRR.out]; rfl, B0.out⟩
      · have HRR := Lib.hid (show res = false by rw [HR2.out]; exact decide_eq_false (fun c => h2 c.2.1))
        clear HR2
        go_enter Try.func41, Try.ntmps41
        go_wp2
        go_ret
        exact ⟨by rw [HRR.out]; rfl, B0.out⟩
    · have HRR := Lib.hid (show res = false by rw [HR2.out]; exact decide_eq_false (fun c => h1 c.1))
      clear HR2
      go_enter Try.func41, Try.ntmps41
      go_wp2
      go_ret
      exact ⟨by rw [HRR.out]; rfl, B0.out⟩

theorem cat_bytes (a b : Txt) : (⟨a.toArray⟩ : ByteArray) ++ ⟨b.toArray⟩ = ⟨(a ++ b).toArray⟩ := by
  apply ByteArray.ext
  simp
/-- Of a step that may be, text and copy stand in either order. -/
theorem piece_swap {basis : Txt} {x : DSt} (h : stS x = true) : pieceS basis x = (basis.drop x.pos.toNat).take x.len.toNat ++ x.txt := by
  unfold pieceS
  unfold stS at h
  split at h
  · have := of_decide_eq_true h
    rw [this.2.2]; simp
  · rename_i c; simp at c; rw [c]; simp

end Go.Proofs.Ytpkgjokehgihjaa
/- Walks of the document's Match and Tail, by any book of the document. -/
set_option linter.unusedVariables false
namespace Go.Proofs.Ytpkgjokehgihjaa
open Go.RowKit

/-- A world that a predicate holds of. -/
structure RchOf (Q : World → Prop) where
  w : World
  h : Q w
theorem wp_region_rch {P : Program} {id : Nat} {R : Exit → Act → World → Prop} {a : Act} {w0 : World} {l : List Oper} (Q : World → Prop) [Inhabited (RchOf Q)] (hm : P.follows .mixedOrders = true) (hB : Region.lexB .any l.toArray = true) (hq : Q w0.drew)
    (h : wpQuiet P l.toArray (fun w' => ∃ p : RchOf Q, w' = p.w) (fun a' => ∀ w', (∃ p : RchOf Q, w' = p.w) → R .normal a' w') l a) : (Code.region id l.toArray true).wp P R a w0 :=
  wp_region_quiet (C := fun w' => ∃ p : RchOf Q, w' = p.w) hm hB ⟨⟨w0.drew, hq⟩, rfl⟩ (by simpa using h)
theorem rch_calls {P : Program} {f : FuncId} {args : Array Value} {Q : World → Prop} {p : RchOf Q} {v : Value} (h : Calls P f args p.w fun e w' => e = .returned v ∧ Q w') :
    Calls P f args p.w fun e w'' => e = .returned v ∧ ∃ p' : RchOf Q, w'' = p'.w :=
  h.mono fun _ w' ⟨he, hb⟩ => ⟨he, ⟨w', hb⟩, rfl⟩

/-- A book of the document that marks one text, from world w0 and state s on. -/
structure Rch {σ : Type} (At : World → σ → Prop) (F : σ → Nat → Prop) (nq : σ → Txt → σ → Prop) (w0 : World) (s : σ) (t : Txt) (w' : World) (s' : σ) : Prop where
  at' : At w' s'
  nx : nq s t s'
  kept : Kept (F s) w0 w'
  new : ∀ k, F s' k → F s k ∨ w0.heap.size ≤ k
section
variable {qp : Value} {σ : Type} {At : World → σ → Prop} {F : σ → Nat → Prop} {nq : σ → Txt → σ → Prop} {mk : σ → Txt → Txt} {ok : Nat → σ → Prop}
theorem Rch.later {w0 w1 w : World} {s s' : σ} {t : Txt} (h : Rch At F nq w1 s t w s') (hb : Below w0.heap.size w0 w1) : Rch At F nq w0 s t w s' :=
  ⟨h.at', h.nx, (Kept.new hb _).trans h.kept, fun k hk => (h.new k hk).imp id (fun h => Nat.le_trans hb.size h)⟩
theorem Rch.cell {w0 w : World} {s s' : σ} {t : Txt} (h : Rch At F nq w0 s t w s') {b o : Nat} {v : Value} (hc : w0.cell? ⟨b, o, none⟩ = some v) (hn : ¬ F s b) : w.cell? ⟨b, o, none⟩ = some v := by
  have hlt := World.block_lt_of_cell? w0 _ hc
  have := h.kept.block b hlt hn
  unfold World.cell? at hc ⊢
  simp only at hc ⊢
  rw [this]; exact hc
end

theorem fst_yes {is : Txt → Bool} {ms : List Txt} {l : List Nat} {j : Nat} (h : j < l.length) (hi : is (mOf ms l[j]) = true) : fstS is ms (l.drop j) = (l[j] : Nat) := by
  rw [List.drop_eq_getElem_cons h]
  exact fstS_yes (l := l[j] :: l.drop (j + 1)) (Nat.succ_pos _) hi
theorem fst_no {is : Txt → Bool} {ms : List Txt} {l : List Nat} {j : Nat} (h : j < l.length) (hi : is (mOf ms l[j]) = false) : fstS is ms (l.drop j) = fstS is ms (l.drop (j + 1)) := by
  rw [List.drop_eq_getElem_cons h]
  unfold fstS
  rw [List.find?_cons_of_neg (by rw [hi]; simp)]
def lastV : Value → Nat
  | .int _ n => (n + 1).toNat
  | _ => 0
theorem tail_form {is : Txt → Bool} {ws : List Int} {ms : List Txt} {B M : Nat} {t : Txt} (hB : 16 ≤ B) (hlw : ws.length = nBlk M B) :
    (M % B = 0 → tailZ is ws ms (M / B) B M t = false) ∧ (M % B ≠ 0 → ws.length = M / B + 1 ∧ (t.length ≠ M % B → tailZ is ws ms (M / B) B M t = false) ∧ (t.length = M % B → tailZ is ws ms (M / B) B M t = (decide (((wk t : Nat) : Int) = wOf ws (M / B)) && is (mOf ms (M / B))))) := by
  have e1 := Nat.div_add_mod M B
  have hm := Nat.mod_lt M (show 0 < B by omega)
  unfold nBlk at hlw
  unfold tailZ
  generalize hq : M / B = q at *
  generalize M % B = r at *
  have hcm : B * q = q * B := Nat.mul_comm _ _
  have e2 : M + B - 1 = (r + B - 1) + B * q := by omega
  rw [e2, Nat.add_mul_div_left _ _ (show 0 < B by omega)] at hlw
  constructor
  · intro h0
    rw [h0, Nat.div_eq_of_lt (show 0 + B - 1 < B by omega)] at hlw
    rw [decide_eq_false (show ¬ q ≠ ws.length by omega)]; rfl
  · intro h0
    rw [show r + B - 1 = (r - 1) + B by omega, Nat.add_div_right _ (by omega), Nat.div_eq_of_lt (show r - 1 < B by omega)] at hlw
    refine ⟨by omega, fun h => ?_, fun h => ?_⟩
    · rw [decide_eq_false (show ¬ t.length + q * B = M by omega)]; simp
    · rw [decide_eq_true (show t.length + q * B = M by omega), decide_eq_true (show q ≠ ws.length by omega)]; simp

end Go.Proofs.Ytpkgjokehgihjaa
/- Walks of the document's Texts, Copy, Make. -/
set_option linter.unusedVariables false
namespace Go.Proofs.Ytpkgjokehgihjaa
open Go.RowKit

theorem gather_short (l : List DSt) (s : Txt) (h0 : 0 < s.length) (h : s.length ≤ 4096) : gatherS l s = l ++ [txtSt s] := by
  rw [gather_cons l s h0, List.drop_of_length_le h, gather_nil, List.take_of_length_le h]
set_option maxRecDepth 100000 in
set_option maxHeartbeats 1000000 in
theorem refTexts_any (base n : Nat) (v : Value) (l : List DSt) (s : Txt) (w : World) (h : OwnS w base v l) (hok : OkL n l) (hn : n + s.length ≤ 1100000) (hb : base ≤ w.heap.size) :
    Calls Try.prog 51 #[v, .string ⟨s.toArray⟩] w fun e w' => ∃ v', e = .returned v' ∧ OwnS w' base v' (gatherS l s) ∧ TurnS base w v w' v' := by
  have H0 := Lib.hid h; clear h
  have hlen := hok.len
  have HB0 := hb
  go_enter Try.func51, Try.ntmps51
  go_wp2_with fail
  go_loopw [0, 1] (fun a b wr => ∃ (l1 : List DSt) (r : Txt), b = .string ⟨r.toArray⟩ ∧ OwnS wr base a l1 ∧ Hid (gatherS l1 r = gatherS l s) ∧ l1.length + r.length ≤ 1100000 ∧ TurnS base w v wr a) (fun _ b _ => lenT b)
  case atStart => exact ⟨l, s, rfl, H0.out, Lib.hid rfl, by omega, TurnS.refl _ _ _⟩
  case round =>
    obtain ⟨l1, r, rfl, ho, HG, hll, htn⟩ := hrel
    have HO := Lib.hid ho; clear ho
    have RL := Lib.hid (show (⟨r.toArray⟩ : ByteArray).size = r.length from rfl)
    have hll1 : l1.length ≤ 2000000 := by omega
    have hsz : base ≤ wr.heap.size := by have := htn.kept.size; omega
    have HTN := Lib.hid htn; clear htn
    by_cases hlt : 4096 < r.length
    · have i1 : (4096 : Int) < (r.length : Int) := by omega
      have i2 : (4096 : Int) ≤ (r.length : Int) := by omega
      have HE := Lib.hid (show (⟨r.toArray⟩ : ByteArray).extract 0 4096 = ⟨(r.take 4096).toArray⟩ from take_toArray r 4096)
      have HE2 := Lib.hid (show (⟨r.toArray⟩ : ByteArray).extract 4096 r.length = ⟨(r.drop 4096).toArray⟩ from drop_toArray r 4096 r.length (Nat.le_refl _))
      have HG2 := Lib.hid ((gather_one l1 r (by omega)).trans HG.out)
      have HDL := Lib.hid (show l1.length + 1 + (r.drop 4096).length ≤ 1100000 by rw [List.length_drop]; omega)
      have HDS := Lib.hid (show (r.drop 4096).length < r.length by rw [List.length_drop]; omega)
      generalize r.take 4096 = t at *
      generalize r.drop 4096 = r2 at *
      go_upto_region 2 with fail
      go_wp2_with (first | (rw [HE.out]) | (at_builtin; (try rw [HE.out]); refine append_st (w := wr) (by rfl) (.tmp 8) (.tmp 12) 22 _ (by rfl) Try.underlying22 info_step (by rfl) base u0 l1 (txtSt t) (by rfl) HO.out (by rfl) hll1 hsz ?_; intro v' w3 hown3 htn3) | fail)
      have O3 := Lib.hid hown3; clear hown3
      have T3 := Lib.hid (HTN.out.trans htn3); clear htn3 HTN HO
      go_wp2_with (first | (rw [HE2.out]) | fail)
      go_roundw
      case rel => exact ⟨_, r2, by rw [HE2.out], O3.out, HG2, by simp; have := HDL.out; omega, T3.out⟩
      case measure =>
        rw [HE2.out]
        exact HDS.out
    · have i1 : ¬ (4096 : Int) < (r.length : Int) := by omega
      by_cases h0 : 0 < r.length
      · have hne : r.isEmpty = false := by cases r <;> simp_all
        have HG2 := Lib.hid (show l1 ++ [txtSt r] = gatherS l s by rw [← HG.out, gather_short l1 r h0 (by omega)])
        go_wp2_with (first | (at_builtin; refine append_st (w := wr) (by rfl) (.tmp 18) (.tmp 21) 22 _ (by rfl) Try.underlying22 info_step (by rfl) base u0 l1 (txtSt r) (by rfl) HO.out (by rfl) hll1 hsz ?_; intro v' w3 hown3 htn3) | fail)
        go_ret
        exact ⟨_, rfl, by rw [← HG2.out]; exact hown3, HTN.out.trans htn3⟩
      · obtain rfl : r = [] := List.eq_nil_of_length_eq_zero (by omega)
        have HG2 := Lib.hid (show l1 = gatherS l s by rw [← HG.out, gather_nil])
        clear HG
        go_wp2_with fail
        go_ret
        exact ⟨_, rfl, by rw [← HG2.out]; exact HO.out, HTN.out⟩

set_option maxRecDepth 100000 in
set_option maxHeartbeats 1000000 in
theorem refCopy_any (base n : Nat) (v : Value) (l : List DSt) (a k : Int) (w : World) (h : OwnS w base v l) (hok : OkL n l) (hn : n ≤ 1100000) (ha : 0 ≤ a) (ha2 : a ≤ 1073741824) (hk : 0 ≤ k) (hk2 : k ≤ 1100000) (hb : base ≤ w.heap.size) :
    Calls Try.prog 52 #[v, .int .i64 a, .int .i64 k] w fun e w' => ∃ v', e = .returned v' ∧ OwnS w' base v' (takeS l a k) ∧ TurnS base w v w' v' := by
  have H0 := Lib.hid h; clear h
  have HB := Lib.hid hb; clear hb
  have hlen := hok.len
  rcases List.eq_nil_or_concat l with rfl | ⟨l1, x, rfl⟩
  · obtain ⟨s0, m0, c0, rfl⟩ := own_slice H0.out
    obtain rfl : m0 = 0 := own_lenV H0.out
    go_enter Try.func52, Try.ntmps52
    go_wp2_with fail
    go_quiet (fail)
    have hbq := Below_drewN (Below.refl w.heap.size w) nq
    have H1 := Lib.hid (show OwnS (w.drewN nq) base (.slice s0 0 c0) [] from H0.out.new hbq)
    have HTQ := Lib.hid (show TurnS base w (.slice s0 0 c0) (w.drewN nq) (.slice s0 0 c0) from ⟨hbq.mono HB.out, Kept.new hbq _, fun g' e => .inl e⟩)
    have hsz : base ≤ (w.drewN nq).heap.size := HB.out
    clear hbq
    generalize w.drewN nq = w1 at *
    go_wp2_with (at_builtin; refine append_st (w := w1) (by rfl) (.tmp 48) (.tmp 52) 22 _ (by rfl) Try.underlying22 info_step (by rfl) base _ [] ⟨a, k, []⟩ (by rfl) H1.out (by rfl) (by simp) hsz ?_; intro v' w3 hown3 htn3)
    go_ret
    exact ⟨_, rfl, hown3, HTQ.out.trans htn3⟩
  · rw [List.concat_eq_append] at H0 hok hlen ⊢
    have hx := hok.el x (by simp)
    rw [List.length_append, List.length_singleton] at hlen
    obtain ⟨p, m, t⟩ := x
    dsimp only at hx
    obtain ⟨x1, x2, x3, x4⟩ := hx
    obtain ⟨g, cap, rfl, hg, hst⟩ := own_last H0.out
    obtain ⟨d0, d1, d2⟩ := hst
    dsimp only at d0 d1 d2
    have HT := Lib.hid (take_snoc l1 ⟨p, m, t⟩ a k)
    dsimp only at HT
    have i2 : ((l1.length + 1 : Nat) : Int) - 1 = (l1.length : Int) := by omega
    have i3 : (l1.length : Int) < ((l1.length + 1 : Nat) : Int) := by omega
    have i4 : (0 : Int) ≤ (l1.length : Int) := by omega
    have i5 : decide ((0 : Int) ≤ (l1.length : Int)) = true := decide_eq_true i4
    generalize takeS (l1 ++ [⟨p, m, t⟩]) a k = res at *
    by_cases h1 : t = []
    · subst h1
      by_cases h2 : p + m = a
      · have HR := Lib.hid (show res = l1 ++ [⟨p, m + k, []⟩] by rw [HT.out, if_pos ⟨rfl, h2⟩])
        have q1 : (p + m == a) = true := by simp [h2]
        clear HT h2 hok
        go_enter Try.func52, Try.ntmps52
        go_wp2_with fail
        go_quiet (fail)
        have hbq := Below_drewN (Below.refl w.heap.size w) nq
        have hkq : Kept (fun k => (Value.slice (some ⟨g, 0, none⟩) (l1.length + 1) cap).ownBlock = some k) w (w.drewN nq) := Kept.new hbq _
        have H1 := Lib.hid (H0.out.new hbq)
        obtain ⟨hs1, fz1, hg1⟩ := H1.out.set (m + k)
        have HS := Lib.hid hs1
        have HTN := Lib.hid (show TurnS base w (.slice (some ⟨g, 0, none⟩) (l1.length + 1) cap) ((w.drewN nq).setCell ⟨g, l1.length * 3 + 1, none⟩ (.int .i64 (m + k))) (.slice (some ⟨g, 0, none⟩) (l1.length + 1) cap) from
          ⟨(hbq.mono HB.out).setCell (p := ⟨g, l1.length * 3 + 1, none⟩) hg1 _, hkq.setCell (p := ⟨g, l1.length * 3 + 1, none⟩) rfl _, fun g' e => .inl e⟩)
        have E1 : (w.drewN nq).cell? ⟨g, l1.length * 3 + 1, none⟩ = _ := d1
        clear hs1 hbq hkq d0 d1 d2
        generalize w.drewN nq = w1 at *
        go_wp2_with fail
        go_ret
        exact ⟨_, rfl, by rw [HR.out]; exact HS.out, HTN.out⟩
      · have HR := Lib.hid (show res = l1 ++ [⟨p, m, []⟩] ++ [⟨a, k, []⟩] by rw [HT.out, if_neg (fun c => h2 c.2)])
        have q1 : (p + m == a) = false := by simp [h2]
        clear HT h2 hok
        go_enter Try.func52, Try.ntmps52
        go_wp2_with fail
        go_quiet (fail)
        have hbq := Below_drewN (Below.refl w.heap.size w) nq
        have hkq : Kept (fun k => (Value.slice (some ⟨g, 0, none⟩) (l1.length + 1) cap).ownBlock = some k) w (w.drewN nq) := Kept.new hbq _
        have H1 := Lib.hid (H0.out.new hbq)
        have HTQ := Lib.hid (show TurnS base w (.slice (some ⟨g, 0, none⟩) (l1.length + 1) cap) (w.drewN nq) (.slice (some ⟨g, 0, none⟩) (l1.length + 1) cap) from ⟨hbq.mono HB.out, hkq, fun g' e => .inl e⟩)
        have hsz : base ≤ (w.drewN nq).heap.size := HB.out
        clear hbq hkq d0 d1 d2
        generalize w.drewN nq = w1 at *
        go_wp2_with (at_builtin; refine append_st (w := w1) (by rfl) (.tmp 48) (.tmp 52) 22 _ (by rfl) Try.underlying22 info_step (by rfl) base _ (l1 ++ [⟨p, m, []⟩]) ⟨a, k, []⟩ (by rfl) H1.out (by rfl) (by rw [List.length_append, List.length_singleton]; omega) hsz ?_; intro v' w3 hown3 htn3)
        go_ret
        exact ⟨_, rfl, by rw [HR.out]; exact hown3, HTQ.out.trans htn3⟩
    · have HR := Lib.hid (show res = l1 ++ [⟨p, m, t⟩] ++ [⟨a, k, []⟩] by rw [HT.out, if_neg (fun c => h1 c.1)])
      have hne : t.isEmpty = false := by cases t <;> simp_all
      clear HT h1 hok
      go_enter Try.func52, Try.ntmps52
      go_wp2_with fail
      go_quiet (fail)
      have hbq := Below_drewN (Below.refl w.heap.size w) nq
      have hkq : Kept (fun k => (Value.slice (some ⟨g, 0, none⟩) (l1.length + 1) cap).ownBlock = some k) w (w.drewN nq) := Kept.new hbq _
      have H1 := Lib.hid (H0.out.new hbq)
      have HTQ := Lib.hid (show TurnS base w (.slice (some ⟨g, 0, none⟩) (l1.length + 1) cap) (w.drewN nq) (.slice (some ⟨g, 0, none⟩) (l1.length + 1) cap) from ⟨hbq.mono HB.out, hkq, fun g' e => .inl e⟩)
      have hsz : base ≤ (w.drewN nq).heap.size := HB.out
      clear hbq hkq d0 d1 d2
      generalize w.drewN nq = w1 at *
      go_wp2_with (at_builtin; refine append_st (w := w1) (by rfl) (.tmp 48) (.tmp 52) 22 _ (by rfl) Try.underlying22 info_step (by rfl) base _ (l1 ++ [⟨p, m, t⟩]) ⟨a, k, []⟩ (by rfl) H1.out (by rfl) (by rw [List.length_append, List.length_singleton]; omega) hsz ?_; intro v' w3 hown3 htn3)
      go_ret
      exact ⟨_, rfl, by rw [HR.out]; exact hown3, HTQ.out.trans htn3⟩
end Go.Proofs.Ytpkgjokehgihjaa
/- The walk of the document's Right of deltas. -/
set_option linter.unusedVariables false
namespace Go.Proofs.Ytpkgjokehgihjaa
open Go.RowKit

theorem sumK_mono (l : List DSt) (k : Nat) (hk : k ≤ l.length) (h : ∀ x ∈ l, stS x = true) : sumK (l.take k) ≤ sumK l := by
  have h1 : sumK l = sumK (l.take k) + sumK (l.drop k) := by unfold sumK; rw [← List.sum_append, ← List.map_append, List.take_append_drop]
  have h2 : 0 ≤ sumK (l.drop k) := by
    have h3 : ∀ m : List DSt, (∀ x ∈ m, stS x = true) → 0 ≤ sumK m := by
      intro m
      induction m with
      | nil => intro _; unfold sumK; simp
      | cons x m ih =>
        intro hm
        have := ih (fun y hy => hm y (by simp [hy]))
        have := mk_bound (hm x (by simp))
        unfold sumK at *
        rw [List.map_cons, List.sum_cons]; omega
    exact h3 _ (fun x hx => h x (List.mem_of_mem_drop hx))
  omega
set_option maxRecDepth 100000 in
set_option maxHeartbeats 2000000 in
theorem refRightD_any (N : Nat → Prop) (bm mm : Txt) (n : Int) (v : Value) (l : List DSt) (w : World) (h : RowS N w v l) (hok : ∀ x ∈ l, StOk x) (hl : l.length ≤ 1000000) (h1 : bm.length ≤ 140737488351232) (h2 : mm.length ≤ 140737488351232) (hn1 : -9223372036854775808 ≤ n) (hn2 : n ≤ 9223372036854775807) :
    Calls Try.prog 16 #[delW bm mm n v] w fun e w' => e = .returned (.bool (rightD bm mm n l)) ∧ Below w.heap.size w w' := by
  obtain ⟨a, c, rfl, hc⟩ := h
  have HC := Lib.hid hc; clear hc
  have HK := Lib.hid hok; clear hok
  have B0 := Lib.hid (below_self_alloc w (delO bm mm n (.slice a l.length c)))
  obtain ⟨d0, d1, d2, d3⟩ := delO_cells (heap_alloc_new w (delO bm mm n (.slice a l.length c)))
  have T1 := Lib.hid (show (⟨bm.toArray⟩ : ByteArray).size = bm.length from rfl)
  have T2 := Lib.hid (show (⟨mm.toArray⟩ : ByteArray).size = mm.length from rfl)
  have HR := Lib.hid (rightD_eq bm mm n l)
  generalize rightD bm mm n l = res at *
  by_cases c1 : bm.length = 32
  · have q1 : ((bm.length : Int) != 32) = false := by simp [c1]
    by_cases c2 : mm.length = 32
    · have q2 : ((mm.length : Int) != 32) = false := by simp [c2]
      by_cases c3 : 0 ≤ n
      · have q3 : ¬ n < 0 := by omega
        by_cases c4 : n ≤ 524288
        · have q4 : ¬ 524288 < n := by omega
          have HR2 := Lib.hid (show res = (l.all stS && decide (sumK l = n)) by rw [HR.out, decide_eq_true c1, decide_eq_true c2, decide_eq_true ⟨c3, c4⟩]; rfl)
          clear HR c1 c2
          go_enter Try.func16, Try.ntmps16
          go_wp2
          generalize w.alloc (.cells #[.string ⟨bm.toArray⟩, .string ⟨mm.toArray⟩, .int .i64 n, .slice a l.length c] 24) = w0 at *
          have D2 := Lib.hid d2
          have D3 := Lib.hid d3
          clear d0 d1 d2 d3 q1 q2
          have HC0 := Lib.hid (show ∀ i (h : i < l.length), ∃ g o, a = some ⟨g, o, none⟩ ∧ DStAt w0 g (o + i * 3) l[i] from fun i hi => by
            obtain ⟨g, o, e, _, hx⟩ := HC.out i hi
            exact ⟨g, o, e, hx.new B0.out⟩)
          clear HC
          go_loopw [3, 4] (fun m i wr => ∃ k : Nat, k ≤ l.length ∧ i = .int .i64 k ∧ m = .int .i64 (sumK (l.take k)) ∧ (∀ x ∈ l.take k, stS x = true) ∧ Below w0.heap.size w0 wr) (fun _ i _ => l.length - (intOf i).toNat)
          case atStart => exact ⟨0, by omega, rfl, rfl, by simp, Below.refl _ _⟩
          case round =>
            obtain ⟨k, hk, rfl, rfl, hall, hbel⟩ := hrel
            have HB := Lib.hid hbel; clear hbel
            have hsb := sumK_bound l k hk hall
            have d2 := (HB.out.cell (World.block_lt_of_cell? w0 _ D2.out)).trans D2.out
            have d3 := (HB.out.cell (World.block_lt_of_cell? w0 _ D3.out)).trans D3.out
            by_cases hlt : k < l.length
            · obtain ⟨g, o, rfl, hst⟩ := HC0.out k hlt
              have HS := Lib.hid (sumK_succ l k hlt)
              have HKX := HK.out l[k] (List.getElem_mem hlt)
              have HTK := Lib.hid (show l.take (k + 1) = l.take k ++ [l[k]] by rw [List.take_add_one, List.getElem?_eq_getElem hlt]; rfl)
              have HMEM := Lib.hid (List.getElem_mem hlt)
              have hst' := hst.new HB.out
              have IS := fun w' => Lib.hid (refStep_any l[k] w' HKX)
              have HALL := Lib.hid hall; clear hall hst HKX
              generalize l[k] = x at *
              have hbm := fun hs => mk_bound (x := x) hs
              have hmk : mkS x = (x.txt.length : Int) + x.len := rfl
              have hxs := fun (hs : stS x = true) => (show x.txt.length ≤ 4096 ∧ 0 ≤ x.len ∧ x.len ≤ 524288 by
                unfold stS at hs
                split at hs
                · have := of_decide_eq_true hs; omega
                · rename_i c; have := of_decide_eq_true hs; simp at c; rw [c]; simp; omega)
              obtain ⟨p, m, t⟩ := x
              obtain ⟨e0, e1, e2⟩ := hst'
              dsimp only at e0 e1 e2 hmk hxs
              have i1 : (k : Int) < (l.length : Int) := by omega
              have i0 : (0 : Int) ≤ (k : Int) := by omega
              obtain ⟨q, hq⟩ : ∃ q, q = sumK (l.take k) := ⟨_, rfl⟩
              obtain ⟨q2, hq2⟩ : ∃ q2, q2 = sumK (l.take (k + 1)) := ⟨_, rfl⟩
              rw [← hq, ← hq2] at HS
              rw [← hq] at hsb ⊢
              have HQ2 := Lib.hid hq2
              have HQ := Lib.hid hq
              clear hq hq2
              cases hs : stS ⟨p, m, t⟩ with
              | true =>
                rw [hs] at IS
                have hb3 := hbm hs
                have hx3 := hxs hs
                have HMK := Lib.hid hmk
                have HHS := Lib.hid hs
                have TL := Lib.hid (show (⟨t.toArray⟩ : ByteArray).size = t.length from rfl)
                clear hbm hs hmk hxs
                by_cases hgt : n < q
                · have HRR := Lib.hid (show res = false by
                    rw [HR2.out]
                    by_cases c : l.all stS = true
                    · have := sumK_mono l k hk (fun x hx => List.all_eq_true.1 c x hx)
                      rw [← HQ.out] at this
                      rw [c, decide_eq_false (by omega)]; rfl
                    · rw [Bool.not_eq_true] at c; rw [c]; rfl)
                  go_wp2_with fail
                  refine (IS _).out.mono ?_
                  rintro e w2 ⟨rfl, hb2⟩
                  have E2 := (hb2.cell (World.block_lt_of_cell? wr _ d2)).trans d2
                  have HB3 := Lib.hid (HB.out.trans (hb2.mono HB.out.size))
                  clear hb2
                  go_wp2_with fail
                  go_ret
                  exact ⟨by rw [HRR.out]; rfl, B0.out.trans (HB3.out.mono B0.out.size)⟩
                · have hgt' : ¬ n < q := hgt
                  go_wp2_with fail
                  refine (IS _).out.mono ?_
                  rintro e w2 ⟨rfl, hb2⟩
                  have E2 := (hb2.cell (World.block_lt_of_cell? wr _ d2)).trans d2
                  have E3 := (hb2.cell (World.block_lt_of_cell? wr _ d3)).trans d3
                  have g1 := (hb2.cell (World.block_lt_of_cell? wr _ e1)).trans e1
                  have g2 := (hb2.cell (World.block_lt_of_cell? wr _ e2)).trans e2
                  have HB3 := Lib.hid (HB.out.trans (hb2.mono HB.out.size))
                  clear hb2 d2 d3 e0 e1 e2
                  have W1 : IntKind.i64.wrap (q + m) = q + m := by rw [IntKind.wrap_i64]; omega
                  have W2 : IntKind.i64.wrap (q + m + (t.length : Int)) = q2 := by rw [IntKind.wrap_i64, HS.out, HMK.out]; omega
                  go_wp2_with fail
                  go_quiet (fail)
                  have HBQ := Lib.hid (HB3.out.trans ((Below_drewN (Below.refl w2.heap.size w2) nq).mono HB3.out.size))
                  generalize w2.drewN nq = w3 at *
                  have W3 : q + m + (t.length : Int) = q2 := by rw [HS.out, HMK.out]; omega
                  try rw [W3]
                  clear E2 E3 g1 g2 W1 W2 W3
                  go_wp2_with fail
                  go_roundw
                  case rel => exact ⟨k + 1, by omega, by go_num, by rw [← HQ2.out], by rw [HTK.out]; intro x hx; rcases List.mem_append.1 hx with hx | hx; (exact HALL.out x hx); (simp at hx; subst hx; exact HHS.out), HBQ.out⟩
                  case measure => simp [intOf]; omega
              | false =>
                rw [hs] at IS
                have HRR := Lib.hid (show res = false by
                  rw [HR2.out]
                  have : l.all stS = false := List.all_eq_false.2 ⟨_, HMEM.out, by rw [hs]; simp⟩
                  rw [this]; rfl)
                clear hs hbm hmk hxs
                go_wp2_with fail
                refine (IS _).out.mono ?_
                rintro e w2 ⟨rfl, hb2⟩
                have HB3 := Lib.hid (HB.out.trans (hb2.mono HB.out.size))
                clear hb2
                go_wp2_with fail
                go_ret
                exact ⟨by rw [HRR.out]; rfl, B0.out.trans (HB3.out.mono B0.out.size)⟩
            · obtain rfl : k = l.length := by omega
              have i1 : ¬ (l.length : Int) < (l.length : Int) := by omega
              rw [List.take_length] at hall ⊢
              have hst : l.all stS = true := List.all_eq_true.2 hall
              have HRR := Lib.hid (show res = (sumK l == n) by rw [HR2.out, hst, Bool.true_and]; by_cases c : sumK l = n <;> simp [c])
              clear hall hst hsb
              generalize sumK l = q at *
              go_wp2_with fail
              go_ret
              exact ⟨by rw [HRR.out]; rfl, B0.out.trans (HB.out.mono B0.out.size)⟩
        · have q4 : 524288 < n := by omega
          have HRR := Lib.hid (show res = false by rw [HR.out, decide_eq_false (p := 0 ≤ n ∧ n ≤ 524288) (fun c => c4 c.2)]; simp)
          clear HR c1 c2
          go_enter Try.func16, Try.ntmps16
          go_wp2
          go_ret
          exact ⟨by rw [HRR.out]; rfl, B0.out⟩
      · have q3 : n < 0 := by omega
        have HRR := Lib.hid (show res = false by rw [HR.out, decide_eq_false (p := 0 ≤ n ∧ n ≤ 524288) (fun c => c3 c.1)]; simp)
        clear HR c1 c2
        go_enter Try.func16, Try.ntmps16
        go_wp2
        go_ret
        exact ⟨by rw [HRR.out]; rfl, B0.out⟩
    · have q2 : ((mm.length : Int) != 32) = true := by simp; omega
      have HRR := Lib.hid (show res = false by rw [HR.out, decide_eq_false c2]; simp)
      clear HR c1 c2
      go_enter Try.func16, Try.ntmps16
      go_wp2
      go_ret
      exact ⟨by rw [HRR.out]; rfl, B0.out⟩
  · have q1 : ((bm.length : Int) != 32) = true := by simp; omega
    have HRR := Lib.hid (show res = false by rw [HR.out, decide_eq_false c1]; simp)
    clear HR c1
    go_enter Try.func16, Try.ntmps16
    go_wp2
    go_ret
    exact ⟨by rw [HRR.out]; rfl, B0.out⟩
end Go.Proofs.Ytpkgjokehgihjaa

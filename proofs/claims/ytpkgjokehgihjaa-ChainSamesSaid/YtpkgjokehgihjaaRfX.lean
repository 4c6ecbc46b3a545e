/- Several texts in one: RefBookW, RefMatW, RefMakeW. -/
import Derived.Test.YtpkgjokehgihjaaBookW
import Derived.Test.YtpkgjokehgihjaaGen
import Derived.Test.YtpkgjokehgihjaaInfos
import Derived.Test.YtpkgjokehgihjaaMarkMath
import Derived.Test.YtpkgjokehgihjaaOwnL
import Derived.Test.YtpkgjokehgihjaaRows
import Derived.Test.YtpkgjokehgihjaaShelf
import Derived.Deep.CutBlock
import Derived.Deep.DeepCutAuto
import Derived.Deep.RegionHeld3
import Derived.IntWalk
import Derived.Laws.BitsAllLaws
import Derived.Laws.Rows
import Derived.Laws.Tables
import Derived.Lib.Hide
import Derived.Maps.AppendAt
import Derived.OpenShut
import Derived.Outline
import Derived.ProofKit
import Derived.ShutString
import Derived.SizedLaws
import Derived.SliceStrings
import Derived.WalkKit
import Derived.WalkLawsBesides
import Derived.WalkSpells
import Derived.Test.YtpkgjokehgihjaaTabX
import Derived.Test.YtpkgjokehgihjaaCmpW
import Derived.Test.YtpkgjokehgihjaaFrame
import Derived.Test.YtpkgjokehgihjaaNewTabW
import Derived.Test.YtpkgjokehgihjaaProg
import Derived.Test.YtpkgjokehgihjaaCdX
import Derived.Test.YtpkgjokehgihjaaRollMath
import Derived.Test.YtpkgjokehgihjaaSigAt
import Derived.Test.YtpkgjokehgihjaaSignAW
import Derived.Test.YtpkgjokehgihjaaSignMath
import Derived.Test.YtpkgjokehgihjaaSignW
import Derived.Test.YtpkgjokehgihjaaSortX
import Derived.Test.YtpkgjokehgihjaaSortEW
import Derived.Test.YtpkgjokehgihjaaWkX
import Derived.BigQuiet
import Derived.Deep.QuietTactic
import Derived.Deep.RegionLaw
import Derived.Laws.MakeOwn
import Derived.StillTailTactics
import Derived.Test.YtpkgjokehgihjaaAgX
import Derived.Test.YtpkgjokehgihjaaDelX
import Derived.Test.YtpkgjokehgihjaaGaX
import Derived.Test.YtpkgjokehgihjaaRollX
import Derived.Test.YtpkgjokehgihjaaRowKeep
import Derived.Deep.LoopGhost
import Derived.Sort.Walk0
/- Walks of the document's own book, where it numbers. -/
set_option linter.unusedVariables false
namespace Go.Proofs.Ytpkgjokehgihjaa
open Go.RowKit

/-- Where a list's row may lie behind an append. -/
def Moved (w : World) (v v' : Value) : Prop := ∀ g, v'.ownBlock = some g → v.ownBlock = some g ∨ w.heap.size ≤ g
theorem Moved.refl (w : World) (v : Value) : Moved w v v := fun g h => .inl h
section
variable {P : Program}
theorem append_elem_at {α : Type} {enc : α → Value} {w : World} {ops : Array Oper} {rest : List Oper} {o : Oper} {a : Act} {Q : Exit → Act → World → Prop} (hgd : o.guard = none) (s x : Operand) (t e : TypeId) (z : Value) (bytes : Nat)
    (ho : o.op = .call { callee := .builtin .append, args := #[s, x], argTypes := #[t, t] }) (ht : P.underlying t = some (.slice e))
    (hinfo : (P.info? e).map (fun i => (i.zero, i.size, i.bytes)) = some (some z, 1, bytes)) (hz : z.cells.size = 1)
    (base : Nat) (v : Value) (l : List α) (y : α) (hone : (enc y).oneCell' = true) (hs : a.eval s = v) (hown : OwnL enc w base e v l) (hx : a.eval x = .slice (some ⟨w.heap.size, 0, none⟩) 1 1)
    (hlen : (l.length + 1) * bytes ≤ 140737488355328) (hlen2 : l.length + 1 ≤ maxLen) (hbase : base ≤ w.heap.size)
    (h : ∀ v' w', OwnL enc w' base e v' (l ++ [y]) → Kept (fun k => v.ownBlock = some k) w w' → Moved w v v' → wpList P ops Q rest (a.put o.dst v') w') :
    wpList P ops Q (o :: rest) a (w.alloc (.cells #[enc y] e)) := by
  obtain ⟨i0, hi, hz0, hz1, hz2⟩ := info_parts hinfo
  refine wpList_append_own_at _ hgd s x t ho base e i0 z 1 bytes ht hi hz0 hz1 hz2 hz (by decide) v l.length (l.map enc) hs (World.ownsRow.alloc hown _) ⟨w.heap.size, 0, none⟩ 1 1 [enc y] hx rfl ?_ ?_ hlen2 hlen ?_ ?_
  · exact cell_one_new w (enc y) e
  · intro u hu; simp at hu; subst hu; exact hone
  · simp; omega
  · intro v' w' hown' hg _ hat
    refine h v' w' ?_ ?_ ?_
    · unfold OwnL
      rw [List.map_append, List.length_append]
      exact hown'
    · have k1 : Kept (fun k => v.ownBlock = some k) w (w.alloc (.cells #[enc y] e)) := (Kept.refl _ _).alloc _
      refine k1.trans ⟨hg.os, hg.tape, hg.output, hg.size, fun k hk hm => hg.block k hk (fun he => hm he.symm)⟩
    · intro g hg'
      rcases hat with h | h
      · exact .inl (by rw [← h]; exact hg')
      · right
        rw [hg'] at h
        simp at h
        omega
end


theorem OwnL.shape {w : World} {base : Nat} {e : TypeId} {v : Value} {S : List Txt} (h : OwnL encT w base e v S) : ∃ a n c, v = .slice a n c := by
  obtain ⟨a, c, rfl, _⟩ := h.row
  exact ⟨_, _, _, rfl⟩
theorem idxOf_first (S : List Txt) (s : Txt) (k : Nat) (hk : k < S.length) (h : s ∉ S.take k) (he : S[k] = s) : S.idxOf s = k := by
  have e : S = S.take k ++ S.drop k := (List.take_append_drop _ _).symm
  rw [e, List.idxOf_append, if_neg h, List.drop_eq_getElem_cons hk, he, List.idxOf_cons_self, List.length_take]
  omega
theorem not_mem_take_succ (S : List Txt) (s : Txt) (k : Nat) (hk : k < S.length) (h : s ∉ S.take k) (he : S[k] ≠ s) : s ∉ S.take (k + 1) := by
  rw [List.take_succ_eq_append_getElem hk]
  intro hm
  rcases List.mem_append.1 hm with hm | hm
  · exact h hm
  · simp at hm; exact he hm.symm
/-- Where a text stands, or -1. -/
def placeS (S : List Txt) (s : Txt) : Int := if s ∈ S then ((S.idxOf s : Nat) : Int) else -1


theorem placeS_in {S : List Txt} {s : Txt} (h : s ∈ S) : placeS S s = ((S.idxOf s : Nat) : Int) := if_pos h
theorem placeS_no {S : List Txt} {s : Txt} (h : s ∉ S) : placeS S s = -1 := if_neg h
theorem noS_idx (S : List Txt) (s : Txt) (k : Nat) (h : S.idxOf s = k) : noS S s = k + 1 := by unfold noS; rw [h]



end Go.Proofs.Ytpkgjokehgihjaa
/- Walks of the document's Match and Tail, by any book of the document. -/
set_option linter.unusedVariables false
namespace Go.Proofs.Ytpkgjokehgihjaa
open Go.RowKit

/-- A world that a predicate holds of. -/
structure RchOf (Q : World → Prop) where
  w : World
  h : Q w
theorem wp_region_rch {P : Program} {id : Nat} {R : Exit → Act → World → Prop} {a : Act} {w0 : World} {l : List Oper} (Q : World → Prop) [Inhabited (RchOf Q)] (hm : P.follows .mixedOrders = true) (hB : Region.lexB .any l.toArray = true) (hq : Q w0.drew)
    (h : wpQuiet P l.toArray (fun w' => ∃ p : RchOf Q, w' = p.w) (fun a' => ∀ w', (∃ p : RchOf Q, w' = p.w) → R .normal a' w') l a) : (Code.region id l.toArray true).wp P R a w0 :=
  wp_region_quiet (C := fun w' => ∃ p : RchOf Q, w' = p.w) hm hB ⟨⟨w0.drew, hq⟩, rfl⟩ (by simpa using h)
theorem rch_calls {P : Program} {f : FuncId} {args : Array Value} {Q : World → Prop} {p : RchOf Q} {v : Value} (h : Calls P f args p.w fun e w' => e = .returned v ∧ Q w') :
    Calls P f args p.w fun e w'' => e = .returned v ∧ ∃ p' : RchOf Q, w'' = p'.w :=
  h.mono fun _ w' ⟨he, hb⟩ => ⟨he, ⟨w', hb⟩, rfl⟩

/-- A book of the document that marks one text, from world w0 and state s on. -/
structure Rch {σ : Type} (At : World → σ → Prop) (F : σ → Nat → Prop) (nq : σ → Txt → σ → Prop) (w0 : World) (s : σ) (t : Txt) (w' : World) (s' : σ) : Prop where
  at' : At w' s'
  nx : nq s t s'
  kept : Kept (F s) w0 w'
  new : ∀ k, F s' k → F s k ∨ w0.heap.size ≤ k
section
variable {qp : Value} {σ : Type} {At : World → σ → Prop} {F : σ → Nat → Prop} {nq : σ → Txt → σ → Prop} {mk : σ → Txt → Txt} {ok : Nat → σ → Prop}
theorem Rch.later {w0 w1 w : World} {s s' : σ} {t : Txt} (h : Rch At F nq w1 s t w s') (hb : Below w0.heap.size w0 w1) : Rch At F nq w0 s t w s' :=
  ⟨h.at', h.nx, (Kept.new hb _).trans h.kept, fun k hk => (h.new k hk).imp id (fun h => Nat.le_trans hb.size h)⟩
theorem Rch.cell {w0 w : World} {s s' : σ} {t : Txt} (h : Rch At F nq w0 s t w s') {b o : Nat} {v : Value} (hc : w0.cell? ⟨b, o, none⟩ = some v) (hn : ¬ F s b) : w.cell? ⟨b, o, none⟩ = some v := by
  have hlt := World.block_lt_of_cell? w0 _ hc
  have := h.kept.block b hlt hn
  unfold World.cell? at hc ⊢
  simp only at hc ⊢
  rw [this]; exact hc
end

theorem fst_yes {is : Txt → Bool} {ms : List Txt} {l : List Nat} {j : Nat} (h : j < l.length) (hi : is (mOf ms l[j]) = true) : fstS is ms (l.drop j) = (l[j] : Nat) := by
  rw [List.drop_eq_getElem_cons h]
  exact fstS_yes (l := l[j] :: l.drop (j + 1)) (Nat.succ_pos _) hi
theorem fst_no {is : Txt → Bool} {ms : List Txt} {l : List Nat} {j : Nat} (h : j < l.length) (hi : is (mOf ms l[j]) = false) : fstS is ms (l.drop j) = fstS is ms (l.drop (j + 1)) := by
  rw [List.drop_eq_getElem_cons h]
  unfold fstS
  rw [List.find?_cons_of_neg (by rw [hi]; simp)]
def lastV : Value → Nat
  | .int _ n => (n + 1).toNat
  | _ => 0
theorem tail_form {is : Txt → Bool} {ws : List Int} {ms : List Txt} {B M : Nat} {t : Txt} (hB : 16 ≤ B) (hlw : ws.length = nBlk M B) :
    (M % B = 0 → tailZ is ws ms (M / B) B M t = false) ∧ (M % B ≠ 0 → ws.length = M / B + 1 ∧ (t.length ≠ M % B → tailZ is ws ms (M / B) B M t = false) ∧ (t.length = M % B → tailZ is ws ms (M / B) B M t = (decide (((wk t : Nat) : Int) = wOf ws (M / B)) && is (mOf ms (M / B))))) := by
  have e1 := Nat.div_add_mod M B
  have hm := Nat.mod_lt M (show 0 < B by omega)
  unfold nBlk at hlw
  unfold tailZ
  generalize hq : M / B = q at *
  generalize M % B = r at *
  have hcm : B * q = q * B := Nat.mul_comm _ _
  have e2 : M + B - 1 = (r + B - 1) + B * q := by omega
  rw [e2, Nat.add_mul_div_left _ _ (show 0 < B by omega)] at hlw
  constructor
  · intro h0
    rw [h0, Nat.div_eq_of_lt (show 0 + B - 1 < B by omega)] at hlw
    rw [decide_eq_false (show ¬ q ≠ ws.length by omega)]; rfl
  · intro h0
    rw [show r + B - 1 = (r - 1) + B by omega, Nat.add_div_right _ (by omega), Nat.div_eq_of_lt (show r - 1 < B by omega)] at hlw
    refine ⟨by omega, fun h => ?_, fun h => ?_⟩
    · rw [decide_eq_false (show ¬ t.length + q * B = M by omega)]; simp
    · rw [decide_eq_true (show t.length + q * B = M by omega), decide_eq_true (show q ≠ ws.length by omega)]; simp

end Go.Proofs.Ytpkgjokehgihjaa
/- Walks of the document's Texts, Copy, Make. -/
set_option linter.unusedVariables false
namespace Go.Proofs.Ytpkgjokehgihjaa
open Go.RowKit

theorem gather_short (l : List DSt) (s : Txt) (h0 : 0 < s.length) (h : s.length ≤ 4096) : gatherS l s = l ++ [txtSt s] := by
  rw [gather_cons l s h0, List.drop_of_length_le h, gather_nil, List.take_of_length_le h]
set_option maxRecDepth 100000 in
set_option maxHeartbeats 1000000 in
theorem refTexts_any (base n : Nat) (v : Value) (l : List DSt) (s : Txt) (w : World) (h : OwnS w base v l) (hok : OkL n l) (hn : n + s.length ≤ 1100000) (hb : base ≤ w.heap.size) :
    Calls Try.prog 51 #[v, .string ⟨s.toArray⟩] w fun e w' => ∃ v', e = .returned v' ∧ OwnS w' base v' (gatherS l s) ∧ TurnS base w v w' v' := by
  have H0 := Lib.hid h; clear h
  have hlen := hok.len
  have HB0 := hb
  go_enter Try.func51, Try.ntmps51
  go_wp2_with fail
  go_loopw [0, 1] (fun a b wr => ∃ (l1 : List DSt) (r : Txt), b = .string ⟨r.toArray⟩ ∧ OwnS wr base a l1 ∧ Hid (gatherS l1 r = gatherS l s) ∧ l1.length + r.length ≤ 1100000 ∧ TurnS base w v wr a) (fun _ b _ => lenT b)
  case atStart => exact ⟨l, s, rfl, H0.out, Lib.hid rfl, by omega, TurnS.refl _ _ _⟩
  case round =>
    obtain ⟨l1, r, rfl, ho, HG, hll, htn⟩ := hrel
    have HO := Lib.hid ho; clear ho
    have RL := Lib.hid (show (⟨r.toArray⟩ : ByteArray).size = r.length from rfl)
    have hll1 : l1.length ≤ 2000000 := by omega
    have hsz : base ≤ wr.heap.size := by have := htn.kept.size; omega
    have HTN := Lib.hid htn; clear htn
    by_cases hlt : 4096 < r.length
    · have i1 : (4096 : Int) < (r.length : Int) := by omega
      have i2 : (4096 : Int) ≤ (r.length : Int) := by omega
      have HE := Lib.hid (show (⟨r.toArray⟩ : ByteArray).extract 0 4096 = ⟨(r.take 4096).toArray⟩ from take_toArray r 4096)
      have HE2 := Lib.hid (show (⟨r.toArray⟩ : ByteArray).extract 4096 r.length = ⟨(r.drop 4096).toArray⟩ from drop_toArray r 4096 r.length (Nat.le_refl _))
      have HG2 := Lib.hid ((gather_one l1 r (by omega)).trans HG.out)
      have HDL := Lib.hid (show l1.length + 1 + (r.drop 4096).length ≤ 1100000 by rw [List.length_drop]; omega)
      have HDS := Lib.hid (show (r.drop 4096).length < r.length by rw [List.length_drop]; omega)
      generalize r.take 4096 = t at *
      generalize r.drop 4096 = r2 at *
      go_upto_region 2 with fail
      go_wp2_with (first | (rw [HE.out]) | (at_builtin; (try rw [HE.out]); refine append_st (w := wr) (by rfl) (.tmp 8) (.tmp 12) 22 _ (by rfl) Try.underlying22 info_step (by rfl) base u0 l1 (txtSt t) (by rfl) HO.out (by rfl) hll1 hsz ?_; intro v' w3 hown3 htn3) | fail)
      have O3 := Lib.hid hown3; clear hown3
      have T3 := Lib.hid (HTN.out.trans htn3); clear htn3 HTN HO
      go_wp2_with (first | (rw [HE2.out]) | fail)
      go_roundw
      case rel => exact ⟨_, r2, by rw [HE2.out], O3.out, HG2, by simp; have := HDL.out; omega, T3.out⟩
      case measure =>
        rw [HE2.out]
        exact HDS.out
    · have i1 : ¬ (4096 : Int) < (r.length : Int) := by omega
      by_cases h0 : 0 < r.length
      · have hne : r.isEmpty = false := by cases r <;> simp_all
        have HG2 := Lib.hid (show l1 ++ [txtSt r] = gatherS l s by rw [← HG.out, gather_short l1 r h0 (by omega)])
        go_wp2_with (first | (at_builtin; refine append_st (w := wr) (by rfl) (.tmp 18) (.tmp 21) 22 _ (by rfl) Try.underlying22 info_step (by rfl) base u0 l1 (txtSt r) (by rfl) HO.out (by rfl) hll1 hsz ?_; intro v' w3 hown3 htn3) | fail)
        go_ret
        exact ⟨_, rfl, by rw [← HG2.out]; exact hown3, HTN.out.trans htn3⟩
      · obtain rfl : r = [] := List.eq_nil_of_length_eq_zero (by omega)
        have HG2 := Lib.hid (show l1 = gatherS l s by rw [← HG.out, gather_nil])
        clear HG
        go_wp2_with fail
        go_ret
        exact ⟨_, rfl, by rw [← HG2.out]; exact HO.out, HTN.out⟩

set_option maxRecDepth 100000 in
set_option maxHeartbeats 1000000 in
theorem refCopy_any (base n : Nat) (v : Value) (l : List DSt) (a k : Int) (w : World) (h : OwnS w base v l) (hok : OkL n l) (hn : n ≤ 1100000) (ha : 0 ≤ a) (ha2 : a ≤ 1073741824) (hk : 0 ≤ k) (hk2 : k ≤ 1100000) (hb : base ≤ w.heap.size) :
    Calls Try.prog 52 #[v, .int .i64 a, .int .i64 k] w fun e w' => ∃ v', e = .returned v' ∧ OwnS w' base v' (takeS l a k) ∧ TurnS base w v w' v' := by
  have H0 := Lib.hid h; clear h
  have HB := Lib.hid hb; clear hb
  have hlen := hok.len
  rcases List.eq_nil_or_concat l with rfl | ⟨l1, x, rfl⟩
  · obtain ⟨s0, m0, c0, rfl⟩ := own_slice H0.out
    obtain rfl : m0 = 0 := own_lenV H0.out
    go_enter Try.func52, Try.ntmps52
    go_wp2_with fail
    go_quiet (fail)
    have hbq := Below_drewN (Below.refl w.heap.size w) nq
    have H1 := Lib.hid (show OwnS (w.drewN nq) base (.slice s0 0 c0) [] from H0.out.new hbq)
    have HTQ := Lib.hid (show TurnS base w (.slice s0 0 c0) (w.drewN nq) (.slice s0 0 c0) from ⟨hbq.mono HB.out, Kept.new hbq _, fun g' e => .inl e⟩)
    have hsz : base ≤ (w.drewN nq).heap.size := HB.out
    clear hbq
    generalize w.drewN nq = w1 at *
    go_wp2_with (at_builtin; refine append_st (w := w1) (by rfl) (.tmp 48) (.tmp 52) 22 _ (by rfl) Try.underlying22 info_step (by rfl) base _ [] ⟨a, k, []⟩ (by rfl) H1.out (by rfl) (by simp) hsz ?_; intro v' w3 hown3 htn3)
    go_ret
    exact ⟨_, rfl, hown3, HTQ.out.trans htn3⟩
  · rw [List.concat_eq_append] at H0 hok hlen ⊢
    have hx := hok.el x (by simp)
    rw [List.length_append, List.length_singleton] at hlen
    obtain ⟨p, m, t⟩ := x
    dsimp only at hx
    obtain ⟨x1, x2, x3, x4⟩ := hx
    obtain ⟨g, cap, rfl, hg, hst⟩ := own_last H0.out
    obtain ⟨d0, d1, d2⟩ := hst
    dsimp only at d0 d1 d2
    have HT := Lib.hid (take_snoc l1 ⟨p, m, t⟩ a k)
    dsimp only at HT
    have i2 : ((l1.length + 1 : Nat) : Int) - 1 = (l1.length : Int) := by omega
    have i3 : (l1.length : Int) < ((l1.length + 1 : Nat) : Int) := by omega
    have i4 : (0 : Int) ≤ (l1.length : Int) := by omega
    have i5 : decide ((0 : Int) ≤ (l1.length : Int)) = true := decide_eq_true i4
    generalize takeS (l1 ++ [⟨p, m, t⟩]) a k = res at *
    by_cases h1 : t = []
    · subst h1
      by_cases h2 : p + m = a
      · have HR := Lib.hid (show res = l1 ++ [⟨p, m + k, []⟩] by rw [HT.out, if_pos ⟨rfl, h2⟩])
        have q1 : (p + m == a) = true := by simp [h2]
        clear HT h2 hok
        go_enter Try.func52, Try.ntmps52
        go_wp2_with fail
        go_quiet (fail)
        have hbq := Below_drewN (Below.refl w.heap.size w) nq
        have hkq : Kept (fun k => (Value.slice (some ⟨g, 0, none⟩) (l1.length + 1) cap).ownBlock = some k) w (w.drewN nq) := Kept.new hbq _
        have H1 := Lib.hid (H0.out.new hbq)
        obtain ⟨hs1, fz1, hg1⟩ := H1.out.set (m + k)
        have HS := Lib.hid hs1
        have HTN := Lib.hid (show TurnS base w (.slice (some ⟨g, 0, none⟩) (l1.length + 1) cap) ((w.drewN nq).setCell ⟨g, l1.length * 3 + 1, none⟩ (.int .i64 (m + k))) (.slice (some ⟨g, 0, none⟩) (l1.length + 1) cap) from
          ⟨(hbq.mono HB.out).setCell (p := ⟨g, l1.length * 3 + 1, none⟩) hg1 _, hkq.setCell (p := ⟨g, l1.length * 3 + 1, none⟩) rfl _, fun g' e => .inl e⟩)
        have E1 : (w.drewN nq).cell? ⟨g, l1.length * 3 + 1, none⟩ = _ := d1
        clear hs1 hbq hkq d0 d1 d2
        generalize w.drewN nq = w1 at *
        go_wp2_with fail
        go_ret
        exact ⟨_, rfl, by rw [HR.out]; exact HS.out, HTN.out⟩
      · have HR := Lib.hid (show res = l1 ++ [⟨p, m, []⟩] ++ [⟨a, k, []⟩] by rw [HT.out, if_neg (fun c => h2 c.2)])
        have q1 : (p + m == a) = false := by simp [h2]
        clear HT h2 hok
        go_enter Try.func52, Try.ntmps52
        go_wp2_with fail
        go_quiet (fail)
        have hbq := Below_drewN (Below.refl w.heap.size w) nq
        have hkq : Kept (fun k => (Value.slice (some ⟨g, 0, none⟩) (l1.length + 1) cap).ownBlock = some k) w (w.drewN nq) := Kept.new hbq _
        have H1 := Lib.hid (H0.out.new hbq)
        have HTQ := Lib.hid (show TurnS base w (.slice (some ⟨g, 0, none⟩) (l1.length + 1) cap) (w.drewN nq) (.slice (some ⟨g, 0, none⟩) (l1.length + 1) cap) from ⟨hbq.mono HB.out, hkq, fun g' e => .inl e⟩)
        have hsz : base ≤ (w.drewN nq).heap.size := HB.out
        clear hbq hkq d0 d1 d2
        generalize w.drewN nq = w1 at *
        go_wp2_with (at_builtin; refine append_st (w := w1) (by rfl) (.tmp 48) (.tmp 52) 22 _ (by rfl) Try.underlying22 info_step (by rfl) base _ (l1 ++ [⟨p, m, []⟩]) ⟨a, k, []⟩ (by rfl) H1.out (by rfl) (by rw [List.length_append, List.length_singleton]; omega) hsz ?_; intro v' w3 hown3 htn3)
        go_ret
        exact ⟨_, rfl, by rw [HR.out]; exact hown3, HTQ.out.trans htn3⟩
    · have HR := Lib.hid (show res = l1 ++ [⟨p, m, t⟩] ++ [⟨a, k, []⟩] by rw [HT.out, if_neg (fun c => h1 c.1)])
      have hne : t.isEmpty = false := by cases t <;> simp_all
      clear HT h1 hok
      go_enter Try.func52, Try.ntmps52
      go_wp2_with fail
      go_quiet (fail)
      have hbq := Below_drewN (Below.refl w.heap.size w) nq
      have hkq : Kept (fun k => (Value.slice (some ⟨g, 0, none⟩) (l1.length + 1) cap).ownBlock = some k) w (w.drewN nq) := Kept.new hbq _
      have H1 := Lib.hid (H0.out.new hbq)
      have HTQ := Lib.hid (show TurnS base w (.slice (some ⟨g, 0, none⟩) (l1.length + 1) cap) (w.drewN nq) (.slice (some ⟨g, 0, none⟩) (l1.length + 1) cap) from ⟨hbq.mono HB.out, hkq, fun g' e => .inl e⟩)
      have hsz : base ≤ (w.drewN nq).heap.size := HB.out
      clear hbq hkq d0 d1 d2
      generalize w.drewN nq = w1 at *
      go_wp2_with (at_builtin; refine append_st (w := w1) (by rfl) (.tmp 48) (.tmp 52) 22 _ (by rfl) Try.underlying22 info_step (by rfl) base _ (l1 ++ [⟨p, m, t⟩]) ⟨a, k, []⟩ (by rfl) H1.out (by rfl) (by rw [List.length_append, List.length_singleton]; omega) hsz ?_; intro v' w3 hown3 htn3)
      go_ret
      exact ⟨_, rfl, by rw [HR.out]; exact hown3, HTQ.out.trans htn3⟩
end Go.Proofs.Ytpkgjokehgihjaa

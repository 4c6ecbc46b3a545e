/- Several texts in one: BtRow, RefBtW, RefSt7W. -/
import Derived.Test.YtpkgjokehgihjaaTyX
import Derived.Test.YtpkgjokehgihjaaDelX
import Derived.Test.YtpkgjokehgihjaaFrame
import Derived.Test.YtpkgjokehgihjaaGen
import Derived.Test.YtpkgjokehgihjaaOwnL
import Derived.Test.YtpkgjokehgihjaaProg
import Derived.Test.YtpkgjokehgihjaaRollMath
import Derived.Test.YtpkgjokehgihjaaRowKeep
import Derived.Test.YtpkgjokehgihjaaSignMath
import Derived.Test.YtpkgjokehgihjaaRows
import Derived.Test.YtpkgjokehgihjaaSrX
import Derived.BigQuiet
import Derived.Deep.QuietTactic
import Derived.IntWalk
import Derived.Laws.Rows
import Derived.Laws.Tables
import Derived.Lib.Hide
import Derived.Outline
import Derived.WalkKit
import Derived.WalkLawsBesides
import Derived.WalkSpells
import Derived.Test.YtpkgjokehgihjaaAgX
import Derived.Test.YtpkgjokehgihjaaBookW
import Derived.Test.YtpkgjokehgihjaaMarkMath
import Derived.Test.YtpkgjokehgihjaaTabX
import Derived.Test.YtpkgjokehgihjaaRollX
import Derived.Test.YtpkgjokehgihjaaCdX
import Derived.Test.YtpkgjokehgihjaaRfX
import Derived.Test.YtpkgjokehgihjaaShelf
import Derived.Test.YtpkgjokehgihjaaSigAt
import Derived.Test.YtpkgjokehgihjaaSortX
import Derived.Test.YtpkgjokehgihjaaSortEW
import Derived.Test.YtpkgjokehgihjaaSortFW
import Derived.BigRegion
import Derived.Deep.CutBlock
import Derived.Deep.DeepCutAuto
import Derived.Deep.LoopGhost
import Derived.Deep.RegionHeld3
import Derived.Deep.RegionLaw
import Derived.Laws.BitsAllLaws
import Derived.Laws.MakeOwn
import Derived.Sort.Walk0
import Derived.StillTailTactics
/- Lists of the document's bytes of a text (told, or of which place): of the call's own; one appended. Of no program. -/
set_option linter.unusedVariables false
namespace Go.Proofs.Ytpkgjokehgihjaa
open Go.RowKit

def tldV : BT → Bool
  | .inl _ => true
  | .inr _ => false
def fromV : BT → Int
  | .inl _ => 0
  | .inr a => a
def chV : BT → Int
  | .inl c => (c.toNat : Int)
  | .inr _ => 0
def btC (b : BT) : List Value := [.bool (tldV b), .int .i64 (fromV b), .int .u8 (chV b)]
abbrev btV (b : BT) : Value := .agg #[.bool (tldV b), .int .i64 (fromV b), .int .u8 (chV b)]
abbrev btO (b : BT) : Obj := .cells #[.bool (tldV b), .int .i64 (fromV b), .int .u8 (chV b)] 73 (0, 0)
def flatB (l : List BT) : List Value := (l.map btC).flatten
theorem flatB_nil : flatB [] = [] := rfl
theorem flatB_cons (x : BT) (l : List BT) : flatB (x :: l) = btC x ++ flatB l := rfl
theorem flatB_append (l m : List BT) : flatB (l ++ m) = flatB l ++ flatB m := by unfold flatB; simp
theorem flatB_one (x : BT) : flatB [x] = btC x := by unfold flatB; simp
theorem flatB_len (l : List BT) : (flatB l).length = l.length * 3 := by
  induction l with
  | nil => rfl
  | cons x l ih => rw [flatB_cons, List.length_append, ih, List.length_cons]; show 3 + _ = _; omega
theorem flatB_get : ∀ (l : List BT) (i : Nat) (h : i < l.length), (flatB l)[i * 3]? = some (.bool (tldV l[i])) ∧ (flatB l)[i * 3 + 1]? = some (.int .i64 (fromV l[i])) ∧ (flatB l)[i * 3 + 2]? = some (.int .u8 (chV l[i])) := by
  intro l
  induction l with
  | nil => intro i h; simp at h
  | cons x l ih =>
    intro i h
    rw [flatB_cons]
    cases i with
    | zero => exact ⟨rfl, rfl, rfl⟩
    | succ i =>
      have := ih i (by simpa using h)
      have e : ∀ r, (btC x ++ flatB l)[(i + 1) * 3 + r]? = (flatB l)[i * 3 + r]? := fun r => by
        rw [List.getElem?_append_right (by show 3 ≤ _; omega)]
        congr 1
        show (i + 1) * 3 + r - 3 = _
        omega
      refine ⟨(e 0).trans this.1, (e 1).trans this.2.1, (e 2).trans this.2.2⟩
/-- A list of them of the call's own. -/
def OwnB (w : World) (base : Nat) (v : Value) (xs : List BT) : Prop := w.ownsRow base 73 3 v xs.length (flatB xs)
theorem OwnB.nil (w : World) (base : Nat) : OwnB w base (.slice none 0 0) [] := World.ownsRow_nil w base _ 3
structure BtAt (w : World) (g o : Nat) (x : BT) : Prop where
  c0 : w.cell? ⟨g, o, none⟩ = some (.bool (tldV x))
  c1 : w.cell? ⟨g, o + 1, none⟩ = some (.int .i64 (fromV x))
  c2 : w.cell? ⟨g, o + 2, none⟩ = some (.int .u8 (chV x))
theorem OwnB.at {w : World} {base : Nat} {v : Value} {xs : List BT} (h : OwnB w base v xs) {i : Nat} (hi : i < xs.length) : ∃ g c, v = .slice (some ⟨g, 0, none⟩) xs.length c ∧ base ≤ g ∧ BtAt w g (i * 3) xs[i] := by
  rcases h.2 with ⟨rfl, hn⟩ | ⟨g, cap, cur, rfl, hb, hg, _⟩
  · omega
  · refine ⟨g, cap, rfl, hb, ?_⟩
    have C := World.ownsRow.cells h (g := g) rfl
    obtain ⟨f0, f1, f2⟩ := flatB_get xs i hi
    have D0 := C _ _ f0
    have D1 := C _ _ f1
    have D2 := C _ _ f2
    rw [addr_add0] at D0 D1 D2
    exact ⟨D0, D1, D2⟩
theorem OwnB.slice {w : World} {base : Nat} {v : Value} {xs : List BT} (h : OwnB w base v xs) : ∃ a c, v = .slice a xs.length c := by
  rcases h.2 with ⟨rfl, hn⟩ | ⟨g, cap, cur, rfl, hb, hg, _⟩
  · exact ⟨none, 0, by rw [hn]⟩
  · exact ⟨_, _, rfl⟩
theorem OwnB.mono {w : World} {base base' : Nat} {v : Value} {xs : List BT} (h : OwnB w base v xs) (hb : base' ≤ base) : OwnB w base' v xs := by
  refine ⟨h.1, ?_⟩
  rcases h.2 with hn | ⟨g, cap, cur, rfl, hg, rest⟩
  · exact .inl hn
  · exact .inr ⟨g, cap, cur, rfl, Nat.le_trans hb hg, rest⟩
theorem OwnB.new {w w' : World} {base : Nat} {v : Value} {xs : List BT} (h : OwnB w base v xs) (hb : Below w.heap.size w w') : OwnB w' base v xs :=
  own_off h (Kept.new hb (fun _ => False)) (fun _ _ _ _ => id)
theorem OwnB.lt {w : World} {base : Nat} {v : Value} {xs : List BT} (h : OwnB w base v xs) {g : Nat} (hg : v.ownBlock = some g) : base ≤ g ∧ g < w.heap.size ∧ ∃ cur, w.heap[g]? = some (.cells cur 73 (0, 0)) := by
  rcases h.2 with ⟨rfl, _⟩ | ⟨g', cap, cur, rfl, hb, hgg, _⟩
  · simp [Value.ownBlock] at hg
  · simp [Value.ownBlock] at hg
    subst hg
    exact ⟨hb, (Array.getElem?_eq_some_iff.1 hgg).1, cur, hgg⟩
section
variable {P : Program}
/-- One that was built behind others of the call's own. -/
theorem append_bt {w : World} {ops : Array Oper} {rest : List Oper} {o : Oper} {a : Act} {Q : Exit → Act → World → Prop} (hgd : o.guard = none) (s x : Operand) (t : TypeId) (z : Value)
    (ho : o.op = .call { callee := .builtin .append, args := #[s, x], argTypes := #[t, t] }) (ht : P.underlying t = some (.slice 73))
    (hinfo : (P.info? 73).map (fun i => (i.zero, i.size, i.bytes)) = some (some z, 3, 24)) (hz : z.cells.size = 3)
    (base : Nat) (v : Value) (l : List BT) (y : BT) (hs : a.eval s = v) (hown : OwnB w base v l) (hx : a.eval x = .slice (some ⟨w.heap.size, 0, none⟩) 1 1)
    (hlen : l.length ≤ 2000000) (hbase : base ≤ w.heap.size)
    (h : ∀ v' w', OwnB w' base v' (l ++ [y]) → TurnS base w v w' v' → wpList P ops Q rest (a.put o.dst v') w') :
    wpList P ops Q (o :: rest) a (w.alloc (.cells #[.bool (tldV y), .int .i64 (fromV y), .int .u8 (chV y)] 73)) := by
  obtain ⟨i0, hi, hz0, hz1, hz2⟩ := info_parts hinfo
  have hw := below_self_alloc w (btO y)
  have hg0 := heap_alloc_new w (btO y)
  have hown1 := hown.new hw
  have hsz := hw.size
  refine wpList_append_own_at _ hgd s x t ho base _ i0 z 3 24 ht hi hz0 hz1 hz2 hz (by decide) v l.length (flatB l) hs hown1 ⟨w.heap.size, 0, none⟩ 1 1 (btC y) hx rfl ?_ ?_ (by unfold maxLen; omega) (by omega) (Nat.le_trans hbase hsz) ?_
  · intro j u hj
    rw [addr_add0]
    match j, hj with
    | 0, hj => simp [btC] at hj; subst hj; rw [cell_of_row _ _ _ _ _ _ hg0]; rfl
    | 1, hj => simp [btC] at hj; subst hj; rw [cell_of_row _ _ _ _ _ _ hg0]; rfl
    | 2, hj => simp [btC] at hj; subst hj; rw [cell_of_row _ _ _ _ _ _ hg0]; rfl
  · intro u hu
    simp [btC] at hu
    rcases hu with rfl | rfl | rfl <;> rfl
  · intro v' w' hown' hg _ hat
    have hb1 : Below base w (w.alloc (btO y)) := hw.mono hbase
    refine h v' w' ?_ ⟨hb1.grown hg (Nat.le_trans hbase hsz) (fun k hk => (World.ownsRow.lt hown1 k hk).1), ?_, fun g' hg' => ?_⟩
    · unfold OwnB
      rw [flatB_append, List.length_append, flatB_one]
      exact hown'
    · have k1 : Kept (fun k => v.ownBlock = some k) w (w.alloc (btO y)) := Kept.new hw _
      exact k1.trans ⟨hg.os, hg.tape, hg.output, hg.size, fun k hk hm => hg.block k hk (fun he => hm he.symm)⟩
    · rcases hat with h | h
      · exact .inl (by rw [← h]; exact hg')
      · right
        rw [hg'] at h
        simp at h
        omega
end
theorem info_bt : (Try.prog.info? 73).map (fun i => (i.zero, i.size, i.bytes)) = some (some (.agg #[.bool false, .int .i64 0, .int .u8 0]), 3, 24) := by kernel_rfl
theorem dstAt_turnB {w w' : World} {base : Nat} {v v' : Value} {g o : Nat} {x : DSt} (h : DStAt w g o x) (ht : TurnS base w v w' v') (hn : ¬ v.ownBlock = some g) : DStAt w' g o x := by
  have hb := ht.kept.block g h.lt hn
  exact ⟨by rw [World.cell?_of_block (w := w) hb]; exact h.c0, by rw [World.cell?_of_block (w := w) hb]; exact h.c1, by rw [World.cell?_of_block (w := w) hb]; exact h.c2⟩
end Go.Proofs.Ytpkgjokehgihjaa
/- The walk of the document's Bytes: where all bytes come from. -/
set_option linter.unusedVariables false
namespace Go.Proofs.Ytpkgjokehgihjaa
open Go.RowKit

set_option maxRecDepth 100000 in
set_option maxHeartbeats 1000000 in
theorem refBytesA_any (N : Nat → Prop) (v : Value) (l : List DSt) (w : World) (h : RowS N w v l) (hs : ∀ x ∈ l, stS x = true) (hl : l.length ≤ 1000000) (hlb : lenB l ≤ 1000000) :
    Calls Try.prog 25 #[v] w fun e w' => ∃ v', e = .returned v' ∧ OwnB w' w.heap.size v' (bytesA l) ∧ Below w.heap.size w w' := by
  have HR := Lib.hid h
  have HS := Lib.hid hs
  obtain ⟨a, c, rfl⟩ := h.slice
  clear h hs
  go_enter Try.func25, Try.ntmps25
  go_wp2_with fail
  go_loopw [3, 4] (fun sv si wr => ∃ k : Nat, k ≤ l.length ∧ si = .int .i64 k ∧ OwnB wr w.heap.size sv (bytesA (l.take k)) ∧ Below w.heap.size w wr) (fun _ si _ => l.length - (intOf si).toNat)
  case atStart => exact ⟨0, by omega, rfl, OwnB.nil _ _, Below.refl _ _⟩
  case round =>
    obtain ⟨k, hk, rfl, hown, hbel⟩ := hrel
    have HO := Lib.hid hown; clear hown
    have HB := Lib.hid hbel; clear hbel
    have hbw := HB.out.size
    by_cases hlt : k < l.length
    · obtain ⟨g, o, c', hv, _, hst⟩ := HR.out.at hlt
      injection hv with hv1 hv2 hv3
      subst hv1
      clear hv2 hv3
      have HST := Lib.hid hst
      obtain ⟨e0, e1, e2⟩ := hst.below HB.out hst.lt
      have hsx := HS.out l[k] (List.getElem_mem _)
      have ho := stok_of hsx
      have HNX := Lib.hid (show bytesA (l.take (k + 1)) = bytesA (l.take k) ++ bytesO l[k] by rw [List.take_succ_eq_append_getElem hlt, bytes_append, bytes_one])
      have hlk := lenB_next l k hlt
      have hmono := lenB_mono l (show k + 1 ≤ l.length by omega)
      rw [List.take_length] at hmono
      have HLK := Lib.hid (show (bytesA (l.take k)).length + (bytesO l[k]).length ≤ 1000000 from (by unfold lenB at hlk hmono hlb; omega))
      clear hlk hmono
      generalize l[k] = x at *
      generalize bytesA (l.take k) = B0 at *
      obtain ⟨p, m, t⟩ := x
      dsimp only at e0 e1 e2
      have i0 : (0 : Int) ≤ (k : Int) := by omega
      have i1 : (k : Int) < (l.length : Int) := by omega
      have W4 : IntKind.i64.wrap ((k : Int) + 1) = (k : Int) + 1 := by rw [IntKind.wrap_i64]; omega
      have hgw : g < w.heap.size := hst.lt
      have HF := fun w' (hb : Below w.heap.size w w') => hst.below hb hst.lt
      clear hst
      by_cases ht : t = []
      · subst ht
        have e2' : wr.cell? ⟨g, o + k * 3 + 2, none⟩ = some (.string ⟨#[]⟩) := e2
        have hm0 : 0 < m ∧ 0 ≤ p ∧ p + m ≤ 524288 := by
          unfold stS at hsx
          rw [if_neg (by simp)] at hsx
          have := of_decide_eq_true hsx
          dsimp only at this
          omega
        obtain ⟨M, rfl⟩ : ∃ M : Nat, m = (M : Int) := ⟨m.toNat, by omega⟩
        have HBO := Lib.hid (show bytesO ⟨p, (M : Int), []⟩ = placesC p M by unfold bytesO; rw [if_neg (by simp), Int.toNat_natCast])
        have hML := HLK.out
        rw [HBO.out, places_len] at hML
        clear e2
        go_wp2_with fail
        go_loopw [3, 6] (fun sv si wq => ∃ j : Nat, j ≤ M ∧ si = .int .i64 j ∧ OwnB wq w.heap.size sv (B0 ++ placesC p j) ∧ Below w.heap.size w wq) (fun _ si _ => M - (intOf si).toNat)
        case atStart => exact ⟨0, by omega, rfl, by rw [places_zero, List.append_nil]; exact HO.out, HB.out⟩
        case round =>
          obtain ⟨j, hj, rfl, hown, hbel⟩ := hrel
          have HO2 := Lib.hid hown; clear hown
          have HB2 := Lib.hid hbel
          have hbq := hbel.size
          obtain ⟨f0, f1, f2⟩ := HF _ hbel
          clear hbel
          dsimp only at f0 f1 f2
          by_cases hjl : j < M
          · have j1 : (j : Int) < (M : Int) := by omega
            have W5 : IntKind.i64.wrap (p + (j : Int)) = p + (j : Int) := by rw [IntKind.wrap_i64]; omega
            have W6 : IntKind.i64.wrap ((j : Int) + 1) = (j : Int) + 1 := by rw [IntKind.wrap_i64]; omega
            have hln : (B0 ++ placesC p j).length ≤ 2000000 := by rw [List.length_append, places_len]; omega
            go_wp2_with (at_builtin; refine append_bt (w := wr) (by rfl) (.tmp 49) (.tmp 58) 38 _ (by rfl) Try.underlying38 info_bt (by rfl) w.heap.size _ (B0 ++ placesC p j) (.inr (p + (j : Int))) (by rfl) HO2.out (by rfl) hln hbq ?_; intro v' w3 hown3 htn3; have HO3 := Lib.hid hown3; have HB3 := Lib.hid (HB2.out.trans htn3.bel); clear hown3 htn3)
            go_roundw
            case rel => exact ⟨j + 1, by omega, by go_num, by rw [places_succ, ← List.append_assoc]; exact HO3.out, HB3.out⟩
            case measure => simp [intOf]; omega
          · obtain rfl : j = M := by omega
            have j1 : ¬ (j : Int) < (j : Int) := by omega
            go_wp2_with fail
            go_roundw
            case rel => exact ⟨k + 1, by omega, by go_num, by rw [HNX.out, HBO.out]; exact HO2.out, HB2.out⟩
            case measure => simp [intOf]; omega
      · have hne : t.isEmpty = false := by cases t <;> simp_all
        have HBO := Lib.hid (show bytesO ⟨p, m, t⟩ = toldC t by unfold bytesO; rw [if_pos ht])
        have hML := HLK.out
        rw [HBO.out, told_len] at hML
        have TL : (⟨t.toArray⟩ : ByteArray).size = t.length := rfl
        go_wp2_with fail
        go_loopw [3, 5] (fun sv si wq => ∃ j : Nat, j ≤ t.length ∧ si = .int .i64 j ∧ OwnB wq w.heap.size sv (B0 ++ toldC (t.take j)) ∧ Below w.heap.size w wq) (fun _ si _ => t.length - (intOf si).toNat)
        case atStart => exact ⟨0, by omega, rfl, by rw [List.take_zero, show toldC [] = [] from rfl, List.append_nil]; exact HO.out, HB.out⟩
        case round =>
          obtain ⟨j, hj, rfl, hown, hbel⟩ := hrel
          have HO2 := Lib.hid hown; clear hown
          have HB2 := Lib.hid hbel
          have hbq := hbel.size
          obtain ⟨f0, f1, f2⟩ := HF _ hbel
          clear hbel
          dsimp only at f0 f1 f2
          by_cases hjl : j < t.length
          · have j0 : (0 : Int) ≤ (j : Int) := by omega
            have j1 : (j : Int) < (t.length : Int) := by omega
            have W6 : IntKind.i64.wrap ((j : Int) + 1) = (j : Int) + 1 := by rw [IntKind.wrap_i64]; omega
            have hln : (B0 ++ toldC (t.take j)).length ≤ 2000000 := by rw [List.length_append, told_len, List.length_take]; omega
            have HTS := Lib.hid (show toldC (t.take (j + 1)) = toldC (t.take j) ++ [.inl t[j]] by rw [List.take_succ_eq_append_getElem hjl]; unfold toldC; rw [List.map_append]; rfl)
            go_wp2_with (at_builtin; refine append_bt (w := wr) (by rfl) (.tmp 29) (.tmp 38) 38 _ (by rfl) Try.underlying38 info_bt (by rfl) w.heap.size _ (B0 ++ toldC (t.take j)) (.inl t[j]) (by rfl) HO2.out (by rfl) hln hbq ?_; intro v' w3 hown3 htn3; have HO3 := Lib.hid hown3; have HB3 := Lib.hid (HB2.out.trans htn3.bel); clear hown3 htn3)
            go_roundw
            case rel => exact ⟨j + 1, by omega, by go_num, by rw [HTS.out, ← List.append_assoc]; exact HO3.out, HB3.out⟩
            case measure => simp [intOf]; omega
          · obtain rfl : j = t.length := by omega
            have j1 : ¬ (t.length : Int) < (t.length : Int) := by omega
            rw [List.take_length] at HO2
            go_wp2_with fail
            go_roundw
            case rel => exact ⟨k + 1, by omega, by go_num, by rw [HNX.out, HBO.out]; exact HO2.out, HB2.out⟩
            case measure => simp [intOf]; omega
    · obtain rfl : k = l.length := by omega
      have i1 : ¬ (l.length : Int) < (l.length : Int) := by omega
      rw [List.take_length] at HO
      go_wp2_with fail
      go_ret
      exact ⟨_, rfl, HO.out, HB.out⟩
end Go.Proofs.Ytpkgjokehgihjaa
/- The walk of the document's Steps: tidy steps of bytes. -/
set_option linter.unusedVariables false
namespace Go.Proofs.Ytpkgjokehgihjaa
open Go.RowKit

theorem tid_okl (B : List BT) : ∀ (st : List DSt × Txt) (n : Nat), OkL n st.1 → InR B 524288 → ∃ m, OkL m (B.foldl tidN st).1 ∧ m + (B.foldl tidN st).2.length ≤ n + st.2.length + B.length := by
  induction B with
  | nil => intro st n h _; exact ⟨n, h, by simp⟩
  | cons b B ih =>
    intro st n h hr
    have hb : InR [b] 524288 ∧ InR B 524288 := InR.append.1 hr
    rw [List.foldl_cons]
    cases b with
    | inl c =>
      obtain ⟨m, h1, h2⟩ := ih (tidN st (.inl c)) n h hb.2
      refine ⟨m, h1, ?_⟩
      have e : (tidN st (.inl c)).2.length = st.2.length + 1 := by show (st.2 ++ [c]).length = _; simp
      rw [e] at h2
      rw [List.length_cons]; omega
    | inr a =>
      have ha := hb.1 (.inr a) (by simp) a rfl
      have hk : OkL (n + st.2.length + 1) (tidN st (.inr a)).1 := (h.gather st.2).take (by omega) (by omega) (by omega) (by omega) (by omega)
      obtain ⟨m, h1, h2⟩ := ih (tidN st (.inr a)) _ hk hb.2
      refine ⟨m, h1, ?_⟩
      have e : (tidN st (.inr a)).2.length = 0 := rfl
      rw [e] at h2
      rw [List.length_cons]; omega
theorem InR.take {B : List BT} {n : Nat} (h : InR B n) (k : Nat) : InR (B.take k) n := fun b hb a e => h b (List.mem_of_mem_take hb) a e
def tidK (B : List BT) (k : Nat) : List DSt × Txt := if k ≤ B.length then (B.take k).foldl tidN ([], []) else (stepsB B, [])
theorem tidK_okl {B : List BT} (hr : InR B 524288) {k : Nat} (hk : k ≤ B.length) : ∃ m, OkL m (tidK B k).1 ∧ m + (tidK B k).2.length ≤ k := by
  unfold tidK
  rw [if_pos hk]
  obtain ⟨m, h1, h2⟩ := tid_okl (B.take k) ([], []) 0 (OkL.nil 0) (hr.take k)
  refine ⟨m, h1, ?_⟩
  rw [List.length_take] at h2
  simp at h2 ⊢
  omega
theorem tidK_succ {B : List BT} {k : Nat} (hk : k < B.length) : tidK B (k + 1) = tidN (tidK B k) B[k] := by
  unfold tidK
  rw [if_pos (by omega), if_pos (by omega), List.take_succ_eq_append_getElem hk, List.foldl_append]; rfl
theorem tidK_end (B : List BT) : tidK B (B.length + 1) = (gatherS (tidK B B.length).1 (tidK B B.length).2, []) := by
  unfold tidK
  rw [if_neg (by omega), if_pos (by omega), List.take_length]; rfl
set_option maxRecDepth 100000 in
set_option maxHeartbeats 1000000 in
theorem refSteps7_any (base0 : Nat) (v : Value) (B : List BT) (w : World) (h : OwnB w base0 v B) (hr : InR B 524288) (hl : B.length ≤ 1000000) :
    Calls Try.prog 24 #[v] w fun e w' => ∃ v', e = .returned v' ∧ OwnS w' w.heap.size v' (stepsB B) ∧ Below w.heap.size w w' := by
  have HW := Lib.hid h
  have HR := Lib.hid hr
  obtain ⟨a, c, rfl⟩ := h.slice
  clear h hr
  go_enter Try.func24, Try.ntmps24
  go_wp2_with fail
  go_loopw [3, 4, 5] (fun sv ss si wr => ∃ k : Nat, k ≤ B.length + 1 ∧ si = .int .i64 k ∧ ss = .string ⟨(tidK B k).2.toArray⟩ ∧ OwnS wr w.heap.size sv (tidK B k).1 ∧ Below w.heap.size w wr) (fun _ _ si _ => B.length + 1 - (intOf si).toNat)
  case atStart => exact ⟨0, by omega, rfl, rfl, OwnS.nil _ _, Below.refl _ _⟩
  case round =>
    obtain ⟨k, hk, rfl, rfl, hown, hbel⟩ := hrel
    have HO := Lib.hid hown; clear hown
    have HB := Lib.hid hbel; clear hbel
    have hbw := HB.out.size
    have i0 : (0 : Int) ≤ (k : Int) := by omega
    have W6 : IntKind.i64.wrap ((k : Int) + 1) = (k : Int) + 1 := by rw [IntKind.wrap_i64]; omega
    by_cases hlt : k < B.length
    · obtain ⟨g, c', hv, hg0, hst⟩ := HW.out.at hlt
      injection hv with hv1 hv2 hv3
      subst hv1
      clear hv2 hv3
      have hgw : g < w.heap.size := World.block_lt_of_cell? _ _ hst.c0
      have e0 := (HB.out.cell (p := ⟨g, k * 3, none⟩) hgw).trans hst.c0
      have e1 := (HB.out.cell (p := ⟨g, k * 3 + 1, none⟩) hgw).trans hst.c1
      have e2 := (HB.out.cell (p := ⟨g, k * 3 + 2, none⟩) hgw).trans hst.c2
      have i1 : (k : Int) < (B.length : Int) := by omega
      have i2 : (k : Int) ≤ (B.length : Int) := by omega
      have NX := Lib.hid (tidK_succ hlt)
      obtain ⟨m, hok, hml⟩ := tidK_okl HR.out (show k ≤ B.length by omega)
      have hin := HR.out B[k] (List.getElem_mem _)
      clear hst
      generalize B[k] = b at *
      obtain ⟨st, hst⟩ : ∃ st, st = tidK B k := ⟨_, rfl⟩
      rw [← hst] at HO NX hok hml
      rw [← hst]
      clear hst
      obtain ⟨l, s⟩ := st
      dsimp only at hok hml
      cases b with
      | inl ch =>
        have e0' : wr.cell? ⟨g, k * 3, none⟩ = some (.bool true) := e0
        have e2' : wr.cell? ⟨g, k * 3 + 2, none⟩ = some (.int .u8 (ch.toNat : Int)) := e2
        clear e0 e1 e2
        go_upto_region 7 with fail
        have CV := Lib.hid (show (convert 58 9 (Value.slice (some ⟨wr.heap.size, 0, none⟩) 1 1)).run Try.prog (wr.alloc (.cells #[.int .u8 (ch.toNat : Int)] 5)) = .ok (.string ⟨[ch].toArray⟩) (wr.alloc (.cells #[.int .u8 (ch.toNat : Int)] 5)) from
          run_convert_bytes_back (P := Try.prog) _ 58 9 5 ⟨wr.heap.size, 0, none⟩ 1 [ch] Try.underlying58 Try.underlying5 Try.underlying9 (fun j hj => by
            match j, hj with
            | 0, _ => rw [addr_add0, cell_of_row _ _ _ _ _ _ (heap_alloc_new _ _)]; rfl))
        have hba := below_self_alloc wr (.cells #[.int .u8 (ch.toNat : Int)] 5 (0, 0))
        have HOA := Lib.hid (HO.out.new hba)
        have HBA := Lib.hid (HB.out.trans (hba.mono HB.out.size))
        clear hba HO HB
        go_wp2_with fail
        rw [CV.out]
        go_wp2_with fail
        go_roundw
        case rel => exact ⟨k + 1, by omega, by go_num, by rw [NX.out]; show _ = Value.string ⟨(s ++ [ch]).toArray⟩; congr 1, by rw [NX.out]; exact HOA.out, HBA.out⟩
        case measure => simp [intOf]; omega
      | inr fr =>
        have hfr := hin fr rfl
        have e0' : wr.cell? ⟨g, k * 3, none⟩ = some (.bool false) := e0
        have e1' : wr.cell? ⟨g, k * 3 + 1, none⟩ = some (.int .i64 fr) := e1
        clear e0 e1 e2
        have TX := Lib.hid (refTexts_any w.heap.size m _ l s wr HO.out hok (by omega) hbw)
        go_wp2_with fail
        refine TX.out.mono ?_
        rintro e w2 ⟨v2, rfl, ho2, ht2⟩
        have HB2 := Lib.hid (HB.out.trans ht2.bel)
        have f1 := (HB2.out.cell (p := ⟨g, k * 3 + 1, none⟩) hgw).trans ((HB.out.cell (p := ⟨g, k * 3 + 1, none⟩) hgw).symm.trans e1')
        have CP := Lib.hid (refCopy_any w.heap.size (m + s.length) v2 (gatherS l s) fr 1 w2 ho2 (hok.gather s) (by omega) (by omega) (by omega) (by omega) (by omega) HB2.out.size)
        clear ht2 ho2 TX e0' e1'
        go_wp2_with fail
        refine CP.out.mono ?_
        rintro e w3 ⟨v3, rfl, ho3, ht3⟩
        have HO3 := Lib.hid ho3
        have HB3 := Lib.hid (HB2.out.trans ht3.bel)
        clear ht3 ho3 CP f1
        go_wp2_with fail
        go_roundw
        case rel => exact ⟨k + 1, by omega, by go_num, by rw [NX.out]; rfl, by rw [NX.out]; exact HO3.out, HB3.out⟩
        case measure => simp [intOf]; omega
    · by_cases heq : k = B.length
      · subst heq
        have i1 : ¬ (B.length : Int) < (B.length : Int) := by omega
        obtain ⟨m, hok, hml⟩ := tidK_okl HR.out (Nat.le_refl B.length)
        have NX := Lib.hid (tidK_end B)
        obtain ⟨st, hst⟩ : ∃ st, st = tidK B B.length := ⟨_, rfl⟩
        rw [← hst] at HO NX hok hml
        rw [← hst]
        clear hst
        obtain ⟨l, s⟩ := st
        dsimp only at hok hml
        have TX := Lib.hid (refTexts_any w.heap.size m _ l s wr HO.out hok (by omega) hbw)
        go_wp2_with fail
        refine TX.out.mono ?_
        rintro e w2 ⟨v2, rfl, ho2, ht2⟩
        have HB2 := Lib.hid (HB.out.trans ht2.bel)
        have HO2 := Lib.hid ho2
        clear ht2 ho2 TX
        go_wp2_with fail
        go_roundw
        case rel => exact ⟨B.length + 1, by omega, by go_num, by rw [NX.out], by rw [NX.out]; exact HO2.out, HB2.out⟩
        case measure => simp [intOf]
      · obtain rfl : k = B.length + 1 := by omega
        have i2 : ¬ ((B.length + 1 : Nat) : Int) ≤ (B.length : Int) := by omega
        have HO2 := Lib.hid (show OwnS wr w.heap.size _ (stepsB B) from (by have := HO.out; unfold tidK at this; rw [if_neg (by omega)] at this; exact this))
        go_wp2_with fail
        go_ret
        exact ⟨_, rfl, HO2.out, HB.out⟩
end Go.Proofs.Ytpkgjokehgihjaa

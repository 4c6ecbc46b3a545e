/- Several texts in one: BtRow, RefBtW, RefSt7W, RefCmpW, RefFoldW. -/
import Derived.Test.YtpkgjokehgihjaaTyX
import Derived.Test.YtpkgjokehgihjaaDelX
import Derived.Test.YtpkgjokehgihjaaFrame
import Derived.Test.YtpkgjokehgihjaaGen
import Derived.Test.YtpkgjokehgihjaaOwnL
import Derived.Test.YtpkgjokehgihjaaProg
import Derived.Test.YtpkgjokehgihjaaRollMath
import Derived.Test.YtpkgjokehgihjaaRowKeep
import Derived.Test.YtpkgjokehgihjaaSignMath
import Derived.Test.YtpkgjokehgihjaaRows
import Derived.Test.YtpkgjokehgihjaaSrX
import Derived.BigQuiet
import Derived.Deep.QuietTactic
import Derived.IntWalk
import Derived.Laws.Rows
import Derived.Laws.Tables
import Derived.Lib.Hide
import Derived.Outline
import Derived.WalkKit
import Derived.WalkLawsBesides
import Derived.WalkSpells
import Derived.Test.YtpkgjokehgihjaaAgX
import Derived.Test.YtpkgjokehgihjaaBookW
import Derived.Test.YtpkgjokehgihjaaMarkMath
import Derived.Test.YtpkgjokehgihjaaTabX
import Derived.Test.YtpkgjokehgihjaaRollX
import Derived.Test.YtpkgjokehgihjaaCdX
import Derived.Test.YtpkgjokehgihjaaRfX
import Derived.Test.YtpkgjokehgihjaaShelf
import Derived.Test.YtpkgjokehgihjaaSigAt
import Derived.Test.YtpkgjokehgihjaaSortX
import Derived.Test.YtpkgjokehgihjaaSortEW
import Derived.Test.YtpkgjokehgihjaaSortFW
import Derived.BigRegion
import Derived.Deep.CutBlock
import Derived.Deep.DeepCutAuto
import Derived.Deep.LoopGhost
import Derived.Deep.RegionHeld3
import Derived.Deep.RegionLaw
import Derived.Laws.BitsAllLaws
import Derived.Laws.MakeOwn
import Derived.Sort.Walk0
import Derived.StillTailTactics
import Derived.Test.YtpkgjokehgihjaaMkX
import Derived.Test.YtpkgjokehgihjaaBldShelf
import Derived.Test.YtpkgjokehgihjaaCmpW
import Derived.Test.YtpkgjokehgihjaaPtX
import Derived.Test.YtpkgjokehgihjaaNewTabW
import Derived.Test.YtpkgjokehgihjaaOdX
import Derived.Test.YtpkgjokehgihjaaRightDW
import Derived.Test.YtpkgjokehgihjaaSameW
import Derived.Test.YtpkgjokehgihjaaSigOfW
import Derived.Test.YtpkgjokehgihjaaWkX
import Derived.Laws.Externs
import Derived.Lib.AppendStr
import Derived.Lib.Builder
import Derived.Lib.Strings
import Derived.Lib.Walk
/- Lists of the document's bytes of a text (told, or of which place): of the call's own; one appended. Of no program. -/
set_option linter.unusedVariables false
namespace Go.Proofs.Ytpkgjokehgihjaa
open Go.RowKit

def tldV : BT → Bool
  | .inl _ => true
  | .inr _ => false
def fromV : BT → Int
  | .inl _ => 0
  | .inr a => a
def chV : BT → Int
  | .inl c => (c.toNat : Int)
  | .inr _ => 0
def btC (b : BT) : List Value := [.bool (tldV b), .int .i64 (fromV b), .int .u8 (chV b)]
abbrev btV (b : BT) : Value := .agg #[.bool (tldV b), .int .i64 (fromV b), .int .u8 (chV b)]
abbrev btO (b : BT) : Obj := .cells #[.bool (tldV b), .int .i64 (fromV b), .int .u8 (chV b)] 73 (0, 0)
def flatB (l : List BT) : List Value := (l.map btC).flatten
theorem flatB_nil : flatB [] = [] := rfl
theorem flatB_cons (x : BT) (l : List BT) : flatB (x :: l) = btC x ++ flatB l := rfl
theorem flatB_append (l m : List BT) : flatB (l ++ m) = flatB l ++ flatB m := by unfold flatB; simp
theorem flatB_one (x : BT) : flatB [x] = btC x := by unfold flatB; simp
theorem flatB_len (l : List BT) : (flatB l).length = l.length * 3 := by
  induction l with
  | nil => rfl
  | cons x l ih => rw [flatB_cons, List.length_append, ih, List.length_cons]; show 3 + _ = _; omega
theorem flatB_get : ∀ (l : List BT) (i : Nat) (h : i < l.length), (flatB l)[i * 3]? = some (.bool (tldV l[i])) ∧ (flatB l)[i * 3 + 1]? = some (.int .i64 (fromV l[i])) ∧ (flatB l)[i * 3 + 2]? = some (.int .u8 (chV l[i])) := by
  intro l
  induction l with
  | nil => intro i h; simp at h
  | cons x l ih =>
    intro i h
    rw [flatB_cons]
    cases i with
    | zero => exact ⟨rfl, rfl, rfl⟩
    | succ i =>
      have := ih i (by simpa using h)
      have e : ∀ r, (btC x ++ flatB l)[(i + 1) * 3 + r]? = (flatB l)[i * 3 + r]? := fun r => by
        rw [List.getElem?_append_right (by show 3 ≤ _; omega)]
        congr 1
        show (i + 1) * 3 + r - 3 = _
        omega
      refine ⟨(e 0).trans this.1, (e 1).trans this.2.1, (e 2).trans this.2.2⟩
/-- A list of them of the call's own. -/
def OwnB (w : World) (base : Nat) (v : Value) (xs : List BT) : Prop := w.ownsRow base 73 3 v xs.length (flatB xs)
theorem OwnB.nil (w : World) (base : Nat) : OwnB w base (.slice none 0 0) [] := World.ownsRow_nil w base _ 3
structure BtAt (w : World) (g o : Nat) (x : BT) : Prop where
  c0 : w.cell? ⟨g, o, none⟩ = some (.bool (tldV x))
  c1 : w.cell? ⟨g, o + 1, none⟩ = some (.int .i64 (fromV x))
  c2 : w.cell? ⟨g, o + 2, none⟩ = some (.int .u8 (chV x))
theorem OwnB.at {w : World} {base : Nat} {v : Value} {xs : List BT} (h : OwnB w base v xs) {i : Nat} (hi : i < xs.length) : ∃ g c, v = .slice (some ⟨g, 0, none⟩) xs.length c ∧ base ≤ g ∧ BtAt w g (i * 3) xs[i] := by
  rcases h.2 with ⟨rfl, hn⟩ | ⟨g, cap, cur, rfl, hb, hg, _⟩
  · omega
  · refine ⟨g, cap, rfl, hb, ?_⟩
    have C := World.ownsRow.cells h (g := g) rfl
    obtain ⟨f0, f1, f2⟩ := flatB_get xs i hi
    have D0 := C _ _ f0
    have D1 := C _ _ f1
    have D2 := C _ _ f2
    rw [addr_add0] at D0 D1 D2
    exact ⟨D0, D1, D2⟩
theorem OwnB.slice {w : World} {base : Nat} {v : Value} {xs : List BT} (h : OwnB w base v xs) : ∃ a c, v = .slice a xs.length c := by
  rcases h.2 with ⟨rfl, hn⟩ | ⟨g, cap, cur, rfl, hb, hg, _⟩
  · exact ⟨none, 0, by rw [hn]⟩
  · exact ⟨_, _, rfl⟩
theorem OwnB.mono {w : World} {base base' : Nat} {v : Value} {xs : List BT} (h : OwnB w base v xs) (hb : base' ≤ base) : OwnB w base' v xs := by
  refine ⟨h.1, ?_⟩
  rcases h.2 with hn | ⟨g, cap, cur, rfl, hg, rest⟩
  · exact .inl hn
  · exact .inr ⟨g, cap, cur, rfl, Nat.le_trans hb hg, rest⟩
theorem OwnB.new {w w' : World} {base : Nat} {v : Value} {xs : List BT} (h : OwnB w base v xs) (hb : Below w.heap.size w w') : OwnB w' base v xs :=
  own_off h (Kept.new hb (fun _ => False)) (fun _ _ _ _ => id)
theorem OwnB.lt {w : World} {base : Nat} {v : Value} {xs : List BT} (h : OwnB w base v xs) {g : Nat} (hg : v.ownBlock = some g) : base ≤ g ∧ g < w.heap.size ∧ ∃ cur, w.heap[g]? = some (.cells cur 73 (0, 0)) := by
  rcases h.2 with ⟨rfl, _⟩ | ⟨g', cap, cur, rfl, hb, hgg, _⟩
  · simp [Value.ownBlock] at hg
  · simp [Value.ownBlock] at hg
    subst hg
    exact ⟨hb, (Array.getElem?_eq_some_iff.1 hgg).1, cur, hgg⟩
section
variable {P : Program}
/-- One that was built behind others of the call's own. -/
theorem append_bt {w : World} {ops : Array Oper} {rest : List Oper} {o : Oper} {a : Act} {Q : Exit → Act → World → Prop} (hgd : o.guard = none) (s x : Operand) (t : TypeId) (z : Value)
    (ho : o.op = .call { callee := .builtin .append, args := #[s, x], argTypes := #[t, t] }) (ht : P.underlying t = some (.slice 73))
    (hinfo : (P.info? 73).map (fun i => (i.zero, i.size, i.bytes)) = some (some z, 3, 24)) (hz : z.cells.size = 3)
    (base : Nat) (v : Value) (l : List BT) (y : BT) (hs : a.eval s = v) (hown : OwnB w base v l) (hx : a.eval x = .slice (some ⟨w.heap.size, 0, none⟩) 1 1)
    (hlen : l.length ≤ 2000000) (hbase : base ≤ w.heap.size)
    (h : ∀ v' w', OwnB w' base v' (l ++ [y]) → TurnS base w v w' v' → wpList P ops Q rest (a.put o.dst v') w') :
    wpList P ops Q (o :: rest) a (w.alloc (.cells #[.bool (tldV y), .int .i64 (fromV y), .int .u8 (chV y)] 73)) := by
  obtain ⟨i0, hi, hz0, hz1, hz2⟩ := info_parts hinfo
  have hw := below_self_alloc w (btO y)
  have hg0 := heap_alloc_new w (btO y)
  have hown1 := hown.new hw
  have hsz := hw.size
  refine wpList_append_own_at _ hgd s x t ho base _ i0 z 3 24 ht hi hz0 hz1 hz2 hz (by decide) v l.length (flatB l) hs hown1 ⟨w.heap.size, 0, none⟩ 1 1 (btC y) hx rfl ?_ ?_ (by unfold maxLen; omega) (by omega) (Nat.le_trans hbase hsz) ?_
  · intro j u hj
    rw [addr_add0]
    match j, hj with
    | 0, hj => simp [btC] at hj; subst hj; rw [cell_of_row _ _ _ _ _ _ hg0]; rfl
    | 1, hj => simp [btC] at hj; subst hj; rw [cell_of_row _ _ _ _ _ _ hg0]; rfl
    | 2, hj => simp [btC] at hj; subst hj; rw [cell_of_row _ _ _ _ _ _ hg0]; rfl
  · intro u hu
    simp [btC] at hu
    rcases hu with rfl | rfl | rfl <;> rfl
  · intro v' w' hown' hg _ hat
    have hb1 : Below base w (w.alloc (btO y)) := hw.mono hbase
    refine h v' w' ?_ ⟨hb1.grown hg (Nat.le_trans hbase hsz) (fun k hk => (World.ownsRow.lt hown1 k hk).1), ?_, fun g' hg' => ?_⟩
    · unfold OwnB
      rw [flatB_append, List.length_append, flatB_one]
      exact hown'
    · have k1 : Kept (fun k => v.ownBlock = some k) w (w.alloc (btO y)) := Kept.new hw _
      exact k1.trans ⟨hg.os, hg.tape, hg.output, hg.size, fun k hk hm => hg.block k hk (fun he => hm he.symm)⟩
    · rcases hat with h | h
      · exact .inl (by rw [← h]; exact hg')
      · right
        rw [hg'] at h
        simp at h
        omega
end
theorem info_bt : (Try.prog.info? 73).map (fun i => (i.zero, i.size, i.bytes)) = some (some (.agg #[.bool false, .int .i64 0, .int .u8 0]), 3, 24) := by kernel_rfl
theorem dstAt_turnB {w w' : World} {base : Nat} {v v' : Value} {g o : Nat} {x : DSt} (h : DStAt w g o x) (ht : TurnS base w v w' v') (hn : ¬ v.ownBlock = some g) : DStAt w' g o x := by
  have hb := ht.kept.block g h.lt hn
  exact ⟨by rw [World.cell?_of_block (w := w) hb]; exact h.c0, by rw [World.cell?_of_block (w := w) hb]; exact h.c1, by rw [World.cell?_of_block (w := w) hb]; exact h.c2⟩
end Go.Proofs.Ytpkgjokehgihjaa
/- The walk of the document's Bytes: where all bytes come from. -/
set_option linter.unusedVariables false
namespace Go.Proofs.Ytpkgjokehgihjaa
open Go.RowKit

set_option maxRecDepth 100000 in
set_option maxHeartbeats 1000000 in
theorem refBytesA_any (N : Nat → Prop) (v : Value) (l : List DSt) (w : World) (h : RowS N w v l) (hs : ∀ x ∈ l, stS x = true) (hl : l.length ≤ 1000000) (hlb : lenB l ≤ 1000000) :
    Calls Try.prog 25 #[v] w fun e w' => ∃ v', e = .returned v' ∧ OwnB w' w.heap.size v' (bytesA l) ∧ Below w.heap.size w w' := by
  have HR := Lib.hid h
  have HS := Lib.hid hs
  obtain ⟨a, c, rfl⟩ := h.slice
  clear h hs
  go_enter Try.func25, Try.ntmps25
  go_wp2_with fail
  go_loopw [3, 4] (fun sv si wr => ∃ k : Nat, k ≤ l.length ∧ si = .int .i64 k ∧ OwnB wr w.heap.size sv (bytesA (l.take k)) ∧ Below w.heap.size w wr) (fun _ si _ => l.length - (intOf si).toNat)
  case atStart => exact ⟨0, by omega, rfl, OwnB.nil _ _, Below.refl _ _⟩
  case round =>
    obtain ⟨k, hk, rfl, hown, hbel⟩ := hrel
    have HO := Lib.hid hown; clear hown
    have HB := Lib.hid hbel; clear hbel
    have hbw := HB.out.size
    by_cases hlt : k < l.length
    · obtain ⟨g, o, c', hv, _, hst⟩ := HR.out.at hlt
      injection hv with hv1 hv2 hv3
      subst hv1
      clear hv2 hv3
      have HST := Lib.hid hst
      obtain ⟨e0, e1, e2⟩ := hst.below HB.out hst.lt
      have hsx := HS.out l[k] (List.getElem_mem _)
      have ho := stok_of hsx
      have HNX := Lib.hid (show bytesA (l.take (k + 1)) = bytesA (l.take k) ++ bytesO l[k] by rw [List.take_succ_eq_append_getElem hlt, bytes_append, bytes_one])
      have hlk := lenB_next l k hlt
      have hmono := lenB_mono l (show k + 1 ≤ l.length by omega)
      rw [List.take_length] at hmono
      have HLK := Lib.hid (show (bytesA (l.take k)).length + (bytesO l[k]).length ≤ 1000000 from (by unfold lenB at hlk hmono hlb; omega))
      clear hlk hmono
      generalize l[k] = x at *
      generalize bytesA (l.take k) = B0 at *
      obtain ⟨p, m, t⟩ := x
      dsimp only at e0 e1 e2
      have i0 : (0 : Int) ≤ (k : Int) := by omega
      have i1 : (k : Int) < (l.length : Int) := by omega
      have W4 : IntKind.i64.wrap ((k : Int) + 1) = (k : Int) + 1 := by rw [IntKind.wrap_i64]; omega
      have hgw : g < w.heap.size := hst.lt
      have HF := fun w' (hb : Below w.heap.size w w') => hst.below hb hst.lt
      clear hst
      by_cases ht : t = []
      · subst ht
        have e2' : wr.cell? ⟨g, o + k * 3 + 2, none⟩ = some (.string ⟨#[]⟩) := e2
        have hm0 : 0 < m ∧ 0 ≤ p ∧ p + m ≤ 524288 := by
          unfold stS at hsx
          rw [if_neg (by simp)] at hsx
          have := of_decide_eq_true hsx
          dsimp only at this
          omega
        obtain ⟨M, rfl⟩ : ∃ M : Nat, m = (M : Int) := ⟨m.toNat, by omega⟩
        have HBO := Lib.hid (show bytesO ⟨p, (M : Int), []⟩ = placesC p M by unfold bytesO; rw [if_neg (by simp), Int.toNat_natCast])
        have hML := HLK.out
        rw [HBO.out, places_len] at hML
        clear e2
        go_wp2_with fail
        go_loopw [3, 6] (fun sv si wq => ∃ j : Nat, j ≤ M ∧ si = .int .i64 j ∧ OwnB wq w.heap.size sv (B0 ++ placesC p j) ∧ Below w.heap.size w wq) (fun _ si _ => M - (intOf si).toNat)
        case atStart => exact ⟨0, by omega, rfl, by rw [places_zero, List.append_nil]; exact HO.out, HB.out⟩
        case round =>
          obtain ⟨j, hj, rfl, hown, hbel⟩ := hrel
          have HO2 := Lib.hid hown; clear hown
          have HB2 := Lib.hid hbel
          have hbq := hbel.size
          obtain ⟨f0, f1, f2⟩ := HF _ hbel
          clear hbel
          dsimp only at f0 f1 f2
          by_cases hjl : j < M
          · have j1 : (j : Int) < (M : Int) := by omega
            have W5 : IntKind.i64.wrap (p + (j : Int)) = p + (j : Int) := by rw [IntKind.wrap_i64]; omega
            have W6 : IntKind.i64.wrap ((j : Int) + 1) = (j : Int) + 1 := by rw [IntKind.wrap_i64]; omega
            have hln : (B0 ++ placesC p j).length ≤ 2000000 := by rw [List.length_append, places_len]; omega
            go_wp2_with (at_builtin; refine append_bt (w := wr) (by rfl) (.tmp 49) (.tmp 58) 38 _ (by rfl) Try.underlying38 info_bt (by rfl) w.heap.size _ (B0 ++ placesC p j) (.inr (p + (j : Int))) (by rfl) HO2.out (by rfl) hln hbq ?_; intro v' w3 hown3 htn3; have HO3 := Lib.hid hown3; have HB3 := Lib.hid (HB2.out.trans htn3.bel); clear hown3 htn3)
            go_roundw
            case rel => exact ⟨j + 1, by omega, by go_num, by rw [places_succ, ← List.append_assoc]; exact HO3.out, HB3.out⟩
            case measure => simp [intOf]; omega
          · obtain rfl : j = M := by omega
            have j1 : ¬ (j : Int) < (j : Int) := by omega
            go_wp2_with fail
            go_roundw
            case rel => exact ⟨k + 1, by omega, by go_num, by rw [HNX.out, HBO.out]; exact HO2.out, HB2.out⟩
            case measure => simp [intOf]; omega
      · have hne : t.isEmpty = false := by cases t <;> simp_all
        have HBO := Lib.hid (show bytesO ⟨p, m, t⟩ = toldC t by unfold bytesO; rw [if_pos ht])
        have hML := HLK.out
        rw [HBO.out, told_len] at hML
        have TL : (⟨t.toArray⟩ : ByteArray).size = t.length := rfl
        go_wp2_with fail
        go_loopw [3, 5] (fun sv si wq => ∃ j : Nat, j ≤ t.length ∧ si = .int .i64 j ∧ OwnB wq w.heap.size sv (B0 ++ toldC (t.take j)) ∧ Below w.heap.size w wq) (fun _ si _ => t.length - (intOf si).toNat)
        case atStart => exact ⟨0, by omega, rfl, by rw [List.take_zero, show toldC [] = [] from rfl, List.append_nil]; exact HO.out, HB.out⟩
        case round =>
          obtain ⟨j, hj, rfl, hown, hbel⟩ := hrel
          have HO2 := Lib.hid hown; clear hown
          have HB2 := Lib.hid hbel
          have hbq := hbel.size
          obtain ⟨f0, f1, f2⟩ := HF _ hbel
          clear hbel
          dsimp only at f0 f1 f2
          by_cases hjl : j < t.length
          · have j0 : (0 : Int) ≤ (j : Int) := by omega
            have j1 : (j : Int) < (t.length : Int) := by omega
            have W6 : IntKind.i64.wrap ((j : Int) + 1) = (j : Int) + 1 := by rw [IntKind.wrap_i64]; omega
            have hln : (B0 ++ toldC (t.take j)).length ≤ 2000000 := by rw [List.length_append, told_len, List.length_take]; omega
            have HTS := Lib.hid (show toldC (t.take (j + 1)) = toldC (t.take j) ++ [.inl t[j]] by rw [List.take_succ_eq_append_getElem hjl]; unfold toldC; rw [List.map_append]; rfl)
            go_wp2_with (at_builtin; refine append_bt (w := wr) (by rfl) (.tmp 29) (.tmp 38) 38 _ (by rfl) Try.underlying38 info_bt (by rfl) w.heap.size _ (B0 ++ toldC (t.take j)) (.inl t[j]) (by rfl) HO2.out (by rfl) hln hbq ?_; intro v' w3 hown3 htn3; have HO3 := Lib.hid hown3; have HB3 := Lib.hid (HB2.out.trans htn3.bel); clear hown3 htn3)
            go_roundw
            case rel => exact ⟨j + 1, by omega, by go_num, by rw [HTS.out, ← List.append_assoc]; exact HO3.out, HB3.out⟩
            case measure => simp [intOf]; omega
          · obtain rfl : j = t.length := by omega
            have j1 : ¬ (t.length : Int) < (t.length : Int) := by omega
            rw [List.take_length] at HO2
            go_wp2_with fail
            go_roundw
            case rel => exact ⟨k + 1, by omega, by go_num, by rw [HNX.out, HBO.out]; exact HO2.out, HB2.out⟩
            case measure => simp [intOf]; omega
    · obtain rfl : k = l.length := by omega
      have i1 : ¬ (l.length : Int) < (l.length : Int) := by omega
      rw [List.take_length] at HO
      go_wp2_with fail
      go_ret
      exact ⟨_, rfl, HO.out, HB.out⟩
end Go.Proofs.Ytpkgjokehgihjaa
/- The walk of the document's Steps: tidy steps of bytes. -/
set_option linter.unusedVariables false
namespace Go.Proofs.Ytpkgjokehgihjaa
open Go.RowKit

theorem tid_okl (B : List BT) : ∀ (st : List DSt × Txt) (n : Nat), OkL n st.1 → InR B 524288 → ∃ m, OkL m (B.foldl tidN st).1 ∧ m + (B.foldl tidN st).2.length ≤ n + st.2.length + B.length := by
  induction B with
  | nil => intro st n h _; exact ⟨n, h, by simp⟩
  | cons b B ih =>
    intro st n h hr
    have hb : InR [b] 524288 ∧ InR B 524288 := InR.append.1 hr
    rw [List.foldl_cons]
    cases b with
    | inl c =>
      obtain ⟨m, h1, h2⟩ := ih (tidN st (.inl c)) n h hb.2
      refine ⟨m, h1, ?_⟩
      have e : (tidN st (.inl c)).2.length = st.2.length + 1 := by show (st.2 ++ [c]).length = _; simp
      rw [e] at h2
      rw [List.length_cons]; omega
    | inr a =>
      have ha := hb.1 (.inr a) (by simp) a rfl
      have hk : OkL (n + st.2.length + 1) (tidN st (.inr a)).1 := (h.gather st.2).take (by omega) (by omega) (by omega) (by omega) (by omega)
      obtain ⟨m, h1, h2⟩ := ih (tidN st (.inr a)) _ hk hb.2
      refine ⟨m, h1, ?_⟩
      have e : (tidN st (.inr a)).2.length = 0 := rfl
      rw [e] at h2
      rw [List.length_cons]; omega
theorem InR.take {B : List BT} {n : Nat} (h : InR B n) (k : Nat) : InR (B.take k) n := fun b hb a e => h b (List.mem_of_mem_take hb) a e
def tidK (B : List BT) (k : Nat) : List DSt × Txt := if k ≤ B.length then (B.take k).foldl tidN ([], []) else (stepsB B, [])
theorem tidK_okl {B : List BT} (hr : InR B 524288) {k : Nat} (hk : k ≤ B.length) : ∃ m, OkL m (tidK B k).1 ∧ m + (tidK B k).2.length ≤ k := by
  unfold tidK
  rw [if_pos hk]
  obtain ⟨m, h1, h2⟩ := tid_okl (B.take k) ([], []) 0 (OkL.nil 0) (hr.take k)
  refine ⟨m, h1, ?_⟩
  rw [List.length_take] at h2
  simp at h2 ⊢
  omega
theorem tidK_succ {B : List BT} {k : Nat} (hk : k < B.length) : tidK B (k + 1) = tidN (tidK B k) B[k] := by
  unfold tidK
  rw [if_pos (by omega), if_pos (by omega), List.take_succ_eq_append_getElem hk, List.foldl_append]; rfl
theorem tidK_end (B : List BT) : tidK B (B.length + 1) = (gatherS (tidK B B.length).1 (tidK B B.length).2, []) := by
  unfold tidK
  rw [if_neg (by omega), if_pos (by omega), List.take_length]; rfl
set_option maxRecDepth 100000 in
set_option maxHeartbeats 1000000 in
theorem refSteps7_any (base0 : Nat) (v : Value) (B : List BT) (w : World) (h : OwnB w base0 v B) (hr : InR B 524288) (hl : B.length ≤ 1000000) :
    Calls Try.prog 24 #[v] w fun e w' => ∃ v', e = .returned v' ∧ OwnS w' w.heap.size v' (stepsB B) ∧ Below w.heap.size w w' := by
  have HW := Lib.hid h
  have HR := Lib.hid hr
  obtain ⟨a, c, rfl⟩ := h.slice
  clear h hr
  go_enter Try.func24, Try.ntmps24
  go_wp2_with fail
  go_loopw [3, 4, 5] (fun sv ss si wr => ∃ k : Nat, k ≤ B.length + 1 ∧ si = .int .i64 k ∧ ss = .string ⟨(tidK B k).2.toArray⟩ ∧ OwnS wr w.heap.size sv (tidK B k).1 ∧ Below w.heap.size w wr) (fun _ _ si _ => B.length + 1 - (intOf si).toNat)
  case atStart => exact ⟨0, by omega, rfl, rfl, OwnS.nil _ _, Below.refl _ _⟩
  case round =>
    obtain ⟨k, hk, rfl, rfl, hown, hbel⟩ := hrel
    have HO := Lib.hid hown; clear hown
    have HB := Lib.hid hbel; clear hbel
    have hbw := HB.out.size
    have i0 : (0 : Int) ≤ (k : Int) := by omega
    have W6 : IntKind.i64.wrap ((k : Int) + 1) = (k : Int) + 1 := by rw [IntKind.wrap_i64]; omega
    by_cases hlt : k < B.length
    · obtain ⟨g, c', hv, hg0, hst⟩ := HW.out.at hlt
      injection hv with hv1 hv2 hv3
      subst hv1
      clear hv2 hv3
      have hgw : g < w.heap.size := World.block_lt_of_cell? _ _ hst.c0
      have e0 := (HB.out.cell (p := ⟨g, k * 3, none⟩) hgw).trans hst.c0
      have e1 := (HB.out.cell (p := ⟨g, k * 3 + 1, none⟩) hgw).trans hst.c1
      have e2 := (HB.out.cell (p := ⟨g, k * 3 + 2, none⟩) hgw).trans hst.c2
      have i1 : (k : Int) < (B.length : Int) := by omega
      have i2 : (k : Int) ≤ (B.length : Int) := by omega
      have NX := Lib.hid (tidK_succ hlt)
      obtain ⟨m, hok, hml⟩ := tidK_okl HR.out (show k ≤ B.length by omega)
      have hin := HR.out B[k] (List.getElem_mem _)
      clear hst
      generalize B[k] = b at *
      obtain ⟨st, hst⟩ : ∃ st, st = tidK B k := ⟨_, rfl⟩
      rw [← hst] at HO NX hok hml
      rw [← hst]
      clear hst
      obtain ⟨l, s⟩ := st
      dsimp only at hok hml
      cases b with
      | inl ch =>
        have e0' : wr.cell? ⟨g, k * 3, none⟩ = some (.bool true) := e0
        have e2' : wr.cell? ⟨g, k * 3 + 2, none⟩ = some (.int .u8 (ch.toNat : Int)) := e2
        clear e0 e1 e2
        go_upto_region 7 with fail
        have CV := Lib.hid (show (convert 58 9 (Value.slice (some ⟨wr.heap.size, 0, none⟩) 1 1)).run Try.prog (wr.alloc (.cells #[.int .u8 (ch.toNat : Int)] 5)) = .ok (.string ⟨[ch].toArray⟩) (wr.alloc (.cells #[.int .u8 (ch.toNat : Int)] 5)) from
          run_convert_bytes_back (P := Try.prog) _ 58 9 5 ⟨wr.heap.size, 0, none⟩ 1 [ch] Try.underlying58 Try.underlying5 Try.underlying9 (fun j hj => by
            match j, hj with
            | 0, _ => rw [addr_add0, cell_of_row _ _ _ _ _ _ (heap_alloc_new _ _)]; rfl))
        have hba := below_self_alloc wr (.cells #[.int .u8 (ch.toNat : Int)] 5 (0, 0))
        have HOA := Lib.hid (HO.out.new hba)
        have HBA := Lib.hid (HB.out.trans (hba.mono HB.out.size))
        clear hba HO HB
        go_wp2_with fail
        rw [CV.out]
        go_wp2_with fail
        go_roundw
        case rel => exact ⟨k + 1, by omega, by go_num, by rw [NX.out]; show _ = Value.string ⟨(s ++ [ch]).toArray⟩; congr 1, by rw [NX.out]; exact HOA.out, HBA.out⟩
        case measure => simp [intOf]; omega
      | inr fr =>
        have hfr := hin fr rfl
        have e0' : wr.cell? ⟨g, k * 3, none⟩ = some (.bool false) := e0
        have e1' : wr.cell? ⟨g, k * 3 + 1, none⟩ = some (.int .i64 fr) := e1
        clear e0 e1 e2
        have TX := Lib.hid (refTexts_any w.heap.size m _ l s wr HO.out hok (by omega) hbw)
        go_wp2_with fail
        refine TX.out.mono ?_
        rintro e w2 ⟨v2, rfl, ho2, ht2⟩
        have HB2 := Lib.hid (HB.out.trans ht2.bel)
        have f1 := (HB2.out.cell (p := ⟨g, k * 3 + 1, none⟩) hgw).trans ((HB.out.cell (p := ⟨g, k * 3 + 1, none⟩) hgw).symm.trans e1')
        have CP := Lib.hid (refCopy_any w.heap.size (m + s.length) v2 (gatherS l s) fr 1 w2 ho2 (hok.gather s) (by omega) (by omega) (by omega) (by omega) (by omega) HB2.out.size)
        clear ht2 ho2 TX e0' e1'
        go_wp2_with fail
        refine CP.out.mono ?_
        rintro e w3 ⟨v3, rfl, ho3, ht3⟩
        have HO3 := Lib.hid ho3
        have HB3 := Lib.hid (HB2.out.trans ht3.bel)
        clear ht3 ho3 CP f1
        go_wp2_with fail
        go_roundw
        case rel => exact ⟨k + 1, by omega, by go_num, by rw [NX.out]; rfl, by rw [NX.out]; exact HO3.out, HB3.out⟩
        case measure => simp [intOf]; omega
    · by_cases heq : k = B.length
      · subst heq
        have i1 : ¬ (B.length : Int) < (B.length : Int) := by omega
        obtain ⟨m, hok, hml⟩ := tidK_okl HR.out (Nat.le_refl B.length)
        have NX := Lib.hid (tidK_end B)
        obtain ⟨st, hst⟩ : ∃ st, st = tidK B B.length := ⟨_, rfl⟩
        rw [← hst] at HO NX hok hml
        rw [← hst]
        clear hst
        obtain ⟨l, s⟩ := st
        dsimp only at hok hml
        have TX := Lib.hid (refTexts_any w.heap.size m _ l s wr HO.out hok (by omega) hbw)
        go_wp2_with fail
        refine TX.out.mono ?_
        rintro e w2 ⟨v2, rfl, ho2, ht2⟩
        have HB2 := Lib.hid (HB.out.trans ht2.bel)
        have HO2 := Lib.hid ho2
        clear ht2 ho2 TX
        go_wp2_with fail
        go_roundw
        case rel => exact ⟨B.length + 1, by omega, by go_num, by rw [NX.out], by rw [NX.out]; exact HO2.out, HB2.out⟩
        case measure => simp [intOf]
      · obtain rfl : k = B.length + 1 := by omega
        have i2 : ¬ ((B.length + 1 : Nat) : Int) ≤ (B.length : Int) := by omega
        have HO2 := Lib.hid (show OwnS wr w.heap.size _ (stepsB B) from (by have := HO.out; unfold tidK at this; rw [if_neg (by omega)] at this; exact this))
        go_wp2_with fail
        go_ret
        exact ⟨_, rfl, HO2.out, HB.out⟩
end Go.Proofs.Ytpkgjokehgihjaa
/- The walk of the document's Compose. -/
set_option linter.unusedVariables false
namespace Go.Proofs.Ytpkgjokehgihjaa
open Go.RowKit

set_option maxRecDepth 100000 in
set_option maxHeartbeats 400000 in
theorem refCompose_any (N M : Nat → Prop) (a b : DD) (v1 v2 : Value) (w : World) (h1 : RowS N w v1 a.l) (h2 : RowS M w v2 b.l) (ha : a.Ok) (hb : b.Ok) :
    Calls Try.prog 28 #[a.v v1, b.v v2] w fun e w' => ∃ v', e = .returned (.tuple #[(compR a b).1.v v', .int .i64 (compR a b).2]) ∧ OwnS w' w.heap.size v' (compR a b).1.l ∧ Below w.heap.size w w' := by
  have HCR := Lib.hid (show compR a b = if a.right = false ∨ b.right = false then (ddZ, 1) else if a.mm ≠ b.bm then (ddZ, 13) else if ¬ reachS b.l ≤ a.n then (ddZ, 2) else (⟨a.bm, b.mm, b.n, stepsB (compB (bytesA a.l) (bytesA b.l))⟩, 0) from rfl)
  generalize compR a b = res at *
  have RT1 := fun w' (hb' : Below w.heap.size w w') => Lib.hid (refRightD_any N a.bm a.mm a.n v1 a.l w' (h1.keep hb') ha.st ha.len ha.b ha.m ha.n1 ha.n2)
  have RT2 := fun w' (hb' : Below w.heap.size w w') => Lib.hid (refRightD_any M b.bm b.mm b.n v2 b.l w' (h2.keep hb') hb.st hb.len hb.b hb.m hb.n1 hb.n2)
  have HH1 := Lib.hid h1
  have HH2 := Lib.hid h2
  have HAO := Lib.hid ha
  have HBO := Lib.hid hb
  have HRA := Lib.hid (show a.right = true → _ from fun e => right_good e)
  have HRB := Lib.hid (show b.right = true → _ from fun e => right_good e)
  have HC0 : CmpB w a b v1 v2 (((w.alloc (a.o v1)).alloc (b.o v2)).alloc (delO [] [] 0 (.slice none 0 0))) := by
    have b1 := below_self_alloc w (a.o v1)
    have b2 := below_self_alloc (w.alloc (a.o v1)) (b.o v2)
    have b3 := below_self_alloc ((w.alloc (a.o v1)).alloc (b.o v2)) (delO [] [] 0 (.slice none 0 0))
    have g2 := heap_alloc_new (w.alloc (a.o v1)) (b.o v2)
    have g3 := heap_alloc_new ((w.alloc (a.o v1)).alloc (b.o v2)) (delO [] [] 0 (.slice none 0 0))
    rw [show (w.alloc (a.o v1)).heap.size = w.heap.size + 1 by simp] at g2
    rw [show ((w.alloc (a.o v1)).alloc (b.o v2)).heap.size = w.heap.size + 1 + 1 by simp] at g3
    exact ⟨old_of b3 (old_of b2 (heap_alloc_new w (a.o v1))), old_of b3 g2, g3, b1.trans ((b2.trans (b3.mono b2.size)).mono b1.size)⟩
  have C0 := Lib.hid HC0
  obtain ⟨ca, k1, rfl⟩ := h1.slice
  obtain ⟨cb, k2, rfl⟩ := h2.slice
  clear h1 h2 ha hb HC0
  obtain ⟨bm1, mm1, n1, l1⟩ := a
  obtain ⟨bm2, mm2, n2, l2⟩ := b
  dsimp only [DD.v, DD.o, DD.right] at *
  go_enter Try.func28, Try.ntmps28
  go_upto_region 1 with fail
  generalize ((w.alloc (.cells #[.string ⟨bm1.toArray⟩, .string ⟨mm1.toArray⟩, .int .i64 n1, .slice ca l1.length k1] 24)).alloc (.cells #[.string ⟨bm2.toArray⟩, .string ⟨mm2.toArray⟩, .int .i64 n2, .slice cb l2.length k2] 24)).alloc (.cells #[.string ⟨#[]⟩, .string ⟨#[]⟩, .int .i64 0, .slice none 0 0] 24) = w1 at *
  obtain ⟨a0, a1, a2, a3⟩ := delO_cells C0.out.xa
  go_wp2_with fail
  refine (RT1 _ C0.out.bel).out.mono ?_
  rintro e w2 ⟨rfl, hb2⟩
  have C2 := Lib.hid (C0.out.new hb2)
  clear C0 hb2 RT1 a0 a1 a2 a3
  by_cases hrr : rightD bm1 mm1 n1 l1 = false ∨ rightD bm2 mm2 n2 l2 = false
  · have HR := Lib.hid (show res = (ddZ, 1) by rw [HCR.out, if_pos hrr])
    cases hr1 : rightD bm1 mm1 n1 l1 with
    | false =>
      obtain ⟨⟨S0, S0f⟩, ⟨S1, S1f⟩, ⟨S2, S2f⟩, ⟨S3, S3f⟩, s4', s5'⟩ := four_store C2.out.xr (.string ⟨#[]⟩) (.string ⟨#[]⟩) (.int .i64 0) (.slice none 0 0)
      have S4 := Lib.hid s4'
      have HB := Lib.hid (C2.out.bel.trans (s5'.below C2.out.bel.size (fun k e => by omega)))
      clear s4' s5' C2 RT2
      go_wp2_with fail
      refine bodyPost_ret (v := .tuple #[ddZ.v (.slice none 0 0), .int .i64 1]) (results_row_tmp Try.results28 _ _ (w.heap.size + 1 + 1) _ _ _ _ rfl S4.out Try.underlying24 rfl del_info) rfl ?_
      rw [HR.out]
      exact ⟨_, rfl, OwnS.nil _ _, HB.out⟩
    | true =>
      obtain ⟨b0, b1, b2, b3⟩ := delO_cells C2.out.xb
      go_wp2_with fail
      refine (RT2 _ C2.out.bel).out.mono ?_
      rintro e w3 ⟨rfl, hb3⟩
      have C3 := Lib.hid (C2.out.new hb3)
      have hr2 : rightD bm2 mm2 n2 l2 = false := hrr.resolve_left (by simp [hr1])
      obtain ⟨⟨S0, S0f⟩, ⟨S1, S1f⟩, ⟨S2, S2f⟩, ⟨S3, S3f⟩, s4', s5'⟩ := four_store C3.out.xr (.string ⟨#[]⟩) (.string ⟨#[]⟩) (.int .i64 0) (.slice none 0 0)
      have S4 := Lib.hid s4'
      have HB := Lib.hid (C3.out.bel.trans (s5'.below C3.out.bel.size (fun k e => by omega)))
      clear s4' s5' C2 C3 RT2 hb3 b0 b1 b2 b3
      go_wp2_with fail
      refine bodyPost_ret (v := .tuple #[ddZ.v (.slice none 0 0), .int .i64 1]) (results_row_tmp Try.results28 _ _ (w.heap.size + 1 + 1) _ _ _ _ rfl S4.out Try.underlying24 rfl del_info) rfl ?_
      rw [HR.out]
      exact ⟨_, rfl, OwnS.nil _ _, HB.out⟩
  have hr1 : rightD bm1 mm1 n1 l1 = true := by
    cases h : rightD bm1 mm1 n1 l1 with
    | false => exact absurd (.inl h) hrr
    | true => rfl
  have hr2 : rightD bm2 mm2 n2 l2 = true := by
    cases h : rightD bm2 mm2 n2 l2 with
    | false => exact absurd (.inr h) hrr
    | true => rfl
  rw [if_neg hrr] at HCR
  have G1 := Lib.hid (HRA.out hr1)
  have G2 := Lib.hid (HRB.out hr2)
  have ST1 := Lib.hid (right_st hr1)
  have ST2 := Lib.hid (right_st hr2)
  clear HRA HRB hrr
  obtain ⟨b0, b1, b2, b3⟩ := delO_cells C2.out.xb
  go_wp2_with fail
  refine (RT2 _ C2.out.bel).out.mono ?_
  rintro e w3 ⟨rfl, hb3⟩
  have C3 := Lib.hid (C2.out.new hb3)
  clear C2 hb3 RT2 b0 b1 b2 b3
  obtain ⟨a0, a1, a2, a3⟩ := delO_cells C3.out.xa
  obtain ⟨b0, b1, b2, b3⟩ := delO_cells C3.out.xb
  by_cases hm : mm1 = bm2
  · have q1 : (mm1 == bm2) = true := by simp [hm]
    have q2 : (mm1 != bm2) = false := by simp [hm]
    rw [if_neg (fun h => h hm)] at HCR
    clear a0 a1 a3 b0 b1 b2
    obtain ⟨a0, a1, a2, a3⟩ := delO_cells C3.out.xa
    obtain ⟨b0, b1, b2, b3⟩ := delO_cells C3.out.xb
    have LB1 := Lib.hid (show lenB l1 ≤ 1000000 from by have := G1.out.2.2.1; unfold lenB; omega)
    have LB2 := Lib.hid (show lenB l2 ≤ 1000000 from by have := G2.out.2.2.1; unfold lenB; omega)
    have IX := Lib.hid (inR_good G1.out.1)
    have IY := Lib.hid (inR_good G2.out.1)
    have HRI := Lib.hid (reach_iff (bytesA l1).length l2 ST2.out)
    have HN := Lib.hid G1.out.2.1
    have LX := Lib.hid (And.intro G1.out.2.2.1 G2.out.2.2.1)
    have BX := Lib.hid (refBytesA_any N (.slice ca l1.length k1) l1 w3 (HH1.out.keep C3.out.bel) ST1.out HAO.out.len LB1.out)
    go_wp2_with fail
    refine BX.out.mono ?_
    rintro e w4 ⟨vx, rfl, hox, hb4⟩
    have C4 := Lib.hid (C3.out.new hb4)
    obtain ⟨ax, cx, rfl⟩ := hox.slice
    have HX4 := Lib.hid hox
    clear BX hox hb4 a0 a1 a2 a3 b0 b1 b2 b3
    obtain ⟨b0, b1, b2, b3⟩ := delO_cells C4.out.xb
    have BY := Lib.hid (refBytesA_any M (.slice cb l2.length k2) l2 w4 (HH2.out.keep C4.out.bel) ST2.out HBO.out.len LB2.out)
    go_wp2_with fail
    refine BY.out.mono ?_
    rintro e w5 ⟨vy, rfl, hoy, hb5⟩
    have C5 := Lib.hid (C4.out.new hb5)
    obtain ⟨ay, cy, rfl⟩ := hoy.slice
    have HX := Lib.hid (HX4.out.new hb5)
    have HY := Lib.hid hoy
    clear BY hoy hb5 b0 b1 b2 b3 C3 C4 HX4 LB1 LB2 G1 G2 ST1 ST2 HAO HBO HH1 HH2
    generalize bytesA l1 = X at *
    generalize bytesA l2 = Y at *
    have HO5 := Lib.hid (And.intro C5.out.bel.size HY.out.1)
    go_wp2_with fail
    go_loopw [8, 9] (fun sv si wr => ∃ k : Nat, k ≤ Y.length ∧ si = .int .i64 k ∧ OwnB wr w5.heap.size sv (compB X (Y.take k)) ∧ InR (Y.take k) X.length ∧ Below w5.heap.size w5 wr) (fun _ si _ => Y.length - (intOf si).toNat)
    case atStart => exact ⟨0, by omega, rfl, OwnB.nil _ _, by rw [List.take_zero]; exact InR.nil _, Below.refl _ _⟩
    case round =>
      obtain ⟨k, hk, rfl, hown, hin, hbel⟩ := hrel
      have HO := Lib.hid hown; clear hown
      have HB := Lib.hid hbel; clear hbel
      have HI := Lib.hid hin; clear hin
      have hbw := HB.out.size
      have i0 : (0 : Int) ≤ (k : Int) := by omega
      have LXX := LX.out
      have LC := Lib.hid (show (compB X (Y.take k)).length ≤ 2000000 by rw [comp_len, List.length_take]; omega)
      by_cases hlt : k < Y.length
      · have W6 : IntKind.i64.wrap ((k : Int) + 1) = (k : Int) + 1 := by rw [IntKind.wrap_i64]; omega
        have i1 : (k : Int) < (Y.length : Int) := by omega
        obtain ⟨g, c', hv, hg0, hst⟩ := HY.out.at hlt
        injection hv with hv1 hv2 hv3
        subst hv1
        clear hv2 hv3
        have hgw : g < w5.heap.size := World.block_lt_of_cell? _ _ hst.c0
        have e0 := (HB.out.cell (p := ⟨g, k * 3, none⟩) hgw).trans hst.c0
        have e1 := (HB.out.cell (p := ⟨g, k * 3 + 1, none⟩) hgw).trans hst.c1
        have e2 := (HB.out.cell (p := ⟨g, k * 3 + 2, none⟩) hgw).trans hst.c2
        have hyi := IY.out Y[k] (List.getElem_mem _)
        have HTK := Lib.hid (show Y.take (k + 1) = Y.take k ++ [Y[k]] from List.take_succ_eq_append_getElem hlt)
        have HMEM := Lib.hid (show Y[k] ∈ Y from List.getElem_mem _)
        clear hst
        generalize Y[k] = b at *
        cases b with
        | inl ch =>
          have e0' : wr.cell? ⟨g, k * 3, none⟩ = some (.bool true) := e0
          have e1' : wr.cell? ⟨g, k * 3 + 1, none⟩ = some (.int .i64 0) := e1
          have e2' : wr.cell? ⟨g, k * 3 + 2, none⟩ = some (.int .u8 (ch.toNat : Int)) := e2
          clear e0 e1 e2
          go_wp2_with (at_builtin; refine append_bt (w := wr) (by rfl) (.tmp 42) (.tmp 47) 38 _ (by rfl) Try.underlying38 info_bt (by rfl) w5.heap.size _ (compB X (Y.take k)) (.inl ch) (by rfl) HO.out (by rfl) LC.out hbw ?_; intro v' w3 hown3 htn3; have HO3 := Lib.hid hown3; have HB3 := Lib.hid (HB.out.trans htn3.bel); clear hown3 htn3)
          go_roundw
          case rel => exact ⟨k + 1, by omega, by go_num, by rw [HTK.out, comp_append]; exact HO3.out, by rw [HTK.out]; exact InR.append.2 ⟨HI.out, fun b hb a e => by simp at hb; subst hb; cases e⟩, HB3.out⟩
          case measure => simp [intOf]; omega
        | inr fr =>
          have hfr := hyi fr rfl
          obtain ⟨F, rfl⟩ : ∃ F : Nat, fr = (F : Int) := ⟨fr.toNat, by omega⟩
          have e0' : wr.cell? ⟨g, k * 3, none⟩ = some (.bool false) := e0
          have e1' : wr.cell? ⟨g, k * 3 + 1, none⟩ = some (.int .i64 (F : Int)) := e1
          clear e0 e1 e2 hyi hfr
          by_cases hfx : F < X.length
          · have f1 : ¬ (F : Int) ≥ (X.length : Int) := by omega
            have f2 : (F : Int) < (X.length : Int) := by omega
            have f3 : (0 : Int) ≤ (F : Int) := by omega
            obtain ⟨g2, c2, hv, hg2, hst⟩ := HX.out.at hfx
            injection hv with hv1 hv2 hv3
            subst hv1
            clear hv2 hv3
            have hgx : g2 < w5.heap.size := World.block_lt_of_cell? _ _ hst.c0
            have d0 := (HB.out.cell (p := ⟨g2, F * 3, none⟩) hgx).trans hst.c0
            have d1 := (HB.out.cell (p := ⟨g2, F * 3 + 1, none⟩) hgx).trans hst.c1
            have d2 := (HB.out.cell (p := ⟨g2, F * 3 + 2, none⟩) hgx).trans hst.c2
            have HCO := Lib.hid (show cmpO X (.inr (F : Int)) = X[F] by show X[((F : Int)).toNat]?.getD _ = _; rw [Int.toNat_natCast, List.getElem?_eq_getElem hfx]; rfl)
            have HXL := Lib.hid hfx
            clear hst
            generalize X[F] = b2 at *
            go_wp2_with (at_builtin; refine append_bt (w := wr) (by rfl) (.tmp 58) (.tmp 67) 38 _ (by rfl) Try.underlying38 info_bt (by rfl) w5.heap.size _ (compB X (Y.take k)) b2 (by rfl) HO.out (by rfl) LC.out hbw ?_; intro v' w3 hown3 htn3; have HO3 := Lib.hid hown3; have HB3 := Lib.hid (HB.out.trans htn3.bel); clear hown3 htn3)
            go_roundw
            case rel => exact ⟨k + 1, by omega, by go_num, by rw [HTK.out, comp_append, show compB X [.inr (F : Int)] = [b2] from congrArg (fun z => [z]) HCO.out]; exact HO3.out, by rw [HTK.out]; exact InR.append.2 ⟨HI.out, fun b hb a e => by simp at hb; subst hb; injection e with e; have := HXL.out; omega⟩, HB3.out⟩
            case measure => simp [intOf]; omega
          · have f1 : (F : Int) ≥ (X.length : Int) := by omega
            have HR := Lib.hid (show res = (ddZ, 2) by
              have hx : ¬ reachS l2 ≤ n1 := fun hle => by
                have := (HRI.out.1 (by rw [HN.out] at hle; exact hle)) _ HMEM.out _ rfl
                omega
              rw [HCR.out, if_pos (by omega)])
            have C6 := Lib.hid (C5.out.new HB.out)
            obtain ⟨⟨S0, S0f⟩, ⟨S1, S1f⟩, ⟨S2, S2f⟩, ⟨S3, S3f⟩, s4', s5'⟩ := four_store C6.out.xr (.string ⟨#[]⟩) (.string ⟨#[]⟩) (.int .i64 0) (.slice none 0 0)
            have S4 := Lib.hid s4'
            have HBF := Lib.hid (C6.out.bel.trans (s5'.below C6.out.bel.size (fun k e => by omega)))
            clear s4' s5' C6
            go_wp2_with fail
            refine bodyPost_ret (v := .tuple #[ddZ.v (.slice none 0 0), .int .i64 2]) (results_row_tmp Try.results28 _ _ (w.heap.size + 1 + 1) _ _ _ _ rfl S4.out Try.underlying24 rfl del_info) rfl ?_
            rw [HR.out]
            exact ⟨_, rfl, OwnS.nil _ _, HBF.out⟩
      · obtain rfl : k = Y.length := by omega
        have i1 : ¬ (Y.length : Int) < (Y.length : Int) := by omega
        rw [List.take_length] at HO HI LC
        have HR := Lib.hid (show res = (⟨bm1, mm2, n2, stepsB (compB X Y)⟩, 0) by have hx := HRI.out.2 HI.out; rw [← HN.out] at hx; rw [HCR.out, if_neg (by omega)])
        have C6 := Lib.hid (C5.out.new HB.out)
        obtain ⟨sa, sc, rfl⟩ := HO.out.slice
        go_upto_region 16 with fail
        have bdr : Below wr.heap.size wr wr.drew := Below_drew (Below.refl _ _)
        have C7 := Lib.hid (C6.out.new bdr)
        have TH := Lib.hid (refSteps7_any w5.heap.size (.slice sa (compB X Y).length sc) (compB X Y) wr.drew (HO.out.new bdr) (comp_inR IX.out HI.out) (by rw [comp_len]; omega))
        obtain ⟨a0, a1, a2, a3⟩ := delO_cells C7.out.xa
        obtain ⟨b0, b1, b2, b3⟩ := delO_cells C7.out.xb
        clear a1 a2 a3 b0 b3 bdr C6 C5 HX HY HO HB HI IX IY HRI HN LC HO5
        go_region_held3 (fun w' => w'.cell? ⟨w.heap.size, 0, none⟩ = some (.string ⟨bm1.toArray⟩) ∧ w'.cell? ⟨w.heap.size + 1, 1, none⟩ = some (.string ⟨mm2.toArray⟩) ∧ w'.cell? ⟨w.heap.size + 1, 2, none⟩ = some (.int .i64 n2))
          (first | with_reducible exact ⟨by assumption, by assumption, by assumption⟩ | go_keep)
          (first | (go_at_call 24; go_split_ands; refine TH.out.mono ?_; rintro e wB ⟨v', rfl, hoT, bT⟩; obtain ⟨vxa, vxm, vxc, rfl⟩ := own_slice hoT; have cB := C7.out.new bT; obtain ⟨⟨S0, S0f⟩, ⟨S1, S1f⟩, ⟨S2, S2f⟩, ⟨S3, S3f⟩, s4', s5'⟩ := four_store cB.xr (.string ⟨bm1.toArray⟩) (.string ⟨mm2.toArray⟩) (.int .i64 n2) (.slice vxa vxm vxc); have S4 := Lib.hid s4'; have HF := Lib.hid (cB.bel.trans (s5'.below cB.bel.size (fun k e => by omega))); have xa' := s5'.old cB.xa (by omega); have xb' := s5'.old cB.xb (by omega); obtain ⟨m0, m1, m2, m3⟩ := delO_cells xa'; obtain ⟨p0, p1, p2, p3⟩ := delO_cells xb'; obtain ⟨n0', n1', n2', n3'⟩ := delO_cells cB.xa; obtain ⟨r0', r1', r2', r3'⟩ := delO_cells cB.xb; have HO := Lib.hid ((hoT.kept s5' (fun g hg e => own_ne hoT cB.xr (by decide) (e ▸ hg))).mono C7.out.bel.size); clear s4' s5' hoT bT cB xa' xb' m1 m2 m3 p0 p3 n1' n2' n3' r0' r3'))
        all_goals
          go_wp2_with fail
          refine bodyPost_ret (v := .tuple #[delW bm1 mm2 n2 (.slice vxa vxm vxc), .int .i64 0]) (results_row_tmp Try.results28 _ _ (w.heap.size + 1 + 1) _ _ _ _ rfl S4.out Try.underlying24 rfl del_info) rfl ?_
          rw [HR.out]
          exact ⟨_, rfl, HO.out, HF.out⟩
  · have q1 : (mm1 == bm2) = false := by simp [hm]
    have q2 : (mm1 != bm2) = true := by simp [hm]
    have HR := Lib.hid (show res = (ddZ, 13) by rw [HCR.out, if_pos hm])
    obtain ⟨⟨S0, S0f⟩, ⟨S1, S1f⟩, ⟨S2, S2f⟩, ⟨S3, S3f⟩, s4', s5'⟩ := four_store C3.out.xr (.string ⟨#[]⟩) (.string ⟨#[]⟩) (.int .i64 0) (.slice none 0 0)
    have S4 := Lib.hid s4'
    have HB := Lib.hid (C3.out.bel.trans (s5'.below C3.out.bel.size (fun k e => by omega)))
    clear s4' s5' C3
    go_wp2_with fail
    refine bodyPost_ret (v := .tuple #[ddZ.v (.slice none 0 0), .int .i64 13]) (results_row_tmp Try.results28 _ _ (w.heap.size + 1 + 1) _ _ _ _ rfl S4.out Try.underlying24 rfl del_info) rfl ?_
    rw [HR.out]
    exact ⟨_, rfl, OwnS.nil _ _, HB.out⟩
end Go.Proofs.Ytpkgjokehgihjaa
/- The walk of the document's Fold. -/
set_option linter.unusedVariables false
namespace Go.Proofs.Ytpkgjokehgihjaa
open Go.RowKit

theorem last_store {w : World} {p : Nat} {ty : TypeId} {x0 x1 x2 x3 : Value} (h : w.heap[p]? = some (.cells #[x0, x1, x2, x3] ty (0, 0))) (y3 : Value) :
    (w.cell? ⟨p, 3, none⟩ = some x3 ∧ w.frozen? ⟨p, 3, none⟩ = false) ∧
    (w.setCell ⟨p, 3, none⟩ y3).heap[p]? = some (.cells #[x0, x1, x2, y3] ty (0, 0)) ∧
    Kept (fun k => k = p) w (w.setCell ⟨p, 3, none⟩ y3) := by
  refine ⟨⟨?_, frozen_of_row w p 3 _ _ h⟩, heap_setCell_same w p 3 _ _ y3 h, (Kept.refl _ _).setCell (by rfl) _⟩
  rw [cell_of_row _ _ _ _ _ _ h]; rfl
/-- A delta is put into a box of zero; what lies elsewhere stands. -/
abbrev put4 (w : World) (p : Nat) (d : DD) (v : Value) : World := (((w.setCell ⟨p, 0, none⟩ (.string ⟨d.bm.toArray⟩)).setCell ⟨p, 1, none⟩ (.string ⟨d.mm.toArray⟩)).setCell ⟨p, 2, none⟩ (.int .i64 d.n)).setCell ⟨p, 3, none⟩ v
theorem DAt.kept {w w' : World} {M : Nat → Prop} {g o : Nat} {d : DD} {c : Value} (h : DAt w g o d c) (k : Kept M w w') (hg : ¬ M g) : DAt w' g o d c := by
  have hb := k.block g (World.block_lt_of_cell? _ _ h.c0) hg
  exact ⟨by rw [World.cell?_of_block (w := w) hb]; exact h.c0, by rw [World.cell?_of_block (w := w) hb]; exact h.c1, by rw [World.cell?_of_block (w := w) hb]; exact h.c2, by rw [World.cell?_of_block (w := w) hb]; exact h.c3⟩
structure FBox (wf : World) (p0 p4 p6 g o' base : Nat) (d x c : DD) (vd vx vc : Value) : Prop where
  h6 : wf.heap[p6]? = some (c.o vc)
  h4 : wf.heap[p4]? = some (d.o vd)
  h0 : wf.heap[p0]? = some (delO [] [] 0 (.slice none 0 0))
  hx : DAt wf g o' x vx
  ho : OwnS wf base vc c.l
theorem fold_box {wx : World} {p0 p4 p6 g o' base : Nat} {d x c : DD} {vd vx vc : Value} (h6 : wx.heap[p6]? = some (delO [] [] 0 (.slice none 0 0))) (h4 : wx.heap[p4]? = some (d.o vd)) (h0 : wx.heap[p0]? = some (delO [] [] 0 (.slice none 0 0)))
    (hx : DAt wx g o' x vx) (n4 : p4 ≠ p6) (n0 : p0 ≠ p6) (ng : g ≠ p6) (ho : OwnS wx base vc c.l) : FBox (put4 wx p6 c vc) p0 p4 p6 g o' base d x c vd vx vc := by
  obtain ⟨_, _, _, _, s4, s5⟩ := four_store h6 (.string ⟨c.bm.toArray⟩) (.string ⟨c.mm.toArray⟩) (.int .i64 c.n) vc
  exact ⟨s4, s5.old h4 n4, s5.old h0 n0, hx.kept s5 ng, ho.kept s5 (fun g' hg' e => own_ne ho h6 (by decide) (e ▸ hg'))⟩
theorem with_box {A : World → Prop} {wf w : World} {n p0 p4 p6 g o' base : Nat} {d x c : DD} {vd vx vc : Value} (h : Hid (FBox wf p0 p4 p6 g o' base d x c vd vx vc)) (b : Hid (Below n w wf)) (k : ∀ wf', Hid (FBox wf' p0 p4 p6 g o' base d x c vd vx vc) → Hid (Below n w wf') → A wf') : A wf := k wf h b
set_option maxRecDepth 100000 in
set_option maxHeartbeats 800000 in
theorem refFold_any (v : Value) (ds : List DD) (w : World) (h : RowD w v ds) (hok : ∀ d ∈ ds, d.Ok) (hl : ds.length ≤ 1000000) :
    Calls Try.prog 30 #[v] w fun e w' => ∃ v', e = .returned (.tuple #[(foldR ds).1.v v', .int .i64 (foldR ds).2]) ∧ OwnS w' w.heap.size v' (foldR ds).1.l ∧ Below w.heap.size w w' := by
  obtain ⟨a, c, rfl, hlc, hd⟩ := h
  have B0 := Lib.hid (below_self_alloc w (delO [] [] 0 (.slice none 0 0)))
  have X0 := Lib.hid (heap_alloc_new w (delO [] [] 0 (.slice none 0 0)))
  rcases ds with _ | ⟨d0, ds⟩
  · go_enter Try.func30, Try.ntmps30
    go_wp2_with fail
    refine bodyPost_ret (v := .tuple #[ddZ.v (.slice none 0 0), .int .i64 1]) (results_row_tmp Try.results30 _ _ w.heap.size _ _ _ _ rfl X0.out Try.underlying24 rfl del_info) rfl ?_
    exact ⟨_, rfl, OwnS.nil _ _, B0.out⟩
  · have hd0 := hd 0 (by simp)
    obtain ⟨g, o, v0, rfl, hc0, hr0⟩ := hd0
    have HD := Lib.hid hd
    have HOK := Lib.hid hok
    have ok0 : d0.Ok := hok d0 (by simp)
    obtain ⟨e0, e1, e2, e3⟩ := hc0.new B0.out
    have hr0' := hr0.keep B0.out
    have RT := Lib.hid (refRightD_any _ d0.bm d0.mm d0.n v0 d0.l (w.alloc (delO [] [] 0 (.slice none 0 0))) hr0' ok0.st ok0.len ok0.b ok0.m ok0.n1 ok0.n2)
    have HRD := Lib.hid (show (foldR (d0 :: ds)) = if d0.right = false then (ddZ, 1) else foldG (tidR d0) ds from rfl)
    generalize foldR (d0 :: ds) = res at *
    obtain ⟨va0, vc0, hv0⟩ := hr0.slice
    subst hv0
    simp only [List.length_cons, List.getElem_cons_zero, Nat.zero_mul, Nat.add_zero] at e0 e1 e2 e3 hlc hl ⊢
    have z0 : ((ds.length : Int) + 1 == 0) = false := by simp; omega
    have i1 : (0 : Int) < (ds.length : Int) + 1 := by omega
    clear hd hok hc0
    obtain ⟨bm0, mm0, n0, l0⟩ := d0
    dsimp only [DD.v, DD.o, DD.right] at *
    go_enter Try.func30, Try.ntmps30
    go_wp2_with fail
    refine RT.out.mono ?_
    rintro e w2 ⟨rfl, hb2⟩
    have X2 := Lib.hid (old_of hb2 X0.out)
    have B2 := Lib.hid (B0.out.trans (hb2.mono B0.out.size))
    have hr2 := hr0'.keep hb2
    obtain ⟨f0, f1, f2, f3⟩ := (show DAt w2 g o ⟨bm0, mm0, n0, l0⟩ (.slice va0 l0.length vc0) from ⟨(hb2.cell (World.block_lt_of_cell? _ _ e0)).trans e0, (hb2.cell (World.block_lt_of_cell? _ _ e1)).trans e1, (hb2.cell (World.block_lt_of_cell? _ _ e2)).trans e2, (hb2.cell (World.block_lt_of_cell? _ _ e3)).trans e3⟩)
    dsimp only at f0 f1 f2 f3
    clear hr0' e0 e1 e2 e3 X0 B0 RT
    cases hrr : rightD bm0 mm0 n0 l0 with
    | false =>
      have HR := Lib.hid (show res = (ddZ, 1) by rw [HRD.out]; exact if_pos hrr)
      obtain ⟨⟨S0, S0f⟩, ⟨S1, S1f⟩, ⟨S2, S2f⟩, ⟨S3, S3f⟩, s4', s5'⟩ := four_store X2.out (.string ⟨#[]⟩) (.string ⟨#[]⟩) (.int .i64 0) (.slice none 0 0)
      have S4 := Lib.hid s4'
      have HB := Lib.hid (B2.out.trans (s5'.below B2.out.size (fun k e => by omega)))
      clear s4' s5' X2 B2 hb2
      go_wp2_with fail
      refine bodyPost_ret (v := .tuple #[ddZ.v (.slice none 0 0), .int .i64 1]) (results_row_tmp Try.results30 _ _ w.heap.size _ _ _ _ rfl S4.out Try.underlying24 rfl del_info) rfl ?_
      rw [HR.out]
      exact ⟨_, rfl, OwnS.nil _ _, HB.out⟩
    | true =>
      have HR := Lib.hid (show res = foldG (tidR ⟨bm0, mm0, n0, l0⟩) ds by rw [HRD.out]; exact if_neg (by simp [hrr]))
      have HRT := Lib.hid (tid_right (d := ⟨bm0, mm0, n0, l0⟩) hrr)
      obtain ⟨g1, g2, g3, g4, g5⟩ := right_good hrr
      have ST0 := Lib.hid (right_st hrr)
      have IR0 := Lib.hid (inR_good g1)
      have LB0 := Lib.hid (show lenB l0 ≤ 1000000 from by unfold lenB; omega)
      have bx := below_self_alloc w2 (delO bm0 mm0 n0 (.slice va0 l0.length vc0))
      have D3 := Lib.hid (heap_alloc_new w2 (delO bm0 mm0 n0 (.slice va0 l0.length vc0)))
      have X3 := Lib.hid (old_of bx X2.out)
      have B3 := Lib.hid (B2.out.trans (bx.mono B2.out.size))
      have BY := Lib.hid (refBytesA_any _ (.slice va0 l0.length vc0) l0 _ (hr2.keep bx) ST0.out ok0.len LB0.out)
      have HPW := Lib.hid (show w.heap.size < w2.heap.size from (Array.getElem?_eq_some_iff.1 X2.out).1)
      obtain ⟨y0, y1, y2, y3⟩ := delO_cells D3.out
      clear HRD g1 g2 g4 g5 bx hr2 X2 B2
      go_wp2_with fail
      generalize hp : w2.heap.size = p4 at *
      generalize w2.alloc (.cells #[.string ⟨bm0.toArray⟩, .string ⟨mm0.toArray⟩, .int .i64 n0, .slice va0 l0.length vc0] 24) = w3 at *
      refine BY.out.mono ?_
      rintro e w5 ⟨vb, rfl, hob, hb5⟩
      have D5 := Lib.hid (old_of hb5 D3.out)
      have X5 := Lib.hid (old_of hb5 X3.out)
      have B5 := Lib.hid (B3.out.trans (hb5.mono B3.out.size))
      have SP := Lib.hid (refSteps7_any _ vb (bytesA l0) w5 hob IR0.out (by omega))
      have HS5 := Lib.hid (Nat.le_trans B3.out.size hb5.size)
      clear y0 y1 y2 y3 hob hb5 D3 X3 B3 BY
      go_wp2_with fail
      refine SP.out.mono ?_
      rintro e w6 ⟨vt, rfl, hot, hb6⟩
      obtain ⟨vta, vtm, vtc, rfl⟩ := own_slice hot
      have d6 := old_of hb6 D5.out
      have X6 := Lib.hid (old_of hb6 X5.out)
      have B6 := Lib.hid (B5.out.trans (hb6.mono B5.out.size))
      obtain ⟨⟨S3, S3f⟩, s4', s5'⟩ := last_store d6 (.slice vta vtm vtc)
      obtain ⟨y0, y1, y2, y3⟩ := delO_cells d6
      have D4 := Lib.hid s4'
      have X4 := Lib.hid (s5'.old X6.out (by have := HPW.out; omega))
      have B4 := Lib.hid (B6.out.trans (s5'.below B6.out.size (fun k e => by have := HPW.out; omega)))
      have HO4 := Lib.hid ((hot.kept s5' (fun g hg e => own_ne hot d6 (by decide) (e ▸ hg))).mono B5.out.size)
      have HDD := fun w' (hb : Below w.heap.size w w') i hi => Lib.hid (show ∃ vi, DAt w' g (o + (i + 1) * 4) (ds[i]'hi) vi ∧ RowS (fun _ => True) w' vi (ds[i]'hi).l by
        obtain ⟨g', o', vi, he, hx1, hx2⟩ := HD.out (i + 1) (by simp; omega)
        injection he with he
        injection he with he1 he2
        subst he1
        subst he2
        exact ⟨vi, hx1.new hb, hx2.keep hb⟩)
      have HOK2 := Lib.hid (fun i (hi : i < ds.length) => HOK.out ds[i] (by simp))
      clear hot hb6 d6 X6 B6 s4' s5' SP D5 X5 B5 HD HOK f0 f1 f2 f3
      go_wp2_with fail
      generalize w6.setCell ⟨p4, 3, none⟩ (.slice vta vtm vtc) = w4 at *
      go_loopw [5] (fun i wr => ∃ (k : Nat) (d : DD) (vd : Value), k ≤ ds.length ∧ i = .int .i64 ((k : Int) + 1) ∧ wr.heap[p4]? = some (d.o vd) ∧ wr.heap[w.heap.size]? = some (delO [] [] 0 (.slice none 0 0)) ∧ OwnS wr w.heap.size vd d.l ∧ d.right = true ∧ Hid (foldG d (ds.drop k) = foldG (tidR ⟨bm0, mm0, n0, l0⟩) ds) ∧ Below w.heap.size w wr) (fun i _ => ds.length + 1 - (intOf i).toNat)
      case atStart => exact ⟨0, tidR ⟨bm0, mm0, n0, l0⟩, _, by omega, rfl, D4.out, X4.out, HO4.out, HRT.out, Lib.hid rfl, B4.out⟩
      case round =>
        obtain ⟨k, d, vd, hk, rfl, hg4, hg0, hown, hdr, HF, hbel⟩ := hrel
        have HG4 := Lib.hid hg4
        have HG0 := Lib.hid hg0
        have HO := Lib.hid hown
        have HB := Lib.hid hbel
        clear hg0 hown hbel
        obtain ⟨y0, y1, y2, y3⟩ := delO_cells hg4
        obtain ⟨bmd, mmd, nd, ld⟩ := d
        dsimp only at y0 y1 y2 y3
        by_cases hlt : k < ds.length
        · obtain ⟨vi, hat, hri⟩ := (HDD wr HB.out k hlt).out
          have okx := HOK2.out k hlt
          have HF2 := Lib.hid (HF.out)
          rw [List.drop_eq_getElem_cons hlt] at HF2
          generalize ds[k] = x at *
          obtain ⟨bmx, mmx, nx, lx⟩ := x
          obtain ⟨via, vic, hvi⟩ := hri.slice
          subst hvi
          obtain ⟨vda, vdm, vdc, rfl⟩ := own_slice HO.out
          have bdr : Below wr.heap.size wr wr.drew := Below_drew (Below.refl _ _)
          have CP := fun w' (hb : Below wr.heap.size wr w') => Lib.hid (refCompose_any _ _ ⟨bmd, mmd, nd, ld⟩ ⟨bmx, mmx, nx, lx⟩ (.slice vda vdm vdc) (.slice via lx.length vic) w' (HO.out.new hb).row (hri.keep hb) (ok_right hdr) okx)
          have HCR := Lib.hid (fun h => comp_right (a := ⟨bmd, mmd, nd, ld⟩) (b := ⟨bmx, mmx, nx, lx⟩) h)
          have HF3 := Lib.hid (show foldG ⟨bmd, mmd, nd, ld⟩ (⟨bmx, mmx, nx, lx⟩ :: ds.drop (k + 1)) = if (compR ⟨bmd, mmd, nd, ld⟩ ⟨bmx, mmx, nx, lx⟩).2 ≠ 0 then (ddZ, (compR ⟨bmd, mmd, nd, ld⟩ ⟨bmx, mmx, nx, lx⟩).2) else foldG (compR ⟨bmd, mmd, nd, ld⟩ ⟨bmx, mmx, nx, lx⟩).1 (ds.drop (k + 1)) from rfl)
          have HF4 := Lib.hid (HF2.out.symm.trans HF3.out)
          have k0 : (0 : Int) ≤ (k : Int) + 1 := by omega
          have k1 : (k : Int) + 1 < (ds.length : Int) + 1 := by omega
          generalize compR ⟨bmd, mmd, nd, ld⟩ ⟨bmx, mmx, nx, lx⟩ = cr at *
          obtain ⟨⟨bmc, mmc, nc, lc⟩, ec⟩ := cr
          clear HF HF2 HF3 okx hdr
          have bA : Below wr.heap.size wr (wr.alloc (delO [] [] 0 (.slice none 0 0))).drew := Below_drew (below_self_alloc wr _)
          have HG4r := Lib.hid (old_of bdr HG4.out)
          have HG0r := Lib.hid (old_of bdr HG0.out)
          have HG4A := Lib.hid (old_of bA HG4.out)
          have HG0A := Lib.hid (old_of bA HG0.out)
          have XA : Hid ((wr.alloc (delO [] [] 0 (.slice none 0 0))).drew.heap[wr.heap.size]? = some (delO [] [] 0 (.slice none 0 0))) := Lib.hid (heap_alloc_new wr _)
          have BD := Lib.hid bdr
          have BA := Lib.hid bA
          have L4 := Lib.hid (show p4 < wr.heap.size from (Array.getElem?_eq_some_iff.1 HG4.out).1)
          have L0 := Lib.hid (show w.heap.size < wr.heap.size from (Array.getElem?_eq_some_iff.1 HG0.out).1)
          have LG := Lib.hid (show g < wr.heap.size from World.block_lt_of_cell? _ _ hat.c0)
          have HATr := Lib.hid (hat.new bdr)
          have HATA := Lib.hid (hat.new bA)
          have HBB := Lib.hid HB.out
          obtain ⟨c0, c1, c2, c3⟩ := HATr.out
          obtain ⟨c0A, c1A, c2A, c3A⟩ := HATA.out
          dsimp only at c0 c1 c2 c3 c0A c1A c2A c3A
          clear hat hri y0 y1 y2 y3 hg4
          obtain ⟨y0, y1, y2, y3⟩ := delO_cells HG4r.out
          obtain ⟨y0A, y1A, y2A, y3A⟩ := delO_cells HG4A.out
          clear HG4 HG0 HB HO bdr bA
          go_upto_region 8 with fail
          go_region_held3 (fun w' => w'.cell? ⟨p4, 0, none⟩ = some (.string ⟨bmd.toArray⟩) ∧ w'.cell? ⟨p4, 1, none⟩ = some (.string ⟨mmd.toArray⟩) ∧ w'.cell? ⟨p4, 2, none⟩ = some (.int .i64 nd) ∧ w'.cell? ⟨p4, 3, none⟩ = some (.slice vda vdm vdc) ∧ w'.cell? ⟨g, o + (k + 1) * 4, none⟩ = some (.string ⟨bmx.toArray⟩) ∧ w'.cell? ⟨g, o + (k + 1) * 4 + 1, none⟩ = some (.string ⟨mmx.toArray⟩) ∧ w'.cell? ⟨g, o + (k + 1) * 4 + 2, none⟩ = some (.int .i64 nx) ∧ w'.cell? ⟨g, o + (k + 1) * 4 + 3, none⟩ = some (.slice via lx.length vic))
            (first | with_reducible exact ⟨by assumption, by assumption, by assumption, by assumption, by assumption, by assumption, by assumption, by assumption⟩ | go_keep)
            (first | (go_at_call 28; go_split_ands; first
              | (refine (CP _ BD.out).out.mono ?_; rintro e w6 ⟨v', rfl, hoc, bc⟩; obtain ⟨vca, vcm, vcc, rfl⟩ := own_slice hoc; obtain ⟨y0', y1', y2', y3'⟩ := delO_cells (old_of bc HG4r.out); obtain ⟨c0', c1', c2', c3'⟩ := HATr.out.new bc; dsimp only at c0' c1' c2' c3'; have b6 := below_self_alloc w6 (delO [] [] 0 (.slice none 0 0)); have x6 := Lib.hid (heap_alloc_new w6 (delO [] [] 0 (.slice none 0 0))); have hy4 := Lib.hid (old_of b6 (old_of bc HG4r.out)); have hy0 := Lib.hid (old_of b6 (old_of bc HG0r.out)); have hax := Lib.hid ((HATr.out.new bc).new b6); have hox := Lib.hid ((hoc.new b6).mono (Nat.le_trans HBB.out.size BD.out.size)); have bxx := Lib.hid (HBB.out.trans ((BD.out.trans ((bc.mono BD.out.size).trans (b6.mono (Nat.le_trans BD.out.size bc.size)))).mono HBB.out.size)); have ML := Lib.hid (show wr.heap.size ≤ w6.heap.size from Nat.le_trans BD.out.size bc.size); have b6' := below_self_alloc w6 (delO bmc mmc nc (.slice vca vcm vcc)); have FB2 := Lib.hid (show FBox _ w.heap.size p4 w6.heap.size g (o + (k + 1) * 4) w.heap.size ⟨bmd, mmd, nd, ld⟩ ⟨bmx, mmx, nx, lx⟩ ⟨bmc, mmc, nc, lc⟩ (.slice vda vdm vdc) (.slice via lx.length vic) (.slice vca vcm vcc) from ⟨heap_alloc_new w6 (delO bmc mmc nc (.slice vca vcm vcc)), old_of b6' (old_of bc HG4r.out), old_of b6' (old_of bc HG0r.out), (HATr.out.new bc).new b6', (hoc.new b6').mono (Nat.le_trans HBB.out.size BD.out.size)⟩); have BF2 := Lib.hid (HBB.out.trans ((BD.out.trans ((bc.mono BD.out.size).trans (b6'.mono (Nat.le_trans BD.out.size bc.size)))).mono HBB.out.size)); clear b6 b6' hoc bc; obtain ⟨⟨S0, S0f⟩, ⟨S1, S1f⟩, ⟨S2, S2f⟩, ⟨S3, S3f⟩, _, s5'⟩ := four_store x6.out (.string ⟨bmc.toArray⟩) (.string ⟨mmc.toArray⟩) (.int .i64 nc) (.slice vca vcm vcc); have FB := Lib.hid (fold_box (c := ⟨bmc, mmc, nc, lc⟩) (vc := .slice vca vcm vcc) x6.out hy4.out hy0.out hax.out (by have := L4.out; have := ML.out; omega) (by have := L0.out; have := ML.out; omega) (by have := LG.out; have := ML.out; omega) hox.out); have BF := Lib.hid (bxx.out.trans (s5'.below bxx.out.size (fun k e => by have := L0.out; have := ML.out; omega))); obtain ⟨z0, z1, z2, z3⟩ := delO_cells hy4.out; obtain ⟨x0, x1, x2, x3⟩ := hax.out; obtain ⟨z0', z1', z2', z3'⟩ := delO_cells FB.out.h4; obtain ⟨x0', x1', x2', x3'⟩ := FB.out.hx; dsimp only at x0 x1 x2 x3 x0' x1' x2' x3'; clear s5' x6 hy4 hy0 hax hox bxx)
              | (refine (CP _ BA.out).out.mono ?_; rintro e w6 ⟨v', rfl, hoc, bc⟩; obtain ⟨vca, vcm, vcc, rfl⟩ := own_slice hoc; have x6 := Lib.hid (old_of bc XA.out); have hy4 := Lib.hid (old_of bc HG4A.out); have hy0 := Lib.hid (old_of bc HG0A.out); have hax := Lib.hid (HATA.out.new bc); have hox := Lib.hid (hoc.mono (Nat.le_trans HBB.out.size BA.out.size)); have bxx := Lib.hid (HBB.out.trans ((BA.out.trans (bc.mono BA.out.size)).mono HBB.out.size)); have ML := Lib.hid (Nat.le_refl wr.heap.size); clear hoc bc; obtain ⟨⟨S0, S0f⟩, ⟨S1, S1f⟩, ⟨S2, S2f⟩, ⟨S3, S3f⟩, _, s5'⟩ := four_store x6.out (.string ⟨bmc.toArray⟩) (.string ⟨mmc.toArray⟩) (.int .i64 nc) (.slice vca vcm vcc); have FB := Lib.hid (fold_box (c := ⟨bmc, mmc, nc, lc⟩) (vc := .slice vca vcm vcc) x6.out hy4.out hy0.out hax.out (by have := L4.out; have := ML.out; omega) (by have := L0.out; have := ML.out; omega) (by have := LG.out; have := ML.out; omega) hox.out); have BF := Lib.hid (bxx.out.trans (s5'.below bxx.out.size (fun k e => by have := L0.out; have := ML.out; omega))); obtain ⟨z0, z1, z2, z3⟩ := delO_cells hy4.out; obtain ⟨x0, x1, x2, x3⟩ := hax.out; obtain ⟨z0', z1', z2', z3'⟩ := delO_cells FB.out.h4; obtain ⟨x0', x1', x2', x3'⟩ := FB.out.hx; dsimp only at x0 x1 x2 x3 x0' x1' x2' x3'; clear s5' x6 hy4 hy0 hax hox bxx)))
          all_goals
            clear c0 c1 c2 c3 c0A c1A c2A c3A y0 y1 y2 y3 y0A y1A y2A y3A CP HG4r HG0r HG4A HG0A HATr HATA XA BD BA
            clear z0 z1 z2 z3 x0 x1 x2 x3 z0' z1' z2' z3' x0' x1' x2' x3' S0 S0f S1 S1f S2 S2f S3 S3f
            first
              | (refine with_box FB2 BF2 ?_; clear FB2 BF2)
              | refine with_box FB BF ?_
            clear FB BF
            intro wf FB BF
            obtain ⟨e0', e1', e2', e3'⟩ := delO_cells FB.out.h6
            by_cases hz : ec = 0
            · have q0 : (ec != 0) = false := by simp [hz]
              have HFN := Lib.hid (show foldG ⟨bmc, mmc, nc, lc⟩ (ds.drop (k + 1)) = foldG (tidR ⟨bm0, mm0, n0, l0⟩) ds by rw [HF4.out]; exact (if_neg (fun h => h hz)).symm)
              obtain ⟨⟨R0, R0f⟩, ⟨R1, R1f⟩, ⟨R2, R2f⟩, ⟨R3, R3f⟩, r4', r5'⟩ := four_store FB.out.h4 (.string ⟨bmc.toArray⟩) (.string ⟨mmc.toArray⟩) (.int .i64 nc) (.slice vca vcm vcc)
              have R4 := Lib.hid r4'
              have R0' := Lib.hid (r5'.old FB.out.h0 (by have := HPW.out; omega))
              have RO := Lib.hid (FB.out.ho.kept r5' (fun g hg e => own_ne FB.out.ho FB.out.h4 (by decide) (e ▸ hg)))
              have RB := Lib.hid (BF.out.trans (r5'.below BF.out.size (fun k e => by have := HPW.out; omega)))
              have W6 : IntKind.i64.wrap ((k : Int) + 1 + 1) = (k : Int) + 1 + 1 := by rw [IntKind.wrap_i64]; omega
              clear r4' r5' HF4
              go_wp2_with fail
              go_roundw
              case rel => exact ⟨k + 1, ⟨bmc, mmc, nc, lc⟩, _, by omega, by go_num, R4.out, R0'.out, RO.out, HCR.out hz, HFN, RB.out⟩
              case measure => simp [intOf]; omega
            · have q0 : (ec != 0) = true := by simp [hz]
              have HFN := Lib.hid (show (ddZ, ec) = res by rw [HR.out, HF4.out]; exact (if_pos hz).symm)
              obtain ⟨⟨R0, R0f⟩, ⟨R1, R1f⟩, ⟨R2, R2f⟩, ⟨R3, R3f⟩, r4', r5'⟩ := four_store FB.out.h0 (.string ⟨#[]⟩) (.string ⟨#[]⟩) (.int .i64 0) (.slice none 0 0)
              have S4 := Lib.hid r4'
              have HBF := Lib.hid (BF.out.trans (r5'.below BF.out.size (fun k e => by omega)))
              clear r4' r5' HF4
              go_wp2_with fail
              refine bodyPost_ret (v := .tuple #[ddZ.v (.slice none 0 0), .int .i64 ec]) (results_row_tmp Try.results30 _ _ w.heap.size _ _ _ _ rfl S4.out Try.underlying24 rfl del_info) rfl ?_
              rw [← HFN.out]
              exact ⟨_, rfl, OwnS.nil _ _, HBF.out⟩
        · obtain rfl : k = ds.length := by omega
          have j1 : ¬ (ds.length : Int) + 1 < (ds.length : Int) + 1 := by omega
          obtain ⟨vda, vdm, vdc, rfl⟩ := own_slice HO.out
          obtain ⟨⟨S0, S0f⟩, ⟨S1, S1f⟩, ⟨S2, S2f⟩, ⟨S3, S3f⟩, s4', s5'⟩ := four_store HG0.out (.string ⟨bmd.toArray⟩) (.string ⟨mmd.toArray⟩) (.int .i64 nd) (.slice vda vdm vdc)
          have S4 := Lib.hid s4'
          have HBF := Lib.hid (HB.out.trans (s5'.below HB.out.size (fun k e => by omega)))
          have HOF := Lib.hid (HO.out.kept s5' (fun g hg e => own_ne HO.out HG0.out (by decide) (e ▸ hg)))
          clear s4' s5'
          go_wp2_with fail
          refine bodyPost_ret (v := .tuple #[delW bmd mmd nd (.slice vda vdm vdc), .int .i64 0]) (results_row_tmp Try.results30 _ _ w.heap.size _ _ _ _ rfl S4.out Try.underlying24 rfl del_info) rfl ?_
          rw [HR.out, ← HF.out, List.drop_length]
          exact ⟨_, rfl, HOF.out, HBF.out⟩
end Go.Proofs.Ytpkgjokehgihjaa

/- Several texts in one: DelBytesW, DelBytes2W, RefDBytesW. -/
import Derived.Test.YtpkgjokehgihjaaRbX
import Derived.Test.YtpkgjokehgihjaaCdX
import Derived.Test.YtpkgjokehgihjaaCodeNumW
import Derived.Test.YtpkgjokehgihjaaDelX
import Derived.Test.YtpkgjokehgihjaaFrame
import Derived.Test.YtpkgjokehgihjaaGen
import Derived.Test.YtpkgjokehgihjaaInfos
import Derived.Test.YtpkgjokehgihjaaMarkMath
import Derived.Test.YtpkgjokehgihjaaOwnL
import Derived.Test.YtpkgjokehgihjaaProg
import Derived.Test.YtpkgjokehgihjaaRowKeep
import Derived.Test.YtpkgjokehgihjaaRows
import Derived.Test.YtpkgjokehgihjaaSignMath
import Derived.BigQuiet
import Derived.Deep.QuietTactic
import Derived.Deep.RegionHeld3
import Derived.Deep.RegionLaw
import Derived.IntWalk
import Derived.Laws.Rows
import Derived.Laws.Tables
import Derived.Lib.Hide
import Derived.Outline
import Derived.WalkKit
import Derived.WalkLawsBesides
import Derived.WalkSpells
import Derived.Test.YtpkgjokehgihjaaMkX
import Derived.Test.YtpkgjokehgihjaaRightDW
import Derived.Test.YtpkgjokehgihjaaStepW
import Derived.Laws.OwnMore
import Derived.Test.YtpkgjokehgihjaaBldShelf
import Derived.Test.YtpkgjokehgihjaaTabX
import Derived.Test.YtpkgjokehgihjaaRfX
import Derived.Test.YtpkgjokehgihjaaText
import Derived.Deep.AppendLies
import Derived.Laws.Externs
import Derived.Lib.AppendStr
import Derived.Lib.Builder
import Derived.Lib.Strings
import Derived.Lib.Walk
/- The walk of Bytes of a delta. -/
set_option linter.unusedVariables false
namespace Go.Proofs.Ytpkgjokehgihjaa
open Go.RowKit

theorem nums_next (xs : List Nat) (k : Nat) (hk : k < xs.length) : ((xs.take (k + 1)).map nb).flatten = ((xs.take k).map nb).flatten ++ nb xs[k] := by
  rw [List.take_succ_eq_append_getElem hk, List.map_append, List.flatten_append]; simp
theorem nums_le (xs : List Nat) (k : Nat) : ((xs.take k).map nb).flatten.length ≤ 10 * k := by
  induction k with
  | zero => simp
  | succ k ih =>
    by_cases hk : k < xs.length
    · rw [nums_next xs k hk, List.length_append]
      have := (nb_length xs[k]).2
      omega
    · rw [List.take_of_length_le (by omega)] at ih ⊢; omega
theorem TurnS.old {base : Nat} {w w' : World} {v v' : Value} (h : TurnS base w v w' v') {p : Nat} {j : Nat} {u : Value} (hc : w.cell? ⟨p, j, none⟩ = some u) (hp : ¬ v.ownBlock = some p) : w'.cell? ⟨p, j, none⟩ = some u := by
  rw [World.cell?_of_block (w := w) (h.kept.block p (World.block_lt_of_cell? w _ hc) hp)]
  exact hc
theorem TurnS.ne {base : Nat} {w w' : World} {v v' : Value} (h : TurnS base w v w' v') {p : Nat} (hlt : p < w.heap.size) (hp : ¬ v.ownBlock = some p) : ¬ v'.ownBlock = some p := fun e => by
  rcases h.mov p e with c | c
  · exact hp c
  · omega
theorem RowB.slice {w : World} {base : Nat} {v : Value} {l : List UInt8} (h : RowB w base v l) : ∃ g cap, v = .slice (some ⟨g, 0, none⟩) l.length cap ∧ base ≤ g ∧ g < w.heap.size := by
  obtain ⟨g, cap, rfl, h1, h2, _⟩ := h
  exact ⟨g, cap, rfl, h1, h2⟩
theorem RowB.newK {w w' : World} {base : Nat} {v : Value} {l : List UInt8} (h : RowB w base v l) (hb : Below w.heap.size w w') : RowB w' base v l := h.new hb (Nat.le_refl _)

set_option maxRecDepth 100000 in
set_option maxHeartbeats 1000000 in
/-- The list of numbers lies in a block of its own. -/
theorem addNums_any (base p : Nat) (xs : List Nat) (v : Value) (c : Nat) (l : Txt) (w : World) (hx : ∀ x ∈ xs, x ≤ 4611686018427387903) (hn : xs.length ≤ 1000) (hl : l.length ≤ 70368744000000) (hrow : RowB w base v l)
    (hv : ∀ i (h : i < xs.length), w.cell? ⟨p, i, none⟩ = some (.int .i64 (xs[i] : Nat))) (hp : ¬ v.ownBlock = some p) (hbase : base ≤ w.heap.size) :
    Calls Try.prog 37 #[v, .slice (some ⟨p, 0, none⟩) xs.length c] w fun e w' => ∃ v', e = .returned v' ∧ RowB w' base v' (l ++ (xs.map nb).flatten) ∧ TurnS base w v w' v' := by
  have HX := Lib.hid hx; clear hx
  have HV := Lib.hid hv; clear hv
  have HR := Lib.hid hrow; clear hrow
  have HP := Lib.hid hp; clear hp
  have NM := fun n w' (hn : n ≤ 4611686018427387903) => Lib.hid (num_ok n w' hn)
  go_enter Try.func37, Try.ntmps37
  go_wp2_with fail
  go_loopw [0, 11] (fun b i wr => ∃ k : Nat, k ≤ xs.length ∧ i = .int .i64 k ∧ RowB wr base b (l ++ ((xs.take k).map nb).flatten) ∧ TurnS base w v wr b) (fun _ i _ => xs.length - (intOf i).toNat)
  case atStart => exact ⟨0, by omega, rfl, by simpa using HR.out, TurnS.refl _ _ _⟩
  case round =>
    obtain ⟨k, hk, rfl, ho, ht⟩ := hrel
    have HO := Lib.hid ho; clear ho
    have HT := Lib.hid ht; clear ht
    have hsz : base ≤ wr.heap.size := by have := HT.out.kept.size; omega
    by_cases hlt : k < xs.length
    · have cc := HT.out.old (HV.out k hlt) HP.out
      have NX := Lib.hid (nums_next xs k hlt)
      have NL := nums_le xs k
      have hxx := HX.out xs[k] (List.getElem_mem _)
      have nl := (nb_length xs[k]).2
      have C := NM xs[k] wr hxx
      generalize xs[k] = x at *
      obtain ⟨y, hy⟩ : ∃ y, y = nb x := ⟨_, rfl⟩
      rw [← hy] at NX nl C
      clear hy
      have i0 : (0 : Int) ≤ (k : Int) := by omega
      have i1 : (k : Int) < (xs.length : Int) := by omega
      have hlen : (l ++ ((xs.take k).map nb).flatten).length + y.length < 70368744177664 := by rw [List.length_append]; omega
      have HL := Lib.hid hlen
      clear hlen NL
      go_wp2_with fail
      refine C.out.mono ?_
      rintro e w2 ⟨rfl, hb2⟩
      have HO2 := Lib.hid (HO.out.newK hb2)
      have HT2 := Lib.hid (HT.out.new hb2 (by omega))
      have hsz2 : base ≤ w2.heap.size := Nat.le_trans hsz hb2.size
      clear hb2
      go_wp2_with (at_builtin; refine append_rowB_text rfl _ _ 58 9 5 (by rfl) Try.underlying58 Try.underlying9 info_u8 base _ _ _ (by rfl) HO2.out (by rfl) HL.out hsz2 ?_; intro v' w3 hr3 ht3; have HO3 := Lib.hid hr3; have HT3 := Lib.hid (HT2.out.trans ht3); clear hr3 ht3)
      go_wp2
      go_roundw
      case rel => exact ⟨k + 1, by omega, by go_num, by rw [NX.out, ← List.append_assoc]; exact HO3.out, HT3.out⟩
      case measure => simp [intOf]; omega
    · obtain rfl : k = xs.length := by omega
      have i1 : ¬ (xs.length : Int) < (xs.length : Int) := by omega
      rw [List.take_length] at HO
      go_wp2_with fail
      go_ret
      exact ⟨_, rfl, HO.out, HT.out⟩
end Go.Proofs.Ytpkgjokehgihjaa
/- The walk of Bytes of a delta that may be, and of one that may not. -/
set_option linter.unusedVariables false
namespace Go.Proofs.Ytpkgjokehgihjaa
open Go.RowKit

theorem two_cells (w : World) (u v : Int) (a b : Nat) (t : TypeId) (hu : u = (a : Int)) (hv : v = (b : Int)) : ∀ i (h : i < [a, b].length), (w.alloc (.cells #[.int .i64 u, .int .i64 v] t)).cell? ⟨w.heap.size, i, none⟩ = some (.int .i64 ([a, b][i] : Nat)) := by
  subst hu; subst hv
  intro i h
  match i, h with
  | 0, _ => rw [cell_of_row _ _ _ _ _ _ (heap_alloc_new _ _)]; rfl
  | 1, _ => rw [cell_of_row _ _ _ _ _ _ (heap_alloc_new _ _)]; rfl
theorem one_cell (w : World) (u : Int) (a : Nat) (t : TypeId) (hu : u = (a : Int)) : ∀ i (h : i < [a].length), (w.alloc (.cells #[.int .i64 u] t)).cell? ⟨w.heap.size, i, none⟩ = some (.int .i64 ([a][i] : Nat)) := by
  subst hu
  intro i h
  match i, h with
  | 0, _ => rw [cell_of_row _ _ _ _ _ _ (heap_alloc_new _ _)]; rfl
theorem rowB_string {P : Program} (w : World) (base : Nat) (src dst e : TypeId) (v : Value) (l : List UInt8) (hs : P.underlying src = some (.slice e)) (he : P.underlying e = some (.int .u8)) (hd : P.underlying dst = some .string)
    (hrow : RowB w base v l) : (convert src dst v).run P w = .ok (.string ⟨l.toArray⟩) w := by
  obtain ⟨g, cap, rfl, _, _, _, h3, _⟩ := hrow
  refine run_convert_bytes_back w src dst e ⟨g, 0, none⟩ cap l hs he hd ?_
  intro j hj
  rw [addr_add0]
  have := h3 j hj
  rwa [Nat.zero_add] at this
theorem bytes_joinT (a b : List UInt8) : (ByteArray.mk a.toArray) ++ (ByteArray.mk b.toArray) = ⟨(a ++ b).toArray⟩ := by
  rw [ByteArray.mk_append_mk]
theorem RowB.below_ne {w : World} {base : Nat} {v : Value} {l : List UInt8} (h : RowB w base v l) : ∀ p, w.heap.size ≤ p → ¬ v.ownBlock = some p := by
  obtain ⟨g, cap, rfl, h1, h2, _⟩ := h
  intro p hp e
  simp [Value.ownBlock] at e
  omega
set_option maxRecDepth 100000 in
set_option maxHeartbeats 2000000 in
theorem bytesD_ok (N : Nat → Prop) (bm mm : Txt) (v : Value) (l : List DSt) (M : Nat) (w : World) (h : RowS N w v l) (hok : ∀ x ∈ l, StOk x) (hR : RightDIs bm mm M l M) (hl : l.length ≤ 20000) :
    Calls Try.prog 13 #[delW bm mm M v] w fun e w' => e = .returned (.tuple #[.string ⟨(bytesD bm mm M l).toArray⟩, .int .i64 0]) ∧ Below w.heap.size w w' := by
  have hM := hR.n2
  have hb1 := hR.b
  have hb2 := hR.m
  have B0 := Lib.hid (below_self_alloc w (delO bm mm M v))
  obtain ⟨d0, d1, d2, d3⟩ := delO_cells (heap_alloc_new w (delO bm mm M v))
  have HR0 := Lib.hid (h.keep B0.out)
  have RT := Lib.hid (rightD_any N bm mm M v l _ HR0.out hok (by omega) (by omega) (by omega) (by omega) (by omega))
  rw [hR.right] at RT
  have HRI := Lib.hid hR; clear hR
  have HBT := Lib.hid (show bytesD bm mm M l = bm ++ mm ++ ([M, l.length].map nb).flatten ++ bodyB l by unfold bytesD headB; simp)
  have HHL := Lib.hid (show (bm ++ mm ++ ([M, l.length].map nb).flatten).length ≤ 84 by have := headB_len bm mm M l.length hb1 hb2; unfold headB at this; simpa using this)
  have HBL := Lib.hid (fun k => body_len (l.take k) (fun x hx => HRI.out.st x (List.mem_of_mem_take hx)))
  have JT := Lib.hid (bytes_joinT bm mm)
  obtain ⟨a, c, rfl⟩ := h.slice
  clear h hok
  go_enter Try.func13, Try.ntmps13
  go_wp2_with fail
  generalize w.alloc (.cells #[.string ⟨bm.toArray⟩, .string ⟨mm.toArray⟩, .int .i64 M, .slice a l.length c] 24) = w0 at *
  refine RT.out.mono ?_
  rintro e w1 ⟨rfl, hb⟩
  have E0 := (hb.cell (World.block_lt_of_cell? w0 _ d0)).trans d0
  have E1 := (hb.cell (World.block_lt_of_cell? w0 _ d1)).trans d1
  have E2 := (hb.cell (World.block_lt_of_cell? w0 _ d2)).trans d2
  have E3 := (hb.cell (World.block_lt_of_cell? w0 _ d3)).trans d3
  have HR1 := Lib.hid (HR0.out.keep hb)
  have B1 := Lib.hid (B0.out.trans (hb.mono B0.out.size))
  clear hb d0 d1 d2 d3 HR0 RT B0
  obtain ⟨bv, w3, hcv, hrow, hb3⟩ := RowB.of_conv (P := Try.prog) w1 (bm ++ mm) 9 58 5 Try.underlying9 Try.underlying58 Try.underlying5
  rw [← JT.out] at hcv
  have HCV := Lib.hid hcv
  have B3 := Lib.hid hb3
  have HW := Lib.hid hrow
  have E03 := (hb3.cell (World.block_lt_of_cell? w1 _ E2)).trans E2
  have E13 := (hb3.cell (World.block_lt_of_cell? w1 _ E3)).trans E3
  clear hcv hb3 hrow JT
  go_wp2_with fail
  rw [HCV.out]
  have hs3 : w1.heap.size ≤ w3.heap.size := B3.out.size
  have ba := below_self_alloc w3 (.cells #[.int .i64 M, .int .i64 l.length] 3 (0, 0))
  have AD := Lib.hid (addNums_any w1.heap.size w3.heap.size [M, l.length] bv 2 (bm ++ mm) _ (by intro x hx; simp at hx; omega) (by simp) (by rw [List.length_append]; omega) (HW.out.newK ba) (two_cells w3 M l.length M l.length 3 rfl rfl) (HW.out.below_ne _ (Nat.le_refl _)) (Nat.le_trans hs3 ba.size))
  have B4 := Lib.hid (B3.out.trans (ba.mono hs3))
  have E14 := (ba.cell (World.block_lt_of_cell? w3 _ E13)).trans E13
  clear ba HCV
  go_wp2_with fail
  clear E03 E13
  generalize w3.alloc (.cells #[.int .i64 M, .int .i64 l.length] 3) = w4 at *
  refine AD.out.mono ?_
  rintro e w5 ⟨b5, rfl, hr5, ht5⟩
  have E25 := (ht5.bel.cell (p := ⟨w.heap.size, 3, none⟩) (World.block_lt_of_cell? w1 _ E3)).trans E14
  have HO5 := Lib.hid hr5
  have B5 := Lib.hid (B4.out.trans ht5.bel)
  clear hr5 ht5 E14 AD HW B3 B4
  obtain ⟨H, hH⟩ : ∃ H, H = bm ++ mm ++ ([M, l.length].map nb).flatten := ⟨_, rfl⟩
  rw [← hH] at HO5 HBT HHL
  clear hH hs3
  go_wp2_with fail
  go_loopw [4, 26] (fun b i wr => ∃ k : Nat, k ≤ l.length ∧ i = .int .i64 k ∧ RowB wr w1.heap.size b (H ++ bodyB (l.take k)) ∧ Below w1.heap.size w1 wr) (fun _ i _ => l.length - (intOf i).toNat)
  case atStart => exact ⟨0, by omega, rfl, by unfold bodyB; simpa using HO5.out, B5.out⟩
  case round =>
    obtain ⟨k, hk, rfl, ho, hbel⟩ := hrel
    have HO := Lib.hid ho; clear ho
    have HB := Lib.hid hbel; clear hbel
    have hsz : w1.heap.size ≤ wr.heap.size := HB.out.size
    by_cases hlt : k < l.length
    · obtain ⟨g, o, c', hv, _, hst⟩ := HR1.out.at hlt
      injection hv with hv1 hv2 hv3
      subst hv1
      clear hv2 hv3
      have hst' := hst.below HB.out hst.lt
      obtain ⟨pre, hpre⟩ : ∃ pre, pre = H ++ bodyB (l.take k) := ⟨_, rfl⟩
      have NX := Lib.hid (show H ++ bodyB (l.take (k + 1)) = pre ++ stB l[k] by rw [body_next l k hlt, hpre, List.append_assoc])
      rw [← hpre] at HO
      have NL := HBL.out k
      rw [List.length_take] at NL
      have hs := HRI.out.st l[k] (List.getElem_mem _)
      have hsl := stB_len l[k] hs
      have hhl := HHL.out
      have HLN := Lib.hid (show pre.length ≤ 100000000 by rw [hpre, List.length_append]; omega)
      clear NL hsl hhl hst hpre
      generalize l[k] = x at *
      obtain ⟨p, m, t⟩ := x
      obtain ⟨e0, e1, e2⟩ := hst'
      dsimp only at e0 e1 e2
      have i0 : (0 : Int) ≤ (k : Int) := by omega
      have i1 : (k : Int) < (l.length : Int) := by omega
      by_cases htx : t = []
      · subst htx
        unfold stS at hs
        rw [if_neg (by simp)] at hs
        have hs1 := of_decide_eq_true hs
        dsimp only at hs1
        obtain ⟨q, rfl⟩ : ∃ q : Nat, m = (q : Int) := ⟨m.toNat, by omega⟩
        obtain ⟨r, rfl⟩ : ∃ r : Nat, p = (r : Int) := ⟨p.toNat, by omega⟩
        have HE := Lib.hid (show pre ++ ([2 * q + 1, r].map nb).flatten = H ++ bodyB (l.take (k + 1)) by
          rw [NX.out]; unfold stB; rw [if_pos rfl]; simp only [List.map_cons, List.map_nil, List.flatten_cons, List.flatten_nil, List.append_nil, Int.toNat_natCast]
          rw [show (2 * (q : Int) + 1).toNat = 2 * q + 1 by omega])
        have ba := below_self_alloc wr (.cells #[.int .i64 r, .int .i64 q, .string ⟨#[]⟩] 61 (0, 0))
        have hsw : (wr.alloc (.cells #[.int .i64 r, .int .i64 q, .string ⟨#[]⟩] 61)).heap.size = wr.heap.size + 1 := by simp
        have bb := below_self_alloc (wr.alloc (.cells #[.int .i64 r, .int .i64 q, .string ⟨#[]⟩] 61)) (.cells #[.int .i64 (2 * q + 1), .int .i64 r] 3 (0, 0))
        have TC := two_cells (wr.alloc (.cells #[.int .i64 r, .int .i64 q, .string ⟨#[]⟩] 61)) (2 * q + 1) r (2 * q + 1) r 3 (by omega) rfl
        rw [hsw] at TC
        have AD := Lib.hid (addNums_any w1.heap.size (wr.heap.size + 1) [2 * q + 1, r] _ 2 pre _ (by intro x hx; simp at hx; omega) (by simp) (by have := HLN.out; omega) ((HO.out.newK ba).newK bb) TC (HO.out.below_ne _ (by omega)) (Nat.le_trans hsz (Nat.le_trans ba.size bb.size)))
        have HB5 := Lib.hid ((HB.out.trans (ba.mono hsz)).trans (bb.mono (Nat.le_trans hsz ba.size)))
        rw [HE.out] at AD
        clear hs ba bb TC hsw HO HB
        go_wp2_with fail
        refine AD.out.mono ?_
        rintro e w6 ⟨b6, rfl, hr6, ht6⟩
        have HO6 := Lib.hid hr6
        have HB6 := Lib.hid (HB5.out.trans ht6.bel)
        clear hr6 ht6 AD
        go_wp2_with fail
        go_roundw
        case rel => exact ⟨k + 1, by omega, by go_num, HO6.out, HB6.out⟩
        case measure => simp [intOf]; omega
      · have hne : t.isEmpty = false := by cases t <;> simp_all
        unfold stS at hs
        rw [if_pos htx] at hs
        have hs1 := of_decide_eq_true hs
        dsimp only at hs1
        obtain ⟨ht1, rfl, rfl⟩ := hs1
        have HE := Lib.hid (show pre ++ ([2 * t.length].map nb).flatten ++ t = H ++ bodyB (l.take (k + 1)) by
          rw [NX.out]; unfold stB; rw [if_neg htx]; simp)
        have ba := below_self_alloc wr (.cells #[.int .i64 0, .int .i64 0, .string ⟨t.toArray⟩] 61 (0, 0))
        have hsw : (wr.alloc (.cells #[.int .i64 0, .int .i64 0, .string ⟨t.toArray⟩] 61)).heap.size = wr.heap.size + 1 := by simp
        have X2 : (wr.alloc (.cells #[.int .i64 0, .int .i64 0, .string ⟨t.toArray⟩] 61)).cell? ⟨wr.heap.size, 2, none⟩ = some (.string ⟨t.toArray⟩) := by rw [cell_of_row _ _ _ _ _ _ (heap_alloc_new _ _)]; rfl
        have HOX := Lib.hid (HO.out.newK ba)
        have HBX := Lib.hid (HB.out.trans (ba.mono hsz))
        have HNE := Lib.hid (HO.out.below_ne wr.heap.size (Nat.le_refl _))
        have HNE2 := Lib.hid (HO.out.below_ne (wr.heap.size + 1) (by omega))
        clear hs HO HB htx ba
        go_wp2_with fail
        generalize wr.alloc (.cells #[.int .i64 0, .int .i64 0, .string ⟨t.toArray⟩] 61) = wx at *
        have bb := below_self_alloc wx (.cells #[.int .i64 (IntKind.i64.wrap (2 * (t.length : Int)))] 3 (0, 0))
        have TC := one_cell wx (IntKind.i64.wrap (2 * (t.length : Int))) (2 * t.length) 3 (by rw [IntKind.wrap_i64]; omega)
        rw [hsw] at TC
        have hsx : w1.heap.size ≤ wx.heap.size := HBX.out.size
        have bd : Below wx.heap.size wx (wx.alloc (.cells #[.int .i64 (IntKind.i64.wrap (2 * (t.length : Int)))] 3)).drew := Below_drew bb
        have AD := Lib.hid (addNums_any w1.heap.size (wr.heap.size + 1) [2 * t.length] _ 1 pre (wx.alloc (.cells #[.int .i64 (IntKind.i64.wrap (2 * (t.length : Int)))] 3)).drew (by intro x hx; simp at hx; omega) (by simp) (by have := HLN.out; omega) (HOX.out.newK bd) (fun i h => TC i h) HNE2.out (Nat.le_trans hsx bd.size))
        have HB5 := Lib.hid (HBX.out.trans (bd.mono hsx))
        have X3 : (wx.alloc (.cells #[.int .i64 (IntKind.i64.wrap (2 * (t.length : Int)))] 3)).drew.cell? ⟨wr.heap.size, 2, none⟩ = some (.string ⟨t.toArray⟩) := (bd.cell (World.block_lt_of_cell? wx _ X2)).trans X2
        have HLP : Hid (∀ b : Txt, b.length ≤ 10 → (pre ++ b).length + t.length < 70368744177664) := Lib.hid (fun b hb => by have := HLN.out; rw [List.length_append]; omega)
        have HN10 := nums_le [2 * t.length] 1
        rw [List.take_of_length_le (by simp)] at HN10
        have HL10 := Lib.hid (HLP.out _ HN10)
        clear TC bb bd HN10 HLP
        rw [show [2 * t.length].length = 1 from rfl] at AD
        generalize ([2 * t.length].map nb).flatten = nbs at *
        go_region_held3 (fun w' => w'.cell? ⟨wr.heap.size, 2, none⟩ = some (.string ⟨t.toArray⟩))
          (first | assumption | go_keep)
          (first
            | (go_at_call 37; with_reducible refine AD.out.mono ?_; rintro e w6 ⟨b6, rfl, hr6, ht6⟩; have HO6 := Lib.hid hr6; have HB6 := Lib.hid (HB5.out.trans ht6.bel); have X6 := ht6.old X3 HNE.out; have N6 := Lib.hid (ht6.ne (World.block_lt_of_cell? _ _ X3) HNE.out); clear hr6 ht6)
            | ((with_reducible refine step_rowB_text (o := ⟨some 51, _, _, _, _, _⟩) rfl (.tmp 48) (.tmp 50) 58 9 5 rfl Try.underlying58 Try.underlying9 info_u8 w1.heap.size b6 _ t ?ev HO6.out ?ex HL10.out HB6.out.size ?_)
               case ev => simp [Act.eval]
               case ex => simp [Act.eval]
               intro b7 w7 hr7 ht7
               have HO7 := Lib.hid hr7
               have HB7 := Lib.hid (HB6.out.trans ht7.bel)
               have X7 := ht7.old X6 N6.out
               clear hr7 ht7))
        all_goals
          rw [HE.out] at HO7
          go_wp2_with fail
          go_roundw
          case rel => exact ⟨k + 1, by omega, by go_num, HO7.out, HB7.out⟩
          case measure => simp [intOf]; omega
    · obtain rfl : k = l.length := by omega
      have i1 : ¬ (l.length : Int) < (l.length : Int) := by omega
      rw [List.take_length, ← HBT.out] at HO
      have hcv := rowB_string wr w1.heap.size 58 9 5 _ _ Try.underlying58 Try.underlying5 Try.underlying9 HO.out
      go_wp2_with fail
      go_ret2
      exact ⟨rfl, B1.out.trans (HB.out.mono B1.out.size)⟩
end Go.Proofs.Ytpkgjokehgihjaa
/- The walks of the document's Bytes of a delta; both where a delta may not be. -/
set_option linter.unusedVariables false
namespace Go.Proofs.Ytpkgjokehgihjaa
open Go.RowKit

set_option maxRecDepth 100000 in
set_option maxHeartbeats 1000000 in
theorem bytesD_no (N : Nat → Prop) (bm mm : Txt) (n : Int) (v : Value) (l : List DSt) (w : World) (h : RowS N w v l) (hok : ∀ x ∈ l, StOk x) (hl : l.length ≤ 1000000) (h1 : bm.length ≤ 140737488351232) (h2 : mm.length ≤ 140737488351232) (hn1 : -9223372036854775808 ≤ n) (hn2 : n ≤ 9223372036854775807) (hr : rightD bm mm n l = false) :
    Calls Try.prog 13 #[delW bm mm n v] w fun e w' => e = .returned (.tuple #[.string ⟨#[]⟩, .int .i64 1]) ∧ Below w.heap.size w w' := by
  have B0 := Lib.hid (below_self_alloc w (delO bm mm n v))
  obtain ⟨d0, d1, d2, d3⟩ := delO_cells (heap_alloc_new w (delO bm mm n v))
  have RT := Lib.hid (rightD_any N bm mm n v l _ (h.keep B0.out) hok hl h1 h2 hn1 hn2)
  rw [hr] at RT
  obtain ⟨a, c, rfl⟩ := h.slice
  clear h hok hr
  go_enter Try.func13, Try.ntmps13
  go_wp2_with fail
  generalize w.alloc (.cells #[.string ⟨bm.toArray⟩, .string ⟨mm.toArray⟩, .int .i64 n, .slice a l.length c] 24) = w0 at *
  refine RT.out.mono ?_
  rintro e w1 ⟨rfl, hb⟩
  go_wp2_with fail
  go_ret2
  exact ⟨rfl, B0.out.trans (hb.mono B0.out.size)⟩
set_option maxRecDepth 100000 in
set_option maxHeartbeats 1000000 in
theorem refBytesD_no (N : Nat → Prop) (bm mm : Txt) (n : Int) (v : Value) (l : List DSt) (w : World) (h : RowS N w v l) (hok : ∀ x ∈ l, StOk x) (hl : l.length ≤ 1000000) (h1 : bm.length ≤ 140737488351232) (h2 : mm.length ≤ 140737488351232) (hn1 : -9223372036854775808 ≤ n) (hn2 : n ≤ 9223372036854775807) (hr : rightD bm mm n l = false) :
    Calls Try.prog 14 #[delW bm mm n v] w fun e w' => e = .returned (.tuple #[.string ⟨#[]⟩, .int .i64 1]) ∧ Below w.heap.size w w' := by
  have B0 := Lib.hid (below_self_alloc w (delO bm mm n v))
  obtain ⟨d0, d1, d2, d3⟩ := delO_cells (heap_alloc_new w (delO bm mm n v))
  have RT := Lib.hid (refRightD_any N bm mm n v l _ (h.keep B0.out) hok hl h1 h2 hn1 hn2)
  rw [hr] at RT
  obtain ⟨a, c, rfl⟩ := h.slice
  clear h hok hr
  go_enter Try.func14, Try.ntmps14
  go_wp2_with fail
  generalize w.alloc (.cells #[.string ⟨bm.toArray⟩, .string ⟨mm.toArray⟩, .int .i64 n, .slice a l.length c] 24) = w0 at *
  refine RT.out.mono ?_
  rintro e w1 ⟨rfl, hb⟩
  go_wp2_with fail
  go_ret2
  exact ⟨rfl, B0.out.trans (hb.mono B0.out.size)⟩
theorem joinT3 (a b c : List UInt8) : (ByteArray.mk a.toArray) ++ (ByteArray.mk b.toArray) ++ (ByteArray.mk c.toArray) = ⟨(a ++ b ++ c).toArray⟩ := by
  rw [ByteArray.mk_append_mk, ByteArray.mk_append_mk]
theorem joinT4 (a b c d : List UInt8) : (ByteArray.mk a.toArray) ++ (ByteArray.mk b.toArray) ++ (ByteArray.mk c.toArray) ++ (ByteArray.mk d.toArray) = ⟨(a ++ b ++ c ++ d).toArray⟩ := by
  rw [ByteArray.mk_append_mk, ByteArray.mk_append_mk, ByteArray.mk_append_mk]
set_option maxRecDepth 100000 in
set_option maxHeartbeats 400000 in
theorem refBytesD_ok (N : Nat → Prop) (bm mm : Txt) (v : Value) (l : List DSt) (M : Nat) (w : World) (h : RowS N w v l) (hok : ∀ x ∈ l, StOk x) (hR : RightDIs bm mm M l M) (hl : l.length ≤ 20000) :
    Calls Try.prog 14 #[delW bm mm M v] w fun e w' => e = .returned (.tuple #[.string ⟨(bytesD bm mm M l).toArray⟩, .int .i64 0]) ∧ Below w.heap.size w w' := by
  have hM := hR.n2
  have hb1 := hR.b
  have hb2 := hR.m
  have B0 := Lib.hid (below_self_alloc w (delO bm mm M v))
  obtain ⟨d0, d1, d2, d3⟩ := delO_cells (heap_alloc_new w (delO bm mm M v))
  have HR0 := Lib.hid (h.keep B0.out)
  have RT := Lib.hid (refRightD_any N bm mm M v l _ HR0.out hok (by omega) (by omega) (by omega) (by omega) (by omega))
  rw [hR.right] at RT
  have HRI := Lib.hid hR; clear hR
  have HHL := Lib.hid (headB_len bm mm M l.length hb1 hb2)
  have HBL := Lib.hid (fun k => body_len (l.take k) (fun x hx => HRI.out.st x (List.mem_of_mem_take hx)))
  have HBT := Lib.hid (show bytesD bm mm M l = headB bm mm M l.length ++ bodyB l from rfl)
  have HHB := Lib.hid (show headB bm mm M l.length = bm ++ mm ++ nb M ++ nb l.length from rfl)
  have R1 := fun w' => Lib.hid (refBytes_ok M w' (by omega))
  have R2 := fun w' => Lib.hid (refBytes_ok l.length w' (by omega))
  obtain ⟨a, c, rfl⟩ := h.slice
  have xl1 := (nb_length M).2
  have xl2 := (nb_length l.length).2
  generalize headB bm mm M l.length = H at *
  generalize nb M = y1 at *
  generalize nb l.length = y2 at *
  have JT := Lib.hid (joinT4 bm mm y1 y2)
  rw [← HHB.out] at JT
  clear h hok
  go_enter Try.func14, Try.ntmps14
  go_wp2_with fail
  generalize w.alloc (.cells #[.string ⟨bm.toArray⟩, .string ⟨mm.toArray⟩, .int .i64 M, .slice a l.length c] 24) = w0 at *
  refine RT.out.mono ?_
  rintro e w1 ⟨rfl, hb⟩
  have E0 := (hb.cell (World.block_lt_of_cell? w0 _ d0)).trans d0
  have E1 := (hb.cell (World.block_lt_of_cell? w0 _ d1)).trans d1
  have E2 := (hb.cell (World.block_lt_of_cell? w0 _ d2)).trans d2
  have E3 := (hb.cell (World.block_lt_of_cell? w0 _ d3)).trans d3
  have HR1 := Lib.hid (HR0.out.keep hb)
  have B1 := Lib.hid (B0.out.trans (hb.mono B0.out.size))
  clear hb d0 d1 d2 d3 HR0 RT B0
  go_wp2_with fail
  have F0 := below_cell E0
  have F1 := below_cell E1
  have F2 := below_cell E2
  have F3 := below_cell E3
  refine wp_region_below (by kernel_rfl) (by kernel_rfl) ?_
  repeat (go_big_quiet_step ((first | (go_at_call 38; with_reducible exact below_calls (R1 _).out) | (go_at_call 38; with_reducible exact below_calls (R2 _).out))))
  refine wpQuiet_nil ?_
  rintro w6 ⟨⟨w6b, hb6⟩, hw6⟩
  have hw6b : w6 = w6b := hw6
  clear hw6
  subst hw6b
  have G3 := (hb6.cell (World.block_lt_of_cell? w1 _ E3)).trans E3
  have B6 := Lib.hid hb6
  have HR6 := Lib.hid (HR1.out.keep hb6)
  have B16 := Lib.hid (B1.out.trans (hb6.mono B1.out.size))
  clear F0 F1 F2 F3 R1 R2 E0 E1 E2 E3 hb6 B1 HR1
  rw [JT.out]
  go_wp2_with fail
  go_loopw [4, 5] (fun b i wr => ∃ k : Nat, k ≤ l.length ∧ i = .int .i64 k ∧ b = .string ⟨(H ++ bodyB (l.take k)).toArray⟩ ∧ Below w6.heap.size w6 wr) (fun _ i _ => l.length - (intOf i).toNat)
  case atStart => exact ⟨0, by omega, rfl, by unfold bodyB; simp, Below.refl _ _⟩
  case round =>
    obtain ⟨k, hk, rfl, rfl, hbel⟩ := hrel
    have HB := Lib.hid hbel; clear hbel
    have g3 := (HB.out.cell (World.block_lt_of_cell? w6 _ G3)).trans G3
    by_cases hlt : k < l.length
    · obtain ⟨g, o, c', hv, _, hst⟩ := HR6.out.at hlt
      injection hv with hv1 hv2 hv3
      subst hv1
      clear hv2 hv3
      have hst' := hst.below HB.out hst.lt
      obtain ⟨pre, hpre⟩ : ∃ pre, pre = H ++ bodyB (l.take k) := ⟨_, rfl⟩
      have NX := Lib.hid (show H ++ bodyB (l.take (k + 1)) = pre ++ stB l[k] by rw [body_next l k hlt, hpre, List.append_assoc])
      rw [← hpre]
      have NL := HBL.out k
      rw [List.length_take] at NL
      have hs := HRI.out.st l[k] (List.getElem_mem _)
      have hhl := HHL.out
      have HLN : pre.length ≤ 100000000 := by rw [hpre, List.length_append]; omega
      clear NL hhl hst hpre
      generalize l[k] = x at *
      obtain ⟨p, m, t⟩ := x
      obtain ⟨e0, e1, e2⟩ := hst'
      dsimp only at e0 e1 e2
      have i0 : (0 : Int) ≤ (k : Int) := by omega
      have i1 : (k : Int) < (l.length : Int) := by omega
      by_cases htx : t = []
      · subst htx
        unfold stS at hs
        rw [if_neg (by simp)] at hs
        have hs1 := of_decide_eq_true hs
        dsimp only at hs1
        obtain ⟨q, rfl⟩ : ∃ q : Nat, m = (q : Int) := ⟨m.toNat, by omega⟩
        obtain ⟨r, rfl⟩ : ∃ r : Nat, p = (r : Int) := ⟨p.toNat, by omega⟩
        have HE := Lib.hid (show pre ++ nb (2 * q + 1) ++ nb r = H ++ bodyB (l.take (k + 1)) by
          rw [NX.out]; unfold stB; rw [if_pos rfl, Int.toNat_natCast, show (2 * (q : Int) + 1).toNat = 2 * q + 1 by omega, List.append_assoc])
        have R1 := fun w' => Lib.hid (refBytes_ok (2 * q + 1) w' (by omega))
        have R2 := fun w' => Lib.hid (refBytes_ok r w' (by omega))
        have xl1 := (nb_length (2 * q + 1)).2
        have xl2 := (nb_length r).2
        have W1 : IntKind.i64.wrap (2 * (q : Int)) = 2 * (q : Int) := by rw [IntKind.wrap_i64]; omega
        have W2 : IntKind.i64.wrap (2 * (q : Int) + 1) = ((2 * q + 1 : Nat) : Int) := by rw [IntKind.wrap_i64]; omega
        generalize nb (2 * q + 1) = y1 at *
        generalize nb r = y2 at *
        generalize 2 * q + 1 = q2 at *
        have JT2 := Lib.hid (joinT3 pre y1 y2)
        rw [HE.out] at JT2
        have ba := below_self_alloc wr (.cells #[.int .i64 r, .int .i64 q, .string ⟨#[]⟩] 61 (0, 0))
        have X0 : (wr.alloc (.cells #[.int .i64 r, .int .i64 q, .string ⟨#[]⟩] 61)).cell? ⟨wr.heap.size, 0, none⟩ = some (.int .i64 r) := by rw [cell_of_row _ _ _ _ _ _ (heap_alloc_new _ _)]; rfl
        have X1 : (wr.alloc (.cells #[.int .i64 r, .int .i64 q, .string ⟨#[]⟩] 61)).cell? ⟨wr.heap.size, 1, none⟩ = some (.int .i64 q) := by rw [cell_of_row _ _ _ _ _ _ (heap_alloc_new _ _)]; rfl
        have HBX := Lib.hid (HB.out.trans (ba.mono HB.out.size))
        clear hs ba HB
        go_wp2_with fail
        generalize wr.alloc (.cells #[.int .i64 r, .int .i64 q, .string ⟨#[]⟩] 61) = wx at *
        have F0 := below_cell X0
        have F1 := below_cell X1
        refine wp_region_below (by kernel_rfl) (by kernel_rfl) ?_
        repeat (go_big_quiet_step ((first | (go_at_call 38; with_reducible exact below_calls (R1 _).out) | (go_at_call 38; with_reducible exact below_calls (R2 _).out))))
        refine wpQuiet_nil ?_
        rintro w7 ⟨⟨w7b, hb7⟩, hw7⟩
        have hw7b : w7 = w7b := hw7
        clear hw7
        subst hw7b
        have HB7 := Lib.hid (HBX.out.trans (hb7.mono HBX.out.size))
        clear F0 F1 R1 R2 X0 X1 W1 W2 hb7
        rw [JT2.out]
        go_wp2_with fail
        go_roundw
        case rel => exact ⟨k + 1, by omega, by go_num, rfl, HB7.out⟩
        case measure => simp [intOf]; omega
      · have hne : t.isEmpty = false := by cases t <;> simp_all
        unfold stS at hs
        rw [if_pos htx] at hs
        have hs1 := of_decide_eq_true hs
        dsimp only at hs1
        obtain ⟨ht1, rfl, rfl⟩ := hs1
        have HE := Lib.hid (show pre ++ nb (2 * t.length) ++ t = H ++ bodyB (l.take (k + 1)) by
          rw [NX.out]; unfold stB; rw [if_neg htx, List.append_assoc])
        have R1 := fun w' => Lib.hid (refBytes_ok (2 * t.length) w' (by omega))
        have xl1 := (nb_length (2 * t.length)).2
        have W1 : IntKind.i64.wrap (2 * (t.length : Int)) = ((2 * t.length : Nat) : Int) := by rw [IntKind.wrap_i64]; omega
        have TL := Lib.hid (show (⟨t.toArray⟩ : ByteArray).size = t.length from rfl)
        generalize nb (2 * t.length) = y1 at *
        generalize 2 * t.length = q2 at *
        have JT2 := Lib.hid (joinT3 pre y1 t)
        rw [HE.out] at JT2
        have ba := below_self_alloc wr (.cells #[.int .i64 0, .int .i64 0, .string ⟨t.toArray⟩] 61 (0, 0))
        have X2 : (wr.alloc (.cells #[.int .i64 0, .int .i64 0, .string ⟨t.toArray⟩] 61)).cell? ⟨wr.heap.size, 2, none⟩ = some (.string ⟨t.toArray⟩) := by rw [cell_of_row _ _ _ _ _ _ (heap_alloc_new _ _)]; rfl
        have HBX := Lib.hid (HB.out.trans (ba.mono HB.out.size))
        clear hs ba HB htx
        go_wp2_with fail
        generalize wr.alloc (.cells #[.int .i64 0, .int .i64 0, .string ⟨t.toArray⟩] 61) = wx at *
        have F2 := below_cell X2
        refine wp_region_below (by kernel_rfl) (by kernel_rfl) ?_
        repeat (go_big_quiet_step ((go_at_call 38; with_reducible exact below_calls (R1 _).out)))
        refine wpQuiet_nil ?_
        rintro w7 ⟨⟨w7b, hb7⟩, hw7⟩
        have hw7b : w7 = w7b := hw7
        clear hw7
        subst hw7b
        have HB7 := Lib.hid (HBX.out.trans (hb7.mono HBX.out.size))
        clear F2 R1 X2 W1 hb7
        rw [JT2.out]
        go_wp2_with fail
        go_roundw
        case rel => exact ⟨k + 1, by omega, by go_num, rfl, HB7.out⟩
        case measure => simp [intOf]; omega
    · obtain rfl : k = l.length := by omega
      have i1 : ¬ (l.length : Int) < (l.length : Int) := by omega
      rw [List.take_length, ← HBT.out]
      go_wp2_with fail
      go_ret2
      exact ⟨rfl, B16.out.trans (HB.out.mono B16.out.size)⟩
end Go.Proofs.Ytpkgjokehgihjaa

/- Several texts in one: RefToldW, RefTreeIW, RefTreeI2W. -/
import Derived.Test.YtfgimhgkjodcgaaDoorArgs3
import Derived.Test.YtfgimhgkjodcgaaDoorFrame
import Derived.Test.YtfgimhgkjodcgaaDoorGen
import Derived.Test.YtfgimhgkjodcgaaDoorImgMath
import Derived.Test.YtfgimhgkjodcgaaDoorLists
import Derived.Test.YtfgimhgkjodcgaaDoorMarkMath
import Derived.Test.YtfgimhgkjodcgaaDoorOfX
import Derived.Test.YtfgimhgkjodcgaaDoorOwnL
import Derived.Test.YtfgimhgkjodcgaaDoorReadMath
import Derived.Test.YtfgimhgkjodcgaaDoorReadW
import Derived.Test.YtfgimhgkjodcgaaDoorCkX
import Derived.Test.YtfgimhgkjodcgaaDoorRefReadW
import Derived.Test.YtfgimhgkjodcgaaDoorRefSortW
import Derived.Test.YtfgimhgkjodcgaaDoorRowN
import Derived.Test.YtfgimhgkjodcgaaDoorRows
import Derived.Test.YtfgimhgkjodcgaaDoorTreeMath
import Derived.BigQuiet
import Derived.BigRegion
import Derived.Deep.Cut
import Derived.Deep.CutRange
import Derived.Deep.DeepCutAuto
import Derived.Deep.QuietTactic
import Derived.Deep.Slices
import Derived.Deep.Strs
import Derived.Laws.ResultCell
import Derived.Lib.Hide
import Derived.Lib.SmallJoins
import Derived.WalkKit
import Derived.WalkLawsBesides
import Derived.WalkSpells
import Derived.Test.YtfgimhgkjodcgaaDoorArgTree
import Derived.Test.YtfgimhgkjodcgaaDoorParts
import Derived.Deep.CutBlock
import Derived.Deep.Draws
import Derived.Laws.Bits128
import Derived.Laws.IdiomStrings
import Derived.Lib.AppendStr
/- The document's Told (what stands ahead of the files' bytes). -/
set_option linter.unusedVariables false
namespace Go.Proofs.YtfgimhgkjodcgaaDoor
open Go.RowKit

theorem info_sized : (Tryd.prog.info? 77).map (fun i => (i.zero, i.size, i.bytes)) = some (some (.agg #[.string ByteArray.empty, .int .i64 0, .string ByteArray.empty, .int .i64 0]), 4, 48) := by kernel_rfl
theorem sized_zero : (Value.agg #[.string ByteArray.empty, .int .i64 0, .string ByteArray.empty, .int .i64 0]).cells.size = 4 := by kernel_rfl
def hdO (v : Value) (a : Int) : Obj := .cells #[v, .int .i64 a] 73
theorem hd_c {w : World} {g : Nat} {v : Value} {a : Int} (h : w.heap[g]? = some (hdO v a)) : w.cell? ⟨g, 0, none⟩ = some v ∧ w.cell? ⟨g, 1, none⟩ = some (.int .i64 a) ∧ w.frozen? ⟨g, 0, none⟩ = false ∧ w.frozen? ⟨g, 1, none⟩ = false := by
  refine ⟨?_, ?_, frozen_of_row w g 0 _ _ h, frozen_of_row w g 1 _ _ h⟩ <;> (rw [cell_of_row _ _ _ _ _ _ h]; rfl)
theorem hd_set0 {w : World} {g : Nat} {v : Value} {a : Int} (h : w.heap[g]? = some (hdO v a)) (u : Value) : (w.setCell ⟨g, 0, none⟩ u).heap[g]? = some (hdO u a) := by
  rw [heap_setCell_same w g 0 _ _ _ h]; rfl
theorem hd_set1 {w : World} {g : Nat} {v : Value} {a : Int} (h : w.heap[g]? = some (hdO v a)) (b : Int) : (w.setCell ⟨g, 1, none⟩ (.int .i64 b)).heap[g]? = some (hdO v b) := by
  rw [heap_setCell_same w g 1 _ _ _ h]; rfl
/-- A file's own block. -/
def fiO (p : Txt) (m : Int) : Obj := .cells #[.string ⟨p.toArray⟩, .int .i64 m, .string ByteArray.empty] 33
theorem fi_c {w : World} {g : Nat} {p : Txt} {m : Int} (h : w.heap[g]? = some (fiO p m)) : w.cell? ⟨g, 0, none⟩ = some (.string ⟨p.toArray⟩) ∧ w.cell? ⟨g, 1, none⟩ = some (.int .i64 m) ∧ w.cell? ⟨g, 2, none⟩ = some (.string ByteArray.empty) ∧ w.frozen? ⟨g, 0, none⟩ = false ∧ w.frozen? ⟨g, 1, none⟩ = false := by
  refine ⟨?_, ?_, ?_, frozen_of_row w g 0 _ _ h, frozen_of_row w g 1 _ _ h⟩ <;> (rw [cell_of_row _ _ _ _ _ _ h]; rfl)
theorem fi_set0 {w : World} {g : Nat} {p : Txt} {m : Int} (h : w.heap[g]? = some (fiO p m)) (t : Txt) : (w.setCell ⟨g, 0, none⟩ (.string ⟨t.toArray⟩)).heap[g]? = some (fiO t m) := by
  rw [heap_setCell_same w g 0 _ _ _ h]; rfl
theorem fi_set1 {w : World} {g : Nat} {p : Txt} {m : Int} (h : w.heap[g]? = some (fiO p m)) (n : Int) : (w.setCell ⟨g, 1, none⟩ (.int .i64 n)).heap[g]? = some (fiO p n) := by
  rw [heap_setCell_same w g 1 _ _ _ h]; rfl
/-- The state: R the result's block, q the reader's, h the head's, the list behind them. -/
structure TolAt (w0 wr : World) (R q h : Nat) (s : Txt) (v : Value) (r : RS) (out : List ToldD) : Prop where
  own : OwnN encTo 4 wr (h + 1) 77 v out
  rd : RefRd wr q s r
  hd : wr.heap[h]? = some (hdO v 0)
  rs : wr.heap[R]? = some (hdO (.slice none 0 0) 0)
  bel : Below w0.heap.size w0 wr
  sz : h + 1 ≤ wr.heap.size
  le : w0.heap.size ≤ R ∧ R < q ∧ q < h
section
variable {w0 wr w' : World} {R q h : Nat} {s : Txt} {v : Value} {r r' : RS} {out : List ToldD}
theorem TolAt.rdoes (T : TolAt w0 wr R q h s v r out) (hr : RefRd w' q s r') (hk : Kept (· = q) wr w') : TolAt w0 w' R q h s v r' out := by
  have hl := T.le
  exact ⟨T.own.kept hk (fun g hg e => by have := (T.own.lt hg).1; omega), hr, hk.old T.hd (by omega), hk.old T.rs (by omega), T.bel.trans (hk.below T.bel.size (fun k e => by omega)), Nat.le_trans T.sz hk.size, hl⟩
theorem TolAt.new (T : TolAt w0 wr R q h s v r out) (hb : Below wr.heap.size wr w') : TolAt w0 w' R q h s v r out :=
  ⟨T.own.new hb, T.rd.kept (Kept.new hb (fun _ => False)) id, (Kept.new hb (fun _ => False)).old T.hd id, (Kept.new hb (fun _ => False)).old T.rs id, T.bel.trans (hb.mono T.bel.size), Nat.le_trans T.sz hb.size, T.le⟩
theorem TolAt.off {g : Nat} (T : TolAt w0 wr R q h s v r out) (hg : ∀ g', v.ownBlock = some g' → g' ≠ g) (hR : h + 1 ≤ g) (hk : Kept (· = g) wr w') : TolAt w0 w' R q h s v r out := by
  have hl := T.le
  exact ⟨T.own.kept hk (fun g' e c => hg g' e c), T.rd.kept hk (by omega), hk.old T.hd (by omega), hk.old T.rs (by omega), T.bel.trans (hk.below T.bel.size (fun k e => by omega)), Nat.le_trans T.sz hk.size, hl⟩
theorem TolAt.push {v' : Value} {out' : List ToldD} (T : TolAt w0 wr R q h s v r out) (ho : OwnN encTo 4 w' (h + 1) 77 v' out') (ht : TurnN (h + 1) wr v w' v') :
    w'.frozen? ⟨h, 0, none⟩ = false ∧ w'.cell? ⟨h, 0, none⟩ = some v ∧ TolAt w0 (w'.setCell ⟨h, 0, none⟩ v') R q h s v' r out' := by
  have hl := T.le
  have hs := T.sz
  have hh := ht.kept.old T.hd (fun e => by have := (T.own.lt e).1; omega)
  have hk : Kept (· = h) w' (w'.setCell ⟨h, 0, none⟩ v') := kept_at w' h 0 v'
  obtain ⟨c0, _, f0, _⟩ := hd_c hh
  refine ⟨f0, c0, ho.kept hk (fun g hg e => by have := (ho.lt hg).1; omega), (T.rd.kept ht.kept (fun e => by have := (T.own.lt e).1; omega)).kept hk (by omega), hd_set0 hh v', hk.old (ht.kept.old T.rs (fun e => by have := (T.own.lt e).1; omega)) (by omega), ?_, ?_, hl⟩
  · exact (T.bel.trans (ht.bel.mono (by omega))).trans (hk.below (by have := T.bel.size; have := ht.bel.size; omega) (fun k e => by omega))
  · have := ht.bel.size; have := hk.size; omega
end
theorem head_size : (Tryd.prog.info? 73).map (·.size) = some 2 := by kernel_rfl
theorem results_head {fn : Func} {p u : Tmp} (h : fn.results = #[.cell p 73, .tmp u]) (tmps : Array Value) (w : World) (b : Nat) (v : Value) (a : Int) (hp : tmps.getD p undef = .pointer (some ⟨b, 0, none⟩)) (hy : w.heap[b]? = some (hdO v a)) :
    (results fn tmps).run Tryd.prog w = .ok (.tuple #[.agg #[v, .int .i64 a], tmps.getD u undef]) w := by
  rw [results_cell_tmp h, hp]
  have hl := run_loadVar_row (P := Tryd.prog) w b 73 73 _ _ _ hy Tryd.underlying73 rfl head_size
  simp [asAddr, Result.andThen, hl]
set_option maxRecDepth 100000 in
set_option maxHeartbeats 2000000 in
theorem refTold_any (s : Txt) (w : World) (hs : s.length ≤ 1000000) :
    Calls Tryd.prog 39 #[.string ⟨s.toArray⟩] w fun e w' => ∃ v' a, e = .returned (.tuple #[.agg #[v', .int .i64 a], .int .i64 (toldS s).e]) ∧ RowN encTo 4 (fun _ => True) w' v' (toldS s).l ∧
      ((toldS s).e = 0 → a = (s.length : Int) - (toldS s).rest.length ∧ (toldS s).rest.length ≤ s.length ∧ (toldS s).rest = s.drop (s.length - (toldS s).rest.length)) ∧ Below w.heap.size w w' := by
  have LA0 := Lib.hid (show TolAt w (((w.alloc (hdO (.slice none 0 0) 0)).alloc (rdC s 0 0)).alloc (hdO (.slice none 0 0) 0)) w.heap.size (w.heap.size + 1) (w.heap.size + 1 + 1) s (.slice none 0 0) ⟨s, 0⟩ [] from by
    have h1 : (w.alloc (hdO (.slice none 0 0) 0)).heap.size = w.heap.size + 1 := by simp
    have h2 : ((w.alloc (hdO (.slice none 0 0) 0)).alloc (rdC s 0 0)).heap.size = w.heap.size + 2 := by simp
    have b1 := heap_alloc_new w (hdO (.slice none 0 0) 0)
    have b2 := heap_alloc_new (w.alloc (hdO (.slice none 0 0) 0)) (rdC s 0 0)
    have b3 := heap_alloc_new ((w.alloc (hdO (.slice none 0 0) 0)).alloc (rdC s 0 0)) (hdO (.slice none 0 0) 0)
    rw [h1] at b2
    rw [h2] at b3
    have k2 := Kept.of_alloc (w.alloc (hdO (.slice none 0 0) 0)) (rdC s 0 0)
    have k3 := Kept.of_alloc ((w.alloc (hdO (.slice none 0 0) 0)).alloc (rdC s 0 0)) (hdO (.slice none 0 0) 0)
    exact ⟨OwnN.nil _ _ _ _ _, ⟨0, k3.old b2 id, by omega, fun _ => rfl, .inl rfl⟩, b3, k3.old (k2.old b1 id) id, (((Below.refl _ _).alloc (Nat.le_refl _) _).alloc (by simp) _).alloc (by simp; omega) _, by simp, by omega⟩)
  have CN := Lib.hid (fun w' (h : RefRd w' (w.heap.size + 1) s ⟨s, 0⟩) => refCountR_any w' (w.heap.size + 1) s ⟨s, 0⟩ 256 h hs (by decide))
  have hcok := rCount_ok ⟨s, 0⟩ 256 (.inl rfl)
  obtain ⟨z, hz1, hz2, _⟩ := rCount_le ⟨s, 0⟩ (.inl rfl) 256
  rw [show ((256 : Nat) : Int) = 256 from rfl] at hz1
  have HRS := Lib.hid (show toldS s = tolEnd (tolF z (rCount ⟨s, 0⟩ 256).2 []).1 (tolF z (rCount ⟨s, 0⟩ 256).2 []).2 by unfold toldS; rw [hz1, Int.toNat_natCast])
  rw [hz1] at CN
  generalize (rCount ⟨s, 0⟩ 256).2 = r0 at *
  generalize toldS s = res at *
  obtain ⟨FIN, hF⟩ : ∃ FIN, FIN = tolF z r0 [] := ⟨_, rfl⟩
  rw [← hF] at HRS
  have HF0 := Lib.hid (show tolF (z - 0) r0 [] = FIN from hF.symm)
  clear hF hz1
  go_enter Tryd.func39, Tryd.ntmps39
  go_wp2_with fail
  refine (CN.out _ LA0.out.rd).mono ?_
  rintro e w1 ⟨rfl, hr1, hk1⟩
  have LA1 := Lib.hid (LA0.out.rdoes hr1 hk1)
  clear hr1 hk1 LA0 CN
  go_wp2_with fail
  go_loopw [7] (fun v7 wr => ∃ (i : Nat) (r : RS) (out : List ToldD) (v : Value), i ≤ z ∧ v7 = .int .i64 i ∧ TolAt w wr w.heap.size (w.heap.size + 1) (w.heap.size + 1 + 1) s v r out ∧ Hid (tolF (z - i) r out = FIN) ∧ r.ok ∧ out.length ≤ i ∧ Hid (∀ x ∈ out, x.path.length ≤ 200 ∧ 0 ≤ x.mode ∧ x.mode ≤ 4611686018427387903 ∧ 0 ≤ x.size ∧ x.size ≤ 65536)) (fun v7 _ => z - (intOf v7).toNat)
  case atStart => exact ⟨0, r0, [], _, by omega, rfl, LA1.out, HF0, hcok, by simp, Lib.hid (by simp)⟩
  case round =>
    clear LA1 HF0 hcok
    obtain ⟨i, r, out, v, hi, rfl, hla, HA, hok, hol, HIO⟩ := hrel
    have LA := Lib.hid hla
    clear hla
    obtain ⟨va, vm, vc, hv⟩ := own_slice LA.out.own
    subst hv
    have i0 : (0 : Int) ≤ (i : Int) := by omega
    have e2 := LA.out.rd.err
    by_cases he : r.e = 0
    · rw [he] at e2
      by_cases hlt : i < z
      · have j1 : (i : Int) < (z : Int) := by omega
        have HST := Lib.hid (show tolF (z - (i + 1)) (oneTo r).2 (out ++ [(oneTo r).1]) = FIN by
          rw [← HA.out, show z - i = (z - (i + 1)) + 1 by omega]
          show _ = if r.e ≠ 0 then (out, r) else _
          rw [if_neg (fun k => k he)])
        have HON := Lib.hid (show oneTo r = (⟨(rText r 200).1, (rNum (rText r 200).2).1, (rCount (rNum (rText r 200).2).2 65536).1⟩, (rCount (rNum (rText r 200).2).2 65536).2) from rfl)
        have K2 := Lib.hid (fun w' (h : RefRd w' (w.heap.size + 1) s r) => refTextR_any w' (w.heap.size + 1) s r 200 h hs (by decide) (by decide))
        have o2 := rText_ok r 200 hok
        have htl := rText_len_le r hok 200
        rw [show ((200 : Nat) : Int) = 200 from rfl] at htl
        generalize (rText r 200).1 = t at *
        generalize (rText r 200).2 = r2 at *
        have K3 := Lib.hid (fun w' (h : RefRd w' (w.heap.size + 1) s r2) => refNumR_any w' (w.heap.size + 1) s r2 h hs)
        have o3 := rNum_ok r2 o2
        obtain ⟨m, hm1, hm2⟩ := rNum_natT r2 o2
        rw [hm1] at K3 HON
        generalize (rNum r2).2 = r3 at *
        have K4 := Lib.hid (fun w' (h : RefRd w' (w.heap.size + 1) s r3) => refCountR_any w' (w.heap.size + 1) s r3 65536 h hs (by decide))
        have o4 := rCount_ok r3 65536 o3
        obtain ⟨sz, hz1, hz2', _⟩ := rCount_le r3 o3 65536
        rw [show ((65536 : Nat) : Int) = 65536 from rfl] at hz1
        rw [hz1] at K4 HON
        generalize (rCount r3 65536).2 = r4 at *
        rw [HON.out] at HST
        have HO4 := Lib.hid o4
        clear hm1 hz1 o2 o3 o4 HON hok HA he
        go_wp2_with fail
        have hbw : Below wr.heap.size wr (wr.alloc (fiO [] 0)) := (Below.refl _ wr).alloc (Nat.le_refl _) _
        have L1 := Lib.hid (LA.out.new hbw)
        have HGN := Lib.hid (heap_alloc_new wr (fiO [] 0))
        have HLT := Lib.hid (fun g' (e : (Value.slice va vm vc).ownBlock = some g') => (LA.out.own.lt e).2.1)
        have HSZ := Lib.hid LA.out.sz
        clear hbw LA e2
        refine (K2.out _ L1.out.rd).mono ?_
        rintro e w2 ⟨rfl, hr2, hk2⟩
        have L2 := Lib.hid (L1.out.rdoes hr2 hk2)
        have hg2 := hk2.old HGN.out (by have := HSZ.out; omega)
        obtain ⟨c0, _, _, f0, _⟩ := fi_c hg2
        have L3 := Lib.hid (L2.out.off (g := wr.heap.size) (fun g' e => by have := HLT.out g' e; omega) HSZ.out (kept_at w2 wr.heap.size 0 (.string ⟨t.toArray⟩)))
        have HG3 := Lib.hid (fi_set0 hg2 t)
        clear hr2 hk2 K2 L1 L2 HGN hg2
        go_wp2_with fail
        generalize w2.setCell ⟨wr.heap.size, 0, none⟩ (.string ⟨t.toArray⟩) = w3 at *
        clear c0 f0
        refine (K3.out _ L3.out.rd).mono ?_
        rintro e w4 ⟨rfl, hr2, hk2⟩
        have L4 := Lib.hid (L3.out.rdoes hr2 hk2)
        have hg4 := hk2.old HG3.out (by have := HSZ.out; omega)
        obtain ⟨_, c1, _, _, f1⟩ := fi_c hg4
        have L5 := Lib.hid (L4.out.off (g := wr.heap.size) (fun g' e => by have := HLT.out g' e; omega) HSZ.out (kept_at w4 wr.heap.size 1 (.int .i64 m)))
        have HG5 := Lib.hid (fi_set1 hg4 (m : Int))
        clear hr2 hk2 K3 L3 L4 HG3 hg4
        go_wp2_with fail
        generalize w4.setCell ⟨wr.heap.size, 1, none⟩ (.int .i64 m) = w5 at *
        clear c1 f1
        refine (K4.out _ L5.out.rd).mono ?_
        rintro e w6 ⟨rfl, hr2, hk2⟩
        have L6 := Lib.hid (L5.out.rdoes hr2 hk2)
        obtain ⟨c0, c1, c2, _, _⟩ := fi_c (hk2.old HG5.out (by have := HSZ.out; omega))
        obtain ⟨d0, _, _, _⟩ := hd_c L6.out.hd
        clear hr2 hk2 K4 L5 HG5
        have hsz6 := L6.out.sz
        go_wp2_with (at_builtin; go_loud (refine append_new (enc := encTo) (k := 4) (w := w6) (by rfl) (.tmp 41) (.tmp 45) 71 77 (.agg #[.string ByteArray.empty, .int .i64 0, .string ByteArray.empty, .int .i64 0]) 48 (by rfl) Tryd.underlying71 info_sized (by rfl) (by decide) encTo_ok (w.heap.size + 1 + 1 + 1) _ out ⟨t, m, sz⟩ (by rfl) L6.out.own (by rfl) (by omega) (by unfold maxLen; omega) hsz6 _ (by rfl) ?_; intro v7 w7 hown7 ht7; obtain ⟨va7, vm7, vc7, rfl⟩ := own_slice hown7; have PS := L6.out.push hown7 ht7; have f8 := PS.1; have c8 := PS.2.1; have L8 := Lib.hid PS.2.2; clear PS hown7 ht7))
        go_roundw
        case rel => exact ⟨i + 1, r4, out ++ [⟨t, m, sz⟩], _, hlt, by go_num, L8.out, HST, HO4.out, by simp; omega, Lib.hid (fun x hx => by
          rcases List.mem_append.1 hx with hx | hx
          · exact HIO.out x hx
          · rw [List.mem_singleton.1 hx]; dsimp only; omega)⟩
        case measure => simp [intOf]; omega
      · obtain rfl : i = z := by omega
        have j1 : ¬ (i : Int) < (i : Int) := by omega
        have HRE := Lib.hid (show res = if checkS (out.map bare) ≠ 0 then ⟨[], [], checkS (out.map bare)⟩ else ⟨out, r.l, 0⟩ by
          rw [HRS.out, show FIN = (out, r) by rw [← HA.out, Nat.sub_self]; rfl]
          unfold tolEnd
          dsimp only
          rw [if_neg (fun k => k he)])
        obtain ⟨w5, hw5⟩ : ∃ w5, w5 = wr := ⟨_, rfl⟩
        subst hw5
        have hvm : vm = out.length := own_lenV LA.out.own
        subst hvm
        have HROW := Lib.hid (OwnN.row encTo_ok LA.out.own)
        obtain ⟨d0, _, _, _⟩ := hd_c LA.out.hd
        have D0 := Lib.hid d0
        have hol2 : out.length ≤ 256 := by omega
        clear HA HRS
        go_wp2_with fail
        go_loopw [10, 11] (fun v10 v11 wr => ∃ (j : Nat), j ≤ out.length ∧ v11 = .int .i64 j ∧ OwnN encF 3 wr w5.heap.size 33 v10 ((out.take j).map bare) ∧ Below w5.heap.size w5 wr) (fun _ v11 _ => out.length - (intOf v11).toNat)
        case atStart => exact ⟨0, by omega, rfl, OwnN.nil _ _ _ _ _, Below.refl _ _⟩
        case round =>
          obtain ⟨j, hj, rfl, hown, hbel⟩ := hrel
          have HO := Lib.hid hown
          have HB := Lib.hid hbel
          clear hown hbel d0
          obtain ⟨oa, om, oc, hv10⟩ := own_slice HO.out
          subst hv10
          have i0' : (0 : Int) ≤ (j : Int) := by omega
          have LX := Lib.hid (LA.out.new HB.out)
          obtain ⟨d0, _, _, _⟩ := hd_c LX.out.hd
          by_cases hjl : j < out.length
          · have j2 : (j : Int) < (out.length : Int) := by omega
            obtain ⟨g, o, rfl, hel⟩ := HROW.out.el hjl
            have hel1 := (hel j hjl).new HB.out
            have HT := Lib.hid (show (out.take (j + 1)).map bare = (out.take j).map bare ++ [bare out[j]] from take_map_succ bare out j hjl)
            have c0 := hel1 0 _ rfl
            have c1 := hel1 1 _ rfl
            have c2 := hel1 2 _ rfl
            rw [Nat.add_zero] at c0
            have hll : ((out.take j).map bare).length ≤ 256 := by rw [List.length_map, List.length_take]; omega
            have hsz := HB.out.size
            clear hel hel1
            generalize out[j] = x at *
            obtain ⟨t, m, sz⟩ := x
            dsimp only at c0 c1 c2
            go_wp2_with (at_builtin; go_loud (refine append_new (enc := encF) (k := 3) (w := wr) (by rfl) (.tmp 65) (.tmp 72) 22 33 (.agg #[.string ByteArray.empty, .int .i64 0, .string ByteArray.empty]) 40 (by rfl) Tryd.underlying22 info_file (by rfl) (by decide) encF_ok w5.heap.size _ ((out.take j).map bare) ⟨t, m, []⟩ (by rfl) HO.out (by rfl) (by omega) (by unfold maxLen; omega) hsz _ (by rfl) ?_; intro v7 w7 hown7 ht7; obtain ⟨va7, vm7, vc7, rfl⟩ := own_slice hown7; have HO7 := Lib.hid hown7; have HB7 := Lib.hid (HB.out.trans ht7.bel); clear hown7 ht7))
            go_roundw
            case rel => exact ⟨j + 1, hjl, by go_num, by rw [HT.out]; exact HO7.out, HB7.out⟩
            case measure => simp [intOf]; omega
          · obtain rfl : j = out.length := by omega
            have j2 : ¬ (out.length : Int) < (out.length : Int) := by omega
            rw [List.take_of_length_le (Nat.le_refl _)] at HO
            have CK := Lib.hid (refCheck_any _ (out.map bare) wr ((OwnN.row encF_ok HO.out).mono (fun _ _ => trivial)) (fun y hy => by
              obtain ⟨x, hx, rfl⟩ := List.mem_map.1 hy
              have := HIO.out x hx
              exact ⟨by show x.path.length ≤ _; omega, ⟨by show _ ≤ x.mode; omega, by show x.mode ≤ _; omega⟩, by show ([] : Txt).length ≤ _; simp⟩) (by rw [List.length_map]; omega))
            generalize checkS (out.map bare) = ce at *
            go_wp2_with fail
            refine CK.out.mono ?_
            rintro e wy ⟨rfl, hby⟩
            have LY := Lib.hid (LX.out.new hby)
            clear hby CK LX d0
            by_cases hc : ce = 0
            · have q1 : (ce != 0) = false := by simp [hc]
              have HRE2 := Lib.hid (show res = ⟨out, r.l, 0⟩ by rw [HRE.out, if_neg (fun k => k hc)])
              obtain ⟨a, hb, hal, hdr, _⟩ := LY.out.rd
              obtain ⟨_, e1, _, _, _⟩ := rd_c hb
              obtain ⟨d0, d1, f0, f1⟩ := hd_c LY.out.hd
              have HDR := Lib.hid (hdr he)
              have HAL := Lib.hid hal
              obtain ⟨s0, s1, g0, g1⟩ := hd_c LY.out.rs
              have HH := Lib.hid (hd_set1 LY.out.hd (a : Int))
              clear hb hdr hc HRE
              go_wp2_with fail
              have hpos := HDR.out
              have hk1 : Kept (· = w.heap.size + 1 + 1) wy (wy.setCell ⟨w.heap.size + 1 + 1, 1, none⟩ (.int .i64 (a : Int))) := kept_at wy _ 1 _
              have RS1 := hk1.old LY.out.rs (by omega)
              exact bodyPost_ret (results_head Tryd.results39 _ _ w.heap.size _ (a : Int) rfl (hd_set1 (hd_set0 RS1 _) _)) rfl ⟨_, (a : Int), by rw [HRE2.out]; rfl, by
                rw [HRE2.out]
                have hkr := fun (X : World) (u z : Value) => (kept_at X w.heap.size 0 u).trans (kept_at _ w.heap.size 1 z)
                exact (OwnN.row encTo_ok ((LY.out.own.kept hk1 (fun g hg e => by have := (LY.out.own.lt hg).1; omega)).kept (hkr _ _ _) (fun g hg e => by have := (LY.out.own.lt hg).1; omega))).mono (fun _ _ => trivial), fun _ => by
                rw [HRE2.out]
                dsimp only
                rw [hpos, List.length_drop]
                have := HAL.out
                refine ⟨by omega, by omega, ?_⟩
                congr 1
                omega, ((LY.out.bel.setCell (p := ⟨w.heap.size + 1 + 1, 1, none⟩) (by show w.heap.size ≤ w.heap.size + 1 + 1; omega) _).setCell (p := ⟨w.heap.size, 0, none⟩) (Nat.le_refl _) _).setCell (p := ⟨w.heap.size, 1, none⟩) (Nat.le_refl _) _⟩
            · have q1 : (ce != 0) = true := by simp [hc]
              have HRE2 := Lib.hid (show res = ⟨[], [], ce⟩ by rw [HRE.out, if_pos hc])
              obtain ⟨s0, s1, g0, g1⟩ := hd_c LY.out.rs
              clear HRE
              go_wp2_with fail
              exact bodyPost_ret (results_head Tryd.results39 _ _ w.heap.size (.slice none 0 0) 0 rfl (hd_set1 (hd_set0 LY.out.rs _) _)) rfl ⟨.slice none 0 0, 0, by rw [HRE2.out]; rfl, by rw [HRE2.out]; exact RowN.nil _ _ _ _, fun h => absurd (by rw [HRE2.out] at h; exact h) hc, (LY.out.bel.setCell (p := ⟨w.heap.size, 0, none⟩) (Nat.le_refl _) _).setCell (p := ⟨w.heap.size, 1, none⟩) (Nat.le_refl _) _⟩
    · have q1 : (r.e == 0) = false := by simp [he]
      have q2 : (r.e != 0) = true := by simp [he]
      have HRE := Lib.hid (show res = ⟨[], [], r.e⟩ by
        rw [HRS.out]
        have hf : FIN = (out, r) := by
          rw [← HA.out]
          cases hzi : z - i with
          | zero => rfl
          | succ k => show (if r.e ≠ 0 then (out, r) else _) = _; rw [if_pos he]
        rw [hf]
        unfold tolEnd
        dsimp only
        rw [if_pos he])
      obtain ⟨s0, s1, g0, g1⟩ := hd_c LA.out.rs
      have HBL := Lib.hid LA.out.bel
      have HRS2 := Lib.hid LA.out.rs
      generalize r.e = er at *
      clear HA HRS
      by_cases hlt : i < z
      · have j1 : (i : Int) < (z : Int) := by omega
        go_wp2_with fail
        go_region
        all_goals
          go_wp2_with fail
          exact bodyPost_ret (results_head Tryd.results39 _ _ w.heap.size (.slice none 0 0) 0 rfl (hd_set1 (hd_set0 HRS2.out _) _)) rfl ⟨.slice none 0 0, 0, by rw [HRE.out]; rfl, by rw [HRE.out]; exact RowN.nil _ _ _ _, fun h => absurd (by rw [HRE.out] at h; exact h) he, Below_drew ((HBL.out.setCell (p := ⟨w.heap.size, 0, none⟩) (Nat.le_refl _) _).setCell (p := ⟨w.heap.size, 1, none⟩) (Nat.le_refl _) _)⟩
      · have j1 : ¬ (i : Int) < (z : Int) := by omega
        go_wp2_with fail
        go_region
        all_goals
          go_wp2_with fail
          exact bodyPost_ret (results_head Tryd.results39 _ _ w.heap.size (.slice none 0 0) 0 rfl (hd_set1 (hd_set0 HRS2.out _) _)) rfl ⟨.slice none 0 0, 0, by rw [HRE.out]; rfl, by rw [HRE.out]; exact RowN.nil _ _ _ _, fun h => absurd (by rw [HRE.out] at h; exact h) he, Below_drew ((HBL.out.setCell (p := ⟨w.heap.size, 0, none⟩) (Nat.le_refl _) _).setCell (p := ⟨w.heap.size, 1, none⟩) (Nat.le_refl _) _)⟩
end Go.Proofs.YtfgimhgkjodcgaaDoor
/- The document's Tree of an image. -/
set_option linter.unusedVariables false
namespace Go.Proofs.YtfgimhgkjodcgaaDoor
open Go.RowKit

def ToldOk (x : ToldD) : Prop := x.path.length ≤ 200 ∧ 0 ≤ x.mode ∧ x.mode ≤ 4611686018427387903 ∧ 0 ≤ x.size ∧ x.size ≤ 65536
theorem oneTo_ok (r : RS) (h : r.ok) : ToldOk (oneTo r).1 ∧ (oneTo r).2.ok := by
  have o2 := rText_ok r 200 h
  have o3 := rNum_ok (rText r 200).2 o2
  have o4 := rCount_ok (rNum (rText r 200).2).2 65536 o3
  have htl := rText_len_le r h 200
  obtain ⟨m, hm1, hm2⟩ := rNum_natT (rText r 200).2 o2
  obtain ⟨z, hz1, hz2, _⟩ := rCount_le (rNum (rText r 200).2).2 o3 65536
  refine ⟨⟨htl, ?_, ?_, ?_, ?_⟩, o4⟩
  · show 0 ≤ (rNum (rText r 200).2).1; omega
  · show (rNum (rText r 200).2).1 ≤ _; omega
  · show 0 ≤ (rCount (rNum (rText r 200).2).2 65536).1; rw [show ((65536 : Nat) : Int) = 65536 from rfl] at hz1; omega
  · show (rCount (rNum (rText r 200).2).2 65536).1 ≤ _; rw [show ((65536 : Nat) : Int) = 65536 from rfl] at hz1; omega
theorem tolF_ok : ∀ (k : Nat) (r : RS) (out : List ToldD), r.ok → (∀ x ∈ out, ToldOk x) → (∀ x ∈ (tolF k r out).1, ToldOk x) ∧ (tolF k r out).1.length ≤ out.length + k
  | 0, r, out, _, h => ⟨h, by show out.length ≤ _; omega⟩
  | k + 1, r, out, hr, h => by
    unfold tolF
    by_cases he : r.e = 0
    · rw [if_neg (fun g => g he)]
      obtain ⟨h1, h2⟩ := oneTo_ok r hr
      obtain ⟨h3, h4⟩ := tolF_ok k (oneTo r).2 (out ++ [(oneTo r).1]) h2 (fun x hx => by
        rcases List.mem_append.1 hx with hx | hx
        · exact h x hx
        · rw [List.mem_singleton.1 hx]; exact h1)
      refine ⟨h3, ?_⟩
      rw [List.length_append] at h4
      simp at h4
      omega
    · rw [if_pos he]; exact ⟨h, by show out.length ≤ _; omega⟩
theorem toldS_ok (s : Txt) : (∀ x ∈ (toldS s).l, ToldOk x) ∧ (toldS s).l.length ≤ 256 := by
  obtain ⟨z, hz1, hz2, _⟩ := rCount_le ⟨s, 0⟩ (.inl rfl) 256
  rw [show ((256 : Nat) : Int) = 256 from rfl] at hz1
  obtain ⟨h1, h2⟩ := tolF_ok (rCount ⟨s, 0⟩ 256).1.toNat (rCount ⟨s, 0⟩ 256).2 [] (rCount_ok ⟨s, 0⟩ 256 (.inl rfl)) (by simp)
  have h2 : (tolF (rCount ⟨s, 0⟩ 256).1.toNat (rCount ⟨s, 0⟩ 256).2 []).1.length ≤ 256 := by
    rw [hz1] at h2 ⊢
    simp at h2 ⊢
    omega
  unfold toldS tolEnd
  split
  · exact ⟨fun x hx => (by cases hx), by simp⟩
  · split
    · exact ⟨fun x hx => (by cases hx), by simp⟩
    · exact ⟨h1, h2⟩
theorem fillF_ok : ∀ (l : List ToldD) (rest : Txt) (out : List FileD), (∀ x ∈ l, ToldOk x) → (∀ x ∈ out, FileOk x) → rest.length ≤ 1000000 → (∀ x ∈ (fillF l rest out).1, FileOk x) ∧ (fillF l rest out).1.length ≤ out.length + l.length
  | [], rest, out, _, h, _ => by
    by_cases hr : rest = []
    · rw [show fillF [] rest out = (out, 0) from if_pos hr]; exact ⟨h, by simp⟩
    · rw [show fillF [] rest out = ([], 4) from if_neg hr]; exact ⟨fun x hx => (by cases hx), by simp⟩
  | x :: r, rest, out, hl, h, hr => by
    by_cases hc : (rest.length : Int) < x.size
    · rw [show fillF (x :: r) rest out = ([], 3) from if_pos hc]; exact ⟨fun x hx => (by cases hx), by simp⟩
    · rw [show fillF (x :: r) rest out = fillF r (rest.drop x.size.toNat) (out ++ [⟨x.path, x.mode, rest.take x.size.toNat⟩]) from if_neg hc]
      obtain ⟨a1, a2, a3, a4, a5⟩ := hl x (by simp)
      obtain ⟨h3, h4⟩ := fillF_ok r (rest.drop x.size.toNat) (out ++ [⟨x.path, x.mode, rest.take x.size.toNat⟩]) (fun y hy => hl y (by simp [hy])) (fun y hy => by
        rcases List.mem_append.1 hy with hy | hy
        · exact h y hy
        · rw [List.mem_singleton.1 hy]
          exact ⟨by show x.path.length ≤ _; omega, ⟨by show _ ≤ x.mode; omega, by show x.mode ≤ _; omega⟩, by show (rest.take x.size.toNat).length ≤ _; rw [List.length_take]; omega⟩) (by rw [List.length_drop]; omega)
      refine ⟨h3, ?_⟩
      rw [List.length_append] at h4
      simp at h4 ⊢
      omega
theorem rText_le (r : RS) (h : r.ok) : (rText r 200).2.l.length ≤ r.l.length := by
  by_cases he : (rText r 200).2.e = 0
  · have := rText_less r 200 h he; omega
  · rcases rText_ok r 200 h with h1 | h1
    · exact absurd h1 he
    · rw [h1]; simp
theorem rNum_le (r : RS) (h : r.ok) : (rNum r).2.l.length ≤ r.l.length := by
  by_cases he : (rNum r).2.e = 0
  · have := rNum_less r h he; omega
  · rcases rNum_ok r h with h1 | h1
    · exact absurd h1 he
    · rw [h1]; simp
theorem rCountL_le (r : RS) (most : Int) (h : r.ok) : (rCount r most).2.l.length ≤ r.l.length := by
  by_cases he : (rCount r most).2.e = 0
  · have := rCount_less r most h he; omega
  · rcases rCount_ok r most h with h1 | h1
    · exact absurd h1 he
    · rw [h1]; simp
theorem oneTo_le (r : RS) (h : r.ok) : (oneTo r).2.l.length ≤ r.l.length := by
  have o2 := rText_ok r 200 h
  have o3 := rNum_ok (rText r 200).2 o2
  have l1 := rText_le r h
  have l2 := rNum_le (rText r 200).2 o2
  have l3 := rCountL_le (rNum (rText r 200).2).2 65536 o3
  show (rCount (rNum (rText r 200).2).2 65536).2.l.length ≤ _
  omega
theorem tolF_le : ∀ (k : Nat) (r : RS) (out : List ToldD), r.ok → (tolF k r out).2.l.length ≤ r.l.length
  | 0, r, out, _ => Nat.le_refl _
  | k + 1, r, out, hr => by
    by_cases he : r.e = 0
    · rw [show tolF (k + 1) r out = tolF k (oneTo r).2 (out ++ [(oneTo r).1]) from if_neg (fun g => g he)]
      exact Nat.le_trans (tolF_le k _ _ (oneTo_ok r hr).2) (oneTo_le r hr)
    · rw [show tolF (k + 1) r out = (out, r) from if_pos he]
      exact Nat.le_refl _
theorem toldS_rest (s : Txt) : (toldS s).rest.length ≤ s.length := by
  have h := tolF_le (rCount ⟨s, 0⟩ 256).1.toNat (rCount ⟨s, 0⟩ 256).2 [] (rCount_ok ⟨s, 0⟩ 256 (.inl rfl))
  have h2 := rCountL_le ⟨s, 0⟩ 256 (.inl rfl)
  have h3 : (⟨s, 0⟩ : RS).l.length = s.length := rfl
  unfold toldS tolEnd
  split
  · simp
  · split
    · simp
    · dsimp only; omega
theorem treeS_ok (s : Txt) : (∀ x ∈ (treeS s).1, FileOk x) ∧ (treeS s).1.length ≤ 256 := by
  by_cases h1 : 524288 < s.length
  · rw [show treeS s = ([], 4) from if_pos h1]; exact ⟨fun x hx => (by cases hx), by simp⟩
  · by_cases h2 : (toldS s).e = 0
    · rw [show treeS s = fillF (toldS s).l (toldS s).rest [] by unfold treeS; rw [if_neg h1, if_neg (fun g => g h2)]]
      obtain ⟨g1, g2⟩ := toldS_ok s
      have hr := toldS_rest s
      obtain ⟨h3, h4⟩ := fillF_ok (toldS s).l (toldS s).rest [] g1 (by simp) (by omega)
      exact ⟨h3, by simp at h4; omega⟩
    · rw [show treeS s = ([], (toldS s).e) by unfold treeS; rw [if_neg h1, if_pos h2]]; exact ⟨fun x hx => (by cases hx), by simp⟩
end Go.Proofs.YtfgimhgkjodcgaaDoor
/- The document's Tree of an image, walked. -/
set_option linter.unusedVariables false
namespace Go.Proofs.YtfgimhgkjodcgaaDoor
open Go.RowKit

/-- What is told of a file, with its bytes, in a block of its own. -/
def szO (p : Txt) (m : Int) (d : Txt) (z : Int) : Obj := .cells #[.string ⟨p.toArray⟩, .int .i64 m, .string ⟨d.toArray⟩, .int .i64 z] 77
theorem sz_c {w : World} {g : Nat} {p d : Txt} {m z : Int} (h : w.heap[g]? = some (szO p m d z)) :
    w.cell? ⟨g, 0, none⟩ = some (.string ⟨p.toArray⟩) ∧ w.cell? ⟨g, 1, none⟩ = some (.int .i64 m) ∧ w.cell? ⟨g, 2, none⟩ = some (.string ⟨d.toArray⟩) ∧ w.cell? ⟨g, 3, none⟩ = some (.int .i64 z) ∧ w.frozen? ⟨g, 2, none⟩ = false := by
  refine ⟨?_, ?_, ?_, ?_, frozen_of_row w g 2 _ _ h⟩ <;> (rw [cell_of_row _ _ _ _ _ _ h]; rfl)
theorem sz_set2 {w : World} {g : Nat} {p d : Txt} {m z : Int} (h : w.heap[g]? = some (szO p m d z)) (e : Txt) : (w.setCell ⟨g, 2, none⟩ (.string ⟨e.toArray⟩)).heap[g]? = some (szO p m e z) := by
  rw [heap_setCell_same w g 2 _ _ _ h]; rfl
set_option maxRecDepth 100000 in
set_option maxHeartbeats 2000000 in
theorem refTreeI_any (s : Txt) (w : World) (hs : s.length ≤ 1000000) :
    Calls Tryd.prog 18 #[.string ⟨s.toArray⟩] w fun e w' => ∃ v', e = .returned (.tuple #[v', .int .i64 (treeS s).2]) ∧ RowN encF 3 (fun _ => True) w' v' (treeS s).1 ∧ Below w.heap.size w w' := by
  by_cases hbig : 524288 < s.length
  · have j : (524288 : Int) < (s.length : Int) := by omega
    have HR := Lib.hid (show treeS s = ([], 4) from if_pos hbig)
    generalize treeS s = res at *
    clear hbig
    go_enter Tryd.func18, Tryd.ntmps18
    go_wp2_with fail
    go_ret2
    exact ⟨_, by rw [HR.out]; rfl, by rw [HR.out]; exact RowN.nil _ _ _ _, Below.refl _ _⟩
  · have j : ¬ (524288 : Int) < (s.length : Int) := by omega
    have TD := Lib.hid (refTold_any s w hs)
    obtain ⟨hto, htl⟩ := toldS_ok s
    have HR0 := Lib.hid (show treeS s = if (toldS s).e ≠ 0 then ([], (toldS s).e) else fillF (toldS s).l (toldS s).rest [] from if_neg hbig)
    generalize treeS s = res at *
    generalize toldS s = T at *
    obtain ⟨tl, rest, te⟩ := T
    dsimp only at TD hto htl HR0
    have HTO := Lib.hid hto
    clear hbig hto
    go_enter Tryd.func18, Tryd.ntmps18
    go_wp2_with fail
    refine TD.out.mono ?_
    rintro e w1 ⟨v1, at0, rfl, hr1, hat, hb1⟩
    obtain ⟨va, vc, rfl, _⟩ := hr1.slice
    have HROW := Lib.hid hr1
    have HB1 := Lib.hid hb1
    have HAT := Lib.hid hat
    clear hr1 hat hb1 TD
    by_cases hte : te = 0
    · obtain ⟨ha, hrl, hrd⟩ := HAT.out hte
      have q1 : (te != 0) = false := by simp [hte]
      have HR := Lib.hid (show res = fillF tl rest [] by rw [HR0.out, if_neg (fun k => k hte)])
      obtain ⟨n0, hn0⟩ : ∃ n0 : Nat, n0 = s.length - rest.length := ⟨_, rfl⟩
      have ha2 : at0 = (n0 : Int) := by omega
      subst ha2
      rw [← hn0] at hrd
      have hn0l : n0 ≤ s.length := by omega
      have HBX := Lib.hid (heap_alloc_new w1 (hdO (.slice va tl.length vc) (n0 : Int)))
      have hbw : Below w1.heap.size w1 (w1.alloc (hdO (.slice va tl.length vc) (n0 : Int))) := (Below.refl _ _).alloc (Nat.le_refl _) _
      have HBW := Lib.hid hbw
      have HROW2 := Lib.hid (HROW.out.keep hbw)
      obtain ⟨d0, d1, _, _⟩ := hd_c HBX.out
      have HRE := Lib.hid (show fillF (tl.drop 0) (s.drop n0) [] = res by rw [HR.out, ← hrd]; rfl)
      clear HR0 HR HAT hte ha hrl hn0 hrd hbw
      go_wp2_with fail
      obtain ⟨w2, hw2⟩ : ∃ w2, w2 = w1.alloc (hdO (.slice va tl.length vc) (n0 : Int)) := ⟨_, rfl⟩
      rw [← hw2] at HBX HBW HROW2
      clear d0 d1
      go_loopw [6, 7, 8] (fun v6 v7 v8 wr => ∃ (i at' : Nat) (out : List FileD), i ≤ tl.length ∧ v8 = .int .i64 i ∧ v6 = .int .i64 at' ∧ at' ≤ s.length ∧ OwnN encF 3 wr w2.heap.size 33 v7 out ∧ Hid (fillF (tl.drop i) (s.drop at') out = res) ∧ out.length = i ∧ Below w2.heap.size w2 wr) (fun _ _ v8 _ => tl.length - (intOf v8).toNat)
      case atStart => exact ⟨0, n0, [], by omega, rfl, rfl, hn0l, OwnN.nil _ _ _ _ _, HRE, rfl, by rw [hw2]; exact Below.refl _ _⟩
      case round =>
        clear HRE hn0l hw2
        obtain ⟨i, at', out, hi, rfl, rfl, hat, hown, HA, hol, hbel⟩ := hrel
        have HO := Lib.hid hown
        have HB := Lib.hid hbel
        have HOL := Lib.hid hol
        clear hown hbel
        have hol2 : out.length ≤ 256 := by omega
        clear hol
        obtain ⟨oa, om, oc, hv7⟩ := own_slice HO.out
        subst hv7
        have i0 : (0 : Int) ≤ (i : Int) := by omega
        have a0 : (0 : Int) ≤ (at' : Int) := by omega
        have HBXr := (Kept.new HB.out (fun _ => False)).old HBX.out id
        obtain ⟨d0, d1, _, _⟩ := hd_c HBXr
        have HWB := Lib.hid (HBW.out.trans (HB.out.mono HBW.out.size))
        by_cases hlt : i < tl.length
        · have j1 : (i : Int) < (tl.length : Int) := by omega
          obtain ⟨g, o, rfl, hel⟩ := HROW2.out.el hlt
          have hel1 := (hel i hlt).new HB.out
          have c0 := hel1 0 _ rfl
          have c1 := hel1 1 _ rfl
          have c2 := hel1 2 _ rfl
          have c3 := hel1 3 _ rfl
          rw [Nat.add_zero] at c0
          obtain ⟨x1, x2, x3, x4, x5⟩ := HTO.out tl[i] (List.getElem_mem hlt)
          have HD := Lib.hid (show tl.drop i = tl[i] :: tl.drop (i + 1) from List.drop_eq_getElem_cons hlt)
          clear hel hel1
          generalize tl[i] = x at *
          obtain ⟨p, m, sz⟩ := x
          dsimp only at c0 c1 c2 c3 x1 x2 x3 x4 x5
          obtain ⟨z, hz⟩ : ∃ z : Nat, sz = (z : Int) := ⟨sz.toNat, by omega⟩
          subst hz
          have HF := Lib.hid (show (if ((s.drop at').length : Int) < (z : Int) then ([], 3) else fillF (tl.drop (i + 1)) ((s.drop at').drop ((z : Int)).toNat) (out ++ [⟨p, m, (s.drop at').take ((z : Int)).toNat⟩])) = res by rw [← HA.out, HD.out]; rfl)
          rw [Int.toNat_natCast, List.length_drop, List.drop_drop] at HF
          by_cases hsh : s.length - at' < z
          · have j2 : (s.length : Int) - (at' : Int) < (z : Int) := by omega
            have HR := Lib.hid (show res = ([], 3) by rw [← HF.out]; exact if_pos (by omega))
            clear HF HA HD hsh
            go_wp2_with fail
            go_ret2
            exact ⟨_, by rw [HR.out]; rfl, by rw [HR.out]; exact RowN.nil _ _ _ _, (HB1.out.trans (HWB.out.mono HB1.out.size)).trans (((Below.refl _ _).alloc (Nat.le_refl _) _).mono (by have := HB1.out.size; have := HWB.out.size; omega))⟩
          · have j2 : ¬ (s.length : Int) - (at' : Int) < (z : Int) := by omega
            have j3 : (at' : Int) + (z : Int) ≤ (s.length : Int) := by omega
            have j4 : (at' : Int) ≤ (at' : Int) + (z : Int) := by omega
            have HN := Lib.hid (show fillF (tl.drop (i + 1)) (s.drop (at' + z)) (out ++ [⟨p, m, (s.drop at').take z⟩]) = res by rw [← HF.out, if_neg (by omega)])
            have EX := show (⟨s.toArray⟩ : ByteArray).extract at' (at' + z) = ⟨((s.drop at').take z).toArray⟩ from by rw [slice_toArray, List.drop_take, Nat.add_sub_cancel_left]
            generalize hdt : (s.drop at').take z = dt at *
            have hbw : Below wr.heap.size wr (wr.alloc (szO p m dt (z : Int))) := (Below.refl _ wr).alloc (Nat.le_refl _) _
            have HGX := Lib.hid (heap_alloc_new wr (szO p m dt (z : Int)))
            have HOW := Lib.hid (fun g' (e : (Value.slice oa om oc).ownBlock = some g') => (HO.out.lt e).2.1)
            have HO3 := Lib.hid (HO.out.new hbw)
            have HB3 := Lib.hid (HB.out.trans (hbw.mono HB.out.size))
            have HSZ := Lib.hid (show (wr.alloc (szO p m dt (z : Int))).heap.size = wr.heap.size + 1 by simp)
            have hws := HB.out.size
            clear HF HA HD hsh hbw HO HB hdt
            go_wp2_with (at_builtin; go_loud (refine append_new (enc := encF) (k := 3) (w := wr.alloc (szO p m dt (z : Int))) (by rfl) (.tmp 51) (.tmp 54) 22 33 (.agg #[.string ByteArray.empty, .int .i64 0, .string ByteArray.empty]) 40 (by rfl) Tryd.underlying22 info_file (by rfl) (by decide) encF_ok w2.heap.size _ out ⟨p, m, dt⟩ (by rfl) HO3.out (by rw [HSZ.out]; rfl) (by omega) (by unfold maxLen; omega) (by rw [HSZ.out]; omega) _ (by rfl) ?_; intro v7 w7 hown7 ht7; have c9 := (sz_c (ht7.kept.old HGX.out (fun e => by have := HOW.out _ e; omega))).2.2.2.1; obtain ⟨va7, vm7, vc7, rfl⟩ := own_slice hown7; have HO7 := Lib.hid hown7; have HB7 := Lib.hid (HB3.out.trans ht7.bel); clear hown7 ht7))
            go_roundw
            case rel => exact ⟨i + 1, at' + z, _, by omega, by go_num, by go_num, by omega, HO7.out, HN, by simp; exact HOL.out, HB7.out⟩
            case measure => simp [intOf]; omega
        · obtain rfl : i = tl.length := by omega
          have j1 : ¬ (tl.length : Int) < (tl.length : Int) := by omega
          have HF := Lib.hid (show (if s.drop at' = [] then (out, 0) else ([], 4)) = res by rw [← HA.out, List.drop_eq_nil_of_le (Nat.le_refl _)]; rfl)
          by_cases hend : at' < s.length
          · have j2 : (at' : Int) < (s.length : Int) := by omega
            have HR := Lib.hid (show res = ([], 4) by
              rw [← HF.out]
              refine if_neg (fun k => ?_)
              have := congrArg List.length k
              rw [List.length_drop] at this
              simp at this
              omega)
            clear HF HA
            go_wp2_with fail
            go_ret2
            exact ⟨_, by rw [HR.out]; rfl, by rw [HR.out]; exact RowN.nil _ _ _ _, HB1.out.trans (HWB.out.mono HB1.out.size)⟩
          · have j2 : ¬ (at' : Int) < (s.length : Int) := by omega
            have HR := Lib.hid (show res = (out, 0) by rw [← HF.out]; exact if_pos (List.drop_eq_nil_of_le (by omega)))
            clear HF HA
            go_wp2_with fail
            go_ret2
            exact ⟨_, by rw [HR.out]; rfl, by rw [HR.out]; exact (OwnN.row encF_ok HO.out).mono (fun _ _ => trivial), HB1.out.trans (HWB.out.mono HB1.out.size)⟩
    · have q1 : (te != 0) = true := by simp [hte]
      have HR := Lib.hid (show res = ([], te) by rw [HR0.out, if_pos hte])
      have HBW := Lib.hid (HB1.out.alloc HB1.out.size (hdO (.slice va tl.length vc) at0))
      clear HAT HR0 hte
      go_wp2_with fail
      go_ret2
      exact ⟨_, by rw [HR.out]; rfl, by rw [HR.out]; exact RowN.nil _ _ _ _, HBW.out⟩
end Go.Proofs.YtfgimhgkjodcgaaDoor

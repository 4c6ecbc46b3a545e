/- The document's Of (reading a manifest). -/
import Derived.Test.YtamiacmnobklaaaGreatDoorArX
import Derived.Test.YtamiacmnobklaaaGreatDoorFrame
import Derived.Test.YtamiacmnobklaaaGreatDoorGen
import Derived.Test.YtamiacmnobklaaaGreatDoorPtX
import Derived.Test.YtamiacmnobklaaaGreatDoorMarkMath
import Derived.Test.YtamiacmnobklaaaGreatDoorOmX
import Derived.Test.YtamiacmnobklaaaGreatDoorOwnL
import Derived.Test.YtamiacmnobklaaaGreatDoorCdX
import Derived.Test.YtamiacmnobklaaaGreatDoorRfX
import Derived.Test.YtamiacmnobklaaaGreatDoorRefNumW
import Derived.Test.YtamiacmnobklaaaGreatDoorRefReadW
import Derived.Test.YtamiacmnobklaaaGreatDoorRowN
import Derived.Test.YtamiacmnobklaaaGreatDoorRows
import Derived.Test.YtamiacmnobklaaaGreatDoorTreeMath
import Derived.BigQuiet
import Derived.Deep.QuietTactic
import Derived.Lib.Hide
import Derived.WalkKit
import Derived.WalkLawsBesides
import Derived.WalkSpells
set_option linter.unusedVariables false
namespace Go.Proofs.YtamiacmnobklaaaGreatDoor
open Go.RowKit

theorem info_item : (Tryz.prog.info? 78).map (fun i => (i.zero, i.size, i.bytes)) = some (some (.agg #[.string ByteArray.empty, .int .i64 0, .int .i64 0, .string ByteArray.empty]), 4, 48) := by kernel_rfl
structure OfAt (w0 wr : World) (q : Nat) (S : Txt) (v : Value) (r : RS) (out : List ItemD) : Prop where
  own : OwnN encI 4 wr (q + 1) 78 v out
  rd : RefRd wr q S r
  bel : Below w0.heap.size w0 wr
  sz : q + 1 ≤ wr.heap.size
theorem OfAt.rdoes {w0 wr w' : World} {q : Nat} {S : Txt} {v : Value} {r r' : RS} {b : List ItemD} (h : OfAt w0 wr q S v r b) (hr : RefRd w' q S r') (hk : Kept (· = q) wr w') (hq : w0.heap.size ≤ q) : OfAt w0 w' q S v r' b :=
  ⟨h.own.kept hk (fun g hg e => by have := (h.own.lt hg).1; omega), hr, h.bel.trans (hk.below h.bel.size (fun k e => by omega)), Nat.le_trans h.sz hk.size⟩
theorem OfAt.new {w0 wr w' : World} {q : Nat} {S : Txt} {v : Value} {r : RS} {b : List ItemD} (h : OfAt w0 wr q S v r b) (hb : Below wr.heap.size wr w') (hq : w0.heap.size ≤ q) : OfAt w0 w' q S v r b :=
  ⟨h.own.new hb, h.rd.kept (Kept.new hb (fun _ => False)) id, h.bel.trans (hb.mono h.bel.size), Nat.le_trans h.sz hb.size⟩
theorem OfAt.item {w0 w w' : World} {q g : Nat} {S : Txt} {v : Value} {r : RS} {b : List ItemD} (h : OfAt w0 w q S v r b) (hg : ∀ g', v.ownBlock = some g' → g' < g) (hqg : q < g) (hq : w0.heap.size ≤ q) (hk : Kept (· = g) w w') : OfAt w0 w' q S v r b :=
  ⟨h.own.kept hk (fun g' e c => by have := hg g' e; omega), h.rd.kept hk (by omega), h.bel.trans (hk.below h.bel.size (fun k e => by omega)), Nat.le_trans h.sz hk.size⟩
theorem kept_at (w : World) (g j : Nat) (x : Value) : Kept (· = g) w (w.setCell ⟨g, j, none⟩ x) := (Kept.refl _ _).setCell (by rfl) _
/-- The item's own block. -/
def itO (a : Txt) (m z : Int) (k : Txt) : Obj := .cells #[.string ⟨a.toArray⟩, .int .i64 m, .int .i64 z, .string ⟨k.toArray⟩] 78
theorem it_c {w : World} {g : Nat} {a : Txt} {m z : Int} {k : Txt} (h : w.heap[g]? = some (itO a m z k)) :
    w.cell? ⟨g, 0, none⟩ = some (.string ⟨a.toArray⟩) ∧ w.cell? ⟨g, 1, none⟩ = some (.int .i64 m) ∧ w.cell? ⟨g, 2, none⟩ = some (.int .i64 z) ∧ w.cell? ⟨g, 3, none⟩ = some (.string ⟨k.toArray⟩) ∧
    w.frozen? ⟨g, 0, none⟩ = false ∧ w.frozen? ⟨g, 1, none⟩ = false ∧ w.frozen? ⟨g, 2, none⟩ = false ∧ w.frozen? ⟨g, 3, none⟩ = false := by
  refine ⟨?_, ?_, ?_, ?_, frozen_of_row w g 0 _ _ h, frozen_of_row w g 1 _ _ h, frozen_of_row w g 2 _ _ h, frozen_of_row w g 3 _ _ h⟩ <;> (rw [cell_of_row _ _ _ _ _ _ h]; rfl)
theorem it_set {w : World} {g : Nat} {a : Txt} {m z : Int} {k : Txt} (h : w.heap[g]? = some (itO a m z k)) :
    (∀ b : Txt, (w.setCell ⟨g, 0, none⟩ (.string ⟨b.toArray⟩)).heap[g]? = some (itO b m z k)) ∧ (∀ n : Int, (w.setCell ⟨g, 1, none⟩ (.int .i64 n)).heap[g]? = some (itO a n z k)) ∧
    (∀ n : Int, (w.setCell ⟨g, 2, none⟩ (.int .i64 n)).heap[g]? = some (itO a m n k)) ∧ (∀ b : Txt, (w.setCell ⟨g, 3, none⟩ (.string ⟨b.toArray⟩)).heap[g]? = some (itO a m z b)) := by
  refine ⟨fun b => ?_, fun n => ?_, fun n => ?_, fun b => ?_⟩ <;> (rw [heap_setCell_same w g _ _ _ _ h]; rfl)
theorem rText_len_le (s : RS) (h : s.ok) (most : Nat) : (rText s most).1.length ≤ most := by
  obtain ⟨z, hz1, _, _⟩ := rCount_nat s most h
  have hz2 : z ≤ most := by
    rcases rCount_cases s most h with ⟨h1, _⟩ | ⟨_, h2, h3⟩
    · omega
    · rw [h2] at hz1; omega
  show (rRaw (rCount s most).2 (rCount s most).1).1.length ≤ most
  rw [hz1]
  generalize (rCount s most).2 = r
  unfold rRaw
  split
  · simp
  · split
    · simp
    · split
      · simp
      · rw [List.length_take]; simp; omega
theorem rCount_le (s : RS) (h : s.ok) (most : Nat) : ∃ c : Nat, (rCount s most).1 = (c : Int) ∧ c ≤ most ∧ ((rCount s most).2.e ≠ 0 → c = 0) := by
  obtain ⟨z, hz1, _, hz3⟩ := rCount_nat s most h
  refine ⟨z, hz1, ?_, hz3⟩
  rcases rCount_cases s most h with ⟨h1, _⟩ | ⟨_, h2, h3⟩
  · omega
  · rw [h2] at hz1; omega
theorem rNum_natT (s : RS) (h : s.ok) : ∃ c : Nat, (rNum s).1 = (c : Int) ∧ c ≤ 4611686018427387903 := by
  by_cases he : (rNum s).2.e = 0
  · obtain ⟨c, h1, h2, _⟩ := rNum_split s h he
    exact ⟨c, h2, h1⟩
  · exact ⟨0, by rw [rNum_zero s he]; rfl, by omega⟩
theorem raw32 (s : RS) : (rRaw s 32).1.length ≤ 32 := by
  unfold rRaw
  split
  · simp
  · split
    · simp
    · split
      · simp
      · rw [List.length_take]; simp; omega
set_option maxRecDepth 100000 in
set_option maxHeartbeats 2000000 in
theorem refOf9_any (s : Txt) (w : World) (hs : s.length ≤ 100000) :
    Calls Tryz.prog 60 #[.string ⟨s.toArray⟩] w fun e w' => ∃ v', e = .returned (.tuple #[v', .int .i64 (ofS s).2]) ∧ RowN encI 4 (fun _ => True) w' v' (ofS s).1 ∧ Below w.heap.size w w' := by
  have hb0 : Below w.heap.size w (w.alloc (rdC s 0 0)) := (Below.refl _ _).alloc (Nat.le_refl _) _
  have RD0 := Lib.hid (show RefRd (w.alloc (rdC s 0 0)) w.heap.size s ⟨s, 0⟩ from ⟨0, heap_alloc_new _ _, by omega, fun _ => rfl, .inl rfl⟩)
  have CN := Lib.hid (refCountR_any (w.alloc (rdC s 0 0)) w.heap.size s ⟨s, 0⟩ 256 RD0.out (by omega) (by decide))
  have LA0 := Lib.hid (show OfAt w (w.alloc (rdC s 0 0)) w.heap.size s (.slice none 0 0) ⟨s, 0⟩ [] from ⟨OwnN.nil _ _ _ _ _, RD0.out, hb0, by simp⟩)
  have HOF := Lib.hid (show ofS s = ofEnd (ofF (rCount ⟨s, 0⟩ 256).1.toNat (rCount ⟨s, 0⟩ 256).2 [] []).1 (ofF (rCount ⟨s, 0⟩ 256).1.toNat (rCount ⟨s, 0⟩ 256).2 [] []).2.1 (ofF (rCount ⟨s, 0⟩ 256).1.toNat (rCount ⟨s, 0⟩ 256).2 [] []).2.2 from rfl)
  have hcok := rCount_ok ⟨s, 0⟩ 256 (.inl rfl)
  obtain ⟨z, hz1, hz2, hz3⟩ := rCount_le ⟨s, 0⟩ (.inl rfl) 256
  rw [show ((256 : Nat) : Int) = 256 from rfl] at hz1 hz3
  rw [hz1] at CN HOF
  rw [Int.toNat_natCast] at HOF
  generalize (rCount ⟨s, 0⟩ 256).2 = r0 at *
  generalize ofS s = res at *
  have HZ := Lib.hid hz3
  have HR0 := Lib.hid hcok
  generalize hfin : ofF z r0 [] [] = fin at *
  have HFI := Lib.hid hfin
  clear hz1 hz3 RD0 hb0 hcok hfin
  obtain ⟨q, hq⟩ : ∃ q, q = w.heap.size := ⟨_, rfl⟩
  rw [← hq] at CN LA0
  have HQ := Lib.hid (show w.heap.size ≤ q by omega)
  go_enter Tryz.func60, Tryz.ntmps60
  go_wp2_with fail
  rw [← hq]
  clear hq
  refine CN.out.mono ?_
  rintro e w1 ⟨rfl, hr1, hk1⟩
  have LA1 := Lib.hid (LA0.out.rdoes hr1 hk1 HQ.out)
  clear hr1 hk1 LA0 CN
  go_wp2_with fail
  go_loopw [6, 7, 8] (fun v6 v7 v8 wr => ∃ (i : Nat) (r : RS) (last : Txt) (out : List ItemD), i ≤ z ∧ v8 = .int .i64 i ∧ v7 = .string ⟨last.toArray⟩ ∧ OfAt w wr q s v6 r out ∧ Hid (ofF (z - i) r last out = fin) ∧ r.ok ∧ (r.e ≠ 0 → z = 0) ∧ last.length ≤ 400 ∧ out.length = i ∧ Hid (∀ x ∈ out, ItemOk x)) (fun _ _ v8 _ => z - (intOf v8).toNat)
  case atStart => exact ⟨0, r0, [], [], by omega, rfl, rfl, LA1.out, HFI, HR0.out, HZ.out, by simp, rfl, Lib.hid (by simp)⟩
  case round =>
    clear LA1 HFI HR0 HZ
    obtain ⟨i, r, last, out, hi, rfl, rfl, hla, HF, hok, hre, hll, hol, HIO⟩ := hrel
    subst hol
    have LA := Lib.hid hla
    clear hla
    obtain ⟨va, vm, vc, hv⟩ := own_slice LA.out.own
    subst hv
    have hvm : vm = out.length := own_lenV LA.out.own
    subst hvm
    have i0 : (0 : Int) ≤ (out.length : Int) := by omega
    by_cases hlt : out.length < z
    · have j1 : (out.length : Int) < (z : Int) := by omega
      have he0 : r.e = 0 := by
        by_cases h : r.e = 0
        · exact h
        · have := hre h; omega
      have e2 := LA.out.rd.err
      rw [he0] at e2
      obtain ⟨j, hj⟩ : ∃ j, z - out.length = j + 1 := ⟨z - out.length - 1, by omega⟩
      have HJ := Lib.hid hj
      rw [hj] at HF
      have HST := Lib.hid (show ofF (j + 1) r last out = (if (oneR r).r.e ≠ 0 then ([], (oneR r).r.e, (oneR r).r) else
    if shareBad last (oneR r).n (oneR r).rest then ([], 5, (oneR r).r) else
    ofF j (oneR r).r (last.take (oneR r).n.toNat ++ (oneR r).rest) (out ++ [⟨last.take (oneR r).n.toNat ++ (oneR r).rest, (oneR r).mode, (oneR r).size, (oneR r).mark⟩])) from rfl)
      have HON := Lib.hid (show oneR r = ⟨(rCount r 200).1, (rText (rCount r 200).2 200).1, (rNum (rText (rCount r 200).2 200).2).1, (rNum (rNum (rText (rCount r 200).2 200).2).2).1, (rRaw (rNum (rNum (rText (rCount r 200).2 200).2).2).2 32).1, (rRaw (rNum (rNum (rText (rCount r 200).2 200).2).2).2 32).2⟩ from rfl)
      have K1 := Lib.hid (fun w' (h : RefRd w' q s r) => refCountR_any w' q s r 200 h (by omega) (by decide))
      have o1 := rCount_ok r 200 hok
      obtain ⟨n, hn1, hn2, _⟩ := rCount_le r hok 200
      rw [show ((200 : Nat) : Int) = 200 from rfl] at hn1
      rw [hn1] at K1 HON
      generalize (rCount r 200).2 = r1 at *
      have K2 := Lib.hid (fun w' (h : RefRd w' q s r1) => refTextR_any w' q s r1 200 h (by omega) (by decide) (by decide))
      have o2 := rText_ok r1 200 o1
      have htl := rText_len_le r1 o1 200
      rw [show ((200 : Nat) : Int) = 200 from rfl] at htl
      generalize (rText r1 200).1 = t at *
      generalize (rText r1 200).2 = r2 at *
      have K3 := Lib.hid (fun w' (h : RefRd w' q s r2) => refNumR_any w' q s r2 h (by omega))
      have o3 := rNum_ok r2 o2
      obtain ⟨m, hm1, hm2⟩ := rNum_natT r2 o2
      rw [hm1] at K3 HON
      generalize (rNum r2).2 = r3 at *
      have K4 := Lib.hid (fun w' (h : RefRd w' q s r3) => refNumR_any w' q s r3 h (by omega))
      have o4 := rNum_ok r3 o3
      obtain ⟨sz, hz1, hz2'⟩ := rNum_natT r3 o3
      rw [hz1] at K4 HON
      generalize (rNum r3).2 = r4 at *
      have K5 := Lib.hid (fun w' (h : RefRd w' q s r4) => refRaw_any w' q s r4 32 32 rfl (by decide) h (by omega))
      have o5 := rRaw_ok r4 32 o4
      have hml := raw32 r4
      generalize (rRaw r4 32).1 = mk at *
      generalize (rRaw r4 32).2 = r5 at *
      rw [HON.out] at HST
      have HO5 := Lib.hid o5
      clear hn1 hm1 hz1 o1 o2 o3 o4 o5 HON hok hre hj
      go_wp2_with fail
      refine (K1.out _ LA.out.rd).mono ?_
      rintro e w2 ⟨rfl, hr2, hk2⟩
      have L2 := Lib.hid (LA.out.rdoes hr2 hk2 HQ.out)
      clear hr2 hk2 e2 K1 LA
      go_wp2_with fail
      refine (K2.out _ L2.out.rd).mono ?_
      rintro e w3 ⟨rfl, hr2, hk2⟩
      have L3 := Lib.hid (L2.out.rdoes hr2 hk2 HQ.out)
      clear hr2 hk2 K2 L2
      go_wp2_with fail
      have HGN := Lib.hid (heap_alloc_new w3 (itO [] 0 0 []))
      have HLT := Lib.hid (fun g' (e : (Value.slice va out.length vc).ownBlock = some g') => (L3.out.own.lt e).2.1)
      have L3a := Lib.hid (L3.out.new ((Below.refl w3.heap.size w3).alloc (Nat.le_refl _) (itO [] 0 0 [])) HQ.out)
      obtain ⟨g, hg⟩ : ∃ g, g = w3.heap.size := ⟨_, rfl⟩
      have hqg : q < g := by have := L3.out.sz; omega
      rw [← hg] at HGN HLT
      refine (K3.out _ L3a.out.rd).mono ?_
      rintro e w4 ⟨rfl, hr2, hk2⟩
      have L4 := Lib.hid (L3a.out.rdoes hr2 hk2 HQ.out)
      have hg4 := hk2.old HGN.out (by omega)
      have HS4 := Lib.hid (it_set hg4)
      obtain ⟨_, c1, _, _, _, f1, _, _⟩ := it_c hg4
      have L5 := Lib.hid (L4.out.item HLT.out hqg HQ.out (kept_at w4 g 1 (.int .i64 m)))
      have hg5 := HS4.out.2.1 (m : Int)
      have HG5 := Lib.hid hg5
      rw [← hg]
      clear hr2 hk2 K3 L3a L3 HGN hg4 hg5 L4 HS4 hg
      go_wp2_with fail
      generalize w4.setCell ⟨g, 1, none⟩ (.int .i64 m) = w5 at *
      clear c1 f1
      refine (K4.out _ L5.out.rd).mono ?_
      rintro e w6 ⟨rfl, hr2, hk2⟩
      have L6 := Lib.hid (L5.out.rdoes hr2 hk2 HQ.out)
      have hg6 := hk2.old HG5.out (by omega)
      obtain ⟨_, _, c1, _, _, _, f1, _⟩ := it_c hg6
      have L7 := Lib.hid (L6.out.item HLT.out hqg HQ.out (kept_at w6 g 2 (.int .i64 sz)))
      have HG7 := Lib.hid ((it_set hg6).2.2.1 (sz : Int))
      clear hr2 hk2 K4 L5 HG5 hg6 L6
      go_wp2_with fail
      generalize w6.setCell ⟨g, 2, none⟩ (.int .i64 sz) = w7 at *
      clear c1 f1
      refine (K5.out _ L7.out.rd).mono ?_
      rintro e w8 ⟨rfl, hr2, hk2⟩
      have L8 := Lib.hid (L7.out.rdoes hr2 hk2 HQ.out)
      have hg8 := hk2.old HG7.out (by omega)
      obtain ⟨_, _, _, c1, _, _, _, f1⟩ := it_c hg8
      have L9 := Lib.hid (L8.out.item HLT.out hqg HQ.out (kept_at w8 g 3 (.string ⟨mk.toArray⟩)))
      have HG9 := Lib.hid ((it_set hg8).2.2.2 mk)
      have e5 := L9.out.rd.err
      clear hr2 hk2 K5 L7 HG7 hg8 L8
      by_cases he5 : r5.e = 0
      · have q5 : (r5.e != 0) = false := by simp [he5]
        rw [he5] at e5
        have EX := Lib.hid (show (⟨last.toArray⟩ : ByteArray).extract 0 n = ⟨(last.take n).toArray⟩ from by rw [slice_toArray]; simp)
        by_cases hb1 : last.length < n
        · have k1 : (last.length : Int) < (n : Int) := by omega
          have HE := Lib.hid (show fin = ([], 5, r5) by rw [← HF.out, HST.out]; (try dsimp only); rw [if_neg (fun h => h he5), if_pos (show shareBad last (n : Int) t from .inl k1)])
          have HRE := Lib.hid (show res = ([], 5) by rw [HOF.out, HE.out]; unfold ofEnd; (try dsimp only); rw [if_pos (by decide)])
          go_wp2_with fail
          go_ret2
          exact ⟨_, by rw [HRE.out]; rfl, by rw [HRE.out]; exact RowN.nil _ _ _ _, L9.out.bel⟩
        · have k1 : ¬ (last.length : Int) < (n : Int) := by omega
          have k2 : (n : Int) ≤ (last.length : Int) := by omega
          have htk : (last.take n).length = n := by rw [List.length_take]; omega
          have k3 : ¬ 9223372036854775807 < (last.take n).length + t.length := by omega
          have SH := Lib.hid (fun w' => refShared_any last (last.take n ++ t) w' (by omega) (by rw [List.length_append]; omega))
          have hpl : (last.take n ++ t).length ≤ 400 := by rw [List.length_append]; omega
          generalize hsh : sharedS last (last.take n ++ t) = sh at *
          have HSH := Lib.hid hsh
          clear hsh
          have EX1 := EX.out
          have EXA : ((⟨(last.take n).toArray⟩ : ByteArray) ++ ⟨t.toArray⟩) = ⟨(last.take n ++ t).toArray⟩ := by simp [ByteArray.ext_iff]
          have HST2 := Lib.hid (show fin = if shareBad last (n : Int) t then ([], 5, r5) else ofF j r5 (last.take n ++ t) (out ++ [⟨last.take n ++ t, m, sz, mk⟩]) by rw [← HF.out, HST.out]; (try dsimp only); rw [if_neg (fun h => h he5)]; rfl)
          have HSB := Lib.hid (show shareBad last (n : Int) t ↔ ((last.length : Int) < (n : Int) ∨ (sharedS last (last.take n ++ t) : Int) ≠ (n : Int)) from Iff.rfl)
          rw [HSH.out] at HSB
          clear HSH HST HF
          generalize last.take n ++ t = p at *
          by_cases hsn : sh = n
          · have k4 : ((sh : Int) != (n : Int)) = false := by simp [hsn]
            have HN := Lib.hid (show fin = ofF j r5 p (out ++ [⟨p, m, sz, mk⟩]) by rw [HST2.out, if_neg (by rw [HSB.out]; intro h; rcases h with h | h; exact k1 h; exact h (by rw [hsn]))])
            clear hsn HST2 HSB
            go_wp2_with fail
            refine (SH.out _).mono ?_
            rintro e w10 ⟨rfl, hb10⟩
            have L10 := Lib.hid (L9.out.new hb10 HQ.out)
            have hg10 := (hb10.block g (Array.getElem?_eq_some_iff.1 HG9.out).1).trans HG9.out
            have L11 := Lib.hid (L10.out.item HLT.out hqg HQ.out (kept_at w10 g 0 (.string ⟨p.toArray⟩)))
            have hg11 := (it_set hg10).1 p
            have HG11 := Lib.hid hg11
            have HSZ := Lib.hid (show (w10.setCell ⟨g, 0, none⟩ (.string ⟨p.toArray⟩)).heap.size = w10.heap.size by simp)
            obtain ⟨c0, _, _, _, f0, _, _, _⟩ := it_c hg10
            obtain ⟨d0, d1, d2, d3, _, _, _, _⟩ := it_c hg11
            clear hb10 L9 L10 hg10 hg11 HG9 SH
            go_wp2_with (at_builtin; refine append_new (enc := encI) (k := 4) (w := w10.setCell ⟨g, 0, none⟩ (.string ⟨p.toArray⟩)) (by rfl) (.tmp 74) (.tmp 76) 74 78 (.agg #[.string ByteArray.empty, .int .i64 0, .int .i64 0, .string ByteArray.empty]) 48 (by rfl) Tryz.underlying74 info_item (by rfl) (by decide) encI_ok (q + 1) _ out ⟨p, m, sz, mk⟩ (by rfl) L11.out.own (by rw [HSZ.out]; rfl) (by omega) (by unfold maxLen; omega) L11.out.sz _ (by rfl) ?_; intro v7 w12 hown7 ht7; have hg12 := ht7.kept.old HG11.out (fun e => by have := HLT.out g e; omega); have c9 := (it_c hg12).1; have L12 := Lib.hid (show OfAt w w12 q s v7 r5 (out ++ [⟨p, m, sz, mk⟩]) from ⟨hown7, L11.out.rd.kept ht7.kept (fun e => by have := (L11.out.own.lt e).1; omega), L11.out.bel.trans (ht7.bel.mono (by have := HQ.out; omega)), Nat.le_trans L11.out.sz ht7.kept.size⟩); obtain ⟨va7, vm7, vc7, rfl⟩ := own_slice hown7; clear hown7 ht7 hg12)
            go_roundw
            case rel => exact ⟨out.length + 1, r5, p, out ++ [⟨p, m, sz, mk⟩], by omega, by go_num, rfl, L12.out, Lib.hid (by rw [show z - (out.length + 1) = j by have := HJ.out; omega]; exact HN.out.symm), HO5.out, fun h => absurd he5 h, hpl, by simp, Lib.hid (fun x hx => by
              rw [List.mem_append, List.mem_singleton] at hx
              rcases hx with hx | rfl
              · exact HIO.out x hx
              · exact ⟨by dsimp only; omega, by dsimp only; omega, by dsimp only; omega, by dsimp only; omega⟩)⟩
            case measure => simp [intOf]; have := HJ.out; omega
          · have k4 : ((sh : Int) != (n : Int)) = true := by simp; omega
            have HRE := Lib.hid (show res = ([], 5) by rw [HOF.out, HST2.out, if_pos (by rw [HSB.out]; exact .inr (by omega))]; unfold ofEnd; (try dsimp only); rw [if_pos (by decide)])
            go_wp2_with fail
            refine (SH.out _).mono ?_
            rintro e w10 ⟨rfl, hb10⟩
            have L10 := Lib.hid (L9.out.new hb10 HQ.out)
            clear hb10
            go_wp2_with fail
            go_ret2
            exact ⟨_, by rw [HRE.out]; rfl, by rw [HRE.out]; exact RowN.nil _ _ _ _, L10.out.bel⟩
      · have q5 : (r5.e != 0) = true := by simp [he5]
        have HE := Lib.hid (show fin = ([], r5.e, r5) by rw [← HF.out, HST.out]; (try dsimp only); rw [if_pos he5])
        have HRE := Lib.hid (show res = ([], r5.e) by rw [HOF.out, HE.out]; unfold ofEnd; (try dsimp only); rw [if_pos he5])
        go_wp2_with fail
        go_quiet (fail)
        have HBQ := Lib.hid (Below_drewN L9.out.bel nq)
        go_wp2_with fail
        go_ret2
        exact ⟨_, by rw [HRE.out]; rfl, by rw [HRE.out]; exact RowN.nil _ _ _ _, HBQ.out⟩
    · have j1 : ¬ (out.length : Int) < (z : Int) := by omega
      have HE := Lib.hid (show fin = (out, 0, r) by rw [← HF.out, show z - out.length = 0 by omega]; rfl)
      clear HF
      have EN := Lib.hid (refEnd_any wr q s r LA.out.rd (by omega))
      have HRE := Lib.hid (show res = if (rEnd r).e ≠ 0 then ([], (rEnd r).e) else if rightS out ≠ 0 then ([], rightS out) else (out, 0) by rw [HOF.out, HE.out]; unfold ofEnd; (try dsimp only); rw [if_neg (by simp)])
      have RT0 := Lib.hid (fun w' (h : RowN encI 4 (fun _ => True) w' (.slice va out.length vc) out) => refRight9_any _ out w' h HIO.out (by omega))
      have HOLN : out.length ≤ 256 := by omega
      generalize (rEnd r).e = ee at *
      generalize rightS out = rs at *
      go_wp2_with fail
      refine EN.out.mono ?_
      rintro e w2 ⟨rfl, hr2, hk2⟩
      have L2 := Lib.hid (LA.out.rdoes hr2 hk2 HQ.out)
      clear hr2 hk2 EN LA
      by_cases hen : ee = 0
      · have m1 : (ee != 0) = false := by simp [hen]
        rw [if_neg (fun h => h hen)] at HRE
        have RT := Lib.hid (RT0.out w2 ((OwnN.row encI_ok L2.out.own).mono (fun _ _ => trivial)))
        clear hen RT0
        go_wp2_with fail
        refine RT.out.mono ?_
        rintro e w3 ⟨rfl, hb3⟩
        have L3 := Lib.hid (L2.out.new hb3 HQ.out)
        clear hb3 RT L2
        by_cases hrs : rs = 0
        · have m2 : (rs != 0) = false := by simp [hrs]
          rw [if_neg (fun h => h hrs)] at HRE
          clear hrs
          go_wp2_with fail
          go_ret2
          exact ⟨_, by rw [HRE.out]; rfl, by rw [HRE.out]; exact (OwnN.row encI_ok L3.out.own).mono (fun _ _ => trivial), L3.out.bel⟩
        · have m2 : (rs != 0) = true := by simp [hrs]
          rw [if_pos hrs] at HRE
          go_wp2_with fail
          go_ret2
          exact ⟨_, by rw [HRE.out]; rfl, by rw [HRE.out]; exact RowN.nil _ _ _ _, L3.out.bel⟩
      · have m1 : (ee != 0) = true := by simp [hen]
        rw [if_pos hen] at HRE
        go_wp2_with fail
        go_ret2
        exact ⟨_, by rw [HRE.out]; rfl, by rw [HRE.out]; exact RowN.nil _ _ _ _, L2.out.bel⟩
end Go.Proofs.YtamiacmnobklaaaGreatDoor

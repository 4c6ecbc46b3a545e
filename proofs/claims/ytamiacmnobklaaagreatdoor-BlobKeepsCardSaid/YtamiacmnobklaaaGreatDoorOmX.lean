/- Several texts in one: OfTMath, TBackMath. -/
import Derived.Test.YtamiacmnobklaaaGreatDoorFrame
import Derived.Test.YtamiacmnobklaaaGreatDoorGen
import Derived.Test.YtamiacmnobklaaaGreatDoorMarkMath
import Derived.Test.YtamiacmnobklaaaGreatDoorOwnL
import Derived.Test.YtamiacmnobklaaaGreatDoorPtX
import Derived.Test.YtamiacmnobklaaaGreatDoorCdX
import Derived.Test.YtamiacmnobklaaaGreatDoorRefNumW
import Derived.Test.YtamiacmnobklaaaGreatDoorRefReadW
import Derived.Test.YtamiacmnobklaaaGreatDoorRowN
import Derived.Test.YtamiacmnobklaaaGreatDoorRows
import Derived.Test.YtamiacmnobklaaaGreatDoorTreeMath
import Derived.BigQuiet
import Derived.Deep.QuietTactic
import Derived.Lib.Hide
import Derived.WalkKit
import Derived.WalkLawsBesides
import Derived.WalkSpells
import Derived.Test.YtamiacmnobklaaaGreatDoorArX
import Derived.Test.YtamiacmnobklaaaGreatDoorRefMbW
import Derived.Test.YtamiacmnobklaaaGreatDoorAwX
import Derived.Deep.Cut
import Derived.Deep.CutBlock
import Derived.Deep.CutRange
import Derived.Deep.DeepCutAuto
import Derived.Deep.Draws
import Derived.Deep.Slices
import Derived.Deep.Strs
import Derived.Laws.Bits128
import Derived.Laws.IdiomStrings
import Derived.Lib.AppendStr
import Derived.Lib.SmallJoins
/- Reading a manifest: the mathematics, and the text of the document's reader. -/
set_option linter.unusedVariables false
namespace Go.Proofs.YtamiacmnobklaaaGreatDoor
open Go.RowKit

/-- What of one item is read: how much is shared, the rest, mode, size, mark; and the reader behind it. -/
structure OneR where
  n : Int
  rest : Txt
  mode : Int
  size : Int
  mark : Txt
  r : RS
def oneR (r : RS) : OneR :=
  let c := rCount r 200
  let t := rText c.2 200
  let m := rNum t.2
  let z := rNum m.2
  let k := rRaw z.2 32
  ⟨c.1, t.1, m.1, z.1, k.1, k.2⟩
/-- May an item share so much with the path ahead? -/
def shareBad (last : Txt) (n : Int) (rest : Txt) : Prop := (last.length : Int) < n ∨ (sharedS last (last.take n.toNat ++ rest) : Int) ≠ n
instance (last : Txt) (n : Int) (rest : Txt) : Decidable (shareBad last n rest) := by unfold shareBad; infer_instance
def ofF : Nat → RS → Txt → List ItemD → List ItemD × Int × RS
  | 0, r, _, out => (out, 0, r)
  | k + 1, r, last, out =>
    let x := oneR r
    if x.r.e ≠ 0 then ([], x.r.e, x.r) else
    if shareBad last x.n x.rest then ([], 5, x.r) else
    ofF k x.r (last.take x.n.toNat ++ x.rest) (out ++ [⟨last.take x.n.toNat ++ x.rest, x.mode, x.size, x.mark⟩])
def ofEnd (l : List ItemD) (e : Int) (r : RS) : List ItemD × Int :=
  if e ≠ 0 then ([], e) else if (rEnd r).e ≠ 0 then ([], (rEnd r).e) else if rightS l ≠ 0 then ([], rightS l) else (l, 0)
def ofS (s : Txt) : List ItemD × Int :=
  ofEnd (ofF (rCount ⟨s, 0⟩ 256).1.toNat (rCount ⟨s, 0⟩ 256).2 [] []).1 (ofF (rCount ⟨s, 0⟩ 256).1.toNat (rCount ⟨s, 0⟩ 256).2 [] []).2.1 (ofF (rCount ⟨s, 0⟩ 256).1.toNat (rCount ⟨s, 0⟩ 256).2 [] []).2.2
set_option maxRecDepth 100000 in
theorem refTextR_any (w : World) (q : Nat) (S : List UInt8) (s : RS) (most : Int) (h : RefRd w q S s) (hS : S.length ≤ 1000000) (hm0 : 0 ≤ most) (hm : most ≤ 4000000) :
    Calls Tryz.prog 87 #[ptr q, .int .i64 most] w (RDoes w q S (.string ⟨(rText s most).1.toArray⟩) (rText s most).2) := by
  have CN := Lib.hid (refCountR_any w q S s most h hS hm0)
  have hok : s.ok := by obtain ⟨_, _, _, _, hok⟩ := h; exact hok
  obtain ⟨z, hz1, _, hz3⟩ := rCount_nat s most hok
  have hz2 : z ≤ 4000000 := by
    rcases rCount_cases s most hok with ⟨h1, _⟩ | ⟨_, h2, h3⟩
    · omega
    · rw [h2] at hz1; omega
  have HT := Lib.hid (show rText s most = rRaw (rCount s most).2 (rCount s most).1 from rfl)
  rw [HT.out]
  rw [hz1] at CN
  rw [hz1]
  clear hz1 hz3
  generalize (rCount s most).2 = r at *
  clear HT
  go_enter Tryz.func87, Tryz.ntmps87
  go_wp2_with fail
  refine CN.out.mono ?_
  rintro e w1 ⟨rfl, hr1, hk1⟩
  have HK1 := Lib.hid hk1
  have RW := Lib.hid (refRaw_any w1 q S r z z rfl hz2 hr1 hS)
  clear hk1 CN
  go_wp2_with fail
  refine RW.out.mono ?_
  rintro e w2 ⟨rfl, hr2, hk2⟩
  have HK2 := Lib.hid (HK1.out.trans hk2)
  have HR2 := Lib.hid hr2
  clear hk2 RW hr2
  go_wp2_with fail
  go_ret
  exact ⟨rfl, HR2.out, HK2.out⟩
end Go.Proofs.YtamiacmnobklaaaGreatDoor
/- A manifest and its bytes are each other's, there and back: the mathematics. -/
set_option linter.unusedVariables false
namespace Go.Proofs.YtamiacmnobklaaaGreatDoor
open Go.RowKit

theorem rCount_nb (m : Nat) (t : Txt) (most : Int) (hm : m ≤ 4611686018427387903) (h : (m : Int) ≤ most) : rCount ⟨nb m ++ t, 0⟩ most = ((m : Int), (⟨t, 0⟩ : RS)) := by
  unfold rCount; rw [rNum_nb _ _ hm, if_neg (by simpa using h), if_neg (by simp)]
theorem rCount_split (s : RS) (most : Int) (h : s.ok) (he : (rCount s most).2.e = 0) : ∃ q : Nat, (rCount s most).1 = (q : Int) ∧ (q : Int) ≤ most ∧ s.l = nb q ++ (rCount s most).2.l := by
  rcases rCount_cases s most h with ⟨_, g2⟩ | ⟨_, g2, g3⟩
  · exact absurd he g2
  · obtain ⟨q, hq, hv, hsl⟩ := rNum_split s h (by rw [← g2]; exact he)
    exact ⟨q, by rw [g2, hv], by rw [← hv]; exact g3, by rw [g2]; exact hsl⟩
theorem rCount_e0 (s : RS) (most : Int) (h : s.ok) (he : (rCount s most).2.e = 0) : s.e = 0 := by
  rcases rCount_cases s most h with ⟨_, g2⟩ | ⟨_, g2, g3⟩
  · exact absurd he g2
  · exact rNum_e s h (by rw [← g2]; exact he)
theorem rText_split (s : RS) (most : Int) (h : s.ok) (he : (rText s most).2.e = 0) : s.l = tb (rText s most).1 ++ (rText s most).2.l ∧ s.e = 0 := by
  unfold rText at he ⊢
  obtain ⟨h0, h1, h2, h3⟩ := rRaw_e _ _ he
  obtain ⟨q, hq, hm, hsl⟩ := rCount_split s most h h0
  refine ⟨?_, rCount_e0 s most h h0⟩
  rw [h3, hq]
  simp only [Int.toNat_natCast]
  have hlen : ((rCount s most).2.l.take q).length = q := by rw [List.length_take]; omega
  unfold tb
  rw [hlen, List.append_assoc, List.take_append_drop]
  exact hsl
theorem shared_take : ∀ a b : Txt, a.take (sharedS a b) = b.take (sharedS a b)
  | [], b => by simp [sharedS]
  | a :: s, [] => by simp [sharedS]
  | a :: s, b :: t => by
    unfold sharedS
    split
    · rename_i h; subst h; rw [List.take_succ_cons, List.take_succ_cons, shared_take s t]
    · simp
structure ItGood (x : ItemD) : Prop where
  p : x.path.length ≤ 200
  m : 0 ≤ x.mode ∧ x.mode ≤ 511
  s : 0 ≤ x.size ∧ x.size ≤ 65536
  k : x.mark.length = 32
theorem firstE_mem {α : Type} {E : α → Int} : ∀ l : List α, firstE E l = 0 → ∀ x ∈ l, E x = 0
  | [], _, x, h => by simp at h
  | y :: r, h, x, hx => by
    unfold firstE at h
    by_cases h1 : E y = 0
    · rw [if_neg (fun k => k h1)] at h
      rcases List.mem_cons.1 hx with rfl | hx
      · exact h1
      · exact firstE_mem r h x hx
    · rw [if_pos h1] at h; exact absurd h h1
theorem right_good {l : List ItemD} (h : rightS l = 0) : l.length ≤ 256 ∧ ∀ x ∈ l, ItGood x := by
  unfold rightS at h
  by_cases h1 : togS (l.map (·.path)) = 0
  · rw [if_neg (fun k => k h1)] at h
    unfold togS at h1
    by_cases h2 : 256 < (l.map (·.path)).length
    · rw [if_pos h2] at h1; cases h1
    · rw [if_neg h2] at h1
      rw [List.length_map] at h2
      refine ⟨by omega, fun x hx => ?_⟩
      have hp := path_len (togF_paths _ _ h1 x.path (List.mem_map.2 ⟨x, hx, rfl⟩))
      have hi := firstE_mem l h x hx
      unfold itemE at hi
      split at hi
      · cases hi
      · split at hi
        · cases hi
        · split at hi
          · cases hi
          · rename_i a b c
            exact ⟨hp, by omega, by omega, by omega⟩
  · rw [if_pos h1] at h; exact absurd h h1
theorem oneR_fore (k : Nat) (d : Txt) (m z : Int) (mk t : Txt) (hk : k ≤ 200) (hd : d.length ≤ 200) (hm : 0 ≤ m ∧ m ≤ 511) (hz : 0 ≤ z ∧ z ≤ 65536) (hmk : mk.length = 32) :
    oneR ⟨nb k ++ tb d ++ nb m.toNat ++ nb z.toNat ++ mk ++ t, 0⟩ = ⟨(k : Int), d, m, z, mk, ⟨t, 0⟩⟩ := by
  have e1 : nb k ++ tb d ++ nb m.toNat ++ nb z.toNat ++ mk ++ t = nb k ++ (tb d ++ (nb m.toNat ++ (nb z.toNat ++ (mk ++ t)))) := by simp only [List.append_assoc]
  have r1 := rCount_nb k (tb d ++ (nb m.toNat ++ (nb z.toNat ++ (mk ++ t)))) 200 (by omega) (by omega)
  have r2 := rText_tb d (nb m.toNat ++ (nb z.toNat ++ (mk ++ t))) (by omega) 200 (by omega)
  have r3 := rNum_nb m.toNat (nb z.toNat ++ (mk ++ t)) (by omega)
  have r4 := rNum_nb z.toNat (mk ++ t) (by omega)
  have r5 := rRaw_all ⟨mk ++ t, 0⟩ 32 rfl (by simp; omega)
  have em : (m.toNat : Int) = m := by omega
  have ez : (z.toNat : Int) = z := by omega
  rw [e1]
  unfold oneR
  rw [r1]
  dsimp only
  rw [r2]
  dsimp only
  rw [r3]
  dsimp only
  rw [r4]
  dsimp only
  rw [show ((32 : Int)) = ((32 : Nat) : Int) from rfl, r5, em, ez]
  dsimp only
  rw [← hmk, List.take_left', List.drop_left'] <;> rfl
theorem ofF_fore : ∀ (l : List ItemD) (last : Txt) (out : List ItemD) (t : Txt), (∀ x ∈ l, ItGood x) → ofF l.length ⟨mbE last l ++ t, 0⟩ last out = (out ++ l, 0, ⟨t, 0⟩)
  | [], last, out, t, _ => by simp [ofF, mbE]
  | x :: r, last, out, t, h => by
    have hx := h x (by simp)
    have hs := sharedS_le last x.path
    have hp := hx.p
    have e1 : mbE last (x :: r) ++ t = nb (sharedS last x.path) ++ tb (x.path.drop (sharedS last x.path)) ++ nb x.mode.toNat ++ nb x.size.toNat ++ x.mark ++ (mbE x.path r ++ t) := by
      show _ ++ mbE x.path r ++ t = _
      rw [List.append_assoc]
    have e2 := oneR_fore (sharedS last x.path) (x.path.drop (sharedS last x.path)) x.mode x.size x.mark (mbE x.path r ++ t) (by omega) (by rw [List.length_drop]; omega) hx.m hx.s hx.k
    have e3 : last.take (sharedS last x.path) ++ x.path.drop (sharedS last x.path) = x.path := by rw [shared_take, List.take_append_drop]
    have hg : ¬ shareBad last (sharedS last x.path) (x.path.drop (sharedS last x.path)) := by
      unfold shareBad
      rw [Int.toNat_natCast, e3]
      intro k
      rcases k with k | k
      · omega
      · exact k rfl
    rw [e1, List.length_cons]
    unfold ofF
    dsimp only
    rw [e2]
    dsimp only
    rw [if_neg (by simp), if_neg hg, Int.toNat_natCast, e3, ofF_fore r x.path _ t (fun y hy => h y (by simp [hy]))]
    simp
theorem ofS_fore {l : List ItemD} (h : rightS l = 0) : ofS (mbytesS l).1 = (l, 0) := by
  obtain ⟨hl, hg⟩ := right_good h
  have e0 : (mbytesS l).1 = nb l.length ++ mbE [] l := by unfold mbytesS; rw [if_neg (fun k => k h)]
  have e1 := ofF_fore l [] [] [] hg
  rw [List.append_nil, List.nil_append] at e1
  rw [e0]
  unfold ofS
  rw [rCount_nb l.length _ 256 (by omega) (by omega)]
  dsimp only
  rw [Int.toNat_natCast, e1]
  dsimp only
  unfold ofEnd
  rw [if_neg (by simp), show rEnd ⟨[], 0⟩ = ⟨[], 0⟩ from rfl, if_neg (by simp), if_neg (fun k => k h)]
theorem oneR_back (r : RS) (h : r.ok) (he : (oneR r).r.e = 0) :
    ∃ (k m z : Nat) (d mk t : Txt), oneR r = ⟨(k : Int), d, (m : Int), (z : Int), mk, ⟨t, 0⟩⟩ ∧ r.l = nb k ++ tb d ++ nb m ++ nb z ++ mk ++ t ∧ r.e = 0 := by
  unfold oneR at he ⊢
  dsimp only at he ⊢
  have h1 := rCount_ok r 200 h
  have S1 := rCount_split r 200 h
  have E1 := rCount_e0 r 200 h
  generalize rCount r 200 = c at *
  have h2 := rText_ok c.2 200 h1
  have S2 := rText_split c.2 200 h1
  generalize rText c.2 200 = t at *
  have h3 := rNum_ok t.2 h2
  have S3 := rNum_split t.2 h2
  have E3 := rNum_e t.2 h2
  generalize rNum t.2 = m at *
  have S4 := rNum_split m.2 h3
  have E4 := rNum_e m.2 h3
  generalize rNum m.2 = z at *
  obtain ⟨z0, _, q5, q6⟩ := rRaw_e _ _ he
  obtain ⟨nz, _, hz, hzl⟩ := S4 z0
  obtain ⟨nm, _, hm, hml⟩ := S3 (E4 z0)
  obtain ⟨hd, c0⟩ := S2 (E3 (E4 z0))
  obtain ⟨k, hk, _, hkl⟩ := S1 c0
  refine ⟨k, nm, nz, t.1, z.2.l.take 32, z.2.l.drop 32, ?_, ?_, E1 c0⟩
  · rw [hk, hm, hz, q6]; rfl
  · rw [hkl, hd, hml, hzl, List.append_assoc (nb k ++ tb t.1 ++ nb nm ++ nb nz), List.take_append_drop]
    simp only [List.append_assoc]
theorem ofF_back : ∀ (n : Nat) (r : RS) (last : Txt) (out : List ItemD), r.ok → (ofF n r last out).2.1 = 0 →
    ∃ l, (ofF n r last out).1 = out ++ l ∧ l.length = n ∧ r.l = mbE last l ++ (ofF n r last out).2.2.l ∧ (ofF n r last out).2.2.e = r.e
  | 0, r, last, out, _, _ => ⟨[], by simp [ofF], rfl, by simp [ofF, mbE], rfl⟩
  | n + 1, r, last, out, hok, he => by
    unfold ofF at he ⊢
    dsimp only at he ⊢
    by_cases h1 : (oneR r).r.e = 0
    · rw [if_neg (fun k => k h1)] at he ⊢
      obtain ⟨k, m, z, d, mk, t, hr, hl, h0⟩ := oneR_back r hok h1
      rw [hr] at he ⊢
      dsimp only at he ⊢
      by_cases h2 : shareBad last (k : Int) d
      · rw [if_pos h2] at he; cases he
      · rw [if_neg h2] at he ⊢
        rw [Int.toNat_natCast] at he ⊢
        have h3 : k ≤ last.length ∧ sharedS last (last.take k ++ d) = k := by
          unfold shareBad at h2
          rw [Int.toNat_natCast] at h2
          constructor
          · by_cases g : (last.length : Int) < k
            · exact absurd (.inl g) h2
            · omega
          · by_cases g : (sharedS last (last.take k ++ d) : Int) = k
            · omega
            · exact absurd (.inr g) h2
        obtain ⟨l, e1, e2, e3, e4⟩ := ofF_back n ⟨t, 0⟩ (last.take k ++ d) (out ++ [⟨last.take k ++ d, m, z, mk⟩]) (.inl rfl) he
        refine ⟨⟨last.take k ++ d, m, z, mk⟩ :: l, by rw [e1]; simp, by rw [List.length_cons, e2], ?_, by rw [e4]; exact h0.symm⟩
        have e5 : (last.take k ++ d).drop k = d := List.drop_left' (by rw [List.length_take]; omega)
        show r.l = nb (sharedS last (last.take k ++ d)) ++ tb ((last.take k ++ d).drop (sharedS last (last.take k ++ d))) ++ nb ((m : Int)).toNat ++ nb ((z : Int)).toNat ++ mk ++ mbE (last.take k ++ d) l ++ _
        rw [h3.2, e5, Int.toNat_natCast, Int.toNat_natCast, List.append_assoc _ (mbE _ _), ← e3]
        exact hl
    · rw [if_pos h1] at he; exact absurd he h1
theorem ofS_back {s : Txt} (h : (ofS s).2 = 0) : mbytesS (ofS s).1 = (s, 0) := by
  have hok : (⟨s, 0⟩ : RS).ok := .inl rfl
  have hco := rCount_ok ⟨s, 0⟩ 256 hok
  have S1 := rCount_split ⟨s, 0⟩ 256 hok
  obtain ⟨c, hc, _⟩ := rCount_nat ⟨s, 0⟩ 256 hok
  unfold ofS at h ⊢
  rw [hc, Int.toNat_natCast] at h ⊢
  have FB := ofF_back c (rCount ⟨s, 0⟩ 256).2 [] [] hco
  generalize ofF c (rCount ⟨s, 0⟩ 256).2 [] [] = F at *
  obtain ⟨l0, e, r⟩ := F
  dsimp only at h FB ⊢
  unfold ofEnd at h ⊢
  by_cases h1 : e = 0
  · rw [if_neg (fun k => k h1)] at h ⊢
    by_cases h2 : (rEnd r).e = 0
    · rw [if_neg (fun k => k h2)] at h ⊢
      by_cases h3 : rightS l0 = 0
      · rw [if_neg (fun k => k h3)] at h ⊢
        obtain ⟨l, e1, e2, e3, e4⟩ := FB h1
        rw [List.nil_append] at e1
        subst e1
        have hr : r.l = [] ∧ r.e = 0 := by
          unfold rEnd at h2
          by_cases g : r.l = []
          · rw [if_neg (fun k => k g)] at h2; exact ⟨g, h2⟩
          · rw [if_pos g] at h2; exact absurd h2 (rFail_e _ _ (by decide))
        obtain ⟨q, hq, _, hs⟩ := S1 (by rw [← e4]; exact hr.2)
        have hqc : q = c := by rw [hc] at hq; omega
        subst hqc
        show mbytesS l0 = (s, 0)
        unfold mbytesS
        rw [if_neg (fun k => k h3), e2]
        have hs' : s = nb q ++ (rCount ⟨s, 0⟩ 256).2.l := hs
        rw [e3, hr.1, List.append_nil] at hs'
        rw [← hs']
      · rw [if_pos h3] at h; exact absurd h h3
    · rw [if_pos h2] at h; exact absurd h h2
  · rw [if_pos h1] at h; exact absurd h h1
theorem mbytes_e (l : List ItemD) : (mbytesS l).2 = rightS l := by
  unfold mbytesS
  by_cases h : rightS l = 0
  · rw [if_neg (fun k => k h), h]
  · rw [if_pos h]
end Go.Proofs.YtamiacmnobklaaaGreatDoor

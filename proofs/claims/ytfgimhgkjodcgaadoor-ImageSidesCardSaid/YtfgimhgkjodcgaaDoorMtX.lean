/- Several texts in one: TBackMath, ImgBackMath, Merge3Math. -/
import Derived.Test.YtfgimhgkjodcgaaDoorArgs3
import Derived.Test.YtfgimhgkjodcgaaDoorCodeMath
import Derived.Test.YtfgimhgkjodcgaaDoorFrame
import Derived.Test.YtfgimhgkjodcgaaDoorMarkMath
import Derived.Test.YtfgimhgkjodcgaaDoorOfX
import Derived.Test.YtfgimhgkjodcgaaDoorParts
import Derived.Test.YtfgimhgkjodcgaaDoorReadMath
import Derived.Test.YtfgimhgkjodcgaaDoorReadW
import Derived.Test.YtfgimhgkjodcgaaDoorCkX
import Derived.Test.YtfgimhgkjodcgaaDoorRoundTrip
import Derived.Test.YtfgimhgkjodcgaaDoorRowN
import Derived.Test.YtfgimhgkjodcgaaDoorRows
import Derived.Test.YtfgimhgkjodcgaaDoorText
import Derived.Test.YtfgimhgkjodcgaaDoorTreeMath
import Derived.BigQuiet
import Derived.Deep.Cut
import Derived.Deep.CutBlock
import Derived.Deep.CutRange
import Derived.Deep.DeepCutAuto
import Derived.Deep.Draws
import Derived.Deep.QuietTactic
import Derived.Deep.Slices
import Derived.Deep.Strs
import Derived.Laws.Bits128
import Derived.Laws.IdiomStrings
import Derived.Lib.AppendStr
import Derived.Lib.Hide
import Derived.Lib.SmallJoins
import Derived.WalkKit
import Derived.WalkLawsBesides
import Derived.WalkSpells
import Derived.Test.YtfgimhgkjodcgaaDoorImgMath
import Derived.Test.YtfgimhgkjodcgaaDoorPartsMath
import Derived.Test.YtfgimhgkjodcgaaDoorTrX
import Derived.BigRegion
import Derived.Laws.ResultCell
import Derived.Test.YtfgimhgkjodcgaaDoorGen
import Derived.Test.YtfgimhgkjodcgaaDoorOwnL
import Derived.Test.YtfgimhgkjodcgaaDoorPuX
/- A manifest and its bytes are each other's, there and back: the mathematics. -/
set_option linter.unusedVariables false
namespace Go.Proofs.YtfgimhgkjodcgaaDoor
open Go.RowKit

theorem rCount_nb (m : Nat) (t : Txt) (most : Int) (hm : m ≤ 4611686018427387903) (h : (m : Int) ≤ most) : rCount ⟨nb m ++ t, 0⟩ most = ((m : Int), (⟨t, 0⟩ : RS)) := by
  unfold rCount; rw [rNum_nb _ _ hm, if_neg (by simpa using h), if_neg (by simp)]
theorem rCount_split (s : RS) (most : Int) (h : s.ok) (he : (rCount s most).2.e = 0) : ∃ q : Nat, (rCount s most).1 = (q : Int) ∧ (q : Int) ≤ most ∧ s.l = nb q ++ (rCount s most).2.l := by
  rcases rCount_cases s most h with ⟨_, g2⟩ | ⟨_, g2, g3⟩
  · exact absurd he g2
  · obtain ⟨q, hq, hv, hsl⟩ := rNum_split s h (by rw [← g2]; exact he)
    exact ⟨q, by rw [g2, hv], by rw [← hv]; exact g3, by rw [g2]; exact hsl⟩
theorem rCount_e0 (s : RS) (most : Int) (h : s.ok) (he : (rCount s most).2.e = 0) : s.e = 0 := by
  rcases rCount_cases s most h with ⟨_, g2⟩ | ⟨_, g2, g3⟩
  · exact absurd he g2
  · exact rNum_e s h (by rw [← g2]; exact he)
theorem rText_split (s : RS) (most : Int) (h : s.ok) (he : (rText s most).2.e = 0) : s.l = tb (rText s most).1 ++ (rText s most).2.l ∧ s.e = 0 := by
  unfold rText at he ⊢
  obtain ⟨h0, h1, h2, h3⟩ := rRaw_e _ _ he
  obtain ⟨q, hq, hm, hsl⟩ := rCount_split s most h h0
  refine ⟨?_, rCount_e0 s most h h0⟩
  rw [h3, hq]
  simp only [Int.toNat_natCast]
  have hlen : ((rCount s most).2.l.take q).length = q := by rw [List.length_take]; omega
  unfold tb
  rw [hlen, List.append_assoc, List.take_append_drop]
  exact hsl
theorem shared_take : ∀ a b : Txt, a.take (sharedS a b) = b.take (sharedS a b)
  | [], b => by simp [sharedS]
  | a :: s, [] => by simp [sharedS]
  | a :: s, b :: t => by
    unfold sharedS
    split
    · rename_i h; subst h; rw [List.take_succ_cons, List.take_succ_cons, shared_take s t]
    · simp
structure ItGood (x : ItemD) : Prop where
  p : x.path.length ≤ 200
  m : 0 ≤ x.mode ∧ x.mode ≤ 511
  s : 0 ≤ x.size ∧ x.size ≤ 65536
  k : x.mark.length = 32
theorem firstE_mem {α : Type} {E : α → Int} : ∀ l : List α, firstE E l = 0 → ∀ x ∈ l, E x = 0
  | [], _, x, h => by simp at h
  | y :: r, h, x, hx => by
    unfold firstE at h
    by_cases h1 : E y = 0
    · rw [if_neg (fun k => k h1)] at h
      rcases List.mem_cons.1 hx with rfl | hx
      · exact h1
      · exact firstE_mem r h x hx
    · rw [if_pos h1] at h; exact absurd h h1
theorem right_good {l : List ItemD} (h : rightS l = 0) : l.length ≤ 256 ∧ ∀ x ∈ l, ItGood x := by
  unfold rightS at h
  by_cases h1 : togS (l.map (·.path)) = 0
  · rw [if_neg (fun k => k h1)] at h
    unfold togS at h1
    by_cases h2 : 256 < (l.map (·.path)).length
    · rw [if_pos h2] at h1; cases h1
    · rw [if_neg h2] at h1
      rw [List.length_map] at h2
      refine ⟨by omega, fun x hx => ?_⟩
      have hp := path_len (togF_paths _ _ h1 x.path (List.mem_map.2 ⟨x, hx, rfl⟩))
      have hi := firstE_mem l h x hx
      unfold itemE at hi
      split at hi
      · cases hi
      · split at hi
        · cases hi
        · split at hi
          · cases hi
          · rename_i a b c
            exact ⟨hp, by omega, by omega, by omega⟩
  · rw [if_pos h1] at h; exact absurd h h1
theorem oneR_fore (k : Nat) (d : Txt) (m z : Int) (mk t : Txt) (hk : k ≤ 200) (hd : d.length ≤ 200) (hm : 0 ≤ m ∧ m ≤ 511) (hz : 0 ≤ z ∧ z ≤ 65536) (hmk : mk.length = 32) :
    oneR ⟨nb k ++ tb d ++ nb m.toNat ++ nb z.toNat ++ mk ++ t, 0⟩ = ⟨(k : Int), d, m, z, mk, ⟨t, 0⟩⟩ := by
  have e1 : nb k ++ tb d ++ nb m.toNat ++ nb z.toNat ++ mk ++ t = nb k ++ (tb d ++ (nb m.toNat ++ (nb z.toNat ++ (mk ++ t)))) := by simp only [List.append_assoc]
  have r1 := rCount_nb k (tb d ++ (nb m.toNat ++ (nb z.toNat ++ (mk ++ t)))) 200 (by omega) (by omega)
  have r2 := rText_tb d (nb m.toNat ++ (nb z.toNat ++ (mk ++ t))) (by omega) 200 (by omega)
  have r3 := rNum_nb m.toNat (nb z.toNat ++ (mk ++ t)) (by omega)
  have r4 := rNum_nb z.toNat (mk ++ t) (by omega)
  have r5 := rRaw_all ⟨mk ++ t, 0⟩ 32 rfl (by simp; omega)
  have em : (m.toNat : Int) = m := by omega
  have ez : (z.toNat : Int) = z := by omega
  rw [e1]
  unfold oneR
  rw [r1]
  dsimp only
  rw [r2]
  dsimp only
  rw [r3]
  dsimp only
  rw [r4]
  dsimp only
  rw [show ((32 : Int)) = ((32 : Nat) : Int) from rfl, r5, em, ez]
  dsimp only
  rw [← hmk, List.take_left', List.drop_left'] <;> rfl
theorem ofF_fore : ∀ (l : List ItemD) (last : Txt) (out : List ItemD) (t : Txt), (∀ x ∈ l, ItGood x) → ofF l.length ⟨mbE last l ++ t, 0⟩ last out = (out ++ l, 0, ⟨t, 0⟩)
  | [], last, out, t, _ => by simp [ofF, mbE]
  | x :: r, last, out, t, h => by
    have hx := h x (by simp)
    have hs := sharedS_le last x.path
    have hp := hx.p
    have e1 : mbE last (x :: r) ++ t = nb (sharedS last x.path) ++ tb (x.path.drop (sharedS last x.path)) ++ nb x.mode.toNat ++ nb x.size.toNat ++ x.mark ++ (mbE x.path r ++ t) := by
      show _ ++ mbE x.path r ++ t = _
      rw [List.append_assoc]
    have e2 := oneR_fore (sharedS last x.path) (x.path.drop (sharedS last x.path)) x.mode x.size x.mark (mbE x.path r ++ t) (by omega) (by rw [List.length_drop]; omega) hx.m hx.s hx.k
    have e3 : last.take (sharedS last x.path) ++ x.path.drop (sharedS last x.path) = x.path := by rw [shared_take, List.take_append_drop]
    have hg : ¬ shareBad last (sharedS last x.path) (x.path.drop (sharedS last x.path)) := by
      unfold shareBad
      rw [Int.toNat_natCast, e3]
      intro k
      rcases k with k | k
      · omega
      · exact k rfl
    rw [e1, List.length_cons]
    unfold ofF
    dsimp only
    rw [e2]
    dsimp only
    rw [if_neg (by simp), if_neg hg, Int.toNat_natCast, e3, ofF_fore r x.path _ t (fun y hy => h y (by simp [hy]))]
    simp
theorem ofS_fore {l : List ItemD} (h : rightS l = 0) : ofS (mbytesS l).1 = (l, 0) := by
  obtain ⟨hl, hg⟩ := right_good h
  have e0 : (mbytesS l).1 = nb l.length ++ mbE [] l := by unfold mbytesS; rw [if_neg (fun k => k h)]
  have e1 := ofF_fore l [] [] [] hg
  rw [List.append_nil, List.nil_append] at e1
  rw [e0]
  unfold ofS
  rw [rCount_nb l.length _ 256 (by omega) (by omega)]
  dsimp only
  rw [Int.toNat_natCast, e1]
  dsimp only
  unfold ofEnd
  rw [if_neg (by simp), show rEnd ⟨[], 0⟩ = ⟨[], 0⟩ from rfl, if_neg (by simp), if_neg (fun k => k h)]
theorem oneR_back (r : RS) (h : r.ok) (he : (oneR r).r.e = 0) :
    ∃ (k m z : Nat) (d mk t : Txt), oneR r = ⟨(k : Int), d, (m : Int), (z : Int), mk, ⟨t, 0⟩⟩ ∧ r.l = nb k ++ tb d ++ nb m ++ nb z ++ mk ++ t ∧ r.e = 0 := by
  unfold oneR at he ⊢
  dsimp only at he ⊢
  have h1 := rCount_ok r 200 h
  have S1 := rCount_split r 200 h
  have E1 := rCount_e0 r 200 h
  generalize rCount r 200 = c at *
  have h2 := rText_ok c.2 200 h1
  have S2 := rText_split c.2 200 h1
  generalize rText c.2 200 = t at *
  have h3 := rNum_ok t.2 h2
  have S3 := rNum_split t.2 h2
  have E3 := rNum_e t.2 h2
  generalize rNum t.2 = m at *
  have S4 := rNum_split m.2 h3
  have E4 := rNum_e m.2 h3
  generalize rNum m.2 = z at *
  obtain ⟨z0, _, q5, q6⟩ := rRaw_e _ _ he
  obtain ⟨nz, _, hz, hzl⟩ := S4 z0
  obtain ⟨nm, _, hm, hml⟩ := S3 (E4 z0)
  obtain ⟨hd, c0⟩ := S2 (E3 (E4 z0))
  obtain ⟨k, hk, _, hkl⟩ := S1 c0
  refine ⟨k, nm, nz, t.1, z.2.l.take 32, z.2.l.drop 32, ?_, ?_, E1 c0⟩
  · rw [hk, hm, hz, q6]; rfl
  · rw [hkl, hd, hml, hzl, List.append_assoc (nb k ++ tb t.1 ++ nb nm ++ nb nz), List.take_append_drop]
    simp only [List.append_assoc]
theorem ofF_back : ∀ (n : Nat) (r : RS) (last : Txt) (out : List ItemD), r.ok → (ofF n r last out).2.1 = 0 →
    ∃ l, (ofF n r last out).1 = out ++ l ∧ l.length = n ∧ r.l = mbE last l ++ (ofF n r last out).2.2.l ∧ (ofF n r last out).2.2.e = r.e
  | 0, r, last, out, _, _ => ⟨[], by simp [ofF], rfl, by simp [ofF, mbE], rfl⟩
  | n + 1, r, last, out, hok, he => by
    unfold ofF at he ⊢
    dsimp only at he ⊢
    by_cases h1 : (oneR r).r.e = 0
    · rw [if_neg (fun k => k h1)] at he ⊢
      obtain ⟨k, m, z, d, mk, t, hr, hl, h0⟩ := oneR_back r hok h1
      rw [hr] at he ⊢
      dsimp only at he ⊢
      by_cases h2 : shareBad last (k : Int) d
      · rw [if_pos h2] at he; cases he
      · rw [if_neg h2] at he ⊢
        rw [Int.toNat_natCast] at he ⊢
        have h3 : k ≤ last.length ∧ sharedS last (last.take k ++ d) = k := by
          unfold shareBad at h2
          rw [Int.toNat_natCast] at h2
          constructor
          · by_cases g : (last.length : Int) < k
            · exact absurd (.inl g) h2
            · omega
          · by_cases g : (sharedS last (last.take k ++ d) : Int) = k
            · omega
            · exact absurd (.inr g) h2
        obtain ⟨l, e1, e2, e3, e4⟩ := ofF_back n ⟨t, 0⟩ (last.take k ++ d) (out ++ [⟨last.take k ++ d, m, z, mk⟩]) (.inl rfl) he
        refine ⟨⟨last.take k ++ d, m, z, mk⟩ :: l, by rw [e1]; simp, by rw [List.length_cons, e2], ?_, by rw [e4]; exact h0.symm⟩
        have e5 : (last.take k ++ d).drop k = d := List.drop_left' (by rw [List.length_take]; omega)
        show r.l = nb (sharedS last (last.take k ++ d)) ++ tb ((last.take k ++ d).drop (sharedS last (last.take k ++ d))) ++ nb ((m : Int)).toNat ++ nb ((z : Int)).toNat ++ mk ++ mbE (last.take k ++ d) l ++ _
        rw [h3.2, e5, Int.toNat_natCast, Int.toNat_natCast, List.append_assoc _ (mbE _ _), ← e3]
        exact hl
    · rw [if_pos h1] at he; exact absurd he h1
theorem ofS_back {s : Txt} (h : (ofS s).2 = 0) : mbytesS (ofS s).1 = (s, 0) := by
  have hok : (⟨s, 0⟩ : RS).ok := .inl rfl
  have hco := rCount_ok ⟨s, 0⟩ 256 hok
  have S1 := rCount_split ⟨s, 0⟩ 256 hok
  obtain ⟨c, hc, _⟩ := rCount_nat ⟨s, 0⟩ 256 hok
  unfold ofS at h ⊢
  rw [hc, Int.toNat_natCast] at h ⊢
  have FB := ofF_back c (rCount ⟨s, 0⟩ 256).2 [] [] hco
  generalize ofF c (rCount ⟨s, 0⟩ 256).2 [] [] = F at *
  obtain ⟨l0, e, r⟩ := F
  dsimp only at h FB ⊢
  unfold ofEnd at h ⊢
  by_cases h1 : e = 0
  · rw [if_neg (fun k => k h1)] at h ⊢
    by_cases h2 : (rEnd r).e = 0
    · rw [if_neg (fun k => k h2)] at h ⊢
      by_cases h3 : rightS l0 = 0
      · rw [if_neg (fun k => k h3)] at h ⊢
        obtain ⟨l, e1, e2, e3, e4⟩ := FB h1
        rw [List.nil_append] at e1
        subst e1
        have hr : r.l = [] ∧ r.e = 0 := by
          unfold rEnd at h2
          by_cases g : r.l = []
          · rw [if_neg (fun k => k g)] at h2; exact ⟨g, h2⟩
          · rw [if_pos g] at h2; exact absurd h2 (rFail_e _ _ (by decide))
        obtain ⟨q, hq, _, hs⟩ := S1 (by rw [← e4]; exact hr.2)
        have hqc : q = c := by rw [hc] at hq; omega
        subst hqc
        show mbytesS l0 = (s, 0)
        unfold mbytesS
        rw [if_neg (fun k => k h3), e2]
        have hs' : s = nb q ++ (rCount ⟨s, 0⟩ 256).2.l := hs
        rw [e3, hr.1, List.append_nil] at hs'
        rw [← hs']
      · rw [if_pos h3] at h; exact absurd h h3
    · rw [if_pos h2] at h; exact absurd h h2
  · rw [if_pos h1] at h; exact absurd h h1
theorem mbytes_e (l : List ItemD) : (mbytesS l).2 = rightS l := by
  unfold mbytesS
  by_cases h : rightS l = 0
  · rw [if_neg (fun k => k h), h]
  · rw [if_pos h]
end Go.Proofs.YtfgimhgkjodcgaaDoor
/- A tree and its image are each other's, there and back: the mathematics. -/
set_option linter.unusedVariables false
namespace Go.Proofs.YtfgimhgkjodcgaaDoor
open Go.RowKit

def tellD (x : FileD) : ToldD := ⟨x.path, x.mode, (x.data.length : Int)⟩
theorem firstE_iff {α : Type} {E : α → Int} : ∀ l : List α, (∀ x ∈ l, E x = 0) → firstE E l = 0
  | [], _ => rfl
  | y :: r, h => by
    unfold firstE
    rw [if_neg (fun k => k (h y (by simp)))]
    exact firstE_iff r (fun x hx => h x (by simp [hx]))
theorem checkS_bare {l : List FileD} (h : checkS l = 0) : checkS ((l.map tellD).map bare) = 0 := by
  have hp : ((l.map tellD).map bare).map (·.path) = l.map (·.path) := by rw [List.map_map, List.map_map]; rfl
  obtain ⟨_, hr⟩ := checkS_each h
  unfold checkS at h ⊢
  rw [hp]
  by_cases h1 : togS (l.map (·.path)) = 0
  · rw [if_neg (fun k => k h1)]
    refine firstE_iff _ (fun y hy => ?_)
    obtain ⟨z, hz, rfl⟩ := List.mem_map.1 hy
    obtain ⟨x, hx, rfl⟩ := List.mem_map.1 hz
    have g := hr x hx
    have g1 := g.m0
    have g2 := g.m1
    show (if x.mode < 0 ∨ 511 < x.mode then 11 else if 65536 < ([] : Txt).length then 4 else 0) = 0
    rw [if_neg (by omega), if_neg (by simp)]
  · rw [if_pos h1] at h; exact absurd h h1
theorem oneTo_fore {x : FileD} (hx : FileR x) (t : Txt) : oneTo ⟨hdE x ++ t, 0⟩ = (tellD x, ⟨t, 0⟩) := by
  have h1 := hx.p
  have h2 := hx.m0
  have h3 := hx.m1
  have h4 := hx.d
  have e1 : hdE x ++ t = tb x.path ++ (nb x.mode.toNat ++ (nb x.data.length ++ t)) := by unfold hdE; simp only [List.append_assoc]
  have r2 := rText_tb x.path (nb x.mode.toNat ++ (nb x.data.length ++ t)) (by omega) 200 (by omega)
  have r3 := rNum_nb x.mode.toNat (nb x.data.length ++ t) (by omega)
  have r4 := rCount_nb x.data.length t 65536 (by omega) (by omega)
  have em : (x.mode.toNat : Int) = x.mode := by omega
  rw [e1]
  unfold oneTo
  rw [r2]
  dsimp only
  rw [r3]
  dsimp only
  rw [r4, em]
  rfl
theorem tolF_fore : ∀ (l : List FileD) (out : List ToldD) (t : Txt), (∀ x ∈ l, FileR x) → tolF l.length ⟨hdsE l ++ t, 0⟩ out = (out ++ l.map tellD, ⟨t, 0⟩)
  | [], out, t, _ => by simp [tolF, hdsE]
  | x :: r, out, t, h => by
    have e1 : hdsE (x :: r) ++ t = hdE x ++ (hdsE r ++ t) := by show hdE x ++ hdsE r ++ t = _; rw [List.append_assoc]
    rw [e1, List.length_cons]
    show (if (0 : Int) ≠ 0 then _ else tolF r.length (oneTo ⟨hdE x ++ (hdsE r ++ t), 0⟩).2 (out ++ [(oneTo ⟨hdE x ++ (hdsE r ++ t), 0⟩).1])) = _
    rw [if_neg (by simp), oneTo_fore (h x (by simp)), tolF_fore r _ t (fun y hy => h y (by simp [hy]))]
    simp
theorem fillF_fore : ∀ (l : List FileD) (out : List FileD), fillF (l.map tellD) (datE l) out = (out ++ l, 0)
  | [], out => by simp [fillF, datE]
  | x :: r, out => by
    show (if ((x.data ++ datE r).length : Int) < (x.data.length : Int) then _ else fillF (r.map tellD) ((x.data ++ datE r).drop ((x.data.length : Int)).toNat) (out ++ [⟨x.path, x.mode, (x.data ++ datE r).take ((x.data.length : Int)).toNat⟩])) = _
    rw [if_neg (by rw [List.length_append]; omega), Int.toNat_natCast, List.drop_left' rfl, List.take_left' rfl, fillF_fore r]
    simp
theorem treeS_fore {l : List FileD} (h : (imgS l).2 = 0) : treeS (imgS l).1 = (l, 0) := by
  unfold imgS at h ⊢
  by_cases h1 : checkS l = 0
  · rw [if_neg (fun k => k h1)] at h ⊢
    by_cases h2 : 524288 < (imgB l).length
    · rw [if_pos h2] at h; cases h
    · rw [if_neg h2]
      obtain ⟨hl, hr⟩ := checkS_each h1
      have e1 : imgB l = nb l.length ++ (hdsE l ++ datE l) := by unfold imgB; rw [List.append_assoc]
      have hc := rCount_nb l.length (hdsE l ++ datE l) 256 (by omega) (by omega)
      have ht := tolF_fore l [] (datE l) hr
      rw [List.nil_append] at ht
      have hT : toldS (imgB l) = ⟨l.map tellD, datE l, 0⟩ := by
        rw [e1]
        unfold toldS
        rw [hc]
        dsimp only
        rw [Int.toNat_natCast, ht]
        unfold tolEnd
        dsimp only
        rw [if_neg (by simp), if_neg (fun k => k (checkS_bare h1))]
      show treeS (imgB l) = _
      unfold treeS
      rw [if_neg h2, hT]
      dsimp only
      rw [if_neg (by simp), fillF_fore, List.nil_append]
  · rw [if_pos h1] at h; exact absurd h h1
/-! ### Back -/
def htE (x : ToldD) : Txt := tb x.path ++ nb x.mode.toNat ++ nb x.size.toNat
def htsE : List ToldD → Txt
  | [] => []
  | x :: r => htE x ++ htsE r
theorem oneTo_back (r : RS) (h : r.ok) (he : (oneTo r).2.e = 0) : r.l = htE (oneTo r).1 ++ (oneTo r).2.l ∧ r.e = 0 := by
  unfold oneTo at he ⊢
  dsimp only at he ⊢
  have h2 := rText_ok r 200 h
  have S2 := rText_split r 200 h
  generalize rText r 200 = t at *
  have h3 := rNum_ok t.2 h2
  have S3 := rNum_split t.2 h2
  have E3 := rNum_e t.2 h2
  generalize rNum t.2 = m at *
  have S4 := rCount_split m.2 65536 h3
  have E4 := rCount_e0 m.2 65536 h3
  generalize rCount m.2 65536 = z at *
  obtain ⟨nz, hz, _, hzl⟩ := S4 he
  obtain ⟨nm, _, hm, hml⟩ := S3 (E4 he)
  obtain ⟨hd, h0⟩ := S2 (E3 (E4 he))
  refine ⟨?_, h0⟩
  unfold htE
  dsimp only
  rw [hd, hml, hzl, hm, hz, Int.toNat_natCast, Int.toNat_natCast]
  simp only [List.append_assoc]
theorem tolF_back : ∀ (k : Nat) (r : RS) (out : List ToldD), r.ok → (tolF k r out).2.e = 0 → ∃ l, (tolF k r out).1 = out ++ l ∧ l.length = k ∧ r.l = htsE l ++ (tolF k r out).2.l ∧ r.e = 0
  | 0, r, out, _, he => ⟨[], by simp [tolF], rfl, by simp [tolF, htsE], he⟩
  | k + 1, r, out, hok, he => by
    by_cases h0 : r.e = 0
    · have e1 : tolF (k + 1) r out = tolF k (oneTo r).2 (out ++ [(oneTo r).1]) := if_neg (fun g => g h0)
      rw [e1] at he ⊢
      obtain ⟨l, a1, a2, a3, a4⟩ := tolF_back k (oneTo r).2 (out ++ [(oneTo r).1]) (oneTo_ok r hok).2 he
      obtain ⟨b1, _⟩ := oneTo_back r hok a4
      refine ⟨(oneTo r).1 :: l, by rw [a1]; simp, by rw [List.length_cons, a2], ?_, h0⟩
      show r.l = htE (oneTo r).1 ++ htsE l ++ _
      rw [List.append_assoc, ← a3]
      exact b1
    · have e1 : tolF (k + 1) r out = (out, r) := if_pos h0
      rw [e1] at he
      exact absurd he h0
theorem toldS_back {s : Txt} (h : (toldS s).e = 0) : s = nb (toldS s).l.length ++ htsE (toldS s).l ++ (toldS s).rest ∧ checkS ((toldS s).l.map bare) = 0 := by
  have hok : (⟨s, 0⟩ : RS).ok := .inl rfl
  have hco := rCount_ok ⟨s, 0⟩ 256 hok
  have S1 := rCount_split ⟨s, 0⟩ 256 hok
  obtain ⟨c, hc, _⟩ := rCount_nat ⟨s, 0⟩ 256 hok
  unfold toldS at h ⊢
  rw [hc, Int.toNat_natCast] at h ⊢
  have FB := tolF_back c (rCount ⟨s, 0⟩ 256).2 [] hco
  generalize tolF c (rCount ⟨s, 0⟩ 256).2 [] = F at *
  obtain ⟨l0, r⟩ := F
  dsimp only at h FB ⊢
  unfold tolEnd at h ⊢
  by_cases h1 : r.e = 0
  · rw [if_neg (fun k => k h1)] at h ⊢
    by_cases h2 : checkS (l0.map bare) = 0
    · rw [if_neg (fun k => k h2)]
      dsimp only
      obtain ⟨l, e1, e2, e3, e4⟩ := FB h1
      rw [List.nil_append] at e1
      subst e1
      obtain ⟨q, hq, _, hs⟩ := S1 e4
      have hqc : q = c := by rw [hc] at hq; omega
      subst hqc
      have hs' : s = nb q ++ (rCount ⟨s, 0⟩ 256).2.l := hs
      refine ⟨?_, h2⟩
      rw [e2, List.append_assoc, ← e3]
      exact hs'
    · rw [if_pos h2] at h; exact absurd h h2
  · rw [if_pos h1] at h; exact absurd h h1
theorem fillF_back : ∀ (tl : List ToldD) (rest : Txt) (out : List FileD), (∀ x ∈ tl, ToldOk x) → (fillF tl rest out).2 = 0 → ∃ l, (fillF tl rest out).1 = out ++ l ∧ l.map tellD = tl ∧ rest = datE l
  | [], rest, out, _, h => by
    by_cases hr : rest = []
    · rw [show fillF [] rest out = (out, 0) from if_pos hr]; exact ⟨[], by simp, rfl, by rw [hr]; rfl⟩
    · rw [show fillF [] rest out = ([], 4) from if_neg hr] at h; cases h
  | x :: r, rest, out, hl, h => by
    by_cases hc : (rest.length : Int) < x.size
    · rw [show fillF (x :: r) rest out = ([], 3) from if_pos hc] at h; cases h
    · rw [show fillF (x :: r) rest out = fillF r (rest.drop x.size.toNat) (out ++ [⟨x.path, x.mode, rest.take x.size.toNat⟩]) from if_neg hc] at h ⊢
      obtain ⟨_, _, _, a4, _⟩ := hl x (by simp)
      obtain ⟨l, e1, e2, e3⟩ := fillF_back r _ _ (fun y hy => hl y (by simp [hy])) h
      refine ⟨⟨x.path, x.mode, rest.take x.size.toNat⟩ :: l, by rw [e1]; simp, ?_, ?_⟩
      · rw [List.map_cons, e2]
        have : tellD ⟨x.path, x.mode, rest.take x.size.toNat⟩ = x := by
          show (⟨x.path, x.mode, ((rest.take x.size.toNat).length : Int)⟩ : ToldD) = x
          rw [List.length_take]
          have e : ((min x.size.toNat rest.length : Nat) : Int) = x.size := by omega
          rw [e]
        rw [this]
      · show rest = rest.take x.size.toNat ++ datE l
        rw [← e3, List.take_append_drop]
theorem hts_eq : ∀ l : List FileD, htsE (l.map tellD) = hdsE l
  | [] => rfl
  | x :: r => by
    show htE (tellD x) ++ htsE (r.map tellD) = hdE x ++ hdsE r
    rw [hts_eq r]
    rfl
theorem treeS_back {s : Txt} (h : (treeS s).2 = 0) : imgS (treeS s).1 = (s, 0) := by
  unfold treeS at h ⊢
  by_cases h1 : 524288 < s.length
  · rw [if_pos h1] at h; cases h
  · rw [if_neg h1] at h ⊢
    by_cases h2 : (toldS s).e = 0
    · rw [if_neg (fun k => k h2)] at h ⊢
      obtain ⟨g1, _⟩ := toldS_ok s
      obtain ⟨hs, hb⟩ := toldS_back h2
      obtain ⟨l, e1, e2, e3⟩ := fillF_back _ _ _ g1 h
      rw [List.nil_append] at e1
      rw [e1]
      have hck : checkS l = 0 := by
        rw [← e2] at hb g1
        have hp : ((l.map tellD).map bare).map (·.path) = l.map (·.path) := by rw [List.map_map, List.map_map]; rfl
        unfold checkS at hb ⊢
        rw [hp] at hb
        by_cases k1 : togS (l.map (·.path)) = 0
        · rw [if_neg (fun k => k k1)] at hb ⊢
          refine firstE_iff _ (fun x hx => ?_)
          have k2 := firstE_all fileE _ hb (bare (tellD x)) (List.mem_map.2 ⟨tellD x, List.mem_map.2 ⟨x, hx, rfl⟩, rfl⟩)
          obtain ⟨_, _, _, _, k3⟩ := g1 (tellD x) (List.mem_map.2 ⟨x, hx, rfl⟩)
          have k3' : (x.data.length : Int) ≤ 65536 := k3
          have k2' : (if x.mode < 0 ∨ 511 < x.mode then 11 else if 65536 < ([] : Txt).length then 4 else 0) = (0 : Int) := k2
          unfold fileE
          by_cases k4 : x.mode < 0 ∨ 511 < x.mode
          · rw [if_pos k4] at k2'; cases k2'
          · rw [if_neg k4, if_neg (by omega)]
        · rw [if_pos k1] at hb; exact absurd hb k1
      have hsb : imgB l = s := by
        unfold imgB
        rw [← hts_eq, ← e3, e2]
        have : l.length = (toldS s).l.length := by rw [← e2, List.length_map]
        rw [this]
        exact hs.symm
      unfold imgS
      rw [if_neg (fun k => k hck), hsb, if_neg h1]
    · rw [if_pos h2] at h; exact absurd h h2
end Go.Proofs.YtfgimhgkjodcgaaDoor
/- Plain mathematics: three trees gone through side by side are what the document's Merge makes of them. -/
set_option linter.unusedVariables false
namespace Go.Proofs.YtfgimhgkjodcgaaDoor
open Go.RowKit

theorem o3_tr {a b c : Txt} (h : ordS a b < 0) (k : ordS b c < 0) : ordS a c < 0 := by
  have T := ordS_trans a b c (by omega) (by omega)
  rcases Int.lt_or_eq_of_le T.1 with e | e
  · exact e
  · have := (T.2 e).1; omega
theorem o3_trl {a b c : Txt} (h : ordS a b ≤ 0) (k : ordS b c < 0) : ordS a c < 0 := by
  have T := ordS_trans a b c (by omega) (by omega)
  rcases Int.lt_or_eq_of_le T.1 with e | e
  · exact e
  · have := (T.2 e).2; omega
theorem o3_ne {a b : Txt} (h : ordS a b < 0) : a ≠ b := by
  rintro rfl
  rw [ordS_self] at h; omega
theorem tog3_sorted : ∀ (l : List Txt) (q : Txt), togF (some q) l = 0 → (q :: l).Pairwise (fun x y => ordS x y < 0)
  | [], q, _ => List.pairwise_singleton _ _
  | p :: r, q, h => by
    unfold togF at h
    by_cases h1 : pathS p ≠ 0
    · rw [if_pos h1] at h; exact absurd h h1
    · rw [if_neg h1] at h
      dsimp only at h
      by_cases h2 : ordS p q < 0
      · rw [if_pos h2] at h; exact absurd h (by decide)
      · rw [if_neg h2] at h
        by_cases h3 : p = q ∨ withinS p q = true
        · rw [if_pos h3] at h; exact absurd h (by decide)
        · rw [if_neg h3] at h
          have ih := tog3_sorted r p h
          have e := ordS_neg p q
          have hqp : ordS q p < 0 := by
            rcases Int.lt_or_eq_of_le (show ordS q p ≤ 0 by omega) with c | c
            · exact c
            · exact absurd (ordS_eq _ _ c).symm (fun e => h3 (.inl e))
          rw [List.pairwise_cons]
          refine ⟨fun y hy => ?_, ih⟩
          simp at hy
          rcases hy with rfl | hy
          · exact hqp
          · rw [List.pairwise_cons] at ih
            exact o3_tr hqp (ih.1 y hy)
/-- Files one behind the other, each of a path. -/
structure AscF (l : List FileD) : Prop where
  asc : l.Pairwise (fun x y => ordS x.path y.path < 0)
  some : ∀ x ∈ l, x.path ≠ []
theorem AscF.nil : AscF [] := ⟨List.Pairwise.nil, fun x h => by cases h⟩
theorem AscF.tail {f : FileD} {r : List FileD} (h : AscF (f :: r)) : AscF r := ⟨(List.pairwise_cons.1 h.asc).2, fun x hx => h.some x (by simp [hx])⟩
theorem AscF.head {f : FileD} {r : List FileD} (h : AscF (f :: r)) : ∀ x ∈ r, ordS f.path x.path < 0 := (List.pairwise_cons.1 h.asc).1
theorem path_some {p : Txt} (h : pathS p = 0) : p ≠ [] := by
  rintro rfl
  exact absurd h (by decide)
theorem ascF_check {l : List FileD} (h : checkS l = 0) : AscF l := by
  unfold checkS at h
  by_cases h1 : togS (l.map (·.path)) = 0
  · unfold togS at h1
    by_cases h3 : 256 < (l.map (·.path)).length
    · rw [if_pos h3] at h1; exact absurd h1 (by decide)
    · rw [if_neg h3] at h1
      refine ⟨?_, fun x hx => path_some (togF_paths _ _ h1 x.path (List.mem_map.2 ⟨x, hx, rfl⟩))⟩
      refine (List.pairwise_map (f := fun x : FileD => x.path) (R := fun x y => ordS x y < 0)).1 ?_
      change togF none (l.map (fun x => x.path)) = 0 at h1
      generalize l.map (fun x => x.path) = m at h1 ⊢
      cases m with
      | nil => exact List.Pairwise.nil
      | cons p r =>
        unfold togF at h1
        by_cases h4 : pathS p ≠ 0
        · rw [if_pos h4] at h1; exact absurd h1 h4
        · rw [if_neg h4] at h1
          exact tog3_sorted r p h1
  · rw [if_pos h1] at h; exact absurd h h1
theorem img_check {l : List FileD} (h : (imgS l).2 = 0) : checkS l = 0 := by
  unfold imgS at h
  by_cases h1 : checkS l = 0
  · exact h1
  · rw [if_pos h1] at h; exact absurd h h1
theorem tree_check {s : Txt} (h : (treeS s).2 = 0) : checkS (treeS s).1 = 0 := img_check (by rw [treeS_back h])
theorem tree_none {s : Txt} (h : ¬ (treeS s).2 = 0) : (treeS s).1 = [] := by
  unfold treeS at h ⊢
  split
  · rfl
  · split
    · rfl
    · rename_i h1 h2
      rw [if_neg h1, if_neg h2] at h
      have F : ∀ (tl : List ToldD) (rest : Txt) (out : List FileD), ¬ (fillF tl rest out).2 = 0 → (fillF tl rest out).1 = [] := by
        intro tl
        induction tl with
        | nil => intro rest out k; unfold fillF at k ⊢; split <;> simp_all
        | cons x r ih =>
          intro rest out k
          unfold fillF at k ⊢
          split
          · rfl
          · rename_i hx
            rw [if_neg hx] at k
            exact ih _ _ k
      exact F _ _ _ h
theorem tree_asc (s : Txt) : AscF (treeS s).1 := by
  by_cases h : (treeS s).2 = 0
  · exact ascF_check (tree_check h)
  · rw [tree_none h]; exact AscF.nil
/-! ### What stands at a path -/
def zF : FileD := ⟨[], 0, []⟩
def eqF (x y : FileD) : Bool := (x.path == y.path) && (x.mode == y.mode) && (x.data == y.data)
theorem eqF_iff (x y : FileD) : eqF x y = true ↔ x = y := by
  obtain ⟨p, m, d⟩ := x
  obtain ⟨p', m', d'⟩ := y
  unfold eqF
  simp only [Bool.and_eq_true, beq_iff_eq, FileD.mk.injEq, and_assoc]
theorem eqF_comm (x y : FileD) : eqF x y = eqF y x := by
  rw [Bool.eq_iff_iff, eqF_iff, eqF_iff]; exact eq_comm
theorem eqF_self (x : FileD) : eqF x x = true := (eqF_iff x x).2 rfl
/-- The file of a path, or none: one of no path. -/
def lookF : List FileD → Txt → FileD
  | [], _ => zF
  | f :: r, p => if f.path = p then f else lookF r p
theorem lookF_none : ∀ (l : List FileD) (p : Txt), (∀ x ∈ l, x.path ≠ p) → lookF l p = zF
  | [], _, _ => rfl
  | f :: r, p, h => by
    unfold lookF
    rw [if_neg (h f (by simp))]
    exact lookF_none r p (fun x hx => h x (by simp [hx]))
theorem lookF_path : ∀ (l : List FileD) (p : Txt), (lookF l p).path = p ∨ lookF l p = zF
  | [], _ => .inr rfl
  | f :: r, p => by
    unfold lookF
    split
    · exact .inl (by assumption)
    · exact lookF_path r p
theorem findN_look : ∀ (l : List FileD) (p : Txt) (i : Nat), p ≠ [] → (findN l p i < 0 ∧ lookF l p = zF) ∨ (∃ k : Nat, findN l p i = ((i + k : Nat) : Int) ∧ l[k]? = some (lookF l p) ∧ (lookF l p).path = p)
  | [], _, _, _ => .inl ⟨by show (-1 : Int) < 0; decide, rfl⟩
  | f :: r, p, i, hp => by
    unfold findN lookF
    by_cases h : f.path = p
    · rw [if_pos (by simp [h]), if_pos h]
      exact .inr ⟨0, by simp, rfl, h⟩
    · rw [if_neg (by simp [h]), if_neg h]
      rcases findN_look r p (i + 1) hp with h1 | ⟨k, h1, h2, h3⟩
      · exact .inl h1
      · exact .inr ⟨k + 1, by rw [h1]; congr 1; omega, by simpa using h2, h3⟩
theorem find_look (l : List FileD) (p : Txt) (hp : p ≠ []) : (findT l p < 0 ∧ lookF l p = zF) ∨ (∃ k : Nat, findT l p = (k : Int) ∧ l[k]? = some (lookF l p) ∧ (lookF l p).path = p) := by
  rcases findN_look l p 0 hp with h | ⟨k, h1, h2⟩
  · exact .inl h
  · exact .inr ⟨k, by rw [show findT l p = findN l p 0 from rfl, h1, Nat.zero_add], h2⟩
theorem like_look (a b : List FileD) (p : Txt) (hp : p ≠ []) : likeS a b p = eqF (lookF a p) (lookF b p) := by
  unfold likeS
  rcases find_look a p hp with ⟨h1, h2⟩ | ⟨k, h1, h2, h3⟩
  · rcases find_look b p hp with ⟨k1, k2⟩ | ⟨k', k1, k2, k3⟩
    · rw [if_pos (.inl h1), h2, k2, eqF_self, decide_eq_true h1, decide_eq_true k1]; rfl
    · have k4 : ¬ findT b p < 0 := by omega
      rw [if_pos (.inl h1), h2, decide_eq_false k4, Bool.and_false]
      symm
      rw [Bool.eq_false_iff]
      intro h
      rw [eqF_iff] at h
      rw [← h] at k3
      exact hp k3.symm
  · rcases find_look b p hp with ⟨k1, k2⟩ | ⟨k', k1, k2, k3⟩
    · have h4 : ¬ findT a p < 0 := by omega
      rw [if_pos (.inr k1), k2, decide_eq_false h4, Bool.false_and]
      symm
      rw [Bool.eq_false_iff]
      intro h
      rw [eqF_iff] at h
      rw [h] at h3
      exact hp h3.symm
    · rw [if_neg (by omega), h1, k1, Int.toNat_natCast, Int.toNat_natCast, h2, k2]
      rfl
theorem pick_look (l : List FileD) (p : Txt) (hp : p ≠ []) : pickS l p = if (lookF l p).path = [] then [] else [lookF l p] := by
  unfold pickS
  rcases find_look l p hp with ⟨h1, h2⟩ | ⟨k, h1, h2, h3⟩
  · rw [if_pos h1, h2, if_pos (by rfl)]
  · rw [if_neg (by omega), h1, Int.toNat_natCast, h2, if_neg (by rw [h3]; exact hp)]
/-! ### Three files of a path -/
def settF (b x y : FileD) : FileD × Bool := if eqF x y = true ∨ eqF y b = true then (x, true) else if eqF x b = true then (y, true) else (x, false)
def out1 (t : FileD × Bool) : List FileD := if t.1.path = [] then [] else [t.1]
def torn1 (t : FileD × Bool) (p : Txt) : List Txt := if t.2 = true then [] else [p]
theorem one_look (x y z : List FileD) (p : Txt) (hp : p ≠ []) :
    pickS (fromS x y z p) p = out1 (settF (lookF x p) (lookF y p) (lookF z p)) ∧ toldM x y z p = torn1 (settF (lookF x p) (lookF y p) (lookF z p)) p := by
  unfold fromS toldM
  rw [like_look y z p hp, like_look x z p hp, like_look x y p hp, eqF_comm (lookF x p) (lookF z p), eqF_comm (lookF x p) (lookF y p)]
  have P1 := pick_look y p hp
  have P2 := pick_look z p hp
  generalize lookF x p = a at *
  generalize lookF y p = b at *
  generalize lookF z p = c at *
  by_cases h1 : eqF b c = true
  · rw [if_pos h1, if_pos h1, show settF a b c = (b, true) from if_pos (.inl h1)]
    exact ⟨P1, rfl⟩
  · rw [if_neg h1, if_neg h1]
    by_cases h2 : eqF c a = true
    · rw [if_pos h2, if_pos h2, show settF a b c = (b, true) from if_pos (.inr h2)]
      exact ⟨P1, rfl⟩
    · have h12 : ¬ (eqF b c = true ∨ eqF c a = true) := fun h => h.elim h1 h2
      rw [if_neg h2, if_neg h2]
      by_cases h3 : eqF b a = true
      · rw [if_pos h3, if_pos h3, show settF a b c = (c, true) by unfold settF; rw [if_neg h12, if_pos h3]]
        exact ⟨P2, rfl⟩
      · rw [if_neg h3, if_neg h3, show settF a b c = (b, false) by unfold settF; rw [if_neg h12, if_neg h3]]
        exact ⟨P1, rfl⟩
/-! ### Side by side -/
def firstF (l : List FileD) (p : Txt) : Txt := match l with
  | [] => p
  | f :: _ => if p = [] ∨ ordS f.path p < 0 then f.path else p
def first3 (x y z : List FileD) : Txt := firstF z (firstF y (firstF x []))
def lookH (l : List FileD) (p : Txt) : FileD := match l with
  | [] => zF
  | f :: _ => if f.path = p then f else zF
def restH (l : List FileD) (p : Txt) : List FileD := match l with
  | [] => []
  | f :: r => if f.path = p then r else f :: r
def pathM : Nat → List FileD → List FileD → List FileD → List Txt
  | 0, _, _, _ => []
  | n + 1, x, y, z => if first3 x y z = [] then [] else first3 x y z :: pathM n (restH x (first3 x y z)) (restH y (first3 x y z)) (restH z (first3 x y z))
def outM : Nat → List FileD → List FileD → List FileD → List FileD
  | 0, _, _, _ => []
  | n + 1, x, y, z => if first3 x y z = [] then [] else out1 (settF (lookH x (first3 x y z)) (lookH y (first3 x y z)) (lookH z (first3 x y z))) ++ outM n (restH x (first3 x y z)) (restH y (first3 x y z)) (restH z (first3 x y z))
def tornM : Nat → List FileD → List FileD → List FileD → List Txt
  | 0, _, _, _ => []
  | n + 1, x, y, z => if first3 x y z = [] then [] else torn1 (settF (lookH x (first3 x y z)) (lookH y (first3 x y z)) (lookH z (first3 x y z))) (first3 x y z) ++ tornM n (restH x (first3 x y z)) (restH y (first3 x y z)) (restH z (first3 x y z))
/-- A least path so far. -/
structure LeastF (l : List FileD) (p q : Txt) : Prop where
  from_ : q = p ∨ ∃ f r, l = f :: r ∧ q = f.path
  le : ∀ f r, l = f :: r → q ≠ [] ∧ ordS q f.path ≤ 0
  le' : p ≠ [] → q ≠ [] ∧ ordS q p ≤ 0
theorem firstF_least {l : List FileD} (h : AscF l) (p : Txt) : LeastF l p (firstF l p) := by
  cases l with
  | nil => exact ⟨.inl rfl, fun f r e => (by cases e), fun hp => ⟨hp, by show ordS p p ≤ 0; rw [ordS_self]; omega⟩⟩
  | cons f r =>
    have hf := h.some f (by simp)
    unfold firstF
    dsimp only
    split
    · rename_i hc
      refine ⟨.inr ⟨f, r, rfl, rfl⟩, fun g s e => ?_, fun hp => ⟨hf, ?_⟩⟩
      · injection e with e1 e2; subst e1
        exact ⟨hf, by rw [ordS_self]; omega⟩
      · rcases hc with hc | hc
        · exact absurd hc hp
        · omega
    · rename_i hc
      have hp : p ≠ [] := fun e => hc (.inl e)
      refine ⟨.inl rfl, fun g s e => ?_, fun _ => ⟨hp, by rw [ordS_self]; omega⟩⟩
      injection e with e1 e2; subst e1
      refine ⟨hp, ?_⟩
      have : ¬ ordS f.path p < 0 := fun e => hc (.inr e)
      rw [ordS_neg]; omega
structure Least3 (x y z : List FileD) (q : Txt) : Prop where
  lx : ∀ f r, x = f :: r → ordS q f.path ≤ 0
  ly : ∀ f r, y = f :: r → ordS q f.path ≤ 0
  lz : ∀ f r, z = f :: r → ordS q f.path ≤ 0
  of : (∃ f r, x = f :: r ∧ q = f.path) ∨ (∃ f r, y = f :: r ∧ q = f.path) ∨ ∃ f r, z = f :: r ∧ q = f.path
theorem first3_least {x y z : List FileD} (hx : AscF x) (hy : AscF y) (hz : AscF z) (h : first3 x y z ≠ []) : Least3 x y z (first3 x y z) := by
  have A := firstF_least hx []
  have B := firstF_least hy (firstF x [])
  have C := firstF_least hz (firstF y (firstF x []))
  unfold first3 at h ⊢
  generalize firstF x [] = q1 at *
  generalize firstF y q1 = q2 at *
  generalize firstF z q2 = q3 at *
  refine ⟨fun f r e => ?_, fun f r e => ?_, fun f r e => (C.le f r e).2, ?_⟩
  · obtain ⟨h1, h2⟩ := A.le f r e
    obtain ⟨h3, h4⟩ := B.le' h1
    obtain ⟨_, h5⟩ := C.le' h3
    exact (ordS_trans _ _ _ h5 (ordS_trans _ _ _ h4 h2).1).1
  · obtain ⟨h1, h2⟩ := B.le f r e
    obtain ⟨_, h5⟩ := C.le' h1
    exact (ordS_trans _ _ _ h5 h2).1
  · rcases C.from_ with c | c
    · rcases B.from_ with b | b
      · rcases A.from_ with a | a
        · rw [c, b, a] at h; exact absurd rfl h
        · obtain ⟨f, r, e1, e2⟩ := a; exact .inl ⟨f, r, e1, by rw [c, b, e2]⟩
      · obtain ⟨f, r, e1, e2⟩ := b; exact .inr (.inl ⟨f, r, e1, by rw [c, e2]⟩)
    · exact .inr (.inr c)
theorem first3_nil {x y z : List FileD} (hx : AscF x) (hy : AscF y) (hz : AscF z) (h : first3 x y z = []) : x = [] ∧ y = [] ∧ z = [] := by
  have A := firstF_least hx []
  have B := firstF_least hy (firstF x [])
  have C := firstF_least hz (firstF y (firstF x []))
  unfold first3 at h
  generalize firstF x [] = q1 at *
  generalize firstF y q1 = q2 at *
  generalize firstF z q2 = q3 at *
  subst h
  refine ⟨?_, ?_, ?_⟩
  · cases x with
    | nil => rfl
    | cons f r => exact absurd rfl (C.le' (B.le' (A.le f r rfl).1).1).1
  · cases y with
    | nil => rfl
    | cons f r => exact absurd rfl (C.le' (B.le f r rfl).1).1
  · cases z with
    | nil => rfl
    | cons f r => exact absurd rfl (C.le f r rfl).1
theorem first3_some {x y z : List FileD} (hx : AscF x) (hy : AscF y) (hz : AscF z) (h : first3 x y z ≠ []) : 0 < x.length + y.length + z.length := by
  rcases (first3_least hx hy hz h).of with ⟨f, r, e, _⟩ | ⟨f, r, e, _⟩ | ⟨f, r, e, _⟩ <;> rw [e] <;> simp <;> omega
/-- The rest of a list behind a least path. -/
theorem rest_mem {l : List FileD} (h : AscF l) {p : Txt} (hl : ∀ f r, l = f :: r → ordS p f.path ≤ 0) :
    AscF (restH l p) ∧ (∀ g ∈ restH l p, ordS p g.path < 0) ∧ (∀ q, (∃ g ∈ l, g.path = q) ↔ ((∃ g ∈ l, g.path = p) ∧ q = p) ∨ ∃ g ∈ restH l p, g.path = q) ∧ lookF l p = lookH l p ∧ (∀ q, ordS p q < 0 → lookF l q = lookF (restH l p) q) := by
  cases l with
  | nil => exact ⟨AscF.nil, fun g hg => (by cases hg), fun q => (by simp [restH]), rfl, fun q _ => rfl⟩
  | cons f r =>
    have hf := hl f r rfl
    unfold restH lookH
    dsimp only
    by_cases e : f.path = p
    · rw [if_pos e, if_pos e]
      refine ⟨h.tail, fun g hg => by rw [← e]; exact h.head g hg, fun q => ?_, by unfold lookF; rw [if_pos e], fun q hq => ?_⟩
      · constructor
        · rintro ⟨g, hg, hq⟩
          simp at hg
          rcases hg with rfl | hg
          · exact .inl ⟨⟨g, by simp, e⟩, by rw [← hq, e]⟩
          · exact .inr ⟨g, hg, hq⟩
        · rintro (⟨⟨g, hg, h1⟩, h2⟩ | ⟨g, hg, hq⟩)
          · exact ⟨g, hg, by rw [h1, h2]⟩
          · exact ⟨g, by simp [hg], hq⟩
      · show (if f.path = q then f else lookF r q) = _
        rw [if_neg (by rw [e]; exact o3_ne hq)]
    · rw [if_neg e, if_neg e]
      have hlt : ordS p f.path < 0 := by
        rcases Int.lt_or_eq_of_le hf with c | c
        · exact c
        · exact absurd (ordS_eq _ _ c).symm e
      have hall : ∀ g ∈ f :: r, ordS p g.path < 0 := by
        intro g hg
        simp at hg
        rcases hg with rfl | hg
        · exact hlt
        · exact o3_tr hlt (h.head g hg)
      refine ⟨h, hall, fun q => ⟨fun k => .inr k, ?_⟩, lookF_none _ _ (fun x hx => (o3_ne (hall x hx)).symm), fun q _ => rfl⟩
      rintro (⟨⟨g, hg, h1⟩, _⟩ | k)
      · exact absurd h1.symm (o3_ne (hall g hg))
      · exact k
theorem rest_len (l : List FileD) (p : Txt) : (restH l p).length ≤ l.length := by
  cases l with
  | nil => exact Nat.le_refl _
  | cons f r =>
    unfold restH
    dsimp only
    split <;> simp
theorem rest_lt (f : FileD) (r : List FileD) : (restH (f :: r) f.path).length < (f :: r).length := by
  unfold restH
  dsimp only
  rw [if_pos rfl]
  simp
theorem rests_len {x y z : List FileD} {q : Txt} (h : Least3 x y z q) : (restH x q).length + (restH y q).length + (restH z q).length < x.length + y.length + z.length := by
  have a := rest_len x q
  have b := rest_len y q
  have c := rest_len z q
  rcases h.of with ⟨f, r, e, rfl⟩ | ⟨f, r, e, rfl⟩ | ⟨f, r, e, rfl⟩
  · have := rest_lt f r; rw [← e] at this; omega
  · have := rest_lt f r; rw [← e] at this; omega
  · have := rest_lt f r; rw [← e] at this; omega
def inP (l : List FileD) (q : Txt) : Prop := ∃ g ∈ l, g.path = q
theorem path_all : ∀ (n : Nat) (x y z : List FileD), AscF x → AscF y → AscF z → x.length + y.length + z.length ≤ n →
    (pathM n x y z).Pairwise (fun a b => ordS a b < 0) ∧ (∀ q, q ∈ pathM n x y z ↔ inP x q ∨ inP y q ∨ inP z q) ∧
    outM n x y z = (pathM n x y z).flatMap (fun p => out1 (settF (lookF x p) (lookF y p) (lookF z p))) ∧ tornM n x y z = (pathM n x y z).flatMap (fun p => torn1 (settF (lookF x p) (lookF y p) (lookF z p)) p)
  | 0, x, y, z, hx, hy, hz, hn => by
    obtain rfl : x = [] := List.eq_nil_of_length_eq_zero (by omega)
    obtain rfl : y = [] := List.eq_nil_of_length_eq_zero (by omega)
    obtain rfl : z = [] := List.eq_nil_of_length_eq_zero (by omega)
    exact ⟨List.Pairwise.nil, fun q => (by simp [pathM, inP]), rfl, rfl⟩
  | n + 1, x, y, z, hx, hy, hz, hn => by
    unfold pathM outM tornM
    by_cases h : first3 x y z = []
    · rw [if_pos h, if_pos h, if_pos h]
      obtain ⟨rfl, rfl, rfl⟩ := first3_nil hx hy hz h
      exact ⟨List.Pairwise.nil, fun q => (by simp [inP]), rfl, rfl⟩
    · rw [if_neg h, if_neg h, if_neg h]
      have L := first3_least hx hy hz h
      generalize first3 x y z = p at *
      obtain ⟨ax, bx, cx, dx, ex⟩ := rest_mem hx L.lx
      obtain ⟨ay, by_, cy, dy, ey⟩ := rest_mem hy L.ly
      obtain ⟨az, bz, cz, dz, ez⟩ := rest_mem hz L.lz
      have hlen := rests_len L
      obtain ⟨i1, i2, i3, i4⟩ := path_all n (restH x p) (restH y p) (restH z p) ax ay az (by omega)
      have hbeh : ∀ q ∈ pathM n (restH x p) (restH y p) (restH z p), ordS p q < 0 := by
        intro q hq
        rcases (i2 q).1 hq with ⟨g, hg, rfl⟩ | ⟨g, hg, rfl⟩ | ⟨g, hg, rfl⟩
        · exact bx g hg
        · exact by_ g hg
        · exact bz g hg
      refine ⟨List.pairwise_cons.2 ⟨hbeh, i1⟩, fun q => ?_, ?_, ?_⟩
      · rw [List.mem_cons, i2]
        show _ ↔ (∃ g ∈ x, g.path = q) ∨ (∃ g ∈ y, g.path = q) ∨ ∃ g ∈ z, g.path = q
        rw [cx q, cy q, cz q]
        constructor
        · rintro (rfl | k | k | k)
          · rcases L.of with ⟨f, r, e, rfl⟩ | ⟨f, r, e, rfl⟩ | ⟨f, r, e, rfl⟩
            · exact .inl (.inl ⟨⟨f, by rw [e]; simp, rfl⟩, rfl⟩)
            · exact .inr (.inl (.inl ⟨⟨f, by rw [e]; simp, rfl⟩, rfl⟩))
            · exact .inr (.inr (.inl ⟨⟨f, by rw [e]; simp, rfl⟩, rfl⟩))
          · exact .inl (.inr k)
          · exact .inr (.inl (.inr k))
          · exact .inr (.inr (.inr k))
        · rintro ((⟨_, k⟩ | k) | (⟨_, k⟩ | k) | (⟨_, k⟩ | k))
          · exact .inl k
          · exact .inr (.inl k)
          · exact .inl k
          · exact .inr (.inr (.inl k))
          · exact .inl k
          · exact .inr (.inr (.inr k))
      · rw [List.flatMap_cons, dx, dy, dz, i3]
        congr 1
        rw [List.flatMap_def, List.flatMap_def]
        congr 1
        refine List.map_congr_left (fun q hq => ?_)
        rw [ex q (hbeh q hq), ey q (hbeh q hq), ez q (hbeh q hq)]
      · rw [List.flatMap_cons, dx, dy, dz, i4]
        congr 1
        rw [List.flatMap_def, List.flatMap_def]
        congr 1
        refine List.map_congr_left (fun q hq => ?_)
        rw [ex q (hbeh q hq), ey q (hbeh q hq), ez q (hbeh q hq)]
/-- Two ascending lists of the same paths are one. -/
theorem asc_ext : ∀ (a b : List Txt), a.Pairwise (fun x y => ordS x y < 0) → b.Pairwise (fun x y => ordS x y < 0) → (∀ q, q ∈ a ↔ q ∈ b) → a = b
  | [], [], _, _, _ => rfl
  | [], y :: b, _, _, h => absurd ((h y).2 (by simp)) (by simp)
  | x :: a, [], _, _, h => absurd ((h x).1 (by simp)) (by simp)
  | x :: a, y :: b, ha, hb, h => by
    have ha' := List.pairwise_cons.1 ha
    have hb' := List.pairwise_cons.1 hb
    have hxy : x = y := by
      have h1 := (h x).1 (by simp)
      have h2 := (h y).2 (by simp)
      simp at h1 h2
      rcases h1 with h1 | h1
      · exact h1
      · rcases h2 with h2 | h2
        · exact h2.symm
        · have k1 := hb'.1 x h1
          have k2 := ha'.1 y h2
          have := ordS_neg x y
          omega
    subst hxy
    rw [asc_ext a b ha'.2 hb'.2 (fun q => ?_)]
    constructor
    · intro hq
      have := (h q).1 (by simp [hq])
      simp at this
      rcases this with rfl | this
      · exact absurd rfl (o3_ne (ha'.1 _ hq))
      · exact this
    · intro hq
      have := (h q).2 (by simp [hq])
      simp at this
      rcases this with rfl | this
      · exact absurd rfl (o3_ne (hb'.1 _ hq))
      · exact this
/-! ### The document's list of all paths -/
def bareP (p : Txt) : FileD := ⟨p, 0, []⟩
theorem i3_perm (x : FileD) : ∀ l : List FileD, (insS x l).Perm (x :: l)
  | [] => List.Perm.refl _
  | y :: r => by
    unfold insS
    split
    · exact List.Perm.refl _
    · exact ((i3_perm x r).cons y).trans (List.Perm.swap x y r)
/-- One let in among such as it is not. -/
theorem i3_asc (x : FileD) : ∀ l : List FileD, (∀ y ∈ l, y.path ≠ x.path) → l.Pairwise (fun f g => ordS f.path g.path < 0) → (insS x l).Pairwise (fun f g => ordS f.path g.path < 0)
  | [], _, _ => List.pairwise_singleton _ _
  | y :: r, hne, h => by
    have h' := List.pairwise_cons.1 h
    unfold insS
    split
    · rename_i hlt
      rw [List.pairwise_cons]
      refine ⟨fun z hz => ?_, h⟩
      simp at hz
      rcases hz with rfl | hz
      · exact hlt
      · exact o3_tr hlt (h'.1 z hz)
    · rename_i hlt
      rw [List.pairwise_cons]
      refine ⟨fun z hz => ?_, i3_asc x r (fun z hz => hne z (by simp [hz])) h'.2⟩
      rw [(i3_perm x r).mem_iff] at hz
      simp at hz
      rcases hz with rfl | hz
      · have e := ordS_neg y.path z.path
        rcases Int.lt_or_eq_of_le (show ordS y.path z.path ≤ 0 by omega) with c | c
        · exact c
        · exact absurd (ordS_eq _ _ c) (hne y (by simp))
      · exact h'.1 z hz
theorem s3_all : ∀ (l acc : List FileD), (l.map (·.path)).Nodup → (∀ x ∈ l, ∀ y ∈ acc, y.path ≠ x.path) → acc.Pairwise (fun f g => ordS f.path g.path < 0) →
    (l.foldl (fun acc x => insS x acc) acc).Pairwise (fun f g => ordS f.path g.path < 0) ∧ ∀ f, f ∈ l.foldl (fun acc x => insS x acc) acc ↔ f ∈ l ∨ f ∈ acc
  | [], acc, _, _, h => ⟨h, fun f => (by simp)⟩
  | x :: r, acc, hn, hd, h => by
    rw [List.map_cons, List.nodup_cons] at hn
    obtain ⟨h1, h2⟩ := s3_all r (insS x acc) hn.2 (fun z hz y hy => by
      rw [(i3_perm x acc).mem_iff] at hy
      simp at hy
      rcases hy with rfl | hy
      · intro e
        exact hn.1 (List.mem_map.2 ⟨z, hz, e.symm⟩)
      · exact hd z (by simp [hz]) y hy) (i3_asc x acc (fun y hy => hd x (by simp) y hy) h)
    refine ⟨h1, fun f => ?_⟩
    show f ∈ r.foldl _ (insS x acc) ↔ _
    rw [h2 f, (i3_perm x acc).mem_iff, List.mem_cons, List.mem_cons]
    constructor
    · rintro (k | k | k)
      · exact .inl (.inr k)
      · exact .inl (.inl k)
      · exact .inr k
    · rintro ((k | k) | k)
      · exact .inr (.inl k)
      · exact .inl k
      · exact .inr (.inr k)
theorem allS_all : ∀ (l all : List FileD), (∀ x ∈ l, x.path ≠ []) → (∃ ps : List Txt, all = ps.map bareP ∧ ps.Nodup) → ∃ ps : List Txt, allS all l = ps.map bareP ∧ ps.Nodup ∧ ∀ q, q ∈ ps ↔ inP all q ∨ inP l q
  | [], all, _, ⟨ps, e, hn⟩ => ⟨ps, e, hn, fun q => by
      subst e
      simp only [inP, List.mem_map, List.not_mem_nil, false_and, exists_false, or_false]
      constructor
      · intro h; exact ⟨bareP q, ⟨q, h, rfl⟩, rfl⟩
      · rintro ⟨g, ⟨p, hp, rfl⟩, rfl⟩; exact hp⟩
  | f :: r, all, hl, ⟨ps, e, hn⟩ => by
    unfold allS
    have hf := hl f (by simp)
    have hmem : ∀ q, q ∈ ps ↔ inP all q := fun q => by
      subst e
      simp only [inP, List.mem_map]
      constructor
      · intro h; exact ⟨bareP q, ⟨q, h, rfl⟩, rfl⟩
      · rintro ⟨g, ⟨p, hp, rfl⟩, rfl⟩; exact hp
    rcases find_look all f.path hf with ⟨h1, h2⟩ | ⟨k, h1, h2, h3⟩
    · have hnot : f.path ∉ ps := by
        intro hc
        obtain ⟨g, hg, hq⟩ := (hmem _).1 hc
        have A : ∀ l : List FileD, g ∈ l → (lookF l f.path).path = f.path := by
          intro l
          induction l with
          | nil => intro h; cases h
          | cons y l ih =>
            intro h
            unfold lookF
            split
            · assumption
            · simp at h
              rcases h with rfl | h
              · rename_i hc2; exact absurd hq hc2
              · exact ih h
        have := A all hg
        rw [h2] at this
        exact hf this.symm
      rw [if_pos h1]
      obtain ⟨ps', a1, a2, a3⟩ := allS_all r (all ++ [⟨f.path, 0, []⟩]) (fun x hx => hl x (by simp [hx])) ⟨ps ++ [f.path], by rw [e, List.map_append]; rfl, by
        rw [List.nodup_append]
        refine ⟨hn, by simp, fun a ha b hb => ?_⟩
        simp at hb
        subst hb
        rintro rfl
        exact hnot ha⟩
      refine ⟨ps', a1, a2, fun q => ?_⟩
      rw [a3 q]
      simp only [inP, List.mem_append, List.mem_cons, List.not_mem_nil, or_false]
      constructor
      · rintro (⟨g, hg | rfl, hq⟩ | ⟨g, hg, hq⟩)
        · exact .inl ⟨g, hg, hq⟩
        · exact .inr ⟨f, .inl rfl, hq⟩
        · exact .inr ⟨g, .inr hg, hq⟩
      · rintro (⟨g, hg, hq⟩ | ⟨g, rfl | hg, hq⟩)
        · exact .inl ⟨g, .inl hg, hq⟩
        · exact .inl ⟨_, .inr rfl, hq⟩
        · exact .inr ⟨g, hg, hq⟩
    · rw [if_neg (by omega)]
      obtain ⟨ps', a1, a2, a3⟩ := allS_all r all (fun x hx => hl x (by simp [hx])) ⟨ps, e, hn⟩
      refine ⟨ps', a1, a2, fun q => ?_⟩
      rw [a3 q]
      have hin : inP all f.path := ⟨lookF all f.path, List.mem_of_getElem? h2, h3⟩
      constructor
      · rintro (k1 | ⟨g, hg, hq⟩)
        · exact .inl k1
        · exact .inr ⟨g, by simp [hg], hq⟩
      · rintro (k1 | ⟨g, hg, hq⟩)
        · exact .inl k1
        · simp at hg
          rcases hg with rfl | hg
          · rw [← hq]; exact .inl hin
          · exact .inr ⟨g, hg, hq⟩
def n3 (x y z : List FileD) : Nat := x.length + y.length + z.length
def path3 (x y z : List FileD) : List Txt := pathM (n3 x y z) x y z
theorem mergeL_is {x y z : List FileD} (hx : AscF x) (hy : AscF y) (hz : AscF z) : mergeL x y z = (path3 x y z).map bareP := by
  obtain ⟨h1, h2, _, _⟩ := path_all (n3 x y z) x y z hx hy hz (Nat.le_refl _)
  obtain ⟨ps, a1, a2, a3⟩ := allS_all (x ++ y ++ z) [] (fun f hf => by
    rcases List.mem_append.1 hf with hf | hf
    · rcases List.mem_append.1 hf with hf | hf
      · exact hx.some f hf
      · exact hy.some f hf
    · exact hz.some f hf) ⟨[], rfl, List.nodup_nil⟩
  have hmp : ∀ l : List Txt, (l.map bareP).map (·.path) = l := fun l => by rw [List.map_map]; exact List.map_id _
  obtain ⟨s1, s2⟩ := s3_all (ps.map bareP) [] (by rw [hmp]; exact a2) (fun _ _ y hy => by cases hy) List.Pairwise.nil
  unfold mergeL sortS
  rw [a1]
  generalize (ps.map bareP).foldl (fun acc x => insS x acc) [] = S at *
  have hS : S = (S.map (·.path)).map bareP := by
    rw [List.map_map]
    have : S.map (bareP ∘ fun f : FileD => f.path) = S.map id := List.map_congr_left (fun f hf => by
      obtain ⟨p, _, rfl⟩ := List.mem_map.1 (((s2 f).1 hf).resolve_right (by simp))
      rfl)
    rw [this, List.map_id]
  rw [hS]
  congr 1
  refine asc_ext _ _ ((List.pairwise_map (f := fun x : FileD => x.path) (R := fun x y => ordS x y < 0)).2 s1) h1 (fun q => ?_)
  show q ∈ S.map (fun f => f.path) ↔ q ∈ path3 x y z
  have hp3 : q ∈ path3 x y z ↔ inP x q ∨ inP y q ∨ inP z q := h2 q
  have hS2 : q ∈ S.map (fun f => f.path) ↔ q ∈ ps := by
    rw [List.mem_map]
    constructor
    · rintro ⟨f, hf, rfl⟩
      obtain ⟨p, hp, rfl⟩ := List.mem_map.1 (((s2 f).1 hf).resolve_right (by simp))
      exact hp
    · intro hq
      exact ⟨bareP q, (s2 _).2 (.inl (List.mem_map.2 ⟨q, hq, rfl⟩)), rfl⟩
  rw [hS2, hp3, a3 q]
  unfold inP
  simp only [List.mem_append, List.not_mem_nil, false_and, exists_false, false_or]
  constructor
  · rintro ⟨g, (hg | hg) | hg, e⟩
    · exact .inl ⟨g, hg, e⟩
    · exact .inr (.inl ⟨g, hg, e⟩)
    · exact .inr (.inr ⟨g, hg, e⟩)
  · rintro (⟨g, hg, e⟩ | ⟨g, hg, e⟩ | ⟨g, hg, e⟩)
    · exact ⟨g, .inl (.inl hg), e⟩
    · exact ⟨g, .inl (.inr hg), e⟩
    · exact ⟨g, .inr hg, e⟩
theorem path3_some {x y z : List FileD} (hx : AscF x) (hy : AscF y) (hz : AscF z) : ∀ q ∈ path3 x y z, q ≠ [] := by
  obtain ⟨_, h2, _, _⟩ := path_all (n3 x y z) x y z hx hy hz (Nat.le_refl _)
  intro q hq
  rcases (h2 q).1 hq with ⟨g, hg, rfl⟩ | ⟨g, hg, rfl⟩ | ⟨g, hg, rfl⟩
  · exact hx.some g hg
  · exact hy.some g hg
  · exact hz.some g hg
def pick3 (x y z : List FileD) (p : Txt) : FileD × Bool := settF (lookF x p) (lookF y p) (lookF z p)
theorem mergeO_path {x y z : List FileD} (hx : AscF x) (hy : AscF y) (hz : AscF z) :
    mergeO x y z (mergeL x y z) = (path3 x y z).flatMap (fun p => out1 (pick3 x y z p)) ∧ mergeT x y z (mergeL x y z) = (path3 x y z).flatMap (fun p => torn1 (pick3 x y z p) p) := by
  have hs := path3_some hx hy hz
  rw [mergeL_is hx hy hz]
  unfold mergeO mergeT
  rw [List.flatMap_map, List.flatMap_map, List.flatMap_def, List.flatMap_def, List.flatMap_def, List.flatMap_def]
  exact ⟨congrArg List.flatten (List.map_congr_left (fun q hq => (one_look x y z q (hs q hq)).1)), congrArg List.flatten (List.map_congr_left (fun q hq => (one_look x y z q (hs q hq)).2))⟩
/-- The document's merging is the one side by side. -/
theorem mergeO_is {x y z : List FileD} (hx : AscF x) (hy : AscF y) (hz : AscF z) :
    mergeO x y z (mergeL x y z) = outM (n3 x y z) x y z ∧ mergeT x y z (mergeL x y z) = tornM (n3 x y z) x y z := by
  obtain ⟨_, _, h3, h4⟩ := path_all (n3 x y z) x y z hx hy hz (Nat.le_refl _)
  obtain ⟨k1, k2⟩ := mergeO_path hx hy hz
  exact ⟨k1.trans h3.symm, k2.trans h4.symm⟩
/-! ### Both sides -/
theorem pick_all : ∀ (ps : List Txt) (b : List FileD), ps.Pairwise (fun x y => ordS x y < 0) → AscF b → (∀ g ∈ b, g.path ∈ ps) → ps.flatMap (fun p => if (lookF b p).path = [] then [] else [lookF b p]) = b
  | [], [], _, _, _ => rfl
  | [], f :: b, _, _, h => absurd (h f (by simp)) (by simp)
  | p :: r, [], hp, hb, h => by
    rw [List.flatMap_cons]
    have := pick_all r [] (List.pairwise_cons.1 hp).2 hb (fun g hg => by cases hg)
    rw [this]
    rfl
  | p :: r, f :: b, hp, hb, h => by
    obtain ⟨hp1, hp2⟩ := List.pairwise_cons.1 hp
    rw [List.flatMap_cons]
    by_cases e : f.path = p
    · have hl : lookF (f :: b) p = f := by show (if f.path = p then f else _) = f; rw [if_pos e]
      rw [hl, if_neg (hb.some f (by simp))]
      have h1 : r.flatMap (fun q => if (lookF (f :: b) q).path = [] then [] else [lookF (f :: b) q]) = r.flatMap (fun q => if (lookF b q).path = [] then [] else [lookF b q]) := by
        rw [List.flatMap_def, List.flatMap_def]
        refine congrArg List.flatten (List.map_congr_left (fun q hq => ?_))
        have : lookF (f :: b) q = lookF b q := by show (if f.path = q then f else _) = _; rw [if_neg (by rw [e]; exact o3_ne (hp1 q hq))]
        rw [this]
      rw [h1, pick_all r b hp2 hb.tail (fun g hg => ?_)]
      · rfl
      · have := h g (by simp [hg])
        simp at this
        rcases this with k | k
        · exact absurd (e.trans k.symm) (o3_ne (hb.head g hg))
        · exact k
    · have hlt : ordS p f.path < 0 := by
        have := h f (by simp)
        simp at this
        rcases this with k | k
        · exact absurd k e
        · exact hp1 _ k
      have hall : ∀ g ∈ f :: b, g.path ≠ p := by
        intro g hg
        simp at hg
        rcases hg with rfl | hg
        · exact e
        · exact (o3_ne (o3_tr hlt (hb.head g hg))).symm
      rw [lookF_none _ _ hall, if_pos (by rfl), List.nil_append]
      refine pick_all r (f :: b) hp2 hb (fun g hg => ?_)
      have := h g hg
      simp at this
      rcases this with k | k
      · exact absurd k (hall g hg)
      · exact k
theorem path3_mem {x y z : List FileD} (hx : AscF x) (hy : AscF y) (hz : AscF z) : (path3 x y z).Pairwise (fun a b => ordS a b < 0) ∧ ∀ q, q ∈ path3 x y z ↔ inP x q ∨ inP y q ∨ inP z q := by
  obtain ⟨h1, h2, _, _⟩ := path_all (n3 x y z) x y z hx hy hz (Nat.le_refl _)
  exact ⟨h1, h2⟩
theorem torn_none (ps : List Txt) (T : Txt → FileD × Bool) (h : ∀ p ∈ ps, (T p).2 = true) : ps.flatMap (fun p => torn1 (T p) p) = [] := by
  rw [List.flatMap_eq_nil_iff]
  intro p hp
  unfold torn1
  rw [if_pos (h p hp)]
theorem side_left {x z : List FileD} (hx : AscF x) (hz : AscF z) : mergeO x x z (mergeL x x z) = z ∧ mergeT x x z (mergeL x x z) = [] := by
  obtain ⟨k1, k2⟩ := mergeO_path hx hx hz
  obtain ⟨p1, p2⟩ := path3_mem hx hx hz
  have hT : ∀ p, pick3 x x z p = (lookF z p, true) := by
    intro p
    unfold pick3 settF
    by_cases h : eqF (lookF x p) (lookF z p) = true ∨ eqF (lookF z p) (lookF x p) = true
    · rw [if_pos h]
      have : lookF x p = lookF z p := by
        rcases h with h | h
        · exact (eqF_iff _ _).1 h
        · exact ((eqF_iff _ _).1 h).symm
      rw [this]
    · rw [if_neg h, if_pos (eqF_self _)]
  refine ⟨k1.trans ?_, k2.trans (torn_none _ _ (fun p _ => by rw [hT]))⟩
  have : (fun p => out1 (pick3 x x z p)) = (fun p => if (lookF z p).path = [] then [] else [lookF z p]) := by
    funext p
    rw [hT]
    rfl
  rw [this]
  exact pick_all _ _ p1 hz (fun g hg => (p2 _).2 (.inr (.inr ⟨g, hg, rfl⟩)))
theorem side_right {x y : List FileD} (hx : AscF x) (hy : AscF y) : mergeO x y x (mergeL x y x) = y ∧ mergeT x y x (mergeL x y x) = [] := by
  obtain ⟨k1, k2⟩ := mergeO_path hx hy hx
  obtain ⟨p1, p2⟩ := path3_mem hx hy hx
  have hT : ∀ p, pick3 x y x p = (lookF y p, true) := by
    intro p
    unfold pick3 settF
    rw [if_pos (.inr (eqF_self _))]
  refine ⟨k1.trans ?_, k2.trans (torn_none _ _ (fun p _ => by rw [hT]))⟩
  have : (fun p => out1 (pick3 x y x p)) = (fun p => if (lookF y p).path = [] then [] else [lookF y p]) := by
    funext p
    rw [hT]
    rfl
  rw [this]
  exact pick_all _ _ p1 hy (fun g hg => (p2 _).2 (.inr (.inl ⟨g, hg, rfl⟩)))
theorem set_swap (b x y : FileD) : (settF b x y).2 = (settF b y x).2 ∧ ((settF b x y).2 = true → (settF b x y).1 = (settF b y x).1) := by
  unfold settF
  rw [eqF_comm y x]
  by_cases h1 : eqF x y = true
  · have := (eqF_iff _ _).1 h1
    subst this
    exact ⟨rfl, fun _ => rfl⟩
  · by_cases h2 : eqF y b = true
    · by_cases h3 : eqF x b = true
      · have e2 := (eqF_iff _ _).1 h2
        have e3 := (eqF_iff _ _).1 h3
        subst e2
        exact absurd h3 h1
      · rw [if_pos (.inr h2), if_neg (fun h => h.elim h1 h3), if_pos h2]
        exact ⟨rfl, fun _ => rfl⟩
    · rw [if_neg (fun h => h.elim h1 h2)]
      by_cases h3 : eqF x b = true
      · rw [if_pos h3, if_pos (.inr h3)]
        exact ⟨rfl, fun _ => rfl⟩
      · rw [if_neg h3, if_neg (fun h => h.elim h1 h3), if_neg h2]
        exact ⟨rfl, fun h => by cases h⟩
theorem sides_swap {x y z : List FileD} (hx : AscF x) (hy : AscF y) (hz : AscF z) :
    mergeT x y z (mergeL x y z) = mergeT x z y (mergeL x z y) ∧ (mergeT x y z (mergeL x y z) = [] → mergeO x y z (mergeL x y z) = mergeO x z y (mergeL x z y)) := by
  obtain ⟨k1, k2⟩ := mergeO_path hx hy hz
  obtain ⟨j1, j2⟩ := mergeO_path hx hz hy
  obtain ⟨p1, p2⟩ := path3_mem hx hy hz
  obtain ⟨q1, q2⟩ := path3_mem hx hz hy
  have e : path3 x y z = path3 x z y := asc_ext _ _ p1 q1 (fun q => by
    rw [p2 q, q2 q]
    constructor
    · rintro (h | h | h)
      · exact .inl h
      · exact .inr (.inr h)
      · exact .inr (.inl h)
    · rintro (h | h | h)
      · exact .inl h
      · exact .inr (.inr h)
      · exact .inr (.inl h))
  rw [k2, j2, k1, j1, e]
  refine ⟨?_, fun h => ?_⟩
  · rw [List.flatMap_def, List.flatMap_def]
    refine congrArg List.flatten (List.map_congr_left (fun p _ => ?_))
    unfold torn1 pick3
    rw [(set_swap _ _ _).1]
  · rw [List.flatMap_eq_nil_iff] at h
    rw [List.flatMap_def, List.flatMap_def]
    refine congrArg List.flatten (List.map_congr_left (fun p hp => ?_))
    have ht : (pick3 x y z p).2 = true := by
      have := h p hp
      unfold torn1 at this
      by_cases c : (pick3 x y z p).2 = true
      · exact c
      · rw [if_neg c] at this; cases this
    unfold out1
    rw [show (pick3 x y z p).1 = (pick3 x z y p).1 from (set_swap _ _ _).2 ht]
end Go.Proofs.YtfgimhgkjodcgaaDoor

/- Plain mathematics of trees: names, paths, their order; files, items, what is wrong with them. Of no program. -/
import Derived.Test.YtamiacmnobklaaaGreatDoorCdX
import Derived.Test.YtamiacmnobklaaaGreatDoorMarkMath
import Derived.Test.YtamiacmnobklaaaGreatDoorRowN
import Derived.Test.YtamiacmnobklaaaGreatDoorRows
import Derived.Test.YtamiacmnobklaaaGreatDoorAwX
import Derived.BigQuiet
import Derived.Deep.Draws
import Derived.Laws.Bits128
import Derived.Laws.IdiomStrings
import Derived.Lib.AppendStr
import Derived.Lib.Hide
import Derived.OpenShut
import Derived.ProofKit
import Derived.ShutString
import Derived.SizedLaws
import Derived.SliceStrings
import Derived.WalkKit
import Derived.WalkLawsBesides
import Derived.WalkSpells
set_option linter.unusedVariables false
namespace Go.Proofs.YtamiacmnobklaaaGreatDoor
open Go.RowKit

/-! ### Names -/
def namesG : Txt → Txt → List Txt
  | cur, [] => [cur]
  | cur, c :: t => if c = 47 then cur :: namesG [] t else namesG (cur ++ [c]) t
def namesS (s : Txt) : List Txt := namesG [] s
def okC (c : UInt8) : Bool := decide (33 ≤ c.toNat) && decide (c.toNat ≤ 126)
def nameS (s : Txt) : Bool := !(s == []) && !(s == [46]) && !(s == [46, 46]) && decide (s.length ≤ 32) && s.all okC
def pathS (s : Txt) : Int := if 200 < s.length then 4 else if (namesS s).all nameS then 0 else 10
theorem namesG_len : ∀ (t cur : Txt), (namesG cur t).length ≤ t.length + 1
  | [], cur => by simp [namesG]
  | c :: t, cur => by
    unfold namesG
    split
    · have := namesG_len t []; simp; omega
    · have := namesG_len t (cur ++ [c]); simp; omega
/-! ### The order -/
def kb (c : UInt8) : Int := if c = 47 then 0 else (c.toNat : Int) + 1
def ordS : Txt → Txt → Int
  | [], [] => 0
  | [], _ :: _ => -1
  | _ :: _, [] => 1
  | a :: s, b :: t => if kb a < kb b then -1 else if kb b < kb a then 1 else ordS s t
theorem kb_inj {a b : UInt8} (h : kb a = kb b) : a = b := by
  unfold kb at h
  by_cases h1 : a = 47
  · by_cases h2 : b = 47
    · rw [h1, h2]
    · rw [if_pos h1, if_neg h2] at h; omega
  · by_cases h2 : b = 47
    · rw [if_neg h1, if_pos h2] at h; omega
    · rw [if_neg h1, if_neg h2] at h
      exact UInt8.toNat_inj.1 (by omega)
theorem kb_nonneg (a : UInt8) : 0 ≤ kb a := by unfold kb; split <;> omega
theorem ordS_range : ∀ a b : Txt, ordS a b = -1 ∨ ordS a b = 0 ∨ ordS a b = 1
  | [], [] => .inr (.inl rfl)
  | [], _ :: _ => .inl rfl
  | _ :: _, [] => .inr (.inr rfl)
  | a :: s, b :: t => by
    unfold ordS
    split
    · exact .inl rfl
    · split
      · exact .inr (.inr rfl)
      · exact ordS_range s t
theorem ordS_self : ∀ a : Txt, ordS a a = 0
  | [] => rfl
  | a :: s => by
    unfold ordS
    rw [if_neg (by omega), if_neg (by omega)]
    exact ordS_self s
theorem ordS_eq : ∀ a b : Txt, ordS a b = 0 → a = b
  | [], [], _ => rfl
  | [], _ :: _, h => absurd (show (-1 : Int) = 0 from h) (by decide)
  | _ :: _, [], h => absurd (show (1 : Int) = 0 from h) (by decide)
  | a :: s, b :: t, h => by
    unfold ordS at h
    by_cases h1 : kb a < kb b
    · rw [if_pos h1] at h; exact absurd h (by decide)
    · rw [if_neg h1] at h
      by_cases h2 : kb b < kb a
      · rw [if_pos h2] at h; exact absurd h (by decide)
      · rw [if_neg h2] at h
        rw [kb_inj (show kb a = kb b by omega), ordS_eq s t h]
theorem ordS_neg : ∀ a b : Txt, ordS b a = - ordS a b
  | [], [] => rfl
  | [], _ :: _ => rfl
  | _ :: _, [] => rfl
  | a :: s, b :: t => by
    unfold ordS
    by_cases h1 : kb a < kb b
    · rw [if_pos h1, if_neg (by omega), if_pos h1]; rfl
    · by_cases h2 : kb b < kb a
      · rw [if_pos h2, if_neg h1, if_pos h2]
      · rw [if_neg h2, if_neg h1, if_neg h1, if_neg h2]
        exact ordS_neg s t
theorem ordS_trans : ∀ a b c : Txt, ordS a b ≤ 0 → ordS b c ≤ 0 → ordS a c ≤ 0 ∧ (ordS a c = 0 → ordS a b = 0 ∧ ordS b c = 0)
  | [], [], c, h1, h2 => ⟨h2, fun h => ⟨rfl, h⟩⟩
  | [], _ :: _, [], h1, h2 => absurd (show (1 : Int) ≤ 0 from h2) (by decide)
  | [], _ :: _, _ :: _, h1, h2 => ⟨show (-1 : Int) ≤ 0 by decide, fun h => absurd (show (-1 : Int) = 0 from h) (by decide)⟩
  | _ :: _, [], c, h1, h2 => absurd (show (1 : Int) ≤ 0 from h1) (by decide)
  | _ :: _, _ :: _, [], h1, h2 => absurd (show (1 : Int) ≤ 0 from h2) (by decide)
  | a :: s, b :: t, c :: u, h1, h2 => by
    unfold ordS at h1 h2 ⊢
    by_cases ab : kb a < kb b
    · rw [if_pos ab]
      by_cases bc : kb b < kb c
      · rw [if_pos (show kb a < kb c by omega)]; exact ⟨by decide, fun h => absurd h (by decide)⟩
      · rw [if_neg bc] at h2
        by_cases cb : kb c < kb b
        · rw [if_pos cb] at h2; exact absurd h2 (by decide)
        · rw [if_pos (show kb a < kb c by omega)]; exact ⟨by decide, fun h => absurd h (by decide)⟩
    · rw [if_neg ab] at h1 ⊢
      by_cases ba : kb b < kb a
      · rw [if_pos ba] at h1; exact absurd h1 (by decide)
      · rw [if_neg ba] at h1 ⊢
        by_cases bc : kb b < kb c
        · rw [if_pos bc, if_pos (show kb a < kb c by omega)]; exact ⟨by decide, fun h => absurd h (by decide)⟩
        · rw [if_neg bc] at h2 ⊢
          by_cases cb : kb c < kb b
          · rw [if_pos cb] at h2; exact absurd h2 (by decide)
          · rw [if_neg cb] at h2 ⊢
            rw [if_neg (show ¬ kb a < kb c by omega), if_neg (show ¬ kb c < kb a by omega)]
            exact ordS_trans s t u h1 h2
/-- As it goes along two texts, byte by byte; -1 where one has ended. -/
def kbAt (a : Txt) (i : Nat) : Int := match a[i]? with
  | some c => kb c
  | none => -1
theorem ordS_at (a b : Txt) (i : Nat) : ordS (a.drop i) (b.drop i) = if i < a.length ∨ i < b.length then (if kbAt a i < kbAt b i then -1 else if kbAt b i < kbAt a i then 1 else ordS (a.drop (i + 1)) (b.drop (i + 1))) else 0 := by
  by_cases ha : i < a.length
  · by_cases hb : i < b.length
    · rw [List.drop_eq_getElem_cons ha, List.drop_eq_getElem_cons hb, if_pos (.inl ha)]
      have e1 : kbAt a i = kb a[i] := by unfold kbAt; rw [List.getElem?_eq_getElem ha]
      have e2 : kbAt b i = kb b[i] := by unfold kbAt; rw [List.getElem?_eq_getElem hb]
      rw [e1, e2]
      rfl
    · rw [List.drop_eq_getElem_cons ha, show b.drop i = [] from List.drop_eq_nil_of_le (by omega), if_pos (.inl ha)]
      have e1 : kbAt a i = kb a[i] := by unfold kbAt; rw [List.getElem?_eq_getElem ha]
      have e2 : kbAt b i = -1 := by unfold kbAt; rw [List.getElem?_eq_none (by omega)]
      have := kb_nonneg a[i]
      rw [e1, e2, if_neg (by omega), if_pos (by omega)]
      rfl
  · by_cases hb : i < b.length
    · rw [show a.drop i = [] from List.drop_eq_nil_of_le (by omega), List.drop_eq_getElem_cons hb, if_pos (.inr hb)]
      have e1 : kbAt a i = -1 := by unfold kbAt; rw [List.getElem?_eq_none (by omega)]
      have e2 : kbAt b i = kb b[i] := by unfold kbAt; rw [List.getElem?_eq_getElem hb]
      have := kb_nonneg b[i]
      rw [e1, e2, if_pos (by omega)]
      rfl
    · rw [show a.drop i = [] from List.drop_eq_nil_of_le (by omega), show b.drop i = [] from List.drop_eq_nil_of_le (by omega), if_neg (by omega)]
      rfl
/-- The one lies in the other. -/
def withinS (s i : Txt) : Bool := decide (i.length < s.length) && (s.take (i.length + 1) == i ++ [47])
/-! ### What is wrong with paths -/
def togF : Option Txt → List Txt → Int
  | _, [] => 0
  | q, p :: r => if pathS p ≠ 0 then pathS p else match q with
    | none => togF (some p) r
    | some q => if ordS p q < 0 then 12 else if p = q ∨ withinS p q = true then 9 else togF (some p) r
def togS (l : List Txt) : Int := if 256 < l.length then 7 else togF none l
/-! ### Files, items, changes -/
structure FileD where
  path : Txt
  mode : Int
  data : Txt
def encF (x : FileD) : List Value := [.string ⟨x.path.toArray⟩, .int .i64 x.mode, .string ⟨x.data.toArray⟩]
theorem encF_ok : EncN encF 3 := ⟨fun _ => rfl, fun x u hu => by simp [encF] at hu; rcases hu with rfl | rfl | rfl <;> rfl⟩
structure ItemD where
  path : Txt
  mode : Int
  size : Int
  mark : Txt
def encI (x : ItemD) : List Value := [.string ⟨x.path.toArray⟩, .int .i64 x.mode, .int .i64 x.size, .string ⟨x.mark.toArray⟩]
theorem encI_ok : EncN encI 4 := ⟨fun _ => rfl, fun x u hu => by simp [encI] at hu; rcases hu with rfl | rfl | rfl | rfl <;> rfl⟩
structure ChgD where
  kind : Int
  path : Txt
def encG (x : ChgD) : List Value := [.int .i64 x.kind, .string ⟨x.path.toArray⟩]
theorem encG_ok : EncN encG 2 := ⟨fun _ => rfl, fun x u hu => by simp [encG] at hu; rcases hu with rfl | rfl <;> rfl⟩
def fileE (x : FileD) : Int := if x.mode < 0 ∨ 511 < x.mode then 11 else if 65536 < x.data.length then 4 else 0
def itemE (x : ItemD) : Int := if x.mode < 0 ∨ 511 < x.mode then 11 else if x.size < 0 ∨ 65536 < x.size then 4 else if x.mark.length ≠ 32 then 5 else 0
/-- The first error of a list. -/
def firstE {α : Type} (E : α → Int) : List α → Int
  | [] => 0
  | x :: r => if E x ≠ 0 then E x else firstE E r
def checkS (l : List FileD) : Int := if togS (l.map (·.path)) ≠ 0 then togS (l.map (·.path)) else firstE fileE l
def rightS (l : List ItemD) : Int := if togS (l.map (·.path)) ≠ 0 then togS (l.map (·.path)) else firstE itemE l
/-! ### In order -/
def insS (x : FileD) : List FileD → List FileD
  | [] => [x]
  | y :: r => if ordS x.path y.path < 0 then x :: y :: r else y :: insS x r
def sortS (l : List FileD) : List FileD := l.foldl (fun acc x => insS x acc) []
/-! ### Bytes -/
def sharedS : Txt → Txt → Nat
  | a :: s, b :: t => if a = b then sharedS s t + 1 else 0
  | _, _ => 0
def mbE : Txt → List ItemD → Txt
  | _, [] => []
  | last, x :: r => nb (sharedS last x.path) ++ tb (x.path.drop (sharedS last x.path)) ++ nb x.mode.toNat ++ nb x.size.toNat ++ x.mark ++ mbE x.path r
def mbytesS (l : List ItemD) : Txt × Int := if rightS l ≠ 0 then ([], rightS l) else (nb l.length ++ mbE [] l, 0)
end Go.Proofs.YtamiacmnobklaaaGreatDoor

/- Generations, policies: mathematics. -/
import Derived.Test.YtiknfohadnjkiaaFrame
import Derived.Test.YtiknfohadnjkiaaGen
import Derived.Test.YtiknfohadnjkiaaOwnL
import Derived.Test.YtiknfohadnjkiaaRowN
set_option linter.unusedVariables false
namespace Go.Proofs.Ytiknfohadnjkiaa
open Go.RowKit

structure GenD where
  gen : Int
  basis : Int
  bytes : Int
  mark : List UInt8
def encGn (x : GenD) : List Value := [.int .i64 x.gen, .int .i64 x.basis, .int .i64 x.bytes, .string ⟨x.mark.toArray⟩]
theorem encGn_ok : EncN encGn 4 := ⟨fun _ => rfl, fun x u hu => by simp [encGn] at hu; rcases hu with rfl | rfl | rfl | rfl <;> rfl⟩
structure GenOk (x : GenD) : Prop where
  g : -9223372036854775808 ≤ x.gen ∧ x.gen ≤ 9223372036854775807
  b : -9223372036854775808 ≤ x.basis ∧ x.basis ≤ 9223372036854775807
  n : -9223372036854775808 ≤ x.bytes ∧ x.bytes ≤ 9223372036854775807
  m : x.mark.length ≤ 140737488351232
def rightP (last every : Int) : Bool := decide (1 ≤ last ∧ last ≤ 1048576 ∧ 0 ≤ every ∧ every ≤ 1048576)
def keepsP (last every g top : Int) : Bool := rightP last every && decide (0 ≤ g ∧ g ≤ top) && (decide (top - g < last) || decide (0 < every ∧ g.tmod every = 0))
def floorP (last every top : Int) : Int := if rightP last every = true ∧ 0 ≤ top ∧ last ≤ top then top - last + 1 else 0
/-- The place of a generation; as many as there are: it is not there. -/
def atN : List GenD → Int → Nat
  | [], _ => 0
  | x :: r, g => if x.gen = g then 0 else atN r g + 1
theorem atN_le : ∀ (l : List GenD) (g : Int), atN l g ≤ l.length
  | [], _ => Nat.le_refl _
  | x :: r, g => by
    unfold atN
    split
    · exact Nat.zero_le _
    · have := atN_le r g; rw [List.length_cons]; omega
theorem atN_get : ∀ {l : List GenD} {g : Int} (h : atN l g < l.length), l[atN l g].gen = g
  | [], _, h => by simp at h
  | x :: r, g, h => by
    by_cases e : x.gen = g
    · have e2 : atN (x :: r) g = 0 := by unfold atN; rw [if_pos e]
      simp only [e2, List.getElem_cons_zero]
      exact e
    · have e2 : atN (x :: r) g = atN r g + 1 := by show (if x.gen = g then 0 else atN r g + 1) = _; rw [if_neg e]
      have h2 : atN r g < r.length := by rw [e2, List.length_cons] at h; omega
      simp only [e2, List.getElem_cons_succ]
      exact atN_get h2
theorem atN_first : ∀ {l : List GenD} {g : Int} {i : Nat} (hi : i < l.length), (∀ x ∈ l.take i, x.gen ≠ g) → l[i].gen = g → atN l g = i
  | [], _, _, hi, _, _ => by simp at hi
  | x :: r, g, 0, _, _, he => by
    rw [List.getElem_cons_zero] at he
    unfold atN
    rw [if_pos he]
  | x :: r, g, i + 1, hi, hn, he => by
    rw [List.getElem_cons_succ] at he
    unfold atN
    rw [if_neg (hn x (by simp)), atN_first (l := r) (by simpa using hi) (fun y hy => hn y (by simp [hy])) he]
theorem atN_none : ∀ {l : List GenD} {g : Int}, (∀ x ∈ l, x.gen ≠ g) → atN l g = l.length
  | [], _, _ => rfl
  | x :: r, g, h => by
    unfold atN
    rw [if_neg (h x (by simp)), atN_none (l := r) (fun y hy => h y (by simp [hy])), List.length_cons]
theorem atN_lt {l : List GenD} {g : Int} : atN l g < l.length ↔ g ∈ l.map (·.gen) := by
  constructor
  · intro h
    exact List.mem_map.2 ⟨_, List.getElem_mem h, atN_get h⟩
  · intro h
    rcases Nat.lt_or_ge (atN l g) l.length with c | c
    · exact c
    · exfalso
      obtain ⟨x, hx, e⟩ := List.mem_map.1 h
      obtain ⟨i, hi, rfl⟩ := List.getElem_of_mem hx
      have key : ∀ (l : List GenD) (i : Nat) (hi : i < l.length), l[i].gen = g → atN l g ≤ i := by
        intro l
        induction l with
        | nil => intro i hi; simp at hi
        | cons y r ih =>
          intro i hi he
          by_cases e0 : y.gen = g
          · unfold atN; rw [if_pos e0]; exact Nat.zero_le _
          · cases i with
            | zero => rw [List.getElem_cons_zero] at he; exact absurd he e0
            | succ i =>
              rw [List.getElem_cons_succ] at he
              have := ih i (by simpa using hi) he
              unfold atN
              rw [if_neg e0]
              omega
      have := key l i hi e
      omega
/-- Where a generation lies, as it is told. -/
def atZ (l : List GenD) (g : Int) : Int := if atN l g < l.length then (atN l g : Int) else -1
/-- What is wrong with one behind those. -/
def badG (pre : List GenD) (x : GenD) : Int :=
  if x.gen < 0 ∨ x.bytes < 0 ∨ 524288 < x.bytes then 2
  else if ∃ y, pre.getLast? = some y ∧ x.gen ≤ y.gen then 12
  else if x.basis ≠ x.gen ∧ x.basis ∉ pre.map (·.gen) then 13 else 0
def chkG : List GenD → List GenD → Int
  | _, [] => 0
  | pre, x :: r => if badG pre x ≠ 0 then badG pre x else chkG (pre ++ [x]) r
def checkG (l : List GenD) : Int := if 4096 < l.length then 4 else chkG [] l
/-- The road to a generation, in a list that may be. -/
def roadF : Nat → List GenD → Int → List Int
  | 0, _, _ => []
  | f + 1, l, g => match l[atN l g]? with
    | none => []
    | some x => if x.basis = g then [g] else roadF f (l.take (atN l g)) x.basis ++ [g]
def roadL (l : List GenD) (g : Int) : List Int := roadF (l.length + 1) l g
def roadE (l : List GenD) (g : Int) : Int := if checkG l ≠ 0 then checkG l else if atN l g < l.length then 0 else 8
def roadG (l : List GenD) (g : Int) : List Int := if roadE l g ≠ 0 then [] else roadL l g
def needE (l : List GenD) (wt : List Int) : Int := if checkG l ≠ 0 then checkG l else if ∀ g ∈ wt, atN l g < l.length then 0 else 8
def needL (l : List GenD) (wt : List Int) : List Int := (l.filter (fun x => decide (x.gen ∈ wt) && decide (x.basis ∉ wt))).map (·.gen)
def needG (l : List GenD) (wt : List Int) : List Int := if needE l wt ≠ 0 then [] else needL l wt
/-- The number that a list has in the place that a generation has in the other one. -/
def wholeAt : List Int → List Int → Int → Option Int
  | n :: ns, v :: vs, g => match wholeAt ns vs g with
    | some u => some u
    | none => if n = g then some v else none
  | _, _, _ => none
def afterX (nd wh : List Int) (x : GenD) : GenD := match wholeAt nd wh x.gen with
  | some v => ⟨x.gen, x.gen, v, x.mark⟩
  | none => x
def afterE (l : List GenD) (wt wh : List Int) : Int := if needE l wt ≠ 0 then needE l wt else if (needL l wt).length = wh.length then 0 else 1
def afterL (l : List GenD) (wt wh : List Int) : List GenD := (l.filter (fun x => decide (x.gen ∈ wt))).map (afterX (needL l wt) wh)
def afterG (l : List GenD) (wt wh : List Int) : List GenD := if afterE l wt wh ≠ 0 then [] else afterL l wt wh
def costG (l : List GenD) (g : Int) : Int := ((roadG l g).map (fun q => match l[atN l q]? with | some x => x.bytes | none => 0)).sum
def deepG (l : List GenD) : Nat := if checkG l ≠ 0 then 0 else (l.map (fun x => (roadL l x.gen).length)).foldl max 0
end Go.Proofs.Ytiknfohadnjkiaa

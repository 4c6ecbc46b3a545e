/- Reading a manifest: the mathematics, and the text of the document's reader. -/
import Derived.Test.YtamiacmnobklaaaGreatDoorFrame
import Derived.Test.YtamiacmnobklaaaGreatDoorGen
import Derived.Test.YtamiacmnobklaaaGreatDoorMarkMath
import Derived.Test.YtamiacmnobklaaaGreatDoorOwnL
import Derived.Test.YtamiacmnobklaaaGreatDoorPtX
import Derived.Test.YtamiacmnobklaaaGreatDoorCdX
import Derived.Test.YtamiacmnobklaaaGreatDoorRefNumW
import Derived.Test.YtamiacmnobklaaaGreatDoorRefReadW
import Derived.Test.YtamiacmnobklaaaGreatDoorRowN
import Derived.Test.YtamiacmnobklaaaGreatDoorRows
import Derived.Test.YtamiacmnobklaaaGreatDoorTreeMath
import Derived.BigQuiet
import Derived.Deep.QuietTactic
import Derived.Lib.Hide
import Derived.WalkKit
import Derived.WalkLawsBesides
import Derived.WalkSpells
set_option linter.unusedVariables false
namespace Go.Proofs.YtamiacmnobklaaaGreatDoor
open Go.RowKit

/-- What of one item is read: how much is shared, the rest, mode, size, mark; and the reader behind it. -/
structure OneR where
  n : Int
  rest : Txt
  mode : Int
  size : Int
  mark : Txt
  r : RS
def oneR (r : RS) : OneR :=
  let c := rCount r 200
  let t := rText c.2 200
  let m := rNum t.2
  let z := rNum m.2
  let k := rRaw z.2 32
  ⟨c.1, t.1, m.1, z.1, k.1, k.2⟩
/-- May an item share so much with the path ahead? -/
def shareBad (last : Txt) (n : Int) (rest : Txt) : Prop := (last.length : Int) < n ∨ (sharedS last (last.take n.toNat ++ rest) : Int) ≠ n
instance (last : Txt) (n : Int) (rest : Txt) : Decidable (shareBad last n rest) := by unfold shareBad; infer_instance
def ofF : Nat → RS → Txt → List ItemD → List ItemD × Int × RS
  | 0, r, _, out => (out, 0, r)
  | k + 1, r, last, out =>
    let x := oneR r
    if x.r.e ≠ 0 then ([], x.r.e, x.r) else
    if shareBad last x.n x.rest then ([], 5, x.r) else
    ofF k x.r (last.take x.n.toNat ++ x.rest) (out ++ [⟨last.take x.n.toNat ++ x.rest, x.mode, x.size, x.mark⟩])
def ofEnd (l : List ItemD) (e : Int) (r : RS) : List ItemD × Int :=
  if e ≠ 0 then ([], e) else if (rEnd r).e ≠ 0 then ([], (rEnd r).e) else if rightS l ≠ 0 then ([], rightS l) else (l, 0)
def ofS (s : Txt) : List ItemD × Int :=
  ofEnd (ofF (rCount ⟨s, 0⟩ 256).1.toNat (rCount ⟨s, 0⟩ 256).2 [] []).1 (ofF (rCount ⟨s, 0⟩ 256).1.toNat (rCount ⟨s, 0⟩ 256).2 [] []).2.1 (ofF (rCount ⟨s, 0⟩ 256).1.toNat (rCount ⟨s, 0⟩ 256).2 [] []).2.2
set_option maxRecDepth 100000 in
theorem refTextR_any (w : World) (q : Nat) (S : List UInt8) (s : RS) (most : Int) (h : RefRd w q S s) (hS : S.length ≤ 1000000) (hm0 : 0 ≤ most) (hm : most ≤ 4000000) :
    Calls Tryz.prog 87 #[ptr q, .int .i64 most] w (RDoes w q S (.string ⟨(rText s most).1.toArray⟩) (rText s most).2) := by
  have CN := Lib.hid (refCountR_any w q S s most h hS hm0)
  have hok : s.ok := by obtain ⟨_, _, _, _, hok⟩ := h; exact hok
  obtain ⟨z, hz1, _, hz3⟩ := rCount_nat s most hok
  have hz2 : z ≤ 4000000 := by
    rcases rCount_cases s most hok with ⟨h1, _⟩ | ⟨_, h2, h3⟩
    · omega
    · rw [h2] at hz1; omega
  have HT := Lib.hid (show rText s most = rRaw (rCount s most).2 (rCount s most).1 from rfl)
  rw [HT.out]
  rw [hz1] at CN
  rw [hz1]
  clear hz1 hz3
  generalize (rCount s most).2 = r at *
  clear HT
  go_enter Tryz.func87, Tryz.ntmps87
  go_wp2_with fail
  refine CN.out.mono ?_
  rintro e w1 ⟨rfl, hr1, hk1⟩
  have HK1 := Lib.hid hk1
  have RW := Lib.hid (refRaw_any w1 q S r z z rfl hz2 hr1 hS)
  clear hk1 CN
  go_wp2_with fail
  refine RW.out.mono ?_
  rintro e w2 ⟨rfl, hr2, hk2⟩
  have HK2 := Lib.hid (HK1.out.trans hk2)
  have HR2 := Lib.hid hr2
  clear hk2 RW hr2
  go_wp2_with fail
  go_ret
  exact ⟨rfl, HR2.out, HK2.out⟩
end Go.Proofs.YtamiacmnobklaaaGreatDoor

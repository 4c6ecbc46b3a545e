/- What stays after making whole may be, has all that is wanted, and no road in it is longer: mathematics. -/
import Derived.Test.YtgejocceegadhaaFrame
import Derived.Test.YtgejocceegadhaaKeepMath
import Derived.Test.YtgejocceegadhaaRowN
import Derived.Deep.Draws
import Derived.Laws.Bits128
import Derived.Laws.IdiomStrings
import Derived.Lib.AppendStr
import Derived.Lib.Hide
import Derived.WalkKit
set_option linter.unusedVariables false
namespace Go.Proofs.Ytgejocceegadhaa
open Go.RowKit

/-- A list that may be: one by one. -/
structure GWf (l : List GenD) : Prop where
  good : ∀ i (hi : i < l.length), 0 ≤ l[i].gen ∧ 0 ≤ l[i].bytes ∧ l[i].bytes ≤ 524288
  up : ∀ i j (hj : j < l.length) (h : i < j), l[i].gen < l[j].gen
  base : ∀ i (hi : i < l.length), l[i].basis ≠ l[i].gen → ∃ j, ∃ h : j < i, l[j].gen = l[i].basis
theorem chkG_iff : ∀ (l pre : List GenD), chkG pre l = 0 ↔ ∀ i (hi : i < l.length), badG (pre ++ l.take i) l[i] = 0
  | [], pre => ⟨fun _ i hi => absurd hi (by simp), fun _ => rfl⟩
  | x :: r, pre => by
    unfold chkG
    by_cases h : badG pre x = 0
    · rw [if_neg (fun c => c h), chkG_iff r (pre ++ [x])]
      constructor
      · intro k i hi
        cases i with
        | zero => simpa using h
        | succ i => simpa using k i (by simpa using hi)
      · intro k i hi
        have := k (i + 1) (by simpa using hi)
        rw [List.getElem_cons_succ, List.take_succ_cons] at this
        rwa [List.append_assoc, List.singleton_append]
    · rw [if_pos h]
      constructor
      · exact fun c => absurd c h
      · intro k
        have := k 0 (by simp)
        rw [List.getElem_cons_zero, List.take_zero, List.append_nil] at this
        exact absurd this h
theorem badG_iff (pre : List GenD) (x : GenD) : badG pre x = 0 ↔ (0 ≤ x.gen ∧ 0 ≤ x.bytes ∧ x.bytes ≤ 524288) ∧ (∀ y, pre.getLast? = some y → y.gen < x.gen) ∧ (x.basis = x.gen ∨ x.basis ∈ pre.map (·.gen)) := by
  unfold badG
  by_cases h1 : x.gen < 0 ∨ x.bytes < 0 ∨ 524288 < x.bytes
  · rw [if_pos h1]
    constructor
    · intro c; omega
    · rintro ⟨h, _⟩; omega
  · rw [if_neg h1]
    by_cases h2 : ∃ y, pre.getLast? = some y ∧ x.gen ≤ y.gen
    · rw [if_pos h2]
      constructor
      · intro c; omega
      · rintro ⟨_, h, _⟩
        obtain ⟨y, hy, hle⟩ := h2
        have := h y hy
        omega
    · rw [if_neg h2]
      by_cases h3 : x.basis ≠ x.gen ∧ x.basis ∉ pre.map (·.gen)
      · rw [if_pos h3]
        constructor
        · intro c; omega
        · rintro ⟨_, _, h | h⟩
          · exact absurd h h3.1
          · exact absurd h h3.2
      · rw [if_neg h3]
        refine ⟨fun _ => ⟨by omega, fun y hy => ?_, ?_⟩, fun _ => rfl⟩
        · rcases Int.lt_or_le y.gen x.gen with c | c
          · exact c
          · exact absurd ⟨y, hy, c⟩ h2
        · by_cases c : x.basis = x.gen
          · exact .inl c
          · refine .inr ?_
            by_cases d : x.basis ∈ pre.map (·.gen)
            · exact d
            · exact absurd ⟨c, d⟩ h3
theorem mem_take_gen {l : List GenD} {i : Nat} {b : Int} : b ∈ (l.take i).map (·.gen) ↔ ∃ j, ∃ h : j < i ∧ j < l.length, (l[j]'h.2).gen = b := by
  constructor
  · intro h
    obtain ⟨x, hx, rfl⟩ := List.mem_map.1 h
    obtain ⟨j, hj, rfl⟩ := List.getElem_of_mem hx
    rw [List.length_take] at hj
    exact ⟨j, ⟨by omega, by omega⟩, by rw [List.getElem_take]⟩
  · rintro ⟨j, h, rfl⟩
    refine List.mem_map.2 ⟨l[j]'h.2, ?_, rfl⟩
    have : (l.take i)[j]'(by rw [List.length_take]; omega) = l[j]'h.2 := List.getElem_take
    rw [← this]
    exact List.getElem_mem _
theorem last_take {l : List GenD} {i : Nat} (hi : i < l.length) : (l.take (i + 1)).getLast? = some l[i] := by
  rw [List.getLast?_eq_getElem?, List.length_take, List.getElem?_take]
  have : min (i + 1) l.length - 1 = i := by omega
  rw [this, if_pos (by omega), List.getElem?_eq_getElem hi]
theorem gwf_iff (l : List GenD) : chkG [] l = 0 ↔ GWf l := by
  rw [chkG_iff]
  constructor
  · intro h
    have hb := fun i (hi : i < l.length) => (badG_iff _ _).1 (by simpa using h i hi)
    have one : ∀ i (hi : i + 1 < l.length), l[i].gen < l[i + 1].gen := fun i hi => (hb (i + 1) hi).2.1 _ (last_take (by omega))
    refine ⟨fun i hi => (hb i hi).1, ?_, fun i hi hne => ?_⟩
    · intro i j hj
      induction j with
      | zero => intro c; omega
      | succ j ih =>
        intro c
        rcases Nat.lt_or_ge i j with d | d
        · exact Int.lt_trans (ih (by omega) d) (one j hj)
        · have : i = j := by omega
          subst this
          exact one i hj
    · rcases (hb i hi).2.2 with c | c
      · exact absurd c hne
      · obtain ⟨j, hj, e⟩ := mem_take_gen.1 c
        exact ⟨j, hj.1, e⟩
  · intro h i hi
    rw [List.nil_append]
    refine (badG_iff _ _).2 ⟨h.good i hi, fun y hy => ?_, ?_⟩
    · cases i with
      | zero => simp at hy
      | succ i =>
        rw [last_take (by omega)] at hy
        injection hy with hy
        subst hy
        exact h.up i (i + 1) hi (by omega)
    · by_cases c : l[i].basis = l[i].gen
      · exact .inl c
      · obtain ⟨j, hj, e⟩ := h.base i hi c
        exact .inr (mem_take_gen.2 ⟨j, ⟨hj, by omega⟩, e⟩)
/-- In such a list a generation lies in one place. -/
theorem GWf.at {l : List GenD} (h : GWf l) {i : Nat} (hi : i < l.length) : atN l l[i].gen = i := by
  refine atN_first hi (fun x hx => ?_) rfl
  obtain ⟨j, hj, rfl⟩ := List.getElem_of_mem hx
  rw [List.length_take] at hj
  rw [List.getElem_take]
  have := h.up j i hi (by omega)
  omega
/-- The same, told of members. -/
structure GMem (l : List GenD) : Prop where
  good : ∀ x ∈ l, 0 ≤ x.gen ∧ 0 ≤ x.bytes ∧ x.bytes ≤ 524288
  up : l.Pairwise (fun x y => x.gen < y.gen)
  base : ∀ x ∈ l, x.basis ≠ x.gen → ∃ y ∈ l, y.gen = x.basis ∧ y.gen < x.gen
theorem GWf.mem {l : List GenD} (h : GWf l) : GMem l := by
  refine ⟨fun x hx => ?_, List.pairwise_iff_getElem.2 fun i j hi hj c => h.up i j hj c, fun x hx hne => ?_⟩
  · obtain ⟨i, hi, rfl⟩ := List.getElem_of_mem hx
    exact h.good i hi
  · obtain ⟨i, hi, rfl⟩ := List.getElem_of_mem hx
    obtain ⟨j, hj, e⟩ := h.base i hi hne
    exact ⟨l[j], List.getElem_mem _, e, h.up j i hi hj⟩
theorem GMem.wf {l : List GenD} (h : GMem l) : GWf l := by
  have hu := List.pairwise_iff_getElem.1 h.up
  refine ⟨fun i hi => h.good _ (List.getElem_mem hi), fun i j hj c => hu i j (by omega) hj c, fun i hi hne => ?_⟩
  obtain ⟨y, hy, e, hlt⟩ := h.base _ (List.getElem_mem hi) hne
  obtain ⟨j, hj, rfl⟩ := List.getElem_of_mem hy
  rcases Nat.lt_or_ge j i with c | c
  · exact ⟨j, c, e⟩
  · exfalso
    rcases Nat.lt_or_ge i j with d | d
    · have := hu i j hi hj d
      omega
    · have : i = j := by omega
      subst this
      omega
theorem GMem.one {l : List GenD} (h : GMem l) {x y : GenD} (hx : x ∈ l) (hy : y ∈ l) (e : x.gen = y.gen) : x = y := by
  obtain ⟨i, hi, rfl⟩ := List.getElem_of_mem hx
  obtain ⟨j, hj, rfl⟩ := List.getElem_of_mem hy
  have hu := List.pairwise_iff_getElem.1 h.up
  rcases Nat.lt_trichotomy i j with c | c | c
  · have := hu i j hi hj c; omega
  · subst c; rfl
  · have := hu j i hj hi c; omega
/-- A road by its steps. -/
inductive Way (l : List GenD) : Int → Nat → Prop
  | whole {x : GenD} (hx : x ∈ l) (h : x.basis = x.gen) : Way l x.gen 1
  | step {x : GenD} {n : Nat} (hx : x ∈ l) (h : x.basis ≠ x.gen) (w : Way l x.basis n) : Way l x.gen (n + 1)
theorem Way.more {l m : List GenD} (hs : ∀ x ∈ l, x ∈ m) {g : Int} {n : Nat} (h : Way l g n) : Way m g n := by
  induction h with
  | whole hx h => exact .whole (hs _ hx) h
  | step hx h _ ih => exact .step (hs _ hx) h ih
theorem Way.same {l : List GenD} (hl : GMem l) {g : Int} {n : Nat} (h : Way l g n) : ∀ {m : Nat}, Way l g m → n = m := by
  induction h with
  | @whole x hx h =>
    intro m k
    generalize hg : x.gen = g at k
    cases k with
    | whole hy k => rfl
    | @step y q hy k w =>
      have := hl.one hx hy hg
      subst this
      exact absurd h k
  | @step x n hx h w ih =>
    intro m k
    generalize hg : x.gen = g at k
    cases k with
    | @whole y hy k =>
      have := hl.one hx hy hg
      subst this
      exact absurd k h
    | @step y q hy k w =>
      have := hl.one hx hy hg
      subst this
      rw [ih w]
theorem GWf.take {l : List GenD} (h : GWf l) (k : Nat) : GWf (l.take k) := by
  refine ⟨fun i hi => ?_, fun i j hj c => ?_, fun i hi hne => ?_⟩
  · rw [List.getElem_take]
    exact h.good i _
  · rw [List.getElem_take, List.getElem_take]
    exact h.up i j _ c
  · rw [List.getElem_take] at hne ⊢
    obtain ⟨j, hj, e⟩ := h.base i _ hne
    exact ⟨j, hj, by rw [List.getElem_take]; exact e⟩
theorem roadF_succ (f : Nat) (l : List GenD) (g : Int) (h : atN l g < l.length) : roadF (f + 1) l g = if l[atN l g].basis = g then [g] else roadF f (l.take (atN l g)) l[atN l g].basis ++ [g] := by
  show (match l[atN l g]? with | none => [] | some x => if x.basis = g then [g] else roadF f (l.take (atN l g)) x.basis ++ [g]) = _
  rw [List.getElem?_eq_getElem h]
theorem way_roadF : ∀ (f : Nat) (l : List GenD) (g : Int), GWf l → l.length < f → atN l g < l.length → Way l g (roadF f l g).length
  | 0, _, _, _, h, _ => absurd h (by omega)
  | f + 1, l, g, hl, hf, ha => by
    have hg := atN_get ha
    have hm : l[atN l g] ∈ l := List.getElem_mem ha
    rw [roadF_succ f l g ha]
    by_cases c : l[atN l g].basis = g
    · rw [if_pos c]
      have := Way.whole hm (by rw [c, hg])
      rw [hg] at this
      exact this
    · rw [if_neg c, List.length_append]
      have hne : l[atN l g].basis ≠ l[atN l g].gen := by rw [hg]; exact c
      obtain ⟨j, hj, e⟩ := hl.base _ ha hne
      have hb : atN (l.take (atN l g)) l[atN l g].basis < (l.take (atN l g)).length := atN_lt.2 (mem_take_gen.2 ⟨j, ⟨hj, by omega⟩, e⟩)
      have := Way.step hm hne ((way_roadF f _ _ (hl.take _) (by rw [List.length_take]; omega) hb).more (fun x hx => List.mem_of_mem_take hx))
      rw [hg] at this
      exact this
theorem way_road {l : List GenD} (hl : GWf l) {g : Int} (ha : atN l g < l.length) : Way l g (roadL l g).length := way_roadF _ l g hl (Nat.lt_succ_self _) ha
theorem wholeAt_mem : ∀ {nd wh : List Int} {g v : Int}, wholeAt nd wh g = some v → v ∈ wh ∧ g ∈ nd
  | [], _, _, _, h => by simp [wholeAt] at h
  | _ :: _, [], _, _, h => by simp [wholeAt] at h
  | n :: ns, u :: us, g, v, h => by
    unfold wholeAt at h
    cases k : wholeAt ns us g with
    | some z =>
      rw [k] at h
      injection h with h
      subst h
      obtain ⟨a, b⟩ := wholeAt_mem k
      exact ⟨List.mem_cons_of_mem _ a, List.mem_cons_of_mem _ b⟩
    | none =>
      rw [k] at h
      by_cases e : n = g
      · simp only [if_pos e] at h
        injection h with h
        subst h
        exact ⟨List.mem_cons_self .., by rw [e]; exact List.mem_cons_self ..⟩
      · simp [if_neg e] at h
theorem wholeAt_in : ∀ {nd wh : List Int} {g : Int}, nd.length = wh.length → g ∈ nd → ∃ v, wholeAt nd wh g = some v
  | [], _, _, _, h => by simp at h
  | _ :: _, [], _, e, _ => by simp at e
  | n :: ns, u :: us, g, e, h => by
    unfold wholeAt
    cases k : wholeAt ns us g with
    | some z => exact ⟨z, rfl⟩
    | none =>
      by_cases c : n = g
      · exact ⟨u, by simp only [if_pos c]⟩
      · obtain ⟨z, hz⟩ := wholeAt_in (nd := ns) (wh := us) (by simpa using e) (by rcases List.mem_cons.1 h with d | d; exact absurd d.symm c; exact d)
        rw [hz] at k; cases k
theorem afterX_gen (nd wh : List Int) (x : GenD) : (afterX nd wh x).gen = x.gen := by
  unfold afterX
  cases wholeAt nd wh x.gen <;> rfl
theorem mem_needL {l : List GenD} {wt : List Int} {x : GenD} (hx : x ∈ l) (h1 : x.gen ∈ wt) (h2 : x.basis ∉ wt) : x.gen ∈ needL l wt :=
  List.mem_map.2 ⟨x, List.mem_filter.2 ⟨hx, by simp [h1, h2]⟩, rfl⟩
theorem mem_after {l : List GenD} {wt nd wh : List Int} {x : GenD} (hx : x ∈ l) (h1 : x.gen ∈ wt) : afterX nd wh x ∈ (l.filter (fun x => decide (x.gen ∈ wt))).map (afterX nd wh) :=
  List.mem_map.2 ⟨x, List.mem_filter.2 ⟨hx, by simp [h1]⟩, rfl⟩
/-- One that stays: made whole, or as it was and its basis stays too. -/
theorem after_el {l : List GenD} {wt wh : List Int} (hw : (needL l wt).length = wh.length) (hv : ∀ v ∈ wh, 0 ≤ v ∧ v ≤ 524288) {x : GenD} (hx : x ∈ l) (h1 : x.gen ∈ wt) : (∃ v, (0 ≤ v ∧ v ≤ 524288) ∧ afterX (needL l wt) wh x = ⟨x.gen, x.gen, v, x.mark⟩) ∨ (afterX (needL l wt) wh x = x ∧ x.basis ∈ wt) := by
  cases k : wholeAt (needL l wt) wh x.gen with
  | some v => exact .inl ⟨v, hv v (wholeAt_mem k).1, by unfold afterX; rw [k]⟩
  | none =>
    refine .inr ⟨by unfold afterX; rw [k], ?_⟩
    by_cases c : x.basis ∈ wt
    · exact c
    · obtain ⟨v, hv⟩ := wholeAt_in hw (mem_needL hx h1 c)
      rw [hv] at k; cases k
theorem after_mem {l : List GenD} {wt wh : List Int} (hl : GMem l) (hw : (needL l wt).length = wh.length) (hv : ∀ v ∈ wh, 0 ≤ v ∧ v ≤ 524288) : GMem (afterL l wt wh) := by
  unfold afterL
  refine ⟨fun y hy => ?_, ?_, fun y hy hne => ?_⟩
  · obtain ⟨x, hx, rfl⟩ := List.mem_map.1 hy
    obtain ⟨hx, h1⟩ := List.mem_filter.1 hx
    have h1 : x.gen ∈ wt := by simpa using h1
    have g := hl.good x hx
    rcases after_el hw hv hx h1 with ⟨v, hb, e⟩ | ⟨e, _⟩
    · rw [e]; exact ⟨g.1, hb⟩
    · rw [e]; exact g
  · refine List.pairwise_map.2 ((hl.up.sublist List.filter_sublist).imp (fun {a b} h => ?_))
    rw [afterX_gen, afterX_gen]
    exact h
  · obtain ⟨x, hx, rfl⟩ := List.mem_map.1 hy
    obtain ⟨hx, h1⟩ := List.mem_filter.1 hx
    have h1 : x.gen ∈ wt := by simpa using h1
    rcases after_el hw hv hx h1 with ⟨v, hb, e⟩ | ⟨e, hb⟩
    · rw [e] at hne; exact absurd rfl hne
    · rw [e] at hne ⊢
      obtain ⟨z, hz, h3, h4⟩ := hl.base x hx hne
      exact ⟨_, mem_after hz (by rw [h3]; exact hb), by rw [afterX_gen]; exact h3, by rw [afterX_gen]; exact h4⟩
theorem after_way {l : List GenD} {wt wh : List Int} (hw : (needL l wt).length = wh.length) (hv : ∀ v ∈ wh, 0 ≤ v ∧ v ≤ 524288) {g : Int} {n : Nat} (h : Way l g n) : g ∈ wt → ∃ m, m ≤ n ∧ Way (afterL l wt wh) g m := by
  induction h with
  | @whole x hx h =>
    intro h1
    have hm := mem_after (nd := needL l wt) (wh := wh) hx h1
    refine ⟨1, Nat.le_refl _, ?_⟩
    have := Way.whole (l := afterL l wt wh) hm (by
      rcases after_el hw hv hx h1 with ⟨v, hb, e⟩ | ⟨e, _⟩
      · rw [e]
      · rw [e]; exact h)
    rw [afterX_gen] at this
    exact this
  | @step x n hx h w ih =>
    intro h1
    have hm := mem_after (nd := needL l wt) (wh := wh) hx h1
    rcases after_el hw hv hx h1 with ⟨v, hb, e⟩ | ⟨e, hb⟩
    · refine ⟨1, by omega, ?_⟩
      have := Way.whole (l := afterL l wt wh) hm (by rw [e])
      rw [afterX_gen] at this
      exact this
    · obtain ⟨m, h2, w2⟩ := ih hb
      refine ⟨m + 1, by omega, ?_⟩
      rw [e] at hm
      exact Way.step (l := afterL l wt wh) hm h w2
theorem checkG_wf {l : List GenD} (h : checkG l = 0) : GWf l ∧ l.length ≤ 4096 := by
  unfold checkG at h
  by_cases c : 4096 < l.length
  · rw [if_pos c] at h; omega
  · rw [if_neg c] at h
    exact ⟨(gwf_iff l).1 h, by omega⟩
theorem wf_checkG {l : List GenD} (h : GWf l) (c : l.length ≤ 4096) : checkG l = 0 := by
  unfold checkG
  rw [if_neg (by omega)]
  exact (gwf_iff l).2 h
/-- What KeepHolds asks. -/
theorem keep_holds {l : List GenD} {wt : List Int} {n : Int} (h : needE l wt = 0) (hn : 0 ≤ n ∧ n ≤ 524288) :
    afterE l wt (List.replicate (needG l wt).length n) = 0 ∧ checkG (afterG l wt (List.replicate (needG l wt).length n)) = 0 ∧
      ∀ g ∈ wt, roadE (afterG l wt (List.replicate (needG l wt).length n)) g = 0 ∧ roadE l g = 0 ∧ (roadG (afterG l wt (List.replicate (needG l wt).length n)) g).length ≤ (roadG l g).length := by
  have hc : checkG l = 0 := by
    by_cases c : checkG l = 0
    · exact c
    · unfold needE at h; rw [if_pos c] at h; exact absurd h c
  have ha : ∀ g ∈ wt, atN l g < l.length := by
    unfold needE at h
    rw [if_neg (by omega)] at h
    by_cases c : ∀ g ∈ wt, atN l g < l.length
    · exact c
    · rw [if_neg c] at h; omega
  have hnd : needG l wt = needL l wt := by unfold needG; rw [if_neg (by omega)]
  rw [hnd]
  have hw : (needL l wt).length = (List.replicate (needL l wt).length n).length := by rw [List.length_replicate]
  have hv : ∀ v ∈ List.replicate (needL l wt).length n, 0 ≤ v ∧ v ≤ 524288 := fun v hv => by rw [(List.mem_replicate.1 hv).2]; exact hn
  generalize List.replicate (needL l wt).length n = wh at *
  have e1 : afterE l wt wh = 0 := by unfold afterE; rw [if_neg (by omega), if_pos hw]
  have e2 : afterG l wt wh = afterL l wt wh := by unfold afterG; rw [if_neg (by omega)]
  rw [e2]
  obtain ⟨hl, hlen⟩ := checkG_wf hc
  have hA := (after_mem hl.mem hw hv)
  have hAl : (afterL l wt wh).length ≤ 4096 := by
    unfold afterL
    rw [List.length_map]
    exact Nat.le_trans (List.length_filter_le _ _) hlen
  have cA := wf_checkG hA.wf hAl
  refine ⟨e1, cA, fun g hg => ?_⟩
  have a1 := ha g hg
  have w1 := way_road hl a1
  obtain ⟨m, hm, w2⟩ := after_way hw hv w1 hg
  have a2 : atN (afterL l wt wh) g < (afterL l wt wh).length := by
    refine atN_lt.2 ?_
    cases w2 with
    | whole hx _ => exact List.mem_map.2 ⟨_, hx, rfl⟩
    | step hx _ _ => exact List.mem_map.2 ⟨_, hx, rfl⟩
  have r1 : roadE (afterL l wt wh) g = 0 := by unfold roadE; rw [if_neg (by omega), if_pos a2]
  have r2 : roadE l g = 0 := by unfold roadE; rw [if_neg (by omega), if_pos a1]
  refine ⟨r1, r2, ?_⟩
  unfold roadG
  rw [if_neg (by omega), if_neg (by omega), (way_road hA.wf a2).same hA w2]
  exact hm
end Go.Proofs.Ytgejocceegadhaa

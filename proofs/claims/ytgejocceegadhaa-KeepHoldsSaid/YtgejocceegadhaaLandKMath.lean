/- How deep generations lie, roads by one pass from the end on, what stays and which of it must be made whole: mathematics of the landed keep. -/
import Derived.Test.YtgejocceegadhaaKeepHoldMath
import Derived.Test.YtgejocceegadhaaKeepMath
import Derived.Test.YtgejocceegadhaaRefKeep4W
import Derived.Test.YtgejocceegadhaaRefKeep6W
import Derived.Test.YtgejocceegadhaaRowN
import Derived.Test.YtgejocceegadhaaRows
import Derived.BigQuiet
import Derived.Deep.Draws
import Derived.Deep.QuietTactic
import Derived.Laws.Bits128
import Derived.Laws.IdiomStrings
import Derived.Lib.AppendStr
import Derived.Lib.Hide
import Derived.Maps.OwnOps
import Derived.Maps.OwnSet
import Derived.Maps.RangeWalk
import Derived.OpenShut
import Derived.Outline
import Derived.ProofKit
import Derived.ShutString
import Derived.SizedLaws
import Derived.SliceStrings
import Derived.WalkKit
import Derived.WalkLawsBesides
import Derived.WalkSpells
set_option linter.unusedVariables false
namespace Go.Proofs.Ytgejocceegadhaa
open Go.RowKit

theorem atN_app : ∀ {l : List GenD} {g : Int} (m : List GenD), atN l g < l.length → atN (l ++ m) g = atN l g
  | [], _, _, h => by simp at h
  | x :: r, g, m, h => by
    by_cases e : x.gen = g
    · rw [List.cons_append]; unfold atN; rw [if_pos e, if_pos e]
    · have e2 : atN (x :: r) g = atN r g + 1 := by show (if x.gen = g then 0 else atN r g + 1) = _; rw [if_neg e]
      have h2 : atN r g < r.length := by rw [e2, List.length_cons] at h; omega
      rw [List.cons_append, e2]
      show (if x.gen = g then 0 else atN (r ++ m) g + 1) = _
      rw [if_neg e, atN_app m h2]
theorem atN_app_not : ∀ {l : List GenD} {g : Int} (x : GenD), ¬ atN l g < l.length → atN (l ++ [x]) g = if x.gen = g then l.length else l.length + 1
  | [], g, x, _ => by
    show (if x.gen = g then 0 else atN [] g + 1) = _
    rfl
  | y :: r, g, x, h => by
    by_cases e : y.gen = g
    · exfalso
      apply h
      unfold atN
      rw [if_pos e]
      simp
    · have e2 : atN (y :: r) g = atN r g + 1 := by show (if y.gen = g then 0 else atN r g + 1) = _; rw [if_neg e]
      have h2 : ¬ atN r g < r.length := by rw [e2, List.length_cons] at h; omega
      rw [List.cons_append]
      show (if y.gen = g then 0 else atN (r ++ [x]) g + 1) = _
      rw [if_neg e, atN_app_not x h2]
      split <;> simp
theorem roadL_app {l : List GenD} {g : Int} (m : List GenD) (h : atN l g < l.length) : roadL (l ++ m) g = roadL l g := by
  have h2 : atN (l ++ m) g = atN l g := atN_app m h
  have h3 : atN (l ++ m) g < (l ++ m).length := by rw [h2, List.length_append]; omega
  rw [roadL_step h3, roadL_step h]
  have e1 : (l ++ m)[atN (l ++ m) g] = l[atN l g] := by
    simp only [h2]
    rw [List.getElem_append_left h]
  have e2 : (l ++ m).take (atN (l ++ m) g) = l.take (atN l g) := by rw [h2, List.take_append_of_le_length (by omega)]
  rw [e1, e2]
theorem roadL_none {l : List GenD} {g : Int} (h : ¬ atN l g < l.length) : roadL l g = [] := by
  have : l[atN l g]? = none := List.getElem?_eq_none (by omega)
  unfold roadL
  rw [roadF, this]
theorem roadL_new {l : List GenD} {x : GenD} (h : ¬ atN l x.gen < l.length) : roadL (l ++ [x]) x.gen = if x.basis = x.gen then [x.gen] else roadL l x.basis ++ [x.gen] := by
  have h2 : atN (l ++ [x]) x.gen = l.length := by rw [atN_app_not x h, if_pos rfl]
  have h3 : atN (l ++ [x]) x.gen < (l ++ [x]).length := by rw [h2, List.length_append]; simp
  rw [roadL_step h3]
  have e1 : (l ++ [x])[atN (l ++ [x]) x.gen] = x := by
    simp only [h2]
    rw [List.getElem_append_right (Nat.le_refl _)]
    simp
  have e2 : (l ++ [x]).take (atN (l ++ [x]) x.gen) = l := by rw [h2, List.take_append_of_le_length (Nat.le_refl _), List.take_length]
  rw [e1, e2]
theorem roadL_other {l : List GenD} {x : GenD} {g : Int} (h : g ≠ x.gen) : roadL (l ++ [x]) g = roadL l g := by
  by_cases c : atN l g < l.length
  · exact roadL_app _ c
  · rw [roadL_none c, roadL_none]
    rw [atN_app_not x c, if_neg (Ne.symm h), List.length_append]
    simp
/-- How deep a generation lies; none that is there lies at 0. -/
def depG (l : List GenD) (g : Int) : Nat := (roadL l g).length
theorem depG_pos {l : List GenD} {g : Int} : 0 < depG l g ↔ atN l g < l.length := by
  unfold depG
  by_cases c : atN l g < l.length
  · refine ⟨fun _ => c, fun _ => ?_⟩
    rw [roadL_step c]
    split <;> simp
  · rw [roadL_none c]
    exact ⟨fun h => absurd h (by simp), fun h => absurd h c⟩
theorem depG_zero {l : List GenD} {g : Int} : depG l g = 0 ↔ g ∉ l.map (·.gen) := by
  rw [← atN_lt, ← depG_pos]
  omega
theorem depG_le (l : List GenD) (g : Int) : depG l g ≤ l.length := roadL_len _ l g (Nat.le_refl _)
theorem depG_snoc {l : List GenD} {x : GenD} (h : x.gen ∉ l.map (·.gen)) (g : Int) : depG (l ++ [x]) g = if g = x.gen then depG l x.basis + 1 else depG l g := by
  have h0 : ¬ atN l x.gen < l.length := fun c => h (atN_lt.1 c)
  by_cases e : g = x.gen
  · rw [if_pos e, e]
    unfold depG
    rw [roadL_new h0]
    by_cases c : x.basis = x.gen
    · rw [if_pos c, c, roadL_none h0]; rfl
    · rw [if_neg c, List.length_append]; rfl
  · rw [if_neg e]
    unfold depG
    rw [roadL_other e]
/-- The map of depths. -/
structure DepIs (D : DataW Unit) (l : List GenD) : Prop where
  tidy : Maps.Tidy D
  has : ∀ g : Int, Maps.has D (.int .i64 g) = decide (g ∈ l.map (·.gen))
  at' : ∀ g : Int, D.atKey (.int .i64 g) (.lit (.int .i64 0)) = .lit (.int .i64 (depG l g : Nat))
theorem DepIs.start : DepIs (.map []) [] := ⟨Maps.tidy_empty, fun m => by simp [Maps.has], fun g => rfl⟩
theorem DepIs.put {D : DataW Unit} {l : List GenD} (h : DepIs D l) (x : GenD) (hx : x.gen ∉ l.map (·.gen)) : DepIs (D.put (.int .i64 x.gen) (.lit (.int .i64 ((depG l x.basis : Nat) + 1 : Int)))) (l ++ [x]) := by
  have hk : WideAt.IsKeyLit (.int .i64 x.gen) := trivial
  refine ⟨h.tidy.put hk _, fun g => ?_, fun g => ?_⟩
  · by_cases e : g = x.gen
    · subst e
      rw [Maps.has_put_same h.tidy.isMap hk]
      exact (decide_eq_true (by simp)).symm
    · rw [Maps.has_put_other (fun e' => e (by injection e')), h.has]
      simp [e]
  · rw [depG_snoc hx]
    by_cases e : g = x.gen
    · subst e
      rw [Maps.atKey_put_same h.tidy.isMap hk, if_pos rfl]
      rfl
    · rw [Maps.atKey_put_other (fun e' => e (by injection e')), if_neg e]
      exact h.at' g
/-- The greatest of those that came. -/
theorem foldl_max_le : ∀ (l : List Nat) (a : Nat), a ≤ l.foldl max a ∧ ∀ x ∈ l, x ≤ l.foldl max a
  | [], a => ⟨Nat.le_refl _, fun x h => by simp at h⟩
  | y :: r, a => by
    obtain ⟨h1, h2⟩ := foldl_max_le r (max a y)
    rw [List.foldl_cons]
    refine ⟨by omega, fun x hx => ?_⟩
    rcases List.mem_cons.1 hx with rfl | c
    · omega
    · exact h2 x c
theorem foldl_max_in : ∀ (l : List Nat) (a : Nat), l.foldl max a = a ∨ l.foldl max a ∈ l
  | [], a => .inl rfl
  | y :: r, a => by
    rw [List.foldl_cons]
    rcases foldl_max_in r (max a y) with h | h
    · rcases Nat.le_total a y with c | c
      · exact .inr (by rw [h, Nat.max_eq_right c]; exact List.mem_cons_self)
      · exact .inl (by rw [h, Nat.max_eq_left c])
    · exact .inr (List.mem_cons_of_mem _ h)
theorem foldl_max_is {l : List Nat} {m : Nat} (h1 : ∀ x ∈ l, x ≤ m) (h2 : m = 0 ∨ m ∈ l) : l.foldl max 0 = m := by
  obtain ⟨k1, k2⟩ := foldl_max_le l 0
  rcases foldl_max_in l 0 with c | c
  · rcases h2 with d | d
    · omega
    · have := k2 m d; omega
  · have := h1 _ c
    rcases h2 with d | d
    · omega
    · have := k2 m d; omega
theorem deepG_is {l : List GenD} {m : Nat} (hc : checkG l = 0) (h1 : ∀ g ∈ l.map (·.gen), depG l g ≤ m) (h2 : m = 0 ∨ ∃ g ∈ l.map (·.gen), depG l g = m) : deepG l = m := by
  unfold deepG
  rw [if_neg (by rw [hc]; simp)]
  refine foldl_max_is (fun x hx => ?_) ?_
  · obtain ⟨y, hy, rfl⟩ := List.mem_map.1 hx
    exact h1 _ (List.mem_map.2 ⟨y, hy, rfl⟩)
  · rcases h2 with c | ⟨g, hg, c⟩
    · exact .inl c
    · obtain ⟨y, hy, rfl⟩ := List.mem_map.1 hg
      exact .inr (List.mem_map.2 ⟨y, hy, c⟩)
/-- What stands along the road, from its end on: one pass over the list from its end on. -/
def wayR : List GenD → Int → List GenD
  | [], _ => []
  | x :: r, g => if x.gen = g then x :: wayR r x.basis else wayR r g
def wayL (l : List GenD) (g : Int) : List GenD := (wayR l.reverse g).reverse
theorem wayL_snoc (l : List GenD) (x : GenD) (g : Int) : wayL (l ++ [x]) g = if x.gen = g then wayL l x.basis ++ [x] else wayL l g := by
  unfold wayL
  rw [List.reverse_append, List.reverse_singleton, List.singleton_append, wayR]
  split
  · rw [List.reverse_cons]
  · rfl
theorem wayR_mem : ∀ (l : List GenD) (g : Int), ∀ y ∈ wayR l g, y ∈ l
  | [], _, y, h => by simp [wayR] at h
  | x :: r, g, y, h => by
    rw [wayR] at h
    split at h
    · rcases List.mem_cons.1 h with rfl | c
      · exact List.mem_cons_self
      · exact List.mem_cons_of_mem _ (wayR_mem r _ y c)
    · exact List.mem_cons_of_mem _ (wayR_mem r _ y h)
theorem wayL_mem {l : List GenD} {g : Int} {y : GenD} (h : y ∈ wayL l g) : y ∈ l := by
  unfold wayL at h
  rw [List.mem_reverse] at h
  exact List.mem_reverse.1 (wayR_mem _ _ _ h)
theorem wayR_len : ∀ (l : List GenD) (g : Int), (wayR l g).length ≤ l.length
  | [], _ => Nat.le_refl _
  | x :: r, g => by
    rw [wayR]
    split
    · have := wayR_len r x.basis
      rw [List.length_cons, List.length_cons]
      omega
    · have := wayR_len r g
      rw [List.length_cons]
      omega
theorem GWf.last {l : List GenD} {x : GenD} (h : GWf (l ++ [x])) : x.gen ∉ l.map (·.gen) := by
  intro c
  obtain ⟨y, hy, e⟩ := List.mem_map.1 c
  obtain ⟨i, hi, rfl⟩ := List.getElem_of_mem hy
  have := h.up i l.length (by simp) hi
  rw [List.getElem_append_left hi, List.getElem_append_right (Nat.le_refl _)] at this
  simp at this
  omega
theorem GWf.init {l : List GenD} {x : GenD} (h : GWf (l ++ [x])) : GWf l := by
  have := h.take l.length
  rwa [List.take_append_of_le_length (Nat.le_refl _), List.take_length] at this
theorem wayL_road : ∀ (n : Nat) (l : List GenD) (g : Int), l.length = n → GWf l → (wayL l g).map (·.gen) = roadL l g
  | 0, l, g, hn, _ => by
    have : l = [] := List.eq_nil_of_length_eq_zero hn
    subst this
    rfl
  | n + 1, l, g, hn, hw => by
    obtain ⟨r, x, rfl⟩ : ∃ r x, l = r ++ [x] := ⟨_, _, (List.dropLast_concat_getLast (l := l) (by intro c; subst c; simp at hn)).symm⟩
    have hr : r.length = n := by simpa using hn
    have h0 : ¬ atN r x.gen < r.length := fun c => hw.last (atN_lt.1 c)
    rw [wayL_snoc]
    by_cases e : x.gen = g
    · subst e
      rw [if_pos rfl, roadL_new h0, List.map_append, wayL_road n r x.basis hr hw.init]
      by_cases c : x.basis = x.gen
      · rw [if_pos c, c, roadL_none h0]; rfl
      · rw [if_neg c]; rfl
    · rw [if_neg e, roadL_other (Ne.symm e), wayL_road n r g hr hw.init]
theorem wayL_len {l : List GenD} (h : GWf l) (g : Int) : (wayL l g).length = depG l g := by
  unfold depG
  rw [← wayL_road _ l g rfl h, List.length_map]
theorem cost_way {l : List GenD} {g : Int} (h : roadE l g = 0) : costG l g = ((wayL l g).map (·.bytes)).sum := by
  have hc : checkG l = 0 := by
    unfold roadE at h
    split at h
    · rename_i c; exact absurd h c
    · rename_i c; exact Classical.byContradiction c
  have hw := (checkG_wf hc).1
  unfold costG roadG
  rw [if_neg (by rw [h]; simp), ← wayL_road _ l g rfl hw, List.map_map]
  congr 1
  refine List.map_congr_left fun y hy => ?_
  have hy2 := wayL_mem hy
  obtain ⟨i, hi, rfl⟩ := List.getElem_of_mem hy2
  show (match l[atN l l[i].gen]? with | some x => x.bytes | none => 0) = _
  rw [hw.at hi, List.getElem?_eq_getElem hi]
/-- What is wanted, as it is. -/
def stayG (l : List GenD) (wt : List Int) : List GenD := l.filter (fun x => decide (x.gen ∈ wt))
theorem stayG_snoc (l : List GenD) (x : GenD) (wt : List Int) : stayG (l ++ [x]) wt = stayG l wt ++ if x.gen ∈ wt then [x] else [] := by
  unfold stayG
  rw [List.filter_append]
  by_cases c : x.gen ∈ wt
  · rw [if_pos c]; simp [c]
  · rw [if_neg c]; simp [c]
theorem stayG_len (l : List GenD) (wt : List Int) : (stayG l wt).length ≤ l.length := List.length_filter_le _ _
/-- They rise. -/
def UpG (s : List GenD) : Prop := ∀ i j (hj : j < s.length) (c : i < j), s[i].gen < s[j].gen
theorem stayG_up {l : List GenD} (h : GWf l) (wt : List Int) : UpG (stayG l wt) := by
  have : (stayG l wt).Pairwise (fun x y => x.gen < y.gen) := h.mem.up.filter _
  have := List.pairwise_iff_getElem.1 this
  exact fun i j hj c => this i j (by omega) hj c
theorem stayG_basis {l : List GenD} (h : GWf l) {wt : List Int} {x : GenD} (hx : x ∈ stayG l wt) : x.basis ∈ (stayG l wt).map (·.gen) ↔ x.basis ∈ wt := by
  unfold stayG at hx ⊢
  rw [List.mem_filter] at hx
  have hxw : x.gen ∈ wt := by simpa using hx.2
  constructor
  · intro c
    obtain ⟨y, hy, e⟩ := List.mem_map.1 c
    rw [List.mem_filter] at hy
    have := hy.2
    rw [← e]
    simpa using this
  · intro c
    by_cases e : x.basis = x.gen
    · exact List.mem_map.2 ⟨x, List.mem_filter.2 hx, e.symm⟩
    · obtain ⟨y, hy, e2, _⟩ := h.mem.base x hx.1 e
      exact List.mem_map.2 ⟨y, List.mem_filter.2 ⟨hy, by rw [e2]; simpa using c⟩, e2⟩
/-- The places of those whose basis is not among them. -/
def badP (s : List GenD) (i : Nat) : Bool := match s[i]? with
  | some x => decide (x.basis ∉ s.map (·.gen))
  | none => false
def placesTo (s : List GenD) (i : Nat) : List Nat := (List.range i).filter (badP s)
def placesG (s : List GenD) : List Nat := placesTo s s.length
theorem placesTo_succ {s : List GenD} {i : Nat} (hi : i < s.length) : placesTo s (i + 1) = placesTo s i ++ if s[i].basis ∈ s.map (·.gen) then [] else [i] := by
  unfold placesTo
  rw [List.range_succ, List.filter_append]
  congr 1
  have : badP s i = decide (s[i].basis ∉ s.map (·.gen)) := by unfold badP; rw [List.getElem?_eq_getElem hi]
  by_cases c : s[i].basis ∈ s.map (·.gen)
  · rw [if_pos c, List.filter_cons_of_neg (by rw [this, decide_eq_false (not_not_intro c)]; simp)]; rfl
  · rw [if_neg c, List.filter_cons_of_pos (by rw [this, decide_eq_true c])]; rfl
theorem placesTo_len (s : List GenD) (i : Nat) : (placesTo s i).length ≤ i := by
  have := List.length_filter_le (badP s) (List.range i)
  rwa [List.length_range] at this
theorem placesG_lt {s : List GenD} {i : Nat} (h : i ∈ placesG s) : i < s.length := by
  unfold placesG placesTo at h
  exact List.mem_range.1 (List.mem_filter.1 h).1
def genAt (s : List GenD) (i : Nat) : Int := match s[i]? with
  | some x => x.gen
  | none => 0
theorem genAt_get {s : List GenD} {i : Nat} (h : i < s.length) : genAt s i = s[i].gen := by unfold genAt; rw [List.getElem?_eq_getElem h]
theorem range_filter_map {α β : Type} (s : List α) (q : Nat → Bool) (p : α → Bool) (f : Nat → β) (k : α → β) (hq : ∀ i (h : i < s.length), q i = p s[i]) (hf : ∀ i (h : i < s.length), f i = k s[i]) : ∀ n, n ≤ s.length → ((List.range n).filter q).map f = ((s.take n).filter p).map k := by
  intro n
  induction n with
  | zero => intro _; rfl
  | succ n ih =>
    intro hn
    rw [List.range_succ, List.filter_append, List.map_append, ih (by omega), List.take_succ_eq_append_getElem (by omega), List.filter_append, List.map_append]
    congr 1
    have h1 := hq n (by omega)
    have h2 := hf n (by omega)
    by_cases c : p (s[n]'(by omega)) = true
    · rw [List.filter_cons_of_pos (by rw [h1]; exact c), List.filter_cons_of_pos c]
      simp [h2]
    · rw [List.filter_cons_of_neg (by rw [h1]; exact c), List.filter_cons_of_neg c]
      rfl
theorem places_need {l : List GenD} (h : GWf l) (wt : List Int) : (placesG (stayG l wt)).map (genAt (stayG l wt)) = needL l wt := by
  unfold placesG placesTo
  rw [range_filter_map (stayG l wt) (badP (stayG l wt)) (fun x => decide (x.basis ∉ wt)) (genAt (stayG l wt)) (·.gen) (fun i hi => ?_) (fun i hi => genAt_get hi) _ (Nat.le_refl _), List.take_length]
  · unfold stayG needL
    rw [List.filter_filter]
    congr 1
    refine List.filter_congr fun x _ => ?_
    rw [Bool.and_comm]
  · unfold badP
    rw [List.getElem?_eq_getElem hi]
    have := stayG_basis h (wt := wt) (List.getElem_mem hi)
    by_cases c : (stayG l wt)[i].basis ∈ wt
    · rw [decide_eq_false (not_not_intro c)]
      exact decide_eq_false (not_not_intro (this.2 c))
    · rw [decide_eq_true c]
      exact decide_eq_true (fun k => c (this.1 k))
theorem afterX_mark (nd wh : List Int) (x : GenD) : (afterX nd wh x).mark = x.mark := by
  obtain ⟨b, n, h⟩ := afterX_form nd wh x
  rw [h]
/-- One more made whole. -/
theorem after_set {s : List GenD} (hu : UpG s) {nd wh : List Int} (hw : nd.length = wh.length) {k p : Nat} (hk : k < nd.length) (hk2 : k < wh.length) (hp : p < s.length) (hg : nd[k] = s[p].gen) :
    s.map (afterX (nd.take (k + 1)) (wh.take (k + 1))) = (s.map (afterX (nd.take k) (wh.take k))).set p ⟨s[p].gen, s[p].gen, wh[k], s[p].mark⟩ := by
  refine List.ext_getElem (by simp) fun i h1 h2 => ?_
  rw [List.length_map] at h1
  have E : afterX (nd.take (k + 1)) (wh.take (k + 1)) s[i] = if nd[k] = s[i].gen then ⟨s[i].gen, s[i].gen, wh[k], s[i].mark⟩ else afterX (nd.take k) (wh.take k) s[i] := by
    rw [List.take_succ_eq_append_getElem hk, List.take_succ_eq_append_getElem hk2, afterX_snoc _ _ _ _ _ (by rw [List.length_take, List.length_take]; omega)]
  rw [List.getElem_map, List.getElem_set, E]
  by_cases c : p = i
  · subst c
    rw [if_pos hg, if_pos rfl]
  · rw [if_neg c, List.getElem_map, if_neg]
    rw [hg]
    intro e
    rcases Nat.lt_or_ge p i with d | d
    · have := hu p i h1 d; omega
    · have := hu i p hp (by omega); omega
end Go.Proofs.Ytgejocceegadhaa

/- The walk of Scan. -/
import Derived.Test.YtjgoceebjmnjcaaDoorSumsOW
import Derived.Test.YtjgoceebjmnjcaaDoorSumsNW
import Derived.Test.YtjgoceebjmnjcaaDoorAllW
import Derived.Deep.Onto
set_option linter.unusedVariables false
namespace Go.Proofs.YtjgoceebjmnjcaaDoor
open Go.RowKit

/-- All frames in bytes; from where on one may lack bytes; how many bytes ahead of that were in none. -/
def scanF : Nat → List UInt8 → List (List UInt8) × Nat × Nat
  | 0, _ => ([], 0, 0)
  | f + 1, l =>
    if (oneS l).2.2 = 3 then ([], 0, 0)
    else if (oneS l).2.2 = 0 then ((oneS l).1 :: (scanF f (l.drop (oneS l).2.1)).1, (oneS l).2.1 + (scanF f (l.drop (oneS l).2.1)).2.1, (scanF f (l.drop (oneS l).2.1)).2.2)
    else ((scanF f (l.drop 1)).1, 1 + (scanF f (l.drop 1)).2.1, 1 + (scanF f (l.drop 1)).2.2)
def scanS (l : List UInt8) : List (List UInt8) × Nat × Nat := scanF (l.length + 1) l
theorem oneS_ok (l : List UInt8) (h : (oneS l).2.2 = 0) : (oneS l).2.1 ≤ l.length ∧ 10 ≤ (oneS l).2.1 := by
  unfold oneS at h ⊢
  by_cases h0 : (payS l).2 = 0
  · have := payS_ok l h0
    rw [if_neg (by omega)] at h ⊢
    split at h
    · simp at h
    · rename_i h1
      rw [if_neg h1]
      simp only
      omega
  · rw [if_pos (by omega)] at h
    exact absurd h h0
theorem oneS_nil : oneS [] = ([], 0, 3) := by
  unfold oneS payS headBad
  simp

/-- A list of the call's own stands where only blocks of another type were turned. -/
theorem own_off {w w' : World} {M : Nat → Prop} {base : Nat} {e : TypeId} {size : Nat} {v : Value} {n : Nat} {xs : List Value} (h : w.ownsRow base e size v n xs) (hk : Kept M w w')
    (hm : ∀ g cur, w.heap[g]? = some (.cells cur e (0, 0)) → v.ownBlock = some g → ¬ M g) : w'.ownsRow base e size v n xs := by
  refine ⟨h.1, ?_⟩
  rcases h.2 with hn | ⟨g, cap, cur, rfl, hg, hgg, rest⟩
  · exact .inl hn
  · exact .inr ⟨g, cap, cur, rfl, hg, hk.old hgg (hm g cur hgg rfl), rest⟩
theorem SumsAt.kb_int {w : World} {base S : Nat} {l : List UInt8} {kb cap : Nat} {zv : Value} {K : List Nat} (h : SumsAt w base S l kb cap zv K) : ∃ cur, w.heap[kb]? = some (.cells cur 3 (0, 0)) := by
  rcases h.own.2 with ⟨hv, _⟩ | ⟨g, c, cur, hv, hb, hgg, _⟩
  · cases hv
  · simp at hv
    obtain ⟨rfl, _⟩ := hv
    exact ⟨cur, hgg⟩
theorem SumsAt.off {w w' : World} {M : Nat → Prop} {base S : Nat} {l : List UInt8} {kb cap : Nat} {zv : Value} {K : List Nat} (h : SumsAt w base S l kb cap zv K) (hk : Kept M w w') (h1 : ¬ M S) (h2 : ¬ M kb)
    (h3 : ∀ g cur, w.heap[g]? = some (.cells cur 69 (0, 0)) → ¬ M g) : SumsAt w' base S l kb cap zv K :=
  ⟨hk.old h.heap h1, own_off h.own hk (fun g cur _ e => by simp [Value.ownBlock] at e; subst e; exact h2), own_off h.z hk (fun g cur hg _ => h3 g cur hg), h.good, h.at'⟩

/-- What stands between two rounds of Scan. -/
structure SP (w0 wr : World) (A S P : Nat) (l : List UInt8) (kb cap : Nat) (zv : Value) (K : List Nat) (a : Nat) (xs : List (List UInt8)) (fv : Value) : Prop where
  sums : SumsAt wr (A + 1) S l kb cap zv K
  cell : wr.heap[A]? = some (.cells #[.int .i64 a] 3 (0, 0))
  ptr : wr.heap[P]? = some (.cells #[.pointer (some ⟨S, 0, none⟩)] 55 (0, 0))
  found : OwnL encT wr A 9 fv xs
  tab : Tab wr
  btab : BTab wr
  below : Below A w0 wr
  lt : A < P
  hi : 1 < A
theorem SP.up {w0 wr w2 : World} {A S P : Nat} {l : List UInt8} {kb cap : Nat} {zv : Value} {K : List Nat} {a : Nat} {xs : List (List UInt8)} {fv : Value} (h : SP w0 wr A S P l kb cap zv K a xs fv) (hA : A ≤ w0.heap.size) (hu : SumsUp w2 (A + 1) S l zv wr kb) :
    ∃ kb' cap' K', SP w0 w2 A S P l kb' cap' zv K' a xs fv := by
  obtain ⟨kb', cap', K', hs, hkb, hk, ht, hT⟩ := hu
  obtain ⟨cur, hki⟩ := h.sums.kb_int
  have a1 := h.sums.at'
  have a2 := h.sums.kb_at
  refine ⟨kb', cap', K', hs, hk.old h.cell ?_, hk.old h.ptr ?_, own_off h.found hk ?_, ht, hT, h.below.trans (hk.below (Nat.le_trans hA h.below.size) ?_), h.lt, h.hi⟩
  · rintro (e | e) <;> omega
  · rintro (rfl | rfl)
    · have := h.ptr.symm.trans h.sums.heap; simp at this
    · have := h.ptr.symm.trans hki; simp at this
  · rintro g c hg _ (rfl | rfl)
    · have := hg.symm.trans h.sums.heap; simp at this
    · have := hg.symm.trans hki; simp at this
  · rintro k (rfl | rfl) <;> omega
theorem SP.found' {w0 wr w2 : World} {A S P : Nat} {l : List UInt8} {kb cap : Nat} {zv : Value} {K : List Nat} {a : Nat} {xs ys : List (List UInt8)} {fv fv' : Value} (h : SP w0 wr A S P l kb cap zv K a xs fv) (hA : A ≤ w0.heap.size)
    (hown : OwnL encT w2 A 9 fv' ys) (hb : Below A wr w2) (hk : Kept (fun k => some k = fv.ownBlock) wr w2) : SP w0 w2 A S P l kb cap zv K a ys fv' := by
  obtain ⟨cur, hki⟩ := h.sums.kb_int
  have hstr : ∀ g, some g = fv.ownBlock → ∃ c, wr.heap[g]? = some (.cells c 9 (0, 0)) := by
    intro g hg
    rcases h.found.2 with ⟨hv, _⟩ | ⟨g2, c, cur2, hv, _, hgg, _⟩
    · rw [hv] at hg; simp [Value.ownBlock] at hg
    · rw [hv] at hg; simp [Value.ownBlock] at hg; subst hg; exact ⟨_, hgg⟩
  refine ⟨h.sums.off hk ?_ ?_ ?_, hk.old h.cell ?_, hk.old h.ptr ?_, hown, ?_, ?_, h.below.trans hb, h.lt, h.hi⟩
  · intro e; obtain ⟨c, hc⟩ := hstr _ e; have := hc.symm.trans h.sums.heap; simp at this
  · intro e; obtain ⟨c, hc⟩ := hstr _ e; have := hc.symm.trans hki; simp at this
  · intro g c2 hg e; obtain ⟨c, hc⟩ := hstr _ e; have := hc.symm.trans hg; simp at this
  · intro e; obtain ⟨c, hc⟩ := hstr _ e; have := hc.symm.trans h.cell; simp at this
  · intro e; obtain ⟨c, hc⟩ := hstr _ e; have := hc.symm.trans h.ptr; simp at this
  · exact h.tab.kept hk (fun k e => (World.ownsRow.lt h.found k e.symm).1) (by have := h.hi; omega)
  · exact h.btab.kept hk (fun k e => (World.ownsRow.lt h.found k e.symm).1) h.hi
theorem SP.move {w0 wr : World} {A S P : Nat} {l : List UInt8} {kb cap : Nat} {zv : Value} {K : List Nat} {a : Nat} {xs : List (List UInt8)} {fv : Value} (h : SP w0 wr A S P l kb cap zv K a xs fv) (hA : A ≤ w0.heap.size) (b : Nat) (z : Int) (hz : z = b) :
    SP w0 (wr.setCell ⟨A, 0, none⟩ (.int .i64 z)) A S P l kb cap zv K b xs fv := by
  subst hz
  have hk : Kept (fun k => k = A) wr (wr.setCell ⟨A, 0, none⟩ (.int .i64 b)) := (Kept.refl (fun k => k = A) wr).setCell (p := ⟨A, 0, none⟩) rfl _
  have a1 := h.sums.at'
  have a2 := h.sums.kb_at
  have a3 := h.lt
  refine ⟨h.sums.off hk (by omega) (by omega) ?_, ?_, hk.old h.ptr (by omega), own_off h.found hk ?_, ?_, ?_, ?_, h.lt, h.hi⟩
  · rintro g c hg rfl; have := hg.symm.trans h.cell; simp at this
  · rw [heap_setCell_same wr A 0 _ _ _ h.cell]; rfl
  · rintro g c hg _ rfl; have := hg.symm.trans h.cell; simp at this
  · exact h.tab.kept hk (base := A) (fun k e => by omega) (by have := h.hi; omega)
  · exact h.btab.kept hk (base := A) (fun k e => by omega) h.hi
  · exact h.below.trans (hk.below (Nat.le_trans hA h.below.size) (by omega))

theorem scan_stop (f : Nat) (l : List UInt8) (h : (oneS l).2.2 = 3) : scanF (f + 1) l = ([], 0, 0) := by rw [scanF, if_pos h]
theorem scan_ok (f : Nat) (l : List UInt8) (h : (oneS l).2.2 = 0) : scanF (f + 1) l = ((oneS l).1 :: (scanF f (l.drop (oneS l).2.1)).1, (oneS l).2.1 + (scanF f (l.drop (oneS l).2.1)).2.1, (scanF f (l.drop (oneS l).2.1)).2.2) := by
  rw [scanF, if_neg (by omega), if_pos h]
theorem scan_lost (f : Nat) (l : List UInt8) (h : (oneS l).2.2 ≠ 0) (h3 : (oneS l).2.2 ≠ 3) : scanF (f + 1) l = ((scanF f (l.drop 1)).1, 1 + (scanF f (l.drop 1)).2.1, 1 + (scanF f (l.drop 1)).2.2) := by
  rw [scanF, if_neg h3, if_neg h]
/-- How far Scan has come. -/
structure ScanM (l : List UInt8) (f a b : Nat) (xs : List (List UInt8)) : Prop where
  le : a ≤ l.length
  fuel : l.length - a < f
  few : xs.length ≤ a
  lost : b ≤ a
  all : scanS l = (xs ++ (scanF f (l.drop a)).1, a + (scanF f (l.drop a)).2.1, b + (scanF f (l.drop a)).2.2)
theorem ScanM.start (l : List UInt8) : ScanM l (l.length + 1) 0 0 [] := ⟨Nat.zero_le _, by omega, Nat.le_refl _, Nat.le_refl _, by simp [scanS]⟩
theorem ScanM.stop {l : List UInt8} {f a b : Nat} {xs : List (List UInt8)} (h : ScanM l f a b xs) (h3 : (oneS (l.drop a)).2.2 = 3) : scanS l = (xs, a, b) := by
  obtain ⟨f, rfl⟩ : ∃ k, f = k + 1 := ⟨f - 1, by have := h.fuel; omega⟩
  rw [h.all, scan_stop f _ h3]
  simp
theorem ScanM.ok {l : List UInt8} {f a b : Nat} {xs : List (List UInt8)} (h : ScanM l f a b xs) (h0 : (oneS (l.drop a)).2.2 = 0) : ScanM l (f - 1) (a + (oneS (l.drop a)).2.1) b (xs ++ [(oneS (l.drop a)).1]) := by
  obtain ⟨f, rfl⟩ : ∃ k, f = k + 1 := ⟨f - 1, by have := h.fuel; omega⟩
  obtain ⟨h1, h2⟩ := oneS_ok _ h0
  rw [List.length_drop] at h1
  have h3 := h.le
  have h4 := h.fuel
  have h5 := h.few
  have h6 := h.lost
  refine ⟨by omega, by omega, by simp; omega, by omega, ?_⟩
  rw [h.all, scan_ok f _ h0, Nat.add_sub_cancel, List.drop_drop]
  simp [Nat.add_assoc]
theorem ScanM.miss {l : List UInt8} {f a b : Nat} {xs : List (List UInt8)} (h : ScanM l f a b xs) (h0 : (oneS (l.drop a)).2.2 ≠ 0) (h3 : (oneS (l.drop a)).2.2 ≠ 3) : ScanM l (f - 1) (a + 1) (b + 1) xs := by
  obtain ⟨f, rfl⟩ : ∃ k, f = k + 1 := ⟨f - 1, by have := h.fuel; omega⟩
  have hn : a < l.length := by
    rcases Nat.lt_or_ge a l.length with hlt | hge
    · exact hlt
    · rw [List.drop_eq_nil_of_le hge, oneS_nil] at h3
      exact absurd rfl h3
  have h4 := h.fuel
  have h5 := h.few
  have h6 := h.lost
  refine ⟨by omega, by omega, by omega, by omega, ?_⟩
  rw [h.all, scan_lost f _ h0 h3, Nat.add_sub_cancel, List.drop_drop]
  simp [Nat.add_assoc]
theorem info_str : (Tryd.prog.info? 9).map (fun i => (i.zero, i.size, i.bytes)) = some (some (.string ⟨#[]⟩), 1, 16) := by kernel_rfl

def cellNat (w : World) (A : Nat) : Nat := match w.cell? ⟨A, 0, none⟩ with | some v => (intOf v).toNat | none => 0
theorem cellNat_of {w : World} {A a : Nat} (h : w.cell? ⟨A, 0, none⟩ = some (.int .i64 (a : Nat))) : cellNat w A = a := by
  unfold cellNat; rw [h]; simp [intOf]
theorem SP.now {w0 wr : World} {A S P : Nat} {l : List UInt8} {kb cap : Nat} {zv : Value} {K : List Nat} {a : Nat} {xs : List (List UInt8)} {fv : Value} (h : SP w0 wr A S P l kb cap zv K a xs fv) : wr.cell? ⟨A, 0, none⟩ = some (.int .i64 a) := by
  rw [cell_of_row _ _ _ _ _ _ h.cell]; rfl
theorem SP.nowP {w0 wr : World} {A S P : Nat} {l : List UInt8} {kb cap : Nat} {zv : Value} {K : List Nat} {a : Nat} {xs : List (List UInt8)} {fv : Value} (h : SP w0 wr A S P l kb cap zv K a xs fv) : wr.cell? ⟨P, 0, none⟩ = some (.pointer (some ⟨S, 0, none⟩)) := by
  rw [cell_of_row _ _ _ _ _ _ h.ptr]; rfl
theorem SP.apart {w0 wr : World} {A S P : Nat} {l : List UInt8} {kb cap : Nat} {zv : Value} {K : List Nat} {a : Nat} {xs : List (List UInt8)} {fv : Value} (h : SP w0 wr A S P l kb cap zv K a xs fv) : P ≠ S ∧ P ≠ kb ∧ A ≠ S ∧ A ≠ kb := by
  obtain ⟨cur, hki⟩ := h.sums.kb_int
  have a1 := h.sums.at'
  have a2 := h.sums.kb_at
  refine ⟨?_, ?_, by omega, by omega⟩
  · rintro rfl; have := h.ptr.symm.trans h.sums.heap; simp at this
  · rintro rfl; have := h.ptr.symm.trans hki; simp at this

set_option maxRecDepth 100000 in
set_option maxHeartbeats 4000000 in
theorem scan_go (l : List UInt8) (w : World) (F : FirstSpec) (hl : l.length ≤ 1000000) (ht : Tab w) (hT : BTab w) (hw : 1 < w.heap.size) :
    Calls Tryd.prog 20 #[.string ⟨l.toArray⟩] w fun e w' => ∃ v, e = .returned (.tuple #[v, .int .i64 (scanS l).2.1, .int .i64 (scanS l).2.2]) ∧ OwnL encT w' w.heap.size 9 v (scanS l).1 ∧ Below w.heap.size w w' := by
  have hB0 : Below w.heap.size w (w.alloc (.cells #[.int .i64 0] 3)) := (Below.refl _ _).alloc (Nat.le_refl _) _
  have N := Lib.hid (newSums_any l _ (ht.below hB0) (hT.below hB0))
  have L := Lib.hid (show (⟨l.toArray⟩ : ByteArray).size = l.length from rfl)
  have HA : w.heap.size ≤ w.heap.size := Nat.le_refl _
  have START : Hid (∀ w1 S kb cap zv, SumsAt w1 (w.alloc (.cells #[.int .i64 0] 3)).heap.size S l kb cap zv [0] → Below (w.alloc (.cells #[.int .i64 0] 3)).heap.size (w.alloc (.cells #[.int .i64 0] 3)) w1 →
      SP w (w1.alloc (.cells #[.pointer (some ⟨S, 0, none⟩)] 55)) w.heap.size S w1.heap.size l kb cap zv [0] 0 [] (.slice none 0 0)) := by
    refine Lib.hid fun w1 S kb cap zv hs hb1 => ?_
    have h1 := hb1.size
    have h2 : (w.alloc (.cells #[.int .i64 0] 3)).heap.size = w.heap.size + 1 := by simp
    rw [h2] at hs hb1 h1
    have h3 : Below (w.heap.size + 1) w1 (w1.alloc (.cells #[.pointer (some ⟨S, 0, none⟩)] 55)) := (Below.refl _ _).alloc (by omega) _
    have h4 : Below w.heap.size w w1 := hB0.trans (hb1.mono (by omega))
    have h5 : Below w.heap.size w (w1.alloc (.cells #[.pointer (some ⟨S, 0, none⟩)] 55)) := h4.trans (h3.mono (by omega))
    refine ⟨hs.below ((Below.refl _ _).alloc (Nat.le_refl _) _), ?_, heap_alloc_new _ _, OwnL.nil _ _ _ _, ht.below h5, hT.below h5, h5, by omega, hw⟩
    rw [h3.block w.heap.size (by omega), hb1.block w.heap.size (by omega)]
    exact heap_alloc_new _ _
  clear hB0
  have O := fun f a b xs wr S P kb cap zv K fv (hm : ScanM l f a b xs) (h : SP w wr w.heap.size S P l kb cap zv K a xs fv) => Lib.hid (scanOne_any F (w.heap.size + 1) S a kb l (l.drop a) zv wr wr ⟨P, 0, none⟩ ⟨w.heap.size, 0, none⟩ rfl hl hm.le (by omega)
    (by have := h.below.size; have := (Array.getElem?_eq_some_iff.1 h.cell).1; omega) h.sums.kb_at.1 (SumsUp.start h.sums h.tab h.btab) h.nowP h.now h.apart.1 h.apart.2.1 h.apart.2.2.1 h.apart.2.2.2)
  have HO := Lib.hid O; clear O ht hT
  go_enter Tryd.func20, Tryd.ntmps20
  go_wp2_with fail
  refine N.out.mono ?_
  rintro e w1 ⟨S, kb, cap, zv, rfl, hs, hb1⟩
  have H1 := Lib.hid (START.out w1 S kb cap zv hs hb1)
  clear hs hb1 START N
  go_wp2
  generalize w1.heap.size = P at *
  go_loopw [5, 7] (fun v z wr => ∃ (f a b kb cap : Nat) (K : List Nat) (xs : List (List UInt8)), z = .int .i64 b ∧ ScanM l f a b xs ∧ SP w wr w.heap.size S P l kb cap zv K a xs v) (fun _ _ wr => l.length + 1 - cellNat wr w.heap.size)
  case atStart => exact ⟨_, 0, 0, kb, cap, [0], [], rfl, ScanM.start l, H1.out⟩
  case round =>
    clear H1
    obtain ⟨f, a, b, kb, cap, K, xs, rfl, hm, hsp⟩ := hrel
    have hO := HO.out f a b xs wr S P kb cap zv K _ hm hsp
    have c1 := hsp.now
    have hle := hm.le
    have B1 : (0 : Int) ≤ (a : Int) := by omega
    have B2 : (a : Int) ≤ (l.length : Int) := by omega
    have E := drop_toArray l a l.length (Nat.le_refl _)
    have M3 := Lib.hid (hm.stop)
    have M0 := Lib.hid (hm.ok)
    have M1 := Lib.hid (hm.miss)
    have hn0 := fun h => oneS_ok (l.drop a) h
    have hdl : (l.drop a).length = l.length - a := List.length_drop
    have hfew := hm.few
    have hlost := hm.lost
    have HSP := Lib.hid hsp
    clear hm hsp
    rw [hdl] at hn0
    clear hdl
    generalize (oneS (l.drop a)).1 = p1 at *
    generalize (oneS (l.drop a)).2.1 = n at *
    generalize (oneS (l.drop a)).2.2 = r at *
    generalize l.drop a = m at *
    have UP := Lib.hid (fun w2 h => HSP.out.up (w2 := w2) HA h)
    clear HSP HO
    by_cases h0 : r = 0
    · subst h0
      have M0' := Lib.hid (M0.out rfl)
      have hn := hn0 rfl
      clear M0 M1 M3 hn0
      go_wp2_with fail
      refine hO.out.mono ?_
      rintro e w2 ⟨rfl, hup⟩
      obtain ⟨kb', cap', K', hsp2⟩ := UP.out w2 hup
      have c2 := hsp2.now
      have Hown := Lib.hid hsp2.found
      have H2 := Lib.hid hsp2
      clear hsp2 hup UP hO
      have hsz : w.heap.size ≤ w2.heap.size := H2.out.below.size
      have W1 : IntKind.i64.wrap ((a : Int) + (n : Int)) = ((a + n : Nat) : Int) := by rw [IntWalk.i64_in _ (by omega)]; omega
      go_wp2_with (at_builtin; refine append_elem (enc := encT) (y := p1) rfl _ _ 33 9 (.string ⟨#[]⟩) 16 (by rfl) Tryd.underlying33 info_str rfl w.heap.size _ _ rfl (by rfl) Hown.out (by rfl) (by omega) (by unfold maxLen; omega) (by omega) ?_; intro v' w3 hown3 hb3 hk3; have H3 := Lib.hid (H2.out.found' HA hown3 hb3 hk3); have c3 := H3.out.now; have f3 := frozen_of_row _ w.heap.size 0 _ _ H3.out.cell; have H4 := Lib.hid (H3.out.move HA (a + n) ((a : Int) + (n : Int)) (by omega)); clear hown3 hb3 hk3 H2 Hown c2)
      go_roundw
      case rel => exact ⟨f - 1, a + n, b, kb', cap', K', xs ++ [p1], by go_num, M0'.out, H4.out⟩
      case measure =>
        rw [cellNat_of H4.out.now, cellNat_of c1]
        omega
    · by_cases h3 : r = 3
      · subst h3
        have M3' := Lib.hid (M3.out rfl)
        clear M0 M1 M3 hn0
        go_wp2_with fail
        refine hO.out.mono ?_
        rintro e w2 ⟨rfl, hup⟩
        obtain ⟨kb', cap', K', hsp2⟩ := UP.out w2 hup
        have c2 := hsp2.now
        have H2 := Lib.hid hsp2
        clear hsp2 hup UP hO
        go_wp2
        go_quiet (fail)
        go_wp2
        go_ret3
        rw [M3'.out]
        exact ⟨_, rfl, H2.out.found, Below_drewN H2.out.below _⟩
      · have M1' := Lib.hid (M1.out h0 h3)
        have N0 : ((r : Int) == 0) = false := by simp; omega
        have N3 : ((r : Int) == 3) = false := by simp; omega
        have W1 : IntKind.i64.wrap ((a : Int) + 1) = ((a + 1 : Nat) : Int) := by rw [IntWalk.i64_in _ (by omega)]; omega
        have W2 : IntKind.i64.wrap ((b : Int) + 1) = ((b + 1 : Nat) : Int) := by rw [IntWalk.i64_in _ (by omega)]; omega
        clear M0 M1 M3 hn0 h0 h3
        go_wp2_with fail
        refine hO.out.mono ?_
        rintro e w2 ⟨rfl, hup⟩
        obtain ⟨kb', cap', K', hsp2⟩ := UP.out w2 hup
        have c2 := hsp2.now
        have f2 := frozen_of_row _ w.heap.size 0 _ _ hsp2.cell
        have H2 := Lib.hid (hsp2.move HA (a + 1) ((a : Int) + 1) (by omega))
        clear hsp2 hup UP hO
        go_wp2
        go_roundw
        case rel => exact ⟨f - 1, a + 1, b + 1, kb', cap', K', xs, by go_num, M1'.out, H2.out⟩
        case measure =>
          rw [cellNat_of H2.out.now, cellNat_of c1]
          have := M1'.out.le
          omega
end Go.Proofs.YtjgoceebjmnjcaaDoor

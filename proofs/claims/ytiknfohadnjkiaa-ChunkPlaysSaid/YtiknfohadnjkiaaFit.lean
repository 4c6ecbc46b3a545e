/- Of what form a type of the program is (XOpen's TyFit), by its parts. Of no program. -/
import Derived.Test.YtiknfohadnjkiaaFrame
import Derived.Test.YtiknfohadnjkiaaGen
import Derived.Test.YtiknfohadnjkiaaOpen
import Derived.Test.YtiknfohadnjkiaaOwnL
import Derived.Test.YtiknfohadnjkiaaRowN
set_option linter.unusedVariables false
namespace Go.Proofs.Ytiknfohadnjkiaa
open Go.RowKit

section
variable {P : Program}
theorem fit_int {t : TypeId} (h : P.underlying t = some (.int .i64)) : (TyFit P .int).1 t := h
theorem fit_text {t : TypeId} (h : P.underlying t = some .string) : (TyFit P .text).1 t := h
theorem fit_bool {t : TypeId} (h : P.underlying t = some .bool) : (TyFit P .bool).1 t := h
theorem fit_list {u : Ty} {t e : TypeId} (h : P.underlying t = some (.slice e)) (hc : P.cellsOf e = u.cells) (h1 : 1 ≤ u.cells) (hb : 1 ≤ P.bytesOf e) (hu : (TyFit P u).1 e) : (TyFit P (.list u)).1 t := ⟨e, h, hc, h1, hb, hu⟩
theorem fit_struct {f r : Ty} {t : TypeId} {fs : Array Field} {h : Field} {l : List Field} (hu : P.underlying t = some (.struct fs)) (hc : P.cellsOf t = f.cells + r.cells) (e : fs.toList = h :: l) (ho : h.offset = 0) (hc2 : P.cellsOf h.type = f.cells) (hf : (TyFit P f).1 h.type) (hr : (TyFit P r).2 l f.cells) : (TyFit P (.cons f r)).1 t := ⟨fs, hu, hc, h, l, e, ho, hc2, hf, hr⟩
theorem fit_cons {f r : Ty} {h : Field} {l : List Field} {off : Nat} (ho : h.offset = off) (hc : P.cellsOf h.type = f.cells) (hf : (TyFit P f).1 h.type) (hr : (TyFit P r).2 l (off + f.cells)) : (TyFit P (.cons f r)).2 (h :: l) off := ⟨h, l, rfl, ho, hc, hf, hr⟩
theorem fit_nil {off : Nat} : (TyFit P .nil).2 [] off := rfl
end
end Go.Proofs.Ytiknfohadnjkiaa

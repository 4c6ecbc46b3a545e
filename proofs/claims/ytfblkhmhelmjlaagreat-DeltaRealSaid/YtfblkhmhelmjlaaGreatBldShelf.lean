/- The contracts of strings.Builder stand in the shelf. -/
import Derived.Test.YtfblkhmhelmjlaaGreatShelf
namespace Go.Proofs
end Go.Proofs

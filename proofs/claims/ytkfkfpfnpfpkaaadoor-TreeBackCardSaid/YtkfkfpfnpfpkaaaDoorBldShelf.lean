/- The Builder's contracts stand in the Shelf. -/
import Derived.Test.YtkfkfpfnpfpkaaaDoorShelf

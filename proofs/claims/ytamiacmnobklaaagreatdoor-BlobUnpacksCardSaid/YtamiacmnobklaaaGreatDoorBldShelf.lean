/- The Builder's contracts lie in the Shelf. -/
import Derived.Test.YtamiacmnobklaaaGreatDoorShelf

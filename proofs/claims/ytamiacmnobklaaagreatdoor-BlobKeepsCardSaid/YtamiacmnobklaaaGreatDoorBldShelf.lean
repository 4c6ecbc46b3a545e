/- empty -/
import Derived.Test.YtamiacmnobklaaaGreatDoorShelf

/- The Builder's contracts lie in the Shelf here. -/
import Derived.Test.YtpkgjokehgihjaaGreatShelf

/- The shelf holds the contracts of strings.Builder already. -/
import Derived.Test.YtpkgjokehgihjaaShelf

/- Several texts in one: VBlkI. -/
import Derived.Test.YtmgeecdgebemdaaGreatDoorGSigV13
import Derived.Test.YtmgeecdgebemdaaGreatDoorGSigV14

/- Chapter 5's program, whole: this text only names the texts that hold its contracts. -/


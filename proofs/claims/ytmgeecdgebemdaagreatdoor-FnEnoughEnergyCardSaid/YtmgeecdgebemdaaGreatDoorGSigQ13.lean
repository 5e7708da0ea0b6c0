/- Several texts in one: QBlkI. -/
import Derived.Test.YtmgeecdgebemdaaGreatDoorGSigQ11
import Derived.Test.YtmgeecdgebemdaaGreatDoorGSigQ12

/- Chapter 5's program, whole: this text only names the texts that hold its contracts. -/


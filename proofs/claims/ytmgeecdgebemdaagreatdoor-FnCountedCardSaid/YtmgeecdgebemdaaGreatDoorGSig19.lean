/- Several texts in one: BlkI. -/
import Derived.Test.YtmgeecdgebemdaaGreatDoorGSig13
import Derived.Test.YtmgeecdgebemdaaGreatDoorGSig18
import Derived.Test.YtmgeecdgebemdaaGreatDoorGSig14

/- Chapter 5's program, whole: this text only names the texts that hold its contracts. -/


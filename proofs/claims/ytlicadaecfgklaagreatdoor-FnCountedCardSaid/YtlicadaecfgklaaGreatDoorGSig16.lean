/- Several texts in one: BlkI. -/
import Derived.Test.YtlicadaecfgklaaGreatDoorGSig11
import Derived.Test.YtlicadaecfgklaaGreatDoorGSig15

/- Chapter 5's program, whole: this text only names the texts that hold its contracts. -/


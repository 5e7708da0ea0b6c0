/- Several texts in one: BlkI. -/
import Derived.Test.YtcmhiadaebpgmaaGreatDoorGSig16
import Derived.Test.YtcmhiadaebpgmaaGreatDoorGSig17

/- Chapter 5's program, whole: this text only names the texts that hold its contracts. -/


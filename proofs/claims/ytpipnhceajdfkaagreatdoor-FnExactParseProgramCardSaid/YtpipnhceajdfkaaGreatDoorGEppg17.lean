/- Several texts in one: BlkI. -/
import Derived.Test.YtpipnhceajdfkaaGreatDoorGEppg14
import Derived.Test.YtpipnhceajdfkaaGreatDoorGEppg15
import Derived.Test.YtpipnhceajdfkaaGreatDoorGEppg16

/- Chapter 5's program, whole: this text only names the texts that hold its contracts. -/


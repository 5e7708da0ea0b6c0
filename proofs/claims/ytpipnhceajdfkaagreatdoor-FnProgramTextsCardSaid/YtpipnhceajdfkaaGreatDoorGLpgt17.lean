/- Several texts in one: BlkI. -/
import Derived.Test.YtpipnhceajdfkaaGreatDoorGLpgt14
import Derived.Test.YtpipnhceajdfkaaGreatDoorGLpgt15
import Derived.Test.YtpipnhceajdfkaaGreatDoorGLpgt16

/- Chapter 5's program, whole: this text only names the texts that hold its contracts. -/


/- Several texts in one: BlkI. -/
import Derived.Test.YtlicadaecfgklaaGHub30
import Derived.Test.YtlicadaecfgklaaGHub31
import Derived.Test.YtlicadaecfgklaaGHub32

/- Chapter 5's program, whole: this text only names the texts that hold its contracts. -/


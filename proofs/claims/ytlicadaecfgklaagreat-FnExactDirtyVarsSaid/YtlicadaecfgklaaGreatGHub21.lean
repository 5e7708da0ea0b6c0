/- Several texts in one: BlkI. -/
import Derived.Test.YtlicadaecfgklaaGreatGHub19
import Derived.Test.YtlicadaecfgklaaGreatGHub20

/- Chapter 5's program, whole: this text only names the texts that hold its contracts. -/


/- Several texts in one: BlkI. -/
import Derived.Test.YtlinpefeojpjnaaGreatGHub28
import Derived.Test.YtlinpefeojpjnaaGreatGHub29

/- Chapter 5's program, whole: this text only names the texts that hold its contracts. -/


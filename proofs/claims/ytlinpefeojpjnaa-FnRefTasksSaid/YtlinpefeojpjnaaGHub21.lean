/- Several texts in one: BlkI. -/
import Derived.Test.YtlinpefeojpjnaaGHub18
import Derived.Test.YtlinpefeojpjnaaGHub20

/- Chapter 5's program, whole: this text only names the texts that hold its contracts. -/


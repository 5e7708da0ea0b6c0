/- Several texts in one: BlkI. -/
import Derived.Test.YtjnijmbhlmphlaaGHub19
import Derived.Test.YtjnijmbhlmphlaaGHub20
import Derived.Test.YtjnijmbhlmphlaaGHub21

/- Chapter 5's program, whole: this text only names the texts that hold its contracts. -/


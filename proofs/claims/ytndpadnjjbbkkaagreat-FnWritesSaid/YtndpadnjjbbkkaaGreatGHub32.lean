/- Several texts in one: BlkI. -/
import Derived.Test.YtndpadnjjbbkkaaGreatGHub27
import Derived.Test.YtndpadnjjbbkkaaGreatGHub31
import Derived.Test.YtndpadnjjbbkkaaGreatGHub28

/- Chapter 5's program, whole: this text only names the texts that hold its contracts. -/


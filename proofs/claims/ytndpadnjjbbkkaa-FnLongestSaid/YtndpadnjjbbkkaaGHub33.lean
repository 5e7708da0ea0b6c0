/- Several texts in one: BlkI. -/
import Derived.Test.YtndpadnjjbbkkaaGHub27
import Derived.Test.YtndpadnjjbbkkaaGHub32
import Derived.Test.YtndpadnjjbbkkaaGHub29

/- Chapter 5's program, whole: this text only names the texts that hold its contracts. -/


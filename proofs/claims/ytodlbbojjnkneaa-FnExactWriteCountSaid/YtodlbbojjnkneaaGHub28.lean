/- Several texts in one: BlkI. -/
import Derived.Test.YtodlbbojjnkneaaGHub25
import Derived.Test.YtodlbbojjnkneaaGHub26
import Derived.Test.YtodlbbojjnkneaaGHub27

/- Chapter 5's program, whole: this text only names the texts that hold its contracts. -/


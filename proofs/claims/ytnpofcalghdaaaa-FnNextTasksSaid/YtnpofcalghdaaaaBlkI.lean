/- Chapter 5's program, whole: this text only names the texts that hold its contracts. -/
import Derived.Test.YtnpofcalghdaaaaBlkG
import Derived.Test.YtnpofcalghdaaaaBlkH
import Derived.Test.YtnpofcalghdaaaaBlkN

/- Chapter 5's program, whole: this text only names the texts that hold its contracts. -/
import Derived.Test.YtekeonenbhmejaaBlkG
import Derived.Test.YtekeonenbhmejaaBlkH
import Derived.Test.YtekeonenbhmejaaBlkN

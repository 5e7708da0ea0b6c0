/- Chapter 5's program, whole: this text only names the texts that hold its contracts. -/
import Derived.Test.YtjdgekdefmheaaaBlkG
import Derived.Test.YtjdgekdefmheaaaBlkH
import Derived.Test.YtjdgekdefmheaaaBlkN

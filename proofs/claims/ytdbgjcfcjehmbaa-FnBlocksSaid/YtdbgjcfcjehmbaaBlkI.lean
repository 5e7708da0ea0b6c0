/- Chapter 5's program, whole: this text only names the texts that hold its contracts. -/
import Derived.Test.YtdbgjcfcjehmbaaBlkG
import Derived.Test.YtdbgjcfcjehmbaaBlkH
import Derived.Test.YtdbgjcfcjehmbaaBlkN

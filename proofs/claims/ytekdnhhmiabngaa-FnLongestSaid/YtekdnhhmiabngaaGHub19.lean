/- Several texts in one: BlkI. -/
import Derived.Test.YtekdnhhmiabngaaGHub16
import Derived.Test.YtekdnhhmiabngaaGHub18

/- Chapter 5's program, whole: this text only names the texts that hold its contracts. -/


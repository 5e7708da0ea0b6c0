/- Several texts in one: BlkI. -/
import Derived.Test.YtekdnhhmiabngaaGreatGHub18
import Derived.Test.YtekdnhhmiabngaaGreatGHub21
import Derived.Test.YtekdnhhmiabngaaGreatGHub19

/- Chapter 5's program, whole: this text only names the texts that hold its contracts. -/


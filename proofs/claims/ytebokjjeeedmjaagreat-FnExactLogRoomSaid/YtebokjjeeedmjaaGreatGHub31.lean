/- Several texts in one: BlkI. -/
import Derived.Test.YtebokjjeeedmjaaGreatGHub29
import Derived.Test.YtebokjjeeedmjaaGreatGHub30

/- Chapter 5's program, whole: this text only names the texts that hold its contracts. -/


/- Several texts in one: BlkI. -/
import Derived.Test.YtebokjjeeedmjaaGHub21
import Derived.Test.YtebokjjeeedmjaaGHub22
import Derived.Test.YtebokjjeeedmjaaGHub23

/- Chapter 5's program, whole: this text only names the texts that hold its contracts. -/


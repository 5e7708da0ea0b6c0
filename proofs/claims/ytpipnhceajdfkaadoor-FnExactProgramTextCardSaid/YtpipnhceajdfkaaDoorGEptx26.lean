/- Several texts in one: BlkI. -/
import Derived.Test.YtpipnhceajdfkaaDoorGEptx23
import Derived.Test.YtpipnhceajdfkaaDoorGEptx24
import Derived.Test.YtpipnhceajdfkaaDoorGEptx25

/- Chapter 5's program, whole: this text only names the texts that hold its contracts. -/


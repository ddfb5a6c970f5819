/- Concat beside Doubts. -/
import Derived.Test.YtoaeflegcfecaaaDoubts
import Derived.Test.YtoaeflegcfecaaaConcat

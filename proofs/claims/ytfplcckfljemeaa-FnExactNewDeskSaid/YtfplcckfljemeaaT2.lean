/- Walks: the table of parts (see T2m), beside areParts. -/
import Derived.Test.YtfplcckfljemeaaT1
import Derived.Test.YtfplcckfljemeaaT2m

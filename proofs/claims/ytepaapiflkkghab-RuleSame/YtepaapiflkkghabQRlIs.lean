/- Package rule, as it landed: all its contracts. -/
import Derived.Test.YtepaapiflkkghabQRlH
import Derived.Test.YtepaapiflkkghabQAtLm

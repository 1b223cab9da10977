/-
  The five laws, of the landed code.
-/
import Derived.Test.YtgedgkdnjnbijaaKo
import Derived.Test.YtgedgkdnjnbijaaWk
import Derived.Test.YtgedgkdnjnbijaaWc
import Derived.Test.YtgedgkdnjnbijaaWm
import Derived.Test.YtgedgkdnjnbijaaWp
import Derived.Test.YtgedgkdnjnbijaaWl
import Derived.Test.YtgedgkdnjnbijaaArg4
import Derived.Test.YtgedgkdnjnbijaaArgB

/-
  What the proof of WalOpens imports of what came in: lists of texts, numbers.
-/
import Derived.Test.YtffbkkdnklhfmaaLawL
import Derived.Test.YtffbkkdnklhfmaaDLaw2

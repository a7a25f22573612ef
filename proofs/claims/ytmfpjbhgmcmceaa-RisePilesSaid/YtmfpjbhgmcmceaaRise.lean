/-
  Package rise's contracts together (Check, Piles, Long, Fall, Shape). No condition of its own.
-/
import Derived.Test.YtmfpjbhgmcmceaaRchk
import Derived.Test.YtmfpjbhgmcmceaaRpls
import Derived.Test.YtmfpjbhgmcmceaaRfal
import Derived.Test.YtmfpjbhgmcmceaaRsha

/-
  Package rise's contracts together (Check, Piles, Long, Fall, Shape). No condition of its own.
-/
import Derived.Test.YtmfpjbhgmcmceaaDoorRchk
import Derived.Test.YtmfpjbhgmcmceaaDoorRpls
import Derived.Test.YtmfpjbhgmcmceaaDoorRfal
import Derived.Test.YtmfpjbhgmcmceaaDoorRsha

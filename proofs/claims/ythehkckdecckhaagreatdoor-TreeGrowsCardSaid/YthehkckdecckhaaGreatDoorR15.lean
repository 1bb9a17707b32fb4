/-
  The law's Same on plain rows, walked: two rows of the same pairs.
-/
import Derived.Test.YthehkckdecckhaaGreatDoorR07
import Derived.Deep.RegionHeld
import Derived.Deep.RegionHeld3
import Derived.Deep.Cut



/-
  All that the statements' walks ask of package pack is had: rlaws, wlaws, wakes_.
-/
import Derived.Test.YtgifinilgieonaaPackHaveR
import Derived.Test.YtgifinilgieonaaPackWAmount

/-
  What the statements' walks ask of the Reader is had (rlaws), and the contract of wakes.
-/
import Derived.Test.YtgifinilgieonaaPackRAmount
import Derived.Test.YtgifinilgieonaaPackWUint

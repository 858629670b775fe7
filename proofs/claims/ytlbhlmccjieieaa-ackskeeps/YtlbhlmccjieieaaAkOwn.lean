/-
  What the program's own New, Add, Drop, Has, Ranges and Check of a set answer, and what they leave: all together. Right ranges, at most sixteen; no other condition.
-/
import Derived.Test.YtlbhlmccjieieaaAkPHas
import Derived.Test.YtlbhlmccjieieaaAkPAdd
import Derived.Test.YtlbhlmccjieieaaAkPChk

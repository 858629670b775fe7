/-
  The contracts of New, Write and Sum of a Hash (ShNew, ShFin) and of Sum (ShOwn), under one name. Nothing of its own.
-/
import Derived.Test.YtabaeehjmmblpaaDoorShWorks
import Derived.Test.YtabaeehjmmblpaaDoorShStill

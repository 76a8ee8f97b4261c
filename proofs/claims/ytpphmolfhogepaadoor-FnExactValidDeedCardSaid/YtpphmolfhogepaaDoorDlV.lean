import Derived.Test.YtpphmolfhogepaaDoorDlv
import Derived.Test.YtpphmolfhogepaaDoorDl
/-
  The law of ValidDeed, and the table that is listed.
-/

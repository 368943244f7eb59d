/-
  The program's whole package: what each function answers, over the plain functions.
-/
import Derived.Test.YthdiaghkpolonaaDoorWTxt
import Derived.Test.YthdiaghkpolonaaDoorWPut

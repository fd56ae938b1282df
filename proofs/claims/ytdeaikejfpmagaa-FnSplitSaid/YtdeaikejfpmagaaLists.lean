/-
  Digits, beginning and round as lists: the program's functions and the model's answer alike.
-/
import Derived.Test.YtdeaikejfpmagaaTool
import Derived.Test.YtdeaikejfpmagaaAns
import Derived.Test.YtdeaikejfpmagaaFirst
namespace Go.Proofs.Ytdeaikejfpmagaa
open Go.RowKit
















end Go.Proofs.Ytdeaikejfpmagaa

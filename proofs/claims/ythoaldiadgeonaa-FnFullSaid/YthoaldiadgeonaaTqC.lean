/-
  A body without goroutines for orders: it lays as many blocks as the program's, looks at every ask first, and refuses what is none.
-/
import Derived.Test.YthoaldiadgeonaaProg
namespace Go.Proofs.Ythoaldiadgeonaa.Tq

/-- A function that is not wanted. -/
noncomputable abbrev refused (fn : Func) : Func := { fn with body := some (.refuse "not wanted") }
/-- In the place of functions without a body. -/
noncomputable abbrev noFunc : Func := { name := "no such function", origin := "", params := #[], resultTypes := #[], nfree := 0, ntmps := 0, results := #[], body := none, norace := false, tmpNames := #[] }

/-- One operation, a region of its own. -/
noncomputable abbrev opr (d : Option Tmp) (op : Op) : Oper := { dst := d, op := op, type := 3, pos := "", after := #[], guard := none }
noncomputable abbrev R (d : Tmp) (op : Op) : Code := .region 0 #[opr (some d) op] false
noncomputable abbrev R0 (op : Op) : Code := .region 0 #[opr none op] false
noncomputable abbrev cst (k : Int) : Operand := .const (.int .i64 k)
noncomputable abbrev bin (op : BinOp) (x y : Operand) : Op := .binOp op 3 x y 3
noncomputable abbrev chanOp : Op := .makeChan 58 (cst 0)
/-- Go on if so, else refuse. -/
noncomputable abbrev must (op : Op) (rest : Code) : Code := .seq (R 4 op) (.seq (.cond (.tmp 4) .skip (.refuse "no ask")) rest)
noncomputable abbrev while' (op : Op) (id : Nat) (rest : Code) : Code := .seq (R 4 op) (.seq (.cond (.tmp 4) .skip (.exit id)) rest)
noncomputable abbrev andThen (d : Tmp) (op : Op) (rest : Code) : Code := .seq (R d op) rest
noncomputable abbrev next3 : Code := R 3 (bin .add (.tmp 3) (cst 1))

/-- Every ask is looked at. -/
noncomputable abbrev look : Code :=
  while' (bin .lss (.tmp 3) (.tmp 1)) 0 <|
  must (.binOp .neq 40 (.tmp 0) (.const (.slice none 0 0)) 40) <|
  andThen 5 (.indexAddr 40 (.tmp 0) (.tmp 3)) <|
  andThen 6 (.load 43 (.tmp 5)) <|
  andThen 7 (.field 43 (.tmp 6) 0) <|
  andThen 8 (.field 43 (.tmp 6) 1) <|
  must (bin .geq (.tmp 7) (cst 0)) <|
  must (bin .leq (.tmp 7) (cst 1000)) <|
  must (bin .geq (.tmp 8) (cst 1)) <|
  must (bin .leq (.tmp 8) (cst 15000)) next3
/-- Three blocks for each ask. -/
noncomputable abbrev lay : Code := while' (bin .lss (.tmp 3) (.tmp 1)) 0 <| andThen 12 chanOp <| andThen 12 chanOp <| andThen 12 chanOp next3
/-- One order. -/
noncomputable abbrev turn : Code :=
  while' (bin .neq (.tmp 10) (.tmp 11)) 1 <|
  andThen 9 (bin .add (.tmp 9) (cst 1)) <|
  must (bin .leq (.tmp 9) (cst 15000)) <|
  andThen 10 (bin .mul (.tmp 10) (.tmp 7)) (R 10 (bin .rem (.tmp 10) (.tmp 8)))
/-- All orders. -/
noncomputable abbrev work : Code :=
  while' (bin .lss (.tmp 3) (.tmp 1)) 0 <|
  andThen 5 (.indexAddr 40 (.tmp 0) (.tmp 3)) <|
  andThen 6 (.load 43 (.tmp 5)) <|
  andThen 7 (.field 43 (.tmp 6) 0) <|
  andThen 8 (.field 43 (.tmp 6) 1) <|
  andThen 9 (.move (cst 1)) <|
  andThen 10 (bin .rem (.tmp 7) (.tmp 8)) <|
  andThen 11 (bin .rem (cst 1) (.tmp 8)) <|
  .seq (.block 1 (.loop turn)) <|
  andThen 13 (.indexAddr 30 (.tmp 2) (.tmp 3)) <|
  .seq (R0 (.store 3 (.tmp 13) (.tmp 9))) <|
  andThen 12 chanOp next3

/-- Who is called with more than 38 slots dies. -/
noncomputable abbrev arityOps : Array Oper := #[opr (some 38) (.move (.const (.bool true))), { opr none (.load 3 (cst 0)) with guard := some (0, true) }]
noncomputable abbrev arity : Code := .region 0 arityOps false

noncomputable abbrev ordersBody : Code :=
  .seq arity <|
  andThen 1 (.call { callee := .builtin .len, args := #[.tmp 0], argTypes := #[40] }) <|
  must (bin .lss (.tmp 1) (cst 100000)) <|
  andThen 3 (.move (cst 0)) <|
  .seq (.block 0 (.loop look)) <|
  andThen 12 chanOp <| andThen 12 chanOp <| andThen 12 chanOp <|
  andThen 3 (.move (cst 0)) <|
  .seq (.block 0 (.loop lay)) <|
  andThen 2 (.makeSlice 30 (.tmp 1) (.tmp 1)) <|
  andThen 3 (.move (cst 0)) <|
  .seq (.block 0 (.loop work)) .ret
noncomputable abbrev ordersQ : Func := { Try.f27 with body := some ordersBody }

end Go.Proofs.Ythoaldiadgeonaa.Tq

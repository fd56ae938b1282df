/-
  The program P' beside the seat's: orders with a body without goroutines; what is not wanted is refused. What its tables tell; that the two agree, function by function.
-/
import Derived.Test.YthoaldiadgeonaaTqC
import Derived.KernelRfl
namespace Go.Proofs
set_option maxRecDepth 100000
set_option maxHeartbeats 4000000

namespace Tryq
noncomputable abbrev fs0 : List Func := [Ythoaldiadgeonaa.Tq.noFunc, Ythoaldiadgeonaa.Tq.noFunc, Ythoaldiadgeonaa.Tq.refused Try.f2, Try.f3, Try.f4, Try.f5, Try.f6, Try.f7, Try.f8, Try.f9, Try.f10, Try.f11, Try.f12, Try.f13, Try.f14, Try.f15, Try.f16, Try.f17, Try.f18, Try.f19, Try.f20, Try.f21, Try.f22, Try.f23, Try.f24, Try.f25, Try.f26, Ythoaldiadgeonaa.Tq.ordersQ, Try.f28, Try.f29, Try.f30, Try.f31, Try.f32, Try.f33, Try.f34, Try.f35, Try.f36, Try.f37, Try.f38, Try.f39, Try.f40, Try.f41, Try.f42, Try.f43, Try.f44, Try.f45, Try.f46, Try.f47]
noncomputable abbrev fs1 : List Func := [Ythoaldiadgeonaa.Tq.refused Try.f48, Ythoaldiadgeonaa.Tq.refused Try.f49, Ythoaldiadgeonaa.Tq.refused Try.f50, Ythoaldiadgeonaa.Tq.refused Try.f51, Try.f52, Try.f53, Try.f54, Try.f55, Try.f56, Ythoaldiadgeonaa.Tq.noFunc, Ythoaldiadgeonaa.Tq.noFunc, Ythoaldiadgeonaa.Tq.noFunc, Ythoaldiadgeonaa.Tq.noFunc, Ythoaldiadgeonaa.Tq.noFunc, Ythoaldiadgeonaa.Tq.noFunc, Ythoaldiadgeonaa.Tq.refused Try.f63, Ythoaldiadgeonaa.Tq.refused Try.f64, Ythoaldiadgeonaa.Tq.noFunc, Ythoaldiadgeonaa.Tq.refused Try.f66, Ythoaldiadgeonaa.Tq.refused Try.f67, Ythoaldiadgeonaa.Tq.noFunc, Ythoaldiadgeonaa.Tq.noFunc, Ythoaldiadgeonaa.Tq.noFunc, Ythoaldiadgeonaa.Tq.noFunc, Ythoaldiadgeonaa.Tq.refused Try.f72, Ythoaldiadgeonaa.Tq.noFunc, Ythoaldiadgeonaa.Tq.noFunc, Try.f75, Try.f76, Try.f77, Ythoaldiadgeonaa.Tq.noFunc, Ythoaldiadgeonaa.Tq.noFunc, Ythoaldiadgeonaa.Tq.noFunc, Ythoaldiadgeonaa.Tq.noFunc, Ythoaldiadgeonaa.Tq.noFunc, Try.f83, Ythoaldiadgeonaa.Tq.noFunc, Ythoaldiadgeonaa.Tq.noFunc, Ythoaldiadgeonaa.Tq.noFunc, Ythoaldiadgeonaa.Tq.noFunc, Ythoaldiadgeonaa.Tq.noFunc, Ythoaldiadgeonaa.Tq.noFunc, Ythoaldiadgeonaa.Tq.noFunc, Ythoaldiadgeonaa.Tq.noFunc, Ythoaldiadgeonaa.Tq.noFunc, Ythoaldiadgeonaa.Tq.noFunc, Ythoaldiadgeonaa.Tq.noFunc, Ythoaldiadgeonaa.Tq.noFunc]
noncomputable abbrev fs2 : List Func := [Ythoaldiadgeonaa.Tq.noFunc, Ythoaldiadgeonaa.Tq.noFunc, Ythoaldiadgeonaa.Tq.noFunc, Ythoaldiadgeonaa.Tq.noFunc, Ythoaldiadgeonaa.Tq.noFunc]
/-- The functions of P'. -/
noncomputable abbrev fs : Array Func := (fs0 ++ fs1 ++ fs2).toArray
noncomputable abbrev prog : Program := { toTables := Try.progTables, funcs := fs }
@[simp] theorem type0 : (Go.Tables.types (Go.Program.toTables Tryq.prog))[0]? = Option.some Go.Proofs.Try.t0 := by kernel_rfl
@[simp] theorem type1 : (Go.Tables.types (Go.Program.toTables Tryq.prog))[1]? = Option.some Go.Proofs.Try.t1 := by kernel_rfl
@[simp] theorem type2 : (Go.Tables.types (Go.Program.toTables Tryq.prog))[2]? = Option.some Go.Proofs.Try.t2 := by kernel_rfl
@[simp] theorem type3 : (Go.Tables.types (Go.Program.toTables Tryq.prog))[3]? = Option.some Go.Proofs.Try.t3 := by kernel_rfl
@[simp] theorem type4 : (Go.Tables.types (Go.Program.toTables Tryq.prog))[4]? = Option.some Go.Proofs.Try.t4 := by kernel_rfl
@[simp] theorem type5 : (Go.Tables.types (Go.Program.toTables Tryq.prog))[5]? = Option.some Go.Proofs.Try.t5 := by kernel_rfl
@[simp] theorem type6 : (Go.Tables.types (Go.Program.toTables Tryq.prog))[6]? = Option.some Go.Proofs.Try.t6 := by kernel_rfl
@[simp] theorem type7 : (Go.Tables.types (Go.Program.toTables Tryq.prog))[7]? = Option.some Go.Proofs.Try.t7 := by kernel_rfl
@[simp] theorem type8 : (Go.Tables.types (Go.Program.toTables Tryq.prog))[8]? = Option.some Go.Proofs.Try.t8 := by kernel_rfl
@[simp] theorem type9 : (Go.Tables.types (Go.Program.toTables Tryq.prog))[9]? = Option.some Go.Proofs.Try.t9 := by kernel_rfl
@[simp] theorem type10 : (Go.Tables.types (Go.Program.toTables Tryq.prog))[10]? = Option.some Go.Proofs.Try.t10 := by kernel_rfl
@[simp] theorem type11 : (Go.Tables.types (Go.Program.toTables Tryq.prog))[11]? = Option.some Go.Proofs.Try.t11 := by kernel_rfl
@[simp] theorem type12 : (Go.Tables.types (Go.Program.toTables Tryq.prog))[12]? = Option.some Go.Proofs.Try.t12 := by kernel_rfl
@[simp] theorem type13 : (Go.Tables.types (Go.Program.toTables Tryq.prog))[13]? = Option.some Go.Proofs.Try.t13 := by kernel_rfl
@[simp] theorem type14 : (Go.Tables.types (Go.Program.toTables Tryq.prog))[14]? = Option.some Go.Proofs.Try.t14 := by kernel_rfl
@[simp] theorem type15 : (Go.Tables.types (Go.Program.toTables Tryq.prog))[15]? = Option.some Go.Proofs.Try.t15 := by kernel_rfl
@[simp] theorem type16 : (Go.Tables.types (Go.Program.toTables Tryq.prog))[16]? = Option.some Go.Proofs.Try.t16 := by kernel_rfl
@[simp] theorem type17 : (Go.Tables.types (Go.Program.toTables Tryq.prog))[17]? = Option.some Go.Proofs.Try.t17 := by kernel_rfl
@[simp] theorem type18 : (Go.Tables.types (Go.Program.toTables Tryq.prog))[18]? = Option.some Go.Proofs.Try.t18 := by kernel_rfl
@[simp] theorem type19 : (Go.Tables.types (Go.Program.toTables Tryq.prog))[19]? = Option.some Go.Proofs.Try.t19 := by kernel_rfl
@[simp] theorem type20 : (Go.Tables.types (Go.Program.toTables Tryq.prog))[20]? = Option.some Go.Proofs.Try.t20 := by kernel_rfl
@[simp] theorem type21 : (Go.Tables.types (Go.Program.toTables Tryq.prog))[21]? = Option.some Go.Proofs.Try.t21 := by kernel_rfl
@[simp] theorem type22 : (Go.Tables.types (Go.Program.toTables Tryq.prog))[22]? = Option.some Go.Proofs.Try.t22 := by kernel_rfl
@[simp] theorem type23 : (Go.Tables.types (Go.Program.toTables Tryq.prog))[23]? = Option.some Go.Proofs.Try.t23 := by kernel_rfl
@[simp] theorem type24 : (Go.Tables.types (Go.Program.toTables Tryq.prog))[24]? = Option.some Go.Proofs.Try.t24 := by kernel_rfl
@[simp] theorem type25 : (Go.Tables.types (Go.Program.toTables Tryq.prog))[25]? = Option.some Go.Proofs.Try.t25 := by kernel_rfl
@[simp] theorem type26 : (Go.Tables.types (Go.Program.toTables Tryq.prog))[26]? = Option.some Go.Proofs.Try.t26 := by kernel_rfl
@[simp] theorem type27 : (Go.Tables.types (Go.Program.toTables Tryq.prog))[27]? = Option.some Go.Proofs.Try.t27 := by kernel_rfl
@[simp] theorem type28 : (Go.Tables.types (Go.Program.toTables Tryq.prog))[28]? = Option.some Go.Proofs.Try.t28 := by kernel_rfl
@[simp] theorem type29 : (Go.Tables.types (Go.Program.toTables Tryq.prog))[29]? = Option.some Go.Proofs.Try.t29 := by kernel_rfl
@[simp] theorem type30 : (Go.Tables.types (Go.Program.toTables Tryq.prog))[30]? = Option.some Go.Proofs.Try.t30 := by kernel_rfl
@[simp] theorem type31 : (Go.Tables.types (Go.Program.toTables Tryq.prog))[31]? = Option.some Go.Proofs.Try.t31 := by kernel_rfl
@[simp] theorem type32 : (Go.Tables.types (Go.Program.toTables Tryq.prog))[32]? = Option.some Go.Proofs.Try.t32 := by kernel_rfl
@[simp] theorem type33 : (Go.Tables.types (Go.Program.toTables Tryq.prog))[33]? = Option.some Go.Proofs.Try.t33 := by kernel_rfl
@[simp] theorem type34 : (Go.Tables.types (Go.Program.toTables Tryq.prog))[34]? = Option.some Go.Proofs.Try.t34 := by kernel_rfl
@[simp] theorem type35 : (Go.Tables.types (Go.Program.toTables Tryq.prog))[35]? = Option.some Go.Proofs.Try.t35 := by kernel_rfl
@[simp] theorem type36 : (Go.Tables.types (Go.Program.toTables Tryq.prog))[36]? = Option.some Go.Proofs.Try.t36 := by kernel_rfl
@[simp] theorem type37 : (Go.Tables.types (Go.Program.toTables Tryq.prog))[37]? = Option.some Go.Proofs.Try.t37 := by kernel_rfl
@[simp] theorem type38 : (Go.Tables.types (Go.Program.toTables Tryq.prog))[38]? = Option.some Go.Proofs.Try.t38 := by kernel_rfl
@[simp] theorem type39 : (Go.Tables.types (Go.Program.toTables Tryq.prog))[39]? = Option.some Go.Proofs.Try.t39 := by kernel_rfl
@[simp] theorem type40 : (Go.Tables.types (Go.Program.toTables Tryq.prog))[40]? = Option.some Go.Proofs.Try.t40 := by kernel_rfl
@[simp] theorem type41 : (Go.Tables.types (Go.Program.toTables Tryq.prog))[41]? = Option.some Go.Proofs.Try.t41 := by kernel_rfl
@[simp] theorem type42 : (Go.Tables.types (Go.Program.toTables Tryq.prog))[42]? = Option.some Go.Proofs.Try.t42 := by kernel_rfl
@[simp] theorem type43 : (Go.Tables.types (Go.Program.toTables Tryq.prog))[43]? = Option.some Go.Proofs.Try.t43 := by kernel_rfl
@[simp] theorem type44 : (Go.Tables.types (Go.Program.toTables Tryq.prog))[44]? = Option.some Go.Proofs.Try.t44 := by kernel_rfl
@[simp] theorem type45 : (Go.Tables.types (Go.Program.toTables Tryq.prog))[45]? = Option.some Go.Proofs.Try.t45 := by kernel_rfl
@[simp] theorem type46 : (Go.Tables.types (Go.Program.toTables Tryq.prog))[46]? = Option.some Go.Proofs.Try.t46 := by kernel_rfl
@[simp] theorem type47 : (Go.Tables.types (Go.Program.toTables Tryq.prog))[47]? = Option.some Go.Proofs.Try.t47 := by kernel_rfl
@[simp] theorem type48 : (Go.Tables.types (Go.Program.toTables Tryq.prog))[48]? = Option.some Go.Proofs.Try.t48 := by kernel_rfl
@[simp] theorem type49 : (Go.Tables.types (Go.Program.toTables Tryq.prog))[49]? = Option.some Go.Proofs.Try.t49 := by kernel_rfl
@[simp] theorem type50 : (Go.Tables.types (Go.Program.toTables Tryq.prog))[50]? = Option.some Go.Proofs.Try.t50 := by kernel_rfl
@[simp] theorem type51 : (Go.Tables.types (Go.Program.toTables Tryq.prog))[51]? = Option.some Go.Proofs.Try.t51 := by kernel_rfl
@[simp] theorem type52 : (Go.Tables.types (Go.Program.toTables Tryq.prog))[52]? = Option.some Go.Proofs.Try.t52 := by kernel_rfl
@[simp] theorem type53 : (Go.Tables.types (Go.Program.toTables Tryq.prog))[53]? = Option.some Go.Proofs.Try.t53 := by kernel_rfl
@[simp] theorem type54 : (Go.Tables.types (Go.Program.toTables Tryq.prog))[54]? = Option.some Go.Proofs.Try.t54 := by kernel_rfl
@[simp] theorem type55 : (Go.Tables.types (Go.Program.toTables Tryq.prog))[55]? = Option.some Go.Proofs.Try.t55 := by kernel_rfl
@[simp] theorem type56 : (Go.Tables.types (Go.Program.toTables Tryq.prog))[56]? = Option.some Go.Proofs.Try.t56 := by kernel_rfl
@[simp] theorem type57 : (Go.Tables.types (Go.Program.toTables Tryq.prog))[57]? = Option.some Go.Proofs.Try.t57 := by kernel_rfl
@[simp] theorem type58 : (Go.Tables.types (Go.Program.toTables Tryq.prog))[58]? = Option.some Go.Proofs.Try.t58 := by kernel_rfl
@[simp] theorem type59 : (Go.Tables.types (Go.Program.toTables Tryq.prog))[59]? = Option.some Go.Proofs.Try.t59 := by kernel_rfl
@[simp] theorem type60 : (Go.Tables.types (Go.Program.toTables Tryq.prog))[60]? = Option.some Go.Proofs.Try.t60 := by kernel_rfl
@[simp] theorem type61 : (Go.Tables.types (Go.Program.toTables Tryq.prog))[61]? = Option.some Go.Proofs.Try.t61 := by kernel_rfl
@[simp] theorem type62 : (Go.Tables.types (Go.Program.toTables Tryq.prog))[62]? = Option.some Go.Proofs.Try.t62 := by kernel_rfl
@[simp] theorem type63 : (Go.Tables.types (Go.Program.toTables Tryq.prog))[63]? = Option.some Go.Proofs.Try.t63 := by kernel_rfl
@[simp] theorem type64 : (Go.Tables.types (Go.Program.toTables Tryq.prog))[64]? = Option.some Go.Proofs.Try.t64 := by kernel_rfl
@[simp] theorem type65 : (Go.Tables.types (Go.Program.toTables Tryq.prog))[65]? = Option.some Go.Proofs.Try.t65 := by kernel_rfl
@[simp] theorem type66 : (Go.Tables.types (Go.Program.toTables Tryq.prog))[66]? = Option.some Go.Proofs.Try.t66 := by kernel_rfl
@[simp] theorem type67 : (Go.Tables.types (Go.Program.toTables Tryq.prog))[67]? = Option.some Go.Proofs.Try.t67 := by kernel_rfl
@[simp] theorem type68 : (Go.Tables.types (Go.Program.toTables Tryq.prog))[68]? = Option.some Go.Proofs.Try.t68 := by kernel_rfl
@[simp] theorem type69 : (Go.Tables.types (Go.Program.toTables Tryq.prog))[69]? = Option.some Go.Proofs.Try.t69 := by kernel_rfl
@[simp] theorem type70 : (Go.Tables.types (Go.Program.toTables Tryq.prog))[70]? = Option.some Go.Proofs.Try.t70 := by kernel_rfl
@[simp] theorem type71 : (Go.Tables.types (Go.Program.toTables Tryq.prog))[71]? = Option.some Go.Proofs.Try.t71 := by kernel_rfl
@[simp] theorem type72 : (Go.Tables.types (Go.Program.toTables Tryq.prog))[72]? = Option.some Go.Proofs.Try.t72 := by kernel_rfl
@[simp] theorem type73 : (Go.Tables.types (Go.Program.toTables Tryq.prog))[73]? = Option.some Go.Proofs.Try.t73 := by kernel_rfl
@[simp] theorem type74 : (Go.Tables.types (Go.Program.toTables Tryq.prog))[74]? = Option.some Go.Proofs.Try.t74 := by kernel_rfl
@[simp] theorem type75 : (Go.Tables.types (Go.Program.toTables Tryq.prog))[75]? = Option.some Go.Proofs.Try.t75 := by kernel_rfl
@[simp] theorem type76 : (Go.Tables.types (Go.Program.toTables Tryq.prog))[76]? = Option.some Go.Proofs.Try.t76 := by kernel_rfl
@[simp] theorem type77 : (Go.Tables.types (Go.Program.toTables Tryq.prog))[77]? = Option.some Go.Proofs.Try.t77 := by kernel_rfl
@[simp] theorem type78 : (Go.Tables.types (Go.Program.toTables Tryq.prog))[78]? = Option.some Go.Proofs.Try.t78 := by kernel_rfl
@[simp] theorem type79 : (Go.Tables.types (Go.Program.toTables Tryq.prog))[79]? = Option.some Go.Proofs.Try.t79 := by kernel_rfl
@[simp] theorem type80 : (Go.Tables.types (Go.Program.toTables Tryq.prog))[80]? = Option.some Go.Proofs.Try.t80 := by kernel_rfl
@[simp] theorem type81 : (Go.Tables.types (Go.Program.toTables Tryq.prog))[81]? = Option.some Go.Proofs.Try.t81 := by kernel_rfl
@[simp] theorem type82 : (Go.Tables.types (Go.Program.toTables Tryq.prog))[82]? = Option.some Go.Proofs.Try.t82 := by kernel_rfl
@[simp] theorem type83 : (Go.Tables.types (Go.Program.toTables Tryq.prog))[83]? = Option.some Go.Proofs.Try.t83 := by kernel_rfl
@[simp] theorem type84 : (Go.Tables.types (Go.Program.toTables Tryq.prog))[84]? = Option.some Go.Proofs.Try.t84 := by kernel_rfl
@[simp] theorem type85 : (Go.Tables.types (Go.Program.toTables Tryq.prog))[85]? = Option.some Go.Proofs.Try.t85 := by kernel_rfl
@[simp] theorem type86 : (Go.Tables.types (Go.Program.toTables Tryq.prog))[86]? = Option.some Go.Proofs.Try.t86 := by kernel_rfl
@[simp] theorem type87 : (Go.Tables.types (Go.Program.toTables Tryq.prog))[87]? = Option.some Go.Proofs.Try.t87 := by kernel_rfl
@[simp] theorem type88 : (Go.Tables.types (Go.Program.toTables Tryq.prog))[88]? = Option.some Go.Proofs.Try.t88 := by kernel_rfl
@[simp] theorem type89 : (Go.Tables.types (Go.Program.toTables Tryq.prog))[89]? = Option.some Go.Proofs.Try.t89 := by kernel_rfl
@[simp] theorem type90 : (Go.Tables.types (Go.Program.toTables Tryq.prog))[90]? = Option.some Go.Proofs.Try.t90 := by kernel_rfl
@[simp] theorem type91 : (Go.Tables.types (Go.Program.toTables Tryq.prog))[91]? = Option.some Go.Proofs.Try.t91 := by kernel_rfl
@[simp] theorem type92 : (Go.Tables.types (Go.Program.toTables Tryq.prog))[92]? = Option.some Go.Proofs.Try.t92 := by kernel_rfl
@[simp] theorem type93 : (Go.Tables.types (Go.Program.toTables Tryq.prog))[93]? = Option.some Go.Proofs.Try.t93 := by kernel_rfl
@[simp] theorem type94 : (Go.Tables.types (Go.Program.toTables Tryq.prog))[94]? = Option.some Go.Proofs.Try.t94 := by kernel_rfl
@[simp] theorem type95 : (Go.Tables.types (Go.Program.toTables Tryq.prog))[95]? = Option.some Go.Proofs.Try.t95 := by kernel_rfl
@[simp] theorem type96 : (Go.Tables.types (Go.Program.toTables Tryq.prog))[96]? = Option.some Go.Proofs.Try.t96 := by kernel_rfl
@[simp] theorem type97 : (Go.Tables.types (Go.Program.toTables Tryq.prog))[97]? = Option.some Go.Proofs.Try.t97 := by kernel_rfl
@[simp] theorem type98 : (Go.Tables.types (Go.Program.toTables Tryq.prog))[98]? = Option.some Go.Proofs.Try.t98 := by kernel_rfl
@[simp] theorem type99 : (Go.Tables.types (Go.Program.toTables Tryq.prog))[99]? = Option.some Go.Proofs.Try.t99 := by kernel_rfl
@[simp] theorem type100 : (Go.Tables.types (Go.Program.toTables Tryq.prog))[100]? = Option.some Go.Proofs.Try.t100 := by kernel_rfl
@[simp] theorem type101 : (Go.Tables.types (Go.Program.toTables Tryq.prog))[101]? = Option.some Go.Proofs.Try.t101 := by kernel_rfl
@[simp] theorem type102 : (Go.Tables.types (Go.Program.toTables Tryq.prog))[102]? = Option.some Go.Proofs.Try.t102 := by kernel_rfl
@[simp] theorem type103 : (Go.Tables.types (Go.Program.toTables Tryq.prog))[103]? = Option.some Go.Proofs.Try.t103 := by kernel_rfl
@[simp] theorem type104 : (Go.Tables.types (Go.Program.toTables Tryq.prog))[104]? = Option.some Go.Proofs.Try.t104 := by kernel_rfl
@[simp] theorem type105 : (Go.Tables.types (Go.Program.toTables Tryq.prog))[105]? = Option.some Go.Proofs.Try.t105 := by kernel_rfl
@[simp] theorem type106 : (Go.Tables.types (Go.Program.toTables Tryq.prog))[106]? = Option.some Go.Proofs.Try.t106 := by kernel_rfl
@[simp] theorem type107 : (Go.Tables.types (Go.Program.toTables Tryq.prog))[107]? = Option.some Go.Proofs.Try.t107 := by kernel_rfl
@[simp] theorem type108 : (Go.Tables.types (Go.Program.toTables Tryq.prog))[108]? = Option.some Go.Proofs.Try.t108 := by kernel_rfl
@[simp] theorem type109 : (Go.Tables.types (Go.Program.toTables Tryq.prog))[109]? = Option.some Go.Proofs.Try.t109 := by kernel_rfl
@[simp] theorem type110 : (Go.Tables.types (Go.Program.toTables Tryq.prog))[110]? = Option.some Go.Proofs.Try.t110 := by kernel_rfl
@[simp] theorem type111 : (Go.Tables.types (Go.Program.toTables Tryq.prog))[111]? = Option.some Go.Proofs.Try.t111 := by kernel_rfl
@[simp] theorem type112 : (Go.Tables.types (Go.Program.toTables Tryq.prog))[112]? = Option.some Go.Proofs.Try.t112 := by kernel_rfl
@[simp] theorem type113 : (Go.Tables.types (Go.Program.toTables Tryq.prog))[113]? = Option.some Go.Proofs.Try.t113 := by kernel_rfl
@[simp] theorem type114 : (Go.Tables.types (Go.Program.toTables Tryq.prog))[114]? = Option.some Go.Proofs.Try.t114 := by kernel_rfl
@[simp] theorem type115 : (Go.Tables.types (Go.Program.toTables Tryq.prog))[115]? = Option.some Go.Proofs.Try.t115 := by kernel_rfl
@[simp] theorem type116 : (Go.Tables.types (Go.Program.toTables Tryq.prog))[116]? = Option.some Go.Proofs.Try.t116 := by kernel_rfl
@[simp] theorem type117 : (Go.Tables.types (Go.Program.toTables Tryq.prog))[117]? = Option.some Go.Proofs.Try.t117 := by kernel_rfl
@[simp] theorem type118 : (Go.Tables.types (Go.Program.toTables Tryq.prog))[118]? = Option.some Go.Proofs.Try.t118 := by kernel_rfl
@[simp] theorem type119 : (Go.Tables.types (Go.Program.toTables Tryq.prog))[119]? = Option.some Go.Proofs.Try.t119 := by kernel_rfl
@[simp] theorem type120 : (Go.Tables.types (Go.Program.toTables Tryq.prog))[120]? = Option.some Go.Proofs.Try.t120 := by kernel_rfl
@[simp] theorem type121 : (Go.Tables.types (Go.Program.toTables Tryq.prog))[121]? = Option.some Go.Proofs.Try.t121 := by kernel_rfl
@[simp] theorem type122 : (Go.Tables.types (Go.Program.toTables Tryq.prog))[122]? = Option.some Go.Proofs.Try.t122 := by kernel_rfl
@[simp] theorem type123 : (Go.Tables.types (Go.Program.toTables Tryq.prog))[123]? = Option.some Go.Proofs.Try.t123 := by kernel_rfl
@[simp] theorem type124 : (Go.Tables.types (Go.Program.toTables Tryq.prog))[124]? = Option.some Go.Proofs.Try.t124 := by kernel_rfl
@[simp] theorem type125 : (Go.Tables.types (Go.Program.toTables Tryq.prog))[125]? = Option.some Go.Proofs.Try.t125 := by kernel_rfl
@[simp] theorem type126 : (Go.Tables.types (Go.Program.toTables Tryq.prog))[126]? = Option.some Go.Proofs.Try.t126 := by kernel_rfl
@[simp] theorem type127 : (Go.Tables.types (Go.Program.toTables Tryq.prog))[127]? = Option.some Go.Proofs.Try.t127 := by kernel_rfl
@[simp] theorem typeInfo0 (w : World) : Go.Sem.run Tryq.prog (Go.typeInfo 0) w = Go.Result.ok Go.Proofs.Try.t0 w := by kernel_rfl
@[simp] theorem typeInfo1 (w : World) : Go.Sem.run Tryq.prog (Go.typeInfo 1) w = Go.Result.ok Go.Proofs.Try.t1 w := by kernel_rfl
@[simp] theorem typeInfo2 (w : World) : Go.Sem.run Tryq.prog (Go.typeInfo 2) w = Go.Result.ok Go.Proofs.Try.t2 w := by kernel_rfl
@[simp] theorem typeInfo3 (w : World) : Go.Sem.run Tryq.prog (Go.typeInfo 3) w = Go.Result.ok Go.Proofs.Try.t3 w := by kernel_rfl
@[simp] theorem typeInfo4 (w : World) : Go.Sem.run Tryq.prog (Go.typeInfo 4) w = Go.Result.ok Go.Proofs.Try.t4 w := by kernel_rfl
@[simp] theorem typeInfo5 (w : World) : Go.Sem.run Tryq.prog (Go.typeInfo 5) w = Go.Result.ok Go.Proofs.Try.t5 w := by kernel_rfl
@[simp] theorem typeInfo6 (w : World) : Go.Sem.run Tryq.prog (Go.typeInfo 6) w = Go.Result.ok Go.Proofs.Try.t6 w := by kernel_rfl
@[simp] theorem typeInfo7 (w : World) : Go.Sem.run Tryq.prog (Go.typeInfo 7) w = Go.Result.ok Go.Proofs.Try.t7 w := by kernel_rfl
@[simp] theorem typeInfo8 (w : World) : Go.Sem.run Tryq.prog (Go.typeInfo 8) w = Go.Result.ok Go.Proofs.Try.t8 w := by kernel_rfl
@[simp] theorem typeInfo9 (w : World) : Go.Sem.run Tryq.prog (Go.typeInfo 9) w = Go.Result.ok Go.Proofs.Try.t9 w := by kernel_rfl
@[simp] theorem typeInfo10 (w : World) : Go.Sem.run Tryq.prog (Go.typeInfo 10) w = Go.Result.ok Go.Proofs.Try.t10 w := by kernel_rfl
@[simp] theorem typeInfo11 (w : World) : Go.Sem.run Tryq.prog (Go.typeInfo 11) w = Go.Result.ok Go.Proofs.Try.t11 w := by kernel_rfl
@[simp] theorem typeInfo12 (w : World) : Go.Sem.run Tryq.prog (Go.typeInfo 12) w = Go.Result.ok Go.Proofs.Try.t12 w := by kernel_rfl
@[simp] theorem typeInfo13 (w : World) : Go.Sem.run Tryq.prog (Go.typeInfo 13) w = Go.Result.ok Go.Proofs.Try.t13 w := by kernel_rfl
@[simp] theorem typeInfo14 (w : World) : Go.Sem.run Tryq.prog (Go.typeInfo 14) w = Go.Result.ok Go.Proofs.Try.t14 w := by kernel_rfl
@[simp] theorem typeInfo15 (w : World) : Go.Sem.run Tryq.prog (Go.typeInfo 15) w = Go.Result.ok Go.Proofs.Try.t15 w := by kernel_rfl
@[simp] theorem typeInfo16 (w : World) : Go.Sem.run Tryq.prog (Go.typeInfo 16) w = Go.Result.ok Go.Proofs.Try.t16 w := by kernel_rfl
@[simp] theorem typeInfo17 (w : World) : Go.Sem.run Tryq.prog (Go.typeInfo 17) w = Go.Result.ok Go.Proofs.Try.t17 w := by kernel_rfl
@[simp] theorem typeInfo18 (w : World) : Go.Sem.run Tryq.prog (Go.typeInfo 18) w = Go.Result.ok Go.Proofs.Try.t18 w := by kernel_rfl
@[simp] theorem typeInfo19 (w : World) : Go.Sem.run Tryq.prog (Go.typeInfo 19) w = Go.Result.ok Go.Proofs.Try.t19 w := by kernel_rfl
@[simp] theorem typeInfo20 (w : World) : Go.Sem.run Tryq.prog (Go.typeInfo 20) w = Go.Result.ok Go.Proofs.Try.t20 w := by kernel_rfl
@[simp] theorem typeInfo21 (w : World) : Go.Sem.run Tryq.prog (Go.typeInfo 21) w = Go.Result.ok Go.Proofs.Try.t21 w := by kernel_rfl
@[simp] theorem typeInfo22 (w : World) : Go.Sem.run Tryq.prog (Go.typeInfo 22) w = Go.Result.ok Go.Proofs.Try.t22 w := by kernel_rfl
@[simp] theorem typeInfo23 (w : World) : Go.Sem.run Tryq.prog (Go.typeInfo 23) w = Go.Result.ok Go.Proofs.Try.t23 w := by kernel_rfl
@[simp] theorem typeInfo24 (w : World) : Go.Sem.run Tryq.prog (Go.typeInfo 24) w = Go.Result.ok Go.Proofs.Try.t24 w := by kernel_rfl
@[simp] theorem typeInfo25 (w : World) : Go.Sem.run Tryq.prog (Go.typeInfo 25) w = Go.Result.ok Go.Proofs.Try.t25 w := by kernel_rfl
@[simp] theorem typeInfo26 (w : World) : Go.Sem.run Tryq.prog (Go.typeInfo 26) w = Go.Result.ok Go.Proofs.Try.t26 w := by kernel_rfl
@[simp] theorem typeInfo27 (w : World) : Go.Sem.run Tryq.prog (Go.typeInfo 27) w = Go.Result.ok Go.Proofs.Try.t27 w := by kernel_rfl
@[simp] theorem typeInfo28 (w : World) : Go.Sem.run Tryq.prog (Go.typeInfo 28) w = Go.Result.ok Go.Proofs.Try.t28 w := by kernel_rfl
@[simp] theorem typeInfo29 (w : World) : Go.Sem.run Tryq.prog (Go.typeInfo 29) w = Go.Result.ok Go.Proofs.Try.t29 w := by kernel_rfl
@[simp] theorem typeInfo30 (w : World) : Go.Sem.run Tryq.prog (Go.typeInfo 30) w = Go.Result.ok Go.Proofs.Try.t30 w := by kernel_rfl
@[simp] theorem typeInfo31 (w : World) : Go.Sem.run Tryq.prog (Go.typeInfo 31) w = Go.Result.ok Go.Proofs.Try.t31 w := by kernel_rfl
@[simp] theorem typeInfo32 (w : World) : Go.Sem.run Tryq.prog (Go.typeInfo 32) w = Go.Result.ok Go.Proofs.Try.t32 w := by kernel_rfl
@[simp] theorem typeInfo33 (w : World) : Go.Sem.run Tryq.prog (Go.typeInfo 33) w = Go.Result.ok Go.Proofs.Try.t33 w := by kernel_rfl
@[simp] theorem typeInfo34 (w : World) : Go.Sem.run Tryq.prog (Go.typeInfo 34) w = Go.Result.ok Go.Proofs.Try.t34 w := by kernel_rfl
@[simp] theorem typeInfo35 (w : World) : Go.Sem.run Tryq.prog (Go.typeInfo 35) w = Go.Result.ok Go.Proofs.Try.t35 w := by kernel_rfl
@[simp] theorem typeInfo36 (w : World) : Go.Sem.run Tryq.prog (Go.typeInfo 36) w = Go.Result.ok Go.Proofs.Try.t36 w := by kernel_rfl
@[simp] theorem typeInfo37 (w : World) : Go.Sem.run Tryq.prog (Go.typeInfo 37) w = Go.Result.ok Go.Proofs.Try.t37 w := by kernel_rfl
@[simp] theorem typeInfo38 (w : World) : Go.Sem.run Tryq.prog (Go.typeInfo 38) w = Go.Result.ok Go.Proofs.Try.t38 w := by kernel_rfl
@[simp] theorem typeInfo39 (w : World) : Go.Sem.run Tryq.prog (Go.typeInfo 39) w = Go.Result.ok Go.Proofs.Try.t39 w := by kernel_rfl
@[simp] theorem typeInfo40 (w : World) : Go.Sem.run Tryq.prog (Go.typeInfo 40) w = Go.Result.ok Go.Proofs.Try.t40 w := by kernel_rfl
@[simp] theorem typeInfo41 (w : World) : Go.Sem.run Tryq.prog (Go.typeInfo 41) w = Go.Result.ok Go.Proofs.Try.t41 w := by kernel_rfl
@[simp] theorem typeInfo42 (w : World) : Go.Sem.run Tryq.prog (Go.typeInfo 42) w = Go.Result.ok Go.Proofs.Try.t42 w := by kernel_rfl
@[simp] theorem typeInfo43 (w : World) : Go.Sem.run Tryq.prog (Go.typeInfo 43) w = Go.Result.ok Go.Proofs.Try.t43 w := by kernel_rfl
@[simp] theorem typeInfo44 (w : World) : Go.Sem.run Tryq.prog (Go.typeInfo 44) w = Go.Result.ok Go.Proofs.Try.t44 w := by kernel_rfl
@[simp] theorem typeInfo45 (w : World) : Go.Sem.run Tryq.prog (Go.typeInfo 45) w = Go.Result.ok Go.Proofs.Try.t45 w := by kernel_rfl
@[simp] theorem typeInfo46 (w : World) : Go.Sem.run Tryq.prog (Go.typeInfo 46) w = Go.Result.ok Go.Proofs.Try.t46 w := by kernel_rfl
@[simp] theorem typeInfo47 (w : World) : Go.Sem.run Tryq.prog (Go.typeInfo 47) w = Go.Result.ok Go.Proofs.Try.t47 w := by kernel_rfl
@[simp] theorem typeInfo48 (w : World) : Go.Sem.run Tryq.prog (Go.typeInfo 48) w = Go.Result.ok Go.Proofs.Try.t48 w := by kernel_rfl
@[simp] theorem typeInfo49 (w : World) : Go.Sem.run Tryq.prog (Go.typeInfo 49) w = Go.Result.ok Go.Proofs.Try.t49 w := by kernel_rfl
@[simp] theorem typeInfo50 (w : World) : Go.Sem.run Tryq.prog (Go.typeInfo 50) w = Go.Result.ok Go.Proofs.Try.t50 w := by kernel_rfl
@[simp] theorem typeInfo51 (w : World) : Go.Sem.run Tryq.prog (Go.typeInfo 51) w = Go.Result.ok Go.Proofs.Try.t51 w := by kernel_rfl
@[simp] theorem typeInfo52 (w : World) : Go.Sem.run Tryq.prog (Go.typeInfo 52) w = Go.Result.ok Go.Proofs.Try.t52 w := by kernel_rfl
@[simp] theorem typeInfo53 (w : World) : Go.Sem.run Tryq.prog (Go.typeInfo 53) w = Go.Result.ok Go.Proofs.Try.t53 w := by kernel_rfl
@[simp] theorem typeInfo54 (w : World) : Go.Sem.run Tryq.prog (Go.typeInfo 54) w = Go.Result.ok Go.Proofs.Try.t54 w := by kernel_rfl
@[simp] theorem typeInfo55 (w : World) : Go.Sem.run Tryq.prog (Go.typeInfo 55) w = Go.Result.ok Go.Proofs.Try.t55 w := by kernel_rfl
@[simp] theorem typeInfo56 (w : World) : Go.Sem.run Tryq.prog (Go.typeInfo 56) w = Go.Result.ok Go.Proofs.Try.t56 w := by kernel_rfl
@[simp] theorem typeInfo57 (w : World) : Go.Sem.run Tryq.prog (Go.typeInfo 57) w = Go.Result.ok Go.Proofs.Try.t57 w := by kernel_rfl
@[simp] theorem typeInfo58 (w : World) : Go.Sem.run Tryq.prog (Go.typeInfo 58) w = Go.Result.ok Go.Proofs.Try.t58 w := by kernel_rfl
@[simp] theorem typeInfo59 (w : World) : Go.Sem.run Tryq.prog (Go.typeInfo 59) w = Go.Result.ok Go.Proofs.Try.t59 w := by kernel_rfl
@[simp] theorem typeInfo60 (w : World) : Go.Sem.run Tryq.prog (Go.typeInfo 60) w = Go.Result.ok Go.Proofs.Try.t60 w := by kernel_rfl
@[simp] theorem typeInfo61 (w : World) : Go.Sem.run Tryq.prog (Go.typeInfo 61) w = Go.Result.ok Go.Proofs.Try.t61 w := by kernel_rfl
@[simp] theorem typeInfo62 (w : World) : Go.Sem.run Tryq.prog (Go.typeInfo 62) w = Go.Result.ok Go.Proofs.Try.t62 w := by kernel_rfl
@[simp] theorem typeInfo63 (w : World) : Go.Sem.run Tryq.prog (Go.typeInfo 63) w = Go.Result.ok Go.Proofs.Try.t63 w := by kernel_rfl
@[simp] theorem typeInfo64 (w : World) : Go.Sem.run Tryq.prog (Go.typeInfo 64) w = Go.Result.ok Go.Proofs.Try.t64 w := by kernel_rfl
@[simp] theorem typeInfo65 (w : World) : Go.Sem.run Tryq.prog (Go.typeInfo 65) w = Go.Result.ok Go.Proofs.Try.t65 w := by kernel_rfl
@[simp] theorem typeInfo66 (w : World) : Go.Sem.run Tryq.prog (Go.typeInfo 66) w = Go.Result.ok Go.Proofs.Try.t66 w := by kernel_rfl
@[simp] theorem typeInfo67 (w : World) : Go.Sem.run Tryq.prog (Go.typeInfo 67) w = Go.Result.ok Go.Proofs.Try.t67 w := by kernel_rfl
@[simp] theorem typeInfo68 (w : World) : Go.Sem.run Tryq.prog (Go.typeInfo 68) w = Go.Result.ok Go.Proofs.Try.t68 w := by kernel_rfl
@[simp] theorem typeInfo69 (w : World) : Go.Sem.run Tryq.prog (Go.typeInfo 69) w = Go.Result.ok Go.Proofs.Try.t69 w := by kernel_rfl
@[simp] theorem typeInfo70 (w : World) : Go.Sem.run Tryq.prog (Go.typeInfo 70) w = Go.Result.ok Go.Proofs.Try.t70 w := by kernel_rfl
@[simp] theorem typeInfo71 (w : World) : Go.Sem.run Tryq.prog (Go.typeInfo 71) w = Go.Result.ok Go.Proofs.Try.t71 w := by kernel_rfl
@[simp] theorem typeInfo72 (w : World) : Go.Sem.run Tryq.prog (Go.typeInfo 72) w = Go.Result.ok Go.Proofs.Try.t72 w := by kernel_rfl
@[simp] theorem typeInfo73 (w : World) : Go.Sem.run Tryq.prog (Go.typeInfo 73) w = Go.Result.ok Go.Proofs.Try.t73 w := by kernel_rfl
@[simp] theorem typeInfo74 (w : World) : Go.Sem.run Tryq.prog (Go.typeInfo 74) w = Go.Result.ok Go.Proofs.Try.t74 w := by kernel_rfl
@[simp] theorem typeInfo75 (w : World) : Go.Sem.run Tryq.prog (Go.typeInfo 75) w = Go.Result.ok Go.Proofs.Try.t75 w := by kernel_rfl
@[simp] theorem typeInfo76 (w : World) : Go.Sem.run Tryq.prog (Go.typeInfo 76) w = Go.Result.ok Go.Proofs.Try.t76 w := by kernel_rfl
@[simp] theorem typeInfo77 (w : World) : Go.Sem.run Tryq.prog (Go.typeInfo 77) w = Go.Result.ok Go.Proofs.Try.t77 w := by kernel_rfl
@[simp] theorem typeInfo78 (w : World) : Go.Sem.run Tryq.prog (Go.typeInfo 78) w = Go.Result.ok Go.Proofs.Try.t78 w := by kernel_rfl
@[simp] theorem typeInfo79 (w : World) : Go.Sem.run Tryq.prog (Go.typeInfo 79) w = Go.Result.ok Go.Proofs.Try.t79 w := by kernel_rfl
@[simp] theorem typeInfo80 (w : World) : Go.Sem.run Tryq.prog (Go.typeInfo 80) w = Go.Result.ok Go.Proofs.Try.t80 w := by kernel_rfl
@[simp] theorem typeInfo81 (w : World) : Go.Sem.run Tryq.prog (Go.typeInfo 81) w = Go.Result.ok Go.Proofs.Try.t81 w := by kernel_rfl
@[simp] theorem typeInfo82 (w : World) : Go.Sem.run Tryq.prog (Go.typeInfo 82) w = Go.Result.ok Go.Proofs.Try.t82 w := by kernel_rfl
@[simp] theorem typeInfo83 (w : World) : Go.Sem.run Tryq.prog (Go.typeInfo 83) w = Go.Result.ok Go.Proofs.Try.t83 w := by kernel_rfl
@[simp] theorem typeInfo84 (w : World) : Go.Sem.run Tryq.prog (Go.typeInfo 84) w = Go.Result.ok Go.Proofs.Try.t84 w := by kernel_rfl
@[simp] theorem typeInfo85 (w : World) : Go.Sem.run Tryq.prog (Go.typeInfo 85) w = Go.Result.ok Go.Proofs.Try.t85 w := by kernel_rfl
@[simp] theorem typeInfo86 (w : World) : Go.Sem.run Tryq.prog (Go.typeInfo 86) w = Go.Result.ok Go.Proofs.Try.t86 w := by kernel_rfl
@[simp] theorem typeInfo87 (w : World) : Go.Sem.run Tryq.prog (Go.typeInfo 87) w = Go.Result.ok Go.Proofs.Try.t87 w := by kernel_rfl
@[simp] theorem typeInfo88 (w : World) : Go.Sem.run Tryq.prog (Go.typeInfo 88) w = Go.Result.ok Go.Proofs.Try.t88 w := by kernel_rfl
@[simp] theorem typeInfo89 (w : World) : Go.Sem.run Tryq.prog (Go.typeInfo 89) w = Go.Result.ok Go.Proofs.Try.t89 w := by kernel_rfl
@[simp] theorem typeInfo90 (w : World) : Go.Sem.run Tryq.prog (Go.typeInfo 90) w = Go.Result.ok Go.Proofs.Try.t90 w := by kernel_rfl
@[simp] theorem typeInfo91 (w : World) : Go.Sem.run Tryq.prog (Go.typeInfo 91) w = Go.Result.ok Go.Proofs.Try.t91 w := by kernel_rfl
@[simp] theorem typeInfo92 (w : World) : Go.Sem.run Tryq.prog (Go.typeInfo 92) w = Go.Result.ok Go.Proofs.Try.t92 w := by kernel_rfl
@[simp] theorem typeInfo93 (w : World) : Go.Sem.run Tryq.prog (Go.typeInfo 93) w = Go.Result.ok Go.Proofs.Try.t93 w := by kernel_rfl
@[simp] theorem typeInfo94 (w : World) : Go.Sem.run Tryq.prog (Go.typeInfo 94) w = Go.Result.ok Go.Proofs.Try.t94 w := by kernel_rfl
@[simp] theorem typeInfo95 (w : World) : Go.Sem.run Tryq.prog (Go.typeInfo 95) w = Go.Result.ok Go.Proofs.Try.t95 w := by kernel_rfl
@[simp] theorem typeInfo96 (w : World) : Go.Sem.run Tryq.prog (Go.typeInfo 96) w = Go.Result.ok Go.Proofs.Try.t96 w := by kernel_rfl
@[simp] theorem typeInfo97 (w : World) : Go.Sem.run Tryq.prog (Go.typeInfo 97) w = Go.Result.ok Go.Proofs.Try.t97 w := by kernel_rfl
@[simp] theorem typeInfo98 (w : World) : Go.Sem.run Tryq.prog (Go.typeInfo 98) w = Go.Result.ok Go.Proofs.Try.t98 w := by kernel_rfl
@[simp] theorem typeInfo99 (w : World) : Go.Sem.run Tryq.prog (Go.typeInfo 99) w = Go.Result.ok Go.Proofs.Try.t99 w := by kernel_rfl
@[simp] theorem typeInfo100 (w : World) : Go.Sem.run Tryq.prog (Go.typeInfo 100) w = Go.Result.ok Go.Proofs.Try.t100 w := by kernel_rfl
@[simp] theorem typeInfo101 (w : World) : Go.Sem.run Tryq.prog (Go.typeInfo 101) w = Go.Result.ok Go.Proofs.Try.t101 w := by kernel_rfl
@[simp] theorem typeInfo102 (w : World) : Go.Sem.run Tryq.prog (Go.typeInfo 102) w = Go.Result.ok Go.Proofs.Try.t102 w := by kernel_rfl
@[simp] theorem typeInfo103 (w : World) : Go.Sem.run Tryq.prog (Go.typeInfo 103) w = Go.Result.ok Go.Proofs.Try.t103 w := by kernel_rfl
@[simp] theorem typeInfo104 (w : World) : Go.Sem.run Tryq.prog (Go.typeInfo 104) w = Go.Result.ok Go.Proofs.Try.t104 w := by kernel_rfl
@[simp] theorem typeInfo105 (w : World) : Go.Sem.run Tryq.prog (Go.typeInfo 105) w = Go.Result.ok Go.Proofs.Try.t105 w := by kernel_rfl
@[simp] theorem typeInfo106 (w : World) : Go.Sem.run Tryq.prog (Go.typeInfo 106) w = Go.Result.ok Go.Proofs.Try.t106 w := by kernel_rfl
@[simp] theorem typeInfo107 (w : World) : Go.Sem.run Tryq.prog (Go.typeInfo 107) w = Go.Result.ok Go.Proofs.Try.t107 w := by kernel_rfl
@[simp] theorem typeInfo108 (w : World) : Go.Sem.run Tryq.prog (Go.typeInfo 108) w = Go.Result.ok Go.Proofs.Try.t108 w := by kernel_rfl
@[simp] theorem typeInfo109 (w : World) : Go.Sem.run Tryq.prog (Go.typeInfo 109) w = Go.Result.ok Go.Proofs.Try.t109 w := by kernel_rfl
@[simp] theorem typeInfo110 (w : World) : Go.Sem.run Tryq.prog (Go.typeInfo 110) w = Go.Result.ok Go.Proofs.Try.t110 w := by kernel_rfl
@[simp] theorem typeInfo111 (w : World) : Go.Sem.run Tryq.prog (Go.typeInfo 111) w = Go.Result.ok Go.Proofs.Try.t111 w := by kernel_rfl
@[simp] theorem typeInfo112 (w : World) : Go.Sem.run Tryq.prog (Go.typeInfo 112) w = Go.Result.ok Go.Proofs.Try.t112 w := by kernel_rfl
@[simp] theorem typeInfo113 (w : World) : Go.Sem.run Tryq.prog (Go.typeInfo 113) w = Go.Result.ok Go.Proofs.Try.t113 w := by kernel_rfl
@[simp] theorem typeInfo114 (w : World) : Go.Sem.run Tryq.prog (Go.typeInfo 114) w = Go.Result.ok Go.Proofs.Try.t114 w := by kernel_rfl
@[simp] theorem typeInfo115 (w : World) : Go.Sem.run Tryq.prog (Go.typeInfo 115) w = Go.Result.ok Go.Proofs.Try.t115 w := by kernel_rfl
@[simp] theorem typeInfo116 (w : World) : Go.Sem.run Tryq.prog (Go.typeInfo 116) w = Go.Result.ok Go.Proofs.Try.t116 w := by kernel_rfl
@[simp] theorem typeInfo117 (w : World) : Go.Sem.run Tryq.prog (Go.typeInfo 117) w = Go.Result.ok Go.Proofs.Try.t117 w := by kernel_rfl
@[simp] theorem typeInfo118 (w : World) : Go.Sem.run Tryq.prog (Go.typeInfo 118) w = Go.Result.ok Go.Proofs.Try.t118 w := by kernel_rfl
@[simp] theorem typeInfo119 (w : World) : Go.Sem.run Tryq.prog (Go.typeInfo 119) w = Go.Result.ok Go.Proofs.Try.t119 w := by kernel_rfl
@[simp] theorem typeInfo120 (w : World) : Go.Sem.run Tryq.prog (Go.typeInfo 120) w = Go.Result.ok Go.Proofs.Try.t120 w := by kernel_rfl
@[simp] theorem typeInfo121 (w : World) : Go.Sem.run Tryq.prog (Go.typeInfo 121) w = Go.Result.ok Go.Proofs.Try.t121 w := by kernel_rfl
@[simp] theorem typeInfo122 (w : World) : Go.Sem.run Tryq.prog (Go.typeInfo 122) w = Go.Result.ok Go.Proofs.Try.t122 w := by kernel_rfl
@[simp] theorem typeInfo123 (w : World) : Go.Sem.run Tryq.prog (Go.typeInfo 123) w = Go.Result.ok Go.Proofs.Try.t123 w := by kernel_rfl
@[simp] theorem typeInfo124 (w : World) : Go.Sem.run Tryq.prog (Go.typeInfo 124) w = Go.Result.ok Go.Proofs.Try.t124 w := by kernel_rfl
@[simp] theorem typeInfo125 (w : World) : Go.Sem.run Tryq.prog (Go.typeInfo 125) w = Go.Result.ok Go.Proofs.Try.t125 w := by kernel_rfl
@[simp] theorem typeInfo126 (w : World) : Go.Sem.run Tryq.prog (Go.typeInfo 126) w = Go.Result.ok Go.Proofs.Try.t126 w := by kernel_rfl
@[simp] theorem typeInfo127 (w : World) : Go.Sem.run Tryq.prog (Go.typeInfo 127) w = Go.Result.ok Go.Proofs.Try.t127 w := by kernel_rfl
@[simp] theorem sizeOf0 (w : World) : Go.Sem.run Tryq.prog (Go.sizeOf 0) w = Go.Result.ok 1 w := by kernel_rfl
@[simp] theorem sizeOf1 (w : World) : Go.Sem.run Tryq.prog (Go.sizeOf 1) w = Go.Result.ok 1 w := by kernel_rfl
@[simp] theorem sizeOf2 (w : World) : Go.Sem.run Tryq.prog (Go.sizeOf 2) w = Go.Result.ok 1 w := by kernel_rfl
@[simp] theorem sizeOf3 (w : World) : Go.Sem.run Tryq.prog (Go.sizeOf 3) w = Go.Result.ok 1 w := by kernel_rfl
@[simp] theorem sizeOf4 (w : World) : Go.Sem.run Tryq.prog (Go.sizeOf 4) w = Go.Result.ok 1 w := by kernel_rfl
@[simp] theorem sizeOf5 (w : World) : Go.Sem.run Tryq.prog (Go.sizeOf 5) w = Go.Result.ok 1 w := by kernel_rfl
@[simp] theorem sizeOf6 (w : World) : Go.Sem.run Tryq.prog (Go.sizeOf 6) w = Go.Result.ok 1 w := by kernel_rfl
@[simp] theorem sizeOf7 (w : World) : Go.Sem.run Tryq.prog (Go.sizeOf 7) w = Go.Result.ok 4 w := by kernel_rfl
@[simp] theorem sizeOf8 (w : World) : Go.Sem.run Tryq.prog (Go.sizeOf 8) w = Go.Result.ok 4 w := by kernel_rfl
@[simp] theorem sizeOf9 (w : World) : Go.Sem.run Tryq.prog (Go.sizeOf 9) w = Go.Result.ok 1 w := by kernel_rfl
@[simp] theorem sizeOf10 (w : World) : Go.Sem.run Tryq.prog (Go.sizeOf 10) w = Go.Result.ok 1 w := by kernel_rfl
@[simp] theorem sizeOf11 (w : World) : Go.Sem.run Tryq.prog (Go.sizeOf 11) w = Go.Result.ok 1 w := by kernel_rfl
@[simp] theorem sizeOf12 (w : World) : Go.Sem.run Tryq.prog (Go.sizeOf 12) w = Go.Result.ok 1 w := by kernel_rfl
@[simp] theorem sizeOf13 (w : World) : Go.Sem.run Tryq.prog (Go.sizeOf 13) w = Go.Result.ok 2 w := by kernel_rfl
@[simp] theorem sizeOf14 (w : World) : Go.Sem.run Tryq.prog (Go.sizeOf 14) w = Go.Result.ok 2 w := by kernel_rfl
@[simp] theorem sizeOf15 (w : World) : Go.Sem.run Tryq.prog (Go.sizeOf 15) w = Go.Result.ok 1 w := by kernel_rfl
@[simp] theorem sizeOf16 (w : World) : Go.Sem.run Tryq.prog (Go.sizeOf 16) w = Go.Result.ok 1 w := by kernel_rfl
@[simp] theorem sizeOf17 (w : World) : Go.Sem.run Tryq.prog (Go.sizeOf 17) w = Go.Result.ok 1 w := by kernel_rfl
@[simp] theorem sizeOf18 (w : World) : Go.Sem.run Tryq.prog (Go.sizeOf 18) w = Go.Result.ok 1 w := by kernel_rfl
@[simp] theorem sizeOf19 (w : World) : Go.Sem.run Tryq.prog (Go.sizeOf 19) w = Go.Result.ok 1 w := by kernel_rfl
@[simp] theorem sizeOf20 (w : World) : Go.Sem.run Tryq.prog (Go.sizeOf 20) w = Go.Result.ok 1 w := by kernel_rfl
@[simp] theorem sizeOf21 (w : World) : Go.Sem.run Tryq.prog (Go.sizeOf 21) w = Go.Result.ok 1 w := by kernel_rfl
@[simp] theorem sizeOf22 (w : World) : Go.Sem.run Tryq.prog (Go.sizeOf 22) w = Go.Result.ok 1 w := by kernel_rfl
@[simp] theorem sizeOf23 (w : World) : Go.Sem.run Tryq.prog (Go.sizeOf 23) w = Go.Result.ok 1 w := by kernel_rfl
@[simp] theorem sizeOf24 (w : World) : Go.Sem.run Tryq.prog (Go.sizeOf 24) w = Go.Result.ok 1 w := by kernel_rfl
@[simp] theorem sizeOf25 (w : World) : Go.Sem.run Tryq.prog (Go.sizeOf 25) w = Go.Result.ok 1 w := by kernel_rfl
@[simp] theorem sizeOf26 (w : World) : Go.Sem.run Tryq.prog (Go.sizeOf 26) w = Go.Result.ok 1 w := by kernel_rfl
@[simp] theorem sizeOf27 (w : World) : Go.Sem.run Tryq.prog (Go.sizeOf 27) w = Go.Result.ok 1 w := by kernel_rfl
@[simp] theorem sizeOf28 (w : World) : Go.Sem.run Tryq.prog (Go.sizeOf 28) w = Go.Result.ok 1 w := by kernel_rfl
@[simp] theorem sizeOf29 (w : World) : Go.Sem.run Tryq.prog (Go.sizeOf 29) w = Go.Result.ok 1 w := by kernel_rfl
@[simp] theorem sizeOf30 (w : World) : Go.Sem.run Tryq.prog (Go.sizeOf 30) w = Go.Result.ok 1 w := by kernel_rfl
@[simp] theorem sizeOf31 (w : World) : Go.Sem.run Tryq.prog (Go.sizeOf 31) w = Go.Result.ok 1 w := by kernel_rfl
@[simp] theorem sizeOf32 (w : World) : Go.Sem.run Tryq.prog (Go.sizeOf 32) w = Go.Result.ok 1 w := by kernel_rfl
@[simp] theorem sizeOf33 (w : World) : Go.Sem.run Tryq.prog (Go.sizeOf 33) w = Go.Result.ok 1 w := by kernel_rfl
@[simp] theorem sizeOf34 (w : World) : Go.Sem.run Tryq.prog (Go.sizeOf 34) w = Go.Result.ok 1 w := by kernel_rfl
@[simp] theorem sizeOf35 (w : World) : Go.Sem.run Tryq.prog (Go.sizeOf 35) w = Go.Result.ok 1 w := by kernel_rfl
@[simp] theorem sizeOf36 (w : World) : Go.Sem.run Tryq.prog (Go.sizeOf 36) w = Go.Result.ok 1 w := by kernel_rfl
@[simp] theorem sizeOf37 (w : World) : Go.Sem.run Tryq.prog (Go.sizeOf 37) w = Go.Result.ok 2 w := by kernel_rfl
@[simp] theorem sizeOf38 (w : World) : Go.Sem.run Tryq.prog (Go.sizeOf 38) w = Go.Result.ok 2 w := by kernel_rfl
@[simp] theorem sizeOf39 (w : World) : Go.Sem.run Tryq.prog (Go.sizeOf 39) w = Go.Result.ok 1 w := by kernel_rfl
@[simp] theorem sizeOf40 (w : World) : Go.Sem.run Tryq.prog (Go.sizeOf 40) w = Go.Result.ok 1 w := by kernel_rfl
@[simp] theorem sizeOf41 (w : World) : Go.Sem.run Tryq.prog (Go.sizeOf 41) w = Go.Result.ok 1 w := by kernel_rfl
@[simp] theorem sizeOf42 (w : World) : Go.Sem.run Tryq.prog (Go.sizeOf 42) w = Go.Result.ok 2 w := by kernel_rfl
@[simp] theorem sizeOf43 (w : World) : Go.Sem.run Tryq.prog (Go.sizeOf 43) w = Go.Result.ok 2 w := by kernel_rfl
@[simp] theorem sizeOf44 (w : World) : Go.Sem.run Tryq.prog (Go.sizeOf 44) w = Go.Result.ok 1 w := by kernel_rfl
@[simp] theorem sizeOf45 (w : World) : Go.Sem.run Tryq.prog (Go.sizeOf 45) w = Go.Result.ok 1 w := by kernel_rfl
@[simp] theorem sizeOf46 (w : World) : Go.Sem.run Tryq.prog (Go.sizeOf 46) w = Go.Result.ok 1 w := by kernel_rfl
@[simp] theorem sizeOf47 (w : World) : Go.Sem.run Tryq.prog (Go.sizeOf 47) w = Go.Result.ok 1 w := by kernel_rfl
@[simp] theorem sizeOf48 (w : World) : Go.Sem.run Tryq.prog (Go.sizeOf 48) w = Go.Result.ok 1 w := by kernel_rfl
@[simp] theorem sizeOf49 (w : World) : Go.Sem.run Tryq.prog (Go.sizeOf 49) w = Go.Result.ok 1 w := by kernel_rfl
@[simp] theorem sizeOf50 (w : World) : Go.Sem.run Tryq.prog (Go.sizeOf 50) w = Go.Result.ok 1 w := by kernel_rfl
@[simp] theorem sizeOf51 (w : World) : Go.Sem.run Tryq.prog (Go.sizeOf 51) w = Go.Result.ok 1 w := by kernel_rfl
@[simp] theorem sizeOf52 (w : World) : Go.Sem.run Tryq.prog (Go.sizeOf 52) w = Go.Result.ok 1 w := by kernel_rfl
@[simp] theorem sizeOf53 (w : World) : Go.Sem.run Tryq.prog (Go.sizeOf 53) w = Go.Result.ok 1 w := by kernel_rfl
@[simp] theorem sizeOf54 (w : World) : Go.Sem.run Tryq.prog (Go.sizeOf 54) w = Go.Result.ok 1 w := by kernel_rfl
@[simp] theorem sizeOf55 (w : World) : Go.Sem.run Tryq.prog (Go.sizeOf 55) w = Go.Result.ok 1 w := by kernel_rfl
@[simp] theorem sizeOf56 (w : World) : Go.Sem.run Tryq.prog (Go.sizeOf 56) w = Go.Result.ok 1 w := by kernel_rfl
@[simp] theorem sizeOf57 (w : World) : Go.Sem.run Tryq.prog (Go.sizeOf 57) w = Go.Result.ok 1 w := by kernel_rfl
@[simp] theorem sizeOf58 (w : World) : Go.Sem.run Tryq.prog (Go.sizeOf 58) w = Go.Result.ok 1 w := by kernel_rfl
@[simp] theorem sizeOf59 (w : World) : Go.Sem.run Tryq.prog (Go.sizeOf 59) w = Go.Result.ok 0 w := by kernel_rfl
@[simp] theorem sizeOf60 (w : World) : Go.Sem.run Tryq.prog (Go.sizeOf 60) w = Go.Result.ok 0 w := by kernel_rfl
@[simp] theorem sizeOf61 (w : World) : Go.Sem.run Tryq.prog (Go.sizeOf 61) w = Go.Result.ok 0 w := by kernel_rfl
@[simp] theorem sizeOf62 (w : World) : Go.Sem.run Tryq.prog (Go.sizeOf 62) w = Go.Result.ok 0 w := by kernel_rfl
@[simp] theorem sizeOf63 (w : World) : Go.Sem.run Tryq.prog (Go.sizeOf 63) w = Go.Result.ok 1 w := by kernel_rfl
@[simp] theorem sizeOf64 (w : World) : Go.Sem.run Tryq.prog (Go.sizeOf 64) w = Go.Result.ok 1 w := by kernel_rfl
@[simp] theorem sizeOf65 (w : World) : Go.Sem.run Tryq.prog (Go.sizeOf 65) w = Go.Result.ok 1 w := by kernel_rfl
@[simp] theorem sizeOf66 (w : World) : Go.Sem.run Tryq.prog (Go.sizeOf 66) w = Go.Result.ok 1 w := by kernel_rfl
@[simp] theorem sizeOf67 (w : World) : Go.Sem.run Tryq.prog (Go.sizeOf 67) w = Go.Result.ok 2 w := by kernel_rfl
@[simp] theorem sizeOf68 (w : World) : Go.Sem.run Tryq.prog (Go.sizeOf 68) w = Go.Result.ok 2 w := by kernel_rfl
@[simp] theorem sizeOf69 (w : World) : Go.Sem.run Tryq.prog (Go.sizeOf 69) w = Go.Result.ok 1 w := by kernel_rfl
@[simp] theorem sizeOf70 (w : World) : Go.Sem.run Tryq.prog (Go.sizeOf 70) w = Go.Result.ok 2 w := by kernel_rfl
@[simp] theorem sizeOf71 (w : World) : Go.Sem.run Tryq.prog (Go.sizeOf 71) w = Go.Result.ok 2 w := by kernel_rfl
@[simp] theorem sizeOf72 (w : World) : Go.Sem.run Tryq.prog (Go.sizeOf 72) w = Go.Result.ok 2 w := by kernel_rfl
@[simp] theorem sizeOf73 (w : World) : Go.Sem.run Tryq.prog (Go.sizeOf 73) w = Go.Result.ok 2 w := by kernel_rfl
@[simp] theorem sizeOf74 (w : World) : Go.Sem.run Tryq.prog (Go.sizeOf 74) w = Go.Result.ok 1 w := by kernel_rfl
@[simp] theorem sizeOf75 (w : World) : Go.Sem.run Tryq.prog (Go.sizeOf 75) w = Go.Result.ok 1 w := by kernel_rfl
@[simp] theorem sizeOf76 (w : World) : Go.Sem.run Tryq.prog (Go.sizeOf 76) w = Go.Result.ok 1 w := by kernel_rfl
@[simp] theorem sizeOf77 (w : World) : Go.Sem.run Tryq.prog (Go.sizeOf 77) w = Go.Result.ok 1 w := by kernel_rfl
@[simp] theorem sizeOf78 (w : World) : Go.Sem.run Tryq.prog (Go.sizeOf 78) w = Go.Result.ok 1 w := by kernel_rfl
@[simp] theorem sizeOf79 (w : World) : Go.Sem.run Tryq.prog (Go.sizeOf 79) w = Go.Result.ok 1 w := by kernel_rfl
@[simp] theorem sizeOf80 (w : World) : Go.Sem.run Tryq.prog (Go.sizeOf 80) w = Go.Result.ok 1 w := by kernel_rfl
@[simp] theorem sizeOf81 (w : World) : Go.Sem.run Tryq.prog (Go.sizeOf 81) w = Go.Result.ok 1 w := by kernel_rfl
@[simp] theorem sizeOf82 (w : World) : Go.Sem.run Tryq.prog (Go.sizeOf 82) w = Go.Result.ok 1 w := by kernel_rfl
@[simp] theorem sizeOf83 (w : World) : Go.Sem.run Tryq.prog (Go.sizeOf 83) w = Go.Result.ok 1 w := by kernel_rfl
@[simp] theorem sizeOf84 (w : World) : Go.Sem.run Tryq.prog (Go.sizeOf 84) w = Go.Result.ok 1 w := by kernel_rfl
@[simp] theorem sizeOf85 (w : World) : Go.Sem.run Tryq.prog (Go.sizeOf 85) w = Go.Result.ok 1 w := by kernel_rfl
@[simp] theorem sizeOf86 (w : World) : Go.Sem.run Tryq.prog (Go.sizeOf 86) w = Go.Result.ok 1 w := by kernel_rfl
@[simp] theorem sizeOf87 (w : World) : Go.Sem.run Tryq.prog (Go.sizeOf 87) w = Go.Result.ok 1 w := by kernel_rfl
@[simp] theorem sizeOf88 (w : World) : Go.Sem.run Tryq.prog (Go.sizeOf 88) w = Go.Result.ok 1 w := by kernel_rfl
@[simp] theorem sizeOf89 (w : World) : Go.Sem.run Tryq.prog (Go.sizeOf 89) w = Go.Result.ok 1 w := by kernel_rfl
@[simp] theorem sizeOf90 (w : World) : Go.Sem.run Tryq.prog (Go.sizeOf 90) w = Go.Result.ok 1 w := by kernel_rfl
@[simp] theorem sizeOf91 (w : World) : Go.Sem.run Tryq.prog (Go.sizeOf 91) w = Go.Result.ok 1 w := by kernel_rfl
@[simp] theorem sizeOf92 (w : World) : Go.Sem.run Tryq.prog (Go.sizeOf 92) w = Go.Result.ok 1 w := by kernel_rfl
@[simp] theorem sizeOf93 (w : World) : Go.Sem.run Tryq.prog (Go.sizeOf 93) w = Go.Result.ok 1 w := by kernel_rfl
@[simp] theorem sizeOf94 (w : World) : Go.Sem.run Tryq.prog (Go.sizeOf 94) w = Go.Result.ok 1 w := by kernel_rfl
@[simp] theorem sizeOf95 (w : World) : Go.Sem.run Tryq.prog (Go.sizeOf 95) w = Go.Result.ok 1 w := by kernel_rfl
@[simp] theorem sizeOf96 (w : World) : Go.Sem.run Tryq.prog (Go.sizeOf 96) w = Go.Result.ok 1 w := by kernel_rfl
@[simp] theorem sizeOf97 (w : World) : Go.Sem.run Tryq.prog (Go.sizeOf 97) w = Go.Result.ok 1 w := by kernel_rfl
@[simp] theorem sizeOf98 (w : World) : Go.Sem.run Tryq.prog (Go.sizeOf 98) w = Go.Result.ok 1 w := by kernel_rfl
@[simp] theorem sizeOf99 (w : World) : Go.Sem.run Tryq.prog (Go.sizeOf 99) w = Go.Result.ok 1 w := by kernel_rfl
@[simp] theorem sizeOf100 (w : World) : Go.Sem.run Tryq.prog (Go.sizeOf 100) w = Go.Result.ok 1 w := by kernel_rfl
@[simp] theorem sizeOf101 (w : World) : Go.Sem.run Tryq.prog (Go.sizeOf 101) w = Go.Result.ok 1 w := by kernel_rfl
@[simp] theorem sizeOf102 (w : World) : Go.Sem.run Tryq.prog (Go.sizeOf 102) w = Go.Result.ok 1 w := by kernel_rfl
@[simp] theorem sizeOf103 (w : World) : Go.Sem.run Tryq.prog (Go.sizeOf 103) w = Go.Result.ok 1 w := by kernel_rfl
@[simp] theorem sizeOf104 (w : World) : Go.Sem.run Tryq.prog (Go.sizeOf 104) w = Go.Result.ok 1 w := by kernel_rfl
@[simp] theorem sizeOf105 (w : World) : Go.Sem.run Tryq.prog (Go.sizeOf 105) w = Go.Result.ok 1 w := by kernel_rfl
@[simp] theorem sizeOf106 (w : World) : Go.Sem.run Tryq.prog (Go.sizeOf 106) w = Go.Result.ok 1 w := by kernel_rfl
@[simp] theorem sizeOf107 (w : World) : Go.Sem.run Tryq.prog (Go.sizeOf 107) w = Go.Result.ok 1 w := by kernel_rfl
@[simp] theorem sizeOf108 (w : World) : Go.Sem.run Tryq.prog (Go.sizeOf 108) w = Go.Result.ok 1 w := by kernel_rfl
@[simp] theorem sizeOf109 (w : World) : Go.Sem.run Tryq.prog (Go.sizeOf 109) w = Go.Result.ok 1 w := by kernel_rfl
@[simp] theorem sizeOf110 (w : World) : Go.Sem.run Tryq.prog (Go.sizeOf 110) w = Go.Result.ok 1 w := by kernel_rfl
@[simp] theorem sizeOf111 (w : World) : Go.Sem.run Tryq.prog (Go.sizeOf 111) w = Go.Result.ok 1 w := by kernel_rfl
@[simp] theorem sizeOf112 (w : World) : Go.Sem.run Tryq.prog (Go.sizeOf 112) w = Go.Result.ok 1 w := by kernel_rfl
@[simp] theorem sizeOf113 (w : World) : Go.Sem.run Tryq.prog (Go.sizeOf 113) w = Go.Result.ok 1 w := by kernel_rfl
@[simp] theorem sizeOf114 (w : World) : Go.Sem.run Tryq.prog (Go.sizeOf 114) w = Go.Result.ok 4 w := by kernel_rfl
@[simp] theorem sizeOf115 (w : World) : Go.Sem.run Tryq.prog (Go.sizeOf 115) w = Go.Result.ok 4 w := by kernel_rfl
@[simp] theorem sizeOf116 (w : World) : Go.Sem.run Tryq.prog (Go.sizeOf 116) w = Go.Result.ok 0 w := by kernel_rfl
@[simp] theorem sizeOf117 (w : World) : Go.Sem.run Tryq.prog (Go.sizeOf 117) w = Go.Result.ok 0 w := by kernel_rfl
@[simp] theorem sizeOf118 (w : World) : Go.Sem.run Tryq.prog (Go.sizeOf 118) w = Go.Result.ok 0 w := by kernel_rfl
@[simp] theorem sizeOf119 (w : World) : Go.Sem.run Tryq.prog (Go.sizeOf 119) w = Go.Result.ok 1 w := by kernel_rfl
@[simp] theorem sizeOf120 (w : World) : Go.Sem.run Tryq.prog (Go.sizeOf 120) w = Go.Result.ok 1 w := by kernel_rfl
@[simp] theorem sizeOf121 (w : World) : Go.Sem.run Tryq.prog (Go.sizeOf 121) w = Go.Result.ok 1 w := by kernel_rfl
@[simp] theorem sizeOf122 (w : World) : Go.Sem.run Tryq.prog (Go.sizeOf 122) w = Go.Result.ok 1 w := by kernel_rfl
@[simp] theorem sizeOf123 (w : World) : Go.Sem.run Tryq.prog (Go.sizeOf 123) w = Go.Result.ok 1 w := by kernel_rfl
@[simp] theorem sizeOf124 (w : World) : Go.Sem.run Tryq.prog (Go.sizeOf 124) w = Go.Result.ok 1 w := by kernel_rfl
@[simp] theorem sizeOf125 (w : World) : Go.Sem.run Tryq.prog (Go.sizeOf 125) w = Go.Result.ok 11 w := by kernel_rfl
@[simp] theorem sizeOf126 (w : World) : Go.Sem.run Tryq.prog (Go.sizeOf 126) w = Go.Result.ok 11 w := by kernel_rfl
@[simp] theorem sizeOf127 (w : World) : Go.Sem.run Tryq.prog (Go.sizeOf 127) w = Go.Result.ok 1 w := by kernel_rfl
@[simp] theorem runUnderlying0 (w : World) : Go.Sem.run Tryq.prog (Go.underlying 0) w = Go.Result.ok (Go.TypeDesc.tuple #[]) w := by kernel_rfl
@[simp] theorem runUnderlying1 (w : World) : Go.Sem.run Tryq.prog (Go.underlying 1) w = Go.Result.ok (Go.TypeDesc.func #[] #[] Bool.false) w := by kernel_rfl
@[simp] theorem runUnderlying2 (w : World) : Go.Sem.run Tryq.prog (Go.underlying 2) w = Go.Result.ok (Go.TypeDesc.int Go.IntKind.i64) w := by kernel_rfl
@[simp] theorem runUnderlying3 (w : World) : Go.Sem.run Tryq.prog (Go.underlying 3) w = Go.Result.ok (Go.TypeDesc.int Go.IntKind.i64) w := by kernel_rfl
@[simp] theorem runUnderlying4 (w : World) : Go.Sem.run Tryq.prog (Go.underlying 4) w = Go.Result.ok Go.TypeDesc.bool w := by kernel_rfl
@[simp] theorem runUnderlying5 (w : World) : Go.Sem.run Tryq.prog (Go.underlying 5) w = Go.Result.ok (Go.TypeDesc.int Go.IntKind.u8) w := by kernel_rfl
@[simp] theorem runUnderlying6 (w : World) : Go.Sem.run Tryq.prog (Go.underlying 6) w = Go.Result.ok (Go.TypeDesc.int Go.IntKind.u8) w := by kernel_rfl
@[simp] theorem runUnderlying7 (w : World) : Go.Sem.run Tryq.prog (Go.underlying 7) w = Go.Result.ok (Go.TypeDesc.struct #[Go.Field.mk "x" 2 0 Bool.false "" "runtime" 0, Go.Field.mk "y" 3 1 Bool.false "" "runtime" 8, Go.Field.mk "signed" 4 2 Bool.false "" "runtime" 16, Go.Field.mk "code" 6 3 Bool.false "" "runtime" 17]) w := by kernel_rfl
@[simp] theorem runUnderlying8 (w : World) : Go.Sem.run Tryq.prog (Go.underlying 8) w = Go.Result.ok (Go.TypeDesc.struct #[Go.Field.mk "x" 2 0 Bool.false "" "runtime" 0, Go.Field.mk "y" 3 1 Bool.false "" "runtime" 8, Go.Field.mk "signed" 4 2 Bool.false "" "runtime" 16, Go.Field.mk "code" 6 3 Bool.false "" "runtime" 17]) w := by kernel_rfl
@[simp] theorem runUnderlying9 (w : World) : Go.Sem.run Tryq.prog (Go.underlying 9) w = Go.Result.ok Go.TypeDesc.string w := by kernel_rfl
@[simp] theorem runUnderlying10 (w : World) : Go.Sem.run Tryq.prog (Go.underlying 10) w = Go.Result.ok Go.TypeDesc.string w := by kernel_rfl
@[simp] theorem runUnderlying11 (w : World) : Go.Sem.run Tryq.prog (Go.underlying 11) w = Go.Result.ok Go.TypeDesc.string w := by kernel_rfl
@[simp] theorem runUnderlying12 (w : World) : Go.Sem.run Tryq.prog (Go.underlying 12) w = Go.Result.ok (Go.TypeDesc.int Go.IntKind.u64) w := by kernel_rfl
@[simp] theorem runUnderlying13 (w : World) : Go.Sem.run Tryq.prog (Go.underlying 13) w = Go.Result.ok (Go.TypeDesc.struct #[Go.Field.mk "msg" 9 0 Bool.false "" "runtime" 0, Go.Field.mk "addr" 12 1 Bool.false "" "runtime" 16]) w := by kernel_rfl
@[simp] theorem runUnderlying14 (w : World) : Go.Sem.run Tryq.prog (Go.underlying 14) w = Go.Result.ok (Go.TypeDesc.struct #[Go.Field.mk "msg" 9 0 Bool.false "" "runtime" 0, Go.Field.mk "addr" 12 1 Bool.false "" "runtime" 16]) w := by kernel_rfl
@[simp] theorem runUnderlying15 (w : World) : Go.Sem.run Tryq.prog (Go.underlying 15) w = Go.Result.ok (Go.TypeDesc.pointer 115) w := by kernel_rfl
@[simp] theorem runUnderlying16 (w : World) : Go.Sem.run Tryq.prog (Go.underlying 16) w = Go.Result.ok (Go.TypeDesc.pointer 118) w := by kernel_rfl
@[simp] theorem runUnderlying17 (w : World) : Go.Sem.run Tryq.prog (Go.underlying 17) w = Go.Result.ok (Go.TypeDesc.pointer 126) w := by kernel_rfl
@[simp] theorem runUnderlying18 (w : World) : Go.Sem.run Tryq.prog (Go.underlying 18) w = Go.Result.ok (Go.TypeDesc.struct #[Go.Field.mk "typ" 17 0 Bool.false "" "internal/runtime/maps" 0]) w := by kernel_rfl
@[simp] theorem runUnderlying19 (w : World) : Go.Sem.run Tryq.prog (Go.underlying 19) w = Go.Result.ok (Go.TypeDesc.struct #[Go.Field.mk "typ" 17 0 Bool.false "" "internal/runtime/maps" 0]) w := by kernel_rfl
@[simp] theorem runUnderlying20 (w : World) : Go.Sem.run Tryq.prog (Go.underlying 20) w = Go.Result.ok (Go.TypeDesc.interface #[]) w := by kernel_rfl
@[simp] theorem runUnderlying21 (w : World) : Go.Sem.run Tryq.prog (Go.underlying 21) w = Go.Result.ok (Go.TypeDesc.int Go.IntKind.i32) w := by kernel_rfl
@[simp] theorem runUnderlying22 (w : World) : Go.Sem.run Tryq.prog (Go.underlying 22) w = Go.Result.ok (Go.TypeDesc.slice 5) w := by kernel_rfl
@[simp] theorem runUnderlying23 (w : World) : Go.Sem.run Tryq.prog (Go.underlying 23) w = Go.Result.ok (Go.TypeDesc.func #[22] #[3] Bool.false) w := by kernel_rfl
@[simp] theorem runUnderlying24 (w : World) : Go.Sem.run Tryq.prog (Go.underlying 24) w = Go.Result.ok (Go.TypeDesc.tuple #[3, 4]) w := by kernel_rfl
@[simp] theorem runUnderlying25 (w : World) : Go.Sem.run Tryq.prog (Go.underlying 25) w = Go.Result.ok (Go.TypeDesc.func #[3] #[3, 4] Bool.false) w := by kernel_rfl
@[simp] theorem runUnderlying26 (w : World) : Go.Sem.run Tryq.prog (Go.underlying 26) w = Go.Result.ok (Go.TypeDesc.func #[3] #[4] Bool.false) w := by kernel_rfl
@[simp] theorem runUnderlying27 (w : World) : Go.Sem.run Tryq.prog (Go.underlying 27) w = Go.Result.ok (Go.TypeDesc.func #[22] #[4] Bool.false) w := by kernel_rfl
@[simp] theorem runUnderlying28 (w : World) : Go.Sem.run Tryq.prog (Go.underlying 28) w = Go.Result.ok (Go.TypeDesc.tuple #[3, 3]) w := by kernel_rfl
@[simp] theorem runUnderlying29 (w : World) : Go.Sem.run Tryq.prog (Go.underlying 29) w = Go.Result.ok (Go.TypeDesc.func #[22] #[3, 3] Bool.false) w := by kernel_rfl
@[simp] theorem runUnderlying30 (w : World) : Go.Sem.run Tryq.prog (Go.underlying 30) w = Go.Result.ok (Go.TypeDesc.slice 3) w := by kernel_rfl
@[simp] theorem runUnderlying31 (w : World) : Go.Sem.run Tryq.prog (Go.underlying 31) w = Go.Result.ok (Go.TypeDesc.tuple #[30, 4]) w := by kernel_rfl
@[simp] theorem runUnderlying32 (w : World) : Go.Sem.run Tryq.prog (Go.underlying 32) w = Go.Result.ok (Go.TypeDesc.func #[3, 3] #[30, 4] Bool.false) w := by kernel_rfl
@[simp] theorem runUnderlying33 (w : World) : Go.Sem.run Tryq.prog (Go.underlying 33) w = Go.Result.ok (Go.TypeDesc.func #[30, 30] #[4] Bool.false) w := by kernel_rfl
@[simp] theorem runUnderlying34 (w : World) : Go.Sem.run Tryq.prog (Go.underlying 34) w = Go.Result.ok (Go.TypeDesc.tuple #[3, 3, 4]) w := by kernel_rfl
@[simp] theorem runUnderlying35 (w : World) : Go.Sem.run Tryq.prog (Go.underlying 35) w = Go.Result.ok (Go.TypeDesc.func #[3, 3] #[3, 3, 4] Bool.false) w := by kernel_rfl
@[simp] theorem runUnderlying36 (w : World) : Go.Sem.run Tryq.prog (Go.underlying 36) w = Go.Result.ok (Go.TypeDesc.func #[3, 38] #[3, 3, 4] Bool.false) w := by kernel_rfl
@[simp] theorem runUnderlying37 (w : World) : Go.Sem.run Tryq.prog (Go.underlying 37) w = Go.Result.ok (Go.TypeDesc.struct #[Go.Field.mk "Top" 3 0 Bool.false "" "" 0, Go.Field.mk "Bottom" 3 1 Bool.false "" "" 8]) w := by kernel_rfl
@[simp] theorem runUnderlying38 (w : World) : Go.Sem.run Tryq.prog (Go.underlying 38) w = Go.Result.ok (Go.TypeDesc.struct #[Go.Field.mk "Top" 3 0 Bool.false "" "" 0, Go.Field.mk "Bottom" 3 1 Bool.false "" "" 8]) w := by kernel_rfl
@[simp] theorem runUnderlying39 (w : World) : Go.Sem.run Tryq.prog (Go.underlying 39) w = Go.Result.ok (Go.TypeDesc.func #[3, 3] #[3, 4] Bool.false) w := by kernel_rfl
@[simp] theorem runUnderlying40 (w : World) : Go.Sem.run Tryq.prog (Go.underlying 40) w = Go.Result.ok (Go.TypeDesc.slice 43) w := by kernel_rfl
@[simp] theorem runUnderlying41 (w : World) : Go.Sem.run Tryq.prog (Go.underlying 41) w = Go.Result.ok (Go.TypeDesc.func #[3] #[30] Bool.false) w := by kernel_rfl
@[simp] theorem runUnderlying42 (w : World) : Go.Sem.run Tryq.prog (Go.underlying 42) w = Go.Result.ok (Go.TypeDesc.struct #[Go.Field.mk "number" 3 0 Bool.false "" "loop.example/fractionrounds/impl" 0, Go.Field.mk "n" 3 1 Bool.false "" "loop.example/fractionrounds/impl" 8]) w := by kernel_rfl
@[simp] theorem runUnderlying43 (w : World) : Go.Sem.run Tryq.prog (Go.underlying 43) w = Go.Result.ok (Go.TypeDesc.struct #[Go.Field.mk "number" 3 0 Bool.false "" "loop.example/fractionrounds/impl" 0, Go.Field.mk "n" 3 1 Bool.false "" "loop.example/fractionrounds/impl" 8]) w := by kernel_rfl
@[simp] theorem runUnderlying44 (w : World) : Go.Sem.run Tryq.prog (Go.underlying 44) w = Go.Result.ok (Go.TypeDesc.func #[40] #[30] Bool.false) w := by kernel_rfl
@[simp] theorem runUnderlying45 (w : World) : Go.Sem.run Tryq.prog (Go.underlying 45) w = Go.Result.ok (Go.TypeDesc.func #[3, 3] #[3] Bool.false) w := by kernel_rfl
@[simp] theorem runUnderlying46 (w : World) : Go.Sem.run Tryq.prog (Go.underlying 46) w = Go.Result.ok (Go.TypeDesc.func #[3, 3, 3] #[4] Bool.false) w := by kernel_rfl
@[simp] theorem runUnderlying47 (w : World) : Go.Sem.run Tryq.prog (Go.underlying 47) w = Go.Result.ok (Go.TypeDesc.pointer 73) w := by kernel_rfl
@[simp] theorem runUnderlying48 (w : World) : Go.Sem.run Tryq.prog (Go.underlying 48) w = Go.Result.ok (Go.TypeDesc.func #[22] #[47] Bool.false) w := by kernel_rfl
@[simp] theorem runUnderlying49 (w : World) : Go.Sem.run Tryq.prog (Go.underlying 49) w = Go.Result.ok (Go.TypeDesc.func #[47] #[3] Bool.false) w := by kernel_rfl
@[simp] theorem runUnderlying50 (w : World) : Go.Sem.run Tryq.prog (Go.underlying 50) w = Go.Result.ok (Go.TypeDesc.func #[3] #[3] Bool.false) w := by kernel_rfl
@[simp] theorem runUnderlying51 (w : World) : Go.Sem.run Tryq.prog (Go.underlying 51) w = Go.Result.ok (Go.TypeDesc.func #[3, 3] #[4] Bool.false) w := by kernel_rfl
@[simp] theorem runUnderlying52 (w : World) : Go.Sem.run Tryq.prog (Go.underlying 52) w = Go.Result.ok (Go.TypeDesc.slice 30) w := by kernel_rfl
@[simp] theorem runUnderlying53 (w : World) : Go.Sem.run Tryq.prog (Go.underlying 53) w = Go.Result.ok (Go.TypeDesc.func #[3, 3] #[52] Bool.false) w := by kernel_rfl
@[simp] theorem runUnderlying54 (w : World) : Go.Sem.run Tryq.prog (Go.underlying 54) w = Go.Result.ok (Go.TypeDesc.func #[3, 3] #[3, 3] Bool.false) w := by kernel_rfl
@[simp] theorem runUnderlying55 (w : World) : Go.Sem.run Tryq.prog (Go.underlying 55) w = Go.Result.ok (Go.TypeDesc.func #[3, 38] #[3, 3] Bool.false) w := by kernel_rfl
@[simp] theorem runUnderlying56 (w : World) : Go.Sem.run Tryq.prog (Go.underlying 56) w = Go.Result.ok (Go.TypeDesc.func #[3, 38] #[4] Bool.false) w := by kernel_rfl
@[simp] theorem runUnderlying57 (w : World) : Go.Sem.run Tryq.prog (Go.underlying 57) w = Go.Result.ok (Go.TypeDesc.func #[] #[3] Bool.false) w := by kernel_rfl
@[simp] theorem runUnderlying58 (w : World) : Go.Sem.run Tryq.prog (Go.underlying 58) w = Go.Result.ok (Go.TypeDesc.chan Go.ChanDir.both 71) w := by kernel_rfl
@[simp] theorem runUnderlying59 (w : World) : Go.Sem.run Tryq.prog (Go.underlying 59) w = Go.Result.ok (Go.TypeDesc.struct #[]) w := by kernel_rfl
@[simp] theorem runUnderlying60 (w : World) : Go.Sem.run Tryq.prog (Go.underlying 60) w = Go.Result.ok (Go.TypeDesc.struct #[]) w := by kernel_rfl
@[simp] theorem runUnderlying61 (w : World) : Go.Sem.run Tryq.prog (Go.underlying 61) w = Go.Result.ok (Go.TypeDesc.struct #[]) w := by kernel_rfl
@[simp] theorem runUnderlying62 (w : World) : Go.Sem.run Tryq.prog (Go.underlying 62) w = Go.Result.ok (Go.TypeDesc.struct #[]) w := by kernel_rfl
@[simp] theorem runUnderlying63 (w : World) : Go.Sem.run Tryq.prog (Go.underlying 63) w = Go.Result.ok (Go.TypeDesc.int Go.IntKind.u64) w := by kernel_rfl
@[simp] theorem runUnderlying64 (w : World) : Go.Sem.run Tryq.prog (Go.underlying 64) w = Go.Result.ok (Go.TypeDesc.struct #[Go.Field.mk "_" 61 0 Bool.false "" "sync/atomic" 0, Go.Field.mk "_" 62 0 Bool.false "" "sync/atomic" 0, Go.Field.mk "v" 63 0 Bool.false "" "sync/atomic" 0]) w := by kernel_rfl
@[simp] theorem runUnderlying65 (w : World) : Go.Sem.run Tryq.prog (Go.underlying 65) w = Go.Result.ok (Go.TypeDesc.struct #[Go.Field.mk "_" 61 0 Bool.false "" "sync/atomic" 0, Go.Field.mk "_" 62 0 Bool.false "" "sync/atomic" 0, Go.Field.mk "v" 63 0 Bool.false "" "sync/atomic" 0]) w := by kernel_rfl
@[simp] theorem runUnderlying66 (w : World) : Go.Sem.run Tryq.prog (Go.underlying 66) w = Go.Result.ok (Go.TypeDesc.int Go.IntKind.u32) w := by kernel_rfl
@[simp] theorem runUnderlying67 (w : World) : Go.Sem.run Tryq.prog (Go.underlying 67) w = Go.Result.ok (Go.TypeDesc.struct #[Go.Field.mk "noCopy" 60 0 Bool.false "" "sync" 0, Go.Field.mk "state" 65 0 Bool.false "" "sync" 0, Go.Field.mk "sema" 66 1 Bool.false "" "sync" 8]) w := by kernel_rfl
@[simp] theorem runUnderlying68 (w : World) : Go.Sem.run Tryq.prog (Go.underlying 68) w = Go.Result.ok (Go.TypeDesc.struct #[Go.Field.mk "noCopy" 60 0 Bool.false "" "sync" 0, Go.Field.mk "state" 65 0 Bool.false "" "sync" 0, Go.Field.mk "sema" 66 1 Bool.false "" "sync" 8]) w := by kernel_rfl
@[simp] theorem runUnderlying69 (w : World) : Go.Sem.run Tryq.prog (Go.underlying 69) w = Go.Result.ok (Go.TypeDesc.func #[3] #[] Bool.false) w := by kernel_rfl
@[simp] theorem runUnderlying70 (w : World) : Go.Sem.run Tryq.prog (Go.underlying 70) w = Go.Result.ok (Go.TypeDesc.struct #[Go.Field.mk "place" 3 0 Bool.false "" "loop.example/fractionrounds/impl" 0, Go.Field.mk "order" 3 1 Bool.false "" "loop.example/fractionrounds/impl" 8]) w := by kernel_rfl
@[simp] theorem runUnderlying71 (w : World) : Go.Sem.run Tryq.prog (Go.underlying 71) w = Go.Result.ok (Go.TypeDesc.struct #[Go.Field.mk "place" 3 0 Bool.false "" "loop.example/fractionrounds/impl" 0, Go.Field.mk "order" 3 1 Bool.false "" "loop.example/fractionrounds/impl" 8]) w := by kernel_rfl
@[simp] theorem runUnderlying72 (w : World) : Go.Sem.run Tryq.prog (Go.underlying 72) w = Go.Result.ok (Go.TypeDesc.struct #[Go.Field.mk "b" 22 0 Bool.false "" "loop.example/fractionrounds/spec" 0, Go.Field.mk "p" 3 1 Bool.false "" "loop.example/fractionrounds/spec" 24]) w := by kernel_rfl
@[simp] theorem runUnderlying73 (w : World) : Go.Sem.run Tryq.prog (Go.underlying 73) w = Go.Result.ok (Go.TypeDesc.struct #[Go.Field.mk "b" 22 0 Bool.false "" "loop.example/fractionrounds/spec" 0, Go.Field.mk "p" 3 1 Bool.false "" "loop.example/fractionrounds/spec" 24]) w := by kernel_rfl
@[simp] theorem runUnderlying74 (w : World) : Go.Sem.run Tryq.prog (Go.underlying 74) w = Go.Result.ok (Go.TypeDesc.map 3 3) w := by kernel_rfl
@[simp] theorem runUnderlying75 (w : World) : Go.Sem.run Tryq.prog (Go.underlying 75) w = Go.Result.ok (Go.TypeDesc.map 3 3) w := by kernel_rfl
@[simp] theorem runUnderlying76 (w : World) : Go.Sem.run Tryq.prog (Go.underlying 76) w = Go.Result.ok (Go.TypeDesc.slice 4) w := by kernel_rfl
@[simp] theorem runUnderlying77 (w : World) : Go.Sem.run Tryq.prog (Go.underlying 77) w = Go.Result.ok (Go.TypeDesc.func #[38] #[4] Bool.false) w := by kernel_rfl
@[simp] theorem runUnderlying78 (w : World) : Go.Sem.run Tryq.prog (Go.underlying 78) w = Go.Result.ok (Go.TypeDesc.tuple #[30, 3]) w := by kernel_rfl
@[simp] theorem runUnderlying79 (w : World) : Go.Sem.run Tryq.prog (Go.underlying 79) w = Go.Result.ok (Go.TypeDesc.func #[3, 38] #[30, 3] Bool.false) w := by kernel_rfl
@[simp] theorem runUnderlying80 (w : World) : Go.Sem.run Tryq.prog (Go.underlying 80) w = Go.Result.ok (Go.TypeDesc.func #[104] #[] Bool.false) w := by kernel_rfl
@[simp] theorem runUnderlying81 (w : World) : Go.Sem.run Tryq.prog (Go.underlying 81) w = Go.Result.ok (Go.TypeDesc.func #[104] #[] Bool.false) w := by kernel_rfl
@[simp] theorem runUnderlying82 (w : World) : Go.Sem.run Tryq.prog (Go.underlying 82) w = Go.Result.ok (Go.TypeDesc.func #[3] #[81] Bool.false) w := by kernel_rfl
@[simp] theorem runUnderlying83 (w : World) : Go.Sem.run Tryq.prog (Go.underlying 83) w = Go.Result.ok (Go.TypeDesc.func #[3] #[38] Bool.false) w := by kernel_rfl
@[simp] theorem runUnderlying84 (w : World) : Go.Sem.run Tryq.prog (Go.underlying 84) w = Go.Result.ok (Go.TypeDesc.pointer 68) w := by kernel_rfl
@[simp] theorem runUnderlying85 (w : World) : Go.Sem.run Tryq.prog (Go.underlying 85) w = Go.Result.ok (Go.TypeDesc.func #[86] #[] Bool.false) w := by kernel_rfl
@[simp] theorem runUnderlying86 (w : World) : Go.Sem.run Tryq.prog (Go.underlying 86) w = Go.Result.ok Go.TypeDesc.unsafePointer w := by kernel_rfl
@[simp] theorem runUnderlying87 (w : World) : Go.Sem.run Tryq.prog (Go.underlying 87) w = Go.Result.ok (Go.TypeDesc.func #[] #[4] Bool.false) w := by kernel_rfl
@[simp] theorem runUnderlying88 (w : World) : Go.Sem.run Tryq.prog (Go.underlying 88) w = Go.Result.ok (Go.TypeDesc.int Go.IntKind.i64) w := by kernel_rfl
@[simp] theorem runUnderlying89 (w : World) : Go.Sem.run Tryq.prog (Go.underlying 89) w = Go.Result.ok (Go.TypeDesc.func #[84] #[88] Bool.false) w := by kernel_rfl
@[simp] theorem runUnderlying90 (w : World) : Go.Sem.run Tryq.prog (Go.underlying 90) w = Go.Result.ok (Go.TypeDesc.func #[9] #[] Bool.false) w := by kernel_rfl
@[simp] theorem runUnderlying91 (w : World) : Go.Sem.run Tryq.prog (Go.underlying 91) w = Go.Result.ok (Go.TypeDesc.func #[63] #[63] Bool.false) w := by kernel_rfl
@[simp] theorem runUnderlying92 (w : World) : Go.Sem.run Tryq.prog (Go.underlying 92) w = Go.Result.ok (Go.TypeDesc.int Go.IntKind.u64) w := by kernel_rfl
@[simp] theorem runUnderlying93 (w : World) : Go.Sem.run Tryq.prog (Go.underlying 93) w = Go.Result.ok (Go.TypeDesc.pointer 66) w := by kernel_rfl
@[simp] theorem runUnderlying94 (w : World) : Go.Sem.run Tryq.prog (Go.underlying 94) w = Go.Result.ok (Go.TypeDesc.func #[] #[63] Bool.false) w := by kernel_rfl
@[simp] theorem runUnderlying95 (w : World) : Go.Sem.run Tryq.prog (Go.underlying 95) w = Go.Result.ok (Go.TypeDesc.func #[63] #[] Bool.false) w := by kernel_rfl
@[simp] theorem runUnderlying96 (w : World) : Go.Sem.run Tryq.prog (Go.underlying 96) w = Go.Result.ok (Go.TypeDesc.func #[84] #[] Bool.false) w := by kernel_rfl
@[simp] theorem runUnderlying97 (w : World) : Go.Sem.run Tryq.prog (Go.underlying 97) w = Go.Result.ok (Go.TypeDesc.func #[93, 4, 3] #[] Bool.false) w := by kernel_rfl
@[simp] theorem runUnderlying98 (w : World) : Go.Sem.run Tryq.prog (Go.underlying 98) w = Go.Result.ok (Go.TypeDesc.func #[84] #[4] Bool.false) w := by kernel_rfl
@[simp] theorem runUnderlying99 (w : World) : Go.Sem.run Tryq.prog (Go.underlying 99) w = Go.Result.ok (Go.TypeDesc.func #[63, 63] #[4] Bool.false) w := by kernel_rfl
@[simp] theorem runUnderlying100 (w : World) : Go.Sem.run Tryq.prog (Go.underlying 100) w = Go.Result.ok (Go.TypeDesc.func #[93, 4] #[] Bool.false) w := by kernel_rfl
@[simp] theorem runUnderlying101 (w : World) : Go.Sem.run Tryq.prog (Go.underlying 101) w = Go.Result.ok (Go.TypeDesc.func #[26] #[] Bool.false) w := by kernel_rfl
@[simp] theorem runUnderlying102 (w : World) : Go.Sem.run Tryq.prog (Go.underlying 102) w = Go.Result.ok (Go.TypeDesc.func #[26] #[] Bool.false) w := by kernel_rfl
@[simp] theorem runUnderlying103 (w : World) : Go.Sem.run Tryq.prog (Go.underlying 103) w = Go.Result.ok (Go.TypeDesc.func #[3] #[102] Bool.false) w := by kernel_rfl
@[simp] theorem runUnderlying104 (w : World) : Go.Sem.run Tryq.prog (Go.underlying 104) w = Go.Result.ok (Go.TypeDesc.func #[38, 3] #[4] Bool.false) w := by kernel_rfl
@[simp] theorem runUnderlying105 (w : World) : Go.Sem.run Tryq.prog (Go.underlying 105) w = Go.Result.ok (Go.TypeDesc.tuple #[3, 38]) w := by kernel_rfl
@[simp] theorem runUnderlying106 (w : World) : Go.Sem.run Tryq.prog (Go.underlying 106) w = Go.Result.ok (Go.TypeDesc.func #[3] #[3, 38] Bool.false) w := by kernel_rfl
@[simp] theorem runUnderlying107 (w : World) : Go.Sem.run Tryq.prog (Go.underlying 107) w = Go.Result.ok (Go.TypeDesc.pointer 65) w := by kernel_rfl
@[simp] theorem runUnderlying108 (w : World) : Go.Sem.run Tryq.prog (Go.underlying 108) w = Go.Result.ok (Go.TypeDesc.func #[109, 63] #[63] Bool.false) w := by kernel_rfl
@[simp] theorem runUnderlying109 (w : World) : Go.Sem.run Tryq.prog (Go.underlying 109) w = Go.Result.ok (Go.TypeDesc.pointer 63) w := by kernel_rfl
@[simp] theorem runUnderlying110 (w : World) : Go.Sem.run Tryq.prog (Go.underlying 110) w = Go.Result.ok (Go.TypeDesc.func #[109] #[63] Bool.false) w := by kernel_rfl
@[simp] theorem runUnderlying111 (w : World) : Go.Sem.run Tryq.prog (Go.underlying 111) w = Go.Result.ok (Go.TypeDesc.func #[109, 63] #[] Bool.false) w := by kernel_rfl
@[simp] theorem runUnderlying112 (w : World) : Go.Sem.run Tryq.prog (Go.underlying 112) w = Go.Result.ok (Go.TypeDesc.func #[109, 63, 63] #[4] Bool.false) w := by kernel_rfl
@[simp] theorem runUnderlying113 (w : World) : Go.Sem.run Tryq.prog (Go.underlying 113) w = Go.Result.ok (Go.TypeDesc.func #[] #[9] Bool.false) w := by kernel_rfl
@[simp] theorem runUnderlying114 (w : World) : Go.Sem.run Tryq.prog (Go.underlying 114) w = Go.Result.ok (Go.TypeDesc.struct #[Go.Field.mk "_interface" 17 0 Bool.false "" "runtime" 0, Go.Field.mk "concrete" 17 1 Bool.false "" "runtime" 8, Go.Field.mk "asserted" 17 2 Bool.false "" "runtime" 16, Go.Field.mk "missingMethod" 9 3 Bool.false "" "runtime" 24]) w := by kernel_rfl
@[simp] theorem runUnderlying115 (w : World) : Go.Sem.run Tryq.prog (Go.underlying 115) w = Go.Result.ok (Go.TypeDesc.struct #[Go.Field.mk "_interface" 17 0 Bool.false "" "runtime" 0, Go.Field.mk "concrete" 17 1 Bool.false "" "runtime" 8, Go.Field.mk "asserted" 17 2 Bool.false "" "runtime" 16, Go.Field.mk "missingMethod" 9 3 Bool.false "" "runtime" 24]) w := by kernel_rfl
@[simp] theorem runUnderlying116 (w : World) : Go.Sem.run Tryq.prog (Go.underlying 116) w = Go.Result.ok (Go.TypeDesc.array 0 16) w := by kernel_rfl
@[simp] theorem runUnderlying117 (w : World) : Go.Sem.run Tryq.prog (Go.underlying 117) w = Go.Result.ok (Go.TypeDesc.struct #[Go.Field.mk "_" 116 0 Bool.false "" "runtime" 0]) w := by kernel_rfl
@[simp] theorem runUnderlying118 (w : World) : Go.Sem.run Tryq.prog (Go.underlying 118) w = Go.Result.ok (Go.TypeDesc.struct #[Go.Field.mk "_" 116 0 Bool.false "" "runtime" 0]) w := by kernel_rfl
@[simp] theorem runUnderlying119 (w : World) : Go.Sem.run Tryq.prog (Go.underlying 119) w = Go.Result.ok (Go.TypeDesc.int Go.IntKind.u8) w := by kernel_rfl
@[simp] theorem runUnderlying120 (w : World) : Go.Sem.run Tryq.prog (Go.underlying 120) w = Go.Result.ok (Go.TypeDesc.int Go.IntKind.u8) w := by kernel_rfl
@[simp] theorem runUnderlying121 (w : World) : Go.Sem.run Tryq.prog (Go.underlying 121) w = Go.Result.ok (Go.TypeDesc.func #[86, 86] #[4] Bool.false) w := by kernel_rfl
@[simp] theorem runUnderlying122 (w : World) : Go.Sem.run Tryq.prog (Go.underlying 122) w = Go.Result.ok (Go.TypeDesc.pointer 5) w := by kernel_rfl
@[simp] theorem runUnderlying123 (w : World) : Go.Sem.run Tryq.prog (Go.underlying 123) w = Go.Result.ok (Go.TypeDesc.int Go.IntKind.i32) w := by kernel_rfl
@[simp] theorem runUnderlying124 (w : World) : Go.Sem.run Tryq.prog (Go.underlying 124) w = Go.Result.ok (Go.TypeDesc.int Go.IntKind.i32) w := by kernel_rfl
@[simp] theorem runUnderlying125 (w : World) : Go.Sem.run Tryq.prog (Go.underlying 125) w = Go.Result.ok (Go.TypeDesc.struct #[Go.Field.mk "Size_" 12 0 Bool.false "" "" 0, Go.Field.mk "PtrBytes" 12 1 Bool.false "" "" 8, Go.Field.mk "Hash" 66 2 Bool.false "" "" 16, Go.Field.mk "TFlag" 119 3 Bool.false "" "" 20, Go.Field.mk "Align_" 5 4 Bool.false "" "" 21, Go.Field.mk "FieldAlign_" 5 5 Bool.false "" "" 22, Go.Field.mk "Kind_" 120 6 Bool.false "" "" 23, Go.Field.mk "Equal" 121 7 Bool.false "" "" 24, Go.Field.mk "GCData" 122 8 Bool.false "" "" 32, Go.Field.mk "Str" 123 9 Bool.false "" "" 40, Go.Field.mk "PtrToThis" 124 10 Bool.false "" "" 44]) w := by kernel_rfl
@[simp] theorem runUnderlying126 (w : World) : Go.Sem.run Tryq.prog (Go.underlying 126) w = Go.Result.ok (Go.TypeDesc.struct #[Go.Field.mk "Size_" 12 0 Bool.false "" "" 0, Go.Field.mk "PtrBytes" 12 1 Bool.false "" "" 8, Go.Field.mk "Hash" 66 2 Bool.false "" "" 16, Go.Field.mk "TFlag" 119 3 Bool.false "" "" 20, Go.Field.mk "Align_" 5 4 Bool.false "" "" 21, Go.Field.mk "FieldAlign_" 5 5 Bool.false "" "" 22, Go.Field.mk "Kind_" 120 6 Bool.false "" "" 23, Go.Field.mk "Equal" 121 7 Bool.false "" "" 24, Go.Field.mk "GCData" 122 8 Bool.false "" "" 32, Go.Field.mk "Str" 123 9 Bool.false "" "" 40, Go.Field.mk "PtrToThis" 124 10 Bool.false "" "" 44]) w := by kernel_rfl
@[simp] theorem runUnderlying127 (w : World) : Go.Sem.run Tryq.prog (Go.underlying 127) w = Go.Result.ok (Go.TypeDesc.func #[3, 38] #[30] Bool.false) w := by kernel_rfl
@[simp] theorem isAgg0 (w : World) : Go.Sem.run Tryq.prog (Go.isAgg 0) w = Go.Result.ok Bool.false w := by kernel_rfl
@[simp] theorem isAgg1 (w : World) : Go.Sem.run Tryq.prog (Go.isAgg 1) w = Go.Result.ok Bool.false w := by kernel_rfl
@[simp] theorem isAgg2 (w : World) : Go.Sem.run Tryq.prog (Go.isAgg 2) w = Go.Result.ok Bool.false w := by kernel_rfl
@[simp] theorem isAgg3 (w : World) : Go.Sem.run Tryq.prog (Go.isAgg 3) w = Go.Result.ok Bool.false w := by kernel_rfl
@[simp] theorem isAgg4 (w : World) : Go.Sem.run Tryq.prog (Go.isAgg 4) w = Go.Result.ok Bool.false w := by kernel_rfl
@[simp] theorem isAgg5 (w : World) : Go.Sem.run Tryq.prog (Go.isAgg 5) w = Go.Result.ok Bool.false w := by kernel_rfl
@[simp] theorem isAgg6 (w : World) : Go.Sem.run Tryq.prog (Go.isAgg 6) w = Go.Result.ok Bool.false w := by kernel_rfl
@[simp] theorem isAgg7 (w : World) : Go.Sem.run Tryq.prog (Go.isAgg 7) w = Go.Result.ok Bool.true w := by kernel_rfl
@[simp] theorem isAgg8 (w : World) : Go.Sem.run Tryq.prog (Go.isAgg 8) w = Go.Result.ok Bool.true w := by kernel_rfl
@[simp] theorem isAgg9 (w : World) : Go.Sem.run Tryq.prog (Go.isAgg 9) w = Go.Result.ok Bool.false w := by kernel_rfl
@[simp] theorem isAgg10 (w : World) : Go.Sem.run Tryq.prog (Go.isAgg 10) w = Go.Result.ok Bool.false w := by kernel_rfl
@[simp] theorem isAgg11 (w : World) : Go.Sem.run Tryq.prog (Go.isAgg 11) w = Go.Result.ok Bool.false w := by kernel_rfl
@[simp] theorem isAgg12 (w : World) : Go.Sem.run Tryq.prog (Go.isAgg 12) w = Go.Result.ok Bool.false w := by kernel_rfl
@[simp] theorem isAgg13 (w : World) : Go.Sem.run Tryq.prog (Go.isAgg 13) w = Go.Result.ok Bool.true w := by kernel_rfl
@[simp] theorem isAgg14 (w : World) : Go.Sem.run Tryq.prog (Go.isAgg 14) w = Go.Result.ok Bool.true w := by kernel_rfl
@[simp] theorem isAgg15 (w : World) : Go.Sem.run Tryq.prog (Go.isAgg 15) w = Go.Result.ok Bool.false w := by kernel_rfl
@[simp] theorem isAgg16 (w : World) : Go.Sem.run Tryq.prog (Go.isAgg 16) w = Go.Result.ok Bool.false w := by kernel_rfl
@[simp] theorem isAgg17 (w : World) : Go.Sem.run Tryq.prog (Go.isAgg 17) w = Go.Result.ok Bool.false w := by kernel_rfl
@[simp] theorem isAgg18 (w : World) : Go.Sem.run Tryq.prog (Go.isAgg 18) w = Go.Result.ok Bool.true w := by kernel_rfl
@[simp] theorem isAgg19 (w : World) : Go.Sem.run Tryq.prog (Go.isAgg 19) w = Go.Result.ok Bool.true w := by kernel_rfl
@[simp] theorem isAgg20 (w : World) : Go.Sem.run Tryq.prog (Go.isAgg 20) w = Go.Result.ok Bool.false w := by kernel_rfl
@[simp] theorem isAgg21 (w : World) : Go.Sem.run Tryq.prog (Go.isAgg 21) w = Go.Result.ok Bool.false w := by kernel_rfl
@[simp] theorem isAgg22 (w : World) : Go.Sem.run Tryq.prog (Go.isAgg 22) w = Go.Result.ok Bool.false w := by kernel_rfl
@[simp] theorem isAgg23 (w : World) : Go.Sem.run Tryq.prog (Go.isAgg 23) w = Go.Result.ok Bool.false w := by kernel_rfl
@[simp] theorem isAgg24 (w : World) : Go.Sem.run Tryq.prog (Go.isAgg 24) w = Go.Result.ok Bool.false w := by kernel_rfl
@[simp] theorem isAgg25 (w : World) : Go.Sem.run Tryq.prog (Go.isAgg 25) w = Go.Result.ok Bool.false w := by kernel_rfl
@[simp] theorem isAgg26 (w : World) : Go.Sem.run Tryq.prog (Go.isAgg 26) w = Go.Result.ok Bool.false w := by kernel_rfl
@[simp] theorem isAgg27 (w : World) : Go.Sem.run Tryq.prog (Go.isAgg 27) w = Go.Result.ok Bool.false w := by kernel_rfl
@[simp] theorem isAgg28 (w : World) : Go.Sem.run Tryq.prog (Go.isAgg 28) w = Go.Result.ok Bool.false w := by kernel_rfl
@[simp] theorem isAgg29 (w : World) : Go.Sem.run Tryq.prog (Go.isAgg 29) w = Go.Result.ok Bool.false w := by kernel_rfl
@[simp] theorem isAgg30 (w : World) : Go.Sem.run Tryq.prog (Go.isAgg 30) w = Go.Result.ok Bool.false w := by kernel_rfl
@[simp] theorem isAgg31 (w : World) : Go.Sem.run Tryq.prog (Go.isAgg 31) w = Go.Result.ok Bool.false w := by kernel_rfl
@[simp] theorem isAgg32 (w : World) : Go.Sem.run Tryq.prog (Go.isAgg 32) w = Go.Result.ok Bool.false w := by kernel_rfl
@[simp] theorem isAgg33 (w : World) : Go.Sem.run Tryq.prog (Go.isAgg 33) w = Go.Result.ok Bool.false w := by kernel_rfl
@[simp] theorem isAgg34 (w : World) : Go.Sem.run Tryq.prog (Go.isAgg 34) w = Go.Result.ok Bool.false w := by kernel_rfl
@[simp] theorem isAgg35 (w : World) : Go.Sem.run Tryq.prog (Go.isAgg 35) w = Go.Result.ok Bool.false w := by kernel_rfl
@[simp] theorem isAgg36 (w : World) : Go.Sem.run Tryq.prog (Go.isAgg 36) w = Go.Result.ok Bool.false w := by kernel_rfl
@[simp] theorem isAgg37 (w : World) : Go.Sem.run Tryq.prog (Go.isAgg 37) w = Go.Result.ok Bool.true w := by kernel_rfl
@[simp] theorem isAgg38 (w : World) : Go.Sem.run Tryq.prog (Go.isAgg 38) w = Go.Result.ok Bool.true w := by kernel_rfl
@[simp] theorem isAgg39 (w : World) : Go.Sem.run Tryq.prog (Go.isAgg 39) w = Go.Result.ok Bool.false w := by kernel_rfl
@[simp] theorem isAgg40 (w : World) : Go.Sem.run Tryq.prog (Go.isAgg 40) w = Go.Result.ok Bool.false w := by kernel_rfl
@[simp] theorem isAgg41 (w : World) : Go.Sem.run Tryq.prog (Go.isAgg 41) w = Go.Result.ok Bool.false w := by kernel_rfl
@[simp] theorem isAgg42 (w : World) : Go.Sem.run Tryq.prog (Go.isAgg 42) w = Go.Result.ok Bool.true w := by kernel_rfl
@[simp] theorem isAgg43 (w : World) : Go.Sem.run Tryq.prog (Go.isAgg 43) w = Go.Result.ok Bool.true w := by kernel_rfl
@[simp] theorem isAgg44 (w : World) : Go.Sem.run Tryq.prog (Go.isAgg 44) w = Go.Result.ok Bool.false w := by kernel_rfl
@[simp] theorem isAgg45 (w : World) : Go.Sem.run Tryq.prog (Go.isAgg 45) w = Go.Result.ok Bool.false w := by kernel_rfl
@[simp] theorem isAgg46 (w : World) : Go.Sem.run Tryq.prog (Go.isAgg 46) w = Go.Result.ok Bool.false w := by kernel_rfl
@[simp] theorem isAgg47 (w : World) : Go.Sem.run Tryq.prog (Go.isAgg 47) w = Go.Result.ok Bool.false w := by kernel_rfl
@[simp] theorem isAgg48 (w : World) : Go.Sem.run Tryq.prog (Go.isAgg 48) w = Go.Result.ok Bool.false w := by kernel_rfl
@[simp] theorem isAgg49 (w : World) : Go.Sem.run Tryq.prog (Go.isAgg 49) w = Go.Result.ok Bool.false w := by kernel_rfl
@[simp] theorem isAgg50 (w : World) : Go.Sem.run Tryq.prog (Go.isAgg 50) w = Go.Result.ok Bool.false w := by kernel_rfl
@[simp] theorem isAgg51 (w : World) : Go.Sem.run Tryq.prog (Go.isAgg 51) w = Go.Result.ok Bool.false w := by kernel_rfl
@[simp] theorem isAgg52 (w : World) : Go.Sem.run Tryq.prog (Go.isAgg 52) w = Go.Result.ok Bool.false w := by kernel_rfl
@[simp] theorem isAgg53 (w : World) : Go.Sem.run Tryq.prog (Go.isAgg 53) w = Go.Result.ok Bool.false w := by kernel_rfl
@[simp] theorem isAgg54 (w : World) : Go.Sem.run Tryq.prog (Go.isAgg 54) w = Go.Result.ok Bool.false w := by kernel_rfl
@[simp] theorem isAgg55 (w : World) : Go.Sem.run Tryq.prog (Go.isAgg 55) w = Go.Result.ok Bool.false w := by kernel_rfl
@[simp] theorem isAgg56 (w : World) : Go.Sem.run Tryq.prog (Go.isAgg 56) w = Go.Result.ok Bool.false w := by kernel_rfl
@[simp] theorem isAgg57 (w : World) : Go.Sem.run Tryq.prog (Go.isAgg 57) w = Go.Result.ok Bool.false w := by kernel_rfl
@[simp] theorem isAgg58 (w : World) : Go.Sem.run Tryq.prog (Go.isAgg 58) w = Go.Result.ok Bool.false w := by kernel_rfl
@[simp] theorem isAgg59 (w : World) : Go.Sem.run Tryq.prog (Go.isAgg 59) w = Go.Result.ok Bool.true w := by kernel_rfl
@[simp] theorem isAgg60 (w : World) : Go.Sem.run Tryq.prog (Go.isAgg 60) w = Go.Result.ok Bool.true w := by kernel_rfl
@[simp] theorem isAgg61 (w : World) : Go.Sem.run Tryq.prog (Go.isAgg 61) w = Go.Result.ok Bool.true w := by kernel_rfl
@[simp] theorem isAgg62 (w : World) : Go.Sem.run Tryq.prog (Go.isAgg 62) w = Go.Result.ok Bool.true w := by kernel_rfl
@[simp] theorem isAgg63 (w : World) : Go.Sem.run Tryq.prog (Go.isAgg 63) w = Go.Result.ok Bool.false w := by kernel_rfl
@[simp] theorem isAgg64 (w : World) : Go.Sem.run Tryq.prog (Go.isAgg 64) w = Go.Result.ok Bool.true w := by kernel_rfl
@[simp] theorem isAgg65 (w : World) : Go.Sem.run Tryq.prog (Go.isAgg 65) w = Go.Result.ok Bool.true w := by kernel_rfl
@[simp] theorem isAgg66 (w : World) : Go.Sem.run Tryq.prog (Go.isAgg 66) w = Go.Result.ok Bool.false w := by kernel_rfl
@[simp] theorem isAgg67 (w : World) : Go.Sem.run Tryq.prog (Go.isAgg 67) w = Go.Result.ok Bool.true w := by kernel_rfl
@[simp] theorem isAgg68 (w : World) : Go.Sem.run Tryq.prog (Go.isAgg 68) w = Go.Result.ok Bool.true w := by kernel_rfl
@[simp] theorem isAgg69 (w : World) : Go.Sem.run Tryq.prog (Go.isAgg 69) w = Go.Result.ok Bool.false w := by kernel_rfl
@[simp] theorem isAgg70 (w : World) : Go.Sem.run Tryq.prog (Go.isAgg 70) w = Go.Result.ok Bool.true w := by kernel_rfl
@[simp] theorem isAgg71 (w : World) : Go.Sem.run Tryq.prog (Go.isAgg 71) w = Go.Result.ok Bool.true w := by kernel_rfl
@[simp] theorem isAgg72 (w : World) : Go.Sem.run Tryq.prog (Go.isAgg 72) w = Go.Result.ok Bool.true w := by kernel_rfl
@[simp] theorem isAgg73 (w : World) : Go.Sem.run Tryq.prog (Go.isAgg 73) w = Go.Result.ok Bool.true w := by kernel_rfl
@[simp] theorem isAgg74 (w : World) : Go.Sem.run Tryq.prog (Go.isAgg 74) w = Go.Result.ok Bool.false w := by kernel_rfl
@[simp] theorem isAgg75 (w : World) : Go.Sem.run Tryq.prog (Go.isAgg 75) w = Go.Result.ok Bool.false w := by kernel_rfl
@[simp] theorem isAgg76 (w : World) : Go.Sem.run Tryq.prog (Go.isAgg 76) w = Go.Result.ok Bool.false w := by kernel_rfl
@[simp] theorem isAgg77 (w : World) : Go.Sem.run Tryq.prog (Go.isAgg 77) w = Go.Result.ok Bool.false w := by kernel_rfl
@[simp] theorem isAgg78 (w : World) : Go.Sem.run Tryq.prog (Go.isAgg 78) w = Go.Result.ok Bool.false w := by kernel_rfl
@[simp] theorem isAgg79 (w : World) : Go.Sem.run Tryq.prog (Go.isAgg 79) w = Go.Result.ok Bool.false w := by kernel_rfl
@[simp] theorem isAgg80 (w : World) : Go.Sem.run Tryq.prog (Go.isAgg 80) w = Go.Result.ok Bool.false w := by kernel_rfl
@[simp] theorem isAgg81 (w : World) : Go.Sem.run Tryq.prog (Go.isAgg 81) w = Go.Result.ok Bool.false w := by kernel_rfl
@[simp] theorem isAgg82 (w : World) : Go.Sem.run Tryq.prog (Go.isAgg 82) w = Go.Result.ok Bool.false w := by kernel_rfl
@[simp] theorem isAgg83 (w : World) : Go.Sem.run Tryq.prog (Go.isAgg 83) w = Go.Result.ok Bool.false w := by kernel_rfl
@[simp] theorem isAgg84 (w : World) : Go.Sem.run Tryq.prog (Go.isAgg 84) w = Go.Result.ok Bool.false w := by kernel_rfl
@[simp] theorem isAgg85 (w : World) : Go.Sem.run Tryq.prog (Go.isAgg 85) w = Go.Result.ok Bool.false w := by kernel_rfl
@[simp] theorem isAgg86 (w : World) : Go.Sem.run Tryq.prog (Go.isAgg 86) w = Go.Result.ok Bool.false w := by kernel_rfl
@[simp] theorem isAgg87 (w : World) : Go.Sem.run Tryq.prog (Go.isAgg 87) w = Go.Result.ok Bool.false w := by kernel_rfl
@[simp] theorem isAgg88 (w : World) : Go.Sem.run Tryq.prog (Go.isAgg 88) w = Go.Result.ok Bool.false w := by kernel_rfl
@[simp] theorem isAgg89 (w : World) : Go.Sem.run Tryq.prog (Go.isAgg 89) w = Go.Result.ok Bool.false w := by kernel_rfl
@[simp] theorem isAgg90 (w : World) : Go.Sem.run Tryq.prog (Go.isAgg 90) w = Go.Result.ok Bool.false w := by kernel_rfl
@[simp] theorem isAgg91 (w : World) : Go.Sem.run Tryq.prog (Go.isAgg 91) w = Go.Result.ok Bool.false w := by kernel_rfl
@[simp] theorem isAgg92 (w : World) : Go.Sem.run Tryq.prog (Go.isAgg 92) w = Go.Result.ok Bool.false w := by kernel_rfl
@[simp] theorem isAgg93 (w : World) : Go.Sem.run Tryq.prog (Go.isAgg 93) w = Go.Result.ok Bool.false w := by kernel_rfl
@[simp] theorem isAgg94 (w : World) : Go.Sem.run Tryq.prog (Go.isAgg 94) w = Go.Result.ok Bool.false w := by kernel_rfl
@[simp] theorem isAgg95 (w : World) : Go.Sem.run Tryq.prog (Go.isAgg 95) w = Go.Result.ok Bool.false w := by kernel_rfl
@[simp] theorem isAgg96 (w : World) : Go.Sem.run Tryq.prog (Go.isAgg 96) w = Go.Result.ok Bool.false w := by kernel_rfl
@[simp] theorem isAgg97 (w : World) : Go.Sem.run Tryq.prog (Go.isAgg 97) w = Go.Result.ok Bool.false w := by kernel_rfl
@[simp] theorem isAgg98 (w : World) : Go.Sem.run Tryq.prog (Go.isAgg 98) w = Go.Result.ok Bool.false w := by kernel_rfl
@[simp] theorem isAgg99 (w : World) : Go.Sem.run Tryq.prog (Go.isAgg 99) w = Go.Result.ok Bool.false w := by kernel_rfl
@[simp] theorem isAgg100 (w : World) : Go.Sem.run Tryq.prog (Go.isAgg 100) w = Go.Result.ok Bool.false w := by kernel_rfl
@[simp] theorem isAgg101 (w : World) : Go.Sem.run Tryq.prog (Go.isAgg 101) w = Go.Result.ok Bool.false w := by kernel_rfl
@[simp] theorem isAgg102 (w : World) : Go.Sem.run Tryq.prog (Go.isAgg 102) w = Go.Result.ok Bool.false w := by kernel_rfl
@[simp] theorem isAgg103 (w : World) : Go.Sem.run Tryq.prog (Go.isAgg 103) w = Go.Result.ok Bool.false w := by kernel_rfl
@[simp] theorem isAgg104 (w : World) : Go.Sem.run Tryq.prog (Go.isAgg 104) w = Go.Result.ok Bool.false w := by kernel_rfl
@[simp] theorem isAgg105 (w : World) : Go.Sem.run Tryq.prog (Go.isAgg 105) w = Go.Result.ok Bool.false w := by kernel_rfl
@[simp] theorem isAgg106 (w : World) : Go.Sem.run Tryq.prog (Go.isAgg 106) w = Go.Result.ok Bool.false w := by kernel_rfl
@[simp] theorem isAgg107 (w : World) : Go.Sem.run Tryq.prog (Go.isAgg 107) w = Go.Result.ok Bool.false w := by kernel_rfl
@[simp] theorem isAgg108 (w : World) : Go.Sem.run Tryq.prog (Go.isAgg 108) w = Go.Result.ok Bool.false w := by kernel_rfl
@[simp] theorem isAgg109 (w : World) : Go.Sem.run Tryq.prog (Go.isAgg 109) w = Go.Result.ok Bool.false w := by kernel_rfl
@[simp] theorem isAgg110 (w : World) : Go.Sem.run Tryq.prog (Go.isAgg 110) w = Go.Result.ok Bool.false w := by kernel_rfl
@[simp] theorem isAgg111 (w : World) : Go.Sem.run Tryq.prog (Go.isAgg 111) w = Go.Result.ok Bool.false w := by kernel_rfl
@[simp] theorem isAgg112 (w : World) : Go.Sem.run Tryq.prog (Go.isAgg 112) w = Go.Result.ok Bool.false w := by kernel_rfl
@[simp] theorem isAgg113 (w : World) : Go.Sem.run Tryq.prog (Go.isAgg 113) w = Go.Result.ok Bool.false w := by kernel_rfl
@[simp] theorem isAgg114 (w : World) : Go.Sem.run Tryq.prog (Go.isAgg 114) w = Go.Result.ok Bool.true w := by kernel_rfl
@[simp] theorem isAgg115 (w : World) : Go.Sem.run Tryq.prog (Go.isAgg 115) w = Go.Result.ok Bool.true w := by kernel_rfl
@[simp] theorem isAgg116 (w : World) : Go.Sem.run Tryq.prog (Go.isAgg 116) w = Go.Result.ok Bool.true w := by kernel_rfl
@[simp] theorem isAgg117 (w : World) : Go.Sem.run Tryq.prog (Go.isAgg 117) w = Go.Result.ok Bool.true w := by kernel_rfl
@[simp] theorem isAgg118 (w : World) : Go.Sem.run Tryq.prog (Go.isAgg 118) w = Go.Result.ok Bool.true w := by kernel_rfl
@[simp] theorem isAgg119 (w : World) : Go.Sem.run Tryq.prog (Go.isAgg 119) w = Go.Result.ok Bool.false w := by kernel_rfl
@[simp] theorem isAgg120 (w : World) : Go.Sem.run Tryq.prog (Go.isAgg 120) w = Go.Result.ok Bool.false w := by kernel_rfl
@[simp] theorem isAgg121 (w : World) : Go.Sem.run Tryq.prog (Go.isAgg 121) w = Go.Result.ok Bool.false w := by kernel_rfl
@[simp] theorem isAgg122 (w : World) : Go.Sem.run Tryq.prog (Go.isAgg 122) w = Go.Result.ok Bool.false w := by kernel_rfl
@[simp] theorem isAgg123 (w : World) : Go.Sem.run Tryq.prog (Go.isAgg 123) w = Go.Result.ok Bool.false w := by kernel_rfl
@[simp] theorem isAgg124 (w : World) : Go.Sem.run Tryq.prog (Go.isAgg 124) w = Go.Result.ok Bool.false w := by kernel_rfl
@[simp] theorem isAgg125 (w : World) : Go.Sem.run Tryq.prog (Go.isAgg 125) w = Go.Result.ok Bool.true w := by kernel_rfl
@[simp] theorem isAgg126 (w : World) : Go.Sem.run Tryq.prog (Go.isAgg 126) w = Go.Result.ok Bool.true w := by kernel_rfl
@[simp] theorem isAgg127 (w : World) : Go.Sem.run Tryq.prog (Go.isAgg 127) w = Go.Result.ok Bool.false w := by kernel_rfl
@[simp] theorem zeroValue0 (w : World) : Go.Sem.run Tryq.prog (Go.zeroValue 0) w = Go.Result.ok (Go.Value.tuple #[]) w := by kernel_rfl
@[simp] theorem zeroValue1 (w : World) : Go.Sem.run Tryq.prog (Go.zeroValue 1) w = Go.Result.ok Go.Value.nilFunc w := by kernel_rfl
@[simp] theorem zeroValue2 (w : World) : Go.Sem.run Tryq.prog (Go.zeroValue 2) w = Go.Result.ok (Go.Value.int Go.IntKind.i64 0) w := by kernel_rfl
@[simp] theorem zeroValue3 (w : World) : Go.Sem.run Tryq.prog (Go.zeroValue 3) w = Go.Result.ok (Go.Value.int Go.IntKind.i64 0) w := by kernel_rfl
@[simp] theorem zeroValue4 (w : World) : Go.Sem.run Tryq.prog (Go.zeroValue 4) w = Go.Result.ok (Go.Value.bool Bool.false) w := by kernel_rfl
@[simp] theorem zeroValue5 (w : World) : Go.Sem.run Tryq.prog (Go.zeroValue 5) w = Go.Result.ok (Go.Value.int Go.IntKind.u8 0) w := by kernel_rfl
@[simp] theorem zeroValue6 (w : World) : Go.Sem.run Tryq.prog (Go.zeroValue 6) w = Go.Result.ok (Go.Value.int Go.IntKind.u8 0) w := by kernel_rfl
@[simp] theorem zeroValue7 (w : World) : Go.Sem.run Tryq.prog (Go.zeroValue 7) w = Go.Result.ok (Go.Value.agg #[Go.Value.int Go.IntKind.i64 0, Go.Value.int Go.IntKind.i64 0, Go.Value.bool Bool.false, Go.Value.int Go.IntKind.u8 0]) w := by kernel_rfl
@[simp] theorem zeroValue8 (w : World) : Go.Sem.run Tryq.prog (Go.zeroValue 8) w = Go.Result.ok (Go.Value.agg #[Go.Value.int Go.IntKind.i64 0, Go.Value.int Go.IntKind.i64 0, Go.Value.bool Bool.false, Go.Value.int Go.IntKind.u8 0]) w := by kernel_rfl
@[simp] theorem zeroValue9 (w : World) : Go.Sem.run Tryq.prog (Go.zeroValue 9) w = Go.Result.ok (Go.Value.string (ByteArray.mk #[])) w := by kernel_rfl
@[simp] theorem zeroValue10 (w : World) : Go.Sem.run Tryq.prog (Go.zeroValue 10) w = Go.Result.ok (Go.Value.string (ByteArray.mk #[])) w := by kernel_rfl
@[simp] theorem zeroValue11 (w : World) : Go.Sem.run Tryq.prog (Go.zeroValue 11) w = Go.Result.ok (Go.Value.string (ByteArray.mk #[])) w := by kernel_rfl
@[simp] theorem zeroValue12 (w : World) : Go.Sem.run Tryq.prog (Go.zeroValue 12) w = Go.Result.ok (Go.Value.int Go.IntKind.u64 0) w := by kernel_rfl
@[simp] theorem zeroValue13 (w : World) : Go.Sem.run Tryq.prog (Go.zeroValue 13) w = Go.Result.ok (Go.Value.agg #[Go.Value.string (ByteArray.mk #[]), Go.Value.int Go.IntKind.u64 0]) w := by kernel_rfl
@[simp] theorem zeroValue14 (w : World) : Go.Sem.run Tryq.prog (Go.zeroValue 14) w = Go.Result.ok (Go.Value.agg #[Go.Value.string (ByteArray.mk #[]), Go.Value.int Go.IntKind.u64 0]) w := by kernel_rfl
@[simp] theorem zeroValue15 (w : World) : Go.Sem.run Tryq.prog (Go.zeroValue 15) w = Go.Result.ok (Go.Value.pointer Option.none) w := by kernel_rfl
@[simp] theorem zeroValue16 (w : World) : Go.Sem.run Tryq.prog (Go.zeroValue 16) w = Go.Result.ok (Go.Value.pointer Option.none) w := by kernel_rfl
@[simp] theorem zeroValue17 (w : World) : Go.Sem.run Tryq.prog (Go.zeroValue 17) w = Go.Result.ok (Go.Value.pointer Option.none) w := by kernel_rfl
@[simp] theorem zeroValue18 (w : World) : Go.Sem.run Tryq.prog (Go.zeroValue 18) w = Go.Result.ok (Go.Value.agg #[Go.Value.pointer Option.none]) w := by kernel_rfl
@[simp] theorem zeroValue19 (w : World) : Go.Sem.run Tryq.prog (Go.zeroValue 19) w = Go.Result.ok (Go.Value.agg #[Go.Value.pointer Option.none]) w := by kernel_rfl
@[simp] theorem zeroValue20 (w : World) : Go.Sem.run Tryq.prog (Go.zeroValue 20) w = Go.Result.ok Go.Value.nilIface w := by kernel_rfl
@[simp] theorem zeroValue21 (w : World) : Go.Sem.run Tryq.prog (Go.zeroValue 21) w = Go.Result.ok (Go.Value.int Go.IntKind.i32 0) w := by kernel_rfl
@[simp] theorem zeroValue22 (w : World) : Go.Sem.run Tryq.prog (Go.zeroValue 22) w = Go.Result.ok (Go.Value.slice Option.none 0 0) w := by kernel_rfl
@[simp] theorem zeroValue23 (w : World) : Go.Sem.run Tryq.prog (Go.zeroValue 23) w = Go.Result.ok Go.Value.nilFunc w := by kernel_rfl
@[simp] theorem zeroValue24 (w : World) : Go.Sem.run Tryq.prog (Go.zeroValue 24) w = Go.Result.ok (Go.Value.tuple #[Go.Value.int Go.IntKind.i64 0, Go.Value.bool Bool.false]) w := by kernel_rfl
@[simp] theorem zeroValue25 (w : World) : Go.Sem.run Tryq.prog (Go.zeroValue 25) w = Go.Result.ok Go.Value.nilFunc w := by kernel_rfl
@[simp] theorem zeroValue26 (w : World) : Go.Sem.run Tryq.prog (Go.zeroValue 26) w = Go.Result.ok Go.Value.nilFunc w := by kernel_rfl
@[simp] theorem zeroValue27 (w : World) : Go.Sem.run Tryq.prog (Go.zeroValue 27) w = Go.Result.ok Go.Value.nilFunc w := by kernel_rfl
@[simp] theorem zeroValue28 (w : World) : Go.Sem.run Tryq.prog (Go.zeroValue 28) w = Go.Result.ok (Go.Value.tuple #[Go.Value.int Go.IntKind.i64 0, Go.Value.int Go.IntKind.i64 0]) w := by kernel_rfl
@[simp] theorem zeroValue29 (w : World) : Go.Sem.run Tryq.prog (Go.zeroValue 29) w = Go.Result.ok Go.Value.nilFunc w := by kernel_rfl
@[simp] theorem zeroValue30 (w : World) : Go.Sem.run Tryq.prog (Go.zeroValue 30) w = Go.Result.ok (Go.Value.slice Option.none 0 0) w := by kernel_rfl
@[simp] theorem zeroValue31 (w : World) : Go.Sem.run Tryq.prog (Go.zeroValue 31) w = Go.Result.ok (Go.Value.tuple #[Go.Value.slice Option.none 0 0, Go.Value.bool Bool.false]) w := by kernel_rfl
@[simp] theorem zeroValue32 (w : World) : Go.Sem.run Tryq.prog (Go.zeroValue 32) w = Go.Result.ok Go.Value.nilFunc w := by kernel_rfl
@[simp] theorem zeroValue33 (w : World) : Go.Sem.run Tryq.prog (Go.zeroValue 33) w = Go.Result.ok Go.Value.nilFunc w := by kernel_rfl
@[simp] theorem zeroValue34 (w : World) : Go.Sem.run Tryq.prog (Go.zeroValue 34) w = Go.Result.ok (Go.Value.tuple #[Go.Value.int Go.IntKind.i64 0, Go.Value.int Go.IntKind.i64 0, Go.Value.bool Bool.false]) w := by kernel_rfl
@[simp] theorem zeroValue35 (w : World) : Go.Sem.run Tryq.prog (Go.zeroValue 35) w = Go.Result.ok Go.Value.nilFunc w := by kernel_rfl
@[simp] theorem zeroValue36 (w : World) : Go.Sem.run Tryq.prog (Go.zeroValue 36) w = Go.Result.ok Go.Value.nilFunc w := by kernel_rfl
@[simp] theorem zeroValue37 (w : World) : Go.Sem.run Tryq.prog (Go.zeroValue 37) w = Go.Result.ok (Go.Value.agg #[Go.Value.int Go.IntKind.i64 0, Go.Value.int Go.IntKind.i64 0]) w := by kernel_rfl
@[simp] theorem zeroValue38 (w : World) : Go.Sem.run Tryq.prog (Go.zeroValue 38) w = Go.Result.ok (Go.Value.agg #[Go.Value.int Go.IntKind.i64 0, Go.Value.int Go.IntKind.i64 0]) w := by kernel_rfl
@[simp] theorem zeroValue39 (w : World) : Go.Sem.run Tryq.prog (Go.zeroValue 39) w = Go.Result.ok Go.Value.nilFunc w := by kernel_rfl
@[simp] theorem zeroValue40 (w : World) : Go.Sem.run Tryq.prog (Go.zeroValue 40) w = Go.Result.ok (Go.Value.slice Option.none 0 0) w := by kernel_rfl
@[simp] theorem zeroValue41 (w : World) : Go.Sem.run Tryq.prog (Go.zeroValue 41) w = Go.Result.ok Go.Value.nilFunc w := by kernel_rfl
@[simp] theorem zeroValue42 (w : World) : Go.Sem.run Tryq.prog (Go.zeroValue 42) w = Go.Result.ok (Go.Value.agg #[Go.Value.int Go.IntKind.i64 0, Go.Value.int Go.IntKind.i64 0]) w := by kernel_rfl
@[simp] theorem zeroValue43 (w : World) : Go.Sem.run Tryq.prog (Go.zeroValue 43) w = Go.Result.ok (Go.Value.agg #[Go.Value.int Go.IntKind.i64 0, Go.Value.int Go.IntKind.i64 0]) w := by kernel_rfl
@[simp] theorem zeroValue44 (w : World) : Go.Sem.run Tryq.prog (Go.zeroValue 44) w = Go.Result.ok Go.Value.nilFunc w := by kernel_rfl
@[simp] theorem zeroValue45 (w : World) : Go.Sem.run Tryq.prog (Go.zeroValue 45) w = Go.Result.ok Go.Value.nilFunc w := by kernel_rfl
@[simp] theorem zeroValue46 (w : World) : Go.Sem.run Tryq.prog (Go.zeroValue 46) w = Go.Result.ok Go.Value.nilFunc w := by kernel_rfl
@[simp] theorem zeroValue47 (w : World) : Go.Sem.run Tryq.prog (Go.zeroValue 47) w = Go.Result.ok (Go.Value.pointer Option.none) w := by kernel_rfl
@[simp] theorem zeroValue48 (w : World) : Go.Sem.run Tryq.prog (Go.zeroValue 48) w = Go.Result.ok Go.Value.nilFunc w := by kernel_rfl
@[simp] theorem zeroValue49 (w : World) : Go.Sem.run Tryq.prog (Go.zeroValue 49) w = Go.Result.ok Go.Value.nilFunc w := by kernel_rfl
@[simp] theorem zeroValue50 (w : World) : Go.Sem.run Tryq.prog (Go.zeroValue 50) w = Go.Result.ok Go.Value.nilFunc w := by kernel_rfl
@[simp] theorem zeroValue51 (w : World) : Go.Sem.run Tryq.prog (Go.zeroValue 51) w = Go.Result.ok Go.Value.nilFunc w := by kernel_rfl
@[simp] theorem zeroValue52 (w : World) : Go.Sem.run Tryq.prog (Go.zeroValue 52) w = Go.Result.ok (Go.Value.slice Option.none 0 0) w := by kernel_rfl
@[simp] theorem zeroValue53 (w : World) : Go.Sem.run Tryq.prog (Go.zeroValue 53) w = Go.Result.ok Go.Value.nilFunc w := by kernel_rfl
@[simp] theorem zeroValue54 (w : World) : Go.Sem.run Tryq.prog (Go.zeroValue 54) w = Go.Result.ok Go.Value.nilFunc w := by kernel_rfl
@[simp] theorem zeroValue55 (w : World) : Go.Sem.run Tryq.prog (Go.zeroValue 55) w = Go.Result.ok Go.Value.nilFunc w := by kernel_rfl
@[simp] theorem zeroValue56 (w : World) : Go.Sem.run Tryq.prog (Go.zeroValue 56) w = Go.Result.ok Go.Value.nilFunc w := by kernel_rfl
@[simp] theorem zeroValue57 (w : World) : Go.Sem.run Tryq.prog (Go.zeroValue 57) w = Go.Result.ok Go.Value.nilFunc w := by kernel_rfl
@[simp] theorem zeroValue58 (w : World) : Go.Sem.run Tryq.prog (Go.zeroValue 58) w = Go.Result.ok (Go.Value.chan Option.none) w := by kernel_rfl
@[simp] theorem zeroValue59 (w : World) : Go.Sem.run Tryq.prog (Go.zeroValue 59) w = Go.Result.ok (Go.Value.agg #[]) w := by kernel_rfl
@[simp] theorem zeroValue60 (w : World) : Go.Sem.run Tryq.prog (Go.zeroValue 60) w = Go.Result.ok (Go.Value.agg #[]) w := by kernel_rfl
@[simp] theorem zeroValue61 (w : World) : Go.Sem.run Tryq.prog (Go.zeroValue 61) w = Go.Result.ok (Go.Value.agg #[]) w := by kernel_rfl
@[simp] theorem zeroValue62 (w : World) : Go.Sem.run Tryq.prog (Go.zeroValue 62) w = Go.Result.ok (Go.Value.agg #[]) w := by kernel_rfl
@[simp] theorem zeroValue63 (w : World) : Go.Sem.run Tryq.prog (Go.zeroValue 63) w = Go.Result.ok (Go.Value.int Go.IntKind.u64 0) w := by kernel_rfl
@[simp] theorem zeroValue64 (w : World) : Go.Sem.run Tryq.prog (Go.zeroValue 64) w = Go.Result.ok (Go.Value.agg #[Go.Value.int Go.IntKind.u64 0]) w := by kernel_rfl
@[simp] theorem zeroValue65 (w : World) : Go.Sem.run Tryq.prog (Go.zeroValue 65) w = Go.Result.ok (Go.Value.agg #[Go.Value.int Go.IntKind.u64 0]) w := by kernel_rfl
@[simp] theorem zeroValue66 (w : World) : Go.Sem.run Tryq.prog (Go.zeroValue 66) w = Go.Result.ok (Go.Value.int Go.IntKind.u32 0) w := by kernel_rfl
@[simp] theorem zeroValue67 (w : World) : Go.Sem.run Tryq.prog (Go.zeroValue 67) w = Go.Result.ok (Go.Value.agg #[Go.Value.int Go.IntKind.u64 0, Go.Value.int Go.IntKind.u32 0]) w := by kernel_rfl
@[simp] theorem zeroValue68 (w : World) : Go.Sem.run Tryq.prog (Go.zeroValue 68) w = Go.Result.ok (Go.Value.agg #[Go.Value.int Go.IntKind.u64 0, Go.Value.int Go.IntKind.u32 0]) w := by kernel_rfl
@[simp] theorem zeroValue69 (w : World) : Go.Sem.run Tryq.prog (Go.zeroValue 69) w = Go.Result.ok Go.Value.nilFunc w := by kernel_rfl
@[simp] theorem zeroValue70 (w : World) : Go.Sem.run Tryq.prog (Go.zeroValue 70) w = Go.Result.ok (Go.Value.agg #[Go.Value.int Go.IntKind.i64 0, Go.Value.int Go.IntKind.i64 0]) w := by kernel_rfl
@[simp] theorem zeroValue71 (w : World) : Go.Sem.run Tryq.prog (Go.zeroValue 71) w = Go.Result.ok (Go.Value.agg #[Go.Value.int Go.IntKind.i64 0, Go.Value.int Go.IntKind.i64 0]) w := by kernel_rfl
@[simp] theorem zeroValue72 (w : World) : Go.Sem.run Tryq.prog (Go.zeroValue 72) w = Go.Result.ok (Go.Value.agg #[Go.Value.slice Option.none 0 0, Go.Value.int Go.IntKind.i64 0]) w := by kernel_rfl
@[simp] theorem zeroValue73 (w : World) : Go.Sem.run Tryq.prog (Go.zeroValue 73) w = Go.Result.ok (Go.Value.agg #[Go.Value.slice Option.none 0 0, Go.Value.int Go.IntKind.i64 0]) w := by kernel_rfl
@[simp] theorem zeroValue74 (w : World) : Go.Sem.run Tryq.prog (Go.zeroValue 74) w = Go.Result.ok (Go.Value.map Option.none) w := by kernel_rfl
@[simp] theorem zeroValue75 (w : World) : Go.Sem.run Tryq.prog (Go.zeroValue 75) w = Go.Result.ok (Go.Value.map Option.none) w := by kernel_rfl
@[simp] theorem zeroValue76 (w : World) : Go.Sem.run Tryq.prog (Go.zeroValue 76) w = Go.Result.ok (Go.Value.slice Option.none 0 0) w := by kernel_rfl
@[simp] theorem zeroValue77 (w : World) : Go.Sem.run Tryq.prog (Go.zeroValue 77) w = Go.Result.ok Go.Value.nilFunc w := by kernel_rfl
@[simp] theorem zeroValue78 (w : World) : Go.Sem.run Tryq.prog (Go.zeroValue 78) w = Go.Result.ok (Go.Value.tuple #[Go.Value.slice Option.none 0 0, Go.Value.int Go.IntKind.i64 0]) w := by kernel_rfl
@[simp] theorem zeroValue79 (w : World) : Go.Sem.run Tryq.prog (Go.zeroValue 79) w = Go.Result.ok Go.Value.nilFunc w := by kernel_rfl
@[simp] theorem zeroValue80 (w : World) : Go.Sem.run Tryq.prog (Go.zeroValue 80) w = Go.Result.ok Go.Value.nilFunc w := by kernel_rfl
@[simp] theorem zeroValue81 (w : World) : Go.Sem.run Tryq.prog (Go.zeroValue 81) w = Go.Result.ok Go.Value.nilFunc w := by kernel_rfl
@[simp] theorem zeroValue82 (w : World) : Go.Sem.run Tryq.prog (Go.zeroValue 82) w = Go.Result.ok Go.Value.nilFunc w := by kernel_rfl
@[simp] theorem zeroValue83 (w : World) : Go.Sem.run Tryq.prog (Go.zeroValue 83) w = Go.Result.ok Go.Value.nilFunc w := by kernel_rfl
@[simp] theorem zeroValue84 (w : World) : Go.Sem.run Tryq.prog (Go.zeroValue 84) w = Go.Result.ok (Go.Value.pointer Option.none) w := by kernel_rfl
@[simp] theorem zeroValue85 (w : World) : Go.Sem.run Tryq.prog (Go.zeroValue 85) w = Go.Result.ok Go.Value.nilFunc w := by kernel_rfl
@[simp] theorem zeroValue86 (w : World) : Go.Sem.run Tryq.prog (Go.zeroValue 86) w = Go.Result.ok (Go.Value.pointer Option.none) w := by kernel_rfl
@[simp] theorem zeroValue87 (w : World) : Go.Sem.run Tryq.prog (Go.zeroValue 87) w = Go.Result.ok Go.Value.nilFunc w := by kernel_rfl
@[simp] theorem zeroValue88 (w : World) : Go.Sem.run Tryq.prog (Go.zeroValue 88) w = Go.Result.ok (Go.Value.int Go.IntKind.i64 0) w := by kernel_rfl
@[simp] theorem zeroValue89 (w : World) : Go.Sem.run Tryq.prog (Go.zeroValue 89) w = Go.Result.ok Go.Value.nilFunc w := by kernel_rfl
@[simp] theorem zeroValue90 (w : World) : Go.Sem.run Tryq.prog (Go.zeroValue 90) w = Go.Result.ok Go.Value.nilFunc w := by kernel_rfl
@[simp] theorem zeroValue91 (w : World) : Go.Sem.run Tryq.prog (Go.zeroValue 91) w = Go.Result.ok Go.Value.nilFunc w := by kernel_rfl
@[simp] theorem zeroValue92 (w : World) : Go.Sem.run Tryq.prog (Go.zeroValue 92) w = Go.Result.ok (Go.Value.int Go.IntKind.u64 0) w := by kernel_rfl
@[simp] theorem zeroValue93 (w : World) : Go.Sem.run Tryq.prog (Go.zeroValue 93) w = Go.Result.ok (Go.Value.pointer Option.none) w := by kernel_rfl
@[simp] theorem zeroValue94 (w : World) : Go.Sem.run Tryq.prog (Go.zeroValue 94) w = Go.Result.ok Go.Value.nilFunc w := by kernel_rfl
@[simp] theorem zeroValue95 (w : World) : Go.Sem.run Tryq.prog (Go.zeroValue 95) w = Go.Result.ok Go.Value.nilFunc w := by kernel_rfl
@[simp] theorem zeroValue96 (w : World) : Go.Sem.run Tryq.prog (Go.zeroValue 96) w = Go.Result.ok Go.Value.nilFunc w := by kernel_rfl
@[simp] theorem zeroValue97 (w : World) : Go.Sem.run Tryq.prog (Go.zeroValue 97) w = Go.Result.ok Go.Value.nilFunc w := by kernel_rfl
@[simp] theorem zeroValue98 (w : World) : Go.Sem.run Tryq.prog (Go.zeroValue 98) w = Go.Result.ok Go.Value.nilFunc w := by kernel_rfl
@[simp] theorem zeroValue99 (w : World) : Go.Sem.run Tryq.prog (Go.zeroValue 99) w = Go.Result.ok Go.Value.nilFunc w := by kernel_rfl
@[simp] theorem zeroValue100 (w : World) : Go.Sem.run Tryq.prog (Go.zeroValue 100) w = Go.Result.ok Go.Value.nilFunc w := by kernel_rfl
@[simp] theorem zeroValue101 (w : World) : Go.Sem.run Tryq.prog (Go.zeroValue 101) w = Go.Result.ok Go.Value.nilFunc w := by kernel_rfl
@[simp] theorem zeroValue102 (w : World) : Go.Sem.run Tryq.prog (Go.zeroValue 102) w = Go.Result.ok Go.Value.nilFunc w := by kernel_rfl
@[simp] theorem zeroValue103 (w : World) : Go.Sem.run Tryq.prog (Go.zeroValue 103) w = Go.Result.ok Go.Value.nilFunc w := by kernel_rfl
@[simp] theorem zeroValue104 (w : World) : Go.Sem.run Tryq.prog (Go.zeroValue 104) w = Go.Result.ok Go.Value.nilFunc w := by kernel_rfl
@[simp] theorem zeroValue105 (w : World) : Go.Sem.run Tryq.prog (Go.zeroValue 105) w = Go.Result.ok (Go.Value.tuple #[Go.Value.int Go.IntKind.i64 0, Go.Value.agg #[Go.Value.int Go.IntKind.i64 0, Go.Value.int Go.IntKind.i64 0]]) w := by kernel_rfl
@[simp] theorem zeroValue106 (w : World) : Go.Sem.run Tryq.prog (Go.zeroValue 106) w = Go.Result.ok Go.Value.nilFunc w := by kernel_rfl
@[simp] theorem zeroValue107 (w : World) : Go.Sem.run Tryq.prog (Go.zeroValue 107) w = Go.Result.ok (Go.Value.pointer Option.none) w := by kernel_rfl
@[simp] theorem zeroValue108 (w : World) : Go.Sem.run Tryq.prog (Go.zeroValue 108) w = Go.Result.ok Go.Value.nilFunc w := by kernel_rfl
@[simp] theorem zeroValue109 (w : World) : Go.Sem.run Tryq.prog (Go.zeroValue 109) w = Go.Result.ok (Go.Value.pointer Option.none) w := by kernel_rfl
@[simp] theorem zeroValue110 (w : World) : Go.Sem.run Tryq.prog (Go.zeroValue 110) w = Go.Result.ok Go.Value.nilFunc w := by kernel_rfl
@[simp] theorem zeroValue111 (w : World) : Go.Sem.run Tryq.prog (Go.zeroValue 111) w = Go.Result.ok Go.Value.nilFunc w := by kernel_rfl
@[simp] theorem zeroValue112 (w : World) : Go.Sem.run Tryq.prog (Go.zeroValue 112) w = Go.Result.ok Go.Value.nilFunc w := by kernel_rfl
@[simp] theorem zeroValue113 (w : World) : Go.Sem.run Tryq.prog (Go.zeroValue 113) w = Go.Result.ok Go.Value.nilFunc w := by kernel_rfl
@[simp] theorem zeroValue114 (w : World) : Go.Sem.run Tryq.prog (Go.zeroValue 114) w = Go.Result.ok (Go.Value.agg #[Go.Value.pointer Option.none, Go.Value.pointer Option.none, Go.Value.pointer Option.none, Go.Value.string (ByteArray.mk #[])]) w := by kernel_rfl
@[simp] theorem zeroValue115 (w : World) : Go.Sem.run Tryq.prog (Go.zeroValue 115) w = Go.Result.ok (Go.Value.agg #[Go.Value.pointer Option.none, Go.Value.pointer Option.none, Go.Value.pointer Option.none, Go.Value.string (ByteArray.mk #[])]) w := by kernel_rfl
@[simp] theorem zeroValue116 (w : World) : Go.Sem.run Tryq.prog (Go.zeroValue 116) w = Go.Result.ok (Go.Value.agg #[]) w := by kernel_rfl
@[simp] theorem zeroValue117 (w : World) : Go.Sem.run Tryq.prog (Go.zeroValue 117) w = Go.Result.ok (Go.Value.agg #[]) w := by kernel_rfl
@[simp] theorem zeroValue118 (w : World) : Go.Sem.run Tryq.prog (Go.zeroValue 118) w = Go.Result.ok (Go.Value.agg #[]) w := by kernel_rfl
@[simp] theorem zeroValue119 (w : World) : Go.Sem.run Tryq.prog (Go.zeroValue 119) w = Go.Result.ok (Go.Value.int Go.IntKind.u8 0) w := by kernel_rfl
@[simp] theorem zeroValue120 (w : World) : Go.Sem.run Tryq.prog (Go.zeroValue 120) w = Go.Result.ok (Go.Value.int Go.IntKind.u8 0) w := by kernel_rfl
@[simp] theorem zeroValue121 (w : World) : Go.Sem.run Tryq.prog (Go.zeroValue 121) w = Go.Result.ok Go.Value.nilFunc w := by kernel_rfl
@[simp] theorem zeroValue122 (w : World) : Go.Sem.run Tryq.prog (Go.zeroValue 122) w = Go.Result.ok (Go.Value.pointer Option.none) w := by kernel_rfl
@[simp] theorem zeroValue123 (w : World) : Go.Sem.run Tryq.prog (Go.zeroValue 123) w = Go.Result.ok (Go.Value.int Go.IntKind.i32 0) w := by kernel_rfl
@[simp] theorem zeroValue124 (w : World) : Go.Sem.run Tryq.prog (Go.zeroValue 124) w = Go.Result.ok (Go.Value.int Go.IntKind.i32 0) w := by kernel_rfl
@[simp] theorem zeroValue125 (w : World) : Go.Sem.run Tryq.prog (Go.zeroValue 125) w = Go.Result.ok (Go.Value.agg #[Go.Value.int Go.IntKind.u64 0, Go.Value.int Go.IntKind.u64 0, Go.Value.int Go.IntKind.u32 0, Go.Value.int Go.IntKind.u8 0, Go.Value.int Go.IntKind.u8 0, Go.Value.int Go.IntKind.u8 0, Go.Value.int Go.IntKind.u8 0, Go.Value.nilFunc, Go.Value.pointer Option.none, Go.Value.int Go.IntKind.i32 0, Go.Value.int Go.IntKind.i32 0]) w := by kernel_rfl
@[simp] theorem zeroValue126 (w : World) : Go.Sem.run Tryq.prog (Go.zeroValue 126) w = Go.Result.ok (Go.Value.agg #[Go.Value.int Go.IntKind.u64 0, Go.Value.int Go.IntKind.u64 0, Go.Value.int Go.IntKind.u32 0, Go.Value.int Go.IntKind.u8 0, Go.Value.int Go.IntKind.u8 0, Go.Value.int Go.IntKind.u8 0, Go.Value.int Go.IntKind.u8 0, Go.Value.nilFunc, Go.Value.pointer Option.none, Go.Value.int Go.IntKind.i32 0, Go.Value.int Go.IntKind.i32 0]) w := by kernel_rfl
@[simp] theorem zeroValue127 (w : World) : Go.Sem.run Tryq.prog (Go.zeroValue 127) w = Go.Result.ok Go.Value.nilFunc w := by kernel_rfl
@[simp] theorem underlying0 : Go.Program.underlying Tryq.prog 0 = Option.some (Go.TypeDesc.tuple #[]) := by kernel_rfl
@[simp] theorem underlying1 : Go.Program.underlying Tryq.prog 1 = Option.some (Go.TypeDesc.func #[] #[] Bool.false) := by kernel_rfl
@[simp] theorem underlying2 : Go.Program.underlying Tryq.prog 2 = Option.some (Go.TypeDesc.int Go.IntKind.i64) := by kernel_rfl
@[simp] theorem underlying3 : Go.Program.underlying Tryq.prog 3 = Option.some (Go.TypeDesc.int Go.IntKind.i64) := by kernel_rfl
@[simp] theorem underlying4 : Go.Program.underlying Tryq.prog 4 = Option.some Go.TypeDesc.bool := by kernel_rfl
@[simp] theorem underlying5 : Go.Program.underlying Tryq.prog 5 = Option.some (Go.TypeDesc.int Go.IntKind.u8) := by kernel_rfl
@[simp] theorem underlying6 : Go.Program.underlying Tryq.prog 6 = Option.some (Go.TypeDesc.int Go.IntKind.u8) := by kernel_rfl
@[simp] theorem underlying7 : Go.Program.underlying Tryq.prog 7 = Option.some (Go.TypeDesc.struct #[Go.Field.mk "x" 2 0 Bool.false "" "runtime" 0, Go.Field.mk "y" 3 1 Bool.false "" "runtime" 8, Go.Field.mk "signed" 4 2 Bool.false "" "runtime" 16, Go.Field.mk "code" 6 3 Bool.false "" "runtime" 17]) := by kernel_rfl
@[simp] theorem underlying8 : Go.Program.underlying Tryq.prog 8 = Option.some (Go.TypeDesc.struct #[Go.Field.mk "x" 2 0 Bool.false "" "runtime" 0, Go.Field.mk "y" 3 1 Bool.false "" "runtime" 8, Go.Field.mk "signed" 4 2 Bool.false "" "runtime" 16, Go.Field.mk "code" 6 3 Bool.false "" "runtime" 17]) := by kernel_rfl
@[simp] theorem underlying9 : Go.Program.underlying Tryq.prog 9 = Option.some Go.TypeDesc.string := by kernel_rfl
@[simp] theorem underlying10 : Go.Program.underlying Tryq.prog 10 = Option.some Go.TypeDesc.string := by kernel_rfl
@[simp] theorem underlying11 : Go.Program.underlying Tryq.prog 11 = Option.some Go.TypeDesc.string := by kernel_rfl
@[simp] theorem underlying12 : Go.Program.underlying Tryq.prog 12 = Option.some (Go.TypeDesc.int Go.IntKind.u64) := by kernel_rfl
@[simp] theorem underlying13 : Go.Program.underlying Tryq.prog 13 = Option.some (Go.TypeDesc.struct #[Go.Field.mk "msg" 9 0 Bool.false "" "runtime" 0, Go.Field.mk "addr" 12 1 Bool.false "" "runtime" 16]) := by kernel_rfl
@[simp] theorem underlying14 : Go.Program.underlying Tryq.prog 14 = Option.some (Go.TypeDesc.struct #[Go.Field.mk "msg" 9 0 Bool.false "" "runtime" 0, Go.Field.mk "addr" 12 1 Bool.false "" "runtime" 16]) := by kernel_rfl
@[simp] theorem underlying15 : Go.Program.underlying Tryq.prog 15 = Option.some (Go.TypeDesc.pointer 115) := by kernel_rfl
@[simp] theorem underlying16 : Go.Program.underlying Tryq.prog 16 = Option.some (Go.TypeDesc.pointer 118) := by kernel_rfl
@[simp] theorem underlying17 : Go.Program.underlying Tryq.prog 17 = Option.some (Go.TypeDesc.pointer 126) := by kernel_rfl
@[simp] theorem underlying18 : Go.Program.underlying Tryq.prog 18 = Option.some (Go.TypeDesc.struct #[Go.Field.mk "typ" 17 0 Bool.false "" "internal/runtime/maps" 0]) := by kernel_rfl
@[simp] theorem underlying19 : Go.Program.underlying Tryq.prog 19 = Option.some (Go.TypeDesc.struct #[Go.Field.mk "typ" 17 0 Bool.false "" "internal/runtime/maps" 0]) := by kernel_rfl
@[simp] theorem underlying20 : Go.Program.underlying Tryq.prog 20 = Option.some (Go.TypeDesc.interface #[]) := by kernel_rfl
@[simp] theorem underlying21 : Go.Program.underlying Tryq.prog 21 = Option.some (Go.TypeDesc.int Go.IntKind.i32) := by kernel_rfl
@[simp] theorem underlying22 : Go.Program.underlying Tryq.prog 22 = Option.some (Go.TypeDesc.slice 5) := by kernel_rfl
@[simp] theorem underlying23 : Go.Program.underlying Tryq.prog 23 = Option.some (Go.TypeDesc.func #[22] #[3] Bool.false) := by kernel_rfl
@[simp] theorem underlying24 : Go.Program.underlying Tryq.prog 24 = Option.some (Go.TypeDesc.tuple #[3, 4]) := by kernel_rfl
@[simp] theorem underlying25 : Go.Program.underlying Tryq.prog 25 = Option.some (Go.TypeDesc.func #[3] #[3, 4] Bool.false) := by kernel_rfl
@[simp] theorem underlying26 : Go.Program.underlying Tryq.prog 26 = Option.some (Go.TypeDesc.func #[3] #[4] Bool.false) := by kernel_rfl
@[simp] theorem underlying27 : Go.Program.underlying Tryq.prog 27 = Option.some (Go.TypeDesc.func #[22] #[4] Bool.false) := by kernel_rfl
@[simp] theorem underlying28 : Go.Program.underlying Tryq.prog 28 = Option.some (Go.TypeDesc.tuple #[3, 3]) := by kernel_rfl
@[simp] theorem underlying29 : Go.Program.underlying Tryq.prog 29 = Option.some (Go.TypeDesc.func #[22] #[3, 3] Bool.false) := by kernel_rfl
@[simp] theorem underlying30 : Go.Program.underlying Tryq.prog 30 = Option.some (Go.TypeDesc.slice 3) := by kernel_rfl
@[simp] theorem underlying31 : Go.Program.underlying Tryq.prog 31 = Option.some (Go.TypeDesc.tuple #[30, 4]) := by kernel_rfl
@[simp] theorem underlying32 : Go.Program.underlying Tryq.prog 32 = Option.some (Go.TypeDesc.func #[3, 3] #[30, 4] Bool.false) := by kernel_rfl
@[simp] theorem underlying33 : Go.Program.underlying Tryq.prog 33 = Option.some (Go.TypeDesc.func #[30, 30] #[4] Bool.false) := by kernel_rfl
@[simp] theorem underlying34 : Go.Program.underlying Tryq.prog 34 = Option.some (Go.TypeDesc.tuple #[3, 3, 4]) := by kernel_rfl
@[simp] theorem underlying35 : Go.Program.underlying Tryq.prog 35 = Option.some (Go.TypeDesc.func #[3, 3] #[3, 3, 4] Bool.false) := by kernel_rfl
@[simp] theorem underlying36 : Go.Program.underlying Tryq.prog 36 = Option.some (Go.TypeDesc.func #[3, 38] #[3, 3, 4] Bool.false) := by kernel_rfl
@[simp] theorem underlying37 : Go.Program.underlying Tryq.prog 37 = Option.some (Go.TypeDesc.struct #[Go.Field.mk "Top" 3 0 Bool.false "" "" 0, Go.Field.mk "Bottom" 3 1 Bool.false "" "" 8]) := by kernel_rfl
@[simp] theorem underlying38 : Go.Program.underlying Tryq.prog 38 = Option.some (Go.TypeDesc.struct #[Go.Field.mk "Top" 3 0 Bool.false "" "" 0, Go.Field.mk "Bottom" 3 1 Bool.false "" "" 8]) := by kernel_rfl
@[simp] theorem underlying39 : Go.Program.underlying Tryq.prog 39 = Option.some (Go.TypeDesc.func #[3, 3] #[3, 4] Bool.false) := by kernel_rfl
@[simp] theorem underlying40 : Go.Program.underlying Tryq.prog 40 = Option.some (Go.TypeDesc.slice 43) := by kernel_rfl
@[simp] theorem underlying41 : Go.Program.underlying Tryq.prog 41 = Option.some (Go.TypeDesc.func #[3] #[30] Bool.false) := by kernel_rfl
@[simp] theorem underlying42 : Go.Program.underlying Tryq.prog 42 = Option.some (Go.TypeDesc.struct #[Go.Field.mk "number" 3 0 Bool.false "" "loop.example/fractionrounds/impl" 0, Go.Field.mk "n" 3 1 Bool.false "" "loop.example/fractionrounds/impl" 8]) := by kernel_rfl
@[simp] theorem underlying43 : Go.Program.underlying Tryq.prog 43 = Option.some (Go.TypeDesc.struct #[Go.Field.mk "number" 3 0 Bool.false "" "loop.example/fractionrounds/impl" 0, Go.Field.mk "n" 3 1 Bool.false "" "loop.example/fractionrounds/impl" 8]) := by kernel_rfl
@[simp] theorem underlying44 : Go.Program.underlying Tryq.prog 44 = Option.some (Go.TypeDesc.func #[40] #[30] Bool.false) := by kernel_rfl
@[simp] theorem underlying45 : Go.Program.underlying Tryq.prog 45 = Option.some (Go.TypeDesc.func #[3, 3] #[3] Bool.false) := by kernel_rfl
@[simp] theorem underlying46 : Go.Program.underlying Tryq.prog 46 = Option.some (Go.TypeDesc.func #[3, 3, 3] #[4] Bool.false) := by kernel_rfl
@[simp] theorem underlying47 : Go.Program.underlying Tryq.prog 47 = Option.some (Go.TypeDesc.pointer 73) := by kernel_rfl
@[simp] theorem underlying48 : Go.Program.underlying Tryq.prog 48 = Option.some (Go.TypeDesc.func #[22] #[47] Bool.false) := by kernel_rfl
@[simp] theorem underlying49 : Go.Program.underlying Tryq.prog 49 = Option.some (Go.TypeDesc.func #[47] #[3] Bool.false) := by kernel_rfl
@[simp] theorem underlying50 : Go.Program.underlying Tryq.prog 50 = Option.some (Go.TypeDesc.func #[3] #[3] Bool.false) := by kernel_rfl
@[simp] theorem underlying51 : Go.Program.underlying Tryq.prog 51 = Option.some (Go.TypeDesc.func #[3, 3] #[4] Bool.false) := by kernel_rfl
@[simp] theorem underlying52 : Go.Program.underlying Tryq.prog 52 = Option.some (Go.TypeDesc.slice 30) := by kernel_rfl
@[simp] theorem underlying53 : Go.Program.underlying Tryq.prog 53 = Option.some (Go.TypeDesc.func #[3, 3] #[52] Bool.false) := by kernel_rfl
@[simp] theorem underlying54 : Go.Program.underlying Tryq.prog 54 = Option.some (Go.TypeDesc.func #[3, 3] #[3, 3] Bool.false) := by kernel_rfl
@[simp] theorem underlying55 : Go.Program.underlying Tryq.prog 55 = Option.some (Go.TypeDesc.func #[3, 38] #[3, 3] Bool.false) := by kernel_rfl
@[simp] theorem underlying56 : Go.Program.underlying Tryq.prog 56 = Option.some (Go.TypeDesc.func #[3, 38] #[4] Bool.false) := by kernel_rfl
@[simp] theorem underlying57 : Go.Program.underlying Tryq.prog 57 = Option.some (Go.TypeDesc.func #[] #[3] Bool.false) := by kernel_rfl
@[simp] theorem underlying58 : Go.Program.underlying Tryq.prog 58 = Option.some (Go.TypeDesc.chan Go.ChanDir.both 71) := by kernel_rfl
@[simp] theorem underlying59 : Go.Program.underlying Tryq.prog 59 = Option.some (Go.TypeDesc.struct #[]) := by kernel_rfl
@[simp] theorem underlying60 : Go.Program.underlying Tryq.prog 60 = Option.some (Go.TypeDesc.struct #[]) := by kernel_rfl
@[simp] theorem underlying61 : Go.Program.underlying Tryq.prog 61 = Option.some (Go.TypeDesc.struct #[]) := by kernel_rfl
@[simp] theorem underlying62 : Go.Program.underlying Tryq.prog 62 = Option.some (Go.TypeDesc.struct #[]) := by kernel_rfl
@[simp] theorem underlying63 : Go.Program.underlying Tryq.prog 63 = Option.some (Go.TypeDesc.int Go.IntKind.u64) := by kernel_rfl
@[simp] theorem underlying64 : Go.Program.underlying Tryq.prog 64 = Option.some (Go.TypeDesc.struct #[Go.Field.mk "_" 61 0 Bool.false "" "sync/atomic" 0, Go.Field.mk "_" 62 0 Bool.false "" "sync/atomic" 0, Go.Field.mk "v" 63 0 Bool.false "" "sync/atomic" 0]) := by kernel_rfl
@[simp] theorem underlying65 : Go.Program.underlying Tryq.prog 65 = Option.some (Go.TypeDesc.struct #[Go.Field.mk "_" 61 0 Bool.false "" "sync/atomic" 0, Go.Field.mk "_" 62 0 Bool.false "" "sync/atomic" 0, Go.Field.mk "v" 63 0 Bool.false "" "sync/atomic" 0]) := by kernel_rfl
@[simp] theorem underlying66 : Go.Program.underlying Tryq.prog 66 = Option.some (Go.TypeDesc.int Go.IntKind.u32) := by kernel_rfl
@[simp] theorem underlying67 : Go.Program.underlying Tryq.prog 67 = Option.some (Go.TypeDesc.struct #[Go.Field.mk "noCopy" 60 0 Bool.false "" "sync" 0, Go.Field.mk "state" 65 0 Bool.false "" "sync" 0, Go.Field.mk "sema" 66 1 Bool.false "" "sync" 8]) := by kernel_rfl
@[simp] theorem underlying68 : Go.Program.underlying Tryq.prog 68 = Option.some (Go.TypeDesc.struct #[Go.Field.mk "noCopy" 60 0 Bool.false "" "sync" 0, Go.Field.mk "state" 65 0 Bool.false "" "sync" 0, Go.Field.mk "sema" 66 1 Bool.false "" "sync" 8]) := by kernel_rfl
@[simp] theorem underlying69 : Go.Program.underlying Tryq.prog 69 = Option.some (Go.TypeDesc.func #[3] #[] Bool.false) := by kernel_rfl
@[simp] theorem underlying70 : Go.Program.underlying Tryq.prog 70 = Option.some (Go.TypeDesc.struct #[Go.Field.mk "place" 3 0 Bool.false "" "loop.example/fractionrounds/impl" 0, Go.Field.mk "order" 3 1 Bool.false "" "loop.example/fractionrounds/impl" 8]) := by kernel_rfl
@[simp] theorem underlying71 : Go.Program.underlying Tryq.prog 71 = Option.some (Go.TypeDesc.struct #[Go.Field.mk "place" 3 0 Bool.false "" "loop.example/fractionrounds/impl" 0, Go.Field.mk "order" 3 1 Bool.false "" "loop.example/fractionrounds/impl" 8]) := by kernel_rfl
@[simp] theorem underlying72 : Go.Program.underlying Tryq.prog 72 = Option.some (Go.TypeDesc.struct #[Go.Field.mk "b" 22 0 Bool.false "" "loop.example/fractionrounds/spec" 0, Go.Field.mk "p" 3 1 Bool.false "" "loop.example/fractionrounds/spec" 24]) := by kernel_rfl
@[simp] theorem underlying73 : Go.Program.underlying Tryq.prog 73 = Option.some (Go.TypeDesc.struct #[Go.Field.mk "b" 22 0 Bool.false "" "loop.example/fractionrounds/spec" 0, Go.Field.mk "p" 3 1 Bool.false "" "loop.example/fractionrounds/spec" 24]) := by kernel_rfl
@[simp] theorem underlying74 : Go.Program.underlying Tryq.prog 74 = Option.some (Go.TypeDesc.map 3 3) := by kernel_rfl
@[simp] theorem underlying75 : Go.Program.underlying Tryq.prog 75 = Option.some (Go.TypeDesc.map 3 3) := by kernel_rfl
@[simp] theorem underlying76 : Go.Program.underlying Tryq.prog 76 = Option.some (Go.TypeDesc.slice 4) := by kernel_rfl
@[simp] theorem underlying77 : Go.Program.underlying Tryq.prog 77 = Option.some (Go.TypeDesc.func #[38] #[4] Bool.false) := by kernel_rfl
@[simp] theorem underlying78 : Go.Program.underlying Tryq.prog 78 = Option.some (Go.TypeDesc.tuple #[30, 3]) := by kernel_rfl
@[simp] theorem underlying79 : Go.Program.underlying Tryq.prog 79 = Option.some (Go.TypeDesc.func #[3, 38] #[30, 3] Bool.false) := by kernel_rfl
@[simp] theorem underlying80 : Go.Program.underlying Tryq.prog 80 = Option.some (Go.TypeDesc.func #[104] #[] Bool.false) := by kernel_rfl
@[simp] theorem underlying81 : Go.Program.underlying Tryq.prog 81 = Option.some (Go.TypeDesc.func #[104] #[] Bool.false) := by kernel_rfl
@[simp] theorem underlying82 : Go.Program.underlying Tryq.prog 82 = Option.some (Go.TypeDesc.func #[3] #[81] Bool.false) := by kernel_rfl
@[simp] theorem underlying83 : Go.Program.underlying Tryq.prog 83 = Option.some (Go.TypeDesc.func #[3] #[38] Bool.false) := by kernel_rfl
@[simp] theorem underlying84 : Go.Program.underlying Tryq.prog 84 = Option.some (Go.TypeDesc.pointer 68) := by kernel_rfl
@[simp] theorem underlying85 : Go.Program.underlying Tryq.prog 85 = Option.some (Go.TypeDesc.func #[86] #[] Bool.false) := by kernel_rfl
@[simp] theorem underlying86 : Go.Program.underlying Tryq.prog 86 = Option.some Go.TypeDesc.unsafePointer := by kernel_rfl
@[simp] theorem underlying87 : Go.Program.underlying Tryq.prog 87 = Option.some (Go.TypeDesc.func #[] #[4] Bool.false) := by kernel_rfl
@[simp] theorem underlying88 : Go.Program.underlying Tryq.prog 88 = Option.some (Go.TypeDesc.int Go.IntKind.i64) := by kernel_rfl
@[simp] theorem underlying89 : Go.Program.underlying Tryq.prog 89 = Option.some (Go.TypeDesc.func #[84] #[88] Bool.false) := by kernel_rfl
@[simp] theorem underlying90 : Go.Program.underlying Tryq.prog 90 = Option.some (Go.TypeDesc.func #[9] #[] Bool.false) := by kernel_rfl
@[simp] theorem underlying91 : Go.Program.underlying Tryq.prog 91 = Option.some (Go.TypeDesc.func #[63] #[63] Bool.false) := by kernel_rfl
@[simp] theorem underlying92 : Go.Program.underlying Tryq.prog 92 = Option.some (Go.TypeDesc.int Go.IntKind.u64) := by kernel_rfl
@[simp] theorem underlying93 : Go.Program.underlying Tryq.prog 93 = Option.some (Go.TypeDesc.pointer 66) := by kernel_rfl
@[simp] theorem underlying94 : Go.Program.underlying Tryq.prog 94 = Option.some (Go.TypeDesc.func #[] #[63] Bool.false) := by kernel_rfl
@[simp] theorem underlying95 : Go.Program.underlying Tryq.prog 95 = Option.some (Go.TypeDesc.func #[63] #[] Bool.false) := by kernel_rfl
@[simp] theorem underlying96 : Go.Program.underlying Tryq.prog 96 = Option.some (Go.TypeDesc.func #[84] #[] Bool.false) := by kernel_rfl
@[simp] theorem underlying97 : Go.Program.underlying Tryq.prog 97 = Option.some (Go.TypeDesc.func #[93, 4, 3] #[] Bool.false) := by kernel_rfl
@[simp] theorem underlying98 : Go.Program.underlying Tryq.prog 98 = Option.some (Go.TypeDesc.func #[84] #[4] Bool.false) := by kernel_rfl
@[simp] theorem underlying99 : Go.Program.underlying Tryq.prog 99 = Option.some (Go.TypeDesc.func #[63, 63] #[4] Bool.false) := by kernel_rfl
@[simp] theorem underlying100 : Go.Program.underlying Tryq.prog 100 = Option.some (Go.TypeDesc.func #[93, 4] #[] Bool.false) := by kernel_rfl
@[simp] theorem underlying101 : Go.Program.underlying Tryq.prog 101 = Option.some (Go.TypeDesc.func #[26] #[] Bool.false) := by kernel_rfl
@[simp] theorem underlying102 : Go.Program.underlying Tryq.prog 102 = Option.some (Go.TypeDesc.func #[26] #[] Bool.false) := by kernel_rfl
@[simp] theorem underlying103 : Go.Program.underlying Tryq.prog 103 = Option.some (Go.TypeDesc.func #[3] #[102] Bool.false) := by kernel_rfl
@[simp] theorem underlying104 : Go.Program.underlying Tryq.prog 104 = Option.some (Go.TypeDesc.func #[38, 3] #[4] Bool.false) := by kernel_rfl
@[simp] theorem underlying105 : Go.Program.underlying Tryq.prog 105 = Option.some (Go.TypeDesc.tuple #[3, 38]) := by kernel_rfl
@[simp] theorem underlying106 : Go.Program.underlying Tryq.prog 106 = Option.some (Go.TypeDesc.func #[3] #[3, 38] Bool.false) := by kernel_rfl
@[simp] theorem underlying107 : Go.Program.underlying Tryq.prog 107 = Option.some (Go.TypeDesc.pointer 65) := by kernel_rfl
@[simp] theorem underlying108 : Go.Program.underlying Tryq.prog 108 = Option.some (Go.TypeDesc.func #[109, 63] #[63] Bool.false) := by kernel_rfl
@[simp] theorem underlying109 : Go.Program.underlying Tryq.prog 109 = Option.some (Go.TypeDesc.pointer 63) := by kernel_rfl
@[simp] theorem underlying110 : Go.Program.underlying Tryq.prog 110 = Option.some (Go.TypeDesc.func #[109] #[63] Bool.false) := by kernel_rfl
@[simp] theorem underlying111 : Go.Program.underlying Tryq.prog 111 = Option.some (Go.TypeDesc.func #[109, 63] #[] Bool.false) := by kernel_rfl
@[simp] theorem underlying112 : Go.Program.underlying Tryq.prog 112 = Option.some (Go.TypeDesc.func #[109, 63, 63] #[4] Bool.false) := by kernel_rfl
@[simp] theorem underlying113 : Go.Program.underlying Tryq.prog 113 = Option.some (Go.TypeDesc.func #[] #[9] Bool.false) := by kernel_rfl
@[simp] theorem underlying114 : Go.Program.underlying Tryq.prog 114 = Option.some (Go.TypeDesc.struct #[Go.Field.mk "_interface" 17 0 Bool.false "" "runtime" 0, Go.Field.mk "concrete" 17 1 Bool.false "" "runtime" 8, Go.Field.mk "asserted" 17 2 Bool.false "" "runtime" 16, Go.Field.mk "missingMethod" 9 3 Bool.false "" "runtime" 24]) := by kernel_rfl
@[simp] theorem underlying115 : Go.Program.underlying Tryq.prog 115 = Option.some (Go.TypeDesc.struct #[Go.Field.mk "_interface" 17 0 Bool.false "" "runtime" 0, Go.Field.mk "concrete" 17 1 Bool.false "" "runtime" 8, Go.Field.mk "asserted" 17 2 Bool.false "" "runtime" 16, Go.Field.mk "missingMethod" 9 3 Bool.false "" "runtime" 24]) := by kernel_rfl
@[simp] theorem underlying116 : Go.Program.underlying Tryq.prog 116 = Option.some (Go.TypeDesc.array 0 16) := by kernel_rfl
@[simp] theorem underlying117 : Go.Program.underlying Tryq.prog 117 = Option.some (Go.TypeDesc.struct #[Go.Field.mk "_" 116 0 Bool.false "" "runtime" 0]) := by kernel_rfl
@[simp] theorem underlying118 : Go.Program.underlying Tryq.prog 118 = Option.some (Go.TypeDesc.struct #[Go.Field.mk "_" 116 0 Bool.false "" "runtime" 0]) := by kernel_rfl
@[simp] theorem underlying119 : Go.Program.underlying Tryq.prog 119 = Option.some (Go.TypeDesc.int Go.IntKind.u8) := by kernel_rfl
@[simp] theorem underlying120 : Go.Program.underlying Tryq.prog 120 = Option.some (Go.TypeDesc.int Go.IntKind.u8) := by kernel_rfl
@[simp] theorem underlying121 : Go.Program.underlying Tryq.prog 121 = Option.some (Go.TypeDesc.func #[86, 86] #[4] Bool.false) := by kernel_rfl
@[simp] theorem underlying122 : Go.Program.underlying Tryq.prog 122 = Option.some (Go.TypeDesc.pointer 5) := by kernel_rfl
@[simp] theorem underlying123 : Go.Program.underlying Tryq.prog 123 = Option.some (Go.TypeDesc.int Go.IntKind.i32) := by kernel_rfl
@[simp] theorem underlying124 : Go.Program.underlying Tryq.prog 124 = Option.some (Go.TypeDesc.int Go.IntKind.i32) := by kernel_rfl
@[simp] theorem underlying125 : Go.Program.underlying Tryq.prog 125 = Option.some (Go.TypeDesc.struct #[Go.Field.mk "Size_" 12 0 Bool.false "" "" 0, Go.Field.mk "PtrBytes" 12 1 Bool.false "" "" 8, Go.Field.mk "Hash" 66 2 Bool.false "" "" 16, Go.Field.mk "TFlag" 119 3 Bool.false "" "" 20, Go.Field.mk "Align_" 5 4 Bool.false "" "" 21, Go.Field.mk "FieldAlign_" 5 5 Bool.false "" "" 22, Go.Field.mk "Kind_" 120 6 Bool.false "" "" 23, Go.Field.mk "Equal" 121 7 Bool.false "" "" 24, Go.Field.mk "GCData" 122 8 Bool.false "" "" 32, Go.Field.mk "Str" 123 9 Bool.false "" "" 40, Go.Field.mk "PtrToThis" 124 10 Bool.false "" "" 44]) := by kernel_rfl
@[simp] theorem underlying126 : Go.Program.underlying Tryq.prog 126 = Option.some (Go.TypeDesc.struct #[Go.Field.mk "Size_" 12 0 Bool.false "" "" 0, Go.Field.mk "PtrBytes" 12 1 Bool.false "" "" 8, Go.Field.mk "Hash" 66 2 Bool.false "" "" 16, Go.Field.mk "TFlag" 119 3 Bool.false "" "" 20, Go.Field.mk "Align_" 5 4 Bool.false "" "" 21, Go.Field.mk "FieldAlign_" 5 5 Bool.false "" "" 22, Go.Field.mk "Kind_" 120 6 Bool.false "" "" 23, Go.Field.mk "Equal" 121 7 Bool.false "" "" 24, Go.Field.mk "GCData" 122 8 Bool.false "" "" 32, Go.Field.mk "Str" 123 9 Bool.false "" "" 40, Go.Field.mk "PtrToThis" 124 10 Bool.false "" "" 44]) := by kernel_rfl
@[simp] theorem underlying127 : Go.Program.underlying Tryq.prog 127 = Option.some (Go.TypeDesc.func #[3, 38] #[30] Bool.false) := by kernel_rfl
@[simp] theorem eqGuardType7 : Go.Program.eqGuardType Tryq.prog (Go.Program.depth Tryq.prog) 7 = Bool.false := by kernel_rfl
@[simp] theorem eqGuardType8 : Go.Program.eqGuardType Tryq.prog (Go.Program.depth Tryq.prog) 8 = Bool.false := by kernel_rfl
@[simp] theorem eqGuardType13 : Go.Program.eqGuardType Tryq.prog (Go.Program.depth Tryq.prog) 13 = Bool.false := by kernel_rfl
@[simp] theorem eqGuardType14 : Go.Program.eqGuardType Tryq.prog (Go.Program.depth Tryq.prog) 14 = Bool.false := by kernel_rfl
@[simp] theorem eqGuardType18 : Go.Program.eqGuardType Tryq.prog (Go.Program.depth Tryq.prog) 18 = Bool.false := by kernel_rfl
@[simp] theorem eqGuardType19 : Go.Program.eqGuardType Tryq.prog (Go.Program.depth Tryq.prog) 19 = Bool.false := by kernel_rfl
@[simp] theorem eqGuardType37 : Go.Program.eqGuardType Tryq.prog (Go.Program.depth Tryq.prog) 37 = Bool.false := by kernel_rfl
@[simp] theorem eqGuardType38 : Go.Program.eqGuardType Tryq.prog (Go.Program.depth Tryq.prog) 38 = Bool.false := by kernel_rfl
@[simp] theorem eqGuardType42 : Go.Program.eqGuardType Tryq.prog (Go.Program.depth Tryq.prog) 42 = Bool.false := by kernel_rfl
@[simp] theorem eqGuardType43 : Go.Program.eqGuardType Tryq.prog (Go.Program.depth Tryq.prog) 43 = Bool.false := by kernel_rfl
@[simp] theorem eqGuardType59 : Go.Program.eqGuardType Tryq.prog (Go.Program.depth Tryq.prog) 59 = Bool.false := by kernel_rfl
@[simp] theorem eqGuardType60 : Go.Program.eqGuardType Tryq.prog (Go.Program.depth Tryq.prog) 60 = Bool.false := by kernel_rfl
@[simp] theorem eqGuardType61 : Go.Program.eqGuardType Tryq.prog (Go.Program.depth Tryq.prog) 61 = Bool.false := by kernel_rfl
@[simp] theorem eqGuardType62 : Go.Program.eqGuardType Tryq.prog (Go.Program.depth Tryq.prog) 62 = Bool.false := by kernel_rfl
@[simp] theorem eqGuardType64 : Go.Program.eqGuardType Tryq.prog (Go.Program.depth Tryq.prog) 64 = Bool.false := by kernel_rfl
@[simp] theorem eqGuardType65 : Go.Program.eqGuardType Tryq.prog (Go.Program.depth Tryq.prog) 65 = Bool.false := by kernel_rfl
@[simp] theorem eqGuardType67 : Go.Program.eqGuardType Tryq.prog (Go.Program.depth Tryq.prog) 67 = Bool.false := by kernel_rfl
@[simp] theorem eqGuardType68 : Go.Program.eqGuardType Tryq.prog (Go.Program.depth Tryq.prog) 68 = Bool.false := by kernel_rfl
@[simp] theorem eqGuardType70 : Go.Program.eqGuardType Tryq.prog (Go.Program.depth Tryq.prog) 70 = Bool.false := by kernel_rfl
@[simp] theorem eqGuardType71 : Go.Program.eqGuardType Tryq.prog (Go.Program.depth Tryq.prog) 71 = Bool.false := by kernel_rfl
@[simp] theorem eqGuardType72 : Go.Program.eqGuardType Tryq.prog (Go.Program.depth Tryq.prog) 72 = Bool.false := by kernel_rfl
@[simp] theorem eqGuardType73 : Go.Program.eqGuardType Tryq.prog (Go.Program.depth Tryq.prog) 73 = Bool.false := by kernel_rfl
@[simp] theorem eqGuardType114 : Go.Program.eqGuardType Tryq.prog (Go.Program.depth Tryq.prog) 114 = Bool.false := by kernel_rfl
@[simp] theorem eqGuardType115 : Go.Program.eqGuardType Tryq.prog (Go.Program.depth Tryq.prog) 115 = Bool.false := by kernel_rfl
@[simp] theorem eqGuardType116 : Go.Program.eqGuardType Tryq.prog (Go.Program.depth Tryq.prog) 116 = Bool.false := by kernel_rfl
@[simp] theorem eqGuardType117 : Go.Program.eqGuardType Tryq.prog (Go.Program.depth Tryq.prog) 117 = Bool.false := by kernel_rfl
@[simp] theorem eqGuardType118 : Go.Program.eqGuardType Tryq.prog (Go.Program.depth Tryq.prog) 118 = Bool.false := by kernel_rfl
@[simp] theorem eqGuardType125 : Go.Program.eqGuardType Tryq.prog (Go.Program.depth Tryq.prog) 125 = Bool.false := by kernel_rfl
@[simp] theorem eqGuardType126 : Go.Program.eqGuardType Tryq.prog (Go.Program.depth Tryq.prog) 126 = Bool.false := by kernel_rfl
@[simp] theorem stoodInHeld7 : Go.Program.stoodInHeld Tryq.prog 7 = Bool.false := by kernel_rfl
@[simp] theorem stoodInHeld8 : Go.Program.stoodInHeld Tryq.prog 8 = Bool.false := by kernel_rfl
@[simp] theorem stoodInHeld13 : Go.Program.stoodInHeld Tryq.prog 13 = Bool.true := by kernel_rfl
@[simp] theorem stoodInHeld14 : Go.Program.stoodInHeld Tryq.prog 14 = Bool.true := by kernel_rfl
@[simp] theorem stoodInHeld18 : Go.Program.stoodInHeld Tryq.prog 18 = Bool.true := by kernel_rfl
@[simp] theorem stoodInHeld19 : Go.Program.stoodInHeld Tryq.prog 19 = Bool.true := by kernel_rfl
@[simp] theorem stoodInHeld37 : Go.Program.stoodInHeld Tryq.prog 37 = Bool.false := by kernel_rfl
@[simp] theorem stoodInHeld38 : Go.Program.stoodInHeld Tryq.prog 38 = Bool.false := by kernel_rfl
@[simp] theorem stoodInHeld42 : Go.Program.stoodInHeld Tryq.prog 42 = Bool.false := by kernel_rfl
@[simp] theorem stoodInHeld43 : Go.Program.stoodInHeld Tryq.prog 43 = Bool.false := by kernel_rfl
@[simp] theorem stoodInHeld59 : Go.Program.stoodInHeld Tryq.prog 59 = Bool.false := by kernel_rfl
@[simp] theorem stoodInHeld60 : Go.Program.stoodInHeld Tryq.prog 60 = Bool.false := by kernel_rfl
@[simp] theorem stoodInHeld61 : Go.Program.stoodInHeld Tryq.prog 61 = Bool.false := by kernel_rfl
@[simp] theorem stoodInHeld62 : Go.Program.stoodInHeld Tryq.prog 62 = Bool.false := by kernel_rfl
@[simp] theorem stoodInHeld64 : Go.Program.stoodInHeld Tryq.prog 64 = Bool.false := by kernel_rfl
@[simp] theorem stoodInHeld65 : Go.Program.stoodInHeld Tryq.prog 65 = Bool.false := by kernel_rfl
@[simp] theorem stoodInHeld67 : Go.Program.stoodInHeld Tryq.prog 67 = Bool.false := by kernel_rfl
@[simp] theorem stoodInHeld68 : Go.Program.stoodInHeld Tryq.prog 68 = Bool.false := by kernel_rfl
@[simp] theorem stoodInHeld70 : Go.Program.stoodInHeld Tryq.prog 70 = Bool.false := by kernel_rfl
@[simp] theorem stoodInHeld71 : Go.Program.stoodInHeld Tryq.prog 71 = Bool.false := by kernel_rfl
@[simp] theorem stoodInHeld72 : Go.Program.stoodInHeld Tryq.prog 72 = Bool.false := by kernel_rfl
@[simp] theorem stoodInHeld73 : Go.Program.stoodInHeld Tryq.prog 73 = Bool.false := by kernel_rfl
@[simp] theorem stoodInHeld114 : Go.Program.stoodInHeld Tryq.prog 114 = Bool.true := by kernel_rfl
@[simp] theorem stoodInHeld115 : Go.Program.stoodInHeld Tryq.prog 115 = Bool.true := by kernel_rfl
@[simp] theorem stoodInHeld117 : Go.Program.stoodInHeld Tryq.prog 117 = Bool.true := by kernel_rfl
@[simp] theorem stoodInHeld118 : Go.Program.stoodInHeld Tryq.prog 118 = Bool.true := by kernel_rfl
@[simp] theorem stoodInHeld125 : Go.Program.stoodInHeld Tryq.prog 125 = Bool.true := by kernel_rfl
@[simp] theorem stoodInHeld126 : Go.Program.stoodInHeld Tryq.prog 126 = Bool.true := by kernel_rfl
@[simp] theorem rt_eq : Go.Tables.rt (Go.Program.toTables Tryq.prog) = Go.RuntimeTypes.mk 8 10 11 14 15 16 19 9 20 3 4 21 5 := by kernel_rfl
@[simp] theorem main_eq : Go.Tables.main (Go.Program.toTables Tryq.prog) = 0 := by kernel_rfl
@[simp] theorem inits_eq : Go.Tables.inits (Go.Program.toTables Tryq.prog) = #[2] := by kernel_rfl
@[simp] theorem globals_size : Array.size (Go.Tables.globals (Go.Program.toTables Tryq.prog)) = 0 := by kernel_rfl
@[simp] theorem types_size : Array.size (Go.Tables.types (Go.Program.toTables Tryq.prog)) = 128 := by kernel_rfl
@[simp] theorem func0 : (Tryq.prog).funcs[0]? = some (Ythoaldiadgeonaa.Tq.noFunc) := by kernel_rfl
@[simp] theorem func1 : (Tryq.prog).funcs[1]? = some (Ythoaldiadgeonaa.Tq.noFunc) := by kernel_rfl
@[simp] theorem func2 : (Tryq.prog).funcs[2]? = some (Ythoaldiadgeonaa.Tq.refused Try.f2) := by kernel_rfl
@[simp] theorem func3 : (Tryq.prog).funcs[3]? = some (Try.f3) := by kernel_rfl
@[simp] theorem call3 (args : Array Value) (w : World) : (callFunc 3 args).run Tryq.prog w = .ok (.enter 3 args) w := by kernel_rfl
@[simp] theorem func4 : (Tryq.prog).funcs[4]? = some (Try.f4) := by kernel_rfl
@[simp] theorem call4 (args : Array Value) (w : World) : (callFunc 4 args).run Tryq.prog w = .ok (.enter 4 args) w := by kernel_rfl
@[simp] theorem func5 : (Tryq.prog).funcs[5]? = some (Try.f5) := by kernel_rfl
@[simp] theorem call5 (args : Array Value) (w : World) : (callFunc 5 args).run Tryq.prog w = .ok (.enter 5 args) w := by kernel_rfl
@[simp] theorem func6 : (Tryq.prog).funcs[6]? = some (Try.f6) := by kernel_rfl
@[simp] theorem call6 (args : Array Value) (w : World) : (callFunc 6 args).run Tryq.prog w = .ok (.enter 6 args) w := by kernel_rfl
@[simp] theorem func7 : (Tryq.prog).funcs[7]? = some (Try.f7) := by kernel_rfl
@[simp] theorem call7 (args : Array Value) (w : World) : (callFunc 7 args).run Tryq.prog w = .ok (.enter 7 args) w := by kernel_rfl
@[simp] theorem func8 : (Tryq.prog).funcs[8]? = some (Try.f8) := by kernel_rfl
@[simp] theorem call8 (args : Array Value) (w : World) : (callFunc 8 args).run Tryq.prog w = .ok (.enter 8 args) w := by kernel_rfl
@[simp] theorem func9 : (Tryq.prog).funcs[9]? = some (Try.f9) := by kernel_rfl
@[simp] theorem call9 (args : Array Value) (w : World) : (callFunc 9 args).run Tryq.prog w = .ok (.enter 9 args) w := by kernel_rfl
@[simp] theorem func10 : (Tryq.prog).funcs[10]? = some (Try.f10) := by kernel_rfl
@[simp] theorem call10 (args : Array Value) (w : World) : (callFunc 10 args).run Tryq.prog w = .ok (.enter 10 args) w := by kernel_rfl
@[simp] theorem func11 : (Tryq.prog).funcs[11]? = some (Try.f11) := by kernel_rfl
@[simp] theorem call11 (args : Array Value) (w : World) : (callFunc 11 args).run Tryq.prog w = .ok (.enter 11 args) w := by kernel_rfl
@[simp] theorem func12 : (Tryq.prog).funcs[12]? = some (Try.f12) := by kernel_rfl
@[simp] theorem call12 (args : Array Value) (w : World) : (callFunc 12 args).run Tryq.prog w = .ok (.enter 12 args) w := by kernel_rfl
@[simp] theorem func13 : (Tryq.prog).funcs[13]? = some (Try.f13) := by kernel_rfl
@[simp] theorem call13 (args : Array Value) (w : World) : (callFunc 13 args).run Tryq.prog w = .ok (.enter 13 args) w := by kernel_rfl
@[simp] theorem func14 : (Tryq.prog).funcs[14]? = some (Try.f14) := by kernel_rfl
@[simp] theorem call14 (args : Array Value) (w : World) : (callFunc 14 args).run Tryq.prog w = .ok (.enter 14 args) w := by kernel_rfl
@[simp] theorem func15 : (Tryq.prog).funcs[15]? = some (Try.f15) := by kernel_rfl
@[simp] theorem call15 (args : Array Value) (w : World) : (callFunc 15 args).run Tryq.prog w = .ok (.enter 15 args) w := by kernel_rfl
@[simp] theorem func16 : (Tryq.prog).funcs[16]? = some (Try.f16) := by kernel_rfl
@[simp] theorem call16 (args : Array Value) (w : World) : (callFunc 16 args).run Tryq.prog w = .ok (.enter 16 args) w := by kernel_rfl
@[simp] theorem func17 : (Tryq.prog).funcs[17]? = some (Try.f17) := by kernel_rfl
@[simp] theorem call17 (args : Array Value) (w : World) : (callFunc 17 args).run Tryq.prog w = .ok (.enter 17 args) w := by kernel_rfl
@[simp] theorem func18 : (Tryq.prog).funcs[18]? = some (Try.f18) := by kernel_rfl
@[simp] theorem call18 (args : Array Value) (w : World) : (callFunc 18 args).run Tryq.prog w = .ok (.enter 18 args) w := by kernel_rfl
@[simp] theorem func19 : (Tryq.prog).funcs[19]? = some (Try.f19) := by kernel_rfl
@[simp] theorem call19 (args : Array Value) (w : World) : (callFunc 19 args).run Tryq.prog w = .ok (.enter 19 args) w := by kernel_rfl
@[simp] theorem func20 : (Tryq.prog).funcs[20]? = some (Try.f20) := by kernel_rfl
@[simp] theorem call20 (args : Array Value) (w : World) : (callFunc 20 args).run Tryq.prog w = .ok (.enter 20 args) w := by kernel_rfl
@[simp] theorem func21 : (Tryq.prog).funcs[21]? = some (Try.f21) := by kernel_rfl
@[simp] theorem call21 (args : Array Value) (w : World) : (callFunc 21 args).run Tryq.prog w = .ok (.enter 21 args) w := by kernel_rfl
@[simp] theorem func22 : (Tryq.prog).funcs[22]? = some (Try.f22) := by kernel_rfl
@[simp] theorem call22 (args : Array Value) (w : World) : (callFunc 22 args).run Tryq.prog w = .ok (.enter 22 args) w := by kernel_rfl
@[simp] theorem func23 : (Tryq.prog).funcs[23]? = some (Try.f23) := by kernel_rfl
@[simp] theorem call23 (args : Array Value) (w : World) : (callFunc 23 args).run Tryq.prog w = .ok (.enter 23 args) w := by kernel_rfl
@[simp] theorem func24 : (Tryq.prog).funcs[24]? = some (Try.f24) := by kernel_rfl
@[simp] theorem call24 (args : Array Value) (w : World) : (callFunc 24 args).run Tryq.prog w = .ok (.enter 24 args) w := by kernel_rfl
@[simp] theorem func25 : (Tryq.prog).funcs[25]? = some (Try.f25) := by kernel_rfl
@[simp] theorem call25 (args : Array Value) (w : World) : (callFunc 25 args).run Tryq.prog w = .ok (.enter 25 args) w := by kernel_rfl
@[simp] theorem func26 : (Tryq.prog).funcs[26]? = some (Try.f26) := by kernel_rfl
@[simp] theorem call26 (args : Array Value) (w : World) : (callFunc 26 args).run Tryq.prog w = .ok (.enter 26 args) w := by kernel_rfl
@[simp] theorem func27 : (Tryq.prog).funcs[27]? = some (Ythoaldiadgeonaa.Tq.ordersQ) := by kernel_rfl
@[simp] theorem call27 (args : Array Value) (w : World) : (callFunc 27 args).run Tryq.prog w = .ok (.enter 27 args) w := by kernel_rfl
@[simp] theorem func28 : (Tryq.prog).funcs[28]? = some (Try.f28) := by kernel_rfl
@[simp] theorem call28 (args : Array Value) (w : World) : (callFunc 28 args).run Tryq.prog w = .ok (.enter 28 args) w := by kernel_rfl
@[simp] theorem func29 : (Tryq.prog).funcs[29]? = some (Try.f29) := by kernel_rfl
@[simp] theorem call29 (args : Array Value) (w : World) : (callFunc 29 args).run Tryq.prog w = .ok (.enter 29 args) w := by kernel_rfl
@[simp] theorem func30 : (Tryq.prog).funcs[30]? = some (Try.f30) := by kernel_rfl
@[simp] theorem call30 (args : Array Value) (w : World) : (callFunc 30 args).run Tryq.prog w = .ok (.enter 30 args) w := by kernel_rfl
@[simp] theorem func31 : (Tryq.prog).funcs[31]? = some (Try.f31) := by kernel_rfl
@[simp] theorem call31 (args : Array Value) (w : World) : (callFunc 31 args).run Tryq.prog w = .ok (.enter 31 args) w := by kernel_rfl
@[simp] theorem func32 : (Tryq.prog).funcs[32]? = some (Try.f32) := by kernel_rfl
@[simp] theorem call32 (args : Array Value) (w : World) : (callFunc 32 args).run Tryq.prog w = .ok (.enter 32 args) w := by kernel_rfl
@[simp] theorem func33 : (Tryq.prog).funcs[33]? = some (Try.f33) := by kernel_rfl
@[simp] theorem call33 (args : Array Value) (w : World) : (callFunc 33 args).run Tryq.prog w = .ok (.enter 33 args) w := by kernel_rfl
@[simp] theorem func34 : (Tryq.prog).funcs[34]? = some (Try.f34) := by kernel_rfl
@[simp] theorem call34 (args : Array Value) (w : World) : (callFunc 34 args).run Tryq.prog w = .ok (.enter 34 args) w := by kernel_rfl
@[simp] theorem func35 : (Tryq.prog).funcs[35]? = some (Try.f35) := by kernel_rfl
@[simp] theorem call35 (args : Array Value) (w : World) : (callFunc 35 args).run Tryq.prog w = .ok (.enter 35 args) w := by kernel_rfl
@[simp] theorem func36 : (Tryq.prog).funcs[36]? = some (Try.f36) := by kernel_rfl
@[simp] theorem call36 (args : Array Value) (w : World) : (callFunc 36 args).run Tryq.prog w = .ok (.enter 36 args) w := by kernel_rfl
@[simp] theorem func37 : (Tryq.prog).funcs[37]? = some (Try.f37) := by kernel_rfl
@[simp] theorem call37 (args : Array Value) (w : World) : (callFunc 37 args).run Tryq.prog w = .ok (.enter 37 args) w := by kernel_rfl
@[simp] theorem func38 : (Tryq.prog).funcs[38]? = some (Try.f38) := by kernel_rfl
@[simp] theorem call38 (args : Array Value) (w : World) : (callFunc 38 args).run Tryq.prog w = .ok (.enter 38 args) w := by kernel_rfl
@[simp] theorem func39 : (Tryq.prog).funcs[39]? = some (Try.f39) := by kernel_rfl
@[simp] theorem call39 (args : Array Value) (w : World) : (callFunc 39 args).run Tryq.prog w = .ok (.enter 39 args) w := by kernel_rfl
@[simp] theorem func40 : (Tryq.prog).funcs[40]? = some (Try.f40) := by kernel_rfl
@[simp] theorem call40 (args : Array Value) (w : World) : (callFunc 40 args).run Tryq.prog w = .ok (.enter 40 args) w := by kernel_rfl
@[simp] theorem func41 : (Tryq.prog).funcs[41]? = some (Try.f41) := by kernel_rfl
@[simp] theorem call41 (args : Array Value) (w : World) : (callFunc 41 args).run Tryq.prog w = .ok (.enter 41 args) w := by kernel_rfl
@[simp] theorem func42 : (Tryq.prog).funcs[42]? = some (Try.f42) := by kernel_rfl
@[simp] theorem call42 (args : Array Value) (w : World) : (callFunc 42 args).run Tryq.prog w = .ok (.enter 42 args) w := by kernel_rfl
@[simp] theorem func43 : (Tryq.prog).funcs[43]? = some (Try.f43) := by kernel_rfl
@[simp] theorem call43 (args : Array Value) (w : World) : (callFunc 43 args).run Tryq.prog w = .ok (.enter 43 args) w := by kernel_rfl
@[simp] theorem func44 : (Tryq.prog).funcs[44]? = some (Try.f44) := by kernel_rfl
@[simp] theorem call44 (args : Array Value) (w : World) : (callFunc 44 args).run Tryq.prog w = .ok (.enter 44 args) w := by kernel_rfl
@[simp] theorem func45 : (Tryq.prog).funcs[45]? = some (Try.f45) := by kernel_rfl
@[simp] theorem call45 (args : Array Value) (w : World) : (callFunc 45 args).run Tryq.prog w = .ok (.enter 45 args) w := by kernel_rfl
@[simp] theorem func46 : (Tryq.prog).funcs[46]? = some (Try.f46) := by kernel_rfl
@[simp] theorem call46 (args : Array Value) (w : World) : (callFunc 46 args).run Tryq.prog w = .ok (.enter 46 args) w := by kernel_rfl
@[simp] theorem func47 : (Tryq.prog).funcs[47]? = some (Try.f47) := by kernel_rfl
@[simp] theorem call47 (args : Array Value) (w : World) : (callFunc 47 args).run Tryq.prog w = .ok (.enter 47 args) w := by kernel_rfl
@[simp] theorem func48 : (Tryq.prog).funcs[48]? = some (Ythoaldiadgeonaa.Tq.refused Try.f48) := by kernel_rfl
@[simp] theorem func49 : (Tryq.prog).funcs[49]? = some (Ythoaldiadgeonaa.Tq.refused Try.f49) := by kernel_rfl
@[simp] theorem func50 : (Tryq.prog).funcs[50]? = some (Ythoaldiadgeonaa.Tq.refused Try.f50) := by kernel_rfl
@[simp] theorem func51 : (Tryq.prog).funcs[51]? = some (Ythoaldiadgeonaa.Tq.refused Try.f51) := by kernel_rfl
@[simp] theorem func52 : (Tryq.prog).funcs[52]? = some (Try.f52) := by kernel_rfl
@[simp] theorem call52 (args : Array Value) (w : World) : (callFunc 52 args).run Tryq.prog w = .ok (.enter 52 args) w := by kernel_rfl
@[simp] theorem func53 : (Tryq.prog).funcs[53]? = some (Try.f53) := by kernel_rfl
@[simp] theorem call53 (args : Array Value) (w : World) : (callFunc 53 args).run Tryq.prog w = .ok (.enter 53 args) w := by kernel_rfl
@[simp] theorem func54 : (Tryq.prog).funcs[54]? = some (Try.f54) := by kernel_rfl
@[simp] theorem call54 (args : Array Value) (w : World) : (callFunc 54 args).run Tryq.prog w = .ok (.enter 54 args) w := by kernel_rfl
@[simp] theorem func55 : (Tryq.prog).funcs[55]? = some (Try.f55) := by kernel_rfl
@[simp] theorem call55 (args : Array Value) (w : World) : (callFunc 55 args).run Tryq.prog w = .ok (.enter 55 args) w := by kernel_rfl
@[simp] theorem func56 : (Tryq.prog).funcs[56]? = some (Try.f56) := by kernel_rfl
@[simp] theorem call56 (args : Array Value) (w : World) : (callFunc 56 args).run Tryq.prog w = .ok (.enter 56 args) w := by kernel_rfl
@[simp] theorem func57 : (Tryq.prog).funcs[57]? = some (Ythoaldiadgeonaa.Tq.noFunc) := by kernel_rfl
@[simp] theorem func58 : (Tryq.prog).funcs[58]? = some (Ythoaldiadgeonaa.Tq.noFunc) := by kernel_rfl
@[simp] theorem func59 : (Tryq.prog).funcs[59]? = some (Ythoaldiadgeonaa.Tq.noFunc) := by kernel_rfl
@[simp] theorem func60 : (Tryq.prog).funcs[60]? = some (Ythoaldiadgeonaa.Tq.noFunc) := by kernel_rfl
@[simp] theorem func61 : (Tryq.prog).funcs[61]? = some (Ythoaldiadgeonaa.Tq.noFunc) := by kernel_rfl
@[simp] theorem func62 : (Tryq.prog).funcs[62]? = some (Ythoaldiadgeonaa.Tq.noFunc) := by kernel_rfl
@[simp] theorem func63 : (Tryq.prog).funcs[63]? = some (Ythoaldiadgeonaa.Tq.refused Try.f63) := by kernel_rfl
@[simp] theorem func64 : (Tryq.prog).funcs[64]? = some (Ythoaldiadgeonaa.Tq.refused Try.f64) := by kernel_rfl
@[simp] theorem func65 : (Tryq.prog).funcs[65]? = some (Ythoaldiadgeonaa.Tq.noFunc) := by kernel_rfl
@[simp] theorem func66 : (Tryq.prog).funcs[66]? = some (Ythoaldiadgeonaa.Tq.refused Try.f66) := by kernel_rfl
@[simp] theorem func67 : (Tryq.prog).funcs[67]? = some (Ythoaldiadgeonaa.Tq.refused Try.f67) := by kernel_rfl
@[simp] theorem func68 : (Tryq.prog).funcs[68]? = some (Ythoaldiadgeonaa.Tq.noFunc) := by kernel_rfl
@[simp] theorem func69 : (Tryq.prog).funcs[69]? = some (Ythoaldiadgeonaa.Tq.noFunc) := by kernel_rfl
@[simp] theorem func70 : (Tryq.prog).funcs[70]? = some (Ythoaldiadgeonaa.Tq.noFunc) := by kernel_rfl
@[simp] theorem func71 : (Tryq.prog).funcs[71]? = some (Ythoaldiadgeonaa.Tq.noFunc) := by kernel_rfl
@[simp] theorem func72 : (Tryq.prog).funcs[72]? = some (Ythoaldiadgeonaa.Tq.refused Try.f72) := by kernel_rfl
@[simp] theorem func73 : (Tryq.prog).funcs[73]? = some (Ythoaldiadgeonaa.Tq.noFunc) := by kernel_rfl
@[simp] theorem func74 : (Tryq.prog).funcs[74]? = some (Ythoaldiadgeonaa.Tq.noFunc) := by kernel_rfl
@[simp] theorem func75 : (Tryq.prog).funcs[75]? = some (Try.f75) := by kernel_rfl
@[simp] theorem call75 (args : Array Value) (w : World) : (callFunc 75 args).run Tryq.prog w = .ok (.enter 75 args) w := by kernel_rfl
@[simp] theorem func76 : (Tryq.prog).funcs[76]? = some (Try.f76) := by kernel_rfl
@[simp] theorem call76 (args : Array Value) (w : World) : (callFunc 76 args).run Tryq.prog w = .ok (.enter 76 args) w := by kernel_rfl
@[simp] theorem func77 : (Tryq.prog).funcs[77]? = some (Try.f77) := by kernel_rfl
@[simp] theorem call77 (args : Array Value) (w : World) : (callFunc 77 args).run Tryq.prog w = .ok (.enter 77 args) w := by kernel_rfl
@[simp] theorem func78 : (Tryq.prog).funcs[78]? = some (Ythoaldiadgeonaa.Tq.noFunc) := by kernel_rfl
@[simp] theorem func79 : (Tryq.prog).funcs[79]? = some (Ythoaldiadgeonaa.Tq.noFunc) := by kernel_rfl
@[simp] theorem func80 : (Tryq.prog).funcs[80]? = some (Ythoaldiadgeonaa.Tq.noFunc) := by kernel_rfl
@[simp] theorem func81 : (Tryq.prog).funcs[81]? = some (Ythoaldiadgeonaa.Tq.noFunc) := by kernel_rfl
@[simp] theorem func82 : (Tryq.prog).funcs[82]? = some (Ythoaldiadgeonaa.Tq.noFunc) := by kernel_rfl
@[simp] theorem func83 : (Tryq.prog).funcs[83]? = some (Try.f83) := by kernel_rfl
@[simp] theorem call83 (args : Array Value) (w : World) : (callFunc 83 args).run Tryq.prog w = .ok (.enter 83 args) w := by kernel_rfl
@[simp] theorem func84 : (Tryq.prog).funcs[84]? = some (Ythoaldiadgeonaa.Tq.noFunc) := by kernel_rfl
@[simp] theorem func85 : (Tryq.prog).funcs[85]? = some (Ythoaldiadgeonaa.Tq.noFunc) := by kernel_rfl
@[simp] theorem func86 : (Tryq.prog).funcs[86]? = some (Ythoaldiadgeonaa.Tq.noFunc) := by kernel_rfl
@[simp] theorem func87 : (Tryq.prog).funcs[87]? = some (Ythoaldiadgeonaa.Tq.noFunc) := by kernel_rfl
@[simp] theorem func88 : (Tryq.prog).funcs[88]? = some (Ythoaldiadgeonaa.Tq.noFunc) := by kernel_rfl
@[simp] theorem func89 : (Tryq.prog).funcs[89]? = some (Ythoaldiadgeonaa.Tq.noFunc) := by kernel_rfl
@[simp] theorem func90 : (Tryq.prog).funcs[90]? = some (Ythoaldiadgeonaa.Tq.noFunc) := by kernel_rfl
@[simp] theorem func91 : (Tryq.prog).funcs[91]? = some (Ythoaldiadgeonaa.Tq.noFunc) := by kernel_rfl
@[simp] theorem func92 : (Tryq.prog).funcs[92]? = some (Ythoaldiadgeonaa.Tq.noFunc) := by kernel_rfl
@[simp] theorem func93 : (Tryq.prog).funcs[93]? = some (Ythoaldiadgeonaa.Tq.noFunc) := by kernel_rfl
@[simp] theorem func94 : (Tryq.prog).funcs[94]? = some (Ythoaldiadgeonaa.Tq.noFunc) := by kernel_rfl
@[simp] theorem func95 : (Tryq.prog).funcs[95]? = some (Ythoaldiadgeonaa.Tq.noFunc) := by kernel_rfl
@[simp] theorem func96 : (Tryq.prog).funcs[96]? = some (Ythoaldiadgeonaa.Tq.noFunc) := by kernel_rfl
@[simp] theorem func97 : (Tryq.prog).funcs[97]? = some (Ythoaldiadgeonaa.Tq.noFunc) := by kernel_rfl
@[simp] theorem func98 : (Tryq.prog).funcs[98]? = some (Ythoaldiadgeonaa.Tq.noFunc) := by kernel_rfl
@[simp] theorem func99 : (Tryq.prog).funcs[99]? = some (Ythoaldiadgeonaa.Tq.noFunc) := by kernel_rfl
@[simp] theorem func100 : (Tryq.prog).funcs[100]? = some (Ythoaldiadgeonaa.Tq.noFunc) := by kernel_rfl
end Tryq

end Go.Proofs

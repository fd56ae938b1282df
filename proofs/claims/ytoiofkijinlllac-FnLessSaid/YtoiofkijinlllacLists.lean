/-
  Digits, beginning and round as lists: the program's functions and the model's answer alike.
-/
import Derived.Test.YtoiofkijinlllacGRow
import Derived.Test.YtoiofkijinlllacAns
import Derived.Test.YtoiofkijinlllacTold
import Derived.Test.YtoiofkijinlllacGRnd
import Derived.Test.YtoiofkijinlllacFirst
namespace Go.Proofs.Ytoiofkijinlllac
open Go.RowKit












theorem implFracDigits_noG (b t n k : Int) (h : tldB b t n = false) : Gives 17 #[.int .i64 b, .agg #[.int .i64 t, .int .i64 n], .int .i64 k] [] false :=
  fun w => (implFracDigits_no _ _ _ _ w h).mono fun _ _ ⟨he, hb⟩ => ⟨_, he, Slc.nil _ _, hb⟩
theorem implFracDigits_offG (b t n k : Int) (h : tldB b t n = true) (hk : k < 0 ∨ 200 < k) : Gives 17 #[.int .i64 b, .agg #[.int .i64 t, .int .i64 n], .int .i64 k] [] false :=
  fun w => (implFracDigits_off _ _ _ _ w h hk).mono fun _ _ ⟨he, hb⟩ => ⟨_, he, Slc.nil _ _, hb⟩
theorem implFracDigits_yesG (b T B K : Nat) (h : tldB b T B = true) (hT : T < B) (hg : Nat.gcd T B = 1) (hB : B ≤ 1000) (h3 : 2 ≤ b) (h4 : b ≤ 16) (hK : K ≤ 200) :
    Gives 17 #[.int .i64 b, .agg #[.int .i64 T, .int .i64 B], .int .i64 K] (digL b T B K) true :=
  fun w => implFracDigits_yes _ _ _ _ w h hT hg hB h3 h4 hK




end Go.Proofs.Ytoiofkijinlllac

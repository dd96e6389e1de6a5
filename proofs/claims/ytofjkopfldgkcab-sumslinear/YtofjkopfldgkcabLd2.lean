/- SumsLinear: whatever the texts. -/
import Derived.Test.YtofjkopfldgkcabLb2
import Derived.Test.YtofjkopfldgkcabLc2
namespace Go.Proofs.Ytofjkopfldgkcab
open Go.RowKit
set_option linter.unusedVariables false

set_option maxRecDepth 20000 in
theorem sumsLinear_awake (s t : ByteArray) (w : World) (h1 : 8192 < s.size) (h2 : 8192 < t.size) :
    Calls Try.prog 3 #[.string s, .string t] w fun e w' => e = .returned (.bool true) ∧ Below w.heap.size w w' := by
  have e1 : (8192 : Int) < (s.size : Int) := by omega
  have e2 : (8192 : Int) < (t.size : Int) := by omega
  by_cases h : t.size < s.size
  · go_enter Try.func3, Try.ntmps3
    go_wp2_with fail
    refine (awake _).mono ?_
    rintro e w1 ⟨rfl, hb1⟩
    go_wp2
    go_ret
    exact ⟨rfl, hb1⟩
  · go_enter Try.func3, Try.ntmps3
    go_wp2_with fail
    refine (awake _).mono ?_
    rintro e w1 ⟨rfl, hb1⟩
    go_wp2
    go_ret
    exact ⟨rfl, hb1⟩
theorem sumsLinear_any (s t : ByteArray) (w : World) (hs : s.size ≤ 140737488351232) (ht : t.size ≤ 140737488351232) :
    Calls Try.prog 3 #[.string s, .string t] w fun e w' => e = .returned (.bool true) ∧ Below w.heap.size w w' := by
  by_cases h : 8192 < s.size ∧ 8192 < t.size
  · exact sumsLinear_awake s t w h.1 h.2
  · by_cases hlt : t.size < s.size
    · exact sumsLinear_lt s t t.size w hs ht hlt rfl (by omega)
    · exact sumsLinear_ge s t s.size w hs ht hlt rfl (by omega)
end Go.Proofs.Ytofjkopfldgkcab

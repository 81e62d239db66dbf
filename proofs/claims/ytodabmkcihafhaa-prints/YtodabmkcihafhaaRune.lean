/- The program's looks at one rune. -/
import Derived.Test.YtodabmkcihafhaaRuneC
import Derived.Test.YtodabmkcihafhaaRows
import Derived.WalkKit
import Derived.WalkSpells
import Derived.WalkLawsBesides
namespace Go.Proofs.Ytodabmkcihafhaa
open Go.RowKit
set_option linter.unusedVariables false

theorem contains_frac (r : Int) (w : World) (h0 : -1 ≤ r) (h1 : r ≤ 1114111) : Calls Try.prog 37 #[.string ⟨#[194, 189, 194, 188, 194, 190]⟩, .int .i32 r] w fun e w' => e = .returned (.bool (isFrac r)) ∧ Below w.heap.size w w' :=
  looks_frac.contains r w h0 h1
theorem contains_mark (r : Int) (w : World) (h0 : -1 ≤ r) (h1 : r ≤ 1114111) : Calls Try.prog 37 #[.string ⟨#[194, 178, 226, 128, 178]⟩, .int .i32 r] w fun e w' => e = .returned (.bool (isMk r)) ∧ Below w.heap.size w w' :=
  looks_mark.contains r w h0 h1
theorem contains_sum (r : Int) (w : World) (h0 : -1 ≤ r) (h1 : r ≤ 1114111) : Calls Try.prog 37 #[.string ⟨#[43, 226, 136, 146]⟩, .int .i32 r] w fun e w' => e = .returned (.bool (inRow 0 r)) ∧ Below w.heap.size w w' :=
  looks_sum.contains r w h0 h1
theorem contains_prod (r : Int) (w : World) (h0 : -1 ≤ r) (h1 : r ≤ 1114111) : Calls Try.prog 37 #[.string ⟨#[195, 151, 195, 183]⟩, .int .i32 r] w fun e w' => e = .returned (.bool (inRow 1 r)) ∧ Below w.heap.size w w' :=
  looks_prod.contains r w h0 h1

set_option maxHeartbeats 400000 in
theorem isFraction_any (r : Int) (w : World) (h0 : -1 ≤ r) (h1 : r ≤ 1114111) : Calls Try.prog 52 #[.int .i32 r] w fun e w' => e = .returned (.bool (isFrac r)) ∧ Below w.heap.size w w' := by
  go_enter Try.func52, Try.ntmps52
  go_wp2_with fail
  refine (contains_frac r _ h0 h1).mono ?_
  rintro e w' ⟨rfl, hb⟩
  go_wp2_with fail
  go_ret
  exact ⟨rfl, hb⟩
set_option maxHeartbeats 400000 in
theorem isMark_any (r : Int) (w : World) (h0 : -1 ≤ r) (h1 : r ≤ 1114111) : Calls Try.prog 46 #[.int .i32 r] w fun e w' => e = .returned (.bool (isMk r)) ∧ Below w.heap.size w w' := by
  go_enter Try.func46, Try.ntmps46
  go_wp2_with fail
  refine (contains_mark r _ h0 h1).mono ?_
  rintro e w' ⟨rfl, hb⟩
  go_wp2_with fail
  go_ret
  exact ⟨rfl, hb⟩
theorem ret_b {a b : Bool} (h : a = b) : Ending.returned (.bool a) = .returned (.bool b) := by rw [h]
set_option maxHeartbeats 400000 in
theorem isDigit_any (r : Int) (w : World) : Calls Try.prog 51 #[.int .i32 r] w fun e w' => e = .returned (.bool (isDig r)) ∧ w' = w := by
  have HD : Hid (isDig r = (decide (48 ≤ r) && decide (r ≤ 57))) := rfl
  by_cases h : 48 ≤ r
  · go_enter Try.func51, Try.ntmps51
    go_wp2_with fail
    go_ret
    refine ⟨ret_b ?_, rfl⟩
    rw [HD.out]; simp [h]
  · have h' : decide (48 ≤ r) = false := by simpa using h
    go_enter Try.func51, Try.ntmps51
    go_wp2_with fail
    go_ret
    refine ⟨ret_b ?_, rfl⟩
    rw [HD.out, h']; rfl
set_option maxHeartbeats 400000 in
theorem isName_any (r : Int) (w : World) : Calls Try.prog 54 #[.int .i32 r] w fun e w' => e = .returned (.bool (isNm r)) ∧ w' = w := by
  have HD : Hid (isNm r = (decide (945 ≤ r) && decide (r ≤ 969))) := rfl
  by_cases h : 945 ≤ r
  · go_enter Try.func54, Try.ntmps54
    go_wp2_with fail
    go_ret
    refine ⟨ret_b ?_, rfl⟩
    rw [HD.out]; simp [h]
  · have h' : decide (945 ≤ r) = false := by simpa using h
    go_enter Try.func54, Try.ntmps54
    go_wp2_with fail
    go_ret
    refine ⟨ret_b ?_, rfl⟩
    rw [HD.out, h']; rfl
end Go.Proofs.Ytodabmkcihafhaa

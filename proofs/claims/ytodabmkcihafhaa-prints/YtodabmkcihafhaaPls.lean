/- The law: what Print answers is what the document answers. -/
import Derived.Test.YtodabmkcihafhaaTop
namespace Go.Proofs.Ytodabmkcihafhaa
open Go.ChangeShapes Go.WideShapes Go.ChangeAt Go.RowKit
set_option linter.unusedVariables false

set_option maxHeartbeats 2000000 in
set_option maxRecDepth 100000 in
theorem prints_walk (s : ByteArray) (w : World) :
    Calls Try.prog 3 #[.string s] w fun e w' => e = .returned (.bool true) ∧ Below w.heap.size w w' := by
  have c1 := print_any s w
  have c2 := fun W => refPrint_any s W
  generalize refT s = T at *
  generalize refE s = E at *
  generalize refP s = Pl at *
  have C2 : Hid (∀ W, Calls Try.prog 5 #[.string s] W fun e w' => e = .returned (.tuple #[.string T, .int .i64 E, .int .i64 Pl]) ∧ Below W.heap.size W w') := c2
  clear c2
  go_enter Try.func3, Try.ntmps3
  go_wp2_with fail
  refine c1.mono ?_
  rintro e w1 ⟨rfl, hb1⟩
  go_wp2_with fail
  refine (C2.out _).mono ?_
  rintro e w2 ⟨rfl, hb2⟩
  have hb3 : Below w.heap.size w w2 := hb1.trans (hb2.mono hb1.size)
  clear hb1 hb2 c1 C2
  go_wp2_with fail
  refine (num_any E _).mono ?_
  rintro e w3 ⟨rfl, hw3⟩
  have hw3 := hw3.symm
  subst hw3
  go_wp2_with fail
  go_ret
  exact ⟨rfl, hb3⟩
end Go.Proofs.Ytodabmkcihafhaa

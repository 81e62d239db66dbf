/- The program's read and Print. -/
import Derived.Test.YtodabmkcihafhaaParse
import Derived.Test.YtodabmkcihafhaaWr2
import Derived.Test.YtodabmkcihafhaaRefP
import Derived.ProofKit
import Derived.OpenShut
import Derived.ShutString
namespace Go.Proofs.Ytodabmkcihafhaa
open Go.ChangeShapes Go.WideShapes Go.ChangeAt Go.RowKit
open Go.ChangeMaps (open_string shut_string)
set_option linter.unusedVariables false

set_option maxHeartbeats 2000000 in
set_option maxRecDepth 100000 in
theorem read_any (s : ByteArray) (w : World) :
    Calls Try.prog 7 #[.string s] w fun e w' => e = .returned (.tuple #[if 120 < s.size then .nilIface else if good s then den (top s).L (top s).k else .nilIface, .int .i64 (refE s), .int .i64 (refP s)]) ∧ Below w.heap.size w w' := by
  unfold refE refP
  by_cases h120 : 120 < s.size
  · rw [if_pos h120, if_pos h120, if_pos h120]
    go_enter Try.func7, Try.ntmps7
    go_wp2_with fail
    go_ret3
    exact ⟨rfl, Below.refl _ _⟩
  · rw [if_neg h120, if_neg h120, if_neg h120]
    have c := parse_any s w (by omega)
    unfold parseR at c
    by_cases hg : good s = true
    · rw [if_pos hg] at c
      rw [if_pos hg, if_pos hg, if_pos hg]
      obtain ⟨t1, t2, t3, t4⟩ := top_size s (by omega) hg
      obtain ⟨T, y, hI⟩ := den_isI (top s).L (top s).k t1 (by omega)
      rw [hI] at c ⊢
      clear hg t1 t2 t3 t4 hI
      go_enter Try.func7, Try.ntmps7
      go_wp2_with fail
      refine c.mono ?_
      rintro e w1 ⟨rfl, hb1⟩
      go_wp2_with fail
      go_ret3
      exact ⟨rfl, hb1⟩
    · rw [if_neg hg] at c
      rw [if_neg hg, if_neg hg, if_neg hg]
      generalize hp (top s).ts = pl at *
      clear hg
      go_enter Try.func7, Try.ntmps7
      go_wp2_with fail
      refine c.mono ?_
      rintro e w1 ⟨rfl, hb1⟩
      go_wp2_with fail
      go_ret3
      exact ⟨rfl, hb1⟩
set_option maxHeartbeats 2000000 in
set_option maxRecDepth 100000 in
theorem print_any (s : ByteArray) (w : World) :
    Calls Try.prog 4 #[.string s] w fun e w' => e = .returned (.tuple #[.string (refT s), .int .i64 (refE s), .int .i64 (refP s)]) ∧ Below w.heap.size w w' := by
  have rd := read_any s w
  unfold refT
  by_cases h120 : 120 < s.size
  · rw [if_pos h120] at rd ⊢
    have e1 : (refE s != 0) = true := by unfold refE; rw [if_pos h120]; rfl
    generalize refE s = E at *
    generalize refP s = Pl at *
    clear h120
    go_enter Try.func4, Try.ntmps4
    go_wp2_with fail
    refine rd.mono ?_
    rintro e w1 ⟨rfl, hb1⟩
    go_wp2_with fail
    go_ret3
    exact ⟨rfl, hb1⟩
  · rw [if_neg h120] at rd ⊢
    by_cases hg : good s = true
    · rw [if_pos hg] at rd ⊢
      obtain ⟨t1, t2, t3, t4⟩ := top_size s (by omega) hg
      have e1 : refE s = 0 := by unfold refE; rw [if_neg h120, if_pos hg]
      have e2 : refP s = 0 := by unfold refP; rw [if_neg h120, if_pos hg]
      rw [e1, e2] at rd ⊢
      have cw := fun W => write_any (top s).L (top s).k W t1 (by omega) (by omega)
      obtain ⟨T, y, hI⟩ := den_isI (top s).L (top s).k t1 (by omega)
      rw [hI] at rd
      simp only [hI] at cw
      generalize fm (top s).L (top s).k = F at *
      have CW : Hid (∀ W, Calls Try.prog 8 #[.iface T y] W fun e w' => e = .returned (.string F) ∧ Below W.heap.size W w') := cw
      clear cw hg t1 t2 t3 t4 e1 e2 hI
      go_enter Try.func4, Try.ntmps4
      go_wp2_with fail
      refine rd.mono ?_
      rintro e w1 ⟨rfl, hb1⟩
      go_wp2_with fail
      refine (CW.out _).mono ?_
      rintro e w2 ⟨rfl, hb2⟩
      go_wp2_with fail
      go_ret3
      exact ⟨rfl, hb1.trans (hb2.mono hb1.size)⟩
    · rw [if_neg hg] at rd ⊢
      have e1 : (refE s != 0) = true := by unfold refE; rw [if_neg h120, if_neg hg]; rfl
      generalize refE s = E at *
      generalize refP s = Pl at *
      clear hg
      go_enter Try.func4, Try.ntmps4
      go_wp2_with fail
      refine rd.mono ?_
      rintro e w1 ⟨rfl, hb1⟩
      go_wp2_with fail
      go_ret3
      exact ⟨rfl, hb1⟩

theorem num_any (e : Int) (w : World) : Calls Try.prog 6 #[.int .i64 e] w fun r w' => r = .returned (.int .i64 e) ∧ w' = w := by
  go_enter Try.func6, Try.ntmps6
  go_wp2_with fail
  go_ret
  exact ⟨rfl, rfl⟩

end Go.Proofs.Ytodabmkcihafhaa

/- The document's 'at'. -/
import Derived.Test.YtodabmkcihafhaaRows
import Derived.Test.YtodabmkcihafhaaPure
import Derived.WalkKit
import Derived.WalkSpells
import Derived.WalkLawsBesides
import Derived.Deep.QuietTactic
import Derived.BigQuiet
namespace Go.Proofs.Ytodabmkcihafhaa
open Go.RowKit
set_option linter.unusedVariables false

theorem and192 (n : Nat) (h : n < 256) : (bits BinOp.and IntKind.u8 (n : Int) 192 == 128) = decide (n / 64 = 2) := by
  have : ∀ m : Fin 256, (bits BinOp.and IntKind.u8 ((m.val : Nat) : Int) 192 == 128) = decide (m.val / 64 = 2) := by decide +kernel
  exact this ⟨n, h⟩
theorem and63 (n : Nat) (h : n < 256) : bits BinOp.and IntKind.u8 (n : Int) 63 = ((n % 64 : Nat) : Int) := by
  have : ∀ m : Fin 256, bits BinOp.and IntKind.u8 ((m.val : Nat) : Int) 63 = ((m.val % 64 : Nat) : Int) := by decide +kernel
  exact this ⟨n, h⟩
theorem and31 (n : Nat) (h : n < 256) : bits BinOp.and IntKind.i64 (n : Int) 31 = ((n % 32 : Nat) : Int) := by
  have : ∀ m : Fin 256, bits BinOp.and IntKind.i64 ((m.val : Nat) : Int) 31 = ((m.val % 32 : Nat) : Int) := by decide +kernel
  exact this ⟨n, h⟩
theorem and15 (n : Nat) (h : n < 256) : bits BinOp.and IntKind.i64 (n : Int) 15 = ((n % 16 : Nat) : Int) := by
  have : ∀ m : Fin 256, bits BinOp.and IntKind.i64 ((m.val : Nat) : Int) 15 = ((m.val % 16 : Nat) : Int) := by decide +kernel
  exact this ⟨n, h⟩
theorem wrapN (n : Nat) (h : n < 1000000) : wrap64 (n : Int) = n := by
  unfold wrap64; omega


set_option maxHeartbeats 2000000 in
set_option maxRecDepth 100000 in
theorem at_one (s : ByteArray) (k : Nat) (w : World) (hs : s.size ≤ 120) (hlt : k < s.size) (h1 : bt s k < 128) :
    Calls Try.prog 28 #[.string s, .int .i64 k] w fun e w' => e = .returned (.tuple #[.int .i64 (bt s k : Nat), .int .i64 1]) ∧ ∃ n, w' = w.drewN n := by
  have b0 := bt_lt s k
  have g0 := bt_get s k
  have wN := wrapN (bt s k) (by omega)
  go_enter Try.func28, Try.ntmps28
  go_wp2
  go_ret2
  exact ⟨rfl, 0, rfl⟩

set_option maxHeartbeats 2000000 in
set_option maxRecDepth 100000 in
theorem at_two (s : ByteArray) (k : Nat) (w : World) (hs : s.size ≤ 120) (hlt : k < s.size) (h1 : 194 ≤ bt s k) (h2 : bt s k ≤ 223) (h3 : k + 1 < s.size) (h4 : bt s (k + 1) / 64 = 2) :
    Calls Try.prog 28 #[.string s, .int .i64 k] w fun e w' => e = .returned (.tuple #[.int .i64 ((bt s k % 32 * 64 + bt s (k + 1) % 64 : Nat) : Int), .int .i64 2]) ∧ ∃ n, w' = w.drewN n := by
  have b0 := bt_lt s k
  have g0 := bt_get s k
  have wN := wrapN (bt s k) (by omega)
  have b1 := bt_lt s (k + 1)
  have g1 := bt_get s (k + 1)
  have a1 := and192 (bt s (k + 1)) (by omega)
  have m1 := and63 (bt s (k + 1)) (by omega)
  have m0 := and31 (bt s k) (by omega)
  have n1 := wrapN (bt s (k + 1) % 64) (by omega)
  go_enter Try.func28, Try.ntmps28
  go_wp2
  go_ret2
  refine ⟨?_, 0, rfl⟩
  congr 5

set_option maxHeartbeats 2000000 in
set_option maxRecDepth 100000 in
theorem at_none0 (s : ByteArray) (k : Nat) (w : World) (hs : s.size ≤ 120) (hlt : k < s.size) (h0 : 128 ≤ bt s k) (h1 : bt s k < 194 ∨ 223 < bt s k) (h2 : ¬ bt s k = 226) :
    Calls Try.prog 28 #[.string s, .int .i64 k] w fun e w' => e = .returned (.tuple #[.int .i64 0, .int .i64 0]) ∧ ∃ n, w' = w.drewN n := by
  have b0 := bt_lt s k
  have g0 := bt_get s k
  have wN := wrapN (bt s k) (by omega)
  go_enter Try.func28, Try.ntmps28
  rcases h1 with h1 | h1
  all_goals
    go_wp2
    go_ret2
    exact ⟨rfl, 0, rfl⟩

set_option maxHeartbeats 2000000 in
set_option maxRecDepth 100000 in
theorem at_none1 (s : ByteArray) (k : Nat) (w : World) (hs : s.size ≤ 120) (hlt : k < s.size) (h0 : 194 ≤ bt s k) (h1 : bt s k ≤ 223) (h2 : s.size ≤ k + 1) :
    Calls Try.prog 28 #[.string s, .int .i64 k] w fun e w' => e = .returned (.tuple #[.int .i64 0, .int .i64 0]) ∧ ∃ n, w' = w.drewN n := by
  have b0 := bt_lt s k
  have g0 := bt_get s k
  have wN := wrapN (bt s k) (by omega)
  go_enter Try.func28, Try.ntmps28
  go_wp2
  go_ret2
  exact ⟨rfl, 0, rfl⟩

set_option maxHeartbeats 2000000 in
set_option maxRecDepth 100000 in
theorem at_none2 (s : ByteArray) (k : Nat) (w : World) (hs : s.size ≤ 120) (hlt : k < s.size) (h0 : 194 ≤ bt s k) (h1 : bt s k ≤ 223) (h2 : k + 1 < s.size) (h3 : ¬ bt s (k + 1) / 64 = 2) :
    Calls Try.prog 28 #[.string s, .int .i64 k] w fun e w' => e = .returned (.tuple #[.int .i64 0, .int .i64 0]) ∧ ∃ n, w' = w.drewN n := by
  have b0 := bt_lt s k
  have g0 := bt_get s k
  have wN := wrapN (bt s k) (by omega)
  have b1 := bt_lt s (k + 1)
  have g1 := bt_get s (k + 1)
  have a1 := and192 (bt s (k + 1)) (by omega)
  go_enter Try.func28, Try.ntmps28
  go_wp2
  go_ret2
  exact ⟨rfl, 0, rfl⟩

set_option maxHeartbeats 2000000 in
set_option maxRecDepth 100000 in
theorem at_none3 (s : ByteArray) (k : Nat) (w : World) (hs : s.size ≤ 120) (hlt : k < s.size) (h0 : bt s k = 226) (h1 : s.size ≤ k + 2) :
    Calls Try.prog 28 #[.string s, .int .i64 k] w fun e w' => e = .returned (.tuple #[.int .i64 0, .int .i64 0]) ∧ ∃ n, w' = w.drewN n := by
  have g0 : ∀ h : k < s.size, (s[k]'h).toNat = 226 := fun h => (bt_get s k h).trans h0
  clear h0
  have wN : wrap64 226 = 226 := by decide +kernel
  have z1 : ¬ (226 : Int) ≤ 223 := by decide
  go_enter Try.func28, Try.ntmps28
  go_wp2
  go_ret2
  exact ⟨rfl, 0, rfl⟩

set_option maxHeartbeats 2000000 in
set_option maxRecDepth 100000 in
theorem at_none4 (s : ByteArray) (k : Nat) (w : World) (hs : s.size ≤ 120) (hlt : k < s.size) (h0 : bt s k = 226) (h1 : k + 2 < s.size) (q1 : ¬ bt s (k + 1) / 64 = 2) :
    Calls Try.prog 28 #[.string s, .int .i64 k] w fun e w' => e = .returned (.tuple #[.int .i64 0, .int .i64 0]) ∧ ∃ n, w' = w.drewN n := by
  have g0 : ∀ h : k < s.size, (s[k]'h).toNat = 226 := fun h => (bt_get s k h).trans h0
  clear h0
  have wN : wrap64 226 = 226 := by decide +kernel
  have z1 : ¬ (226 : Int) ≤ 223 := by decide
  have b1 := bt_lt s (k + 1)
  have g1 := bt_get s (k + 1)
  have a1 : (bits BinOp.and IntKind.u8 (bt s (k + 1)) 192 == 128) = false := (and192 (bt s (k + 1)) (by omega)).trans (by simp [q1])
  clear q1
  go_enter Try.func28, Try.ntmps28
  go_wp2
  go_ret2
  exact ⟨rfl, 0, rfl⟩

set_option maxHeartbeats 2000000 in
set_option maxRecDepth 100000 in
theorem at_none5 (s : ByteArray) (k : Nat) (w : World) (hs : s.size ≤ 120) (hlt : k < s.size) (h0 : bt s k = 226) (h1 : k + 2 < s.size) (q1 : bt s (k + 1) / 64 = 2) (q2 : ¬ bt s (k + 2) / 64 = 2) :
    Calls Try.prog 28 #[.string s, .int .i64 k] w fun e w' => e = .returned (.tuple #[.int .i64 0, .int .i64 0]) ∧ ∃ n, w' = w.drewN n := by
  have g0 : ∀ h : k < s.size, (s[k]'h).toNat = 226 := fun h => (bt_get s k h).trans h0
  clear h0
  have wN : wrap64 226 = 226 := by decide +kernel
  have z1 : ¬ (226 : Int) ≤ 223 := by decide
  have b1 := bt_lt s (k + 1)
  have g1 := bt_get s (k + 1)
  have a1 : (bits BinOp.and IntKind.u8 (bt s (k + 1)) 192 == 128) = true := (and192 (bt s (k + 1)) (by omega)).trans (by simp [q1])
  clear q1
  have b2 := bt_lt s (k + 2)
  have g2 := bt_get s (k + 2)
  have a2 : (bits BinOp.and IntKind.u8 (bt s (k + 2)) 192 == 128) = false := (and192 (bt s (k + 2)) (by omega)).trans (by simp [q2])
  clear q2
  go_enter Try.func28, Try.ntmps28
  go_wp2
  go_ret2
  exact ⟨rfl, 0, rfl⟩

theorem ret2 {a b c d : Int} (h : a = b) (h2 : c = d) : Ending.returned (.tuple #[.int .i64 a, .int .i64 c]) = .returned (.tuple #[.int .i64 b, .int .i64 d]) := by rw [h, h2]
theorem at3_num (x y : Nat) (hx : x < 64) (hy : y < 64) : wrap64 (wrap64 (wrap64 (2 * 4096) + wrap64 ((x : Int) * 64)) + wrap64 (y : Int)) = ((8192 + x * 64 + y : Nat) : Int) := by
  unfold wrap64; omega

set_option maxHeartbeats 2000000 in
set_option maxRecDepth 100000 in
theorem at_three (s : ByteArray) (k : Nat) (w : World) (hs : s.size ≤ 120) (hlt : k < s.size) (h0 : bt s k = 226) (h1 : k + 2 < s.size) (q1 : bt s (k + 1) / 64 = 2) (q2 : bt s (k + 2) / 64 = 2) :
    Calls Try.prog 28 #[.string s, .int .i64 k] w fun e w' => e = .returned (.tuple #[.int .i64 ((8192 + bt s (k + 1) % 64 * 64 + bt s (k + 2) % 64 : Nat) : Int), .int .i64 3]) ∧ ∃ n, w' = w.drewN n := by
  have g0 : ∀ h : k < s.size, (s[k]'h).toNat = 226 := fun h => (bt_get s k h).trans h0
  clear h0
  have wN : wrap64 226 = 226 := by decide +kernel
  have z1 : ¬ (226 : Int) ≤ 223 := by decide
  have b1 := bt_lt s (k + 1)
  have g1 := bt_get s (k + 1)
  have a1 : (bits BinOp.and IntKind.u8 (bt s (k + 1)) 192 == 128) = true := (and192 (bt s (k + 1)) (by omega)).trans (by simp [q1])
  clear q1
  have b2 := bt_lt s (k + 2)
  have g2 := bt_get s (k + 2)
  have a2 : (bits BinOp.and IntKind.u8 (bt s (k + 2)) 192 == 128) = true := (and192 (bt s (k + 2)) (by omega)).trans (by simp [q2])
  clear q2
  have m1 := and63 (bt s (k + 1)) (by omega)
  have m2 := and63 (bt s (k + 2)) (by omega)
  have l1 : bt s (k + 1) % 64 < 64 := by omega
  have l2 : bt s (k + 2) % 64 < 64 := by omega
  generalize bt s (k + 1) % 64 = x at *
  generalize bt s (k + 2) % 64 = y at *
  have m0 : bits BinOp.and IntKind.i64 226 15 = 2 := by decide +kernel
  go_enter Try.func28, Try.ntmps28
  go_wp2
  go_quiet (fail)
  go_wp2
  go_ret2
  refine ⟨ret2 ?_ rfl, nq, rfl⟩
  simp

theorem at_any (s : ByteArray) (k : Nat) (w : World) (hs : s.size ≤ 120) (hk : k ≤ s.size) :
    Calls Try.prog 28 #[.string s, .int .i64 k] w fun e w' => e = .returned (.tuple #[.int .i64 (atP s k).1, .int .i64 (atP s k).2]) ∧ ∃ n, w' = w.drewN n := by
  by_cases hlt : k < s.size
  · by_cases h1 : bt s k < 128
    · rw [show atP s k = (bt s k, 1) by simp [atP, h1] <;> omega]
      exact at_one s k w hs hlt h1
    · by_cases h2 : 194 ≤ bt s k ∧ bt s k ≤ 223
      · by_cases h3 : k + 1 < s.size
        · by_cases h4 : bt s (k + 1) / 64 = 2
          · rw [show atP s k = (bt s k % 32 * 64 + bt s (k + 1) % 64, 2) by simp [atP, h1, h2, h3, h4] <;> omega]
            exact at_two s k w hs hlt h2.1 h2.2 h3 h4
          · rw [show atP s k = (0, 0) by simp [atP, h1, h4] <;> omega]
            exact at_none2 s k w hs hlt h2.1 h2.2 h3 h4
        · rw [show atP s k = (0, 0) by simp [atP, h1, h3] <;> omega]
          exact at_none1 s k w hs hlt h2.1 h2.2 (by omega)
      · by_cases h0 : bt s k = 226
        · by_cases h3 : k + 2 < s.size
          · by_cases h4 : bt s (k + 1) / 64 = 2
            · by_cases h5 : bt s (k + 2) / 64 = 2
              · rw [show atP s k = (8192 + bt s (k + 1) % 64 * 64 + bt s (k + 2) % 64, 3) by simp [atP, h0, h3, h4, h5] <;> omega]
                exact at_three s k w hs hlt h0 h3 h4 h5
              · rw [show atP s k = (0, 0) by simp [atP, h0, h5]]
                exact at_none5 s k w hs hlt h0 h3 h4 h5
            · rw [show atP s k = (0, 0) by simp [atP, h0, h4]]
              exact at_none4 s k w hs hlt h0 h3 h4
          · rw [show atP s k = (0, 0) by simp [atP, h0, h3]]
            exact at_none3 s k w hs hlt h0 (by omega)
        · rw [show atP s k = (0, 0) by unfold atP; repeat (rw [if_neg (by omega)])]
          exact at_none0 s k w hs hlt (by omega) (by omega) h0
  · rw [show atP s k = (0, 0) by simp [atP] <;> omega]
    go_enter Try.func28, Try.ntmps28
    go_wp2
    go_ret2
    exact ⟨rfl, 0, rfl⟩
theorem atP_le (s : ByteArray) (k : Nat) : (atP s k).2 ≤ 3 ∧ (k ≤ s.size → k + (atP s k).2 ≤ s.size) ∧ (atP s k).1 < 20000 := by
  have b0 := bt_lt s k
  unfold atP
  repeat' split
  all_goals simp
  all_goals omega
end Go.Proofs.Ytodabmkcihafhaa

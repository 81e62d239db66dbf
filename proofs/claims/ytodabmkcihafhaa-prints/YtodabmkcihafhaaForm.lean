/- The document's form of a list of nodes: rank, Text, in, form. -/
import Derived.Test.YtodabmkcihafhaaAdd
import Derived.Test.YtodabmkcihafhaaFormP
import Derived.Laws.BytesArg
namespace Go.Proofs.Ytodabmkcihafhaa
open Go.RowKit
set_option linter.unusedVariables false

theorem ret_i {a b : Int} (h : a = b) : Ending.returned (.int .i64 a) = .returned (.int .i64 b) := by rw [h]
def nodeV (n : Nd) : Value := .agg #[.int .i64 n.op, .int .i64 n.a, .int .i64 n.b, .int .i64 n.num, .int .i64 n.den, .string n.text, .int .i64 n.pl]

set_option maxHeartbeats 1000000 in
set_option maxRecDepth 1000000 in
theorem rank_any (n : Nd) (w : World) :
    Calls Try.prog 29 #[nodeV n] w fun e w' => e = .returned (.int .i64 (rankP n.op)) ∧ ∃ o, w' = w.alloc o := by
  unfold nodeV
  go_enter Try.func29, Try.ntmps29
  go_wp2
  all_goals
    go_ret
    refine ⟨ret_i ?_, _, rfl⟩
    unfold rankP
    simp_all

theorem cv1 (w : World) (a : Int) : (convert 41 9 (.slice (some ⟨w.heap.size, 0, none⟩) 1 1)).run Try.prog (w.alloc (.cells #[.int .u8 a] 5)) = .ok (.string (strOfNums [a])) (w.alloc (.cells #[.int .u8 a] 5)) :=
  run_convert_bytes_arg _ _ 5 Try.underlying41 Try.underlying5 w.heap.size 0 1 1 [a] rfl (fun i hi => by
    obtain rfl : i = 0 := by omega
    simp) _ Try.underlying9
theorem cv2 (w : World) (a b : Int) : (convert 41 9 (.slice (some ⟨w.heap.size, 0, none⟩) 2 2)).run Try.prog (w.alloc (.cells #[.int .u8 a, .int .u8 b] 5)) = .ok (.string (strOfNums [a, b])) (w.alloc (.cells #[.int .u8 a, .int .u8 b] 5)) :=
  run_convert_bytes_arg _ _ 5 Try.underlying41 Try.underlying5 w.heap.size 0 2 2 [a, b] rfl (fun i hi => by
    obtain rfl | rfl : i = 0 ∨ i = 1 := by omega
    all_goals simp) _ Try.underlying9
theorem cv3 (w : World) (a b c : Int) : (convert 41 9 (.slice (some ⟨w.heap.size, 0, none⟩) 3 3)).run Try.prog (w.alloc (.cells #[.int .u8 a, .int .u8 b, .int .u8 c] 5)) = .ok (.string (strOfNums [a, b, c])) (w.alloc (.cells #[.int .u8 a, .int .u8 b, .int .u8 c] 5)) :=
  run_convert_bytes_arg _ _ 5 Try.underlying41 Try.underlying5 w.heap.size 0 3 3 [a, b, c] rfl (fun i hi => by
    obtain rfl | rfl | rfl : i = 0 ∨ i = 1 ∨ i = 2 := by omega
    all_goals simp) _ Try.underlying9
theorem ret_s {a b : ByteArray} (h : a = b) : Ending.returned (.string a) = .returned (.string b) := by rw [h]
theorem enc1 (c : Nat) (h : c < 128) : strOfNums [(c : Int)] = Utf8.encode c := by
  have v : Utf8.valid c = true := by simp [Utf8.valid]; omega
  simp [Utf8.encode, v, h, strOfNums]
theorem enc2 (c : Nat) (h : ¬ c < 128) (h2 : c < 2048) : strOfNums [192 + (c : Int) / 64, 128 + (c : Int) % 64] = Utf8.encode c := by
  have v : Utf8.valid c = true := by simp [Utf8.valid]; omega
  have e1 : (192 + (c : Int) / 64).toNat = 192 + c / 64 := by omega
  have e2 : (128 + (c : Int) % 64).toNat = 128 + c % 64 := by omega
  simp [Utf8.encode, v, h, h2, strOfNums, e1, e2]
theorem enc3 (c : Nat) (h : ¬ c < 2048) (h2 : c < 55296) : strOfNums [224 + (c : Int) / 4096, 128 + (c : Int) / 64 % 64, 128 + (c : Int) % 64] = Utf8.encode c := by
  have v : Utf8.valid c = true := by simp [Utf8.valid]; omega
  have e1 : (224 + (c : Int) / 4096).toNat = 224 + c / 4096 := by omega
  have e2 : (128 + (c : Int) / 64 % 64).toNat = 128 + c / 64 % 64 := by omega
  have e3 : (128 + (c : Int) % 64).toNat = 128 + c % 64 := by omega
  simp [Utf8.encode, v, h, show ¬ c < 128 by omega, show c < 65536 by omega, strOfNums, e1, e2, e3]

set_option maxHeartbeats 1000000 in
set_option maxRecDepth 1000000 in
theorem text_any (c : Nat) (w : World) (hc : c < 55296) :
    Calls Try.prog 18 #[.int .i64 c] w fun e w' => e = .returned (.string (Utf8.encode c)) ∧ ∃ o, w' = w.alloc o := by
  by_cases h1 : c < 128
  · have HE : Hid (strOfNums [(c : Int)] = Utf8.encode c) := enc1 c h1
    have k1 := cv1 w c
    go_enter Try.func18, Try.ntmps18
    go_wp2
    go_ret
    exact ⟨ret_s HE.out, _, rfl⟩
  · by_cases h2 : c < 2048
    · have HE : Hid (strOfNums [192 + (c : Int) / 64, 128 + (c : Int) % 64] = Utf8.encode c) := enc2 c h1 h2
      have k1 := cv2 w (192 + (c : Int) / 64) (128 + (c : Int) % 64)
      go_enter Try.func18, Try.ntmps18
      go_wp2
      go_ret
      exact ⟨ret_s HE.out, _, rfl⟩
    · have HE : Hid (strOfNums [224 + (c : Int) / 4096, 128 + (c : Int) / 64 % 64, 128 + (c : Int) % 64] = Utf8.encode c) := enc3 c h2 hc
      have k1 := cv3 w (224 + (c : Int) / 4096) (128 + (c : Int) / 64 % 64) (128 + (c : Int) % 64)
      go_enter Try.func18, Try.ntmps18
      go_wp2
      go_ret
      exact ⟨ret_s HE.out, _, rfl⟩
end Go.Proofs.Ytodabmkcihafhaa

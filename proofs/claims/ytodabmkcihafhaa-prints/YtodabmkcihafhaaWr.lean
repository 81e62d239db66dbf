/- The program's Write: levelOf, write, writeAs. -/
import Derived.Test.YtodabmkcihafhaaShelf
import Derived.Test.YtodabmkcihafhaaDen
import Derived.Test.YtodabmkcihafhaaRows
import Derived.WalkKit
import Derived.WalkSpells
import Derived.WalkLawsBesides
import Derived.Lib.UnsafeStr
namespace Go.Proofs.Ytodabmkcihafhaa
open Go.RowKit
set_option linter.unusedVariables false

/-! ### A builder that holds a text -/
def BSt (B b : Nat) (t : ByteArray) (w : World) : Prop := Lib.IsBuilderF 43 5 B b (Lib.strCells t) w
def WrPost (B b : Nat) (t : ByteArray) (w : World) (e : Ending) (w' : World) : Prop := e = .returned (.tuple #[]) ∧ BSt B b t w' ∧ Below B w w' ∧ Lib.OthersKept 5 (some b) w w'
theorem strCells_append (a b : ByteArray) : Lib.strCells (a ++ b) = Lib.strCells a ++ Lib.strCells b := by
  unfold Lib.strCells
  rw [ByteArray.data_append, Array.toList_append, List.map_append]
theorem rune_cells (c : Nat) (hc : c < 55296) : Lib.runeCells (c : Int) = Lib.strCells (Utf8.encode (c : Int)) := by
  have v : Utf8.valid (c : Int) = true := by simp [Utf8.valid]; omega
  unfold Lib.runeCells
  by_cases h1 : c < 128
  · rw [Lib.encodeRuneZ_one (by omega) (by omega)]
    simp [Utf8.encode, v, h1, Lib.strCells]
    omega
  · by_cases h2 : c < 2048
    · rw [Lib.encodeRuneZ_two (by omega) (by omega)]
      simp [Utf8.encode, v, h1, h2, Lib.strCells]
      omega
    · rw [Lib.encodeRuneZ_three (by omega)]
      simp [Utf8.encode, v, h1, h2, show c < 65536 by omega, Lib.strCells]
      omega

theorem wrune_st (B b c : Nat) (t : ByteArray) (w : World) (hc : c < 55296) (h : BSt B b t w) (hlen : t.size ≤ 100000) (hBw : B ≤ w.heap.size) :
    Calls Try.prog 23 #[.pointer (some ⟨b, 0, none⟩), .int .i32 c] w fun e w' => (∃ v, e = .returned v) ∧ BSt B b (t ++ Utf8.encode (c : Int)) w' ∧ Below B w w' ∧ Lib.OthersKept 5 (some b) w w' := by
  refine (wrune_any B b _ (c : Int) (by omega) (by omega) w h (by rw [Lib.strCells_length]; omega) hBw).mono ?_
  rintro e w' ⟨rfl, h1, h2, h3⟩
  refine ⟨⟨_, rfl⟩, ?_, h2, h3⟩
  unfold BSt
  rw [strCells_append, ← rune_cells c hc]
  exact Or.inr h1
theorem wstring_st (B b : Nat) (t s : ByteArray) (w : World) (h : BSt B b t w) (hlen : t.size + s.size ≤ 100000) (hBw : B ≤ w.heap.size) :
    Calls Try.prog 22 #[.pointer (some ⟨b, 0, none⟩), .string s] w fun e w' => (∃ v, e = .returned v) ∧ BSt B b (t ++ s) w' ∧ Below B w w' ∧ Lib.OthersKept 5 (some b) w w' := by
  refine (wstring_any B b _ s w h (by rw [Lib.strCells_length]; omega) hBw).mono ?_
  rintro e w' ⟨rfl, h1, h2, h3⟩
  refine ⟨⟨_, rfl⟩, ?_, h2, h3⟩
  unfold BSt
  rw [strCells_append]
  exact Or.inr h1
theorem BSt.alloc {B b : Nat} {t : ByteArray} {w : World} (h : BSt B b t w) (o : Obj) : BSt B b t (w.alloc o) := Lib.IsBuilderF.alloc h o
theorem BSt.lt {B b : Nat} {t : ByteArray} {w : World} (h : BSt B b t w) : b < w.heap.size ∧ B ≤ b := by
  rcases h with h | h
  · exact ⟨h.lt, h.1⟩
  · exact ⟨h.lt, h.1⟩

/-! ### The type switches -/
theorem taNumeralNumeral (x : Value) (w : World) : (Instr.typeAssert (.iface 68 x) 30 68 true).run Try.prog w = .ok (.tuple #[x, .bool true]) w := by kernel_rfl
theorem taNumeralUnit (x : Value) (w : World) : (Instr.typeAssert (.iface 68 x) 30 74 true).run Try.prog w = .ok (.tuple #[.agg #[], .bool false]) w := by kernel_rfl
theorem taNumeralName (x : Value) (w : World) : (Instr.typeAssert (.iface 68 x) 30 76 true).run Try.prog w = .ok (.tuple #[.agg #[.int .i32 0, .int .i64 0], .bool false]) w := by kernel_rfl
theorem taNumeralMarked (x : Value) (w : World) : (Instr.typeAssert (.iface 68 x) 30 78 true).run Try.prog w = .ok (.tuple #[.agg #[.nilIface, .int .i32 0, .int .i64 0], .bool false]) w := by kernel_rfl
theorem taNumeralNegated (x : Value) (w : World) : (Instr.typeAssert (.iface 68 x) 30 82 true).run Try.prog w = .ok (.tuple #[.agg #[.nilIface], .bool false]) w := by kernel_rfl
theorem taNumeralProduct (x : Value) (w : World) : (Instr.typeAssert (.iface 68 x) 30 84 true).run Try.prog w = .ok (.tuple #[.agg #[.nilIface, .int .i32 0, .int .i64 0, .nilIface], .bool false]) w := by kernel_rfl
theorem taNumeralSum (x : Value) (w : World) : (Instr.typeAssert (.iface 68 x) 30 85 true).run Try.prog w = .ok (.tuple #[.agg #[.nilIface, .int .i32 0, .int .i64 0, .nilIface], .bool false]) w := by kernel_rfl
theorem taUnitNumeral (x : Value) (w : World) : (Instr.typeAssert (.iface 74 x) 30 68 true).run Try.prog w = .ok (.tuple #[.agg #[.string ⟨#[]⟩], .bool false]) w := by kernel_rfl
theorem taUnitUnit (x : Value) (w : World) : (Instr.typeAssert (.iface 74 x) 30 74 true).run Try.prog w = .ok (.tuple #[x, .bool true]) w := by kernel_rfl
theorem taUnitName (x : Value) (w : World) : (Instr.typeAssert (.iface 74 x) 30 76 true).run Try.prog w = .ok (.tuple #[.agg #[.int .i32 0, .int .i64 0], .bool false]) w := by kernel_rfl
theorem taUnitMarked (x : Value) (w : World) : (Instr.typeAssert (.iface 74 x) 30 78 true).run Try.prog w = .ok (.tuple #[.agg #[.nilIface, .int .i32 0, .int .i64 0], .bool false]) w := by kernel_rfl
theorem taUnitNegated (x : Value) (w : World) : (Instr.typeAssert (.iface 74 x) 30 82 true).run Try.prog w = .ok (.tuple #[.agg #[.nilIface], .bool false]) w := by kernel_rfl
theorem taUnitProduct (x : Value) (w : World) : (Instr.typeAssert (.iface 74 x) 30 84 true).run Try.prog w = .ok (.tuple #[.agg #[.nilIface, .int .i32 0, .int .i64 0, .nilIface], .bool false]) w := by kernel_rfl
theorem taUnitSum (x : Value) (w : World) : (Instr.typeAssert (.iface 74 x) 30 85 true).run Try.prog w = .ok (.tuple #[.agg #[.nilIface, .int .i32 0, .int .i64 0, .nilIface], .bool false]) w := by kernel_rfl
theorem taNameNumeral (x : Value) (w : World) : (Instr.typeAssert (.iface 76 x) 30 68 true).run Try.prog w = .ok (.tuple #[.agg #[.string ⟨#[]⟩], .bool false]) w := by kernel_rfl
theorem taNameUnit (x : Value) (w : World) : (Instr.typeAssert (.iface 76 x) 30 74 true).run Try.prog w = .ok (.tuple #[.agg #[], .bool false]) w := by kernel_rfl
theorem taNameName (x : Value) (w : World) : (Instr.typeAssert (.iface 76 x) 30 76 true).run Try.prog w = .ok (.tuple #[x, .bool true]) w := by kernel_rfl
theorem taNameMarked (x : Value) (w : World) : (Instr.typeAssert (.iface 76 x) 30 78 true).run Try.prog w = .ok (.tuple #[.agg #[.nilIface, .int .i32 0, .int .i64 0], .bool false]) w := by kernel_rfl
theorem taNameNegated (x : Value) (w : World) : (Instr.typeAssert (.iface 76 x) 30 82 true).run Try.prog w = .ok (.tuple #[.agg #[.nilIface], .bool false]) w := by kernel_rfl
theorem taNameProduct (x : Value) (w : World) : (Instr.typeAssert (.iface 76 x) 30 84 true).run Try.prog w = .ok (.tuple #[.agg #[.nilIface, .int .i32 0, .int .i64 0, .nilIface], .bool false]) w := by kernel_rfl
theorem taNameSum (x : Value) (w : World) : (Instr.typeAssert (.iface 76 x) 30 85 true).run Try.prog w = .ok (.tuple #[.agg #[.nilIface, .int .i32 0, .int .i64 0, .nilIface], .bool false]) w := by kernel_rfl
theorem taMarkedNumeral (x : Value) (w : World) : (Instr.typeAssert (.iface 78 x) 30 68 true).run Try.prog w = .ok (.tuple #[.agg #[.string ⟨#[]⟩], .bool false]) w := by kernel_rfl
theorem taMarkedUnit (x : Value) (w : World) : (Instr.typeAssert (.iface 78 x) 30 74 true).run Try.prog w = .ok (.tuple #[.agg #[], .bool false]) w := by kernel_rfl
theorem taMarkedName (x : Value) (w : World) : (Instr.typeAssert (.iface 78 x) 30 76 true).run Try.prog w = .ok (.tuple #[.agg #[.int .i32 0, .int .i64 0], .bool false]) w := by kernel_rfl
theorem taMarkedMarked (x : Value) (w : World) : (Instr.typeAssert (.iface 78 x) 30 78 true).run Try.prog w = .ok (.tuple #[x, .bool true]) w := by kernel_rfl
theorem taMarkedNegated (x : Value) (w : World) : (Instr.typeAssert (.iface 78 x) 30 82 true).run Try.prog w = .ok (.tuple #[.agg #[.nilIface], .bool false]) w := by kernel_rfl
theorem taMarkedProduct (x : Value) (w : World) : (Instr.typeAssert (.iface 78 x) 30 84 true).run Try.prog w = .ok (.tuple #[.agg #[.nilIface, .int .i32 0, .int .i64 0, .nilIface], .bool false]) w := by kernel_rfl
theorem taMarkedSum (x : Value) (w : World) : (Instr.typeAssert (.iface 78 x) 30 85 true).run Try.prog w = .ok (.tuple #[.agg #[.nilIface, .int .i32 0, .int .i64 0, .nilIface], .bool false]) w := by kernel_rfl
theorem taNegatedNumeral (x : Value) (w : World) : (Instr.typeAssert (.iface 82 x) 30 68 true).run Try.prog w = .ok (.tuple #[.agg #[.string ⟨#[]⟩], .bool false]) w := by kernel_rfl
theorem taNegatedUnit (x : Value) (w : World) : (Instr.typeAssert (.iface 82 x) 30 74 true).run Try.prog w = .ok (.tuple #[.agg #[], .bool false]) w := by kernel_rfl
theorem taNegatedName (x : Value) (w : World) : (Instr.typeAssert (.iface 82 x) 30 76 true).run Try.prog w = .ok (.tuple #[.agg #[.int .i32 0, .int .i64 0], .bool false]) w := by kernel_rfl
theorem taNegatedMarked (x : Value) (w : World) : (Instr.typeAssert (.iface 82 x) 30 78 true).run Try.prog w = .ok (.tuple #[.agg #[.nilIface, .int .i32 0, .int .i64 0], .bool false]) w := by kernel_rfl
theorem taNegatedNegated (x : Value) (w : World) : (Instr.typeAssert (.iface 82 x) 30 82 true).run Try.prog w = .ok (.tuple #[x, .bool true]) w := by kernel_rfl
theorem taNegatedProduct (x : Value) (w : World) : (Instr.typeAssert (.iface 82 x) 30 84 true).run Try.prog w = .ok (.tuple #[.agg #[.nilIface, .int .i32 0, .int .i64 0, .nilIface], .bool false]) w := by kernel_rfl
theorem taNegatedSum (x : Value) (w : World) : (Instr.typeAssert (.iface 82 x) 30 85 true).run Try.prog w = .ok (.tuple #[.agg #[.nilIface, .int .i32 0, .int .i64 0, .nilIface], .bool false]) w := by kernel_rfl
theorem taProductNumeral (x : Value) (w : World) : (Instr.typeAssert (.iface 84 x) 30 68 true).run Try.prog w = .ok (.tuple #[.agg #[.string ⟨#[]⟩], .bool false]) w := by kernel_rfl
theorem taProductUnit (x : Value) (w : World) : (Instr.typeAssert (.iface 84 x) 30 74 true).run Try.prog w = .ok (.tuple #[.agg #[], .bool false]) w := by kernel_rfl
theorem taProductName (x : Value) (w : World) : (Instr.typeAssert (.iface 84 x) 30 76 true).run Try.prog w = .ok (.tuple #[.agg #[.int .i32 0, .int .i64 0], .bool false]) w := by kernel_rfl
theorem taProductMarked (x : Value) (w : World) : (Instr.typeAssert (.iface 84 x) 30 78 true).run Try.prog w = .ok (.tuple #[.agg #[.nilIface, .int .i32 0, .int .i64 0], .bool false]) w := by kernel_rfl
theorem taProductNegated (x : Value) (w : World) : (Instr.typeAssert (.iface 84 x) 30 82 true).run Try.prog w = .ok (.tuple #[.agg #[.nilIface], .bool false]) w := by kernel_rfl
theorem taProductProduct (x : Value) (w : World) : (Instr.typeAssert (.iface 84 x) 30 84 true).run Try.prog w = .ok (.tuple #[x, .bool true]) w := by kernel_rfl
theorem taProductSum (x : Value) (w : World) : (Instr.typeAssert (.iface 84 x) 30 85 true).run Try.prog w = .ok (.tuple #[.agg #[.nilIface, .int .i32 0, .int .i64 0, .nilIface], .bool false]) w := by kernel_rfl
theorem taSumNumeral (x : Value) (w : World) : (Instr.typeAssert (.iface 85 x) 30 68 true).run Try.prog w = .ok (.tuple #[.agg #[.string ⟨#[]⟩], .bool false]) w := by kernel_rfl
theorem taSumUnit (x : Value) (w : World) : (Instr.typeAssert (.iface 85 x) 30 74 true).run Try.prog w = .ok (.tuple #[.agg #[], .bool false]) w := by kernel_rfl
theorem taSumName (x : Value) (w : World) : (Instr.typeAssert (.iface 85 x) 30 76 true).run Try.prog w = .ok (.tuple #[.agg #[.int .i32 0, .int .i64 0], .bool false]) w := by kernel_rfl
theorem taSumMarked (x : Value) (w : World) : (Instr.typeAssert (.iface 85 x) 30 78 true).run Try.prog w = .ok (.tuple #[.agg #[.nilIface, .int .i32 0, .int .i64 0], .bool false]) w := by kernel_rfl
theorem taSumNegated (x : Value) (w : World) : (Instr.typeAssert (.iface 85 x) 30 82 true).run Try.prog w = .ok (.tuple #[.agg #[.nilIface], .bool false]) w := by kernel_rfl
theorem taSumProduct (x : Value) (w : World) : (Instr.typeAssert (.iface 85 x) 30 84 true).run Try.prog w = .ok (.tuple #[.agg #[.nilIface, .int .i32 0, .int .i64 0, .nilIface], .bool false]) w := by kernel_rfl
theorem taSumSum (x : Value) (w : World) : (Instr.typeAssert (.iface 85 x) 30 85 true).run Try.prog w = .ok (.tuple #[x, .bool true]) w := by kernel_rfl

/-! ### levelOf -/
set_option maxHeartbeats 1000000 in
set_option maxRecDepth 1000000 in
theorem levelNumeral (x : Value) (w : World) : Calls Try.prog 35 #[.iface 68 x] w fun e w' => e = .returned (.int .i64 3) ∧ w' = w := by
  have qSum := taNumeralSum x
  have qProduct := taNumeralProduct x
  have qNegated := taNumeralNegated x
  go_enter Try.func35, Try.ntmps35
  go_wp2_with fail
  go_ret
  exact ⟨rfl, rfl⟩
set_option maxHeartbeats 1000000 in
set_option maxRecDepth 1000000 in
theorem levelUnit (x : Value) (w : World) : Calls Try.prog 35 #[.iface 74 x] w fun e w' => e = .returned (.int .i64 3) ∧ w' = w := by
  have qSum := taUnitSum x
  have qProduct := taUnitProduct x
  have qNegated := taUnitNegated x
  go_enter Try.func35, Try.ntmps35
  go_wp2_with fail
  go_ret
  exact ⟨rfl, rfl⟩
set_option maxHeartbeats 1000000 in
set_option maxRecDepth 1000000 in
theorem levelName (x : Value) (w : World) : Calls Try.prog 35 #[.iface 76 x] w fun e w' => e = .returned (.int .i64 3) ∧ w' = w := by
  have qSum := taNameSum x
  have qProduct := taNameProduct x
  have qNegated := taNameNegated x
  go_enter Try.func35, Try.ntmps35
  go_wp2_with fail
  go_ret
  exact ⟨rfl, rfl⟩
set_option maxHeartbeats 1000000 in
set_option maxRecDepth 1000000 in
theorem levelMarked (x : Value) (w : World) : Calls Try.prog 35 #[.iface 78 x] w fun e w' => e = .returned (.int .i64 3) ∧ w' = w := by
  have qSum := taMarkedSum x
  have qProduct := taMarkedProduct x
  have qNegated := taMarkedNegated x
  go_enter Try.func35, Try.ntmps35
  go_wp2_with fail
  go_ret
  exact ⟨rfl, rfl⟩
set_option maxHeartbeats 1000000 in
set_option maxRecDepth 1000000 in
theorem levelNegated (x : Value) (w : World) : Calls Try.prog 35 #[.iface 82 x] w fun e w' => e = .returned (.int .i64 2) ∧ w' = w := by
  have qSum := taNegatedSum x
  have qProduct := taNegatedProduct x
  have qNegated := taNegatedNegated x
  go_enter Try.func35, Try.ntmps35
  go_wp2_with fail
  go_ret
  exact ⟨rfl, rfl⟩
set_option maxHeartbeats 1000000 in
set_option maxRecDepth 1000000 in
theorem levelProduct (x : Value) (w : World) : Calls Try.prog 35 #[.iface 84 x] w fun e w' => e = .returned (.int .i64 1) ∧ w' = w := by
  have qSum := taProductSum x
  have qProduct := taProductProduct x
  go_enter Try.func35, Try.ntmps35
  go_wp2_with fail
  go_ret
  exact ⟨rfl, rfl⟩
set_option maxHeartbeats 1000000 in
set_option maxRecDepth 1000000 in
theorem levelSum (x : Value) (w : World) : Calls Try.prog 35 #[.iface 85 x] w fun e w' => e = .returned (.int .i64 0) ∧ w' = w := by
  have qSum := taSumSum x
  go_enter Try.func35, Try.ntmps35
  go_wp2_with fail
  go_ret
  exact ⟨rfl, rfl⟩
theorem levelOf_any (n : Nd) (a b : Value) (w : World) : Calls Try.prog 35 #[nodeD n a b] w fun e w' => e = .returned (.int .i64 (rankP n.op)) ∧ w' = w := by
  unfold nodeD rankP
  by_cases c1 : n.op = 43 ∨ n.op = 8722
  · rw [if_pos c1, if_pos c1]; exact levelSum _ w
  · rw [if_neg c1, if_neg c1]
    by_cases c2 : n.op = 215 ∨ n.op = 247
    · rw [if_pos c2, if_pos c2]; exact levelProduct _ w
    · rw [if_neg c2, if_neg c2]
      by_cases c3 : n.op = 110
      · rw [if_pos c3, if_pos c3]; exact levelNegated _ w
      · rw [if_neg c3, if_neg c3]
        by_cases c4 : n.op = 178 ∨ n.op = 8242
        · rw [if_pos c4]; exact levelMarked _ w
        · rw [if_neg c4]
          by_cases c5 : n.op = 48
          · rw [if_pos c5]; exact levelNumeral _ w
          · rw [if_neg c5]
            by_cases c6 : n.op = 105
            · rw [if_pos c6]; exact levelUnit _ w
            · rw [if_neg c6]; exact levelName _ w
end Go.Proofs.Ytodabmkcihafhaa

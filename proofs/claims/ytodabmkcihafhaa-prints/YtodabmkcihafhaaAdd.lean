/- The document's reader: add. -/
import Derived.Test.YtodabmkcihafhaaSign
import Derived.Deep.AppendLies
import Derived.Deep.RegionLaw
namespace Go.Proofs.Ytodabmkcihafhaa
open Go.RowKit
set_option linter.unusedVariables false

theorem nd_agg (n : Nd) : ndCells [n] = [.int .i64 n.op, .int .i64 n.a, .int .i64 n.b, .int .i64 n.num, .int .i64 n.den, .string n.text, .int .i64 n.pl] := rfl

theorem Try.infoNode : (Try.prog.info? 52).map (fun i => (i.zero, i.size, i.bytes)) = some (some (.agg #[.int .i64 0, .int .i64 0, .int .i64 0, .int .i64 0, .int .i64 0, .string ByteArray.empty, .int .i64 0]), 7, 64) := by kernel_rfl

def ndArr (n : Nd) : Array Value := #[.int .i64 n.op, .int .i64 n.a, .int .i64 n.b, .int .i64 n.num, .int .i64 n.den, .string n.text, .int .i64 n.pl]
theorem nd_one (n : Nd) : ∀ u ∈ n.cells, u.oneCell' = true := by
  intro u hu
  simp [Nd.cells] at hu
  rcases hu with rfl | rfl | rfl | rfl | rfl | rfl | rfl <;> rfl
theorem nd_new (w : World) (n : Nd) (o : Obj) : ∀ j u, n.cells[j]? = some u → (((w.alloc o).alloc (.cells #[.int .i64 n.op, .int .i64 n.a, .int .i64 n.b, .int .i64 n.num, .int .i64 n.den, .string n.text, .int .i64 n.pl] 52)).drew).cell? ((⟨w.heap.size + 1, 0, none⟩ : Addr).add j) = some u := by
  refine World.news_of_block (cs := #[.int .i64 n.op, .int .i64 n.a, .int .i64 n.b, .int .i64 n.num, .int .i64 n.den, .string n.text, .int .i64 n.pl]) (t := 52) (fr := (0, 0)) ?_
  have := heap_alloc_new (w.alloc o) (.cells #[.int .i64 n.op, .int .i64 n.a, .int .i64 n.b, .int .i64 n.num, .int .i64 n.den, .string n.text, .int .i64 n.pl] 52)
  rw [show (w.alloc o).heap.size = w.heap.size + 1 by simp] at this
  exact this
theorem ndCells_snoc (L : List Nd) (n : Nd) : ndCells L ++ n.cells = ndCells (L ++ [n]) := by simp [ndCells]

set_option maxHeartbeats 1000000 in
theorem add_any (s : ByteArray) (b i : Nat) (L : List Nd) (bad : Int) (n : Nd) (w : World) (hL : L.length ≤ 1000) (h : RdSt s b i L bad w) :
    Calls Try.prog 27 #[.pointer (some ⟨b, 0, none⟩), .agg #[.int .i64 n.op, .int .i64 n.a, .int .i64 n.b, .int .i64 n.num, .int .i64 n.den, .string n.text, .int .i64 n.pl]] w
      fun e w' => e = .returned (.int .i64 L.length) ∧ RdSt s b i (L ++ [n]) bad w' ∧ Below b w w' := by
  obtain ⟨v, hb, ho⟩ := h
  obtain ⟨c0, c1, c2, c3, f1, f2, f3⟩ := rd_cells hb
  have hlt : b < w.heap.size := (Array.getElem?_eq_some_iff.1 hb).1
  have Hb : Hid (w.heap[b]? = some (.cells #[.string s, .int .i64 i, v, .int .i64 bad] 48 (0, 0))) := hb
  have Ho : Hid (w.ownsRow (b + 1) 52 7 v L.length (ndCells L)) := ho
  clear hb ho
  go_enter Try.func27, Try.ntmps27
  go_wp2_with fail
  obtain ⟨i0, hi, hz0, hz1, hz2⟩ := info_parts Try.infoNode
  have Hi : Hid (Try.prog.info? 52 = some i0) := hi
  have Hz : Hid (i0.zero = some (.agg #[.int .i64 0, .int .i64 0, .int .i64 0, .int .i64 0, .int .i64 0, .string ByteArray.empty, .int .i64 0])) := hz0
  have Hz1 : Hid (i0.size = 7) := hz1
  have Hz2 : Hid (i0.bytes = 64) := hz2
  clear hi hz0 hz1 hz2
  go_region_law (
    refine step_append_lies _ rfl (.tmp 9) (.tmp 11) 34 rfl (b + 1) 52 i0 _ 7 64 Try.underlying34 Hi.out Hz.out Hz1.out Hz2.out rfl (by decide) v L.length (ndCells L) rfl ((Ho.out.alloc _).alloc _) ⟨w.heap.size + 1, 0, none⟩ 1 1 n.cells rfl rfl (nd_new w n _) (nd_one n) (by decide) (by unfold maxLen; omega) (by omega) (by simp; omega) (w.heap.size + 2) (by simp) ?_
    intro g cap w1 hown hgrow hat hlt1
    have hwb : w1.heap[b]? = w.heap[b]? := by
      rw [hgrow.block b (by simp; omega) (fun e => by have := (Ho.out.lt b e.symm).1; omega)]
      show ((w.alloc _).alloc _).heap[b]? = _
      rw [Below.heap_alloc _ _ _ (by simp; omega), Below.heap_alloc _ _ _ hlt]
    obtain ⟨d0, d1, d2, d3, k1, k2, k3⟩ := rd_cells (hwb.trans Hb.out)
    have X : Hid (w1.ownsRow (b + 1) 52 7 (.slice (some ⟨g, 0, none⟩) (L.length + 1) cap) (L.length + 1) (ndCells L ++ n.cells) ∧ w1.heap[b]? = some (.cells #[.string s, .int .i64 i, v, .int .i64 bad] 48 (0, 0)) ∧ Below b w w1) := by
      refine ⟨hown, hwb.trans Hb.out, ?_⟩
      exact ((((Below.refl b w).alloc (by omega) _).alloc (by simp; omega) _).drew).grown hgrow (by simp; omega) (fun k hk => by have := (Ho.out.lt k hk).1; omega)
    clear hown hgrow hat hwb)
  all_goals
    go_wp2
    go_ret
    obtain ⟨x1, x2, x3⟩ := X.out
    refine ⟨rfl, ⟨.slice (some ⟨g, 0, none⟩) (L.length + 1) cap, by simp [World.setCell, Array.getElem?_modify, x2], ?_⟩, x3.setCell (p := ⟨b, 2, none⟩) (Nat.le_refl b) _⟩
    rw [ndCells_snoc] at x1
    rw [show (L ++ [n]).length = L.length + 1 by simp]
    exact own_setCell x1 _ _
end Go.Proofs.Ytodabmkcihafhaa

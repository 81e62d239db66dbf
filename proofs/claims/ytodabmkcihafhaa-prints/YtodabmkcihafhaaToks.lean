/- The program's piecesOf: the signs of a text. -/
import Derived.Test.YtodabmkcihafhaaSign
import Derived.Test.YtodabmkcihafhaaPos
import Derived.Deep.AppendLies
import Derived.Lib.OthersKept
import Derived.WalkSmall
namespace Go.Proofs.Ytodabmkcihafhaa
open Go.RowKit
set_option linter.unusedVariables false

def Tok.cells (t : Tok) : List Value := [.int .i32 t.c, .int .i64 t.p, .bool t.a]
def tkCells (ts : List Tok) : List Value := ts.flatMap Tok.cells
theorem tkCells_snoc (L : List Tok) (n : Tok) : tkCells L ++ n.cells = tkCells (L ++ [n]) := by simp [tkCells]
theorem Try.infoSign : (Try.prog.info? 66).map (fun i => (i.zero, i.size, i.bytes)) = some (some (.agg #[.int .i32 0, .int .i64 0, .bool false]), 3, 24) := by kernel_rfl
theorem tk_one (n : Tok) : ∀ u ∈ n.cells, u.oneCell' = true := by
  intro u hu
  simp [Tok.cells] at hu
  rcases hu with rfl | rfl | rfl <;> rfl
theorem tk_new (w : World) (n : Tok) : ∀ j u, n.cells[j]? = some u → (w.alloc (.cells #[.int .i32 n.c, .int .i64 n.p, .bool n.a] 66)).cell? ((⟨w.heap.size, 0, none⟩ : Addr).add j) = some u := by
  refine World.news_of_block (cs := #[.int .i32 n.c, .int .i64 n.p, .bool n.a]) (t := 66) (fr := (0, 0)) ?_
  exact heap_alloc_new w _

set_option maxHeartbeats 2000000 in
set_option maxRecDepth 1000000 in
theorem piecesOf_any (s : ByteArray) (w : World) (hs : s.size ≤ 120) :
    Calls Try.prog 19 #[.string s] w fun e w' => ∃ v, e = .returned v ∧ w'.ownsRow (w.heap.size + 1) 66 3 v (toks s 0 false).length (tkCells (toks s 0 false)) ∧ Below w.heap.size w w' := by
  obtain ⟨i0, hi, hz0, hz1, hz2⟩ := info_parts Try.infoSign
  have Hi : Hid (Try.prog.info? 66 = some i0) := hi
  have Hz : Hid (i0.zero = some (.agg #[.int .i32 0, .int .i64 0, .bool false])) := hz0
  have Hz1 : Hid (i0.size = 3) := hz1
  have Hz2 : Hid (i0.bytes = 24) := hz2
  clear hi hz0 hz1 hz2
  have hl : (toks s 0 false).length ≤ 121 := by
    have := toks_length s (s.size - 0) 0 false
    unfold toks; omega
  go_enter Try.func19, Try.ntmps19
  go_wp2_with fail
  go_loopw [3, 4] (fun s3 s4 wr => ∃ (pos : Nat) (acc : List Tok) (ap : Bool), wr.ownsRow (w.heap.size + 1) 66 3 s3 acc.length (tkCells acc) ∧ s4 = .bool ap ∧ wr.heap[w.heap.size]? = some (.stringIter s pos) ∧ Below w.heap.size w wr ∧ Hid (acc ++ toks s pos ap = toks s 0 false)) (fun _ _ wr => s.size - wr.iterPos w.heap.size)
  case atStart =>
    refine ⟨0, [], false, World.ownsRow_nil _ _ _ _, rfl, ?_, ?_, rfl⟩
    · exact World.iter_heap w s 0
    · exact (Below.refl _ w).alloc (Nat.le_refl _) _
  case round =>
    obtain ⟨pos, acc, ap, hown, rfl, hit, hbw, HD⟩ := hrel
    have hsz : w.heap.size < wr.heap.size := (Array.getElem?_eq_some_iff.1 hit).1
    have hlen : acc.length ≤ 121 := by
      have := congrArg List.length HD.out
      simp at this; omega
    by_cases hp : pos < s.size
    · have hnx : ∀ ty, (Instr.next (.pointer (some ⟨w.heap.size, 0, none⟩)) true ty).run Try.prog wr = _ := fun ty => Lib.run_next_any_at wr w.heap.size s pos ty hit hp
      have hwd := dec_pos s pos hp
      have hd1 := decode_le s pos
      have hit2 := Lib.iterAt_heap wr w.heap.size s pos (pos + (Utf8.decode s pos).2) hit
      have hbw2 := Lib.below_iterAt hbw (k := w.heap.size) (by omega) s (pos + (Utf8.decode s pos).2)
      have hstep := toks_step s pos ap hp
      have hown2 := ownsRow_iterAt hown (Nat.lt_succ_self _) s (pos + (Utf8.decode s pos).2)
      have hsz2 : w.heap.size < (wr.iterAt w.heap.size s (pos + (Utf8.decode s pos).2)).heap.size := by rw [Lib.iterAt_size]; omega
      have HS : Hid (toks s pos ap = if (Utf8.decode s pos).1 = 32 then toks s (pos + (Utf8.decode s pos).2) true else ⟨(Utf8.decode s pos).1, pos, ap⟩ :: toks s (pos + (Utf8.decode s pos).2) false) := hstep
      have HI0 : Hid (wr.heap[w.heap.size]? = some (.stringIter s pos)) := hit
      clear hstep hit hown hbw
      generalize wr.iterAt w.heap.size s (pos + (Utf8.decode s pos).2) = W1 at *
      have HI2 : Hid (W1.heap[w.heap.size]? = some (.stringIter s (pos + (Utf8.decode s pos).2))) := hit2
      clear hit2
      by_cases h32 : (Utf8.decode s pos).1 = 32
      · have b32 : (((Utf8.decode s pos).1 : Int) == 32) = true := by simp; omega
        have H32 : Hid ((Utf8.decode s pos).1 = 32) := h32
        clear h32
        go_wp2_with fail
        refine ⟨⟨pos + (Utf8.decode s pos).2, acc, true, hown2, rfl, HI2.out, hbw2, ?_⟩, ?_⟩
        · have := HD.out
          rw [HS.out, if_pos H32.out] at this
          exact this
        · simp only [World.iterPos, HI2.out, HI0.out]
          omega
      · have b32 : (((Utf8.decode s pos).1 : Int) == 32) = false := by simp; omega
        have H32 : Hid (¬ (Utf8.decode s pos).1 = 32) := h32
        clear h32
        go_wp2_with (at_builtin; refine wpList_append_own _ rfl _ _ 56 rfl (w.heap.size + 1) 66 i0 _ 3 24 Try.underlying56 Hi.out Hz.out Hz1.out Hz2.out rfl (by decide) _ _ _ rfl (hown2.alloc _) ⟨W1.heap.size, 0, none⟩ 1 1 (Tok.cells ⟨(Utf8.decode s pos).1, pos, ap⟩) rfl rfl (tk_new W1 ⟨(Utf8.decode s pos).1, pos, ap⟩) (tk_one _) (by unfold maxLen; omega) (by omega) (by simp; omega) ?_; intro v' w3 hown' hgrow3 hnil3)
        have hit3 : w3.heap[w.heap.size]? = some (.stringIter s (pos + (Utf8.decode s pos).2)) := by
          rw [hgrow3.block w.heap.size (by simp; omega) (fun h => by have := (hown2.lt _ h.symm).1; omega), Below.heap_alloc _ _ _ hsz2]; exact HI2.out
        have hbw3 : Below w.heap.size w w3 := Below.grown (hbw2.alloc (by omega) _) hgrow3 (by simp; omega) (fun j hj => by have := (hown2.lt _ hj).1; omega)
        have F1 : acc ++ [⟨(Utf8.decode s pos).1, pos, ap⟩] ++ toks s (pos + (Utf8.decode s pos).2) false = toks s 0 false := by
          have := HD.out
          rw [HS.out, if_neg H32.out] at this
          rw [← this]; simp
        have F2 : w3.ownsRow (w.heap.size + 1) 66 3 v' (acc ++ [(⟨(Utf8.decode s pos).1, pos, ap⟩ : Tok)]).length (tkCells (acc ++ [(⟨(Utf8.decode s pos).1, pos, ap⟩ : Tok)])) := by
          rw [← tkCells_snoc]
          simpa using hown'
        have F3 : s.size - w3.iterPos w.heap.size < s.size - wr.iterPos w.heap.size := by
          simp only [World.iterPos, hit3, HI0.out]
          omega
        have G1 : Hid (acc ++ [⟨(Utf8.decode s pos).1, pos, ap⟩] ++ toks s (pos + (Utf8.decode s pos).2) false = toks s 0 false) := F1
        have G3 : Hid (s.size - w3.iterPos w.heap.size < s.size - wr.iterPos w.heap.size) := F3
        have G4 : Hid (w3.heap[w.heap.size]? = some (.stringIter s (pos + (Utf8.decode s pos).2))) := hit3
        clear F1 F3 hit3 hgrow3 hnil3 hown'
        go_wp2_with fail
        exact ⟨⟨_, _, false, F2, rfl, G4.out, hbw3, G1.out⟩, G3.out⟩
    · have hnx : ∀ ty, (Instr.next (.pointer (some ⟨w.heap.size, 0, none⟩)) true ty).run Try.prog wr = _ := fun ty => Lib.run_next_end_at wr w.heap.size s pos ty hit hp
      have hend := toks_end s pos ap (by omega)
      have HE : Hid (toks s pos ap = [⟨-1, s.size, ap⟩]) := hend
      clear hend hit
      go_wp2_with (at_builtin; refine wpList_append_own _ rfl _ _ 56 rfl (w.heap.size + 1) 66 i0 _ 3 24 Try.underlying56 Hi.out Hz.out Hz1.out Hz2.out rfl (by decide) _ _ _ rfl (hown.alloc _) ⟨wr.heap.size, 0, none⟩ 1 1 (Tok.cells ⟨-1, s.size, ap⟩) rfl rfl (tk_new wr ⟨-1, s.size, ap⟩) (tk_one _) (by unfold maxLen; omega) (by omega) (by simp; omega) ?_; intro v' w3 hown' hgrow3 hnil3)
      go_ret
      refine ⟨v', rfl, ?_, ?_⟩
      · have := HD.out
        rw [HE.out] at this
        rw [← this, ← tkCells_snoc]
        simpa using hown'
      · exact Below.grown (hbw.alloc (by omega) _) hgrow3 (by simp; omega) (fun j hj => by have := (hown.lt _ hj).1; omega)
end Go.Proofs.Ytodabmkcihafhaa

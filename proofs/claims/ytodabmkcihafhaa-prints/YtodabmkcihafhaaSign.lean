/- The document's reader: its state in memory; sign, skip, fail, add. -/
import Derived.Test.YtodabmkcihafhaaAt
import Derived.Deep.QuietTactic
import Derived.BigQuiet
import Derived.Deep.RegionLaw
namespace Go.Proofs.Ytodabmkcihafhaa
open Go.RowKit
set_option linter.unusedVariables false

def Nd.cells (n : Nd) : List Value := [.int .i64 n.op, .int .i64 n.a, .int .i64 n.b, .int .i64 n.num, .int .i64 n.den, .string n.text, .int .i64 n.pl]
def ndCells (L : List Nd) : List Value := L.flatMap Nd.cells

/-- The reader, in block b: its text, its place, its nodes (a row of its own, behind b), its fault. -/
def RdSt (s : ByteArray) (b i : Nat) (L : List Nd) (bad : Int) (w : World) : Prop :=
  ∃ v, w.heap[b]? = some (.cells #[.string s, .int .i64 i, v, .int .i64 bad] 48 (0, 0)) ∧ w.ownsRow (b + 1) 52 7 v L.length (ndCells L)

theorem rd_cells {s : ByteArray} {b i : Nat} {v : Value} {bad : Int} {w : World} (h : w.heap[b]? = some (.cells #[.string s, .int .i64 i, v, .int .i64 bad] 48 (0, 0))) :
    w.cell? ⟨b, 0, none⟩ = some (.string s) ∧ w.cell? ⟨b, 1, none⟩ = some (.int .i64 i) ∧ w.cell? ⟨b, 2, none⟩ = some v ∧ w.cell? ⟨b, 3, none⟩ = some (.int .i64 bad) ∧
    w.frozen? ⟨b, 1, none⟩ = false ∧ w.frozen? ⟨b, 2, none⟩ = false ∧ w.frozen? ⟨b, 3, none⟩ = false := by
  simp [World.cell?, World.frozen?, h]
theorem RdSt.lt {s : ByteArray} {b i : Nat} {L : List Nd} {bad : Int} {w : World} (h : RdSt s b i L bad w) : b < w.heap.size := by
  obtain ⟨v, hb, _⟩ := h
  exact (Array.getElem?_eq_some_iff.1 hb).1
theorem RdSt.drewN {s : ByteArray} {b i : Nat} {L : List Nd} {bad : Int} {w : World} (h : RdSt s b i L bad w) (n : Nat) : RdSt s b i L bad (w.drewN n) := h
theorem own_setCell {w : World} {b : Nat} {e : TypeId} {n : Nat} {size : Nat} {v : Value} {xs : List Value} (o : w.ownsRow (b + 1) e size v n xs) (j : Nat) (u : Value) : (w.setCell ⟨b, j, none⟩ u).ownsRow (b + 1) e size v n xs :=
  ownsRow_setCell_below o (by simp) _
theorem RdSt.setI {s : ByteArray} {b i : Nat} {L : List Nd} {bad : Int} {w : World} (h : RdSt s b i L bad w) (i' : Nat) : RdSt s b i' L bad (w.setCell ⟨b, 1, none⟩ (.int .i64 i')) := by
  obtain ⟨v, hb, o⟩ := h
  exact ⟨v, by simp [World.setCell, Array.getElem?_modify, hb], own_setCell o _ _⟩
theorem RdSt.setBad {s : ByteArray} {b i : Nat} {L : List Nd} {bad : Int} {w : World} (h : RdSt s b i L bad w) (bad' : Int) : RdSt s b i L bad' (w.setCell ⟨b, 3, none⟩ (.int .i64 bad')) := by
  obtain ⟨v, hb, o⟩ := h
  exact ⟨v, by simp [World.setCell, Array.getElem?_modify, hb], own_setCell o _ _⟩

theorem below_drewN {B : Nat} {a w : World} (h : Below B a w) : ∀ n, Below B a (w.drewN n) := by
  intro n
  induction n with
  | zero => exact h
  | succ n ih => exact ih.drew

/-! ### What only one block has turned -/
theorem gb_refl (w : World) (r : Option Nat) : w.grownBy w r := ⟨rfl, rfl, rfl, Nat.le_refl _, fun _ _ _ => rfl⟩
theorem gb_trans {a b c : World} {r : Option Nat} (h : a.grownBy b r) (k : b.grownBy c r) : a.grownBy c r :=
  ⟨k.os.trans h.os, k.tape.trans h.tape, k.output.trans h.output, Nat.le_trans h.size k.size, fun i hi hn => (k.block i (Nat.lt_of_lt_of_le hi h.size) hn).trans (h.block i hi hn)⟩
theorem gb_alloc {a w : World} {r : Option Nat} (h : a.grownBy w r) (o : Obj) : a.grownBy (w.alloc o) r := gb_trans h (World.grownBy_alloc w o r)
theorem gb_set {a w : World} {b : Nat} (h : a.grownBy w (some b)) (i : Nat) (v : Value) : a.grownBy (w.setCell ⟨b, i, none⟩ v) (some b) :=
  ⟨h.os, h.tape, h.output, by simpa using h.size, fun j hj hn => by rw [Below.heap_setCell _ _ _ _ (fun e => hn (by rw [e]))]; exact h.block j hj hn⟩
/-- A cell of a block that is new. -/
theorem gb_new {a w : World} {r : Option Nat} (h : a.grownBy w r) {b : Nat} (hb : a.heap.size ≤ b) (i : Nat) (v : Value) : a.grownBy (w.setCell ⟨b, i, none⟩ v) r :=
  ⟨h.os, h.tape, h.output, by simpa using h.size, fun j hj hn => by rw [Below.heap_setCell _ _ _ _ (by simp; omega)]; exact h.block j hj hn⟩
theorem gb_below {a w w' : World} {r : Option Nat} (h : a.grownBy w r) (hb : Below w.heap.size w w') : a.grownBy w' r :=
  ⟨hb.os.trans h.os, hb.tape.trans h.tape, hb.output.trans h.output, Nat.le_trans h.size hb.size, fun j hj hn => (hb.block j (Nat.lt_of_lt_of_le hj h.size)).trans (h.block j hj hn)⟩
theorem gb_drewN {a w : World} {r : Option Nat} (h : a.grownBy w r) (n : Nat) : a.grownBy (w.drewN n) r := by
  induction n with
  | zero => exact h
  | succ n ih => exact ⟨ih.os, ih.tape, ih.output, ih.size, ih.block⟩
theorem gb_to_below {a w : World} {b : Nat} (h : a.grownBy w (some b)) {B : Nat} (hB : B ≤ b) (hs : B ≤ a.heap.size) : Below B a w :=
  ⟨h.os, h.tape, h.output, h.size, fun j hj => h.block j (by omega) (fun e => by injection e with e; omega)⟩
theorem gb_of_new {a w0 w : World} {b : Nat} {r : Option Nat} (h0 : a.grownBy w0 r) (h : w0.grownBy w (some b)) (hb : a.heap.size ≤ b) : a.grownBy w r :=
  ⟨h.os.trans h0.os, h.tape.trans h0.tape, h.output.trans h0.output, Nat.le_trans h0.size h.size, fun j hj hn => (h.block j (Nat.lt_of_lt_of_le hj h0.size) (fun e => by injection e with e; omega)).trans (h0.block j hj hn)⟩
set_option maxHeartbeats 400000 in
theorem skip_exact (s : ByteArray) (b i : Nat) (w : World) (hs : s.size ≤ 120) (hi : i ≤ s.size) (c0 : w.cell? ⟨b, 0, none⟩ = some (.string s)) (c1 : w.cell? ⟨b, 1, none⟩ = some (.int .i64 i)) (f1 : w.frozen? ⟨b, 1, none⟩ = false) :
    Calls Try.prog 26 #[.pointer (some ⟨b, 0, none⟩)] w fun e w' => e = .returned (.tuple #[]) ∧ ∃ n, w' = (w.drewN n).setCell ⟨b, 1, none⟩ (.int .i64 ((i + (atP s i).2 : Nat) : Int)) := by
  have hl := (atP_le s i).1
  go_enter Try.func26, Try.ntmps26
  go_wp2_with fail
  go_quiet ((go_at_call 28; exact Calls.quiet_of (at_any _ _ _ (by omega) (by omega))))
  go_wp2_with fail
  go_end0
  exact ⟨rfl, nq, by simp⟩

theorem skip_any (s : ByteArray) (b i : Nat) (L : List Nd) (bad : Int) (w : World) (hs : s.size ≤ 120) (hi : i ≤ s.size) (h : RdSt s b i L bad w) :
    Calls Try.prog 26 #[.pointer (some ⟨b, 0, none⟩)] w fun e w' => e = .returned (.tuple #[]) ∧ RdSt s b (i + (atP s i).2) L bad w' ∧ Below b w w' := by
  have HH := h
  obtain ⟨v, hb, _⟩ := h
  obtain ⟨c0, c1, c2, c3, f1, f2, f3⟩ := rd_cells hb
  refine (skip_exact s b i w hs hi c0 c1 f1).mono ?_
  rintro e w' ⟨rfl, n, rfl⟩
  exact ⟨rfl, (HH.drewN n).setI (i + (atP s i).2), (below_drewN (Below.refl b w) n).setCell (p := ⟨b, 1, none⟩) (Nat.le_refl b) _⟩

set_option maxHeartbeats 400000 in
theorem fail_any (s : ByteArray) (b i : Nat) (L : List Nd) (bad : Int) (w : World) (hs : s.size ≤ 120) (hi : i ≤ s.size) (h : RdSt s b i L bad w) :
    Calls Try.prog 16 #[.pointer (some ⟨b, 0, none⟩)] w fun e w' => e = .returned (.tuple #[]) ∧ RdSt s b i L (if bad < 0 then i else bad) w' ∧ Below b w w' := by
  have HH : Hid (RdSt s b i L bad w) := h
  obtain ⟨v, hb, _⟩ := h
  obtain ⟨c0, c1, c2, c3, f1, f2, f3⟩ := rd_cells hb
  clear hb
  by_cases hneg : bad < 0
  · rw [if_pos hneg]
    go_enter Try.func16, Try.ntmps16
    go_wp2_with fail
    go_end0
    refine ⟨rfl, ?_, ?_⟩
    · exact HH.out.setBad i
    · exact (Below.refl b w).setCell (p := ⟨b, 3, none⟩) (Nat.le_refl b) _
  · rw [if_neg hneg]
    go_enter Try.func16, Try.ntmps16
    go_wp2_with fail
    go_end0
    exact ⟨rfl, HH.out, Below.refl _ _⟩

def rdI (b : Nat) (w : World) : Nat := match w.cell? ⟨b, 1, none⟩ with | some (.int _ q) => q.toNat | _ => 0

theorem RdSt.place {s : ByteArray} {b i : Nat} {L : List Nd} {bad : Int} {w : World} (h : RdSt s b i L bad w) : rdI b w = i := by
  obtain ⟨v, hb, _⟩ := h
  simp [rdI, (rd_cells hb).2.1]
set_option maxHeartbeats 1000000 in
theorem sign_any (s : ByteArray) (b i : Nat) (L : List Nd) (bad : Int) (w : World) (hs : s.size ≤ 120) (hi : i ≤ s.size) (h : RdSt s b i L bad w) :
    Calls Try.prog 15 #[.pointer (some ⟨b, 0, none⟩)] w fun e w' => e = .returned (.int .i64 (atP s (skipB s i)).1) ∧ RdSt s b (skipB s i) L bad w' ∧ Below b w w' := by
  go_enter Try.func15, Try.ntmps15
  go_wp2_with fail
  go_loopw [] (fun wr => ∃ j : Nat, RdSt s b j L bad wr ∧ j ≤ s.size ∧ skipB s j = skipB s i ∧ Below b w wr) (fun wr => s.size - rdI b wr)
  case atStart => exact ⟨i, h, hi, rfl, Below.refl _ _⟩
  case round =>
    clear h
    obtain ⟨j, h, hj, hsk, hbel⟩ := hrel
    have HH : Hid (RdSt s b j L bad wr) := h
    obtain ⟨v, hb, _⟩ := h
    obtain ⟨c0, c1, c2, c3, f1, f2, f3⟩ := rd_cells hb
    clear hb
    have HS : Hid (skipB s j = skipB s i) := hsk
    clear hsk
    by_cases hlt : j < s.size
    · have g0 := bt_get s j
      by_cases h32 : bt s j = 32
      · have g0' : ∀ h : j < s.size, (s[j]'h).toNat = 32 := fun h => (g0 h).trans h32
        clear g0
        go_wp2_with fail
        go_quiet (fail)
        go_wp2_with fail
        have R := (HH.out.drewN nq).setI (j + 1)
        refine ⟨⟨j + 1, R, by omega, ?_, (below_drewN hbel nq).setCell (p := ⟨b, 1, none⟩) (Nat.le_refl b) _⟩, ?_⟩
        · rw [← skipB_on s j hlt h32]; exact HS.out
        · have e1 := R.place
          have e2 := HH.out.place
          simp only [Int.natCast_add, Int.cast_ofNat_Int] at e1
          rw [e1, e2]; omega
      · have ne : (((bt s j : Nat) : Int) == 32) = false := by simp; omega
        have hsk := HS.out
        rw [skipB_off s j (by omega)] at hsk
        have HE : Hid (skipB s i = j) := hsk.symm
        clear HS hsk
        go_wp2_with fail
        go_quiet (fail)
        go_wp2_with fail
        have HH2 : Hid (RdSt s b j L bad (wr.drewN nq)) := HH.out.drewN nq
        have hbel2 := below_drewN hbel nq
        generalize wr.drewN nq = W at *
        clear c0 c1 c2 c3 f1 f2 f3 HH hbel
        obtain ⟨v2, hb2, _⟩ := HH2.out
        obtain ⟨c0, c1, c2, c3, f1, f2, f3⟩ := rd_cells hb2
        clear hb2
        go_quiet ((go_at_call 28; exact Calls.quiet_of (at_any _ _ _ (by omega) (by omega))))
        go_wp2_with fail
        go_ret
        rw [HE.out]
        exact ⟨rfl, HH2.out, below_drewN hbel2 _⟩
    · have hsk := HS.out
      rw [skipB_off s j (by omega)] at hsk
      have HE : Hid (skipB s i = j) := hsk.symm
      clear HS hsk
      go_wp2_with fail
      go_quiet (fail)
      go_wp2_with fail
      have HH2 : Hid (RdSt s b j L bad (wr.drewN nq)) := HH.out.drewN nq
      have hbel2 := below_drewN hbel nq
      generalize wr.drewN nq = W at *
      clear c0 c1 c2 c3 f1 f2 f3 HH hbel
      obtain ⟨v2, hb2, _⟩ := HH2.out
      obtain ⟨c0, c1, c2, c3, f1, f2, f3⟩ := rd_cells hb2
      clear hb2
      go_quiet ((go_at_call 28; exact Calls.quiet_of (at_any _ _ _ (by omega) (by omega))))
      go_wp2_with fail
      go_ret
      rw [HE.out]
      exact ⟨rfl, HH2.out, below_drewN hbel2 _⟩
end Go.Proofs.Ytodabmkcihafhaa

import Derived.Deep.QuietTactic
import Derived.BigQuiet
import Derived.Deep.RegionLaw
import Derived.Test.YtodabmkcihafhaaGreatDoorRows
import Derived.Deep.LoopGhost
import Derived.RegionTactic
import Derived.ChangeAlike
import Derived.BigRegion
import Derived.Deep.RegionWith
import Derived.Lib.QuietBelow
import Derived.Test.YtodabmkcihafhaaGreatDoorQ1

/- The document's reader: its state in memory; sign, skip, fail, add. -/
namespace Go.Proofs.YtodabmkcihafhaaGreatDoor
open Go.RowKit
set_option linter.unusedVariables false

def Nd.cells (n : Nd) : List Value := [.int .i64 n.op, .int .i64 n.a, .int .i64 n.b, .int .i64 n.num, .int .i64 n.den, .string n.text, .int .i64 n.pl]
def ndCells (L : List Nd) : List Value := L.flatMap Nd.cells

/-- The reader, in block b: its text, its place, its nodes (a row of its own, behind b), its fault. -/
def RdSt (s : ByteArray) (b i : Nat) (L : List Nd) (bad : Int) (w : World) : Prop :=
  ∃ v, w.heap[b]? = some (.cells #[.string s, .int .i64 i, v, .int .i64 bad] 201 (0, 0)) ∧ w.ownsRow (b + 1) 137 7 v L.length (ndCells L)

theorem rd_cells {s : ByteArray} {b i : Nat} {v : Value} {bad : Int} {w : World} (h : w.heap[b]? = some (.cells #[.string s, .int .i64 i, v, .int .i64 bad] 201 (0, 0))) :
    w.cell? ⟨b, 0, none⟩ = some (.string s) ∧ w.cell? ⟨b, 1, none⟩ = some (.int .i64 i) ∧ w.cell? ⟨b, 2, none⟩ = some v ∧ w.cell? ⟨b, 3, none⟩ = some (.int .i64 bad) ∧
    w.frozen? ⟨b, 1, none⟩ = false ∧ w.frozen? ⟨b, 2, none⟩ = false ∧ w.frozen? ⟨b, 3, none⟩ = false := by
  simp [World.cell?, World.frozen?, h]
theorem RdSt.lt {s : ByteArray} {b i : Nat} {L : List Nd} {bad : Int} {w : World} (h : RdSt s b i L bad w) : b < w.heap.size := by
  obtain ⟨v, hb, _⟩ := h
  exact (Array.getElem?_eq_some_iff.1 hb).1
theorem RdSt.drewN {s : ByteArray} {b i : Nat} {L : List Nd} {bad : Int} {w : World} (h : RdSt s b i L bad w) (n : Nat) : RdSt s b i L bad (w.drewN n) := h
theorem own_setCell {w : World} {b : Nat} {e : TypeId} {n : Nat} {size : Nat} {v : Value} {xs : List Value} (o : w.ownsRow (b + 1) e size v n xs) (j : Nat) (u : Value) : (w.setCell ⟨b, j, none⟩ u).ownsRow (b + 1) e size v n xs :=
  ownsRow_setCell_below o (by simp) _
theorem RdSt.setI {s : ByteArray} {b i : Nat} {L : List Nd} {bad : Int} {w : World} (h : RdSt s b i L bad w) (i' : Nat) : RdSt s b i' L bad (w.setCell ⟨b, 1, none⟩ (.int .i64 i')) := by
  obtain ⟨v, hb, o⟩ := h
  exact ⟨v, by simp [World.setCell, Array.getElem?_modify, hb], own_setCell o _ _⟩
theorem RdSt.setBad {s : ByteArray} {b i : Nat} {L : List Nd} {bad : Int} {w : World} (h : RdSt s b i L bad w) (bad' : Int) : RdSt s b i L bad' (w.setCell ⟨b, 3, none⟩ (.int .i64 bad')) := by
  obtain ⟨v, hb, o⟩ := h
  exact ⟨v, by simp [World.setCell, Array.getElem?_modify, hb], own_setCell o _ _⟩

theorem below_drewN {B : Nat} {a w : World} (h : Below B a w) : ∀ n, Below B a (w.drewN n) := by
  intro n
  induction n with
  | zero => exact h
  | succ n ih => exact ih.drew

/-! ### What only one block has turned -/
theorem gb_refl (w : World) (r : Option Nat) : w.grownBy w r := ⟨rfl, rfl, rfl, Nat.le_refl _, fun _ _ _ => rfl⟩
theorem gb_trans {a b c : World} {r : Option Nat} (h : a.grownBy b r) (k : b.grownBy c r) : a.grownBy c r :=
  ⟨k.os.trans h.os, k.tape.trans h.tape, k.output.trans h.output, Nat.le_trans h.size k.size, fun i hi hn => (k.block i (Nat.lt_of_lt_of_le hi h.size) hn).trans (h.block i hi hn)⟩
theorem gb_alloc {a w : World} {r : Option Nat} (h : a.grownBy w r) (o : Obj) : a.grownBy (w.alloc o) r := gb_trans h (World.grownBy_alloc w o r)
theorem gb_set {a w : World} {b : Nat} (h : a.grownBy w (some b)) (i : Nat) (v : Value) : a.grownBy (w.setCell ⟨b, i, none⟩ v) (some b) :=
  ⟨h.os, h.tape, h.output, by simpa using h.size, fun j hj hn => by rw [Below.heap_setCell _ _ _ _ (fun e => hn (by rw [e]))]; exact h.block j hj hn⟩
/-- A cell of a block that is new. -/
theorem gb_new {a w : World} {r : Option Nat} (h : a.grownBy w r) {b : Nat} (hb : a.heap.size ≤ b) (i : Nat) (v : Value) : a.grownBy (w.setCell ⟨b, i, none⟩ v) r :=
  ⟨h.os, h.tape, h.output, by simpa using h.size, fun j hj hn => by rw [Below.heap_setCell _ _ _ _ (by simp; omega)]; exact h.block j hj hn⟩
theorem gb_below {a w w' : World} {r : Option Nat} (h : a.grownBy w r) (hb : Below w.heap.size w w') : a.grownBy w' r :=
  ⟨hb.os.trans h.os, hb.tape.trans h.tape, hb.output.trans h.output, Nat.le_trans h.size hb.size, fun j hj hn => (hb.block j (Nat.lt_of_lt_of_le hj h.size)).trans (h.block j hj hn)⟩
theorem gb_drewN {a w : World} {r : Option Nat} (h : a.grownBy w r) (n : Nat) : a.grownBy (w.drewN n) r := by
  induction n with
  | zero => exact h
  | succ n ih => exact ⟨ih.os, ih.tape, ih.output, ih.size, ih.block⟩
theorem gb_to_below {a w : World} {b : Nat} (h : a.grownBy w (some b)) {B : Nat} (hB : B ≤ b) (hs : B ≤ a.heap.size) : Below B a w :=
  ⟨h.os, h.tape, h.output, h.size, fun j hj => h.block j (by omega) (fun e => by injection e with e; omega)⟩
theorem gb_of_new {a w0 w : World} {b : Nat} {r : Option Nat} (h0 : a.grownBy w0 r) (h : w0.grownBy w (some b)) (hb : a.heap.size ≤ b) : a.grownBy w r :=
  ⟨h.os.trans h0.os, h.tape.trans h0.tape, h.output.trans h0.output, Nat.le_trans h0.size h.size, fun j hj hn => (h.block j (Nat.lt_of_lt_of_le hj h0.size) (fun e => by injection e with e; omega)).trans (h0.block j hj hn)⟩
set_option maxHeartbeats 400000 in
theorem skip_exact (s : ByteArray) (b i : Nat) (w : World) (hs : s.size ≤ 120) (hi : i ≤ s.size) (c0 : w.cell? ⟨b, 0, none⟩ = some (.string s)) (c1 : w.cell? ⟨b, 1, none⟩ = some (.int .i64 i)) (f1 : w.frozen? ⟨b, 1, none⟩ = false) :
    Calls Tryz.prog 128 #[.pointer (some ⟨b, 0, none⟩)] w fun e w' => e = .returned (.tuple #[]) ∧ ∃ n, w' = (w.drewN n).setCell ⟨b, 1, none⟩ (.int .i64 ((i + (atP s i).2 : Nat) : Int)) := by
  have hl := (atP_le s i).1
  go_enter Tryz.func128, Tryz.ntmps128
  go_wp2_with fail
  go_quiet ((go_at_call 112; exact Calls.quiet_of (at_any _ _ _ (by omega) (by omega))))
  go_wp2_with fail
  go_end0
  exact ⟨rfl, nq, by simp⟩

theorem skip_any (s : ByteArray) (b i : Nat) (L : List Nd) (bad : Int) (w : World) (hs : s.size ≤ 120) (hi : i ≤ s.size) (h : RdSt s b i L bad w) :
    Calls Tryz.prog 128 #[.pointer (some ⟨b, 0, none⟩)] w fun e w' => e = .returned (.tuple #[]) ∧ RdSt s b (i + (atP s i).2) L bad w' ∧ Below b w w' := by
  have HH := h
  obtain ⟨v, hb, _⟩ := h
  obtain ⟨c0, c1, c2, c3, f1, f2, f3⟩ := rd_cells hb
  refine (skip_exact s b i w hs hi c0 c1 f1).mono ?_
  rintro e w' ⟨rfl, n, rfl⟩
  exact ⟨rfl, (HH.drewN n).setI (i + (atP s i).2), (below_drewN (Below.refl b w) n).setCell (p := ⟨b, 1, none⟩) (Nat.le_refl b) _⟩

set_option maxHeartbeats 400000 in
theorem fail_any (s : ByteArray) (b i : Nat) (L : List Nd) (bad : Int) (w : World) (hs : s.size ≤ 120) (hi : i ≤ s.size) (h : RdSt s b i L bad w) :
    Calls Tryz.prog 87 #[.pointer (some ⟨b, 0, none⟩)] w fun e w' => e = .returned (.tuple #[]) ∧ RdSt s b i L (if bad < 0 then i else bad) w' ∧ Below b w w' := by
  have HH : Hid (RdSt s b i L bad w) := h
  obtain ⟨v, hb, _⟩ := h
  obtain ⟨c0, c1, c2, c3, f1, f2, f3⟩ := rd_cells hb
  clear hb
  by_cases hneg : bad < 0
  · rw [if_pos hneg]
    go_enter Tryz.func87, Tryz.ntmps87
    go_wp2_with fail
    go_end0
    refine ⟨rfl, ?_, ?_⟩
    · exact HH.out.setBad i
    · exact (Below.refl b w).setCell (p := ⟨b, 3, none⟩) (Nat.le_refl b) _
  · rw [if_neg hneg]
    go_enter Tryz.func87, Tryz.ntmps87
    go_wp2_with fail
    go_end0
    exact ⟨rfl, HH.out, Below.refl _ _⟩

def rdI (b : Nat) (w : World) : Nat := match w.cell? ⟨b, 1, none⟩ with | some (.int _ q) => q.toNat | _ => 0

theorem RdSt.place {s : ByteArray} {b i : Nat} {L : List Nd} {bad : Int} {w : World} (h : RdSt s b i L bad w) : rdI b w = i := by
  obtain ⟨v, hb, _⟩ := h
  simp [rdI, (rd_cells hb).2.1]
set_option maxHeartbeats 1000000 in
theorem sign_any (s : ByteArray) (b i : Nat) (L : List Nd) (bad : Int) (w : World) (hs : s.size ≤ 120) (hi : i ≤ s.size) (h : RdSt s b i L bad w) :
    Calls Tryz.prog 86 #[.pointer (some ⟨b, 0, none⟩)] w fun e w' => e = .returned (.int .i64 (atP s (skipB s i)).1) ∧ RdSt s b (skipB s i) L bad w' ∧ Below b w w' := by
  go_enter Tryz.func86, Tryz.ntmps86
  go_wp2_with fail
  go_loopw [] (fun wr => ∃ j : Nat, RdSt s b j L bad wr ∧ j ≤ s.size ∧ skipB s j = skipB s i ∧ Below b w wr) (fun wr => s.size - rdI b wr)
  case atStart => exact ⟨i, h, hi, rfl, Below.refl _ _⟩
  case round =>
    clear h
    obtain ⟨j, h, hj, hsk, hbel⟩ := hrel
    have HH : Hid (RdSt s b j L bad wr) := h
    obtain ⟨v, hb, _⟩ := h
    obtain ⟨c0, c1, c2, c3, f1, f2, f3⟩ := rd_cells hb
    clear hb
    have HS : Hid (skipB s j = skipB s i) := hsk
    clear hsk
    by_cases hlt : j < s.size
    · have g0 := bt_get s j
      by_cases h32 : bt s j = 32
      · have g0' : ∀ h : j < s.size, (s[j]'h).toNat = 32 := fun h => (g0 h).trans h32
        clear g0
        go_wp2_with fail
        go_quiet (fail)
        go_wp2_with fail
        have R := (HH.out.drewN nq).setI (j + 1)
        refine ⟨⟨j + 1, R, by omega, ?_, (below_drewN hbel nq).setCell (p := ⟨b, 1, none⟩) (Nat.le_refl b) _⟩, ?_⟩
        · rw [← skipB_on s j hlt h32]; exact HS.out
        · have e1 := R.place
          have e2 := HH.out.place
          simp only [Int.natCast_add, Int.cast_ofNat_Int] at e1
          rw [e1, e2]; omega
      · have ne : (((bt s j : Nat) : Int) == 32) = false := by simp; omega
        have hsk := HS.out
        rw [skipB_off s j (by omega)] at hsk
        have HE : Hid (skipB s i = j) := hsk.symm
        clear HS hsk
        go_wp2_with fail
        go_quiet (fail)
        go_wp2_with fail
        have HH2 : Hid (RdSt s b j L bad (wr.drewN nq)) := HH.out.drewN nq
        have hbel2 := below_drewN hbel nq
        generalize wr.drewN nq = W at *
        clear c0 c1 c2 c3 f1 f2 f3 HH hbel
        obtain ⟨v2, hb2, _⟩ := HH2.out
        obtain ⟨c0, c1, c2, c3, f1, f2, f3⟩ := rd_cells hb2
        clear hb2
        go_quiet ((go_at_call 112; exact Calls.quiet_of (at_any _ _ _ (by omega) (by omega))))
        go_wp2_with fail
        go_ret
        rw [HE.out]
        exact ⟨rfl, HH2.out, below_drewN hbel2 _⟩
    · have hsk := HS.out
      rw [skipB_off s j (by omega)] at hsk
      have HE : Hid (skipB s i = j) := hsk.symm
      clear HS hsk
      go_wp2_with fail
      go_quiet (fail)
      go_wp2_with fail
      have HH2 : Hid (RdSt s b j L bad (wr.drewN nq)) := HH.out.drewN nq
      have hbel2 := below_drewN hbel nq
      generalize wr.drewN nq = W at *
      clear c0 c1 c2 c3 f1 f2 f3 HH hbel
      obtain ⟨v2, hb2, _⟩ := HH2.out
      obtain ⟨c0, c1, c2, c3, f1, f2, f3⟩ := rd_cells hb2
      clear hb2
      go_quiet ((go_at_call 112; exact Calls.quiet_of (at_any _ _ _ (by omega) (by omega))))
      go_wp2_with fail
      go_ret
      rw [HE.out]
      exact ⟨rfl, HH2.out, below_drewN hbel2 _⟩
end Go.Proofs.YtodabmkcihafhaaGreatDoor

/- The program's fractions: commonDivisor, lowest, plus, less, times. -/
namespace Go.Proofs.YtodabmkcihafhaaGreatDoor
open Go.RowKit
set_option linter.unusedVariables false

theorem gcd_step' (a b : Nat) : Nat.gcd b (a % b) = Nat.gcd a b := by
  rw [Nat.gcd_comm a b, Nat.gcd_rec b a, Nat.gcd_comm (a % b) b]
theorem drewN_add (w : World) (a b : Nat) : (w.drewN a).drewN b = w.drewN (a + b) := by
  induction b with
  | zero => rfl
  | succ b ih => show ((w.drewN a).drewN b).drew = (w.drewN (a + b)).drew; rw [ih]

theorem fr_below (w : World) (o : Obj) : Below w.heap.size w (w.alloc o) := (Below.refl _ _).alloc (Nat.le_refl _) o
set_option maxHeartbeats 1000000 in
theorem cd_any (n d : Int) (w : World) (h1 : -4000000000000 ≤ n) (h2 : n ≤ 4000000000000) (h3 : 0 < d) (h4 : d ≤ 4000000000000) :
    Calls Tryz.prog 155 #[.int .i64 n, .int .i64 d] w fun e w' => e = .returned (.int .i64 (gcdP n d)) ∧ ∃ k, w' = w.drewN k := by
  have HG : Hid (gcdP n d = ((Nat.gcd n.natAbs d.natAbs : Nat) : Int)) := rfl
  go_enter Tryz.func155, Tryz.ntmps155
  go_wp2_with fail
  all_goals
    go_loopg [5, 6] d.natAbs (fun g s5 s6 wr => ∃ a b : Nat, s5 = .int .i64 a ∧ s6 = .int .i64 b ∧ Hid (Nat.gcd a b = Nat.gcd n.natAbs d.natAbs) ∧ a ≤ 4000000000000 ∧ b ≤ 4000000000000 ∧ Hid (b = g) ∧ ∃ k, wr = w.drewN k)
    case atStart =>
      refine ⟨n.natAbs, d.natAbs, ?_, ?_, rfl, by omega, by omega, rfl, 0, rfl⟩
      · congr 1; omega
      · congr 1; omega
    case round =>
      obtain ⟨a, b, rfl, rfl, HI, ha, hb, hg, k, rfl⟩ := hrel
      by_cases hb0 : b = 0
      · subst hb0
        go_wp2_with fail
        go_ret
        refine ⟨?_, k, rfl⟩
        rw [HG.out, ← HI.out, Nat.gcd_zero_right]
        rfl
      · have q1 : ((b : Int) != 0) = true := by simp; omega
        have q2 : ¬ (b : Int) = 0 := by omega
        go_wp2_with fail
        go_quiet (fail)
        go_wp2_with fail
        go_roundg (a % b)
        case measure => have := Nat.mod_lt a (show 0 < b by omega); have := hg.out; omega
        case rel =>
          refine ⟨b, a % b, rfl, ?_, ?_, hb, ?_, rfl, k + nq, ?_⟩
          · rfl
          · show Nat.gcd b (a % b) = _
            rw [gcd_step']; exact HI.out
          · have := Nat.mod_le a b; omega
          · rw [drewN_add]

/-! ### The reckoner -/
def frV (f : Fr) : Value := .agg #[.int .i64 f.n, .int .i64 f.d]
/-- The reckoner, in block b: whether one was too big. -/
def RkSt (b : Nat) (fl : Bool) (w : World) : Prop := w.heap[b]? = some (.cells #[.bool fl] 254 (0, 0))
theorem RkSt.cells {b : Nat} {fl : Bool} {w : World} (h : RkSt b fl w) : w.cell? ⟨b, 0, none⟩ = some (.bool fl) ∧ w.frozen? ⟨b, 0, none⟩ = false := by
  unfold RkSt at h
  simp [World.cell?, World.frozen?, h]
theorem RkSt.set {b : Nat} {fl : Bool} {w : World} (h : RkSt b fl w) (x : Bool) : RkSt b x (w.setCell ⟨b, 0, none⟩ (.bool x)) := by
  unfold RkSt at *
  simp [World.setCell, Array.getElem?_modify, h]
theorem RkSt.drewN {b : Nat} {fl : Bool} {w : World} (h : RkSt b fl w) (k : Nat) : RkSt b fl (w.drewN k) := h
theorem RkSt.lt {b : Nat} {fl : Bool} {w : World} (h : RkSt b fl w) : b < w.heap.size := (Array.getElem?_eq_some_iff.1 h).1

set_option maxHeartbeats 400000 in
theorem tooBig_any (f : Fr) (w : World) : Calls Tryz.prog 156 #[.agg #[.int .i64 f.n, .int .i64 f.d]] w fun e w' => e = .returned (.bool f.big) ∧ Below w.heap.size w w' := by
  have HB : Hid (f.big = decide (f.n > 999999 ∨ f.n < -999999 ∨ f.d > 999999)) := rfl
  generalize f.big = bb at *
  obtain ⟨n, d⟩ := f
  simp only at HB ⊢
  by_cases h1 : n > 999999
  · go_enter Tryz.func156, Tryz.ntmps156
    go_wp2_with fail
    go_ret
    exact ⟨by rw [HB.out]; simp [h1], fr_below w _⟩
  · by_cases h2 : n < -999999
    · go_enter Tryz.func156, Tryz.ntmps156
      go_wp2_with fail
      go_ret
      exact ⟨by rw [HB.out]; simp [h2], fr_below w _⟩
    · go_enter Tryz.func156, Tryz.ntmps156
      go_wp2_with fail
      go_ret
      refine ⟨?_, fr_below w _⟩
      rw [HB.out]
      have e1 : decide (n > 999999) = false := by simp; omega
      have e2 : decide (n < -999999) = false := by simp; omega
      simp only [Bool.decide_or, e1, e2, Bool.false_or]
      rfl

theorem low_abs {n d : Int} (h : 0 < d) : (lowP n d).n.natAbs ≤ n.natAbs ∧ (lowP n d).d.natAbs ≤ d.natAbs := by
  have h1 := congrArg Int.natAbs (low_mul_n n d)
  have h2 := congrArg Int.natAbs (low_mul_d n d)
  rw [Int.natAbs_mul] at h1 h2
  have hg := gcdP_pos (n := n) h
  have hg' : 1 ≤ (gcdP n d).natAbs := by omega
  exact ⟨by rw [← h1]; exact Nat.le_mul_of_pos_right _ hg', by rw [← h2]; exact Nat.le_mul_of_pos_right _ hg'⟩
theorem gcd_le (n d : Int) (h : 0 < d) : gcdP n d ≤ d := Int.le_of_dvd h (gcdP_dvd_d n d)
set_option maxHeartbeats 1000000 in
theorem lowest_any (b : Nat) (fl : Bool) (n d : Int) (w : World) (h1 : -4000000000000 ≤ n) (h2 : n ≤ 4000000000000) (h3 : 0 < d) (h4 : d ≤ 4000000000000) (h : RkSt b fl w) :
    Calls Tryz.prog 147 #[.pointer (some ⟨b, 0, none⟩), .int .i64 n, .int .i64 d] w fun e w' => e = .returned (.agg #[.int .i64 (mkF n d).n, .int .i64 (mkF n d).d]) ∧ RkSt b (fl || mkB n d) w' ∧ w.grownBy w' (some b) := by
  have hg0 := gcdP_pos (n := n) h3
  have hgl := gcd_le n d h3
  have q1 : n.tdiv (gcdP n d) = (lowP n d).n := by
    show _ = n / gcdP n d
    exact Int.tdiv_eq_ediv_of_dvd (gcdP_dvd_n n d)
  have q2 : d.tdiv (gcdP n d) = (lowP n d).d := by
    show _ = d / gcdP n d
    exact Int.tdiv_eq_ediv_of_dvd (gcdP_dvd_d n d)
  have hla := low_abs (n := n) h3
  have hw3 : wrap64 (lowP n d).n = (lowP n d).n := by unfold wrap64; omega
  have hw4 : wrap64 (lowP n d).d = (lowP n d).d := by unfold wrap64; omega
  clear hla
  have HB : Hid (mkB n d = (lowP n d).big) := rfl
  have HF : Hid (mkF n d = if mkB n d then ⟨0, 1⟩ else lowP n d) := rfl
  have hc := fun W => cd_any n d W h1 h2 h3 h4
  generalize mkF n d = F at *
  generalize mkB n d = B at *
  generalize hgg : gcdP n d = g at *
  generalize hll : lowP n d = l at *
  have HQ : Hid (n.tdiv g = l.n ∧ d.tdiv g = l.d) := ⟨q1, q2⟩
  clear hgg hll
  go_enter Tryz.func147, Tryz.ntmps147
  go_wp2_with fail
  refine (hc _).mono ?_
  rintro e w1 ⟨rfl, k, hw1⟩
  have hr1 : RkSt b fl w1 := by
    rw [hw1]
    show (w.alloc _).heap[b]? = _
    rw [Below.heap_alloc _ _ _ h.lt]
    exact h
  have hb1 : Below w.heap.size w w1 := by rw [hw1]; exact below_drewN (fr_below w _) k
  have hz1 : w1.heap[w.heap.size]? = some (.cells #[.int .i64 0, .int .i64 0] 80 (0, 0)) := by
    rw [hw1]
    exact heap_alloc_new w _
  have hlt := h.lt
  clear hw1 h hc
  have q3 : ¬ g = 0 := by omega
  have q4 : (g == 0) = false := by simpa using q3
  go_wp2_with fail
  go_region
  have hb2 : Below w.heap.size w ((w1.alloc (.cells #[.int .i64 l.n, .int .i64 l.d] 80)).drew) := (hb1.alloc hb1.size _).drew
  have hr2 : RkSt b fl ((w1.alloc (.cells #[.int .i64 l.n, .int .i64 l.d] 80)).drew) := by
    show (w1.alloc _).heap[b]? = _
    rw [Below.heap_alloc _ _ _ hr1.lt]
    exact hr1
  have hy2 : ((w1.alloc (.cells #[.int .i64 l.n, .int .i64 l.d] 80)).drew).heap[w1.heap.size]? = some (.cells #[.int .i64 l.n, .int .i64 l.d] 80 (0, 0)) := by
    exact heap_alloc_new w1 _
  have hz2 : ((w1.alloc (.cells #[.int .i64 l.n, .int .i64 l.d] 80)).drew).heap[w.heap.size]? = some (.cells #[.int .i64 0, .int .i64 0] 80 (0, 0)) := by
    show (w1.alloc _).heap[_]? = _
    rw [Below.heap_alloc _ _ _ (Array.getElem?_eq_some_iff.1 hz1).1]
    exact hz1
  have hwb : w.heap.size < w1.heap.size := (Array.getElem?_eq_some_iff.1 hz1).1
  generalize (w1.alloc (.cells #[.int .i64 l.n, .int .i64 l.d] 80)).drew = w2 at *
  generalize w1.heap.size = B1 at *
  clear hr1 hb1 hz1
  have y0 : w2.cell? ⟨B1, 0, none⟩ = some (.int .i64 l.n) := by simp [World.cell?, hy2]
  have y1 : w2.cell? ⟨B1, 1, none⟩ = some (.int .i64 l.d) := by simp [World.cell?, hy2]
  have hB1 : B1 < w2.heap.size := (Array.getElem?_eq_some_iff.1 hy2).1
  go_wp2_with fail
  refine (tooBig_any l _).mono ?_
  rintro e w3 ⟨rfl, hb3⟩
  have hy3 : w3.heap[B1]? = some (.cells #[.int .i64 l.n, .int .i64 l.d] 80 (0, 0)) := by rw [hb3.block _ hB1]; exact hy2
  have hz3 : w3.heap[w.heap.size]? = some (.cells #[.int .i64 0, .int .i64 0] 80 (0, 0)) := by rw [hb3.block _ (by omega)]; exact hz2
  have hr3 : RkSt b fl w3 := by unfold RkSt; rw [hb3.block _ (by omega)]; exact hr2
  have hb03 : Below w.heap.size w w3 := hb2.trans (hb3.mono hb2.size)
  clear hb3 hr2 hy2 hz2 hb2 y0 y1
  have y0 : w3.cell? ⟨B1, 0, none⟩ = some (.int .i64 l.n) := by simp [World.cell?, hy3]
  have y1 : w3.cell? ⟨B1, 1, none⟩ = some (.int .i64 l.d) := by simp [World.cell?, hy3]
  have z0 : w3.cell? ⟨w.heap.size, 0, none⟩ = some (.int .i64 0) := by simp [World.cell?, hz3]
  have z1 : w3.cell? ⟨w.heap.size, 1, none⟩ = some (.int .i64 0) := by simp [World.cell?, hz3]
  have fz0 : w3.frozen? ⟨w.heap.size, 0, none⟩ = false := by simp [World.frozen?, hz3]
  have fz1 : w3.frozen? ⟨w.heap.size, 1, none⟩ = false := by simp [World.frozen?, hz3]
  obtain ⟨r0, fr0⟩ := hr3.cells
  by_cases hbig : l.big = true
  · have HF2 : Hid (F = ⟨0, 1⟩ ∧ (fl || B) = true) := by
      have hB : B = true := HB.out.trans hbig
      refine ⟨?_, by rw [hB]; simp⟩
      rw [HF.out, hB]
      rfl
    go_wp2_with fail
    refine bodyPost_ret (v := .agg #[.int .i64 0, .int .i64 1]) (by simp [results, Tryz.results147, go_sem, z0, z1]) rfl ?_
    rw [HF2.out.1, HF2.out.2]
    refine ⟨rfl, ?_, ?_⟩
    · unfold RkSt
      rw [Below.heap_setCell _ _ _ _ (by simp; omega), Below.heap_setCell _ _ _ _ (by simp; omega)]
      exact hr3.set true
    · exact gb_new (gb_new (gb_set (gb_below (gb_refl w _) hb03) 0 _) (Nat.le_refl _) 0 _) (Nat.le_refl _) 1 _
  · have hbig' : l.big = false := by simpa using hbig
    have HF2 : Hid (F = l ∧ (fl || B) = fl) := by
      have hB : B = false := HB.out.trans hbig'
      refine ⟨?_, by rw [hB]; simp⟩
      rw [HF.out, hB]
      rfl
    go_wp2_with fail
    refine bodyPost_ret (v := .agg #[.int .i64 l.n, .int .i64 l.d]) (by simp [results, Tryz.results147, go_sem, z0, z1]) rfl ?_
    rw [HF2.out.1, HF2.out.2]
    refine ⟨rfl, ?_, ?_⟩
    · unfold RkSt
      rw [Below.heap_setCell _ _ _ _ (by simp; omega), Below.heap_setCell _ _ _ _ (by simp; omega)]
      exact hr3
    · exact gb_new (gb_new (gb_below (gb_refl w _) hb03) (Nat.le_refl _) 0 _) (Nat.le_refl _) 1 _

set_option maxHeartbeats 1000000 in
theorem negated_any (f : Fr) (w : World) (hf : f.Ok) : Calls Tryz.prog 148 #[.agg #[.int .i64 f.n, .int .i64 f.d]] w fun e w' => e = .returned (.agg #[.int .i64 f.neg.n, .int .i64 f.neg.d]) ∧ Below w.heap.size w w' := by
  have hw : wrap64 (-f.n) = -f.n := by unfold wrap64; have := hf.2.2; omega
  clear hf
  obtain ⟨n, d⟩ := f
  unfold Fr.neg
  simp only at *
  go_enter Tryz.func148, Tryz.ntmps148
  go_wp2_with fail
  refine bodyPost_ret (v := .agg #[.int .i64 (-n), .int .i64 d]) (by simp [results, Tryz.results148, go_sem, hw]) rfl ?_
  exact ⟨rfl, ((Below.refl _ w).alloc (Nat.le_refl _) _).alloc (by simp) _⟩
/-- A block of two cells that holds zeros. -/
theorem two_cells {w : World} {B : Nat} {x y : Value} {t : TypeId} (h : w.heap[B]? = some (.cells #[x, y] t (0, 0))) : w.cell? ⟨B, 0, none⟩ = some x ∧ w.cell? ⟨B, 1, none⟩ = some y ∧ w.frozen? ⟨B, 0, none⟩ = false ∧ w.frozen? ⟨B, 1, none⟩ = false := by
  simp [World.cell?, World.frozen?, h]
set_option maxHeartbeats 1000000 in
theorem plus_any (b : Nat) (fl : Bool) (x y : Fr) (w : World) (hx : x.Ok) (hy : y.Ok) (h : RkSt b fl w) :
    Calls Tryz.prog 177 #[.pointer (some ⟨b, 0, none⟩), .agg #[.int .i64 x.n, .int .i64 x.d], .agg #[.int .i64 y.n, .int .i64 y.d]] w fun e w' => e = .returned (.agg #[.int .i64 (plF x y).n, .int .i64 (plF x y).d]) ∧ RkSt b (fl || plB x y) w' ∧ w.grownBy w' (some b) := by
  have m1 := hx.mul_nd hy
  have m2 := hy.mul_nd hx
  have m3 := hx.mul_d hy
  have c := fun W h => lowest_any b fl (x.n * y.d + y.n * x.d) (x.d * y.d) W (by omega) (by omega) m3.1 (by omega) h
  show Calls _ _ _ _ fun e w' => e = .returned (.agg #[.int .i64 (mkF (x.n * y.d + y.n * x.d) (x.d * y.d)).n, .int .i64 (mkF (x.n * y.d + y.n * x.d) (x.d * y.d)).d]) ∧ RkSt b (fl || mkB (x.n * y.d + y.n * x.d) (x.d * y.d)) w' ∧ w.grownBy w' (some b)
  generalize mkF (x.n * y.d + y.n * x.d) (x.d * y.d) = F at *
  generalize mkB (x.n * y.d + y.n * x.d) (x.d * y.d) = B at *
  have hlt := h.lt
  have hh : Hid (RkSt b fl w) := h
  have C : Hid (∀ (W : World), RkSt b fl W → Calls Tryz.prog 147 #[.pointer (some ⟨b, 0, none⟩), .int .i64 (x.n * y.d + y.n * x.d), .int .i64 (x.d * y.d)] W fun e w' => e = .returned (.agg #[.int .i64 F.n, .int .i64 F.d]) ∧ RkSt b (fl || B) w' ∧ W.grownBy w' (some b)) := c
  clear h hx hy c
  go_enter Tryz.func177, Tryz.ntmps177
  go_wp2_with fail
  refine (C.out _ ?_).mono ?_
  · unfold RkSt
    rw [Below.heap_alloc _ _ _ (by simp; omega), Below.heap_alloc _ _ _ (by simp; omega), Below.heap_alloc _ _ _ (by omega)]
    exact hh.out
  rintro e w1 ⟨rfl, hr1, hg1⟩
  have hz1 : w1.heap[w.heap.size + 1 + 1]? = some (.cells #[.int .i64 0, .int .i64 0] 80 (0, 0)) := by
    rw [hg1.block _ (by simp) (by simp; omega)]
    have := heap_alloc_new ((w.alloc (.cells #[.int .i64 x.n, .int .i64 x.d] 80)).alloc (.cells #[.int .i64 y.n, .int .i64 y.d] 80)) (.cells #[.int .i64 0, .int .i64 0] 80)
    rw [show ((w.alloc (.cells #[.int .i64 x.n, .int .i64 x.d] 80)).alloc (.cells #[.int .i64 y.n, .int .i64 y.d] 80)).heap.size = w.heap.size + 1 + 1 by simp] at this
    exact this
  have hg0 : w.grownBy w1 (some b) := gb_trans (gb_alloc (gb_alloc (gb_alloc (gb_refl w _) _) _) _) hg1
  obtain ⟨z0, z1, fz0, fz1⟩ := two_cells hz1
  clear hz1 hg1 C hh
  go_wp2_with fail
  refine bodyPost_ret (v := .agg #[.int .i64 F.n, .int .i64 F.d]) (by simp [results, Tryz.results177, go_sem, z0, z1]) rfl ?_
  refine ⟨rfl, ?_, gb_new (gb_new hg0 (by omega) 0 _) (by omega) 1 _⟩
  unfold RkSt
  rw [Below.heap_setCell _ _ _ _ (by simp; omega), Below.heap_setCell _ _ _ _ (by simp; omega)]
  exact hr1
set_option maxHeartbeats 1000000 in
theorem times_any (b : Nat) (fl : Bool) (x y : Fr) (w : World) (hx : x.Ok) (hy : y.Ok) (h : RkSt b fl w) :
    Calls Tryz.prog 179 #[.pointer (some ⟨b, 0, none⟩), .agg #[.int .i64 x.n, .int .i64 x.d], .agg #[.int .i64 y.n, .int .i64 y.d]] w fun e w' => e = .returned (.agg #[.int .i64 (tmF x y).n, .int .i64 (tmF x y).d]) ∧ RkSt b (fl || tmB x y) w' ∧ w.grownBy w' (some b) := by
  have m1 := hx.mul_n hy
  have m3 := hx.mul_d hy
  have c := fun W h => lowest_any b fl (x.n * y.n) (x.d * y.d) W (by omega) (by omega) m3.1 (by omega) h
  show Calls _ _ _ _ fun e w' => e = .returned (.agg #[.int .i64 (mkF (x.n * y.n) (x.d * y.d)).n, .int .i64 (mkF (x.n * y.n) (x.d * y.d)).d]) ∧ RkSt b (fl || mkB (x.n * y.n) (x.d * y.d)) w' ∧ w.grownBy w' (some b)
  generalize mkF (x.n * y.n) (x.d * y.d) = F at *
  generalize mkB (x.n * y.n) (x.d * y.d) = B at *
  have hlt := h.lt
  have hh : Hid (RkSt b fl w) := h
  have C : Hid (∀ (W : World), RkSt b fl W → Calls Tryz.prog 147 #[.pointer (some ⟨b, 0, none⟩), .int .i64 (x.n * y.n), .int .i64 (x.d * y.d)] W fun e w' => e = .returned (.agg #[.int .i64 F.n, .int .i64 F.d]) ∧ RkSt b (fl || B) w' ∧ W.grownBy w' (some b)) := c
  clear h hx hy c
  go_enter Tryz.func179, Tryz.ntmps179
  go_wp2_with fail
  refine (C.out _ ?_).mono ?_
  · unfold RkSt
    rw [Below.heap_alloc _ _ _ (by simp; omega), Below.heap_alloc _ _ _ (by simp; omega), Below.heap_alloc _ _ _ (by omega)]
    exact hh.out
  rintro e w1 ⟨rfl, hr1, hg1⟩
  have hz1 : w1.heap[w.heap.size + 1 + 1]? = some (.cells #[.int .i64 0, .int .i64 0] 80 (0, 0)) := by
    rw [hg1.block _ (by simp) (by simp; omega)]
    have := heap_alloc_new ((w.alloc (.cells #[.int .i64 x.n, .int .i64 x.d] 80)).alloc (.cells #[.int .i64 y.n, .int .i64 y.d] 80)) (.cells #[.int .i64 0, .int .i64 0] 80)
    rw [show ((w.alloc (.cells #[.int .i64 x.n, .int .i64 x.d] 80)).alloc (.cells #[.int .i64 y.n, .int .i64 y.d] 80)).heap.size = w.heap.size + 1 + 1 by simp] at this
    exact this
  have hg0 : w.grownBy w1 (some b) := gb_trans (gb_alloc (gb_alloc (gb_alloc (gb_refl w _) _) _) _) hg1
  obtain ⟨z0, z1, fz0, fz1⟩ := two_cells hz1
  clear hz1 hg1 C hh
  go_wp2_with fail
  refine bodyPost_ret (v := .agg #[.int .i64 F.n, .int .i64 F.d]) (by simp [results, Tryz.results179, go_sem, z0, z1]) rfl ?_
  refine ⟨rfl, ?_, gb_new (gb_new hg0 (by omega) 0 _) (by omega) 1 _⟩
  unfold RkSt
  rw [Below.heap_setCell _ _ _ _ (by simp; omega), Below.heap_setCell _ _ _ _ (by simp; omega)]
  exact hr1

end Go.Proofs.YtodabmkcihafhaaGreatDoor

/- The program's fractions: less; numbers. -/
namespace Go.Proofs.YtodabmkcihafhaaGreatDoor
open Go.RowKit
set_option linter.unusedVariables false

theorem plus_c {b : Nat} {fl : Bool} {w w0 : World} (h : RkSt b fl w) (g : w.grownBy w0 none) : RkSt b fl w0 := by
  unfold RkSt
  rw [g.block b h.lt (by simp)]
  exact h
set_option maxHeartbeats 1000000 in
theorem less_any (b : Nat) (fl : Bool) (x y : Fr) (w : World) (hx : x.Ok) (hy : y.Ok) (h : RkSt b fl w) :
    Calls Tryz.prog 178 #[.pointer (some ⟨b, 0, none⟩), .agg #[.int .i64 x.n, .int .i64 x.d], .agg #[.int .i64 y.n, .int .i64 y.d]] w fun e w' => e = .returned (.agg #[.int .i64 (plF x y.neg).n, .int .i64 (plF x y.neg).d]) ∧ RkSt b (fl || plB x y.neg) w' ∧ w.grownBy w' (some b) := by
  have c1 := fun W => negated_any y W hy
  have c2 := fun W h => plus_any b fl x y.neg W hx hy.neg h
  generalize plF x y.neg = F at *
  generalize plB x y.neg = B at *
  have hlt := h.lt
  have hh : Hid (RkSt b fl w) := h
  have C1 : Hid (∀ (W : World), Calls Tryz.prog 148 #[.agg #[.int .i64 y.n, .int .i64 y.d]] W fun e w' => e = .returned (.agg #[.int .i64 y.neg.n, .int .i64 y.neg.d]) ∧ Below W.heap.size W w') := c1
  have C2 : Hid (∀ (W : World), RkSt b fl W → Calls Tryz.prog 177 #[.pointer (some ⟨b, 0, none⟩), .agg #[.int .i64 x.n, .int .i64 x.d], .agg #[.int .i64 y.neg.n, .int .i64 y.neg.d]] W fun e w' => e = .returned (.agg #[.int .i64 F.n, .int .i64 F.d]) ∧ RkSt b (fl || B) w' ∧ W.grownBy w' (some b)) := c2
  clear h hx hy c1 c2
  go_enter Tryz.func178, Tryz.ntmps178
  go_wp2_with fail
  obtain ⟨W, hW⟩ : ∃ W, W = ((w.alloc (.cells #[.int .i64 x.n, .int .i64 x.d] 80)).alloc (.cells #[.int .i64 y.n, .int .i64 y.d] 80)).alloc (.cells #[.int .i64 0, .int .i64 0] 80) := ⟨_, rfl⟩
  have hsz : W.heap.size = w.heap.size + 3 := by rw [hW]; simp
  have hx0 : W.heap[w.heap.size]? = some (.cells #[.int .i64 x.n, .int .i64 x.d] 80 (0, 0)) := by
    rw [hW, Below.heap_alloc _ _ _ (by simp; omega), Below.heap_alloc _ _ _ (by simp)]
    exact heap_alloc_new w _
  have hy0 : W.heap[w.heap.size + 1]? = some (.cells #[.int .i64 y.n, .int .i64 y.d] 80 (0, 0)) := by
    rw [hW, Below.heap_alloc _ _ _ (by simp)]
    have := heap_alloc_new (w.alloc (.cells #[.int .i64 x.n, .int .i64 x.d] 80)) (.cells #[.int .i64 y.n, .int .i64 y.d] 80)
    simpa using this
  have hz0 : W.heap[w.heap.size + 1 + 1]? = some (.cells #[.int .i64 0, .int .i64 0] 80 (0, 0)) := by
    rw [hW]
    have := heap_alloc_new ((w.alloc (.cells #[.int .i64 x.n, .int .i64 x.d] 80)).alloc (.cells #[.int .i64 y.n, .int .i64 y.d] 80)) (.cells #[.int .i64 0, .int .i64 0] 80)
    rw [show ((w.alloc (.cells #[.int .i64 x.n, .int .i64 x.d] 80)).alloc (.cells #[.int .i64 y.n, .int .i64 y.d] 80)).heap.size = w.heap.size + 1 + 1 by simp] at this
    exact this
  have hr0 : RkSt b fl W := by
    unfold RkSt
    rw [hW, Below.heap_alloc _ _ _ (by simp; omega), Below.heap_alloc _ _ _ (by simp; omega), Below.heap_alloc _ _ _ (by omega)]
    exact hh.out
  have hg0 : w.grownBy W (some b) := by rw [hW]; exact gb_alloc (gb_alloc (gb_alloc (gb_refl w _) _) _) _
  rw [← hW]
  obtain ⟨x0, x1, fx0, fx1⟩ := two_cells hx0
  obtain ⟨y0, y1, fy0, fy1⟩ := two_cells hy0
  clear hW hh
  go_region_with (first
    | (go_at_call 148; refine (C1.out _).mono ?_; rintro e w1 ⟨rfl, hb1⟩
       have hx1 : w1.heap[w.heap.size]? = some (.cells #[.int .i64 x.n, .int .i64 x.d] 80 (0, 0)) := (hb1.block _ (by simp; omega)).trans hx0
       obtain ⟨xx0, xx1, _, _⟩ := two_cells hx1)
    | (go_at_call 177; refine (C2.out _ ?_).mono ?_
       (unfold RkSt; rw [hb1.block _ (by simp; omega)]; exact hr0)
       rintro e w2 ⟨rfl, hr2, hg2⟩
       have hz2 : w2.heap[w.heap.size + 1 + 1]? = some (.cells #[.int .i64 0, .int .i64 0] 80 (0, 0)) := (hg2.block _ (by have := hb1.size; simp at this; omega) (by simp; omega)).trans ((hb1.block _ (by simp; omega)).trans hz0)
       obtain ⟨z0, z1, fz0, fz1⟩ := two_cells hz2))
  all_goals
    go_wp2_with fail
    refine bodyPost_ret (v := .agg #[.int .i64 F.n, .int .i64 F.d]) (by simp [results, Tryz.results178, go_sem, z0, z1]) rfl ?_
    have hb1' : Below W.heap.size W w1 := ⟨hb1.os, hb1.tape, hb1.output, hb1.size, hb1.block⟩
    refine ⟨rfl, ?_, gb_new (gb_new (gb_trans (gb_below hg0 hb1') hg2) (by omega) 0 _) (by omega) 1 _⟩
    unfold RkSt
    rw [Below.heap_setCell _ _ _ _ (by simp; omega), Below.heap_setCell _ _ _ _ (by simp; omega)]
    exact hr2
end Go.Proofs.YtodabmkcihafhaaGreatDoor

/- The program's numbers: number, Add, Subtract, Multiply. -/
namespace Go.Proofs.YtodabmkcihafhaaGreatDoor
open Go.RowKit
set_option linter.unusedVariables false

/-! ### The sentinels -/
/-- The two sentinels, in blocks below N. -/
structure Sen (N : Nat) (aZ aB : Addr) (w : World) : Prop where
  z : w.cell? ⟨2, 0, none⟩ = some (.iface 285 (.pointer (some aZ)))
  b : w.cell? ⟨4, 0, none⟩ = some (.iface 285 (.pointer (some aB)))
  ne : aB ≠ aZ
  hz : ∃ c t, w.heap[aZ.block]? = some (.cells c t (0, 0))
  hb : ∃ c t, w.heap[aB.block]? = some (.cells c t (0, 0))
  lt : 5 ≤ N ∧ aZ.block < N ∧ aB.block < N
theorem Sen.kept {N : Nat} {aZ aB : Addr} {w w' : World} (h : Sen N aZ aB w) (k : ∀ j, j < N → w'.heap[j]? = w.heap[j]?) : Sen N aZ aB w' := by
  obtain ⟨l0, l1, l2⟩ := h.lt
  refine ⟨?_, ?_, h.ne, ?_, ?_, h.lt⟩
  · rw [World.cell?_of_block (w := w) (k _ (by simp; omega))]; exact h.z
  · rw [World.cell?_of_block (w := w) (k _ (by simp; omega))]; exact h.b
  · rw [k _ l1]; exact h.hz
  · rw [k _ l2]; exact h.hb
theorem Sen.grown {N b : Nat} {aZ aB : Addr} {w w' : World} (h : Sen N aZ aB w) (g : w.grownBy w' (some b)) (hb : N ≤ b) (hs : N ≤ w.heap.size) : Sen N aZ aB w' :=
  h.kept fun j hj => g.block j (by omega) (fun e => by injection e with e; omega)
theorem Sen.below {N : Nat} {aZ aB : Addr} {w w' : World} (h : Sen N aZ aB w) (g : Below w.heap.size w w') (hs : N ≤ w.heap.size) : Sen N aZ aB w' :=
  h.kept fun j hj => g.block j (by omega)
theorem Sen.alloc {N : Nat} {aZ aB : Addr} {w : World} (h : Sen N aZ aB w) (hs : N ≤ w.heap.size) (o : Obj) : Sen N aZ aB (w.alloc o) :=
  h.below (fr_below w o) hs

def errV (a : Addr) : Value := .iface 285 (.pointer (some a))
def nV (x : Num) : Value := .agg #[.int .i64 x.re.n, .int .i64 x.re.d, .int .i64 x.im.n, .int .i64 x.im.d]
theorem four_cells {w : World} {B : Nat} {x y z u : Value} {t : TypeId} (h : w.heap[B]? = some (.cells #[x, y, z, u] t (0, 0))) : w.cell? ⟨B, 0, none⟩ = some x ∧ w.cell? ⟨B, 1, none⟩ = some y ∧ w.cell? ⟨B, 2, none⟩ = some z ∧ w.cell? ⟨B, 3, none⟩ = some u := by
  simp [World.cell?, h]

/-! ### Cells behind new blocks -/
theorem cellA {w : World} {a : Addr} {v : Value} (h : w.cell? a = some v) (o : Obj) : (w.alloc o).cell? a = some v := by
  rw [World.cell?_alloc_lt _ _ _ (World.block_lt_of_cell? _ _ h)]; exact h
theorem frozA {w : World} {a : Addr} {v : Value} (h : w.cell? a = some v) (f : w.frozen? a = false) (o : Obj) : (w.alloc o).frozen? a = false := by
  rw [World.frozen?_of_block (w := w) (Below.heap_alloc w o a.block (World.block_lt_of_cell? _ _ h))]; exact f
theorem cellA2 {w : World} {a : Addr} {v : Value} (h : w.cell? a = some v) (o p : Obj) : ((w.alloc o).alloc p).cell? a = some v := cellA (cellA h o) p
theorem cellA3 {w : World} {a : Addr} {v : Value} (h : w.cell? a = some v) (o p q : Obj) : (((w.alloc o).alloc p).alloc q).cell? a = some v := cellA (cellA2 h o p) q
theorem cellA4 {w : World} {a : Addr} {v : Value} (h : w.cell? a = some v) (o p q r : Obj) : ((((w.alloc o).alloc p).alloc q).alloc r).cell? a = some v := cellA (cellA3 h o p q) r
theorem cellA5 {w : World} {a : Addr} {v : Value} (h : w.cell? a = some v) (o p q r s : Obj) : (((((w.alloc o).alloc p).alloc q).alloc r).alloc s).cell? a = some v := cellA (cellA4 h o p q r) s

set_option maxHeartbeats 1000000 in
theorem number_any (N b : Nat) (aZ aB : Addr) (fl : Bool) (x y : Fr) (w : World) (hS : Sen N aZ aB w) (hN : N ≤ w.heap.size) (h : RkSt b fl w) :
    Calls Tryz.prog 176 #[.pointer (some ⟨b, 0, none⟩), .agg #[.int .i64 x.n, .int .i64 x.d], .agg #[.int .i64 y.n, .int .i64 y.d]] w fun e w' => e = .returned (.tuple #[if fl then .agg #[.int .i64 0, .int .i64 0, .int .i64 0, .int .i64 0] else .agg #[.int .i64 x.n, .int .i64 x.d, .int .i64 y.n, .int .i64 y.d], if fl then .iface 285 (.pointer (some aB)) else .nilIface]) ∧ Below w.heap.size w w' := by
  have hlt := h.lt
  obtain ⟨r0, fr0⟩ := h.cells
  have r3 := cellA3 r0
  have g3 := cellA3 hS.b
  clear hS
  cases fl with
  | true =>
    go_enter Tryz.func176, Tryz.ntmps176
    go_wp2_with fail
    go_region
    go_wp2_with fail
    refine bodyPost_ret (v := .tuple #[.agg #[.int .i64 0, .int .i64 0, .int .i64 0, .int .i64 0], .iface 285 (.pointer (some aB))]) (by simp [results, Tryz.results176, go_sem]) rfl ?_
    exact ⟨rfl, ((((Below.refl _ w).alloc (Nat.le_refl _) _).alloc (by simp) _).alloc (by simp; omega) _).drew⟩
  | false =>
    go_enter Tryz.func176, Tryz.ntmps176
    go_wp2_with fail
    refine bodyPost_ret (v := .tuple #[.agg #[.int .i64 x.n, .int .i64 x.d, .int .i64 y.n, .int .i64 y.d], .nilIface]) (by simp [results, Tryz.results176, go_sem]) rfl ?_
    exact ⟨rfl, (((Below.refl _ w).alloc (Nat.le_refl _) _).alloc (by simp) _).alloc (by simp; omega) _⟩
end Go.Proofs.YtodabmkcihafhaaGreatDoor

/- A region that draws its order, by what holds between two operations. -/
namespace Go.Proofs.YtodabmkcihafhaaGreatDoor
open Go.RowKit
set_option linter.unusedVariables false

section
variable {P : Program} {md : Region.Mode} {ops : Array Oper} {Q : Exit → Act → World → Prop}

theorem inv_count {l : Array Bool} {i : Nat} (h : l.getD i true = false) : (l.setIfInBounds i true).toList.count false + 1 = l.toList.count false := by
  have hi : i < l.size := by
    apply Nat.lt_of_not_le
    intro hle
    rw [Array.getD_eq_getD_getElem?, Array.getElem?_eq_none hle] at h
    cases h
  have hv : l[i] = false := by
    rw [Array.getD_eq_getD_getElem?, Array.getElem?_eq_getElem hi] at h
    exact h
  obtain ⟨L⟩ := l
  simp only [List.getElem_toArray] at *
  rw [show (Array.setIfInBounds ⟨L⟩ i true).toList = L.set i true by simp]
  have : ∀ (L : List Bool) (i : Nat) (hi : i < L.length), L[i] = false → (L.set i true).count false + 1 = L.count false := by
    intro L
    induction L with
    | nil => intro i hi; simp at hi
    | cons b r ih =>
      intro i hi hv
      cases i with
      | zero =>
        simp at hv
        subst hv
        simp
      | succ i =>
        have := ih i (by simpa using hi) (by simpa using hv)
        simp only [List.set_cons_succ, List.count_cons]
        omega
  exact this L i hi hv

/-- What holds between two operations, in whatever order they come up. -/
theorem wpAny_inv {I : Array Bool → Act → World → Prop}
    (hstep : ∀ l a w i o, I l a w → ops[i]? = some o → l.getD i true = false → (∀ e ∈ o.after, Region.binds md e = true → l.getD e.on false = true) →
      ∀ K : Act → World → Prop, (∀ a' w', I (l.setIfInBounds i true) a' w' → K a' w') → if Region.wanted o (yielded ops a.tmps) = true then Oper.wp P o a w K Q else K (a.put o.dst undef) w)
    (hend : ∀ l a w, I l a w → Region.ready md ops l = [] → Q .normal a w) :
    ∀ (fuel : Nat) (l : Array Bool) (a : Act) (w : World), I l a w → l.toList.count false ≤ fuel → wpAny P md ops Q fuel l a w := by
  intro fuel
  induction fuel with
  | zero =>
    intro l a w hI hc
    have hr : Region.ready md ops l = [] := by
      rw [List.eq_nil_iff_forall_not_mem]
      intro i hi
      have := inv_count (mem_ready.1 hi).1
      omega
    exact ⟨hr, hend l a w hI hr⟩
  | succ fuel ih =>
    intro l a w hI hc
    refine ⟨fun h0 => hend l a w hI h0, fun i hi => ?_⟩
    obtain ⟨h0, o, ho, hall⟩ := mem_ready.1 hi
    refine wpOp_step ho (fun K hK => hstep l a w i o hI ho h0 hall K (fun a' w' h' => hK a' w' (ih _ a' w' h' ?_)))
    have := inv_count h0
    omega

/-- Every edge leads back: where nothing may come up, all have. -/
def backB (ops : Array Oper) : Bool := (List.range ops.size).all fun i => match ops[i]? with | some o => o.after.all fun e => !Region.binds .any e || decide (e.on < i) | none => true
theorem all_listed (hb : backB ops = true) {l : Array Bool} (hs : l.size = ops.size) (hr : Region.ready .any ops l = []) : ∀ i, i < ops.size → l.getD i false = true := by
  intro i
  induction i using Nat.strongRecOn with
  | ind i ih =>
    intro hi
    have hil : i < l.size := by omega
    cases hv : l.getD i true with
    | true =>
      rw [Array.getD_eq_getD_getElem?, Array.getElem?_eq_getElem hil] at hv ⊢
      exact hv
    | false =>
      exfalso
      obtain ⟨o, ho⟩ : ∃ o, ops[i]? = some o := ⟨ops[i], Array.getElem?_eq_getElem hi⟩
      have hmem : i ∈ Region.ready .any ops l := by
        refine mem_ready.2 ⟨hv, o, ho, fun e he hbd => ?_⟩
        have h1 : (match ops[i]? with | some o => o.after.all fun e => !Region.binds .any e || decide (e.on < i) | none => true) = true := List.all_eq_true.1 hb i (List.mem_range.2 hi)
        rw [ho] at h1
        have h2 : e.on < i := by
          have := Array.all_eq_true_iff_forall_mem.1 h1 e he
          rw [hbd] at this
          simpa using this
        exact ih e.on h2 (by omega)
      rw [hr] at hmem
      cases hmem

/-! ### A region whose operations yield what is known ahead, in whatever order -/
def actOf (nt : Nat) (u : Nat → Value) : Act := ⟨((List.range nt).map u).toArray, []⟩
def upB (b : Nat → Bool) (i : Nat) : Nat → Bool := fun k => if k = i then true else b k
theorem actOf_put (nt : Nat) (u : Nat → Value) (s : Nat) (v : Value) (hs : s < nt) : (actOf nt u).put (some s) v = actOf nt (fun k => if k = s then v else u k) := by
  unfold actOf Act.put
  simp only
  congr 1
  apply Array.ext_getElem?
  intro i
  rw [Array.getElem?_setIfInBounds]
  simp only [List.size_toArray, List.length_map, List.length_range, List.getElem?_toArray, List.getElem?_map]
  by_cases h : s = i
  · subst h
    simp [hs]
  · rw [if_neg h]
    by_cases hi : i < nt
    · simp [List.getElem?_range hi, Ne.symm h]
    · rw [List.getElem?_eq_none (by simpa using hi)]; rfl

/-- The slots that the operations fill: each once. -/
def slotsB (ops : Array Oper) (nt : Nat) : Bool :=
  (List.range ops.size).all fun i => (List.range ops.size).all fun j => match (ops[i]?).bind Oper.dst, (ops[j]?).bind Oper.dst with
    | some s, some t => decide (s < nt) && (decide (s ≠ t) || decide (i = j))
    | some s, none => decide (s < nt)
    | _, _ => true
theorem slots_lt {nt : Nat} (h : slotsB ops nt = true) {i s : Nat} (hi : (ops[i]?).bind Oper.dst = some s) : s < nt := by
  have hlt : i < ops.size := by
    apply Nat.lt_of_not_le
    intro hle
    rw [Array.getElem?_eq_none hle] at hi
    cases hi
  have := List.all_eq_true.1 (List.all_eq_true.1 h i (List.mem_range.2 hlt)) i (List.mem_range.2 hlt)
  rw [hi] at this
  simp at this
  exact this
theorem slots_inj {nt : Nat} (h : slotsB ops nt = true) {i j s : Nat} (hi : (ops[i]?).bind Oper.dst = some s) (hj : (ops[j]?).bind Oper.dst = some s) : i = j := by
  have lt : ∀ {k : Nat}, (ops[k]?).bind Oper.dst = some s → k < ops.size := by
    intro k hk
    apply Nat.lt_of_not_le
    intro hle
    rw [Array.getElem?_eq_none hle] at hk
    cases hk
  have := List.all_eq_true.1 (List.all_eq_true.1 h i (List.mem_range.2 (lt hi))) j (List.mem_range.2 (lt hj))
  rw [hi, hj] at this
  simp at this
  exact this.2

/-- What the slots hold: what an operation that has come up yields; all others as at the start. -/
structure Slots (ops : Array Oper) (R : Nat → Value → Prop) (u0 : Nat → Value) (b : Nat → Bool) (u : Nat → Value) : Prop where
  got : ∀ k s : Nat, (ops[k]?).bind Oper.dst = some s → b k = true → R k (u s)
  old : ∀ s : Nat, (∀ k : Nat, (ops[k]?).bind Oper.dst ≠ some s) → u s = u0 s
def noDstB (ops : Array Oper) (s : Nat) : Bool := ops.all fun o => decide (o.dst ≠ some s)
theorem Slots.oldB {R : Nat → Value → Prop} {u0 : Nat → Value} {b : Nat → Bool} {u : Nat → Value} (h : Slots ops R u0 b u) (s : Nat) (hb : noDstB ops s = true) : u s = u0 s := by
  refine h.old s (fun k e => ?_)
  cases ho : ops[k]? with
  | none => rw [ho] at e; cases e
  | some o =>
    rw [ho] at e
    have := Array.all_eq_true_iff_forall_mem.1 hb o (Array.mem_of_getElem? ho)
    simp at this
    exact this e
def upV (u : Nat → Value) (d : Option Nat) (v : Value) : Nat → Value := match d with | some s => fun k => if k = s then v else u k | none => u

/-- A region that draws its order: R: what each operation yields; WI: the world, by what has come up and what the slots hold. -/
theorem region_inv {id nt : Nat} {a0 : Act} {w : World} (u0 : Nat → Value) (R : Nat → Value → Prop) (WI : (Nat → Bool) → (Nat → Value) → World → Prop) (ha : a0 = actOf nt u0) (hm : P.follows .mixedOrders = true) (hback : backB ops = true) (hslots : slotsB ops nt = true) (h0 : WI (fun _ => false) u0 { w with drawn := w.drawn + 1 })
    (hstep : ∀ (i : Nat) (o : Oper) (b : Nat → Bool) (u : Nat → Value) (w' : World), ops[i]? = some o → b i = false → (∀ e ∈ o.after, Region.binds .any e = true → b e.on = true) → Slots ops R u0 b u → WI b u w' →
      ∀ K : Act → World → Prop, (∀ v w'' A, (actOf nt u).put o.dst v = A → (o.dst.isSome = true → R i v) → WI (upB b i) (upV u o.dst v) w'' → K A w'') → if Region.wanted o (yielded ops (actOf nt u).tmps) = true then Oper.wp P o (actOf nt u) w' K Q else K ((actOf nt u).put o.dst undef) w')
    (hend : ∀ (b : Nat → Bool) (u : Nat → Value) (w' : World), (∀ k, k < ops.size → b k = true) → Slots ops R u0 b u → WI b u w' → Q .normal (actOf nt u) w') :
    (Code.region id ops true).wp P Q a0 w := by
  subst ha
  refine wp_region_any hm (wpAny_inv (I := fun l a w' => ∃ (b : Nat → Bool) (u : Nat → Value), l = ((List.range ops.size).map b).toArray ∧ a = actOf nt u ∧ Slots ops R u0 b u ∧ WI b u w') ?_ ?_ _ _ _ _ ?_ ?_)
  · rintro l a w' i o ⟨b, u, rfl, rfl, hU, hW⟩ ho hl hall K hK
    have hi : i < ops.size := (Array.getElem?_eq_some_iff.1 ho).1
    have gd : ∀ k d, k < ops.size → (((List.range ops.size).map b).toArray).getD k d = b k := by
      intro k d hk
      rw [Array.getD_eq_getD_getElem?]
      simp [List.getElem?_range hk]
    have hbi : b i = false := by rw [← gd i true hi]; exact hl
    refine hstep i o b u w' ho hbi (fun e he hb => ?_) hU hW K (fun v w'' A hA hv hW'' => hA ▸ hK _ _ ?_)
    · have h1 := hall e he hb
      rcases Nat.lt_or_ge e.on ops.size with h2 | h2
      · rw [gd _ _ h2] at h1; exact h1
      · rw [Array.getD_eq_getD_getElem?, Array.getElem?_eq_none (by simpa using h2)] at h1; cases h1
    · have hset : (((List.range ops.size).map b).toArray).setIfInBounds i true = ((List.range ops.size).map (upB b i)).toArray := by
        apply Array.ext_getElem?
        intro k
        rw [Array.getElem?_setIfInBounds]
        simp only [List.size_toArray, List.length_map, List.length_range, List.getElem?_toArray, List.getElem?_map]
        by_cases h : i = k
        · subst h
          simp [hi, upB]
        · rw [if_neg h]
          by_cases hk : k < ops.size
          · simp [List.getElem?_range hk, upB, Ne.symm h]
          · rw [List.getElem?_eq_none (by simpa using hk)]; rfl
      have hdst : (ops[i]?).bind Oper.dst = o.dst := by rw [ho]; rfl
      cases hd : o.dst with
      | none =>
        rw [hd] at hW''
        refine ⟨upB b i, u, hset, rfl, ⟨fun k s hk hb => ?_, hU.old⟩, hW''⟩
        unfold upB at hb
        split at hb
        · rename_i e; subst e; rw [hdst, hd] at hk; cases hk
        · exact hU.got k s hk hb
      | some s =>
        rw [hd] at hW''
        have hs : (ops[i]?).bind Oper.dst = some s := by rw [hdst, hd]
        have hv' := hv (by rw [hd]; rfl)
        refine ⟨upB b i, upV u (some s) v, hset, actOf_put nt u s v (slots_lt hslots hs), ⟨fun k t hk hb => ?_, fun t ht => ?_⟩, hW''⟩
        · show R k (if t = s then v else u t)
          by_cases e : t = s
          · subst e
            have := slots_inj hslots hk hs
            subst this
            rw [if_pos rfl]
            exact hv'
          · rw [if_neg e]
            unfold upB at hb
            split at hb
            · rename_i e2; subst e2; rw [hs] at hk; injection hk with hk; exact absurd hk.symm e
            · exact hU.got k t hk hb
        · show (if t = s then v else u t) = u0 t
          have e : t ≠ s := fun e => ht i (by rw [e]; exact hs)
          rw [if_neg e]
          exact hU.old t ht
  · rintro l a w' ⟨b, u, rfl, rfl, hU, hW⟩ hr
    refine hend b u w' (fun k hk => ?_) hU hW
    have := all_listed hback (by simp) hr k hk
    rw [Array.getD_eq_getD_getElem?] at this
    simpa [List.getElem?_range hk] using this
  · refine ⟨fun _ => false, u0, ?_, rfl, ⟨fun k s _ h => (by cases h), fun _ _ => rfl⟩, h0⟩
    apply Array.ext_getElem?
    intro k
    simp only [List.getElem?_toArray, List.getElem?_map]
    by_cases hk : k < ops.size
    · simp [hk]
    · rw [List.getElem?_eq_none (by simpa using hk), Array.getElem?_eq_none (by simpa using hk)]; rfl
  · simp
end
end Go.Proofs.YtodabmkcihafhaaGreatDoor

/- What a call on two numbers has in memory. -/
namespace Go.Proofs.YtodabmkcihafhaaGreatDoor
open Go.RowKit
set_option linter.unusedVariables false

def outV (aB : Addr) (fl : Bool) (x : Num) : Value := .tuple #[if fl then .agg #[.int .i64 0, .int .i64 0, .int .i64 0, .int .i64 0] else .agg #[.int .i64 x.re.n, .int .i64 x.re.d, .int .i64 x.im.n, .int .i64 x.im.d], if fl then .iface 285 (.pointer (some aB)) else .nilIface]
theorem RkSt.new (w : World) : RkSt w.heap.size false (w.alloc (.cells #[.bool false] 254)) := heap_alloc_new w _

/-- The end, the world under a name of its own. -/
theorem bp_gen {P : Program} {f : Func} {Q : Ending → World → Prop} {x : Exit} {a : Act} {W : World} (R : World → Prop) (h : R W) (k : ∀ W', R W' → bodyPost P f Q x a W') : bodyPost P f Q x a W := k W h
theorem hidMk {p : Prop} (h : p) : Hid p := h
/-- The blocks of a call on two numbers: they, the result, the reckoner (block R), and fractions in blocks of their own. -/
structure Rek (w0 : World) (R : Nat) (x y : Num) (ex : List (Nat × Fr)) (fl : Bool) (w : World) : Prop where
  hx : w.heap[w0.heap.size]? = some (.cells #[.int .i64 x.re.n, .int .i64 x.re.d, .int .i64 x.im.n, .int .i64 x.im.d] 82 (0, 0))
  hy : w.heap[w0.heap.size + 1]? = some (.cells #[.int .i64 y.re.n, .int .i64 y.re.d, .int .i64 y.im.n, .int .i64 y.im.d] 82 (0, 0))
  hz : w.heap[w0.heap.size + 1 + 1]? = some (.cells #[.int .i64 0, .int .i64 0, .int .i64 0, .int .i64 0] 82 (0, 0))
  hr : RkSt R fl w
  hR : w0.heap.size + 1 + 1 < R
  hb : Below w0.heap.size w0 w
  hex : ∀ p ∈ ex, R < p.1 ∧ w.heap[p.1]? = some (.cells #[.int .i64 p.2.n, .int .i64 p.2.d] 80 (0, 0))
theorem Rek.grown {w0 w w' : World} {R : Nat} {x y : Num} {ex : List (Nat × Fr)} {fl fl' : Bool} (h : Rek w0 R x y ex fl w) (g : w.grownBy w' (some R)) (hr : RkSt R fl' w') : Rek w0 R x y ex fl' w' := by
  have l := h.hr.lt
  have r := h.hR
  refine ⟨?_, ?_, ?_, hr, r, ?_, fun p hp => ⟨(h.hex p hp).1, ?_⟩⟩
  · rw [g.block _ (by omega) (by simp; omega)]; exact h.hx
  · rw [g.block _ (by omega) (by simp; omega)]; exact h.hy
  · rw [g.block _ (by omega) (by simp; omega)]; exact h.hz
  · exact h.hb.trans (gb_to_below g (by omega) (by omega))
  · have q := h.hex p hp
    rw [g.block _ (Array.getElem?_eq_some_iff.1 q.2).1 (by simp; omega)]; exact q.2
theorem Rek.below {w0 w w' : World} {R : Nat} {x y : Num} {ex : List (Nat × Fr)} {fl : Bool} (h : Rek w0 R x y ex fl w) (g : Below w.heap.size w w') : Rek w0 R x y ex fl w' := by
  have l := h.hr.lt
  exact h.grown ⟨g.os, g.tape, g.output, g.size, fun j hj _ => g.block j hj⟩ (by unfold RkSt; rw [g.block _ l]; exact h.hr)
theorem Rek.drew {w0 w : World} {R : Nat} {x y : Num} {ex : List (Nat × Fr)} {fl : Bool} (h : Rek w0 R x y ex fl w) : Rek w0 R x y ex fl w.drew := ⟨h.hx, h.hy, h.hz, h.hr, h.hR, h.hb.drew, h.hex⟩
theorem Rek.set {w0 w : World} {R B : Nat} {x y : Num} {ex : List (Nat × Fr)} {fl : Bool} (h : Rek w0 R x y ex fl w) (hB : R < B) (hq : ∀ q ∈ ex, q.1 < B) (v u : Value) : Rek w0 R x y ex fl ((w.setCell ⟨B, 0, none⟩ v).setCell ⟨B, 1, none⟩ u) := by
  have r := h.hR
  have k : ∀ j, j ≠ B → ((w.setCell ⟨B, 0, none⟩ v).setCell ⟨B, 1, none⟩ u).heap[j]? = w.heap[j]? := fun j hj => by
    rw [Below.heap_setCell _ _ _ _ hj, Below.heap_setCell _ _ _ _ hj]
  refine ⟨?_, ?_, ?_, ?_, r, ?_, fun p hp => ⟨(h.hex p hp).1, ?_⟩⟩
  · rw [k _ (by omega)]; exact h.hx
  · rw [k _ (by omega)]; exact h.hy
  · rw [k _ (by omega)]; exact h.hz
  · unfold RkSt; rw [k _ (by omega)]; exact h.hr
  · exact (h.hb.setCell (p := ⟨B, 0, none⟩) (by simp; omega) _).setCell (p := ⟨B, 1, none⟩) (by simp; omega) _
  · rw [k _ (by have := hq p hp; omega)]; exact (h.hex p hp).2
theorem Rek.more {w0 w : World} {R B : Nat} {x y : Num} {ex : List (Nat × Fr)} {fl : Bool} {f : Fr} (h : Rek w0 R x y ex fl w) (hB : R < B) (hc : w.heap[B]? = some (.cells #[.int .i64 f.n, .int .i64 f.d] 80 (0, 0))) : Rek w0 R x y ((B, f) :: ex) fl w :=
  ⟨h.hx, h.hy, h.hz, h.hr, h.hR, h.hb, fun p hp => by
    rcases List.mem_cons.1 hp with rfl | hp
    · exact ⟨hB, hc⟩
    · exact h.hex p hp⟩
theorem two_set {w : World} {B : Nat} {x y : Value} {t : TypeId} (h : w.heap[B]? = some (.cells #[x, y] t (0, 0))) (v u : Value) : ((w.setCell ⟨B, 0, none⟩ v).setCell ⟨B, 1, none⟩ u).heap[B]? = some (.cells #[v, u] t (0, 0)) := by
  simp [World.setCell, Array.getElem?_modify, h]
theorem Rek.new (w : World) (x y : Num) : Rek w (w.heap.size + 1 + 1 + 1) x y [] false
    ((((w.alloc (.cells #[.int .i64 x.re.n, .int .i64 x.re.d, .int .i64 x.im.n, .int .i64 x.im.d] 82)).alloc (.cells #[.int .i64 y.re.n, .int .i64 y.re.d, .int .i64 y.im.n, .int .i64 y.im.d] 82)).alloc (.cells #[.int .i64 0, .int .i64 0, .int .i64 0, .int .i64 0] 82)).alloc (.cells #[.bool false] 254)) := by
  refine ⟨?_, ?_, ?_, ?_, by omega, ?_, fun p hp => by cases hp⟩
  · rw [Below.heap_alloc _ _ _ (by simp; omega), Below.heap_alloc _ _ _ (by simp; omega), Below.heap_alloc _ _ _ (by simp)]
    exact heap_alloc_new w _
  · rw [Below.heap_alloc _ _ _ (by simp), Below.heap_alloc _ _ _ (by simp)]
    have := heap_alloc_new (w.alloc (.cells #[.int .i64 x.re.n, .int .i64 x.re.d, .int .i64 x.im.n, .int .i64 x.im.d] 82)) (.cells #[.int .i64 y.re.n, .int .i64 y.re.d, .int .i64 y.im.n, .int .i64 y.im.d] 82)
    simpa using this
  · rw [Below.heap_alloc _ _ _ (by simp)]
    have := heap_alloc_new ((w.alloc (.cells #[.int .i64 x.re.n, .int .i64 x.re.d, .int .i64 x.im.n, .int .i64 x.im.d] 82)).alloc (.cells #[.int .i64 y.re.n, .int .i64 y.re.d, .int .i64 y.im.n, .int .i64 y.im.d] 82)) (.cells #[.int .i64 0, .int .i64 0, .int .i64 0, .int .i64 0] 82)
    simpa using this
  · have := heap_alloc_new (((w.alloc (.cells #[.int .i64 x.re.n, .int .i64 x.re.d, .int .i64 x.im.n, .int .i64 x.im.d] 82)).alloc (.cells #[.int .i64 y.re.n, .int .i64 y.re.d, .int .i64 y.im.n, .int .i64 y.im.d] 82)).alloc (.cells #[.int .i64 0, .int .i64 0, .int .i64 0, .int .i64 0] 82)) (.cells #[.bool false] 254)
    unfold RkSt
    simpa using this
  · exact ((((Below.refl _ w).alloc (Nat.le_refl _) _).alloc (by simp) _).alloc (by simp; omega) _).alloc (by simp; omega) _
/-- A result of four cells, written. -/
theorem four_set {w : World} {B : Nat} {x y z u : Value} {t : TypeId} (h : w.heap[B]? = some (.cells #[x, y, z, u] t (0, 0))) (a b c d : Value) : ((((w.setCell ⟨B, 0, none⟩ a).setCell ⟨B, 1, none⟩ b).setCell ⟨B, 2, none⟩ c).setCell ⟨B, 3, none⟩ d).heap[B]? = some (.cells #[a, b, c, d] t (0, 0)) := by
  simp [World.setCell, Array.getElem?_modify, h]
theorem four_frozen {w : World} {B : Nat} {x y z u : Value} {t : TypeId} (h : w.heap[B]? = some (.cells #[x, y, z, u] t (0, 0))) : w.frozen? ⟨B, 0, none⟩ = false ∧ w.frozen? ⟨B, 1, none⟩ = false ∧ w.frozen? ⟨B, 2, none⟩ = false ∧ w.frozen? ⟨B, 3, none⟩ = false := by
  simp [World.frozen?, h]
theorem below_four {w0 w : World} {B : Nat} (h : Below w0.heap.size w0 w) (hB : w0.heap.size ≤ B) (a b c d : Value) : Below w0.heap.size w0 ((((w.setCell ⟨B, 0, none⟩ a).setCell ⟨B, 1, none⟩ b).setCell ⟨B, 2, none⟩ c).setCell ⟨B, 3, none⟩ d) :=
  (((h.setCell (p := ⟨B, 0, none⟩) hB _).setCell (p := ⟨B, 1, none⟩) hB _).setCell (p := ⟨B, 2, none⟩) hB _).setCell (p := ⟨B, 3, none⟩) hB _
/-- What number answers, its parts under names. -/
theorem outV_parts (aB : Addr) (fl : Bool) (x : Num) : ∃ (p q r s : Int) (E : Value), outV aB fl x = .tuple #[.agg #[.int .i64 p, .int .i64 q, .int .i64 r, .int .i64 s], E] ∧ (E = .nilIface ∨ E = .iface 285 (.pointer (some aB))) := by
  cases fl
  · exact ⟨_, _, _, _, _, rfl, Or.inl rfl⟩
  · exact ⟨_, _, _, _, _, rfl, Or.inr rfl⟩
end Go.Proofs.YtodabmkcihafhaaGreatDoor

/- The document's reader: numeral. -/
import Derived.Test.YtodabmkcihafhaaAdd
import Derived.Test.YtodabmkcihafhaaPos
import Derived.Deep.DeepCutAuto
namespace Go.Proofs.Ytodabmkcihafhaa
open Go.RowKit
set_option linter.unusedVariables false

theorem RdSt.ext {s : ByteArray} {b i : Nat} {L : List Nd} {bad : Int} {w w' : World} (h : RdSt s b i L bad w) (he : ∀ k, k < w.heap.size → w'.heap[k]? = w.heap[k]?) : RdSt s b i L bad w' := by
  have hlt := h.lt
  obtain ⟨v, hb, ho⟩ := h
  refine ⟨v, (he b hlt).trans hb, ho.1, ?_⟩
  rcases ho.2 with h2 | ⟨g, cap, cur, hv, hg, hh, r⟩
  · exact Or.inl h2
  · exact Or.inr ⟨g, cap, cur, hv, hg, (he g (Array.getElem?_eq_some_iff.1 hh).1).trans hh, r⟩
theorem add_as (s : ByteArray) (b i : Nat) (L : List Nd) (bad : Int) (n : Nd) (V : Value) (w : World) (hL : L.length ≤ 1000) (h : RdSt s b i L bad w) (hV : V = .agg #[.int .i64 n.op, .int .i64 n.a, .int .i64 n.b, .int .i64 n.num, .int .i64 n.den, .string n.text, .int .i64 n.pl]) :
    Calls Try.prog 27 #[.pointer (some ⟨b, 0, none⟩), V] w
      fun e w' => e = .returned (.int .i64 L.length) ∧ RdSt s b i (L ++ [n]) bad w' ∧ Below b w w' := by
  subst hV
  exact add_any s b i L bad n w hL h
theorem RdSt.num1 {s : ByteArray} {b i : Nat} {L : List Nd} {bad : Int} {w : World} (h : RdSt s b i L bad w) (o : Obj) (m i' : Nat) (u : Value) : RdSt s b i' L bad (((((w.alloc o).drewN m).setCell ⟨b, 1, none⟩ (.int .i64 (i' : Nat))).setCell ⟨w.heap.size, 5, none⟩ u).drew) := by
  have hlt := h.lt
  refine (h.setI i').ext ?_
  intro k hk
  have hk2 : k < w.heap.size := by simpa [World.setCell] using hk
  show ((((w.alloc o).drewN m).setCell ⟨b, 1, none⟩ (.int .i64 (i' : Nat))).setCell ⟨w.heap.size, 5, none⟩ u).heap[k]? = _
  rw [Below.heap_setCell _ _ _ _ (by simp; omega)]
  by_cases e : k = b
  · subst e
    simp only [World.setCell, Array.getElem?_modify]
    rw [if_pos trivial, if_pos trivial]
    show Option.map _ (w.alloc o).heap[k]? = _
    rw [Below.heap_alloc _ _ _ hk2]
  · rw [Below.heap_setCell _ _ _ _ (by simpa using e), Below.heap_setCell _ _ _ _ (by simpa using e)]
    show (w.alloc o).heap[k]? = _
    rw [Below.heap_alloc _ _ _ hk2]
theorem below_num1 {b : Nat} {w0 w : World} (h : Below b w0 w) (hlt : b < w.heap.size) (o : Obj) (m : Nat) (u u' : Value) : Below b w0 (((((w.alloc o).drewN m).setCell ⟨b, 1, none⟩ u').setCell ⟨w.heap.size, 5, none⟩ u).drew) :=
  (((below_drewN (h.alloc (by omega) o) m).setCell (p := ⟨b, 1, none⟩) (Nat.le_refl b) _).setCell (p := ⟨w.heap.size, 5, none⟩) (by simp; omega) _).drew
theorem RdSt.alloc {s : ByteArray} {b i : Nat} {L : List Nd} {bad : Int} {w : World} (h : RdSt s b i L bad w) (o : Obj) : RdSt s b i L bad (w.alloc o) := by
  have hlt := h.lt
  obtain ⟨v, hb, ho⟩ := h
  exact ⟨v, by rw [Below.heap_alloc _ _ _ hlt]; exact hb, ho.alloc o⟩

theorem RdSt.num2 {s : ByteArray} {b i : Nat} {L : List Nd} {bad : Int} {w : World} (h : RdSt s b i L bad w) (o : Obj) : RdSt s b i L bad ((w.alloc o).drew) := h.alloc o
theorem skip_ex (s : ByteArray) (b i : Nat) (L : List Nd) (bad : Int) (w : World) (hs : s.size ≤ 120) (hi : i ≤ s.size) (h : RdSt s b i L bad w) :
    Calls Try.prog 26 #[.pointer (some ⟨b, 0, none⟩)] w fun e w' => e = .returned (.tuple #[]) ∧ ∃ n, w' = (w.drewN n).setCell ⟨b, 1, none⟩ (.int .i64 ((i + (atP s i).2 : Nat) : Int)) := by
  obtain ⟨v, hb, _⟩ := h
  obtain ⟨c0, c1, c2, c3, f1, f2, f3⟩ := rd_cells hb
  exact skip_exact s b i w hs hi c0 c1 f1

set_option maxHeartbeats 2000000 in
set_option maxRecDepth 100000 in
theorem numeral_any (s : ByteArray) (b i : Nat) (L : List Nd) (bad : Int) (w : World) (hs : s.size ≤ 120) (hL : L.length ≤ 1000) (hi : i < s.size) (h : RdSt s b i L bad w) :
    Calls Try.prog 43 #[.pointer (some ⟨b, 0, none⟩)] w
      fun e w' => e = .returned (.int .i64 L.length) ∧ RdSt s b (numEnd2 s i) (L ++ [numB s i]) bad w' ∧ Below b w w' := by
  have HH : Hid (RdSt s b i L bad w) := h
  obtain ⟨v, hb, _⟩ := h
  obtain ⟨c0, c1, c2, c3, f1, f2, f3⟩ := rd_cells hb
  clear hb
  go_enter Try.func43, Try.ntmps43
  go_wp2_with fail
  go_loopw [4, 5] (fun s4 s5 wr => ∃ k j n : Nat, k ≤ 3 ∧ s5 = .int .i64 k ∧ s4 = .int .i64 n ∧ j ≤ s.size ∧ i ≤ j ∧ n ≤ 999 ∧ Hid ((k = 0 ∧ n = 0) ∨ (k = 1 ∧ n ≤ 9) ∨ (k = 2 ∧ n ≤ 99) ∨ k = 3) ∧ Hid (digB s (bt s i == 48) (3 - k) j n = digB s (bt s i == 48) 3 i 0) ∧ RdSt s b j L bad wr ∧ Below b w wr) (fun _ s5 _ => 3 - (intOf s5).toNat)
  case atStart => exact ⟨0, i, 0, by omega, rfl, rfl, by omega, by omega, by omega, Or.inl ⟨rfl, rfl⟩, rfl, HH.out, Below.refl _ _⟩
  case round =>
    clear c0 c1 c2 c3 f1 f2 f3 HH
    obtain ⟨k, j, n, hk, rfl, rfl, hj, hij, hn, HN, HD, h, hbel⟩ := hrel
    have HH : Hid (RdSt s b j L bad wr) := h
    obtain ⟨v, hb, _⟩ := h
    obtain ⟨c0, c1, c2, c3, f1, f2, f3⟩ := rd_cells hb
    clear hb
    have g0 := bt_get s j
    have gi := bt_get s i
    go_wp2_with fail
    go_cut [64] (fun s64 wc => s64 = .bool (decide (k < 3 ∧ j < s.size ∧ 48 ≤ bt s j ∧ bt s j ≤ 57 ∧ ¬ (k = 1 ∧ bt s i = 48))) ∧ ∃ n, wc = wr.drewN n)
    case first =>
      by_cases a1 : k < 3
      · have A1 : (k : Int) < 3 := by omega
        by_cases a2 : j < s.size
        · have A2 : (j : Int) < s.size := by omega
          by_cases a3 : 48 ≤ bt s j
          · have A3 : (48 : Int) ≤ (bt s j : Nat) := by omega
            by_cases a4 : bt s j ≤ 57
            · have A4 : ((bt s j : Nat) : Int) ≤ 57 := by omega
              by_cases a5 : k = 1
              · have A5 : ((k : Int) == 1) = true := by simp; omega
                by_cases a6 : bt s i = 48
                · have A6 : (((bt s i : Nat) : Int) == 48) = true := by simp; omega
                  have B5 : Hid (k = 1) := a5
                  have B6 : Hid (bt s i = 48) := a6
                  clear a5 a6
                  go_quiet (fail)
                  go_wp2_with fail
                  go_meet
                  case rel => exact ⟨congrArg Value.bool (by have b5 := B5.out; have b6 := B6.out; simp; omega), _, rfl⟩
                · have A6 : (((bt s i : Nat) : Int) == 48) = false := by simp; omega
                  have B5 : Hid (k = 1) := a5
                  clear a5
                  go_quiet (fail)
                  go_wp2_with fail
                  go_meet
                  case rel => exact ⟨congrArg Value.bool (by simp; omega), _, rfl⟩
              · have A5 : ((k : Int) == 1) = false := by simp; omega
                go_quiet (fail)
                go_wp2_with fail
                go_meet
                case rel => exact ⟨congrArg Value.bool (by simp; omega), _, rfl⟩
            · have A4 : decide (((bt s j : Nat) : Int) ≤ 57) = false := by simp; omega
              go_quiet (fail)
              go_wp2_with fail
              go_meet
              case rel => exact ⟨congrArg Value.bool (by simp; omega), _, rfl⟩
          · have A3 : decide ((48 : Int) ≤ (bt s j : Nat)) = false := by simp; omega
            go_quiet (fail)
            go_wp2_with fail
            go_meet
            case rel => exact ⟨congrArg Value.bool (by simp; omega), _, rfl⟩
        · have A2 : decide ((j : Int) < s.size) = false := by simp; omega
          go_quiet (fail)
          go_wp2_with fail
          go_meet
          case rel => exact ⟨congrArg Value.bool (by simp; omega), _, rfl⟩
      · have A1 : decide ((k : Int) < 3) = false := by simp; omega
        go_quiet (fail)
        go_wp2_with fail
        go_meet
        case rel => exact ⟨congrArg Value.bool (by simp; omega), _, rfl⟩
    case rest =>
      obtain ⟨rfl, m, rfl⟩ := hcut
      have HW : Hid (RdSt s b j L bad (wr.drewN m)) := HH.out.drewN m
      have hbel2 := below_drewN hbel m
      generalize wr.drewN m = W at *
      clear c0 c1 c2 c3 f1 f2 f3 HH hbel
      obtain ⟨v2, hb2, _⟩ := HW.out
      obtain ⟨c0, c1, c2, c3, f1, f2, f3⟩ := rd_cells hb2
      clear hb2
      by_cases hc : k < 3 ∧ j < s.size ∧ 48 ≤ bt s j ∧ bt s j ≤ 57 ∧ ¬(k = 1 ∧ bt s i = 48)
      · rw [decide_eq_true hc]
        have A2 : (j : Int) < s.size := by omega
        have wb := wrapN (bt s j) (by omega)
        have A3 : (48 : Int) ≤ (bt s j : Nat) := by omega
        have A4 : ((bt s j : Nat) : Int) ≤ 57 := by omega
        have HC : Hid (k < 3 ∧ j < s.size ∧ 48 ≤ bt s j ∧ bt s j ≤ 57 ∧ ¬(k = 1 ∧ bt s i = 48)) := hc
        clear hc
        go_wp2_with fail
        go_quiet (fail)
        go_wp2_with fail
        have hc := HC.out
        have hnn := HN.out
        refine ⟨⟨k + 1, j + 1, 10 * n + (bt s j - 48), by omega, by go_num, ?_, by omega, by omega, by omega, ?_, ?_, (HW.out.drewN nq).setI (j + 1), (below_drewN hbel2 nq).setCell (p := ⟨b, 1, none⟩) (Nat.le_refl b) _⟩, by simp [intOf]; omega⟩
        · congr 1; omega
        · show _ ∨ _; omega
        · show digB _ _ _ _ _ = _; rw [← digB_go s i k j n hc]; exact HD.out
      · rw [decide_eq_false hc]
        have HE : Hid ((j, n) = digB s (bt s i == 48) 3 i 0) := by
          have := HD.out
          rw [digB_stop s i k j n hk hc] at this
          exact this
        clear HD hc HN
        obtain ⟨hl, hl2, _⟩ := atP_le s j
        have hl2 := hl2 hj
        go_wp2_with fail
        go_quiet ((go_at_call 28; exact Calls.quiet_of (at_any _ _ _ (by omega) (by omega))))
        have HW2 : Hid (RdSt s b j L bad (W.drewN nq)) := HW.out.drewN nq
        have hbel3 := below_drewN hbel2 nq
        generalize W.drewN nq = W2 at *
        clear c0 c1 c2 c3 f1 f2 f3 HW hbel2
        have hlt : b < W2.heap.size := HW2.out.lt
        obtain ⟨v3, hb3, _⟩ := HW2.out
        obtain ⟨c0, c1, c2, c3, f1, f2, f3⟩ := rd_cells hb3
        clear hb3
        by_cases h189 : (atP s j).1 = 189
        · have H189 : (((atP s j).1 : Int) == 189) = true := by simp; omega
          have H188 : (((atP s j).1 : Int) == 188) = false := by simp; omega
          have H190 : (((atP s j).1 : Int) == 190) = false := by simp; omega
          have HF : Hid (fracOf (atP s j).1 n = (2 * n + 1, 2)) := by show fracOf _ _ = _; unfold fracOf; rw [if_pos h189]
          clear h189
          go_wp2_with fail
          refine (skip_ex s b j L bad _ hs hj (HW2.out.alloc _)).mono ?_
          rintro e w' ⟨rfl, nq2, rfl⟩
          go_wp2_with fail
          go_region
          go_wp2_with fail
          refine (add_as s b (j + (atP s j).2) L bad ⟨48, 0, 0, ((2 * n + 1 : Nat) : Int), 2, s.extract i (j + (atP s j).2), i⟩ _ _ hL (HW2.out.num1 _ _ _ _) (by simp)).mono ?_
          rintro e w' ⟨rfl, hR, hB⟩
          go_wp2_with fail
          go_ret
          obtain ⟨e1, e2⟩ := numB_eq s i j n (2 * n + 1) 2 HE.out HF.out
          rw [e1, e2, if_neg (by decide)]
          exact ⟨rfl, hR, (below_num1 hbel3 hlt _ _ _ _).trans hB⟩
        by_cases h188 : (atP s j).1 = 188
        · have H189 : (((atP s j).1 : Int) == 189) = false := by simp; omega
          have H188 : (((atP s j).1 : Int) == 188) = true := by simp; omega
          have H190 : (((atP s j).1 : Int) == 190) = false := by simp; omega
          have HF : Hid (fracOf (atP s j).1 n = (4 * n + 1, 4)) := by show fracOf _ _ = _; unfold fracOf; rw [if_neg h189, if_pos h188]
          clear h188
          go_wp2_with fail
          refine (skip_ex s b j L bad _ hs hj (HW2.out.alloc _)).mono ?_
          rintro e w' ⟨rfl, nq2, rfl⟩
          go_wp2_with fail
          go_region
          go_wp2_with fail
          refine (add_as s b (j + (atP s j).2) L bad ⟨48, 0, 0, ((4 * n + 1 : Nat) : Int), 4, s.extract i (j + (atP s j).2), i⟩ _ _ hL (HW2.out.num1 _ _ _ _) (by simp)).mono ?_
          rintro e w' ⟨rfl, hR, hB⟩
          go_wp2_with fail
          go_ret
          obtain ⟨e1, e2⟩ := numB_eq s i j n (4 * n + 1) 4 HE.out HF.out
          rw [e1, e2, if_neg (by decide)]
          exact ⟨rfl, hR, (below_num1 hbel3 hlt _ _ _ _).trans hB⟩
        by_cases h190 : (atP s j).1 = 190
        · have H189 : (((atP s j).1 : Int) == 189) = false := by simp; omega
          have H188 : (((atP s j).1 : Int) == 188) = false := by simp; omega
          have H190 : (((atP s j).1 : Int) == 190) = true := by simp; omega
          have HF : Hid (fracOf (atP s j).1 n = (4 * n + 3, 4)) := by show fracOf _ _ = _; unfold fracOf; rw [if_neg h189, if_neg h188, if_pos h190]
          clear h190
          go_wp2_with fail
          refine (skip_ex s b j L bad _ hs hj (HW2.out.alloc _)).mono ?_
          rintro e w' ⟨rfl, nq2, rfl⟩
          go_wp2_with fail
          go_region
          go_wp2_with fail
          refine (add_as s b (j + (atP s j).2) L bad ⟨48, 0, 0, ((4 * n + 3 : Nat) : Int), 4, s.extract i (j + (atP s j).2), i⟩ _ _ hL (HW2.out.num1 _ _ _ _) (by simp)).mono ?_
          rintro e w' ⟨rfl, hR, hB⟩
          go_wp2_with fail
          go_ret
          obtain ⟨e1, e2⟩ := numB_eq s i j n (4 * n + 3) 4 HE.out HF.out
          rw [e1, e2, if_neg (by decide)]
          exact ⟨rfl, hR, (below_num1 hbel3 hlt _ _ _ _).trans hB⟩
        have H189 : (((atP s j).1 : Int) == 189) = false := by simp; omega
        have H188 : (((atP s j).1 : Int) == 188) = false := by simp; omega
        have H190 : (((atP s j).1 : Int) == 190) = false := by simp; omega
        have HF : Hid (fracOf (atP s j).1 n = (n, 1)) := by show fracOf _ _ = _; unfold fracOf; rw [if_neg h189, if_neg h188, if_neg h190]
        clear h189 h188 h190
        go_wp2_with fail
        go_region
        go_wp2_with fail
        refine (add_as s b j L bad ⟨48, 0, 0, ((n : Nat) : Int), 1, s.extract i j, i⟩ _ _ hL (HW2.out.num2 _) (by rfl)).mono ?_
        rintro e w' ⟨rfl, hR, hB⟩
        go_wp2_with fail
        go_ret
        obtain ⟨e1, e2⟩ := numB_eq s i j n n 1 HE.out HF.out
        rw [e1, e2, if_pos rfl]
        exact ⟨rfl, hR, ((hbel3.alloc (by omega) _).drew).trans hB⟩
end Go.Proofs.Ytodabmkcihafhaa

import Derived.Deep.DeepCutAuto
import Derived.Deep.LoopGhost
import Derived.Test.YtodabmkcihafhaaGreatDoorK3
import Derived.Test.YtodabmkcihafhaaGreatDoorK0

/- The document's reader: numeral. -/
namespace Go.Proofs.YtodabmkcihafhaaGreatDoor
open Go.RowKit
set_option linter.unusedVariables false

theorem RdSt.ext {s : ByteArray} {b i : Nat} {L : List Nd} {bad : Int} {w w' : World} (h : RdSt s b i L bad w) (he : ∀ k, k < w.heap.size → w'.heap[k]? = w.heap[k]?) : RdSt s b i L bad w' := by
  have hlt := h.lt
  obtain ⟨v, hb, ho⟩ := h
  refine ⟨v, (he b hlt).trans hb, ho.1, ?_⟩
  rcases ho.2 with h2 | ⟨g, cap, cur, hv, hg, hh, r⟩
  · exact Or.inl h2
  · exact Or.inr ⟨g, cap, cur, hv, hg, (he g (Array.getElem?_eq_some_iff.1 hh).1).trans hh, r⟩
theorem add_as (s : ByteArray) (b i : Nat) (L : List Nd) (bad : Int) (n : Nd) (V : Value) (w : World) (hL : L.length ≤ 1000) (h : RdSt s b i L bad w) (hV : V = .agg #[.int .i64 n.op, .int .i64 n.a, .int .i64 n.b, .int .i64 n.num, .int .i64 n.den, .string n.text, .int .i64 n.pl]) :
    Calls Tryz.prog 129 #[.pointer (some ⟨b, 0, none⟩), V] w
      fun e w' => e = .returned (.int .i64 L.length) ∧ RdSt s b i (L ++ [n]) bad w' ∧ Below b w w' := by
  subst hV
  exact add_any s b i L bad n w hL h
theorem RdSt.num1 {s : ByteArray} {b i : Nat} {L : List Nd} {bad : Int} {w : World} (h : RdSt s b i L bad w) (o : Obj) (m i' : Nat) (u : Value) : RdSt s b i' L bad (((((w.alloc o).drewN m).setCell ⟨b, 1, none⟩ (.int .i64 (i' : Nat))).setCell ⟨w.heap.size, 5, none⟩ u).drew) := by
  have hlt := h.lt
  refine (h.setI i').ext ?_
  intro k hk
  have hk2 : k < w.heap.size := by simpa [World.setCell] using hk
  show ((((w.alloc o).drewN m).setCell ⟨b, 1, none⟩ (.int .i64 (i' : Nat))).setCell ⟨w.heap.size, 5, none⟩ u).heap[k]? = _
  rw [Below.heap_setCell _ _ _ _ (by simp; omega)]
  by_cases e : k = b
  · subst e
    simp only [World.setCell, Array.getElem?_modify]
    rw [if_pos trivial, if_pos trivial]
    show Option.map _ (w.alloc o).heap[k]? = _
    rw [Below.heap_alloc _ _ _ hk2]
  · rw [Below.heap_setCell _ _ _ _ (by simpa using e), Below.heap_setCell _ _ _ _ (by simpa using e)]
    show (w.alloc o).heap[k]? = _
    rw [Below.heap_alloc _ _ _ hk2]
theorem below_num1 {b : Nat} {w0 w : World} (h : Below b w0 w) (hlt : b < w.heap.size) (o : Obj) (m : Nat) (u u' : Value) : Below b w0 (((((w.alloc o).drewN m).setCell ⟨b, 1, none⟩ u').setCell ⟨w.heap.size, 5, none⟩ u).drew) :=
  (((below_drewN (h.alloc (by omega) o) m).setCell (p := ⟨b, 1, none⟩) (Nat.le_refl b) _).setCell (p := ⟨w.heap.size, 5, none⟩) (by simp; omega) _).drew
theorem RdSt.alloc {s : ByteArray} {b i : Nat} {L : List Nd} {bad : Int} {w : World} (h : RdSt s b i L bad w) (o : Obj) : RdSt s b i L bad (w.alloc o) := by
  have hlt := h.lt
  obtain ⟨v, hb, ho⟩ := h
  exact ⟨v, by rw [Below.heap_alloc _ _ _ hlt]; exact hb, ho.alloc o⟩

theorem RdSt.num2 {s : ByteArray} {b i : Nat} {L : List Nd} {bad : Int} {w : World} (h : RdSt s b i L bad w) (o : Obj) : RdSt s b i L bad ((w.alloc o).drew) := h.alloc o
theorem skip_ex (s : ByteArray) (b i : Nat) (L : List Nd) (bad : Int) (w : World) (hs : s.size ≤ 120) (hi : i ≤ s.size) (h : RdSt s b i L bad w) :
    Calls Tryz.prog 128 #[.pointer (some ⟨b, 0, none⟩)] w fun e w' => e = .returned (.tuple #[]) ∧ ∃ n, w' = (w.drewN n).setCell ⟨b, 1, none⟩ (.int .i64 ((i + (atP s i).2 : Nat) : Int)) := by
  obtain ⟨v, hb, _⟩ := h
  obtain ⟨c0, c1, c2, c3, f1, f2, f3⟩ := rd_cells hb
  exact skip_exact s b i w hs hi c0 c1 f1

set_option maxHeartbeats 2000000 in
set_option maxRecDepth 100000 in
theorem numeral_any (s : ByteArray) (b i : Nat) (L : List Nd) (bad : Int) (w : World) (hs : s.size ≤ 120) (hL : L.length ≤ 1000) (hi : i < s.size) (h : RdSt s b i L bad w) :
    Calls Tryz.prog 159 #[.pointer (some ⟨b, 0, none⟩)] w
      fun e w' => e = .returned (.int .i64 L.length) ∧ RdSt s b (numEnd2 s i) (L ++ [numB s i]) bad w' ∧ Below b w w' := by
  have HH : Hid (RdSt s b i L bad w) := h
  obtain ⟨v, hb, _⟩ := h
  obtain ⟨c0, c1, c2, c3, f1, f2, f3⟩ := rd_cells hb
  clear hb
  go_enter Tryz.func159, Tryz.ntmps159
  go_wp2_with fail
  go_loopw [4, 5] (fun s4 s5 wr => ∃ k j n : Nat, k ≤ 3 ∧ s5 = .int .i64 k ∧ s4 = .int .i64 n ∧ j ≤ s.size ∧ i ≤ j ∧ n ≤ 999 ∧ Hid ((k = 0 ∧ n = 0) ∨ (k = 1 ∧ n ≤ 9) ∨ (k = 2 ∧ n ≤ 99) ∨ k = 3) ∧ Hid (digB s (bt s i == 48) (3 - k) j n = digB s (bt s i == 48) 3 i 0) ∧ RdSt s b j L bad wr ∧ Below b w wr) (fun _ s5 _ => 3 - (intOf s5).toNat)
  case atStart => exact ⟨0, i, 0, by omega, rfl, rfl, by omega, by omega, by omega, Or.inl ⟨rfl, rfl⟩, rfl, HH.out, Below.refl _ _⟩
  case round =>
    clear c0 c1 c2 c3 f1 f2 f3 HH
    obtain ⟨k, j, n, hk, rfl, rfl, hj, hij, hn, HN, HD, h, hbel⟩ := hrel
    have HH : Hid (RdSt s b j L bad wr) := h
    obtain ⟨v, hb, _⟩ := h
    obtain ⟨c0, c1, c2, c3, f1, f2, f3⟩ := rd_cells hb
    clear hb
    have g0 := bt_get s j
    have gi := bt_get s i
    go_wp2_with fail
    go_cut [64] (fun s64 wc => s64 = .bool (decide (k < 3 ∧ j < s.size ∧ 48 ≤ bt s j ∧ bt s j ≤ 57 ∧ ¬ (k = 1 ∧ bt s i = 48))) ∧ ∃ n, wc = wr.drewN n)
    case first =>
      by_cases a1 : k < 3
      · have A1 : (k : Int) < 3 := by omega
        by_cases a2 : j < s.size
        · have A2 : (j : Int) < s.size := by omega
          by_cases a3 : 48 ≤ bt s j
          · have A3 : (48 : Int) ≤ (bt s j : Nat) := by omega
            by_cases a4 : bt s j ≤ 57
            · have A4 : ((bt s j : Nat) : Int) ≤ 57 := by omega
              by_cases a5 : k = 1
              · have A5 : ((k : Int) == 1) = true := by simp; omega
                by_cases a6 : bt s i = 48
                · have A6 : (((bt s i : Nat) : Int) == 48) = true := by simp; omega
                  have B5 : Hid (k = 1) := a5
                  have B6 : Hid (bt s i = 48) := a6
                  clear a5 a6
                  go_quiet (fail)
                  go_wp2_with fail
                  go_meet
                  case rel => exact ⟨congrArg Value.bool (by have b5 := B5.out; have b6 := B6.out; simp; omega), _, rfl⟩
                · have A6 : (((bt s i : Nat) : Int) == 48) = false := by simp; omega
                  have B5 : Hid (k = 1) := a5
                  clear a5
                  go_quiet (fail)
                  go_wp2_with fail
                  go_meet
                  case rel => exact ⟨congrArg Value.bool (by simp; omega), _, rfl⟩
              · have A5 : ((k : Int) == 1) = false := by simp; omega
                go_quiet (fail)
                go_wp2_with fail
                go_meet
                case rel => exact ⟨congrArg Value.bool (by simp; omega), _, rfl⟩
            · have A4 : decide (((bt s j : Nat) : Int) ≤ 57) = false := by simp; omega
              go_quiet (fail)
              go_wp2_with fail
              go_meet
              case rel => exact ⟨congrArg Value.bool (by simp; omega), _, rfl⟩
          · have A3 : decide ((48 : Int) ≤ (bt s j : Nat)) = false := by simp; omega
            go_quiet (fail)
            go_wp2_with fail
            go_meet
            case rel => exact ⟨congrArg Value.bool (by simp; omega), _, rfl⟩
        · have A2 : decide ((j : Int) < s.size) = false := by simp; omega
          go_quiet (fail)
          go_wp2_with fail
          go_meet
          case rel => exact ⟨congrArg Value.bool (by simp; omega), _, rfl⟩
      · have A1 : decide ((k : Int) < 3) = false := by simp; omega
        go_quiet (fail)
        go_wp2_with fail
        go_meet
        case rel => exact ⟨congrArg Value.bool (by simp; omega), _, rfl⟩
    case rest =>
      obtain ⟨rfl, m, rfl⟩ := hcut
      have HW : Hid (RdSt s b j L bad (wr.drewN m)) := HH.out.drewN m
      have hbel2 := below_drewN hbel m
      generalize wr.drewN m = W at *
      clear c0 c1 c2 c3 f1 f2 f3 HH hbel
      obtain ⟨v2, hb2, _⟩ := HW.out
      obtain ⟨c0, c1, c2, c3, f1, f2, f3⟩ := rd_cells hb2
      clear hb2
      by_cases hc : k < 3 ∧ j < s.size ∧ 48 ≤ bt s j ∧ bt s j ≤ 57 ∧ ¬(k = 1 ∧ bt s i = 48)
      · rw [decide_eq_true hc]
        have A2 : (j : Int) < s.size := by omega
        have wb := wrapN (bt s j) (by omega)
        have A3 : (48 : Int) ≤ (bt s j : Nat) := by omega
        have A4 : ((bt s j : Nat) : Int) ≤ 57 := by omega
        have HC : Hid (k < 3 ∧ j < s.size ∧ 48 ≤ bt s j ∧ bt s j ≤ 57 ∧ ¬(k = 1 ∧ bt s i = 48)) := hc
        clear hc
        go_wp2_with fail
        go_quiet (fail)
        go_wp2_with fail
        have hc := HC.out
        have hnn := HN.out
        refine ⟨⟨k + 1, j + 1, 10 * n + (bt s j - 48), by omega, by go_num, ?_, by omega, by omega, by omega, ?_, ?_, (HW.out.drewN nq).setI (j + 1), (below_drewN hbel2 nq).setCell (p := ⟨b, 1, none⟩) (Nat.le_refl b) _⟩, by simp [intOf]; omega⟩
        · congr 1; omega
        · show _ ∨ _; omega
        · show digB _ _ _ _ _ = _; rw [← digB_go s i k j n hc]; exact HD.out
      · rw [decide_eq_false hc]
        have HE : Hid ((j, n) = digB s (bt s i == 48) 3 i 0) := by
          have := HD.out
          rw [digB_stop s i k j n hk hc] at this
          exact this
        clear HD hc HN
        obtain ⟨hl, hl2, _⟩ := atP_le s j
        have hl2 := hl2 hj
        go_wp2_with fail
        go_quiet ((go_at_call 112; exact Calls.quiet_of (at_any _ _ _ (by omega) (by omega))))
        have HW2 : Hid (RdSt s b j L bad (W.drewN nq)) := HW.out.drewN nq
        have hbel3 := below_drewN hbel2 nq
        generalize W.drewN nq = W2 at *
        clear c0 c1 c2 c3 f1 f2 f3 HW hbel2
        have hlt : b < W2.heap.size := HW2.out.lt
        obtain ⟨v3, hb3, _⟩ := HW2.out
        obtain ⟨c0, c1, c2, c3, f1, f2, f3⟩ := rd_cells hb3
        clear hb3
        by_cases h189 : (atP s j).1 = 189
        · have H189 : (((atP s j).1 : Int) == 189) = true := by simp; omega
          have H188 : (((atP s j).1 : Int) == 188) = false := by simp; omega
          have H190 : (((atP s j).1 : Int) == 190) = false := by simp; omega
          have HF : Hid (fracOf (atP s j).1 n = (2 * n + 1, 2)) := by show fracOf _ _ = _; unfold fracOf; rw [if_pos h189]
          clear h189
          go_wp2_with fail
          refine (skip_ex s b j L bad _ hs hj (HW2.out.alloc _)).mono ?_
          rintro e w' ⟨rfl, nq2, rfl⟩
          go_wp2_with fail
          go_region
          go_wp2_with fail
          refine (add_as s b (j + (atP s j).2) L bad ⟨48, 0, 0, ((2 * n + 1 : Nat) : Int), 2, s.extract i (j + (atP s j).2), i⟩ _ _ hL (HW2.out.num1 _ _ _ _) (by simp)).mono ?_
          rintro e w' ⟨rfl, hR, hB⟩
          go_wp2_with fail
          go_ret
          obtain ⟨e1, e2⟩ := numB_eq s i j n (2 * n + 1) 2 HE.out HF.out
          rw [e1, e2, if_neg (by decide)]
          exact ⟨rfl, hR, (below_num1 hbel3 hlt _ _ _ _).trans hB⟩
        by_cases h188 : (atP s j).1 = 188
        · have H189 : (((atP s j).1 : Int) == 189) = false := by simp; omega
          have H188 : (((atP s j).1 : Int) == 188) = true := by simp; omega
          have H190 : (((atP s j).1 : Int) == 190) = false := by simp; omega
          have HF : Hid (fracOf (atP s j).1 n = (4 * n + 1, 4)) := by show fracOf _ _ = _; unfold fracOf; rw [if_neg h189, if_pos h188]
          clear h188
          go_wp2_with fail
          refine (skip_ex s b j L bad _ hs hj (HW2.out.alloc _)).mono ?_
          rintro e w' ⟨rfl, nq2, rfl⟩
          go_wp2_with fail
          go_region
          go_wp2_with fail
          refine (add_as s b (j + (atP s j).2) L bad ⟨48, 0, 0, ((4 * n + 1 : Nat) : Int), 4, s.extract i (j + (atP s j).2), i⟩ _ _ hL (HW2.out.num1 _ _ _ _) (by simp)).mono ?_
          rintro e w' ⟨rfl, hR, hB⟩
          go_wp2_with fail
          go_ret
          obtain ⟨e1, e2⟩ := numB_eq s i j n (4 * n + 1) 4 HE.out HF.out
          rw [e1, e2, if_neg (by decide)]
          exact ⟨rfl, hR, (below_num1 hbel3 hlt _ _ _ _).trans hB⟩
        by_cases h190 : (atP s j).1 = 190
        · have H189 : (((atP s j).1 : Int) == 189) = false := by simp; omega
          have H188 : (((atP s j).1 : Int) == 188) = false := by simp; omega
          have H190 : (((atP s j).1 : Int) == 190) = true := by simp; omega
          have HF : Hid (fracOf (atP s j).1 n = (4 * n + 3, 4)) := by show fracOf _ _ = _; unfold fracOf; rw [if_neg h189, if_neg h188, if_pos h190]
          clear h190
          go_wp2_with fail
          refine (skip_ex s b j L bad _ hs hj (HW2.out.alloc _)).mono ?_
          rintro e w' ⟨rfl, nq2, rfl⟩
          go_wp2_with fail
          go_region
          go_wp2_with fail
          refine (add_as s b (j + (atP s j).2) L bad ⟨48, 0, 0, ((4 * n + 3 : Nat) : Int), 4, s.extract i (j + (atP s j).2), i⟩ _ _ hL (HW2.out.num1 _ _ _ _) (by simp)).mono ?_
          rintro e w' ⟨rfl, hR, hB⟩
          go_wp2_with fail
          go_ret
          obtain ⟨e1, e2⟩ := numB_eq s i j n (4 * n + 3) 4 HE.out HF.out
          rw [e1, e2, if_neg (by decide)]
          exact ⟨rfl, hR, (below_num1 hbel3 hlt _ _ _ _).trans hB⟩
        have H189 : (((atP s j).1 : Int) == 189) = false := by simp; omega
        have H188 : (((atP s j).1 : Int) == 188) = false := by simp; omega
        have H190 : (((atP s j).1 : Int) == 190) = false := by simp; omega
        have HF : Hid (fracOf (atP s j).1 n = (n, 1)) := by show fracOf _ _ = _; unfold fracOf; rw [if_neg h189, if_neg h188, if_neg h190]
        clear h189 h188 h190
        go_wp2_with fail
        go_region
        go_wp2_with fail
        refine (add_as s b j L bad ⟨48, 0, 0, ((n : Nat) : Int), 1, s.extract i j, i⟩ _ _ hL (HW2.out.num2 _) (by rfl)).mono ?_
        rintro e w' ⟨rfl, hR, hB⟩
        go_wp2_with fail
        go_ret
        obtain ⟨e1, e2⟩ := numB_eq s i j n n 1 HE.out HF.out
        rw [e1, e2, if_pos rfl]
        exact ⟨rfl, hR, ((hbel3.alloc (by omega) _).drew).trans hB⟩
end Go.Proofs.YtodabmkcihafhaaGreatDoor

/- The document's reader: what row, factor and primary come to. -/
namespace Go.Proofs.YtodabmkcihafhaaGreatDoor
open Go.RowKit
set_option linter.unusedVariables false

/-- What a call of the reader leaves, held against a reading R: if R went well, her root and her nodes, and the place is that of the signs that are left; else the fault's place. -/
def RPost (s : ByteArray) (b : Nat) (w : World) (N : Nat) (R : Res) (e : Ending) (w' : World) : Prop :=
  ∃ (k' i' : Nat) (L' : List Nd), e = .returned (.int .i64 k') ∧ i' ≤ s.size ∧ Below b w w' ∧ L'.length ≤ N ∧
    ((R.ok = true ∧ k' = R.k ∧ L' = R.L ∧ RdSt s b i' L' (-1) w' ∧ ∃ ap, R.ts = toks s i' ap) ∨ (R.ok = false ∧ RdSt s b i' L' (hp R.ts) w'))

def CRow (s : ByteArray) (b : Nat) (lvl f : Nat) : Prop :=
  ∀ (ts : List Tok) (L : List Nd) (i : Nat) (ap : Bool) (w : World) (N : Nat), 10 * ts.length + (6 - 2 * lvl) ≤ f → i ≤ s.size → ts = toks s i ap → RdSt s b i L (-1) w → L.length + ts.length ≤ N → N ≤ 900 →
    Calls Tryz.prog 85 #[.pointer (some ⟨b, 0, none⟩), .int .i64 lvl] w (RPost s b w N (pp f lvl 0 ts L))
def CFac (s : ByteArray) (b : Nat) (f : Nat) : Prop :=
  ∀ (ts : List Tok) (L : List Nd) (i : Nat) (ap : Bool) (w : World) (N : Nat), 10 * ts.length + 2 ≤ f → i ≤ s.size → ts = toks s i ap → RdSt s b i L (-1) w → L.length + ts.length ≤ N → N ≤ 900 →
    Calls Tryz.prog 127 #[.pointer (some ⟨b, 0, none⟩)] w (RPost s b w N (pp f 2 0 ts L))
def CPri (s : ByteArray) (b : Nat) (f : Nat) : Prop :=
  ∀ (ts : List Tok) (L : List Nd) (i : Nat) (ap : Bool) (w : World) (N : Nat), 10 * ts.length + 1 ≤ f → i ≤ s.size → ts = toks s i ap → RdSt s b i L (-1) w → L.length + ts.length ≤ N → N ≤ 900 →
    Calls Tryz.prog 151 #[.pointer (some ⟨b, 0, none⟩)] w (RPost s b w N (pp f 3 0 ts L))

/-- The next sign, with all that is known of the place. -/
structure AtSign (s : ByteArray) (ts : List Tok) (c j : Nat) : Prop where
  le : j ≤ s.size
  sim : sim c (hd ts)
  pl : hp ts = j
  nb : ¬ (j < s.size ∧ bt s j = 32)
  is : c = (atP s j).1
  at' : ∃ ap, ts = toks s j ap
  tl : c ≠ 0 → ts.tail = toks s (j + (atP s j).2) false ∧ j + (atP s j).2 ≤ s.size ∧ 1 ≤ ts.length ∧ j < s.size

theorem sign_pos (s : ByteArray) (b i : Nat) (L : List Nd) (bad : Int) (w : World) (ts : List Tok) (ap : Bool) (hs : s.size ≤ 120) (hi : i ≤ s.size) (hts : ts = toks s i ap) (h : RdSt s b i L bad w) :
    Calls Tryz.prog 86 #[.pointer (some ⟨b, 0, none⟩)] w fun e w' => ∃ c j : Nat, e = .returned (.int .i64 c) ∧ RdSt s b j L bad w' ∧ Below b w w' ∧ c < 20000 ∧ AtSign s ts c j := by
  refine (sign_any s b i L bad w hs hi h).mono ?_
  rintro e w' ⟨rfl, h1, h2⟩
  obtain ⟨ap', e1⟩ := pos_sign s _ i ap rfl hi
  rw [← hts] at e1
  have hj := skipB_le s i hi
  have hnb := skipB_nb s _ i rfl
  obtain ⟨p1, p2⟩ := pos_head s (skipB s i) ap' hj hnb
  obtain ⟨q1, q2, q3⟩ := atP_le s (skipB s i)
  refine ⟨(atP s (skipB s i)).1, skipB s i, rfl, h1, h2, q3, hj, by rw [e1]; exact p2, by rw [e1]; exact p1, hnb, rfl, ⟨ap', e1⟩, ?_⟩
  intro hc
  obtain ⟨t1, t2⟩ := pos_tail s (skipB s i) ap' hj hnb hc
  refine ⟨by rw [e1]; exact t1, q2 hj, by rw [e1, t2]; simp, ?_⟩
  apply Nat.lt_of_not_le
  intro hle
  apply hc
  simp [atP, hle]

theorem sim_iff {c : Nat} {h : Int} (hs : sim c h) (x : Nat) (hx : 0 < x ∧ (x < 2048 ∨ (8192 ≤ x ∧ x < 12288))) : (c : Int) = x ↔ h = x := by
  unfold sim at hs
  omega

theorem rd_out {s : ByteArray} {b i : Nat} {L : List Nd} {bad : Int} {w : World} (h : RdSt s b i L bad w) :
    w.cell? ⟨b, 1, none⟩ = some (.int .i64 i) ∧ w.cell? ⟨b, 3, none⟩ = some (.int .i64 bad) := by
  obtain ⟨v, hb, _⟩ := h
  exact ⟨(rd_cells hb).2.1, (rd_cells hb).2.2.2.1⟩

/-- A row between two of its rounds: g: what is left of the measure; k: what stands on the left. -/
def RowInv (s : ByteArray) (b : Nat) (w0 : World) (N : Nat) (R : Res) (tag fmax g k : Nat) (wr : World) : Prop :=
  ∃ (i' : Nat) (L' : List Nd) (bad : Int), i' ≤ s.size ∧ Below b w0 wr ∧ RdSt s b i' L' bad wr ∧ L'.length ≤ N ∧
    ((bad = -1 ∧ ∃ ts' ap, ts' = toks s i' ap ∧ pp g tag k ts' L' = R ∧ 10 * ts'.length + 5 ≤ g ∧ L'.length + ts'.length ≤ N ∧ g ≤ fmax) ∨ (0 ≤ bad ∧ R.ok = false ∧ bad = hp R.ts))

theorem RowInv.start {s : ByteArray} {b : Nat} {w : World} {N : Nat} {R R1 : Res} {tag f k1 i1 : Nat} {L1 : List Nd} {w1 : World} (hR : R = if R1.ok = true then pp f tag R1.k R1.ts R1.L else R1)
    (hi : i1 ≤ s.size) (hb : Below b w w1) (hL : L1.length ≤ N) (hlen : R1.ok = true → 10 * R1.ts.length + 5 ≤ f ∧ R1.L.length + R1.ts.length ≤ N)
    (hP : (R1.ok = true ∧ k1 = R1.k ∧ L1 = R1.L ∧ RdSt s b i1 L1 (-1) w1 ∧ ∃ ap, R1.ts = toks s i1 ap) ∨ (R1.ok = false ∧ RdSt s b i1 L1 (hp R1.ts) w1)) : RowInv s b w N R tag f f k1 w1 := by
  rcases hP with ⟨h1, rfl, rfl, h2, ap, h3⟩ | ⟨h1, h2⟩
  · rw [if_pos h1] at hR
    exact ⟨i1, _, -1, hi, hb, h2, hL, Or.inl ⟨rfl, R1.ts, ap, h3, hR.symm, (hlen h1).1, (hlen h1).2, Nat.le_refl _⟩⟩
  · rw [if_neg (by rw [h1]; decide)] at hR
    subst hR
    exact ⟨i1, L1, _, hi, hb, h2, hL, Or.inr ⟨by omega, h1, rfl⟩⟩

theorem rpost_bad {s : ByteArray} {b k1 i1 : Nat} {L1 : List Nd} {w1 : World} {R1 : Res} (hP : (R1.ok = true ∧ k1 = R1.k ∧ L1 = R1.L ∧ RdSt s b i1 L1 (-1) w1 ∧ ∃ ap, R1.ts = toks s i1 ap) ∨ (R1.ok = false ∧ RdSt s b i1 L1 (hp R1.ts) w1)) :
    ∃ bad, RdSt s b i1 L1 bad w1 ∧ ((R1.ok = true ∧ k1 = R1.k ∧ L1 = R1.L ∧ bad = -1 ∧ ∃ ap, R1.ts = toks s i1 ap) ∨ (R1.ok = false ∧ bad = hp R1.ts)) := by
  rcases hP with ⟨h1, h2, h3, h4, h5⟩ | ⟨h1, h2⟩
  · exact ⟨-1, h4, Or.inl ⟨h1, h2, h3, rfl, h5⟩⟩
  · exact ⟨_, h2, Or.inr ⟨h1, rfl⟩⟩
theorem RowInv.next {s : ByteArray} {b : Nat} {w w6 : World} {N : Nat} {R sub : Res} {tag fmax g k k5 i5 j : Nat} {c bad : Int} {L5 : List Nd}
    (hQ : (if sub.ok = true then pp g tag sub.L.length sub.ts (sub.L ++ [opNd c k sub.k j]) else sub) = R) (hi : i5 ≤ s.size) (hb : Below b w w6) (hL : L5.length + 1 ≤ N)
    (hlen : sub.ok = true → 10 * sub.ts.length + 5 ≤ g ∧ sub.L.length + 1 + sub.ts.length ≤ N) (hg : g ≤ fmax) (h6 : RdSt s b i5 (L5 ++ [opNd c k k5 j]) bad w6)
    (hP : (sub.ok = true ∧ k5 = sub.k ∧ L5 = sub.L ∧ bad = -1 ∧ ∃ ap, sub.ts = toks s i5 ap) ∨ (sub.ok = false ∧ bad = hp sub.ts)) : RowInv s b w N R tag fmax g L5.length w6 := by
  rcases hP with ⟨h1, rfl, rfl, rfl, ap, h3⟩ | ⟨h1, h2⟩
  · rw [if_pos h1] at hQ
    exact ⟨i5, _, -1, hi, hb, h6, by simp; omega, Or.inl ⟨rfl, sub.ts, ap, h3, hQ, (hlen h1).1, by have := (hlen h1).2; simp; omega, hg⟩⟩
  · rw [if_neg (by rw [h1]; decide)] at hQ
    subst hQ
    exact ⟨i5, _, bad, hi, hb, h6, by simp; omega, Or.inr ⟨by omega, h1, h2⟩⟩

theorem isRow0 (h : Int) : inRow 0 h = true ↔ h = 43 ∨ h = 8722 := by simp [inRow]
theorem isRow1 (h : Int) : inRow 1 h = true ↔ h = 215 ∨ h = 247 := by simp [inRow]

set_option maxHeartbeats 2000000 in
set_option maxRecDepth 100000 in
theorem row0_step (s : ByteArray) (b f : Nat) (hs : s.size ≤ 120) (ih : ∀ g, g ≤ f → CRow s b 1 g) : CRow s b 0 (f + 1) := by
  intro ts L i ap w N hf hi hts h hN hN2
  have hf' : 10 * ts.length + 6 ≤ f + 1 := hf
  have R1 : Hid (pp (f + 1) 0 0 ts L = if (pp f 1 0 ts L).ok then pp f 4 (pp f 1 0 ts L).k (pp f 1 0 ts L).ts (pp f 1 0 ts L).L else pp f 1 0 ts L) := by show _ = _; simp only [pp]
  generalize pp (f + 1) 0 0 ts L = R at *
  have IH : Hid (∀ g, g ≤ f → CRow s b 1 g) := ih
  clear ih
  go_enter Tryz.func85, Tryz.ntmps85
  go_wp2_with fail
  refine (IH.out f (Nat.le_refl _) ts L i ap _ N (by omega) hi hts h hN hN2).mono ?_
  rintro e w1 ⟨k1, i1, L1, rfl, hi1, hb1, hL1, hP⟩
  have hI : RowInv s b w N R 4 f f k1 w1 := by
    have pi := pp_inv f 1 0 ts L
    refine RowInv.start R1.out hi1 hb1 hL1 (fun ho => ?_) hP
    have a1 := pi.lt ho (by decide)
    have a2 := pi.len
    omega
  clear hP hb1 hi1 hL1 R1
  go_wp2_with fail
  go_loopg [5] f (fun g s5 wr => ∃ k : Nat, s5 = .int .i64 k ∧ RowInv s b w N R 4 f g k wr)
  case atStart => exact ⟨k1, rfl, hI⟩
  case round =>
    clear hI h hts
    obtain ⟨k, rfl, i2, L2, bad, hi2, hb2, h2, hL2, hcase⟩ := hrel
    obtain ⟨c1, c3⟩ := rd_out h2
    rcases hcase with ⟨rfl, ts2, ap2, hts2, hpp, hg, hN3, hgf⟩ | ⟨hbad, hno, hbp⟩
    · have HP : Hid (pp gk 4 k ts2 L2 = R) := hpp
      clear hpp
      have HT : Hid (ts2 = toks s i2 ap2) := hts2
      clear hts2
      go_wp2_with fail
      clear c1 c3
      refine (sign_pos s b i2 L2 (-1) _ ts2 ap2 hs hi2 HT.out h2).mono ?_
      rintro e w3 ⟨c, j, rfl, h3, hb3, hc20, hA⟩
      clear h2
      obtain ⟨c1, c3⟩ := rd_out h3
      obtain ⟨g, rfl⟩ : ∃ g, gk = g + 1 := ⟨gk - 1, by omega⟩
      have s43 := sim_iff hA.sim 43 (by omega)
      have s87 := sim_iff hA.sim 8722 (by omega)
      by_cases hm : inRow 0 (hd ts2) = true
      · have hcne : c ≠ 0 := by
          intro e0
          rw [isRow0] at hm
          omega
        obtain ⟨htl, hle, hne, hjlt⟩ := hA.tl hcne
        have hcc := hA.is
        have hlt2 := (atP_le s j).1
        have HQ : Hid ((if (pp g 1 0 ts2.tail L2).ok then pp g 4 (pp g 1 0 ts2.tail L2).L.length (pp g 1 0 ts2.tail L2).ts ((pp g 1 0 ts2.tail L2).L ++ [opNd (hd ts2) k (pp g 1 0 ts2.tail L2).k (hp ts2)]) else pp g 1 0 ts2.tail L2) = R) := by
          have := HP.out
          simp only [pp] at this
          rw [if_pos hm] at this
          exact this
        have HM : Hid (hd ts2 = c ∧ hp ts2 = j) := ⟨by rw [isRow0] at hm; omega, hA.pl⟩
        have HTL : Hid (ts2.tail = toks s (j + (atP s j).2) false) := htl
        have htlen : ts2.tail.length + 1 = ts2.length := by simp; omega
        generalize ts2.tail = tl2 at *
        rcases (isRow0 _).1 hm with hm1 | hm1
        · have b43 : ((c : Int) == 43) = true := by simp; omega
          have b87 : ((c : Int) == 8722) = false := by simp; omega
          clear HP s43 s87 hm hm1 hcc hcne htl hA
          go_wp2_with fail
          refine (skip_any s b j L2 (-1) _ hs (by omega) h3).mono ?_
          rintro e w4 ⟨rfl, h4, hb4⟩
          clear c1 c3 h3
          go_wp2_with fail
          refine (IH.out g (by omega) tl2 L2 (j + (atP s j).2) false _ (N - 1) (by omega) hle HTL.out h4 (by omega) (by omega)).mono ?_
          rintro e w5 ⟨k5, i5, L5, rfl, hi5, hb5, hL5, hP5⟩
          obtain ⟨bad5, h5, hP6⟩ := rpost_bad hP5
          have HP6 := hP6
          have H6 : Hid (((pp g 1 0 tl2 L2).ok = true ∧ k5 = (pp g 1 0 tl2 L2).k ∧ L5 = (pp g 1 0 tl2 L2).L ∧ bad5 = -1 ∧ ∃ ap, (pp g 1 0 tl2 L2).ts = toks s i5 ap) ∨ ((pp g 1 0 tl2 L2).ok = false ∧ bad5 = hp (pp g 1 0 tl2 L2).ts)) := hP6
          clear hP5 hP6 HP6
          go_wp2_with fail
          refine (add_as s b i5 L5 bad5 (opNd c k k5 j) _ _ (by omega) h5 rfl).mono ?_
          rintro e w6 ⟨rfl, h6, hb6⟩
          go_wp2_with fail
          go_roundg g
          case measure => omega
          case rel =>
            refine ⟨L5.length, rfl, ?_⟩
            obtain ⟨m1, m2⟩ := HM.out
            have q := HQ.out
            rw [m1, m2] at q
            have pi := pp_inv g 1 0 tl2 L2
            refine RowInv.next q hi5 ((((hb2.trans hb3).trans hb4).trans hb5).trans hb6) (by omega) (fun ho => ?_) (by omega) h6 H6.out
            have a1 := pi.lt ho (by decide)
            have a2 := pi.len
            omega
        · have b43 : ((c : Int) == 43) = false := by simp; omega
          have b87 : ((c : Int) == 8722) = true := by simp; omega
          clear HP s43 s87 hm hm1 hcc hcne htl hA
          go_wp2_with fail
          refine (skip_any s b j L2 (-1) _ hs (by omega) h3).mono ?_
          rintro e w4 ⟨rfl, h4, hb4⟩
          clear c1 c3 h3
          go_wp2_with fail
          refine (IH.out g (by omega) tl2 L2 (j + (atP s j).2) false _ (N - 1) (by omega) hle HTL.out h4 (by omega) (by omega)).mono ?_
          rintro e w5 ⟨k5, i5, L5, rfl, hi5, hb5, hL5, hP5⟩
          obtain ⟨bad5, h5, hP6⟩ := rpost_bad hP5
          have HP6 := hP6
          have H6 : Hid (((pp g 1 0 tl2 L2).ok = true ∧ k5 = (pp g 1 0 tl2 L2).k ∧ L5 = (pp g 1 0 tl2 L2).L ∧ bad5 = -1 ∧ ∃ ap, (pp g 1 0 tl2 L2).ts = toks s i5 ap) ∨ ((pp g 1 0 tl2 L2).ok = false ∧ bad5 = hp (pp g 1 0 tl2 L2).ts)) := hP6
          clear hP5 hP6 HP6
          go_wp2_with fail
          refine (add_as s b i5 L5 bad5 (opNd c k k5 j) _ _ (by omega) h5 rfl).mono ?_
          rintro e w6 ⟨rfl, h6, hb6⟩
          go_wp2_with fail
          go_roundg g
          case measure => omega
          case rel =>
            refine ⟨L5.length, rfl, ?_⟩
            obtain ⟨m1, m2⟩ := HM.out
            have q := HQ.out
            rw [m1, m2] at q
            have pi := pp_inv g 1 0 tl2 L2
            refine RowInv.next q hi5 ((((hb2.trans hb3).trans hb4).trans hb5).trans hb6) (by omega) (fun ho => ?_) (by omega) h6 H6.out
            have a1 := pi.lt ho (by decide)
            have a2 := pi.len
            omega
      · have b43 : ((c : Int) == 43) = false := by simp; rw [isRow0] at hm; omega
        have b87 : ((c : Int) == 8722) = false := by simp; rw [isRow0] at hm; omega
        have HQ : Hid (R = ⟨true, k, L2, ts2⟩) := by
          have := HP.out
          simp only [pp] at this
          rw [if_neg hm] at this
          exact this.symm
        clear HP s43 s87 hm
        go_wp2_with fail
        go_ret
        rw [HQ.out]
        exact ⟨k, j, L2, rfl, hA.le, hb2.trans hb3, hL2, Or.inl ⟨rfl, rfl, rfl, h3, hA.at'⟩⟩
    · have hnb : ¬ bad < 0 := by omega
      have HB : Hid (bad = hp R.ts) := hbp
      have HO : Hid (R.ok = false) := hno
      clear hbp hno
      go_wp2_with fail
      go_ret
      have hbp := HB.out
      subst hbp
      exact ⟨k, i2, L2, rfl, hi2, hb2, hL2, Or.inr ⟨HO.out, h2⟩⟩
set_option maxHeartbeats 2000000 in
set_option maxRecDepth 100000 in
theorem row1_step (s : ByteArray) (b f : Nat) (hs : s.size ≤ 120) (ih : ∀ g, g ≤ f → CFac s b g) : CRow s b 1 (f + 1) := by
  intro ts L i ap w N hf hi hts h hN hN2
  have hf' : 10 * ts.length + 4 ≤ f + 1 := hf
  have R1 : Hid (pp (f + 1) 1 0 ts L = if (pp f 2 0 ts L).ok then pp f 5 (pp f 2 0 ts L).k (pp f 2 0 ts L).ts (pp f 2 0 ts L).L else pp f 2 0 ts L) := by show _ = _; simp only [pp]
  generalize pp (f + 1) 1 0 ts L = R at *
  have IH : Hid (∀ g, g ≤ f → CFac s b g) := ih
  clear ih
  go_enter Tryz.func85, Tryz.ntmps85
  go_wp2_with fail
  refine (IH.out f (Nat.le_refl _) ts L i ap _ N (by omega) hi hts h hN hN2).mono ?_
  rintro e w1 ⟨k1, i1, L1, rfl, hi1, hb1, hL1, hP⟩
  have hI : RowInv s b w N R 5 f f k1 w1 := by
    have pi := pp_inv f 2 0 ts L
    refine RowInv.start R1.out hi1 hb1 hL1 (fun ho => ?_) hP
    have a1 := pi.lt ho (by decide)
    have a2 := pi.len
    omega
  clear hP hb1 hi1 hL1 R1
  go_wp2_with fail
  go_loopg [5] f (fun g s5 wr => ∃ k : Nat, s5 = .int .i64 k ∧ RowInv s b w N R 5 f g k wr)
  case atStart => exact ⟨k1, rfl, hI⟩
  case round =>
    clear hI h hts
    obtain ⟨k, rfl, i2, L2, bad, hi2, hb2, h2, hL2, hcase⟩ := hrel
    obtain ⟨c1, c3⟩ := rd_out h2
    rcases hcase with ⟨rfl, ts2, ap2, hts2, hpp, hg, hN3, hgf⟩ | ⟨hbad, hno, hbp⟩
    · have HP : Hid (pp gk 5 k ts2 L2 = R) := hpp
      clear hpp
      have HT : Hid (ts2 = toks s i2 ap2) := hts2
      clear hts2
      go_wp2_with fail
      clear c1 c3
      refine (sign_pos s b i2 L2 (-1) _ ts2 ap2 hs hi2 HT.out h2).mono ?_
      rintro e w3 ⟨c, j, rfl, h3, hb3, hc20, hA⟩
      clear h2
      obtain ⟨c1, c3⟩ := rd_out h3
      obtain ⟨g, rfl⟩ : ∃ g, gk = g + 1 := ⟨gk - 1, by omega⟩
      have s215 := sim_iff hA.sim 215 (by omega)
      have s87 := sim_iff hA.sim 247 (by omega)
      by_cases hm : inRow 1 (hd ts2) = true
      · have hcne : c ≠ 0 := by
          intro e0
          rw [isRow1] at hm
          omega
        obtain ⟨htl, hle, hne, hjlt⟩ := hA.tl hcne
        have hcc := hA.is
        have hlt2 := (atP_le s j).1
        have HQ : Hid ((if (pp g 2 0 ts2.tail L2).ok then pp g 5 (pp g 2 0 ts2.tail L2).L.length (pp g 2 0 ts2.tail L2).ts ((pp g 2 0 ts2.tail L2).L ++ [opNd (hd ts2) k (pp g 2 0 ts2.tail L2).k (hp ts2)]) else pp g 2 0 ts2.tail L2) = R) := by
          have := HP.out
          simp only [pp] at this
          rw [if_pos hm] at this
          exact this
        have HM : Hid (hd ts2 = c ∧ hp ts2 = j) := ⟨by rw [isRow1] at hm; omega, hA.pl⟩
        have HTL : Hid (ts2.tail = toks s (j + (atP s j).2) false) := htl
        have htlen : ts2.tail.length + 1 = ts2.length := by simp; omega
        generalize ts2.tail = tl2 at *
        rcases (isRow1 _).1 hm with hm1 | hm1
        · have b215 : ((c : Int) == 215) = true := by simp; omega
          have b87 : ((c : Int) == 247) = false := by simp; omega
          clear HP s215 s87 hm hm1 hcc hcne htl hA
          go_wp2_with fail
          refine (skip_any s b j L2 (-1) _ hs (by omega) h3).mono ?_
          rintro e w4 ⟨rfl, h4, hb4⟩
          clear c1 c3 h3
          go_wp2_with fail
          refine (IH.out g (by omega) tl2 L2 (j + (atP s j).2) false _ (N - 1) (by omega) hle HTL.out h4 (by omega) (by omega)).mono ?_
          rintro e w5 ⟨k5, i5, L5, rfl, hi5, hb5, hL5, hP5⟩
          obtain ⟨bad5, h5, hP6⟩ := rpost_bad hP5
          have HP6 := hP6
          have H6 : Hid (((pp g 2 0 tl2 L2).ok = true ∧ k5 = (pp g 2 0 tl2 L2).k ∧ L5 = (pp g 2 0 tl2 L2).L ∧ bad5 = -1 ∧ ∃ ap, (pp g 2 0 tl2 L2).ts = toks s i5 ap) ∨ ((pp g 2 0 tl2 L2).ok = false ∧ bad5 = hp (pp g 2 0 tl2 L2).ts)) := hP6
          clear hP5 hP6 HP6
          go_wp2_with fail
          refine (add_as s b i5 L5 bad5 (opNd c k k5 j) _ _ (by omega) h5 rfl).mono ?_
          rintro e w6 ⟨rfl, h6, hb6⟩
          go_wp2_with fail
          go_roundg g
          case measure => omega
          case rel =>
            refine ⟨L5.length, rfl, ?_⟩
            obtain ⟨m1, m2⟩ := HM.out
            have q := HQ.out
            rw [m1, m2] at q
            have pi := pp_inv g 2 0 tl2 L2
            refine RowInv.next q hi5 ((((hb2.trans hb3).trans hb4).trans hb5).trans hb6) (by omega) (fun ho => ?_) (by omega) h6 H6.out
            have a1 := pi.lt ho (by decide)
            have a2 := pi.len
            omega
        · have b215 : ((c : Int) == 215) = false := by simp; omega
          have b87 : ((c : Int) == 247) = true := by simp; omega
          clear HP s215 s87 hm hm1 hcc hcne htl hA
          go_wp2_with fail
          refine (skip_any s b j L2 (-1) _ hs (by omega) h3).mono ?_
          rintro e w4 ⟨rfl, h4, hb4⟩
          clear c1 c3 h3
          go_wp2_with fail
          refine (IH.out g (by omega) tl2 L2 (j + (atP s j).2) false _ (N - 1) (by omega) hle HTL.out h4 (by omega) (by omega)).mono ?_
          rintro e w5 ⟨k5, i5, L5, rfl, hi5, hb5, hL5, hP5⟩
          obtain ⟨bad5, h5, hP6⟩ := rpost_bad hP5
          have HP6 := hP6
          have H6 : Hid (((pp g 2 0 tl2 L2).ok = true ∧ k5 = (pp g 2 0 tl2 L2).k ∧ L5 = (pp g 2 0 tl2 L2).L ∧ bad5 = -1 ∧ ∃ ap, (pp g 2 0 tl2 L2).ts = toks s i5 ap) ∨ ((pp g 2 0 tl2 L2).ok = false ∧ bad5 = hp (pp g 2 0 tl2 L2).ts)) := hP6
          clear hP5 hP6 HP6
          go_wp2_with fail
          refine (add_as s b i5 L5 bad5 (opNd c k k5 j) _ _ (by omega) h5 rfl).mono ?_
          rintro e w6 ⟨rfl, h6, hb6⟩
          go_wp2_with fail
          go_roundg g
          case measure => omega
          case rel =>
            refine ⟨L5.length, rfl, ?_⟩
            obtain ⟨m1, m2⟩ := HM.out
            have q := HQ.out
            rw [m1, m2] at q
            have pi := pp_inv g 2 0 tl2 L2
            refine RowInv.next q hi5 ((((hb2.trans hb3).trans hb4).trans hb5).trans hb6) (by omega) (fun ho => ?_) (by omega) h6 H6.out
            have a1 := pi.lt ho (by decide)
            have a2 := pi.len
            omega
      · have b215 : ((c : Int) == 215) = false := by simp; rw [isRow1] at hm; omega
        have b87 : ((c : Int) == 247) = false := by simp; rw [isRow1] at hm; omega
        have HQ : Hid (R = ⟨true, k, L2, ts2⟩) := by
          have := HP.out
          simp only [pp] at this
          rw [if_neg hm] at this
          exact this.symm
        clear HP s215 s87 hm
        go_wp2_with fail
        go_ret
        rw [HQ.out]
        exact ⟨k, j, L2, rfl, hA.le, hb2.trans hb3, hL2, Or.inl ⟨rfl, rfl, rfl, h3, hA.at'⟩⟩
    · have hnb : ¬ bad < 0 := by omega
      have HB : Hid (bad = hp R.ts) := hbp
      have HO : Hid (R.ok = false) := hno
      clear hbp hno
      go_wp2_with fail
      go_ret
      have hbp := HB.out
      subst hbp
      exact ⟨k, i2, L2, rfl, hi2, hb2, hL2, Or.inr ⟨HO.out, h2⟩⟩

theorem mk_iff (h : Int) : isMk h = true ↔ h = 178 ∨ h = 8242 := by simp [isMk]
set_option maxHeartbeats 2000000 in
set_option maxRecDepth 100000 in
theorem fac_step (s : ByteArray) (b f : Nat) (hs : s.size ≤ 120) (ih : ∀ g, g ≤ f → CFac s b g) (ih3 : CPri s b f) : CFac s b (f + 1) := by
  intro ts L i ap w N hf hi hts h hN hN2
  have R1 : Hid (pp (f + 1) 2 0 ts L = if hd ts = 8722 then
        (if (pp f 2 0 ts.tail L).ok then ⟨true, (pp f 2 0 ts.tail L).L.length, (pp f 2 0 ts.tail L).L ++ [opNd 110 (pp f 2 0 ts.tail L).k 0 (hp ts)], (pp f 2 0 ts.tail L).ts⟩
         else pp f 2 0 ts.tail L)
      else if (pp f 3 0 ts L).ok then pp f 6 (pp f 3 0 ts L).k (pp f 3 0 ts L).ts (pp f 3 0 ts L).L else pp f 3 0 ts L) := by show _ = _; simp only [pp]
  generalize pp (f + 1) 2 0 ts L = R at *
  have IH : Hid (∀ g, g ≤ f → CFac s b g) := ih
  clear ih
  have HT : Hid (ts = toks s i ap) := hts
  clear hts
  go_enter Tryz.func127, Tryz.ntmps127
  go_wp2_with fail
  refine (sign_pos s b i L (-1) _ ts ap hs hi HT.out h).mono ?_
  rintro e w1 ⟨c, j, rfl, h1, hb1, hc20, hA⟩
  clear h
  obtain ⟨c1, c3⟩ := rd_out h1
  have s87 := sim_iff hA.sim 8722 (by omega)
  by_cases hm : hd ts = 8722
  · have hcne : c ≠ 0 := by omega
    obtain ⟨htl, hle, hne, hjlt⟩ := hA.tl hcne
    have b87 : ((c : Int) == 8722) = true := by simp; omega
    have HM : Hid (hp ts = j) := hA.pl
    have HTL : Hid (ts.tail = toks s (j + (atP s j).2) false) := htl
    have R2 : Hid (R = if (pp f 2 0 ts.tail L).ok then ⟨true, (pp f 2 0 ts.tail L).L.length, (pp f 2 0 ts.tail L).L ++ [opNd 110 (pp f 2 0 ts.tail L).k 0 (hp ts)], (pp f 2 0 ts.tail L).ts⟩ else pp f 2 0 ts.tail L) := by
      have := R1.out
      rw [if_pos hm] at this
      exact this
    have htlen : ts.tail.length + 1 = ts.length := by simp; omega
    have hlt2 := (atP_le s j).1
    generalize ts.tail = tl at *
    clear R1 s87 hm hcne htl hA
    go_wp2_with fail
    refine (skip_any s b j L (-1) _ hs (by omega) h1).mono ?_
    rintro e w4 ⟨rfl, h4, hb4⟩
    clear c1 c3 h1
    go_wp2_with fail
    refine (IH.out f (Nat.le_refl _) tl L (j + (atP s j).2) false _ (N - 1) (by omega) hle HTL.out h4 (by omega) (by omega)).mono ?_
    rintro e w5 ⟨k5, i5, L5, rfl, hi5, hb5, hL5, hP5⟩
    obtain ⟨bad5, h5, hP6⟩ := rpost_bad hP5
    have H6 : Hid (((pp f 2 0 tl L).ok = true ∧ k5 = (pp f 2 0 tl L).k ∧ L5 = (pp f 2 0 tl L).L ∧ bad5 = -1 ∧ ∃ ap, (pp f 2 0 tl L).ts = toks s i5 ap) ∨ ((pp f 2 0 tl L).ok = false ∧ bad5 = hp (pp f 2 0 tl L).ts)) := hP6
    clear hP5 hP6
    go_wp2_with fail
    refine (add_as s b i5 L5 bad5 (opNd 110 k5 0 j) _ _ (by omega) h5 rfl).mono ?_
    rintro e w6 ⟨rfl, h6, hb6⟩
    go_wp2_with fail
    go_ret
    have hR := R2.out
    rw [HM.out] at hR
    refine ⟨L5.length, i5, L5 ++ [opNd 110 k5 0 j], rfl, hi5, (((hb1.trans hb4).trans hb5).trans hb6), by simp; omega, ?_⟩
    rcases H6.out with ⟨o1, rfl, rfl, rfl, ap5, o5⟩ | ⟨o1, rfl⟩
    · rw [if_pos o1] at hR
      subst hR
      exact Or.inl ⟨rfl, rfl, rfl, h6, ap5, o5⟩
    · rw [if_neg (by rw [o1]; decide)] at hR
      subst hR
      exact Or.inr ⟨o1, h6⟩
  · have b87 : ((c : Int) == 8722) = false := by simp; omega
    have R2 : Hid (R = if (pp f 3 0 ts L).ok then pp f 6 (pp f 3 0 ts L).k (pp f 3 0 ts L).ts (pp f 3 0 ts L).L else pp f 3 0 ts L) := by
      have := R1.out
      rw [if_neg hm] at this
      exact this
    obtain ⟨ap1, hat⟩ := hA.at'
    have HAT : Hid (ts = toks s j ap1) := hat
    have hjle := hA.le
    clear R1 s87 hm hA hat
    go_wp2_with fail
    refine (ih3 ts L j ap1 _ N (by omega) hjle HAT.out h1 hN hN2).mono ?_
    rintro e w2 ⟨k1, i1, L1, rfl, hi1, hb2, hL1, hP⟩
    have hI : RowInv s b w N R 6 f f k1 w2 := by
      have pi := pp_inv f 3 0 ts L
      refine RowInv.start R2.out hi1 (hb1.trans hb2) hL1 (fun ho => ?_) hP
      have a1 := pi.lt ho (by decide)
      have a2 := pi.len
      omega
    clear hP hb2 hb1 hi1 hL1 R2 c1 c3
    go_wp2_with fail
    go_loopg [6, 3] f (fun g s6 s3 wr => ∃ k : Nat, s6 = .int .i64 k ∧ RowInv s b w N R 6 f g k wr)
    case atStart => exact ⟨k1, rfl, hI⟩
    case round =>
      clear hI h1 b87
      obtain ⟨k, rfl, i2, L2, bad, hi2, hb2, h2, hL2, hcase⟩ := hrel
      obtain ⟨c1, c3⟩ := rd_out h2
      rcases hcase with ⟨rfl, ts2, ap2, hts2, hpp, hg, hN3, hgf⟩ | ⟨hbad, hno, hbp⟩
      · have HP : Hid (pp gk 6 k ts2 L2 = R) := hpp
        clear hpp
        have HT : Hid (ts2 = toks s i2 ap2) := hts2
        clear hts2
        go_wp2_with fail
        clear c1 c3
        refine (sign_pos s b i2 L2 (-1) _ ts2 ap2 hs hi2 HT.out h2).mono ?_
        rintro e w3 ⟨c, j, rfl, h3, hb3, hc20, hA⟩
        clear h2
        obtain ⟨c1, c3⟩ := rd_out h3
        obtain ⟨g, rfl⟩ : ∃ g, gk = g + 1 := ⟨gk - 1, by omega⟩
        have s43 := sim_iff hA.sim 178 (by omega)
        have s87 := sim_iff hA.sim 8242 (by omega)
        by_cases hm : isMk (hd ts2) = true
        · have hcne : c ≠ 0 := by
            intro e0
            rw [mk_iff] at hm
            omega
          obtain ⟨htl, hle, hne, hjlt⟩ := hA.tl hcne
          have hcc := hA.is
          have hlt2 := (atP_le s j).1
          have HQ : Hid (pp g 6 L2.length ts2.tail (L2 ++ [opNd (hd ts2) k 0 (hp ts2)]) = R) := by
            have := HP.out
            simp only [pp] at this
            rw [if_pos hm] at this
            exact this
          have HM : Hid (hd ts2 = c ∧ hp ts2 = j) := ⟨by rw [mk_iff] at hm; omega, hA.pl⟩
          have HTL : Hid (ts2.tail = toks s (j + (atP s j).2) false) := htl
          have htlen : ts2.tail.length + 1 = ts2.length := by simp; omega
          generalize ts2.tail = tl2 at *
          rcases (mk_iff _).1 hm with hm1 | hm1
          · have b43 : ((c : Int) != 178) = false := by simp; omega
            have b87 : ((c : Int) != 8242) = true := by simp; omega
            clear HP s43 s87 hm hm1 hcc hcne htl hA
            go_wp2_with fail
            refine (add_as s b j L2 (-1) (opNd c k 0 j) _ _ (by omega) h3 rfl).mono ?_
            rintro e w4 ⟨rfl, h4, hb4⟩
            clear c1 c3 h3
            go_wp2_with fail
            refine (skip_any s b j _ (-1) _ hs (by omega) h4).mono ?_
            rintro e w5 ⟨rfl, h5, hb5⟩
            go_wp2_with fail
            go_roundg g
            case measure => omega
            case rel =>
              refine ⟨L2.length, rfl, ?_⟩
              obtain ⟨m1, m2⟩ := HM.out
              have q := HQ.out
              rw [m1, m2] at q
              exact ⟨j + (atP s j).2, _, -1, hle, ((hb2.trans hb3).trans hb4).trans hb5, h5, by simp; omega, Or.inl ⟨rfl, tl2, false, HTL.out, q, by omega, by simp; omega, by omega⟩⟩
          · have b43 : ((c : Int) != 178) = true := by simp; omega
            have b87 : ((c : Int) != 8242) = false := by simp; omega
            clear HP s43 s87 hm hm1 hcc hcne htl hA
            go_wp2_with fail
            refine (add_as s b j L2 (-1) (opNd c k 0 j) _ _ (by omega) h3 rfl).mono ?_
            rintro e w4 ⟨rfl, h4, hb4⟩
            clear c1 c3 h3
            go_wp2_with fail
            refine (skip_any s b j _ (-1) _ hs (by omega) h4).mono ?_
            rintro e w5 ⟨rfl, h5, hb5⟩
            go_wp2_with fail
            go_roundg g
            case measure => omega
            case rel =>
              refine ⟨L2.length, rfl, ?_⟩
              obtain ⟨m1, m2⟩ := HM.out
              have q := HQ.out
              rw [m1, m2] at q
              exact ⟨j + (atP s j).2, _, -1, hle, ((hb2.trans hb3).trans hb4).trans hb5, h5, by simp; omega, Or.inl ⟨rfl, tl2, false, HTL.out, q, by omega, by simp; omega, by omega⟩⟩
        · have b43 : ((c : Int) != 178) = true := by simp; rw [mk_iff] at hm; omega
          have b87 : ((c : Int) != 8242) = true := by simp; rw [mk_iff] at hm; omega
          have HQ : Hid (R = ⟨true, k, L2, ts2⟩) := by
            have := HP.out
            simp only [pp] at this
            rw [if_neg hm] at this
            exact this.symm
          clear HP s43 s87 hm
          go_wp2_with fail
          go_ret
          rw [HQ.out]
          exact ⟨k, j, L2, rfl, hA.le, hb2.trans hb3, hL2, Or.inl ⟨rfl, rfl, rfl, h3, hA.at'⟩⟩
      · have hnb : ¬ bad < 0 := by omega
        have HB : Hid (bad = hp R.ts) := hbp
        have HO : Hid (R.ok = false) := hno
        clear hbp hno
        go_wp2_with fail
        go_ret
        have hbp := HB.out
        subst hbp
        exact ⟨k, i2, L2, rfl, hi2, hb2, hL2, Or.inr ⟨HO.out, h2⟩⟩

theorem sim_dig {c : Nat} {h : Int} (hs : sim c h) : (isDig h || isFrac h) = true ↔ ((48 ≤ c ∧ c ≤ 57) ∨ c = 189 ∨ c = 188 ∨ c = 190) := by
  unfold sim at hs
  unfold isDig isFrac
  simp
  omega
theorem sim_nm {c : Nat} {h : Int} (hs : sim c h) : (h = 105 ∨ isNm h = true) ↔ (c = 105 ∨ (945 ≤ c ∧ c ≤ 969)) := by
  unfold sim at hs
  unfold isNm
  simp
  omega

set_option maxHeartbeats 2000000 in
set_option maxRecDepth 100000 in
theorem pri_step (s : ByteArray) (b f : Nat) (hs : s.size ≤ 120) (ih : CRow s b 0 f) : CPri s b (f + 1) := by
  intro ts L i ap w N hf hi hts h hN hN2
  have R1 : Hid (pp (f + 1) 3 0 ts L = (if isDig (hd ts) || isFrac (hd ts) then ⟨true, L.length, L ++ [numNd ts], (numT ts).2⟩
      else if hd ts = 105 ∨ isNm (hd ts) then ⟨true, L.length, L ++ [opNd (hd ts) 0 0 (hp ts)], ts.tail⟩
      else if hd ts = 40 then
        (if (pp f 0 0 ts.tail L).ok then
          (if hd (pp f 0 0 ts.tail L).ts = 41 then ⟨true, (pp f 0 0 ts.tail L).k, (pp f 0 0 ts.tail L).L, (pp f 0 0 ts.tail L).ts.tail⟩
           else ⟨false, 0, (pp f 0 0 ts.tail L).L, (pp f 0 0 ts.tail L).ts⟩)
         else pp f 0 0 ts.tail L)
      else ⟨false, 0, L, ts⟩)) := by show _ = _; simp only [pp]
  generalize pp (f + 1) 3 0 ts L = R at *
  have HT : Hid (ts = toks s i ap) := hts
  clear hts
  go_enter Tryz.func151, Tryz.ntmps151
  go_wp2_with fail
  refine (sign_pos s b i L (-1) _ ts ap hs hi HT.out h).mono ?_
  rintro e w1 ⟨c, j, rfl, h1, hb1, hc20, hA⟩
  clear h
  obtain ⟨c1, c3⟩ := rd_out h1
  by_cases hdf : (isDig (hd ts) || isFrac (hd ts)) = true
  · have hcs := (sim_dig hA.sim).1 hdf
    obtain ⟨htl, hle, hne, hjlt⟩ := hA.tl (by omega)
    obtain ⟨ap1, hat⟩ := hA.at'
    have hnb := hA.nb
    obtain ⟨n1, n2, n3⟩ := num_eq s j ap1 hjlt (by omega) (by rw [← hat]; exact hdf)
    rw [← hat] at n1 n2
    have HR : Hid (R = ⟨true, L.length, L ++ [numB s j], toks s (numEnd2 s j) false⟩) := by
      have := R1.out
      rw [if_pos hdf, n1, n2] at this
      exact this
    have HN3 : Hid (numEnd2 s j ≤ s.size) := n3
    clear R1 htl hat n1 n2 n3 hnb
    rcases hcs with hcs | hcs | hcs | hcs
    · have q1 : (48 : Int) ≤ (c : Int) := by omega
      have q2 : (c : Int) ≤ 57 := by omega
      clear hA hdf
      go_wp2_with fail
      refine (numeral_any s b j L (-1) _ hs (by omega) hjlt h1).mono ?_
      rintro e w2 ⟨rfl, h2, hb2⟩
      go_wp2_with fail
      go_ret
      rw [HR.out]
      exact ⟨L.length, numEnd2 s j, _, rfl, HN3.out, hb1.trans hb2, by simp; omega, Or.inl ⟨rfl, rfl, rfl, h2, false, rfl⟩⟩
    · have q1 : (48 : Int) ≤ (c : Int) := by omega
      have q2 : ¬ (c : Int) ≤ 57 := by omega
      have q3 : ((c : Int) == 189) = true := by simp; omega
      clear hcs
      clear hA hdf
      go_wp2_with fail
      refine (numeral_any s b j L (-1) _ hs (by omega) hjlt h1).mono ?_
      rintro e w2 ⟨rfl, h2, hb2⟩
      go_wp2_with fail
      go_ret
      rw [HR.out]
      exact ⟨L.length, numEnd2 s j, _, rfl, HN3.out, hb1.trans hb2, by simp; omega, Or.inl ⟨rfl, rfl, rfl, h2, false, rfl⟩⟩
    · have q1 : (48 : Int) ≤ (c : Int) := by omega
      have q2 : ¬ (c : Int) ≤ 57 := by omega
      have q3 : ((c : Int) == 189) = false := by simp; omega
      have q4 : ((c : Int) == 188) = true := by simp; omega
      clear hcs
      clear hA hdf
      go_wp2_with fail
      refine (numeral_any s b j L (-1) _ hs (by omega) hjlt h1).mono ?_
      rintro e w2 ⟨rfl, h2, hb2⟩
      go_wp2_with fail
      go_ret
      rw [HR.out]
      exact ⟨L.length, numEnd2 s j, _, rfl, HN3.out, hb1.trans hb2, by simp; omega, Or.inl ⟨rfl, rfl, rfl, h2, false, rfl⟩⟩
    · have q1 : (48 : Int) ≤ (c : Int) := by omega
      have q2 : ¬ (c : Int) ≤ 57 := by omega
      have q3 : ((c : Int) == 189) = false := by simp; omega
      have q4 : ((c : Int) == 188) = false := by simp; omega
      have q5 : ((c : Int) == 190) = true := by simp; omega
      clear hcs
      clear hA hdf
      go_wp2_with fail
      refine (numeral_any s b j L (-1) _ hs (by omega) hjlt h1).mono ?_
      rintro e w2 ⟨rfl, h2, hb2⟩
      go_wp2_with fail
      go_ret
      rw [HR.out]
      exact ⟨L.length, numEnd2 s j, _, rfl, HN3.out, hb1.trans hb2, by simp; omega, Or.inl ⟨rfl, rfl, rfl, h2, false, rfl⟩⟩
  · have hnd : ¬ ((48 ≤ c ∧ c ≤ 57) ∨ c = 189 ∨ c = 188 ∨ c = 190) := fun hh => hdf ((sim_dig hA.sim).2 hh)
    have q3 : ((c : Int) == 189) = false := by simp; omega
    have q4 : ((c : Int) == 188) = false := by simp; omega
    have q5 : ((c : Int) == 190) = false := by simp; omega
    have q0 : ¬ (48 : Int) ≤ (c : Int) ∨ ¬ (c : Int) ≤ 57 := by omega
    go_upto_region 3 with fail
    go_cut [29] (fun s29 wc => s29 = .bool false ∧ w1 = wc)
    case first =>
      rcases q0 with q0 | q0
      · have q1 : decide ((48 : Int) ≤ (c : Int)) = false := by simp; omega
        go_wp2_with fail
        go_meet
        case rel => exact ⟨rfl, rfl⟩
      · by_cases q9 : (48 : Int) ≤ (c : Int)
        · go_wp2_with fail
          go_meet
          case rel => exact ⟨congrArg Value.bool (by simp; omega), rfl⟩
        · omega
    case rest =>
      obtain ⟨rfl, rfl⟩ := hcut
      by_cases hnm : hd ts = 105 ∨ isNm (hd ts) = true
      · have hcs := (sim_nm hA.sim).1 hnm
        obtain ⟨htl, hle, hne, hjlt⟩ := hA.tl (by omega)
        have hpl := hA.pl
        have HR : Hid (R = ⟨true, L.length, L ++ [opNd c 0 0 j], ts.tail⟩) := by
          have := R1.out
          have hh : hd ts = c := by have := hA.sim; unfold sim at this; omega
          rw [if_neg hdf, if_pos hnm, hpl, hh] at this
          exact this
        have HTL : Hid (ts.tail = toks s (j + (atP s j).2) false) := htl
        have hlt2 := (atP_le s j).1
        clear R1 htl hnm hdf hnd hA hpl
        rcases hcs with hcs | hcs
        · have q6 : ((c : Int) == 105) = true := by simp; omega
          clear hcs
          go_wp2_with fail
          refine (skip_any s b j L (-1) _ hs (by omega) h1).mono ?_
          rintro e w2 ⟨rfl, h2, hb2⟩
          go_wp2_with fail
          refine (add_as s b _ L (-1) (opNd c 0 0 j) _ _ (by omega) h2 rfl).mono ?_
          rintro e w3 ⟨rfl, h3, hb3⟩
          go_wp2_with fail
          go_ret
          rw [HR.out]
          exact ⟨L.length, j + (atP s j).2, _, rfl, hle, (hb1.trans hb2).trans hb3, by simp; omega, Or.inl ⟨rfl, rfl, rfl, h3, false, HTL.out⟩⟩
        · have q6 : ((c : Int) == 105) = false := by simp; omega
          have q7 : (945 : Int) ≤ (c : Int) := by omega
          have q8 : (c : Int) ≤ 969 := by omega
          go_wp2_with fail
          refine (skip_any s b j L (-1) _ hs (by omega) h1).mono ?_
          rintro e w2 ⟨rfl, h2, hb2⟩
          go_wp2_with fail
          refine (add_as s b _ L (-1) (opNd c 0 0 j) _ _ (by omega) h2 rfl).mono ?_
          rintro e w3 ⟨rfl, h3, hb3⟩
          go_wp2_with fail
          go_ret
          rw [HR.out]
          exact ⟨L.length, j + (atP s j).2, _, rfl, hle, (hb1.trans hb2).trans hb3, by simp; omega, Or.inl ⟨rfl, rfl, rfl, h3, false, HTL.out⟩⟩
      · have hnn : ¬ (c = 105 ∨ (945 ≤ c ∧ c ≤ 969)) := fun hh => hnm ((sim_nm hA.sim).2 hh)
        have q6 : ((c : Int) == 105) = false := by simp; omega
        go_upto_region 5 with fail
        go_cut [41] (fun s41 wc => s41 = .bool false ∧ w1 = wc)
        case first =>
          by_cases q7 : (945 : Int) ≤ (c : Int)
          · have q8 : decide ((c : Int) ≤ 969) = false := by simp; omega
            go_wp2_with fail
            go_meet
            case rel => exact ⟨rfl, rfl⟩
          · have q8 : decide ((945 : Int) ≤ (c : Int)) = false := by simp; omega
            go_wp2_with fail
            go_meet
            case rel => exact ⟨rfl, rfl⟩
        case rest =>
          obtain ⟨rfl, rfl⟩ := hcut
          have s40 := sim_iff hA.sim 40 (by omega)
          by_cases h40 : hd ts = 40
          · obtain ⟨htl, hle, hne, hjlt⟩ := hA.tl (by omega)
            have q7 : ((c : Int) == 40) = true := by simp; omega
            have HR : Hid (R = if (pp f 0 0 ts.tail L).ok then
                (if hd (pp f 0 0 ts.tail L).ts = 41 then ⟨true, (pp f 0 0 ts.tail L).k, (pp f 0 0 ts.tail L).L, (pp f 0 0 ts.tail L).ts.tail⟩
                 else ⟨false, 0, (pp f 0 0 ts.tail L).L, (pp f 0 0 ts.tail L).ts⟩)
               else pp f 0 0 ts.tail L) := by
              have := R1.out
              rw [if_neg hdf, if_neg hnm, if_pos h40] at this
              exact this
            have HTL : Hid (ts.tail = toks s (j + (atP s j).2) false) := htl
            have htlen : ts.tail.length + 1 = ts.length := by simp; omega
            have hlt2 := (atP_le s j).1
            have pi := pp_inv f 0 0 ts.tail L
            generalize ts.tail = tl at *
            clear R1 htl hnm hdf hnd hA hnn s40 h40 q0 q3 q4 q5 q6
            go_wp2_with fail
            refine (skip_any s b j L (-1) _ hs (by omega) h1).mono ?_
            rintro e w2 ⟨rfl, h2, hb2⟩
            clear c1 c3 h1
            go_wp2_with fail
            refine (ih tl L (j + (atP s j).2) false _ N (by omega) hle HTL.out h2 (by omega) hN2).mono ?_
            rintro e w5 ⟨k5, i5, L5, rfl, hi5, hb5, hL5, hP5⟩
            rcases hP5 with ⟨o1, o2, o3, h5, ap5, o5⟩ | ⟨o1, h5⟩
            · have HO : Hid ((pp f 0 0 tl L).ok = true ∧ k5 = (pp f 0 0 tl L).k ∧ L5 = (pp f 0 0 tl L).L ∧ (pp f 0 0 tl L).ts = toks s i5 ap5) := ⟨o1, o2, o3, o5⟩
              clear o1 o2 o3 o5
              go_wp2_with fail
              refine (sign_pos s b i5 L5 (-1) _ _ ap5 hs hi5 HO.out.2.2.2 h5).mono ?_
              rintro e w6 ⟨d, j6, rfl, h6, hb6, hd20, hA6⟩
              clear h5
              have s41 := sim_iff hA6.sim 41 (by omega)
              by_cases h41 : hd (pp f 0 0 tl L).ts = 41
              · obtain ⟨htl6, hle6, hne6, hjlt6⟩ := hA6.tl (by omega)
                have q8 : ((d : Int) != 41) = false := by simp; omega
                have H6 : Hid ((pp f 0 0 tl L).ts.tail = toks s (j6 + (atP s j6).2) false) := htl6
                have HR2 : Hid (R = ⟨true, (pp f 0 0 tl L).k, (pp f 0 0 tl L).L, (pp f 0 0 tl L).ts.tail⟩) := by
                  have := HR.out
                  rw [if_pos HO.out.1, if_pos h41] at this
                  exact this
                clear HR htl6 hA6 s41 h41
                go_wp2_with fail
                refine (skip_any s b j6 L5 (-1) _ hs (by omega) h6).mono ?_
                rintro e w7 ⟨rfl, h7, hb7⟩
                go_wp2_with fail
                go_ret
                rw [HR2.out]
                obtain ⟨o1, rfl, rfl, o4⟩ := HO.out
                exact ⟨_, _, _, rfl, hle6, (((hb1.trans hb2).trans hb5).trans hb6).trans hb7, hL5, Or.inl ⟨rfl, rfl, rfl, h7, false, H6.out⟩⟩
              · have q8 : ((d : Int) != 41) = true := by simp; omega
                have HR2 : Hid (R = ⟨false, 0, (pp f 0 0 tl L).L, (pp f 0 0 tl L).ts⟩) := by
                  have := HR.out
                  rw [if_pos HO.out.1, if_neg h41] at this
                  exact this
                have HPL : Hid (hp (pp f 0 0 tl L).ts = j6) := hA6.pl
                have hle6 := hA6.le
                clear HR hA6 s41 h41
                go_wp2_with fail
                refine (fail_any s b j6 L5 (-1) _ hs hle6 h6).mono ?_
                rintro e w7 ⟨rfl, h7, hb7⟩
                go_wp2_with fail
                go_ret
                rw [HR2.out]
                rw [if_pos (by decide)] at h7
                exact ⟨0, j6, L5, rfl, hle6, (((hb1.trans hb2).trans hb5).trans hb6).trans hb7, hL5, Or.inr ⟨rfl, by show RdSt s b j6 L5 (hp (pp f 0 0 tl L).ts) w7; rw [HPL.out]; exact h7⟩⟩
            · have HR2 : Hid (R = pp f 0 0 tl L) := by
                have := HR.out
                rw [if_neg (by rw [o1]; decide)] at this
                exact this
              have HO : Hid ((pp f 0 0 tl L).ok = false) := o1
              clear HR o1
              obtain ⟨pl5, hpl5⟩ : ∃ x, hp (pp f 0 0 tl L).ts = x := ⟨_, rfl⟩
              rw [hpl5] at h5
              have HP5 : Hid (hp (pp f 0 0 tl L).ts = pl5) := hpl5
              clear hpl5
              go_wp2_with fail
              refine (sign_any s b i5 L5 _ _ hs hi5 h5).mono ?_
              rintro e w6 ⟨rfl, h6, hb6⟩
              have hle6 := skipB_le s i5 hi5
              clear h5
              generalize skipB s i5 = j6 at *
              obtain ⟨u1, u2, u3⟩ := atP_le s j6
              have u2 := u2 hle6
              by_cases h41 : (atP s j6).1 = 41
              · have q8 : (((atP s j6).1 : Int) != 41) = false := by simp; omega
                clear h41
                go_wp2_with fail
                refine (skip_any s b j6 L5 _ _ hs (by omega) h6).mono ?_
                rintro e w7 ⟨rfl, h7, hb7⟩
                go_wp2_with fail
                go_ret
                rw [HR2.out]
                exact ⟨k5, j6 + (atP s j6).2, L5, rfl, u2, (((hb1.trans hb2).trans hb5).trans hb6).trans hb7, hL5, Or.inr ⟨HO.out, by rw [HP5.out]; exact h7⟩⟩
              · have q8 : (((atP s j6).1 : Int) != 41) = true := by simp; omega
                go_wp2_with fail
                refine (fail_any s b j6 L5 _ _ hs hle6 h6).mono ?_
                rintro e w7 ⟨rfl, h7, hb7⟩
                go_wp2_with fail
                go_ret
                rw [HR2.out]
                rw [if_neg (by omega)] at h7
                exact ⟨0, j6, L5, rfl, hle6, (((hb1.trans hb2).trans hb5).trans hb6).trans hb7, hL5, Or.inr ⟨HO.out, by rw [HP5.out]; exact h7⟩⟩
          · have q7 : ((c : Int) == 40) = false := by simp; omega
            have HR : Hid (R = ⟨false, 0, L, ts⟩) := by
              have := R1.out
              rw [if_neg hdf, if_neg hnm, if_neg h40] at this
              exact this
            have HPL : Hid (hp ts = j) := hA.pl
            have hle := hA.le
            clear R1 hnm hdf hnd hA hnn s40 h40 q0 q3 q4 q5 q6
            go_wp2_with fail
            refine (fail_any s b j L (-1) _ hs hle h1).mono ?_
            rintro e w2 ⟨rfl, h2, hb2⟩
            go_wp2_with fail
            go_ret
            rw [HR.out]
            rw [if_pos (by decide)] at h2
            exact ⟨0, j, L, rfl, hle, hb1.trans hb2, by omega, Or.inr ⟨rfl, by show RdSt s b j L (hp ts) w2; rw [HPL.out]; exact h2⟩⟩

/-- ALL OF THEM, by one induction. -/
theorem rdr_all (s : ByteArray) (b : Nat) (hs : s.size ≤ 120) : ∀ f g, g ≤ f → CRow s b 0 g ∧ CRow s b 1 g ∧ CFac s b g ∧ CPri s b g := by
  intro f
  induction f with
  | zero =>
    intro g hg
    obtain rfl : g = 0 := by omega
    refine ⟨?_, ?_, ?_, ?_⟩
    · intro ts L i ap w N h; omega
    · intro ts L i ap w N h; omega
    · intro ts L i ap w N h; omega
    · intro ts L i ap w N h; omega
  | succ f ih =>
    intro g hg
    by_cases hgf : g ≤ f
    · exact ih g hgf
    · obtain rfl : g = f + 1 := by omega
      exact ⟨row0_step s b f hs (fun g h => (ih g h).2.1), row1_step s b f hs (fun g h => (ih g h).2.2.1), fac_step s b f hs (fun g h => (ih g h).2.2.1) (ih f (Nat.le_refl _)).2.2.2, pri_step s b f hs (ih f (Nat.le_refl _)).1⟩
end Go.Proofs.YtodabmkcihafhaaGreatDoor

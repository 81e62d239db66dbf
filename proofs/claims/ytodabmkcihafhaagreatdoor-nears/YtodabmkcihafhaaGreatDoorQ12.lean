import Derived.Deep.DeepCutAuto
import Derived.OwnWalk
import Derived.Test.YtodabmkcihafhaaGreatDoorQ11
import Derived.Test.YtodabmkcihafhaaGreatDoorQ6
import Derived.Test.YtodabmkcihafhaaGreatDoorQ8

/- The document's operations. -/
namespace Go.Proofs.YtodabmkcihafhaaGreatDoor
open Go.RowKit
set_option linter.unusedVariables false

set_option maxHeartbeats 1000000 in
theorem rzero_any (x : Num) (w : World) : Calls Tryz.prog 89 #[.agg #[.int .i64 x.re.n, .int .i64 x.re.d, .int .i64 x.im.n, .int .i64 x.im.d]] w fun e w' => e = .returned (.bool x.zero) ∧ Below w.heap.size w w' := by
  have HZ : Hid (x.zero = (x.re.n == 0 && x.im.n == 0)) := rfl
  generalize x.zero = Z at *
  by_cases h : x.re.n = 0
  · have hb : (x.re.n == 0) = true := by simpa using h
    rw [hb] at HZ
    have HH := hidMk h
    clear h
    go_enter Tryz.func89, Tryz.ntmps89
    go_wp2_with fail
    go_ret
    refine ⟨?_, fr_below w _⟩
    rw [HZ.out]
    rfl
  · have hb : (x.re.n == 0) = false := by simpa using h
    rw [hb] at HZ
    go_enter Tryz.func89, Tryz.ntmps89
    go_wp2_with fail
    go_ret
    refine ⟨?_, fr_below w _⟩
    rw [HZ.out]
    rfl

/-- The blocks of worked: the two numbers, the result, the way (block R), and others behind it. -/
structure Wrk (w0 : World) (R : Nat) (x y : Num) (ex : List (Nat × Array Value × TypeId)) (fl : Bool) (w : World) : Prop where
  hx : w.heap[w0.heap.size]? = some (.cells #[.int .i64 x.re.n, .int .i64 x.re.d, .int .i64 x.im.n, .int .i64 x.im.d] 92 (0, 0))
  hy : w.heap[w0.heap.size + 1]? = some (.cells #[.int .i64 y.re.n, .int .i64 y.re.d, .int .i64 y.im.n, .int .i64 y.im.d] 92 (0, 0))
  hz : w.heap[w0.heap.size + 1 + 1]? = some (.cells #[.int .i64 0, .int .i64 0, .int .i64 0, .int .i64 0] 92 (0, 0))
  hr : WySt R fl w
  hR : w0.heap.size + 1 + 1 < R
  hb : Below w0.heap.size w0 w
  hex : ∀ p ∈ ex, R < p.1 ∧ w.heap[p.1]? = some (.cells p.2.1 p.2.2 (0, 0))
theorem Wrk.grown {w0 w w' : World} {R : Nat} {x y : Num} {ex : List (Nat × Array Value × TypeId)} {fl fl' : Bool} (h : Wrk w0 R x y ex fl w) (g : w.grownBy w' (some R)) (hr : WySt R fl' w') : Wrk w0 R x y ex fl' w' := by
  have l := h.hr.lt
  have r := h.hR
  refine ⟨?_, ?_, ?_, hr, r, h.hb.trans (gb_to_below g (by omega) (by omega)), fun p hp => ⟨(h.hex p hp).1, ?_⟩⟩
  · rw [g.block _ (by omega) (by simp; omega)]; exact h.hx
  · rw [g.block _ (by omega) (by simp; omega)]; exact h.hy
  · rw [g.block _ (by omega) (by simp; omega)]; exact h.hz
  · have q := h.hex p hp
    rw [g.block _ (Array.getElem?_eq_some_iff.1 q.2).1 (by simp; omega)]; exact q.2
theorem Wrk.below {w0 w w' : World} {R : Nat} {x y : Num} {ex : List (Nat × Array Value × TypeId)} {fl : Bool} (h : Wrk w0 R x y ex fl w) (g : Below w.heap.size w w') : Wrk w0 R x y ex fl w' :=
  h.grown ⟨g.os, g.tape, g.output, g.size, fun j hj _ => g.block j hj⟩ (h.hr.below g)
theorem Wrk.push {w0 w : World} {R : Nat} {x y : Num} {ex : List (Nat × Array Value × TypeId)} {fl : Bool} (h : Wrk w0 R x y ex fl w) (cs : Array Value) (t : TypeId) : Wrk w0 R x y ((w.heap.size, cs, t) :: ex) fl (w.alloc (.cells cs t)) := by
  have g := h.below (fr_below w (.cells cs t))
  have l := h.hr.lt
  refine ⟨g.hx, g.hy, g.hz, g.hr, g.hR, g.hb, fun p hp => ?_⟩
  rcases List.mem_cons.1 hp with rfl | hp
  · exact ⟨l, heap_alloc_new w _⟩
  · exact g.hex p hp
theorem Wrk.new (w : World) (x y : Num) : Wrk w (w.heap.size + 1 + 1 + 1) x y [] false ((((w.alloc (.cells #[.int .i64 x.re.n, .int .i64 x.re.d, .int .i64 x.im.n, .int .i64 x.im.d] 92)).alloc (.cells #[.int .i64 y.re.n, .int .i64 y.re.d, .int .i64 y.im.n, .int .i64 y.im.d] 92)).alloc (.cells #[.int .i64 0, .int .i64 0, .int .i64 0, .int .i64 0] 92)).alloc (.cells #[.bool false] 205)) := by
  refine ⟨?_, ?_, ?_, ?_, by omega, ?_, fun p hp => by cases hp⟩
  · rw [Below.heap_alloc _ _ _ (by simp; omega), Below.heap_alloc _ _ _ (by simp; omega), Below.heap_alloc _ _ _ (by simp)]
    exact heap_alloc_new w _
  · rw [Below.heap_alloc _ _ _ (by simp), Below.heap_alloc _ _ _ (by simp)]
    have := heap_alloc_new (w.alloc (.cells #[.int .i64 x.re.n, .int .i64 x.re.d, .int .i64 x.im.n, .int .i64 x.im.d] 92)) (.cells #[.int .i64 y.re.n, .int .i64 y.re.d, .int .i64 y.im.n, .int .i64 y.im.d] 92)
    simpa using this
  · rw [Below.heap_alloc _ _ _ (by simp)]
    have := heap_alloc_new ((w.alloc (.cells #[.int .i64 x.re.n, .int .i64 x.re.d, .int .i64 x.im.n, .int .i64 x.im.d] 92)).alloc (.cells #[.int .i64 y.re.n, .int .i64 y.re.d, .int .i64 y.im.n, .int .i64 y.im.d] 92)) (.cells #[.int .i64 0, .int .i64 0, .int .i64 0, .int .i64 0] 92)
    simpa using this
  · have := heap_alloc_new (((w.alloc (.cells #[.int .i64 x.re.n, .int .i64 x.re.d, .int .i64 x.im.n, .int .i64 x.im.d] 92)).alloc (.cells #[.int .i64 y.re.n, .int .i64 y.re.d, .int .i64 y.im.n, .int .i64 y.im.d] 92)).alloc (.cells #[.int .i64 0, .int .i64 0, .int .i64 0, .int .i64 0] 92)) (.cells #[.bool false] 205)
    unfold WySt
    simpa using this
  · exact ((((Below.refl _ w).alloc (Nat.le_refl _) _).alloc (by simp) _).alloc (by simp; omega) _).alloc (by simp; omega) _
/-- A block behind the way, written whole. -/
theorem Wrk.set4 {w0 w : World} {R B : Nat} {x y : Num} {ex : List (Nat × Array Value × TypeId)} {fl : Bool} (h : Wrk w0 R x y ex fl w) (hB : R < B) (hc : w.heap[B]? = some (.cells #[.int .i64 x.re.n, .int .i64 x.re.d, .int .i64 x.im.n, .int .i64 x.im.d] 92 (0, 0))) (p q r s : Value) : Wrk w0 R x y [(B, #[p, q, r, s], 92)] fl ((((w.setCell ⟨B, 0, none⟩ p).setCell ⟨B, 1, none⟩ q).setCell ⟨B, 2, none⟩ r).setCell ⟨B, 3, none⟩ s) := by
  have hR := h.hR
  have k : ∀ j, j ≠ B → ((((w.setCell ⟨B, 0, none⟩ p).setCell ⟨B, 1, none⟩ q).setCell ⟨B, 2, none⟩ r).setCell ⟨B, 3, none⟩ s).heap[j]? = w.heap[j]? := fun j hj => by
    rw [Below.heap_setCell _ _ _ _ hj, Below.heap_setCell _ _ _ _ hj, Below.heap_setCell _ _ _ _ hj, Below.heap_setCell _ _ _ _ hj]
  refine ⟨?_, ?_, ?_, ?_, hR, below_four h.hb (by omega) _ _ _ _, fun u hu => ?_⟩
  · rw [k _ (by omega)]; exact h.hx
  · rw [k _ (by omega)]; exact h.hy
  · rw [k _ (by omega)]; exact h.hz
  · unfold WySt; rw [k _ (by omega)]; exact h.hr
  · have : u = (B, #[p, q, r, s], 92) := by simpa using hu
    subst this
    exact ⟨hB, four_set hc _ _ _ _⟩

def wkV (op : Int) (x y : Num) : Value := match opP op x y with | .ok z => .tuple #[nV z, .int .i64 0] | .err q => .tuple #[nV x, .int .i64 q]

set_option maxHeartbeats 4000000 in
set_option maxRecDepth 100000 in
theorem wk_plus (x y : Num) (w : World) (hx : x.Ok) (hy : y.Ok) :
    Calls Tryz.prog 63 #[.int .i64 43, .agg #[.int .i64 x.re.n, .int .i64 x.re.d, .int .i64 x.im.n, .int .i64 x.im.d], .agg #[.int .i64 y.re.n, .int .i64 y.re.d, .int .i64 y.im.n, .int .i64 y.im.d]] w fun e w' => e = .returned (wkV 43 x y) ∧ Below w.heap.size w w' := by
  have C1 : Hid (∀ fl W, WySt (w.heap.size + 1 + 1 + 1) fl W → Calls Tryz.prog 90 #[.pointer (some ⟨w.heap.size + 1 + 1 + 1, 0, none⟩), .agg #[.int .i64 x.re.n, .int .i64 x.re.d], .agg #[.int .i64 y.re.n, .int .i64 y.re.d]] W fun e w' => e = .returned (.agg #[.int .i64 (plF x.re y.re).n, .int .i64 (plF x.re y.re).d]) ∧ WySt (w.heap.size + 1 + 1 + 1) (fl || plB x.re y.re) w' ∧ W.grownBy w' (some (w.heap.size + 1 + 1 + 1))) := fun fl W h => rplus_any _ fl _ _ W hx.1 hy.1 h
  have C2 : Hid (∀ fl W, WySt (w.heap.size + 1 + 1 + 1) fl W → Calls Tryz.prog 90 #[.pointer (some ⟨w.heap.size + 1 + 1 + 1, 0, none⟩), .agg #[.int .i64 x.im.n, .int .i64 x.im.d], .agg #[.int .i64 y.im.n, .int .i64 y.im.d]] W fun e w' => e = .returned (.agg #[.int .i64 (plF x.im y.im).n, .int .i64 (plF x.im y.im).d]) ∧ WySt (w.heap.size + 1 + 1 + 1) (fl || plB x.im y.im) w' ∧ W.grownBy w' (some (w.heap.size + 1 + 1 + 1))) := fun fl W h => rplus_any _ fl _ _ W hx.2 hy.2 h
  have HV : Hid (wkV 43 x y = if ((false || plB x.re y.re) || plB x.im y.im) then .tuple #[.agg #[.int .i64 x.re.n, .int .i64 x.re.d, .int .i64 x.im.n, .int .i64 x.im.d], .int .i64 5] else .tuple #[.agg #[.int .i64 (plF x.re y.re).n, .int .i64 (plF x.re y.re).d, .int .i64 (plF x.im y.im).n, .int .i64 (plF x.im y.im).d], .int .i64 0]) := by
    show wkV 43 x y = _
    unfold wkV
    rw [show opP 43 x y = bigOr (addB x y) (addN x y) from rfl, Bool.false_or]
    unfold bigOr
    rw [show addB x y = (plB x.re y.re || plB x.im y.im) from rfl]
    cases plB x.re y.re || plB x.im y.im <;> rfl
  generalize wkV 43 x y = V at *
  generalize plF x.re y.re = F1 at *
  generalize plF x.im y.im = F2 at *
  generalize plB x.re y.re = B1 at *
  generalize plB x.im y.im = B2 at *
  have H := hidMk ((Wrk.new w x y).push #[.int .i64 x.re.n, .int .i64 x.re.d, .int .i64 x.im.n, .int .i64 x.im.d] 92)
  obtain ⟨X0, X1, X2, X3⟩ := four_cells H.out.hx
  obtain ⟨Y0, Y1, Y2, Y3⟩ := four_cells H.out.hy
  rw [show ((((w.alloc (.cells #[.int .i64 x.re.n, .int .i64 x.re.d, .int .i64 x.im.n, .int .i64 x.im.d] 92)).alloc (.cells #[.int .i64 y.re.n, .int .i64 y.re.d, .int .i64 y.im.n, .int .i64 y.im.d] 92)).alloc (.cells #[.int .i64 0, .int .i64 0, .int .i64 0, .int .i64 0] 92)).alloc (.cells #[.bool false] 205)).heap.size = w.heap.size + 1 + 1 + 1 + 1 by simp] at H
  clear hx hy
  go_enter Tryz.func63, Tryz.ntmps63
  go_wp2_with fail
  refine (C1.out _ _ H.out.hr).mono ?_
  rintro e w1 ⟨rfl, hr1, hg1⟩
  have H1 := hidMk ((H.out.grown hg1 hr1).push #[.int .i64 F1.n, .int .i64 F1.d] 90)
  clear H X0 X1 X2 X3 Y0 Y1 Y2 Y3 hr1 hg1
  obtain ⟨X0, X1, X2, X3⟩ := four_cells H1.out.hx
  obtain ⟨Y0, Y1, Y2, Y3⟩ := four_cells H1.out.hy
  go_wp2_with fail
  refine (C2.out _ _ H1.out.hr).mono ?_
  rintro e w2 ⟨rfl, hr2, hg2⟩
  have H2 := hidMk ((H1.out.grown hg2 hr2).push #[.int .i64 F2.n, .int .i64 F2.d] 90)
  clear H1 X0 X1 X2 X3 Y0 Y1 Y2 Y3 hr2 hg2 C1 C2
  obtain ⟨L0, L1, _, _⟩ := two_cells (H2.out.hex (w1.heap.size, #[.int .i64 F1.n, .int .i64 F1.d], 90) (by simp)).2
  obtain ⟨L2, L3, _, _⟩ := two_cells (H2.out.hex (w2.heap.size, #[.int .i64 F2.n, .int .i64 F2.d], 90) (by simp)).2
  have hzb := H2.out.hex (w.heap.size + 1 + 1 + 1 + 1, #[.int .i64 x.re.n, .int .i64 x.re.d, .int .i64 x.im.n, .int .i64 x.im.d], 92) (by simp)
  obtain ⟨u0, u1, u2, u3⟩ := four_cells hzb.2
  obtain ⟨g0, g1, g2, g3⟩ := four_frozen hzb.2
  have HZB := hidMk hzb
  clear hzb
  go_upto_region 24 with fail
  have H3 := hidMk (H2.out.set4 HZB.out.1 HZB.out.2 (.int .i64 F1.n) (.int .i64 F1.d) (.int .i64 F2.n) (.int .i64 F2.d))
  clear H2 HZB L0 L1 L2 L3 u0 u1 u2 u3 g0 g1 g2 g3
  generalize (((World.setCell _ _ _).setCell _ _).setCell _ _).setCell _ _ = W3 at *
  have H := H3
  clear H3
  generalize ((false || B1) || B2) = FL at *
  obtain ⟨r0, fr0⟩ := H.out.hr.cells
  obtain ⟨X0, X1, X2, X3⟩ := four_cells H.out.hx
  obtain ⟨z0, z1, z2, z3⟩ := four_cells H.out.hz
  obtain ⟨f0, f1, f2, f3⟩ := four_frozen H.out.hz
  obtain ⟨u0, u1, u2, u3⟩ := four_cells (H.out.hex (w.heap.size + 1 + 1 + 1 + 1, #[.int .i64 F1.n, .int .i64 F1.d, .int .i64 F2.n, .int .i64 F2.d], 92) (by simp)).2
  have hRR := H.out.hR
  cases FL with
  | true =>
    go_wp2_with fail
    refine bp_gen (fun W' => W'.heap[w.heap.size + 1 + 1]? = some (.cells #[.int .i64 x.re.n, .int .i64 x.re.d, .int .i64 x.im.n, .int .i64 x.im.d] 92 (0, 0)) ∧ Below w.heap.size w W') ⟨four_set H.out.hz _ _ _ _, below_four H.out.hb (by omega) _ _ _ _⟩ ?_
    rintro W ⟨hz, hb⟩
    obtain ⟨z0, z1, z2, z3⟩ := four_cells hz
    rw [HV.out]
    exact bodyPost_ret (v := .tuple #[.agg #[.int .i64 x.re.n, .int .i64 x.re.d, .int .i64 x.im.n, .int .i64 x.im.d], .int .i64 5]) (by simp [results, Tryz.results63, go_sem, z0, z1, z2, z3]) rfl ⟨rfl, hb⟩
  | false =>
    go_wp2_with fail
    refine bp_gen (fun W' => W'.heap[w.heap.size + 1 + 1]? = some (.cells #[.int .i64 F1.n, .int .i64 F1.d, .int .i64 F2.n, .int .i64 F2.d] 92 (0, 0)) ∧ Below w.heap.size w W') ⟨four_set H.out.hz _ _ _ _, below_four H.out.hb (by omega) _ _ _ _⟩ ?_
    rintro W ⟨hz, hb⟩
    obtain ⟨z0, z1, z2, z3⟩ := four_cells hz
    rw [HV.out]
    exact bodyPost_ret (v := .tuple #[.agg #[.int .i64 F1.n, .int .i64 F1.d, .int .i64 F2.n, .int .i64 F2.d], .int .i64 0]) (by simp [results, Tryz.results63, go_sem, z0, z1, z2, z3]) rfl ⟨rfl, hb⟩

set_option maxHeartbeats 4000000 in
set_option maxRecDepth 100000 in
theorem wk_less (x y : Num) (w : World) (hx : x.Ok) (hy : y.Ok) :
    Calls Tryz.prog 63 #[.int .i64 8722, .agg #[.int .i64 x.re.n, .int .i64 x.re.d, .int .i64 x.im.n, .int .i64 x.im.d], .agg #[.int .i64 y.re.n, .int .i64 y.re.d, .int .i64 y.im.n, .int .i64 y.im.d]] w fun e w' => e = .returned (wkV 8722 x y) ∧ Below w.heap.size w w' := by
  have C1 : Hid (∀ fl W, WySt (w.heap.size + 1 + 1 + 1) fl W → Calls Tryz.prog 91 #[.pointer (some ⟨w.heap.size + 1 + 1 + 1, 0, none⟩), .agg #[.int .i64 x.re.n, .int .i64 x.re.d], .agg #[.int .i64 y.re.n, .int .i64 y.re.d]] W fun e w' => e = .returned (.agg #[.int .i64 (plF x.re y.re.neg).n, .int .i64 (plF x.re y.re.neg).d]) ∧ WySt (w.heap.size + 1 + 1 + 1) (fl || plB x.re y.re.neg) w' ∧ W.grownBy w' (some (w.heap.size + 1 + 1 + 1))) := fun fl W h => rless_any _ fl _ _ W hx.1 hy.1 h
  have C2 : Hid (∀ fl W, WySt (w.heap.size + 1 + 1 + 1) fl W → Calls Tryz.prog 91 #[.pointer (some ⟨w.heap.size + 1 + 1 + 1, 0, none⟩), .agg #[.int .i64 x.im.n, .int .i64 x.im.d], .agg #[.int .i64 y.im.n, .int .i64 y.im.d]] W fun e w' => e = .returned (.agg #[.int .i64 (plF x.im y.im.neg).n, .int .i64 (plF x.im y.im.neg).d]) ∧ WySt (w.heap.size + 1 + 1 + 1) (fl || plB x.im y.im.neg) w' ∧ W.grownBy w' (some (w.heap.size + 1 + 1 + 1))) := fun fl W h => rless_any _ fl _ _ W hx.2 hy.2 h
  have HV : Hid (wkV 8722 x y = if ((false || plB x.re y.re.neg) || plB x.im y.im.neg) then .tuple #[.agg #[.int .i64 x.re.n, .int .i64 x.re.d, .int .i64 x.im.n, .int .i64 x.im.d], .int .i64 5] else .tuple #[.agg #[.int .i64 (plF x.re y.re.neg).n, .int .i64 (plF x.re y.re.neg).d, .int .i64 (plF x.im y.im.neg).n, .int .i64 (plF x.im y.im.neg).d], .int .i64 0]) := by
    show wkV 8722 x y = _
    unfold wkV
    rw [show opP 8722 x y = bigOr (subB x y) (subN x y) from rfl, Bool.false_or]
    unfold bigOr
    rw [show subB x y = (plB x.re y.re.neg || plB x.im y.im.neg) from rfl]
    cases plB x.re y.re.neg || plB x.im y.im.neg <;> rfl
  generalize wkV 8722 x y = V at *
  generalize plF x.re y.re.neg = F1 at *
  generalize plF x.im y.im.neg = F2 at *
  generalize plB x.re y.re.neg = B1 at *
  generalize plB x.im y.im.neg = B2 at *
  have H := hidMk ((Wrk.new w x y).push #[.int .i64 x.re.n, .int .i64 x.re.d, .int .i64 x.im.n, .int .i64 x.im.d] 92)
  obtain ⟨X0, X1, X2, X3⟩ := four_cells H.out.hx
  obtain ⟨Y0, Y1, Y2, Y3⟩ := four_cells H.out.hy
  rw [show ((((w.alloc (.cells #[.int .i64 x.re.n, .int .i64 x.re.d, .int .i64 x.im.n, .int .i64 x.im.d] 92)).alloc (.cells #[.int .i64 y.re.n, .int .i64 y.re.d, .int .i64 y.im.n, .int .i64 y.im.d] 92)).alloc (.cells #[.int .i64 0, .int .i64 0, .int .i64 0, .int .i64 0] 92)).alloc (.cells #[.bool false] 205)).heap.size = w.heap.size + 1 + 1 + 1 + 1 by simp] at H
  clear hx hy
  go_enter Tryz.func63, Tryz.ntmps63
  go_wp2_with fail
  refine (C1.out _ _ H.out.hr).mono ?_
  rintro e w1 ⟨rfl, hr1, hg1⟩
  have H1 := hidMk ((H.out.grown hg1 hr1).push #[.int .i64 F1.n, .int .i64 F1.d] 90)
  clear H X0 X1 X2 X3 Y0 Y1 Y2 Y3 hr1 hg1
  obtain ⟨X0, X1, X2, X3⟩ := four_cells H1.out.hx
  obtain ⟨Y0, Y1, Y2, Y3⟩ := four_cells H1.out.hy
  go_wp2_with fail
  refine (C2.out _ _ H1.out.hr).mono ?_
  rintro e w2 ⟨rfl, hr2, hg2⟩
  have H2 := hidMk ((H1.out.grown hg2 hr2).push #[.int .i64 F2.n, .int .i64 F2.d] 90)
  clear H1 X0 X1 X2 X3 Y0 Y1 Y2 Y3 hr2 hg2 C1 C2
  obtain ⟨L0, L1, _, _⟩ := two_cells (H2.out.hex (w1.heap.size, #[.int .i64 F1.n, .int .i64 F1.d], 90) (by simp)).2
  obtain ⟨L2, L3, _, _⟩ := two_cells (H2.out.hex (w2.heap.size, #[.int .i64 F2.n, .int .i64 F2.d], 90) (by simp)).2
  have hzb := H2.out.hex (w.heap.size + 1 + 1 + 1 + 1, #[.int .i64 x.re.n, .int .i64 x.re.d, .int .i64 x.im.n, .int .i64 x.im.d], 92) (by simp)
  obtain ⟨u0, u1, u2, u3⟩ := four_cells hzb.2
  obtain ⟨g0, g1, g2, g3⟩ := four_frozen hzb.2
  have HZB := hidMk hzb
  clear hzb
  go_upto_region 24 with fail
  have H3 := hidMk (H2.out.set4 HZB.out.1 HZB.out.2 (.int .i64 F1.n) (.int .i64 F1.d) (.int .i64 F2.n) (.int .i64 F2.d))
  clear H2 HZB L0 L1 L2 L3 u0 u1 u2 u3 g0 g1 g2 g3
  generalize (((World.setCell _ _ _).setCell _ _).setCell _ _).setCell _ _ = W3 at *
  have H := H3
  clear H3
  generalize ((false || B1) || B2) = FL at *
  obtain ⟨r0, fr0⟩ := H.out.hr.cells
  obtain ⟨X0, X1, X2, X3⟩ := four_cells H.out.hx
  obtain ⟨z0, z1, z2, z3⟩ := four_cells H.out.hz
  obtain ⟨f0, f1, f2, f3⟩ := four_frozen H.out.hz
  obtain ⟨u0, u1, u2, u3⟩ := four_cells (H.out.hex (w.heap.size + 1 + 1 + 1 + 1, #[.int .i64 F1.n, .int .i64 F1.d, .int .i64 F2.n, .int .i64 F2.d], 92) (by simp)).2
  have hRR := H.out.hR
  cases FL with
  | true =>
    go_wp2_with fail
    refine bp_gen (fun W' => W'.heap[w.heap.size + 1 + 1]? = some (.cells #[.int .i64 x.re.n, .int .i64 x.re.d, .int .i64 x.im.n, .int .i64 x.im.d] 92 (0, 0)) ∧ Below w.heap.size w W') ⟨four_set H.out.hz _ _ _ _, below_four H.out.hb (by omega) _ _ _ _⟩ ?_
    rintro W ⟨hz, hb⟩
    obtain ⟨z0, z1, z2, z3⟩ := four_cells hz
    rw [HV.out]
    exact bodyPost_ret (v := .tuple #[.agg #[.int .i64 x.re.n, .int .i64 x.re.d, .int .i64 x.im.n, .int .i64 x.im.d], .int .i64 5]) (by simp [results, Tryz.results63, go_sem, z0, z1, z2, z3]) rfl ⟨rfl, hb⟩
  | false =>
    go_wp2_with fail
    refine bp_gen (fun W' => W'.heap[w.heap.size + 1 + 1]? = some (.cells #[.int .i64 F1.n, .int .i64 F1.d, .int .i64 F2.n, .int .i64 F2.d] 92 (0, 0)) ∧ Below w.heap.size w W') ⟨four_set H.out.hz _ _ _ _, below_four H.out.hb (by omega) _ _ _ _⟩ ?_
    rintro W ⟨hz, hb⟩
    obtain ⟨z0, z1, z2, z3⟩ := four_cells hz
    rw [HV.out]
    exact bodyPost_ret (v := .tuple #[.agg #[.int .i64 F1.n, .int .i64 F1.d, .int .i64 F2.n, .int .i64 F2.d], .int .i64 0]) (by simp [results, Tryz.results63, go_sem, z0, z1, z2, z3]) rfl ⟨rfl, hb⟩

set_option maxHeartbeats 4000000 in
set_option maxRecDepth 100000 in
theorem wk_times (x y : Num) (w : World) (hx : x.Ok) (hy : y.Ok) :
    Calls Tryz.prog 63 #[.int .i64 215, .agg #[.int .i64 x.re.n, .int .i64 x.re.d, .int .i64 x.im.n, .int .i64 x.im.d], .agg #[.int .i64 y.re.n, .int .i64 y.re.d, .int .i64 y.im.n, .int .i64 y.im.d]] w fun e w' => e = .returned (wkV 215 x y) ∧ Below w.heap.size w w' := by
  have C1 : Hid (∀ fl W, WySt (w.heap.size + 1 + 1 + 1) fl W → Calls Tryz.prog 92 #[.pointer (some ⟨w.heap.size + 1 + 1 + 1, 0, none⟩), .agg #[.int .i64 x.re.n, .int .i64 x.re.d, .int .i64 x.im.n, .int .i64 x.im.d], .agg #[.int .i64 y.re.n, .int .i64 y.re.d, .int .i64 y.im.n, .int .i64 y.im.d]] W fun e w' => e = .returned (.agg #[.int .i64 (mulN x y).re.n, .int .i64 (mulN x y).re.d, .int .i64 (mulN x y).im.n, .int .i64 (mulN x y).im.d]) ∧ WySt (w.heap.size + 1 + 1 + 1) (fl || mulB x y) w' ∧ W.grownBy w' (some (w.heap.size + 1 + 1 + 1))) := fun fl W h => rprod_any _ fl x y W hx hy h
  have HV : Hid (wkV 215 x y = if (false || mulB x y) then .tuple #[.agg #[.int .i64 x.re.n, .int .i64 x.re.d, .int .i64 x.im.n, .int .i64 x.im.d], .int .i64 5] else .tuple #[.agg #[.int .i64 (mulN x y).re.n, .int .i64 (mulN x y).re.d, .int .i64 (mulN x y).im.n, .int .i64 (mulN x y).im.d], .int .i64 0]) := by
    show wkV 215 x y = _
    unfold wkV
    rw [show opP 215 x y = bigOr (mulB x y) (mulN x y) from rfl, Bool.false_or]
    unfold bigOr
    cases mulB x y <;> rfl
  generalize wkV 215 x y = V at *
  generalize mulB x y = B1 at *
  generalize mulN x y = M at *
  have H := hidMk ((Wrk.new w x y).push #[.int .i64 x.re.n, .int .i64 x.re.d, .int .i64 x.im.n, .int .i64 x.im.d] 92)
  obtain ⟨X0, X1, X2, X3⟩ := four_cells H.out.hx
  obtain ⟨Y0, Y1, Y2, Y3⟩ := four_cells H.out.hy
  rw [show ((((w.alloc (.cells #[.int .i64 x.re.n, .int .i64 x.re.d, .int .i64 x.im.n, .int .i64 x.im.d] 92)).alloc (.cells #[.int .i64 y.re.n, .int .i64 y.re.d, .int .i64 y.im.n, .int .i64 y.im.d] 92)).alloc (.cells #[.int .i64 0, .int .i64 0, .int .i64 0, .int .i64 0] 92)).alloc (.cells #[.bool false] 205)).heap.size = w.heap.size + 1 + 1 + 1 + 1 by simp] at H
  clear hx hy
  have hzb := H.out.hex (w.heap.size + 1 + 1 + 1 + 1, #[.int .i64 x.re.n, .int .i64 x.re.d, .int .i64 x.im.n, .int .i64 x.im.d], 92) (by simp)
  go_enter Tryz.func63, Tryz.ntmps63
  go_wp2_with fail
  refine (C1.out _ _ H.out.hr).mono ?_
  rintro e w1 ⟨rfl, hr1, hg1⟩
  have H2 := hidMk (H.out.grown hg1 hr1)
  clear H X0 X1 X2 X3 Y0 Y1 Y2 Y3 hr1 hg1 C1 hzb
  have hzb := H2.out.hex (w.heap.size + 1 + 1 + 1 + 1, #[.int .i64 x.re.n, .int .i64 x.re.d, .int .i64 x.im.n, .int .i64 x.im.d], 92) (by simp)
  obtain ⟨u0, u1, u2, u3⟩ := four_cells hzb.2
  obtain ⟨g0, g1, g2, g3⟩ := four_frozen hzb.2
  have HZB := hidMk hzb
  clear hzb
  go_upto_region 24 with fail
  have H3 := hidMk (H2.out.set4 HZB.out.1 HZB.out.2 (.int .i64 M.re.n) (.int .i64 M.re.d) (.int .i64 M.im.n) (.int .i64 M.im.d))
  clear H2 HZB u0 u1 u2 u3 g0 g1 g2 g3
  generalize (((World.setCell _ _ _).setCell _ _).setCell _ _).setCell _ _ = W3 at *
  have H := H3
  clear H3
  generalize (false || B1) = FL at *
  obtain ⟨r0, fr0⟩ := H.out.hr.cells
  obtain ⟨X0, X1, X2, X3⟩ := four_cells H.out.hx
  obtain ⟨z0, z1, z2, z3⟩ := four_cells H.out.hz
  obtain ⟨f0, f1, f2, f3⟩ := four_frozen H.out.hz
  obtain ⟨u0, u1, u2, u3⟩ := four_cells (H.out.hex (w.heap.size + 1 + 1 + 1 + 1, #[.int .i64 M.re.n, .int .i64 M.re.d, .int .i64 M.im.n, .int .i64 M.im.d], 92) (by simp)).2
  have hRR := H.out.hR
  cases FL with
  | true =>
    go_wp2_with fail
    refine bp_gen (fun W' => W'.heap[w.heap.size + 1 + 1]? = some (.cells #[.int .i64 x.re.n, .int .i64 x.re.d, .int .i64 x.im.n, .int .i64 x.im.d] 92 (0, 0)) ∧ Below w.heap.size w W') ⟨four_set H.out.hz _ _ _ _, below_four H.out.hb (by omega) _ _ _ _⟩ ?_
    rintro W ⟨hz, hb⟩
    obtain ⟨z0, z1, z2, z3⟩ := four_cells hz
    rw [HV.out]
    exact bodyPost_ret (v := .tuple #[.agg #[.int .i64 x.re.n, .int .i64 x.re.d, .int .i64 x.im.n, .int .i64 x.im.d], .int .i64 5]) (by simp [results, Tryz.results63, go_sem, z0, z1, z2, z3]) rfl ⟨rfl, hb⟩
  | false =>
    go_wp2_with fail
    refine bp_gen (fun W' => W'.heap[w.heap.size + 1 + 1]? = some (.cells #[.int .i64 M.re.n, .int .i64 M.re.d, .int .i64 M.im.n, .int .i64 M.im.d] 92 (0, 0)) ∧ Below w.heap.size w W') ⟨four_set H.out.hz _ _ _ _, below_four H.out.hb (by omega) _ _ _ _⟩ ?_
    rintro W ⟨hz, hb⟩
    obtain ⟨z0, z1, z2, z3⟩ := four_cells hz
    rw [HV.out]
    exact bodyPost_ret (v := .tuple #[.agg #[.int .i64 M.re.n, .int .i64 M.re.d, .int .i64 M.im.n, .int .i64 M.im.d], .int .i64 0]) (by simp [results, Tryz.results63, go_sem, z0, z1, z2, z3]) rfl ⟨rfl, hb⟩

set_option maxHeartbeats 4000000 in
set_option maxRecDepth 100000 in
theorem wk_square (x y : Num) (w : World) (hx : x.Ok) (hy : y.Ok) :
    Calls Tryz.prog 63 #[.int .i64 178, .agg #[.int .i64 x.re.n, .int .i64 x.re.d, .int .i64 x.im.n, .int .i64 x.im.d], .agg #[.int .i64 y.re.n, .int .i64 y.re.d, .int .i64 y.im.n, .int .i64 y.im.d]] w fun e w' => e = .returned (wkV 178 x y) ∧ Below w.heap.size w w' := by
  have C1 : Hid (∀ fl W, WySt (w.heap.size + 1 + 1 + 1) fl W → Calls Tryz.prog 92 #[.pointer (some ⟨w.heap.size + 1 + 1 + 1, 0, none⟩), .agg #[.int .i64 x.re.n, .int .i64 x.re.d, .int .i64 x.im.n, .int .i64 x.im.d], .agg #[.int .i64 x.re.n, .int .i64 x.re.d, .int .i64 x.im.n, .int .i64 x.im.d]] W fun e w' => e = .returned (.agg #[.int .i64 (mulN x x).re.n, .int .i64 (mulN x x).re.d, .int .i64 (mulN x x).im.n, .int .i64 (mulN x x).im.d]) ∧ WySt (w.heap.size + 1 + 1 + 1) (fl || mulB x x) w' ∧ W.grownBy w' (some (w.heap.size + 1 + 1 + 1))) := fun fl W h => rprod_any _ fl x x W hx hx h
  have HV : Hid (wkV 178 x y = if (false || mulB x x) then .tuple #[.agg #[.int .i64 x.re.n, .int .i64 x.re.d, .int .i64 x.im.n, .int .i64 x.im.d], .int .i64 5] else .tuple #[.agg #[.int .i64 (mulN x x).re.n, .int .i64 (mulN x x).re.d, .int .i64 (mulN x x).im.n, .int .i64 (mulN x x).im.d], .int .i64 0]) := by
    show wkV 178 x y = _
    unfold wkV
    rw [show opP 178 x y = bigOr (mulB x x) (mulN x x) from rfl, Bool.false_or]
    unfold bigOr
    cases mulB x x <;> rfl
  generalize wkV 178 x y = V at *
  generalize mulB x x = B1 at *
  generalize mulN x x = M at *
  have H := hidMk ((Wrk.new w x y).push #[.int .i64 x.re.n, .int .i64 x.re.d, .int .i64 x.im.n, .int .i64 x.im.d] 92)
  obtain ⟨X0, X1, X2, X3⟩ := four_cells H.out.hx
  obtain ⟨Y0, Y1, Y2, Y3⟩ := four_cells H.out.hy
  rw [show ((((w.alloc (.cells #[.int .i64 x.re.n, .int .i64 x.re.d, .int .i64 x.im.n, .int .i64 x.im.d] 92)).alloc (.cells #[.int .i64 y.re.n, .int .i64 y.re.d, .int .i64 y.im.n, .int .i64 y.im.d] 92)).alloc (.cells #[.int .i64 0, .int .i64 0, .int .i64 0, .int .i64 0] 92)).alloc (.cells #[.bool false] 205)).heap.size = w.heap.size + 1 + 1 + 1 + 1 by simp] at H
  clear hx hy
  have hzb := H.out.hex (w.heap.size + 1 + 1 + 1 + 1, #[.int .i64 x.re.n, .int .i64 x.re.d, .int .i64 x.im.n, .int .i64 x.im.d], 92) (by simp)
  go_enter Tryz.func63, Tryz.ntmps63
  go_wp2_with fail
  refine (C1.out _ _ H.out.hr).mono ?_
  rintro e w1 ⟨rfl, hr1, hg1⟩
  have H2 := hidMk (H.out.grown hg1 hr1)
  clear H X0 X1 X2 X3 Y0 Y1 Y2 Y3 hr1 hg1 C1 hzb
  have hzb := H2.out.hex (w.heap.size + 1 + 1 + 1 + 1, #[.int .i64 x.re.n, .int .i64 x.re.d, .int .i64 x.im.n, .int .i64 x.im.d], 92) (by simp)
  obtain ⟨u0, u1, u2, u3⟩ := four_cells hzb.2
  obtain ⟨g0, g1, g2, g3⟩ := four_frozen hzb.2
  have HZB := hidMk hzb
  clear hzb
  go_upto_region 24 with fail
  have H3 := hidMk (H2.out.set4 HZB.out.1 HZB.out.2 (.int .i64 M.re.n) (.int .i64 M.re.d) (.int .i64 M.im.n) (.int .i64 M.im.d))
  clear H2 HZB u0 u1 u2 u3 g0 g1 g2 g3
  generalize (((World.setCell _ _ _).setCell _ _).setCell _ _).setCell _ _ = W3 at *
  have H := H3
  clear H3
  generalize (false || B1) = FL at *
  obtain ⟨r0, fr0⟩ := H.out.hr.cells
  obtain ⟨X0, X1, X2, X3⟩ := four_cells H.out.hx
  obtain ⟨z0, z1, z2, z3⟩ := four_cells H.out.hz
  obtain ⟨f0, f1, f2, f3⟩ := four_frozen H.out.hz
  obtain ⟨u0, u1, u2, u3⟩ := four_cells (H.out.hex (w.heap.size + 1 + 1 + 1 + 1, #[.int .i64 M.re.n, .int .i64 M.re.d, .int .i64 M.im.n, .int .i64 M.im.d], 92) (by simp)).2
  have hRR := H.out.hR
  cases FL with
  | true =>
    go_wp2_with fail
    refine bp_gen (fun W' => W'.heap[w.heap.size + 1 + 1]? = some (.cells #[.int .i64 x.re.n, .int .i64 x.re.d, .int .i64 x.im.n, .int .i64 x.im.d] 92 (0, 0)) ∧ Below w.heap.size w W') ⟨four_set H.out.hz _ _ _ _, below_four H.out.hb (by omega) _ _ _ _⟩ ?_
    rintro W ⟨hz, hb⟩
    obtain ⟨z0, z1, z2, z3⟩ := four_cells hz
    rw [HV.out]
    exact bodyPost_ret (v := .tuple #[.agg #[.int .i64 x.re.n, .int .i64 x.re.d, .int .i64 x.im.n, .int .i64 x.im.d], .int .i64 5]) (by simp [results, Tryz.results63, go_sem, z0, z1, z2, z3]) rfl ⟨rfl, hb⟩
  | false =>
    go_wp2_with fail
    refine bp_gen (fun W' => W'.heap[w.heap.size + 1 + 1]? = some (.cells #[.int .i64 M.re.n, .int .i64 M.re.d, .int .i64 M.im.n, .int .i64 M.im.d] 92 (0, 0)) ∧ Below w.heap.size w W') ⟨four_set H.out.hz _ _ _ _, below_four H.out.hb (by omega) _ _ _ _⟩ ?_
    rintro W ⟨hz, hb⟩
    obtain ⟨z0, z1, z2, z3⟩ := four_cells hz
    rw [HV.out]
    exact bodyPost_ret (v := .tuple #[.agg #[.int .i64 M.re.n, .int .i64 M.re.d, .int .i64 M.im.n, .int .i64 M.im.d], .int .i64 0]) (by simp [results, Tryz.results63, go_sem, z0, z1, z2, z3]) rfl ⟨rfl, hb⟩

set_option maxHeartbeats 4000000 in
set_option maxRecDepth 100000 in
theorem wk_neg (x y : Num) (w : World) (hx : x.Ok) (hy : y.Ok) :
    Calls Tryz.prog 63 #[.int .i64 110, .agg #[.int .i64 x.re.n, .int .i64 x.re.d, .int .i64 x.im.n, .int .i64 x.im.d], .agg #[.int .i64 y.re.n, .int .i64 y.re.d, .int .i64 y.im.n, .int .i64 y.im.d]] w fun e w' => e = .returned (wkV 110 x y) ∧ Below w.heap.size w w' := by
  have HV : Hid (wkV 110 x y = .tuple #[.agg #[.int .i64 (x.neg).re.n, .int .i64 (x.neg).re.d, .int .i64 (x.neg).im.n, .int .i64 (x.neg).im.d], .int .i64 0]) := rfl
  have q1 : wrap64 (-x.re.n) = -x.re.n := by unfold wrap64; have := hx.1.2.2; omega
  have q2 : wrap64 (-x.im.n) = -x.im.n := by unfold wrap64; have := hx.2.2.2; omega
  have HM : Hid ((.agg #[.int .i64 (x.neg).re.n, .int .i64 (x.neg).re.d, .int .i64 (x.neg).im.n, .int .i64 (x.neg).im.d] : Value) = .agg #[.int .i64 (-x.re.n), .int .i64 x.re.d, .int .i64 (-x.im.n), .int .i64 x.im.d]) := rfl
  rw [HM.out] at HV
  generalize wkV 110 x y = V at *
  have H := hidMk ((Wrk.new w x y).push #[.int .i64 x.re.n, .int .i64 x.re.d, .int .i64 x.im.n, .int .i64 x.im.d] 92)
  obtain ⟨X0, X1, X2, X3⟩ := four_cells H.out.hx
  obtain ⟨Y0, Y1, Y2, Y3⟩ := four_cells H.out.hy
  rw [show ((((w.alloc (.cells #[.int .i64 x.re.n, .int .i64 x.re.d, .int .i64 x.im.n, .int .i64 x.im.d] 92)).alloc (.cells #[.int .i64 y.re.n, .int .i64 y.re.d, .int .i64 y.im.n, .int .i64 y.im.d] 92)).alloc (.cells #[.int .i64 0, .int .i64 0, .int .i64 0, .int .i64 0] 92)).alloc (.cells #[.bool false] 205)).heap.size = w.heap.size + 1 + 1 + 1 + 1 by simp] at H
  clear hx hy HM
  have hzb := H.out.hex (w.heap.size + 1 + 1 + 1 + 1, #[.int .i64 x.re.n, .int .i64 x.re.d, .int .i64 x.im.n, .int .i64 x.im.d], 92) (by simp)
  obtain ⟨u0, u1, u2, u3⟩ := four_cells hzb.2
  obtain ⟨g0, g1, g2, g3⟩ := four_frozen hzb.2
  clear hzb H
  go_enter Tryz.func63, Tryz.ntmps63
  go_upto_region 24 with fail
  clear X0 X1 X2 X3 Y0 Y1 Y2 Y3 u0 u1 u2 u3 g0 g1 g2 g3
  have H := hidMk ((Wrk.new w x y).push #[.int .i64 (-x.re.n), .int .i64 x.re.d, .int .i64 (-x.im.n), .int .i64 x.im.d] 92)
  rw [show ((((w.alloc (.cells #[.int .i64 x.re.n, .int .i64 x.re.d, .int .i64 x.im.n, .int .i64 x.im.d] 92)).alloc (.cells #[.int .i64 y.re.n, .int .i64 y.re.d, .int .i64 y.im.n, .int .i64 y.im.d] 92)).alloc (.cells #[.int .i64 0, .int .i64 0, .int .i64 0, .int .i64 0] 92)).alloc (.cells #[.bool false] 205)).heap.size = w.heap.size + 1 + 1 + 1 + 1 by simp] at H
  generalize (((((World.alloc w _).alloc _).alloc _).alloc _).alloc _) = W3 at *
  obtain ⟨r0, fr0⟩ := H.out.hr.cells
  obtain ⟨z0, z1, z2, z3⟩ := four_cells H.out.hz
  obtain ⟨f0, f1, f2, f3⟩ := four_frozen H.out.hz
  obtain ⟨u0, u1, u2, u3⟩ := four_cells (H.out.hex (w.heap.size + 1 + 1 + 1 + 1, #[.int .i64 (-x.re.n), .int .i64 x.re.d, .int .i64 (-x.im.n), .int .i64 x.im.d], 92) (by simp)).2
  have hRR := H.out.hR
  go_wp2_with fail
  refine bp_gen (fun W' => W'.heap[w.heap.size + 1 + 1]? = some (.cells #[.int .i64 (-x.re.n), .int .i64 x.re.d, .int .i64 (-x.im.n), .int .i64 x.im.d] 92 (0, 0)) ∧ Below w.heap.size w W') ⟨four_set H.out.hz _ _ _ _, below_four H.out.hb (by omega) _ _ _ _⟩ ?_
  rintro W ⟨hz, hb⟩
  obtain ⟨z0, z1, z2, z3⟩ := four_cells hz
  rw [HV.out]
  exact bodyPost_ret (v := .tuple #[.agg #[.int .i64 (-x.re.n), .int .i64 x.re.d, .int .i64 (-x.im.n), .int .i64 x.im.d], .int .i64 0]) (by simp [results, Tryz.results63, go_sem, z0, z1, z2, z3]) rfl ⟨rfl, hb⟩

set_option maxHeartbeats 4000000 in
set_option maxRecDepth 100000 in
theorem wk_prime (x y : Num) (w : World) (hx : x.Ok) (hy : y.Ok) :
    Calls Tryz.prog 63 #[.int .i64 8242, .agg #[.int .i64 x.re.n, .int .i64 x.re.d, .int .i64 x.im.n, .int .i64 x.im.d], .agg #[.int .i64 y.re.n, .int .i64 y.re.d, .int .i64 y.im.n, .int .i64 y.im.d]] w fun e w' => e = .returned (wkV 8242 x y) ∧ Below w.heap.size w w' := by
  have HV : Hid (wkV 8242 x y = .tuple #[.agg #[.int .i64 (x.conj).re.n, .int .i64 (x.conj).re.d, .int .i64 (x.conj).im.n, .int .i64 (x.conj).im.d], .int .i64 0]) := rfl
  have q1 : wrap64 (-x.re.n) = -x.re.n := by unfold wrap64; have := hx.1.2.2; omega
  have q2 : wrap64 (-x.im.n) = -x.im.n := by unfold wrap64; have := hx.2.2.2; omega
  have HM : Hid ((.agg #[.int .i64 (x.conj).re.n, .int .i64 (x.conj).re.d, .int .i64 (x.conj).im.n, .int .i64 (x.conj).im.d] : Value) = .agg #[.int .i64 (x.re.n), .int .i64 x.re.d, .int .i64 (-x.im.n), .int .i64 x.im.d]) := rfl
  rw [HM.out] at HV
  generalize wkV 8242 x y = V at *
  have H := hidMk ((Wrk.new w x y).push #[.int .i64 x.re.n, .int .i64 x.re.d, .int .i64 x.im.n, .int .i64 x.im.d] 92)
  obtain ⟨X0, X1, X2, X3⟩ := four_cells H.out.hx
  obtain ⟨Y0, Y1, Y2, Y3⟩ := four_cells H.out.hy
  rw [show ((((w.alloc (.cells #[.int .i64 x.re.n, .int .i64 x.re.d, .int .i64 x.im.n, .int .i64 x.im.d] 92)).alloc (.cells #[.int .i64 y.re.n, .int .i64 y.re.d, .int .i64 y.im.n, .int .i64 y.im.d] 92)).alloc (.cells #[.int .i64 0, .int .i64 0, .int .i64 0, .int .i64 0] 92)).alloc (.cells #[.bool false] 205)).heap.size = w.heap.size + 1 + 1 + 1 + 1 by simp] at H
  clear hx hy HM
  have hzb := H.out.hex (w.heap.size + 1 + 1 + 1 + 1, #[.int .i64 x.re.n, .int .i64 x.re.d, .int .i64 x.im.n, .int .i64 x.im.d], 92) (by simp)
  obtain ⟨u0, u1, u2, u3⟩ := four_cells hzb.2
  obtain ⟨g0, g1, g2, g3⟩ := four_frozen hzb.2
  clear hzb H
  go_enter Tryz.func63, Tryz.ntmps63
  go_upto_region 24 with fail
  clear X0 X1 X2 X3 Y0 Y1 Y2 Y3 u0 u1 u2 u3 g0 g1 g2 g3
  have H := hidMk ((Wrk.new w x y).push #[.int .i64 (x.re.n), .int .i64 x.re.d, .int .i64 (-x.im.n), .int .i64 x.im.d] 92)
  rw [show ((((w.alloc (.cells #[.int .i64 x.re.n, .int .i64 x.re.d, .int .i64 x.im.n, .int .i64 x.im.d] 92)).alloc (.cells #[.int .i64 y.re.n, .int .i64 y.re.d, .int .i64 y.im.n, .int .i64 y.im.d] 92)).alloc (.cells #[.int .i64 0, .int .i64 0, .int .i64 0, .int .i64 0] 92)).alloc (.cells #[.bool false] 205)).heap.size = w.heap.size + 1 + 1 + 1 + 1 by simp] at H
  generalize (((((World.alloc w _).alloc _).alloc _).alloc _).alloc _) = W3 at *
  obtain ⟨r0, fr0⟩ := H.out.hr.cells
  obtain ⟨z0, z1, z2, z3⟩ := four_cells H.out.hz
  obtain ⟨f0, f1, f2, f3⟩ := four_frozen H.out.hz
  obtain ⟨u0, u1, u2, u3⟩ := four_cells (H.out.hex (w.heap.size + 1 + 1 + 1 + 1, #[.int .i64 (x.re.n), .int .i64 x.re.d, .int .i64 (-x.im.n), .int .i64 x.im.d], 92) (by simp)).2
  have hRR := H.out.hR
  go_wp2_with fail
  refine bp_gen (fun W' => W'.heap[w.heap.size + 1 + 1]? = some (.cells #[.int .i64 (x.re.n), .int .i64 x.re.d, .int .i64 (-x.im.n), .int .i64 x.im.d] 92 (0, 0)) ∧ Below w.heap.size w W') ⟨four_set H.out.hz _ _ _ _, below_four H.out.hb (by omega) _ _ _ _⟩ ?_
  rintro W ⟨hz, hb⟩
  obtain ⟨z0, z1, z2, z3⟩ := four_cells hz
  rw [HV.out]
  exact bodyPost_ret (v := .tuple #[.agg #[.int .i64 (x.re.n), .int .i64 x.re.d, .int .i64 (-x.im.n), .int .i64 x.im.d], .int .i64 0]) (by simp [results, Tryz.results63, go_sem, z0, z1, z2, z3]) rfl ⟨rfl, hb⟩
end Go.Proofs.YtodabmkcihafhaaGreatDoor

/- The document's operations: divided. -/
namespace Go.Proofs.YtodabmkcihafhaaGreatDoor
open Go.RowKit
set_option linter.unusedVariables false

set_option maxHeartbeats 4000000 in
set_option maxRecDepth 100000 in
theorem wk_div (x y : Num) (w : World) (hx : x.Ok) (hy : y.Ok) :
    Calls Tryz.prog 63 #[.int .i64 247, .agg #[.int .i64 x.re.n, .int .i64 x.re.d, .int .i64 x.im.n, .int .i64 x.im.d], .agg #[.int .i64 y.re.n, .int .i64 y.re.d, .int .i64 y.im.n, .int .i64 y.im.d]] w fun e w' => e = .returned (wkV 247 x y) ∧ Below w.heap.size w w' := by
  have C0 := hidMk (fun W => rzero_any y W)
  have C1 : Hid (y.zero = false → ∀ R W, WySt R false W → Calls Tryz.prog 93 #[.pointer (some ⟨R, 0, none⟩), .agg #[.int .i64 x.re.n, .int .i64 x.re.d, .int .i64 x.im.n, .int .i64 x.im.d], .agg #[.int .i64 y.re.n, .int .i64 y.re.d, .int .i64 y.im.n, .int .i64 y.im.d]] W fun e w' => e = .returned (if sqB y then nV x else nV (divN x y)) ∧ WySt R (sqB y || divB x y) w' ∧ W.grownBy w' (some R)) := fun hz R W h => rquot_any R x y W hx hy hz h
  obtain ⟨p, q, r, s, hQ⟩ : ∃ p q r s : Int, (if sqB y then nV x else nV (divN x y)) = .agg #[.int .i64 p, .int .i64 q, .int .i64 r, .int .i64 s] := by
    cases sqB y
    · exact ⟨_, _, _, _, rfl⟩
    · exact ⟨_, _, _, _, rfl⟩
  have HV0 : Hid (y.zero = true → wkV 247 x y = .tuple #[.agg #[.int .i64 x.re.n, .int .i64 x.re.d, .int .i64 x.im.n, .int .i64 x.im.d], .int .i64 4]) := by
    intro h
    unfold wkV
    rw [show opP 247 x y = if y.zero then .err 4 else bigOr (sqB y || divB x y) (divN x y) from rfl, h]
    rfl
  have HV1 : Hid (y.zero = false → wkV 247 x y = if (sqB y || divB x y) then .tuple #[.agg #[.int .i64 x.re.n, .int .i64 x.re.d, .int .i64 x.im.n, .int .i64 x.im.d], .int .i64 5] else .tuple #[.agg #[.int .i64 p, .int .i64 q, .int .i64 r, .int .i64 s], .int .i64 0]) := by
    intro h
    unfold wkV
    rw [show opP 247 x y = if y.zero then .err 4 else bigOr (sqB y || divB x y) (divN x y) from rfl, h]
    unfold bigOr
    cases hs : sqB y
    · rw [hs] at hQ
      rw [← hQ]
      cases divB x y <;> rfl
    · rfl
  rw [hQ] at C1
  generalize wkV 247 x y = V at *
  clear hQ
  generalize (sqB y || divB x y) = FL at *
  have H := hidMk (Wrk.new w x y)
  obtain ⟨X0, X1, X2, X3⟩ := four_cells H.out.hx
  obtain ⟨Y0, Y1, Y2, Y3⟩ := four_cells H.out.hy
  clear hx hy
  go_enter Tryz.func63, Tryz.ntmps63
  go_wp2_with fail
  refine (C0.out _).mono ?_
  rintro e w1 ⟨rfl, hb1⟩
  have H1 := hidMk (H.out.below hb1)
  clear H X0 X1 X2 X3 Y0 Y1 Y2 Y3 hb1 C0
  obtain ⟨X0, X1, X2, X3⟩ := four_cells H1.out.hx
  by_cases hz : y.zero = true
  · have HVV := hidMk (HV0.out hz)
    rw [hz]
    obtain ⟨z0, z1, z2, z3⟩ := four_cells H1.out.hz
    obtain ⟨f0, f1, f2, f3⟩ := four_frozen H1.out.hz
    have hRR := H1.out.hR
    clear hz C1 HV0 HV1
    go_wp2_with fail
    refine bp_gen (fun W' => W'.heap[w.heap.size + 1 + 1]? = some (.cells #[.int .i64 x.re.n, .int .i64 x.re.d, .int .i64 x.im.n, .int .i64 x.im.d] 92 (0, 0)) ∧ Below w.heap.size w W') ⟨four_set H1.out.hz _ _ _ _, below_four H1.out.hb (by omega) _ _ _ _⟩ ?_
    rintro W ⟨hz, hb⟩
    obtain ⟨z0, z1, z2, z3⟩ := four_cells hz
    rw [HVV.out]
    exact bodyPost_ret (v := .tuple #[.agg #[.int .i64 x.re.n, .int .i64 x.re.d, .int .i64 x.im.n, .int .i64 x.im.d], .int .i64 4]) (by simp [results, Tryz.results63, go_sem, z0, z1, z2, z3]) rfl ⟨rfl, hb⟩
  · have hz' : y.zero = false := by simpa using hz
    rw [hz']
    have C1' := hidMk (C1.out hz')
    have HV := hidMk (HV1.out hz')
    have H := hidMk (H1.out.push #[.int .i64 x.re.n, .int .i64 x.re.d, .int .i64 x.im.n, .int .i64 x.im.d] 92)
    clear hz hz' C1 HV0 HV1 H1
    obtain ⟨XA0, XA1, XA2, XA3⟩ := four_cells H.out.hx
    obtain ⟨Y0, Y1, Y2, Y3⟩ := four_cells H.out.hy
    go_wp2_with fail
    refine (C1'.out _ _ H.out.hr).mono ?_
    rintro e w2 ⟨rfl, hr2, hg2⟩
    have H2 := hidMk (H.out.grown hg2 hr2)
    clear H X0 X1 X2 X3 XA0 XA1 XA2 XA3 Y0 Y1 Y2 Y3 hr2 hg2 C1'
    have hzb := H2.out.hex (w1.heap.size, #[.int .i64 x.re.n, .int .i64 x.re.d, .int .i64 x.im.n, .int .i64 x.im.d], 92) (by simp)
    obtain ⟨u0, u1, u2, u3⟩ := four_cells hzb.2
    obtain ⟨g0, g1, g2, g3⟩ := four_frozen hzb.2
    have HZB := hidMk hzb
    clear hzb
    go_upto_region 24 with fail
    have H3 := hidMk (H2.out.set4 HZB.out.1 HZB.out.2 (.int .i64 p) (.int .i64 q) (.int .i64 r) (.int .i64 s))
    clear H2 HZB u0 u1 u2 u3 g0 g1 g2 g3
    generalize (((World.setCell _ _ _).setCell _ _).setCell _ _).setCell _ _ = W3 at *
    have H := H3
    clear H3
    obtain ⟨r0, fr0⟩ := H.out.hr.cells
    obtain ⟨X0, X1, X2, X3⟩ := four_cells H.out.hx
    obtain ⟨z0, z1, z2, z3⟩ := four_cells H.out.hz
    obtain ⟨f0, f1, f2, f3⟩ := four_frozen H.out.hz
    obtain ⟨u0, u1, u2, u3⟩ := four_cells (H.out.hex (w1.heap.size, #[.int .i64 p, .int .i64 q, .int .i64 r, .int .i64 s], 92) (by simp)).2
    have hRR := H.out.hR
    cases FL with
    | true =>
      go_wp2_with fail
      refine bp_gen (fun W' => W'.heap[w.heap.size + 1 + 1]? = some (.cells #[.int .i64 x.re.n, .int .i64 x.re.d, .int .i64 x.im.n, .int .i64 x.im.d] 92 (0, 0)) ∧ Below w.heap.size w W') ⟨four_set H.out.hz _ _ _ _, below_four H.out.hb (by omega) _ _ _ _⟩ ?_
      rintro W ⟨hz, hb⟩
      obtain ⟨z0, z1, z2, z3⟩ := four_cells hz
      rw [HV.out]
      exact bodyPost_ret (v := .tuple #[.agg #[.int .i64 x.re.n, .int .i64 x.re.d, .int .i64 x.im.n, .int .i64 x.im.d], .int .i64 5]) (by simp [results, Tryz.results63, go_sem, z0, z1, z2, z3]) rfl ⟨rfl, hb⟩
    | false =>
      go_wp2_with fail
      refine bp_gen (fun W' => W'.heap[w.heap.size + 1 + 1]? = some (.cells #[.int .i64 p, .int .i64 q, .int .i64 r, .int .i64 s] 92 (0, 0)) ∧ Below w.heap.size w W') ⟨four_set H.out.hz _ _ _ _, below_four H.out.hb (by omega) _ _ _ _⟩ ?_
      rintro W ⟨hz, hb⟩
      obtain ⟨z0, z1, z2, z3⟩ := four_cells hz
      rw [HV.out]
      exact bodyPost_ret (v := .tuple #[.agg #[.int .i64 p, .int .i64 q, .int .i64 r, .int .i64 s], .int .i64 0]) (by simp [results, Tryz.results63, go_sem, z0, z1, z2, z3]) rfl ⟨rfl, hb⟩
end Go.Proofs.YtodabmkcihafhaaGreatDoor

/- The document's book: find, missing. -/
namespace Go.Proofs.YtodabmkcihafhaaGreatDoor
open Go.RowKit
set_option linter.unusedVariables false

/-- The names of a book in memory: block B holds their row. -/
def NmRow (B : Nat) (names : List (Int × Num)) (w : World) : Prop :=
  ∃ v, w.cell? ⟨B, 0, none⟩ = some v ∧ ((names = [] ∧ v = .slice none 0 0) ∨
    ∃ g cap, v = .slice (some ⟨g, 0, none⟩) names.length cap ∧ names.length ≤ cap ∧ cap ≤ maxLen ∧
      ∀ k c x, names[k]? = some (c, x) → w.cell? ⟨g, k * 5, none⟩ = some (.int .i64 c) ∧ w.cell? ⟨g, k * 5 + 1, none⟩ = some (.int .i64 x.re.n) ∧ w.cell? ⟨g, k * 5 + 2, none⟩ = some (.int .i64 x.re.d) ∧ w.cell? ⟨g, k * 5 + 3, none⟩ = some (.int .i64 x.im.n) ∧ w.cell? ⟨g, k * 5 + 4, none⟩ = some (.int .i64 x.im.d))
theorem NmRow.below {B : Nat} {names : List (Int × Num)} {w w' : World} (h : NmRow B names w) (g : Below w.heap.size w w') : NmRow B names w' := by
  have k : ∀ a v, w.cell? a = some v → w'.cell? a = some v := fun a v hc => by
    rw [g.cell (World.block_lt_of_cell? _ _ hc)]; exact hc
  obtain ⟨v, hv, hc⟩ := h
  refine ⟨v, k _ _ hv, ?_⟩
  rcases hc with hc | ⟨gg, cap, e, l1, l2, hc⟩
  · exact Or.inl hc
  · refine Or.inr ⟨gg, cap, e, l1, l2, fun i c x hi => ?_⟩
    obtain ⟨a0, a1, a2, a3, a4⟩ := hc i c x hi
    exact ⟨k _ _ a0, k _ _ a1, k _ _ a2, k _ _ a3, k _ _ a4⟩
def findF : List (Int × Num) → Int → Nat → Int
  | [], _, _ => -1
  | p :: r, c, i => if p.1 = c then i else findF r c (i + 1)
theorem findF_cons (p : Int × Num) (r : List (Int × Num)) (c : Int) (i : Nat) : findF (p :: r) c i = if p.1 = c then (i : Int) else findF r c (i + 1) := rfl
def envOf (names : List (Int × Num)) : Env := fun c => (names.find? (fun p => p.1 == c)).map (·.2)
theorem findF_neg : ∀ (names : List (Int × Num)) (c : Int) (i : Nat), (findF names c i < 0) ↔ (envOf names c).isNone = true := by
  intro names
  induction names with
  | nil => intro c i; simp [findF, envOf]
  | cons p r ih =>
    intro c i
    unfold findF envOf
    by_cases h : p.1 = c
    · rw [if_pos h]
      simp [h]
    · rw [if_neg h]
      have := ih c (i + 1)
      unfold envOf at this
      rw [this]
      simp [h]
theorem findF_some : ∀ (names : List (Int × Num)) (c : Int) (i : Nat) (x : Num), envOf names c = some x → ∃ k, findF names c i = ((i + k : Nat) : Int) ∧ names[k]? = some (c, x) := by
  intro names
  induction names with
  | nil => intro c i x h; simp [envOf] at h
  | cons p r ih =>
    intro c i x h
    by_cases hp : p.1 = c
    · refine ⟨0, by simp [findF, hp], ?_⟩
      unfold envOf at h
      simp [hp] at h
      obtain ⟨a, b⟩ := p
      simp at h hp ⊢
      exact ⟨hp, h⟩
    · have h' : envOf r c = some x := by
        unfold envOf at h ⊢
        simpa [List.find?_cons, hp] using h
      obtain ⟨k, h1, h2⟩ := ih c (i + 1) x h'
      refine ⟨k + 1, ?_, by simpa using h2⟩
      unfold findF
      rw [if_neg hp, h1]
      congr 1
      omega

set_option maxHeartbeats 1000000 in
theorem find_any (B : Nat) (names : List (Int × Num)) (c : Int) (w : World) (hl : names.length ≤ 1000) (h : NmRow B names w) :
    Calls Tryz.prog 62 #[.pointer (some ⟨B, 0, none⟩), .int .i64 c] w fun e w' => e = .returned (.int .i64 (findF names c 0)) ∧ w' = w := by
  obtain ⟨v, hv, hc⟩ := h
  rcases hc with ⟨rfl, rfl⟩ | ⟨g, cap, rfl, l1, l2, hc⟩
  · have HF : Hid (findF [] c 0 = -1) := rfl
    go_enter Tryz.func62, Tryz.ntmps62
    go_wp2_with fail
    go_loopg [5] 0 (fun g s5 wr => s5 = .int .i64 0 ∧ wr = w)
    case atStart => exact ⟨rfl, rfl⟩
    case round =>
      obtain ⟨rfl, rfl⟩ := hrel
      go_wp2_with fail
      go_ret
      exact ⟨rfl, rfl⟩
  · have HC := hidMk hc
    clear hc
    go_enter Tryz.func62, Tryz.ntmps62
    go_wp2_with fail
    go_loopg [5] names.length (fun g s5 wr => ∃ k : Nat, s5 = .int .i64 k ∧ k ≤ names.length ∧ Hid (findF (names.drop k) c k = findF names c 0) ∧ Hid (names.length - k = g) ∧ wr = w)
    case atStart => exact ⟨0, rfl, Nat.zero_le _, rfl, rfl, rfl⟩
    case round =>
      obtain ⟨k, rfl, hk, HI, hg, rfl⟩ := hrel
      by_cases hkn : k < names.length
      · obtain ⟨p, hp⟩ : ∃ p, names[k]? = some p := ⟨names[k], List.getElem?_eq_getElem hkn⟩
        obtain ⟨a, x⟩ := p
        obtain ⟨a0, a1, a2, a3, a4⟩ := HC.out k a x hp
        have hd : names.drop k = (a, x) :: names.drop (k + 1) := by
          rw [List.drop_eq_getElem_cons hkn]
          congr 1
          have := List.getElem?_eq_getElem hkn
          rw [hp] at this
          exact (Option.some.inj this).symm
        have q1 : (k : Int) < (names.length : Int) := by omega
        have hi := HI.out
        rw [hd, findF_cons] at hi
        by_cases hac : a = c
        · have q2 : (a == c) = true := by simpa using hac
          have HR : Hid (findF names c 0 = (k : Int)) := by
            show _ = _
            rw [← hi]
            simp [hac]
          clear hi hac hd
          go_wp2_with fail
          go_ret
          rw [HR.out]
          exact ⟨rfl, rfl⟩
        · have q2 : (a == c) = false := by simpa using hac
          have HR : Hid (findF (names.drop (k + 1)) c (k + 1) = findF names c 0) := by
            show _ = _
            rw [← hi]
            simp [hac]
          clear hi hac hd
          go_wp2_with fail
          go_roundg (names.length - (k + 1))
          case measure => have := hg.out; omega
          case rel => exact ⟨k + 1, rfl, by omega, HR.out, rfl, rfl⟩
      · have q1 : ¬ (k : Int) < (names.length : Int) := by omega
        have q2 : decide ((k : Int) < (names.length : Int)) = false := by simpa using q1
        have HR : Hid (findF names c 0 = -1) := by
          show _ = _
          rw [← HI.out, List.drop_eq_nil_of_le (by omega)]
          rfl
        go_wp2_with fail
        go_ret
        rw [HR.out]
        exact ⟨rfl, rfl⟩

/-! ### The first name that is missing -/
theorem missN_iff (names : List (Int × Num)) (n : Nd) : missN (envOf names) n = (decide (945 ≤ n.op) && decide (n.op ≤ 969) && decide (findF names n.op 0 < 0)) := by
  unfold missN isNm
  congr 1
  have := findF_neg names n.op 0
  by_cases h : findF names n.op 0 < 0
  · rw [this.1 h]; simp [h]
  · have h2 : ¬ (envOf names n.op).isNone = true := fun e => h (this.2 e)
    have h3 : (envOf names n.op).isNone = false := Bool.eq_false_iff.2 h2
    rw [h3]
    simp [h]
set_option maxHeartbeats 4000000 in
set_option maxRecDepth 100000 in
theorem missing_any (B : Nat) (names : List (Int × Num)) (L : List Nd) (g cap : Nat) (w : World) (hl : names.length ≤ 1000) (hL : L.length ≤ 1000) (h : NmRow B names w) (hN : NRow w g cap L) :
    Calls Tryz.prog 60 #[.pointer (some ⟨B, 0, none⟩), .slice (some ⟨g, 0, none⟩) L.length cap] w fun e w' => e = .returned (.int .i64 (missL (envOf names) L (-1))) ∧ w' = w := by
  obtain ⟨le1, le2⟩ := hN.le
  have HN := hidMk hN
  have CF := hidMk (fun c => find_any B names c w hl h)
  clear hN h
  go_enter Tryz.func60, Tryz.ntmps60
  go_wp2_with fail
  go_loopg [5, 6] L.length (fun gm s5 s6 wr => ∃ (k : Nat) (acc : Int), s5 = .int .i64 acc ∧ s6 = .int .i64 k ∧ k ≤ L.length ∧ Hid (missL (envOf names) (L.drop k) acc = missL (envOf names) L (-1)) ∧ Hid (L.length - k = gm) ∧ wr = w)
  case atStart => exact ⟨0, -1, rfl, rfl, Nat.zero_le _, rfl, rfl, rfl⟩
  case round =>
    obtain ⟨k, acc, rfl, rfl, hk, HI, hg, rfl⟩ := hrel
    by_cases hkn : k < L.length
    · obtain ⟨n, hn⟩ : ∃ n, L[k]? = some n := ⟨L[k], List.getElem?_eq_getElem hkn⟩
      have hd : L.drop k = n :: L.drop (k + 1) := by
        rw [List.drop_eq_getElem_cons hkn]
        congr 1
        have := List.getElem?_eq_getElem hkn
        rw [hn] at this
        exact (Option.some.inj this).symm
      have q1 : (k : Int) < (L.length : Int) := by omega
      obtain ⟨a0, a1, a2, a3, a4, a5, a6⟩ := HN.out.cells7 hn
      have HS : Hid (missL (envOf names) (L.drop (k + 1)) (missStep (envOf names) acc n) = missL (envOf names) L (-1)) := by
        have := HI.out
        rw [hd] at this
        exact this
      have HM : Hid (missStep (envOf names) acc n = if (decide (945 ≤ n.op) && decide (n.op ≤ 969) && decide (findF names n.op 0 < 0)) && (decide (acc < 0) || decide ((n.pl : Int) < acc)) then (n.pl : Int) else acc) := by
        show _ = _
        unfold missStep
        rw [missN_iff]
      clear hd a1 a2 a3 a4 a5 hn HI
      have stay : Hid (missStep (envOf names) acc n = acc → missL (envOf names) (L.drop (k + 1)) acc = missL (envOf names) L (-1)) := by
        intro e
        have := HS.out
        rw [e] at this
        exact this
      by_cases c1 : 945 ≤ n.op
      · have d1 : decide (945 ≤ n.op) = true := by simpa using c1
        by_cases c2 : n.op ≤ 969
        · have d2 : decide (n.op ≤ 969) = true := by simpa using c2
          go_wp2_with fail
          refine (CF.out n.op).mono ?_
          rintro e w' ⟨rfl, hw'⟩
          have hw' := hw'.symm
          subst hw'
          by_cases c3 : findF names n.op 0 < 0
          · have d3 : decide (findF names n.op 0 < 0) = true := by simpa using c3
            by_cases c4 : acc < 0
            · have d4 : decide (acc < 0) = true := by simpa using c4
              have e1 : Hid (missStep (envOf names) acc n = n.pl) := by show _ = _; rw [HM.out, d1, d2, d3, d4]; rfl
              clear HM stay
              go_wp2_with fail
              go_roundg (L.length - (k + 1))
              case measure => have := hg.out; omega
              case rel => exact ⟨k + 1, n.pl, rfl, rfl, by omega, e1.out ▸ HS.out, rfl, rfl⟩
            · have d4 : decide (acc < 0) = false := by simpa using c4
              by_cases c5 : (n.pl : Int) < acc
              · have d5 : decide ((n.pl : Int) < acc) = true := by simpa using c5
                have e1 : Hid (missStep (envOf names) acc n = n.pl) := by show _ = _; rw [HM.out, d1, d2, d3, d4, d5]; rfl
                clear HM stay
                go_wp2_with fail
                go_roundg (L.length - (k + 1))
                case measure => have := hg.out; omega
                case rel => exact ⟨k + 1, n.pl, rfl, rfl, by omega, e1.out ▸ HS.out, rfl, rfl⟩
              · have d5 : decide ((n.pl : Int) < acc) = false := by simpa using c5
                have e1 := hidMk (stay.out (by rw [HM.out, d1, d2, d3, d4, d5]; rfl))
                clear HM stay HS
                go_wp2_with fail
                go_roundg (L.length - (k + 1))
                case measure => have := hg.out; omega
                case rel => exact ⟨k + 1, acc, rfl, rfl, by omega, e1.out, rfl, rfl⟩
          · have d3 : decide (findF names n.op 0 < 0) = false := by simpa using c3
            have e1 := hidMk (stay.out (by rw [HM.out, d1, d2, d3]; rfl))
            clear HM stay HS
            go_wp2_with fail
            go_roundg (L.length - (k + 1))
            case measure => have := hg.out; omega
            case rel => exact ⟨k + 1, acc, rfl, rfl, by omega, e1.out, rfl, rfl⟩
        · have d2 : decide (n.op ≤ 969) = false := by simpa using c2
          have e1 := hidMk (stay.out (by rw [HM.out, d1, d2]; rfl))
          clear HM stay HS
          go_wp2_with fail
          go_roundg (L.length - (k + 1))
          case measure => have := hg.out; omega
          case rel => exact ⟨k + 1, acc, rfl, rfl, by omega, e1.out, rfl, rfl⟩
      · have d1 : decide (945 ≤ n.op) = false := by simpa using c1
        have e1 := hidMk (stay.out (by rw [HM.out, d1]; rfl))
        clear HM stay HS
        go_wp2_with fail
        go_roundg (L.length - (k + 1))
        case measure => have := hg.out; omega
        case rel => exact ⟨k + 1, acc, rfl, rfl, by omega, e1.out, rfl, rfl⟩
    · have q2 : decide ((k : Int) < (L.length : Int)) = false := by simp; omega
      have q1 : ¬ (k : Int) < (L.length : Int) := by omega
      have HR : Hid (missL (envOf names) L (-1) = acc) := by
        show _ = _
        rw [← HI.out, List.drop_eq_nil_of_le (by omega)]
        rfl
      clear HI
      go_wp2_with fail
      go_ret
      rw [HR.out]
      exact ⟨rfl, rfl⟩
end Go.Proofs.YtodabmkcihafhaaGreatDoor

/- The document's Number: P5. -/
namespace Go.Proofs.YtodabmkcihafhaaGreatDoor
open Go.RowKit
set_option linter.unusedVariables false

/-- The row of numbers, in block gv: those of the nodes so far. -/
def VRow (gv n : Nat) (vs : List Num) (w : World) : Prop :=
  ∃ cs, w.heap[gv]? = some (.cells cs 92 (0, 0)) ∧ cs.size = n * 4 ∧
    ∀ k x, vs[k]? = some x → cs[k * 4]? = some (.int .i64 x.re.n) ∧ cs[k * 4 + 1]? = some (.int .i64 x.re.d) ∧ cs[k * 4 + 2]? = some (.int .i64 x.im.n) ∧ cs[k * 4 + 3]? = some (.int .i64 x.im.d)
theorem VRow.cells {gv n : Nat} {vs : List Num} {w : World} (h : VRow gv n vs w) {k : Nat} {x : Num} (hk : vs[k]? = some x) : w.cell? ⟨gv, k * 4, none⟩ = some (.int .i64 x.re.n) ∧ w.cell? ⟨gv, k * 4 + 1, none⟩ = some (.int .i64 x.re.d) ∧ w.cell? ⟨gv, k * 4 + 2, none⟩ = some (.int .i64 x.im.n) ∧ w.cell? ⟨gv, k * 4 + 3, none⟩ = some (.int .i64 x.im.d) := by
  obtain ⟨cs, h1, h2, h3⟩ := h
  obtain ⟨a, b, c, d⟩ := h3 k x hk
  simp [World.cell?, h1, a, b, c, d]
theorem VRow.room {gv n : Nat} {vs : List Num} {w : World} (h : VRow gv n vs w) {k : Nat} (hk : k < n) : ∃ a b c d, w.cell? ⟨gv, k * 4, none⟩ = some a ∧ w.cell? ⟨gv, k * 4 + 1, none⟩ = some b ∧ w.cell? ⟨gv, k * 4 + 2, none⟩ = some c ∧ w.cell? ⟨gv, k * 4 + 3, none⟩ = some d ∧
    w.frozen? ⟨gv, k * 4, none⟩ = false ∧ w.frozen? ⟨gv, k * 4 + 1, none⟩ = false ∧ w.frozen? ⟨gv, k * 4 + 2, none⟩ = false ∧ w.frozen? ⟨gv, k * 4 + 3, none⟩ = false := by
  obtain ⟨cs, h1, h2, h3⟩ := h
  have l : ∀ j, j < 4 → k * 4 + j < cs.size := fun j hj => by omega
  refine ⟨cs[k * 4]'(by omega), cs[k * 4 + 1]'(l 1 (by decide)), cs[k * 4 + 2]'(l 2 (by decide)), cs[k * 4 + 3]'(l 3 (by decide)), ?_⟩
  have l0 : k * 4 < cs.size := by omega
  have l1 := l 1 (by decide)
  have l2 := l 2 (by decide)
  have l3 := l 3 (by decide)
  simp [World.cell?, World.frozen?, h1, l0, l1, l2, l3]
theorem VRow.block {gv n : Nat} {vs : List Num} {w w' : World} (h : VRow gv n vs w) (e : w'.heap[gv]? = w.heap[gv]?) : VRow gv n vs w' := by
  obtain ⟨cs, h1, r⟩ := h
  exact ⟨cs, by rw [e]; exact h1, r⟩
theorem VRow.lt {gv n : Nat} {vs : List Num} {w : World} (h : VRow gv n vs w) : gv < w.heap.size := by
  obtain ⟨cs, h1, _⟩ := h
  exact (Array.getElem?_eq_some_iff.1 h1).1
theorem VRow.below {gv n : Nat} {vs : List Num} {w w' : World} (h : VRow gv n vs w) (g : Below w.heap.size w w') : VRow gv n vs w' := h.block (g.block _ h.lt)
/-- A number written behind those that are there. -/
theorem VRow.put {gv n : Nat} {vs : List Num} {w : World} (h : VRow gv n vs w) (hn : vs.length < n) (x : Num) :
    VRow gv n (vs ++ [x]) ((((w.setCell ⟨gv, vs.length * 4, none⟩ (.int .i64 x.re.n)).setCell ⟨gv, vs.length * 4 + 1, none⟩ (.int .i64 x.re.d)).setCell ⟨gv, vs.length * 4 + 2, none⟩ (.int .i64 x.im.n)).setCell ⟨gv, vs.length * 4 + 3, none⟩ (.int .i64 x.im.d)) := by
  obtain ⟨cs, h1, h2, h3⟩ := h
  refine ⟨(((cs.setIfInBounds (vs.length * 4) (.int .i64 x.re.n)).setIfInBounds (vs.length * 4 + 1) (.int .i64 x.re.d)).setIfInBounds (vs.length * 4 + 2) (.int .i64 x.im.n)).setIfInBounds (vs.length * 4 + 3) (.int .i64 x.im.d), ?_, by simpa using h2, ?_⟩
  · simp [World.setCell, Array.getElem?_modify, h1]
  · intro k y hk
    rw [List.getElem?_append] at hk
    split at hk
    · rename_i hlt
      obtain ⟨a, b, c, d⟩ := h3 k y hk
      refine ⟨?_, ?_, ?_, ?_⟩ <;>
        (simp only [Array.getElem?_setIfInBounds]
         rw [if_neg (by omega), if_neg (by omega), if_neg (by omega), if_neg (by omega)]
         assumption)
    · rename_i hge
      have hk0 : k = vs.length := by
        rcases Nat.lt_or_ge (k - vs.length) 1 with h' | h'
        · omega
        · rw [List.getElem?_eq_none (by simpa using h')] at hk; cases hk
      subst hk0
      simp at hk
      subst hk
      have s0 : vs.length * 4 < cs.size := by omega
      have s1 : vs.length * 4 + 1 < cs.size := by omega
      have s2 : vs.length * 4 + 2 < cs.size := by omega
      have s3 : vs.length * 4 + 3 < cs.size := by omega
      simp [s0, s1, s2, s3]
/-- A number that is written over stays behind those that are there. -/
theorem VRow.over {gv n : Nat} {vs : List Num} {w : World} (h : VRow gv n vs w) (j : Nat) (hj : vs.length * 4 ≤ j) (v : Value) : VRow gv n vs (w.setCell ⟨gv, j, none⟩ v) := by
  obtain ⟨cs, h1, h2, h3⟩ := h
  refine ⟨cs.setIfInBounds j v, ?_, by simpa using h2, ?_⟩
  · simp [World.setCell, Array.getElem?_modify, h1]
  · intro k y hk
    have hlt : k < vs.length := (List.getElem?_eq_some_iff.1 hk).1
    obtain ⟨a, b, c, d⟩ := h3 k y hk
    refine ⟨?_, ?_, ?_, ?_⟩ <;>
      (rw [Array.getElem?_setIfInBounds, if_neg (by omega)]
       assumption)
theorem Tryz.infoRNum : (Tryz.prog.info? 92).map (fun i => (i.zero, i.size, i.bytes)) = some (some (.agg #[.int .i64 0, .int .i64 0, .int .i64 0, .int .i64 0]), 4, 32) := by kernel_rfl
theorem VRow.made {gv n base : Nat} {w : World} {xs : List Value} (h : w.ownsRow base 92 4 (.slice (some ⟨gv, 0, none⟩) n n) n xs) : VRow gv n [] w := by
  rcases h.2 with ⟨h2, _⟩ | ⟨g', cap', cur, hv, hg, hh, r1, r2, r3, r4⟩
  · cases h2
  · injection hv with e1 e2 e3
    injection e1 with e1
    injection e1 with e1
    subst e1 e3
    exact ⟨cur, hh, r3, fun k x hk => by simp at hk⟩
end Go.Proofs.YtodabmkcihafhaaGreatDoor

import Derived.Test.YtodabmkcihafhaaGreatDoorQ10

/- The document's way: made, plus, less, times. -/
namespace Go.Proofs.YtodabmkcihafhaaGreatDoor
open Go.RowKit
set_option linter.unusedVariables false

/-! ### The way -/
/-- The document's way, in block b: whether one was too big. -/
def WySt (b : Nat) (fl : Bool) (w : World) : Prop := w.heap[b]? = some (.cells #[.bool fl] 205 (0, 0))
theorem WySt.cells {b : Nat} {fl : Bool} {w : World} (h : WySt b fl w) : w.cell? ⟨b, 0, none⟩ = some (.bool fl) ∧ w.frozen? ⟨b, 0, none⟩ = false := by
  unfold WySt at h
  simp [World.cell?, World.frozen?, h]
theorem WySt.set {b : Nat} {fl : Bool} {w : World} (h : WySt b fl w) (x : Bool) : WySt b x (w.setCell ⟨b, 0, none⟩ (.bool x)) := by
  unfold WySt at *
  simp [World.setCell, Array.getElem?_modify, h]
theorem WySt.lt {b : Nat} {fl : Bool} {w : World} (h : WySt b fl w) : b < w.heap.size := (Array.getElem?_eq_some_iff.1 h).1
theorem WySt.below {b : Nat} {fl : Bool} {w w' : World} (h : WySt b fl w) (g : Below w.heap.size w w') : WySt b fl w' := by
  unfold WySt; rw [g.block _ h.lt]; exact h

set_option maxHeartbeats 1000000 in
theorem made_any (b : Nat) (fl : Bool) (n d : Int) (w : World) (h1 : -4000000000000 ≤ n) (h2 : n ≤ 4000000000000) (h3 : 0 < d) (h4 : d ≤ 4000000000000) (h : WySt b fl w) :
    Calls Tryz.prog 130 #[.pointer (some ⟨b, 0, none⟩), .int .i64 n, .int .i64 d] w fun e w' => e = .returned (.agg #[.int .i64 (mkF n d).n, .int .i64 (mkF n d).d]) ∧ WySt b (fl || mkB n d) w' ∧ w.grownBy w' (some b) := by
  have hlt := h.lt
  have hc := rlow_any n d (w.alloc (.cells #[.int .i64 0, .int .i64 0] 90)) h1 h2 h3 h4
  unfold rlowV at hc
  have HF : Hid (mkF n d = if mkB n d then ⟨0, 1⟩ else lowP n d) := rfl
  generalize mkF n d = F at *
  generalize lowP n d = l at *
  generalize mkB n d = B at *
  have hz0 : (w.alloc (.cells #[.int .i64 0, .int .i64 0] 90)).heap[w.heap.size]? = some (.cells #[.int .i64 0, .int .i64 0] 90 (0, 0)) := heap_alloc_new w _
  have h0 := h.below (fr_below w (.cells #[.int .i64 0, .int .i64 0] 90))
  have HH := hidMk h0
  have HZ := hidMk hz0
  clear h h0 hz0
  go_enter Tryz.func130, Tryz.ntmps130
  go_wp2_with fail
  refine hc.mono ?_
  rintro e w1 ⟨rfl, hb1⟩
  have hsz : w.heap.size + 1 ≤ w1.heap.size := by have := hb1.size; simp at this; omega
  have g1 : w.grownBy w1 (some b) := gb_below (gb_alloc (gb_refl w _) _) hb1
  have hz1 := (hb1.block _ (by simp)).trans HZ.out
  have hr1 := HH.out.below hb1
  obtain ⟨z0, z1, fz0, fz1⟩ := two_cells hz1
  obtain ⟨r0, fr0⟩ := hr1.cells
  have z0' := cellA z0
  have z1' := cellA z1
  have r0' := cellA r0
  have fz0' := frozA z0 fz0
  have fz1' := frozA z1 fz1
  have fr0' := frozA r0 fr0
  have HR := hidMk hr1
  have HZ1 := hidMk hz1
  clear hz1 hr1 hc HH HZ hb1
  cases B with
  | true =>
    have e1 : F = ⟨0, 1⟩ := HF.out
    subst e1
    go_wp2_with fail
    refine bp_gen (fun W' => W'.heap[w.heap.size]? = some (.cells #[.int .i64 0, .int .i64 1] 90 (0, 0)) ∧ WySt b true W' ∧ w.grownBy W' (some b)) ⟨two_set (x := .int .i64 0) (y := .int .i64 0) ?_ _ _, ?_, ?_⟩ ?_
    · rw [Below.heap_setCell _ _ _ _ (by simp; omega), Below.heap_alloc _ _ _ (by omega)]
      exact HZ1.out
    · unfold WySt
      rw [Below.heap_setCell _ _ _ _ (by simp; omega), Below.heap_setCell _ _ _ _ (by simp; omega)]
      exact (HR.out.below (fr_below w1 _)).set true
    · exact gb_new (gb_new (gb_set (gb_alloc g1 _) 0 _) (Nat.le_refl _) 0 _) (Nat.le_refl _) 1 _
    · rintro W ⟨hz, hr, hg⟩
      obtain ⟨z0, z1, _, _⟩ := two_cells hz
      try rw [Bool.or_true]
      exact bodyPost_ret (v := .agg #[.int .i64 0, .int .i64 1]) (by simp [results, Tryz.results130, go_sem, z0, z1]) rfl ⟨rfl, hr, hg⟩
  | false =>
    have e1 : F = l := HF.out
    subst e1
    go_wp2_with fail
    refine bp_gen (fun W' => W'.heap[w.heap.size]? = some (.cells #[.int .i64 F.n, .int .i64 F.d] 90 (0, 0)) ∧ WySt b fl W' ∧ w.grownBy W' (some b)) ⟨two_set (x := .int .i64 0) (y := .int .i64 0) ?_ _ _, ?_, ?_⟩ ?_
    · rw [Below.heap_alloc _ _ _ (by omega)]
      exact HZ1.out
    · unfold WySt
      rw [Below.heap_setCell _ _ _ _ (by simp; omega), Below.heap_setCell _ _ _ _ (by simp; omega)]
      exact HR.out.below (fr_below w1 _)
    · exact gb_new (gb_new (gb_alloc g1 _) (Nat.le_refl _) 0 _) (Nat.le_refl _) 1 _
    · rintro W ⟨hz, hr, hg⟩
      obtain ⟨z0, z1, _, _⟩ := two_cells hz
      try rw [Bool.or_false]
      exact bodyPost_ret (v := .agg #[.int .i64 F.n, .int .i64 F.d]) (by simp [results, Tryz.results130, go_sem, z0, z1]) rfl ⟨rfl, hr, hg⟩

set_option maxHeartbeats 1000000 in
theorem rplus_any (b : Nat) (fl : Bool) (x y : Fr) (w : World) (hx : x.Ok) (hy : y.Ok) (h : WySt b fl w) :
    Calls Tryz.prog 90 #[.pointer (some ⟨b, 0, none⟩), .agg #[.int .i64 x.n, .int .i64 x.d], .agg #[.int .i64 y.n, .int .i64 y.d]] w fun e w' => e = .returned (.agg #[.int .i64 (plF x y).n, .int .i64 (plF x y).d]) ∧ WySt b (fl || plB x y) w' ∧ w.grownBy w' (some b) := by
  have m1 := hx.mul_nd hy
  have m2 := hy.mul_nd hx
  have m3 := hx.mul_d hy
  have c := fun W h => made_any b fl (x.n * y.d + y.n * x.d) (x.d * y.d) W (by omega) (by omega) m3.1 (by omega) h
  show Calls _ _ _ _ fun e w' => e = .returned (.agg #[.int .i64 (mkF (x.n * y.d + y.n * x.d) (x.d * y.d)).n, .int .i64 (mkF (x.n * y.d + y.n * x.d) (x.d * y.d)).d]) ∧ WySt b (fl || mkB (x.n * y.d + y.n * x.d) (x.d * y.d)) w' ∧ w.grownBy w' (some b)
  generalize mkF (x.n * y.d + y.n * x.d) (x.d * y.d) = F at *
  generalize mkB (x.n * y.d + y.n * x.d) (x.d * y.d) = B at *
  have hlt := h.lt
  have hh : Hid (WySt b fl w) := h
  have C : Hid (∀ (W : World), WySt b fl W → Calls Tryz.prog 130 #[.pointer (some ⟨b, 0, none⟩), .int .i64 (x.n * y.d + y.n * x.d), .int .i64 (x.d * y.d)] W fun e w' => e = .returned (.agg #[.int .i64 F.n, .int .i64 F.d]) ∧ WySt b (fl || B) w' ∧ W.grownBy w' (some b)) := c
  clear h hx hy c
  go_enter Tryz.func90, Tryz.ntmps90
  go_wp2_with fail
  refine (C.out _ ?_).mono ?_
  · unfold WySt
    rw [Below.heap_alloc _ _ _ (by simp; omega), Below.heap_alloc _ _ _ (by simp; omega), Below.heap_alloc _ _ _ (by omega)]
    exact hh.out
  rintro e w1 ⟨rfl, hr1, hg1⟩
  have hz1 : w1.heap[w.heap.size + 1 + 1]? = some (.cells #[.int .i64 0, .int .i64 0] 90 (0, 0)) := by
    rw [hg1.block _ (by simp) (by simp; omega)]
    have := heap_alloc_new ((w.alloc (.cells #[.int .i64 x.n, .int .i64 x.d] 90)).alloc (.cells #[.int .i64 y.n, .int .i64 y.d] 90)) (.cells #[.int .i64 0, .int .i64 0] 90)
    rw [show ((w.alloc (.cells #[.int .i64 x.n, .int .i64 x.d] 90)).alloc (.cells #[.int .i64 y.n, .int .i64 y.d] 90)).heap.size = w.heap.size + 1 + 1 by simp] at this
    exact this
  have hg0 : w.grownBy w1 (some b) := gb_trans (gb_alloc (gb_alloc (gb_alloc (gb_refl w _) _) _) _) hg1
  obtain ⟨z0, z1, fz0, fz1⟩ := two_cells hz1
  clear hz1 hg1 C hh
  go_wp2_with fail
  refine bodyPost_ret (v := .agg #[.int .i64 F.n, .int .i64 F.d]) (by simp [results, Tryz.results90, go_sem, z0, z1]) rfl ?_
  refine ⟨rfl, ?_, gb_new (gb_new hg0 (by omega) 0 _) (by omega) 1 _⟩
  unfold WySt
  rw [Below.heap_setCell _ _ _ _ (by simp; omega), Below.heap_setCell _ _ _ _ (by simp; omega)]
  exact hr1

set_option maxHeartbeats 1000000 in
theorem rtimes_any (b : Nat) (fl : Bool) (x y : Fr) (w : World) (hx : x.Ok) (hy : y.Ok) (h : WySt b fl w) :
    Calls Tryz.prog 131 #[.pointer (some ⟨b, 0, none⟩), .agg #[.int .i64 x.n, .int .i64 x.d], .agg #[.int .i64 y.n, .int .i64 y.d]] w fun e w' => e = .returned (.agg #[.int .i64 (tmF x y).n, .int .i64 (tmF x y).d]) ∧ WySt b (fl || tmB x y) w' ∧ w.grownBy w' (some b) := by
  have m1 := hx.mul_n hy
  have m3 := hx.mul_d hy
  have c := fun W h => made_any b fl (x.n * y.n) (x.d * y.d) W (by omega) (by omega) m3.1 (by omega) h
  show Calls _ _ _ _ fun e w' => e = .returned (.agg #[.int .i64 (mkF (x.n * y.n) (x.d * y.d)).n, .int .i64 (mkF (x.n * y.n) (x.d * y.d)).d]) ∧ WySt b (fl || mkB (x.n * y.n) (x.d * y.d)) w' ∧ w.grownBy w' (some b)
  generalize mkF (x.n * y.n) (x.d * y.d) = F at *
  generalize mkB (x.n * y.n) (x.d * y.d) = B at *
  have hlt := h.lt
  have hh : Hid (WySt b fl w) := h
  have C : Hid (∀ (W : World), WySt b fl W → Calls Tryz.prog 130 #[.pointer (some ⟨b, 0, none⟩), .int .i64 (x.n * y.n), .int .i64 (x.d * y.d)] W fun e w' => e = .returned (.agg #[.int .i64 F.n, .int .i64 F.d]) ∧ WySt b (fl || B) w' ∧ W.grownBy w' (some b)) := c
  clear h hx hy c
  go_enter Tryz.func131, Tryz.ntmps131
  go_wp2_with fail
  refine (C.out _ ?_).mono ?_
  · unfold WySt
    rw [Below.heap_alloc _ _ _ (by simp; omega), Below.heap_alloc _ _ _ (by simp; omega), Below.heap_alloc _ _ _ (by omega)]
    exact hh.out
  rintro e w1 ⟨rfl, hr1, hg1⟩
  have hz1 : w1.heap[w.heap.size + 1 + 1]? = some (.cells #[.int .i64 0, .int .i64 0] 90 (0, 0)) := by
    rw [hg1.block _ (by simp) (by simp; omega)]
    have := heap_alloc_new ((w.alloc (.cells #[.int .i64 x.n, .int .i64 x.d] 90)).alloc (.cells #[.int .i64 y.n, .int .i64 y.d] 90)) (.cells #[.int .i64 0, .int .i64 0] 90)
    rw [show ((w.alloc (.cells #[.int .i64 x.n, .int .i64 x.d] 90)).alloc (.cells #[.int .i64 y.n, .int .i64 y.d] 90)).heap.size = w.heap.size + 1 + 1 by simp] at this
    exact this
  have hg0 : w.grownBy w1 (some b) := gb_trans (gb_alloc (gb_alloc (gb_alloc (gb_refl w _) _) _) _) hg1
  obtain ⟨z0, z1, fz0, fz1⟩ := two_cells hz1
  clear hz1 hg1 C hh
  go_wp2_with fail
  refine bodyPost_ret (v := .agg #[.int .i64 F.n, .int .i64 F.d]) (by simp [results, Tryz.results131, go_sem, z0, z1]) rfl ?_
  refine ⟨rfl, ?_, gb_new (gb_new hg0 (by omega) 0 _) (by omega) 1 _⟩
  unfold WySt
  rw [Below.heap_setCell _ _ _ _ (by simp; omega), Below.heap_setCell _ _ _ _ (by simp; omega)]
  exact hr1

set_option maxHeartbeats 1000000 in
theorem rless_any (b : Nat) (fl : Bool) (x y : Fr) (w : World) (hx : x.Ok) (hy : y.Ok) (h : WySt b fl w) :
    Calls Tryz.prog 91 #[.pointer (some ⟨b, 0, none⟩), .agg #[.int .i64 x.n, .int .i64 x.d], .agg #[.int .i64 y.n, .int .i64 y.d]] w fun e w' => e = .returned (.agg #[.int .i64 (plF x y.neg).n, .int .i64 (plF x y.neg).d]) ∧ WySt b (fl || plB x y.neg) w' ∧ w.grownBy w' (some b) := by
  have m1 := hx.mul_nd hy
  have m2 := hy.mul_nd hx
  have m3 := hx.mul_d hy
  have c := fun W h => made_any b fl (x.n * y.d - y.n * x.d) (x.d * y.d) W (by omega) (by omega) m3.1 (by omega) h
  have hE : x.n * y.neg.d + y.neg.n * x.d = x.n * y.d - y.n * x.d := by
    show x.n * y.d + -y.n * x.d = _
    rw [Int.neg_mul]
    omega
  have hF : plF x y.neg = mkF (x.n * y.d - y.n * x.d) (x.d * y.d) := by unfold plF; rw [hE]; rfl
  have hB : plB x y.neg = mkB (x.n * y.d - y.n * x.d) (x.d * y.d) := by unfold plB; rw [hE]; rfl
  rw [hF, hB]
  clear hE hF hB
  generalize mkF (x.n * y.d - y.n * x.d) (x.d * y.d) = F at *
  generalize mkB (x.n * y.d - y.n * x.d) (x.d * y.d) = B at *
  have hlt := h.lt
  have hh : Hid (WySt b fl w) := h
  have C : Hid (∀ (W : World), WySt b fl W → Calls Tryz.prog 130 #[.pointer (some ⟨b, 0, none⟩), .int .i64 (x.n * y.d - y.n * x.d), .int .i64 (x.d * y.d)] W fun e w' => e = .returned (.agg #[.int .i64 F.n, .int .i64 F.d]) ∧ WySt b (fl || B) w' ∧ W.grownBy w' (some b)) := c
  clear h hx hy c
  go_enter Tryz.func91, Tryz.ntmps91
  go_wp2_with fail
  refine (C.out _ ?_).mono ?_
  · unfold WySt
    rw [Below.heap_alloc _ _ _ (by simp; omega), Below.heap_alloc _ _ _ (by simp; omega), Below.heap_alloc _ _ _ (by omega)]
    exact hh.out
  rintro e w1 ⟨rfl, hr1, hg1⟩
  have hz1 : w1.heap[w.heap.size + 1 + 1]? = some (.cells #[.int .i64 0, .int .i64 0] 90 (0, 0)) := by
    rw [hg1.block _ (by simp) (by simp; omega)]
    have := heap_alloc_new ((w.alloc (.cells #[.int .i64 x.n, .int .i64 x.d] 90)).alloc (.cells #[.int .i64 y.n, .int .i64 y.d] 90)) (.cells #[.int .i64 0, .int .i64 0] 90)
    rw [show ((w.alloc (.cells #[.int .i64 x.n, .int .i64 x.d] 90)).alloc (.cells #[.int .i64 y.n, .int .i64 y.d] 90)).heap.size = w.heap.size + 1 + 1 by simp] at this
    exact this
  have hg0 : w.grownBy w1 (some b) := gb_trans (gb_alloc (gb_alloc (gb_alloc (gb_refl w _) _) _) _) hg1
  obtain ⟨z0, z1, fz0, fz1⟩ := two_cells hz1
  clear hz1 hg1 C hh
  go_wp2_with fail
  refine bodyPost_ret (v := .agg #[.int .i64 F.n, .int .i64 F.d]) (by simp [results, Tryz.results91, go_sem, z0, z1]) rfl ?_
  refine ⟨rfl, ?_, gb_new (gb_new hg0 (by omega) 0 _) (by omega) 1 _⟩
  unfold WySt
  rw [Below.heap_setCell _ _ _ _ (by simp; omega), Below.heap_setCell _ _ _ _ (by simp; omega)]
  exact hr1
end Go.Proofs.YtodabmkcihafhaaGreatDoor

/- The document's product and quotient. -/
namespace Go.Proofs.YtodabmkcihafhaaGreatDoor
open Go.RowKit
set_option linter.unusedVariables false

/-- The blocks of a way's call on two numbers: they, the result; the way (block b, below); fractions in blocks of their own. -/
structure Wek (w0 : World) (b : Nat) (x y : Num) (ex : List (Nat × Fr)) (fl : Bool) (w : World) : Prop where
  hx : w.heap[w0.heap.size]? = some (.cells #[.int .i64 x.re.n, .int .i64 x.re.d, .int .i64 x.im.n, .int .i64 x.im.d] 92 (0, 0))
  hy : w.heap[w0.heap.size + 1]? = some (.cells #[.int .i64 y.re.n, .int .i64 y.re.d, .int .i64 y.im.n, .int .i64 y.im.d] 92 (0, 0))
  hz : w.heap[w0.heap.size + 1 + 1]? = some (.cells #[.int .i64 0, .int .i64 0, .int .i64 0, .int .i64 0] 92 (0, 0))
  hr : WySt b fl w
  hlt : b < w0.heap.size
  hg : w0.grownBy w (some b)
  hex : ∀ p ∈ ex, w0.heap.size ≤ p.1 ∧ w.heap[p.1]? = some (.cells #[.int .i64 p.2.n, .int .i64 p.2.d] 90 (0, 0))
theorem Wek.lt {w0 w : World} {b : Nat} {x y : Num} {ex : List (Nat × Fr)} {fl : Bool} (h : Wek w0 b x y ex fl w) : w0.heap.size + 1 + 1 < w.heap.size := (Array.getElem?_eq_some_iff.1 h.hz).1
theorem Wek.grown {w0 w w' : World} {b : Nat} {x y : Num} {ex : List (Nat × Fr)} {fl fl' : Bool} (h : Wek w0 b x y ex fl w) (g : w.grownBy w' (some b)) (hr : WySt b fl' w') : Wek w0 b x y ex fl' w' := by
  have l := h.lt
  have r := h.hlt
  refine ⟨?_, ?_, ?_, hr, r, gb_trans h.hg g, fun p hp => ⟨(h.hex p hp).1, ?_⟩⟩
  · rw [g.block _ (by omega) (by simp; omega)]; exact h.hx
  · rw [g.block _ (by omega) (by simp; omega)]; exact h.hy
  · rw [g.block _ (by omega) (by simp; omega)]; exact h.hz
  · have q := h.hex p hp
    rw [g.block _ (Array.getElem?_eq_some_iff.1 q.2).1 (by simp; omega)]; exact q.2
theorem Wek.push {w0 w : World} {b : Nat} {x y : Num} {ex : List (Nat × Fr)} {fl : Bool} (h : Wek w0 b x y ex fl w) (f : Fr) : Wek w0 b x y ((w.heap.size, f) :: ex) fl (w.alloc (.cells #[.int .i64 f.n, .int .i64 f.d] 90)) := by
  have l := h.lt
  have g := h.grown (World.grownBy_alloc w (.cells #[.int .i64 f.n, .int .i64 f.d] 90) (some b)) (h.hr.below (fr_below w _))
  refine ⟨g.hx, g.hy, g.hz, g.hr, g.hlt, g.hg, fun p hp => ?_⟩
  rcases List.mem_cons.1 hp with rfl | hp
  · exact ⟨by simp; omega, heap_alloc_new w _⟩
  · exact g.hex p hp
theorem Wek.new (w : World) (b : Nat) (fl : Bool) (x y : Num) (h : WySt b fl w) : Wek w b x y [] fl (((w.alloc (.cells #[.int .i64 x.re.n, .int .i64 x.re.d, .int .i64 x.im.n, .int .i64 x.im.d] 92)).alloc (.cells #[.int .i64 y.re.n, .int .i64 y.re.d, .int .i64 y.im.n, .int .i64 y.im.d] 92)).alloc (.cells #[.int .i64 0, .int .i64 0, .int .i64 0, .int .i64 0] 92)) := by
  refine ⟨?_, ?_, ?_, ?_, h.lt, gb_alloc (gb_alloc (gb_alloc (gb_refl w _) _) _) _, fun p hp => by cases hp⟩
  · rw [Below.heap_alloc _ _ _ (by simp; omega), Below.heap_alloc _ _ _ (by simp)]
    exact heap_alloc_new w _
  · rw [Below.heap_alloc _ _ _ (by simp)]
    have := heap_alloc_new (w.alloc (.cells #[.int .i64 x.re.n, .int .i64 x.re.d, .int .i64 x.im.n, .int .i64 x.im.d] 92)) (.cells #[.int .i64 y.re.n, .int .i64 y.re.d, .int .i64 y.im.n, .int .i64 y.im.d] 92)
    simpa using this
  · have := heap_alloc_new ((w.alloc (.cells #[.int .i64 x.re.n, .int .i64 x.re.d, .int .i64 x.im.n, .int .i64 x.im.d] 92)).alloc (.cells #[.int .i64 y.re.n, .int .i64 y.re.d, .int .i64 y.im.n, .int .i64 y.im.d] 92)) (.cells #[.int .i64 0, .int .i64 0, .int .i64 0, .int .i64 0] 92)
    simpa using this
  · exact ((h.below (fr_below w _)).below (fr_below _ _)).below (fr_below _ _)

set_option maxHeartbeats 4000000 in
set_option maxRecDepth 100000 in
theorem rprod_any (b : Nat) (fl : Bool) (x y : Num) (w : World) (hx : x.Ok) (hy : y.Ok) (h : WySt b fl w) :
    Calls Tryz.prog 92 #[.pointer (some ⟨b, 0, none⟩), .agg #[.int .i64 x.re.n, .int .i64 x.re.d, .int .i64 x.im.n, .int .i64 x.im.d], .agg #[.int .i64 y.re.n, .int .i64 y.re.d, .int .i64 y.im.n, .int .i64 y.im.d]] w fun e w' => e = .returned (nV (mulN x y)) ∧ WySt b (fl || mulB x y) w' ∧ w.grownBy w' (some b) := by
  have C1 : Hid (∀ fl W, WySt b fl W → Calls Tryz.prog 131 #[.pointer (some ⟨b, 0, none⟩), .agg #[.int .i64 (x.re).n, .int .i64 (x.re).d], .agg #[.int .i64 (y.re).n, .int .i64 (y.re).d]] W fun e w' => e = .returned (.agg #[.int .i64 (tmF x.re y.re).n, .int .i64 (tmF x.re y.re).d]) ∧ WySt b (fl || tmB x.re y.re) w' ∧ W.grownBy w' (some b)) := fun fl W h => rtimes_any b fl _ _ W hx.1 hy.1 h
  have C2 : Hid (∀ fl W, WySt b fl W → Calls Tryz.prog 131 #[.pointer (some ⟨b, 0, none⟩), .agg #[.int .i64 (x.im).n, .int .i64 (x.im).d], .agg #[.int .i64 (y.im).n, .int .i64 (y.im).d]] W fun e w' => e = .returned (.agg #[.int .i64 (tmF x.im y.im).n, .int .i64 (tmF x.im y.im).d]) ∧ WySt b (fl || tmB x.im y.im) w' ∧ W.grownBy w' (some b)) := fun fl W h => rtimes_any b fl _ _ W hx.2 hy.2 h
  have C4 : Hid (∀ fl W, WySt b fl W → Calls Tryz.prog 131 #[.pointer (some ⟨b, 0, none⟩), .agg #[.int .i64 (x.re).n, .int .i64 (x.re).d], .agg #[.int .i64 (y.im).n, .int .i64 (y.im).d]] W fun e w' => e = .returned (.agg #[.int .i64 (tmF x.re y.im).n, .int .i64 (tmF x.re y.im).d]) ∧ WySt b (fl || tmB x.re y.im) w' ∧ W.grownBy w' (some b)) := fun fl W h => rtimes_any b fl _ _ W hx.1 hy.2 h
  have C5 : Hid (∀ fl W, WySt b fl W → Calls Tryz.prog 131 #[.pointer (some ⟨b, 0, none⟩), .agg #[.int .i64 (x.im).n, .int .i64 (x.im).d], .agg #[.int .i64 (y.re).n, .int .i64 (y.re).d]] W fun e w' => e = .returned (.agg #[.int .i64 (tmF x.im y.re).n, .int .i64 (tmF x.im y.re).d]) ∧ WySt b (fl || tmB x.im y.re) w' ∧ W.grownBy w' (some b)) := fun fl W h => rtimes_any b fl _ _ W hx.2 hy.1 h
  have C3 : Hid (∀ fl W, WySt b fl W → Calls Tryz.prog 91 #[.pointer (some ⟨b, 0, none⟩), .agg #[.int .i64 (tmF x.re y.re).n, .int .i64 (tmF x.re y.re).d], .agg #[.int .i64 (tmF x.im y.im).n, .int .i64 (tmF x.im y.im).d]] W fun e w' => e = .returned (.agg #[.int .i64 (plF (tmF x.re y.re) (tmF x.im y.im).neg).n, .int .i64 (plF (tmF x.re y.re) (tmF x.im y.im).neg).d]) ∧ WySt b (fl || plB (tmF x.re y.re) (tmF x.im y.im).neg) w' ∧ W.grownBy w' (some b)) := fun fl W h => rless_any b fl _ _ W (tmF_ok hx.1 hy.1) (tmF_ok hx.2 hy.2) h
  have C6 : Hid (∀ fl W, WySt b fl W → Calls Tryz.prog 90 #[.pointer (some ⟨b, 0, none⟩), .agg #[.int .i64 (tmF x.re y.im).n, .int .i64 (tmF x.re y.im).d], .agg #[.int .i64 (tmF x.im y.re).n, .int .i64 (tmF x.im y.re).d]] W fun e w' => e = .returned (.agg #[.int .i64 (plF (tmF x.re y.im) (tmF x.im y.re)).n, .int .i64 (plF (tmF x.re y.im) (tmF x.im y.re)).d]) ∧ WySt b (fl || plB (tmF x.re y.im) (tmF x.im y.re)) w' ∧ W.grownBy w' (some b)) := fun fl W h => rplus_any b fl _ _ W (tmF_ok hx.1 hy.2) (tmF_ok hx.2 hy.1) h
  have HN : Hid (nV (mulN x y) = .agg #[.int .i64 (plF (tmF x.re y.re) (tmF x.im y.im).neg).n, .int .i64 (plF (tmF x.re y.re) (tmF x.im y.im).neg).d, .int .i64 (plF (tmF x.re y.im) (tmF x.im y.re)).n, .int .i64 (plF (tmF x.re y.im) (tmF x.im y.re)).d]) := rfl
  have HB : Hid ((fl || mulB x y) = ((((((fl || tmB x.re y.re) || tmB x.im y.im) || tmB x.re y.im) || tmB x.im y.re) || plB (tmF x.re y.re) (tmF x.im y.im).neg) || plB (tmF x.re y.im) (tmF x.im y.re))) := by
    show (fl || mulB x y) = _
    unfold mulB
    cases fl <;> cases tmB x.re y.re <;> cases tmB x.im y.im <;> cases tmB x.re y.im <;> cases tmB x.im y.re <;> cases plB (tmF x.re y.re) (tmF x.im y.im).neg <;> rfl
  generalize nV (mulN x y) = V at *
  generalize (fl || mulB x y) = FB at *
  generalize plF (tmF x.re y.re) (tmF x.im y.im).neg = F3 at *
  generalize plB (tmF x.re y.re) (tmF x.im y.im).neg = B3 at *
  generalize plF (tmF x.re y.im) (tmF x.im y.re) = F6 at *
  generalize plB (tmF x.re y.im) (tmF x.im y.re) = B6 at *
  generalize tmF x.re y.re = F1 at *
  generalize tmF x.im y.im = F2 at *
  generalize tmF x.re y.im = F4 at *
  generalize tmF x.im y.re = F5 at *
  generalize tmB x.re y.re = B1 at *
  generalize tmB x.im y.im = B2 at *
  generalize tmB x.re y.im = B4 at *
  generalize tmB x.im y.re = B5 at *
  have H := hidMk (Wek.new w b fl x y h)
  clear hx hy h
  go_enter Tryz.func92, Tryz.ntmps92
  obtain ⟨X0, X1, X2, X3⟩ := four_cells H.out.hx
  obtain ⟨Y0, Y1, Y2, Y3⟩ := four_cells H.out.hy
  go_wp2_with fail
  refine (C1.out _ _ H.out.hr).mono ?_
  rintro e w1 ⟨rfl, hr1, hg1⟩
  have H1 := hidMk ((H.out.grown hg1 hr1).push F1)
  clear H hr1 hg1 X0 X1 X2 X3 Y0 Y1 Y2 Y3
  have H := H1
  clear H1
  obtain ⟨X0, X1, X2, X3⟩ := four_cells H.out.hx
  obtain ⟨Y0, Y1, Y2, Y3⟩ := four_cells H.out.hy
  go_wp2_with fail
  refine (C2.out _ _ H.out.hr).mono ?_
  rintro e w2 ⟨rfl, hr2, hg2⟩
  have H2 := hidMk ((H.out.grown hg2 hr2).push F2)
  clear H hr2 hg2 X0 X1 X2 X3 Y0 Y1 Y2 Y3
  have H := H2
  clear H2
  obtain ⟨X0, X1, X2, X3⟩ := four_cells H.out.hx
  obtain ⟨Y0, Y1, Y2, Y3⟩ := four_cells H.out.hy
  go_wp2_with fail
  refine (C4.out _ _ H.out.hr).mono ?_
  rintro e w3 ⟨rfl, hr3, hg3⟩
  have H3 := hidMk ((H.out.grown hg3 hr3).push F4)
  clear H hr3 hg3 X0 X1 X2 X3 Y0 Y1 Y2 Y3
  have H := H3
  clear H3
  obtain ⟨X0, X1, X2, X3⟩ := four_cells H.out.hx
  obtain ⟨Y0, Y1, Y2, Y3⟩ := four_cells H.out.hy
  go_wp2_with fail
  refine (C5.out _ _ H.out.hr).mono ?_
  rintro e w4 ⟨rfl, hr4, hg4⟩
  have H4 := hidMk ((H.out.grown hg4 hr4).push F5)
  clear H hr4 hg4 X0 X1 X2 X3 Y0 Y1 Y2 Y3
  have H := H4
  clear H4
  obtain ⟨X0, X1, X2, X3⟩ := four_cells H.out.hx
  obtain ⟨Y0, Y1, Y2, Y3⟩ := four_cells H.out.hy
  obtain ⟨L10, L11, _, _⟩ := two_cells (H.out.hex (w1.heap.size, F1) (by simp)).2
  obtain ⟨L20, L21, _, _⟩ := two_cells (H.out.hex (w2.heap.size, F2) (by simp)).2
  go_wp2_with fail
  refine (C3.out _ _ H.out.hr).mono ?_
  rintro e w5 ⟨rfl, hr5, hg5⟩
  have H5 := hidMk ((H.out.grown hg5 hr5).push F3)
  clear H hr5 hg5 X0 X1 X2 X3 Y0 Y1 Y2 Y3
  have H := H5
  clear H5
  clear L10 L11 L20 L21
  obtain ⟨X0, X1, X2, X3⟩ := four_cells H.out.hx
  obtain ⟨Y0, Y1, Y2, Y3⟩ := four_cells H.out.hy
  obtain ⟨L30, L31, _, _⟩ := two_cells (H.out.hex (w3.heap.size, F4) (by simp)).2
  obtain ⟨L40, L41, _, _⟩ := two_cells (H.out.hex (w4.heap.size, F5) (by simp)).2
  go_wp2_with fail
  refine (C6.out _ _ H.out.hr).mono ?_
  rintro e w6 ⟨rfl, hr6, hg6⟩
  have H6 := hidMk ((H.out.grown hg6 hr6).push F6)
  clear H hr6 hg6 X0 X1 X2 X3 Y0 Y1 Y2 Y3
  have H := H6
  clear H6
  clear L30 L31 L40 L41
  have hlt := H.out.lt
  have hbl := H.out.hlt
  obtain ⟨L50, L51, _, _⟩ := two_cells (H.out.hex (w5.heap.size, F3) (by simp)).2
  obtain ⟨L60, L61, _, _⟩ := two_cells (H.out.hex (w6.heap.size, F6) (by simp)).2
  obtain ⟨z0, z1, z2, z3⟩ := four_cells H.out.hz
  obtain ⟨f0, f1, f2, f3⟩ := four_frozen H.out.hz
  clear C1 C2 C3 C4 C5 C6
  go_wp2_with fail
  refine bp_gen (fun W' => W'.heap[w.heap.size + 1 + 1]? = some (.cells #[.int .i64 F3.n, .int .i64 F3.d, .int .i64 F6.n, .int .i64 F6.d] 92 (0, 0)) ∧ WySt b FB W' ∧ w.grownBy W' (some b)) ⟨four_set H.out.hz _ _ _ _, ?_, ?_⟩ ?_
  · rw [HB.out]
    unfold WySt
    rw [Below.heap_setCell _ _ _ _ (by simp; omega), Below.heap_setCell _ _ _ _ (by simp; omega), Below.heap_setCell _ _ _ _ (by simp; omega), Below.heap_setCell _ _ _ _ (by simp; omega)]
    exact H.out.hr
  · exact gb_new (gb_new (gb_new (gb_new H.out.hg (by omega) 0 _) (by omega) 1 _) (by omega) 2 _) (by omega) 3 _
  · rintro W ⟨hz, hr, hg⟩
    obtain ⟨z0, z1, z2, z3⟩ := four_cells hz
    rw [HN.out]
    exact bodyPost_ret (v := .agg #[.int .i64 F3.n, .int .i64 F3.d, .int .i64 F6.n, .int .i64 F6.d]) (by simp [results, Tryz.results92, go_sem, z0, z1, z2, z3]) rfl ⟨rfl, hr, hg⟩
end Go.Proofs.YtodabmkcihafhaaGreatDoor

/- The document's quotient. -/
namespace Go.Proofs.YtodabmkcihafhaaGreatDoor
open Go.RowKit
set_option linter.unusedVariables false

set_option maxHeartbeats 8000000 in
set_option maxRecDepth 100000 in
theorem rquot_any (b : Nat) (x y : Num) (w : World) (hx : x.Ok) (hy : y.Ok) (hnz : y.zero = false) (h : WySt b false w) :
    Calls Tryz.prog 93 #[.pointer (some ⟨b, 0, none⟩), .agg #[.int .i64 x.re.n, .int .i64 x.re.d, .int .i64 x.im.n, .int .i64 x.im.d], .agg #[.int .i64 y.re.n, .int .i64 y.re.d, .int .i64 y.im.n, .int .i64 y.im.d]] w fun e w' => e = .returned (if sqB y then nV x else nV (divN x y)) ∧ WySt b (sqB y || divB x y) w' ∧ w.grownBy w' (some b) := by
  have hI : sqB y = false → (sqF y).inv.Ok ∧ mkF (sqF y).d (sqF y).n = (sqF y).inv ∧ mkB (sqF y).d (sqF y).n = false := fun h2 =>
    have q := mk_of_inv (plF_ok (tmF_ok hy.1 hy.1) (tmF_ok hy.2 hy.2)) (sq_pos hy hnz h2)
    ⟨q.2.2, q.1, q.2.1⟩
  have hS3 : (sqF y).Ok := plF_ok (tmF_ok hy.1 hy.1) (tmF_ok hy.2 hy.2)
  have C1 : Hid (∀ fl W, WySt b fl W → Calls Tryz.prog 131 #[.pointer (some ⟨b, 0, none⟩), .agg #[.int .i64 (y.re).n, .int .i64 (y.re).d], .agg #[.int .i64 (y.re).n, .int .i64 (y.re).d]] W fun e w' => e = .returned (.agg #[.int .i64 (tmF y.re y.re).n, .int .i64 (tmF y.re y.re).d]) ∧ WySt b (fl || tmB y.re y.re) w' ∧ W.grownBy w' (some b)) := fun fl W h => rtimes_any b fl _ _ W hy.1 hy.1 h
  have C2 : Hid (∀ fl W, WySt b fl W → Calls Tryz.prog 131 #[.pointer (some ⟨b, 0, none⟩), .agg #[.int .i64 (y.im).n, .int .i64 (y.im).d], .agg #[.int .i64 (y.im).n, .int .i64 (y.im).d]] W fun e w' => e = .returned (.agg #[.int .i64 (tmF y.im y.im).n, .int .i64 (tmF y.im y.im).d]) ∧ WySt b (fl || tmB y.im y.im) w' ∧ W.grownBy w' (some b)) := fun fl W h => rtimes_any b fl _ _ W hy.2 hy.2 h
  have C3 : Hid (∀ fl W, WySt b fl W → Calls Tryz.prog 90 #[.pointer (some ⟨b, 0, none⟩), .agg #[.int .i64 (tmF y.re y.re).n, .int .i64 (tmF y.re y.re).d], .agg #[.int .i64 (tmF y.im y.im).n, .int .i64 (tmF y.im y.im).d]] W fun e w' => e = .returned (.agg #[.int .i64 (sqF y).n, .int .i64 (sqF y).d]) ∧ WySt b (fl || plB (tmF y.re y.re) (tmF y.im y.im)) w' ∧ W.grownBy w' (some b)) := fun fl W h => rplus_any b fl _ _ W (tmF_ok hy.1 hy.1) (tmF_ok hy.2 hy.2) h
  have CI : Hid (sqB y = false → ∀ fl W, WySt b fl W → Calls Tryz.prog 130 #[.pointer (some ⟨b, 0, none⟩), .int .i64 (sqF y).d, .int .i64 (sqF y).n] W fun e w' => e = .returned (.agg #[.int .i64 ((sqF y).inv).n, .int .i64 ((sqF y).inv).d]) ∧ WySt b (fl || false) w' ∧ W.grownBy w' (some b)) := by
    intro h2 fl W h
    obtain ⟨q1, q2, q3⟩ := hI h2
    have hp := sq_pos hy hnz h2
    obtain ⟨s1, s2, s3, s4, _⟩ := hS3
    have c := made_any b fl (sqF y).d (sqF y).n W (by omega) (by omega) hp (by omega) h
    rw [q2, q3] at c
    exact c
  have E1 : Hid (∀ fl W, WySt b fl W → Calls Tryz.prog 131 #[.pointer (some ⟨b, 0, none⟩), .agg #[.int .i64 (x.re).n, .int .i64 (x.re).d], .agg #[.int .i64 (y.re).n, .int .i64 (y.re).d]] W fun e w' => e = .returned (.agg #[.int .i64 (tmF x.re y.re).n, .int .i64 (tmF x.re y.re).d]) ∧ WySt b (fl || tmB x.re y.re) w' ∧ W.grownBy w' (some b)) := fun fl W h => rtimes_any b fl _ _ W hx.1 hy.1 h
  have E2 : Hid (∀ fl W, WySt b fl W → Calls Tryz.prog 131 #[.pointer (some ⟨b, 0, none⟩), .agg #[.int .i64 (x.im).n, .int .i64 (x.im).d], .agg #[.int .i64 (y.im).n, .int .i64 (y.im).d]] W fun e w' => e = .returned (.agg #[.int .i64 (tmF x.im y.im).n, .int .i64 (tmF x.im y.im).d]) ∧ WySt b (fl || tmB x.im y.im) w' ∧ W.grownBy w' (some b)) := fun fl W h => rtimes_any b fl _ _ W hx.2 hy.2 h
  have E3 : Hid (∀ fl W, WySt b fl W → Calls Tryz.prog 90 #[.pointer (some ⟨b, 0, none⟩), .agg #[.int .i64 (tmF x.re y.re).n, .int .i64 (tmF x.re y.re).d], .agg #[.int .i64 (tmF x.im y.im).n, .int .i64 (tmF x.im y.im).d]] W fun e w' => e = .returned (.agg #[.int .i64 (dvRe x y).n, .int .i64 (dvRe x y).d]) ∧ WySt b (fl || plB (tmF x.re y.re) (tmF x.im y.im)) w' ∧ W.grownBy w' (some b)) := fun fl W h => rplus_any b fl _ _ W (tmF_ok hx.1 hy.1) (tmF_ok hx.2 hy.2) h
  have E5 : Hid (∀ fl W, WySt b fl W → Calls Tryz.prog 131 #[.pointer (some ⟨b, 0, none⟩), .agg #[.int .i64 (x.im).n, .int .i64 (x.im).d], .agg #[.int .i64 (y.re).n, .int .i64 (y.re).d]] W fun e w' => e = .returned (.agg #[.int .i64 (tmF x.im y.re).n, .int .i64 (tmF x.im y.re).d]) ∧ WySt b (fl || tmB x.im y.re) w' ∧ W.grownBy w' (some b)) := fun fl W h => rtimes_any b fl _ _ W hx.2 hy.1 h
  have E6 : Hid (∀ fl W, WySt b fl W → Calls Tryz.prog 131 #[.pointer (some ⟨b, 0, none⟩), .agg #[.int .i64 (x.re).n, .int .i64 (x.re).d], .agg #[.int .i64 (y.im).n, .int .i64 (y.im).d]] W fun e w' => e = .returned (.agg #[.int .i64 (tmF x.re y.im).n, .int .i64 (tmF x.re y.im).d]) ∧ WySt b (fl || tmB x.re y.im) w' ∧ W.grownBy w' (some b)) := fun fl W h => rtimes_any b fl _ _ W hx.1 hy.2 h
  have E7 : Hid (∀ fl W, WySt b fl W → Calls Tryz.prog 91 #[.pointer (some ⟨b, 0, none⟩), .agg #[.int .i64 (tmF x.im y.re).n, .int .i64 (tmF x.im y.re).d], .agg #[.int .i64 (tmF x.re y.im).n, .int .i64 (tmF x.re y.im).d]] W fun e w' => e = .returned (.agg #[.int .i64 (dvIm x y).n, .int .i64 (dvIm x y).d]) ∧ WySt b (fl || plB (tmF x.im y.re) (tmF x.re y.im).neg) w' ∧ W.grownBy w' (some b)) := fun fl W h => rless_any b fl _ _ W (tmF_ok hx.2 hy.1) (tmF_ok hx.1 hy.2) h
  have E4 : Hid (sqB y = false → ∀ fl W, WySt b fl W → Calls Tryz.prog 131 #[.pointer (some ⟨b, 0, none⟩), .agg #[.int .i64 (dvRe x y).n, .int .i64 (dvRe x y).d], .agg #[.int .i64 ((sqF y).inv).n, .int .i64 ((sqF y).inv).d]] W fun e w' => e = .returned (.agg #[.int .i64 (tmF (dvRe x y) (sqF y).inv).n, .int .i64 (tmF (dvRe x y) (sqF y).inv).d]) ∧ WySt b (fl || tmB (dvRe x y) (sqF y).inv) w' ∧ W.grownBy w' (some b)) := fun h2 fl W h => rtimes_any b fl _ _ W (plF_ok (tmF_ok hx.1 hy.1) (tmF_ok hx.2 hy.2)) (hI h2).1 h
  have E8 : Hid (sqB y = false → ∀ fl W, WySt b fl W → Calls Tryz.prog 131 #[.pointer (some ⟨b, 0, none⟩), .agg #[.int .i64 (dvIm x y).n, .int .i64 (dvIm x y).d], .agg #[.int .i64 ((sqF y).inv).n, .int .i64 ((sqF y).inv).d]] W fun e w' => e = .returned (.agg #[.int .i64 (tmF (dvIm x y) (sqF y).inv).n, .int .i64 (tmF (dvIm x y) (sqF y).inv).d]) ∧ WySt b (fl || tmB (dvIm x y) (sqF y).inv) w' ∧ W.grownBy w' (some b)) := fun h2 fl W h => rtimes_any b fl _ _ W (plF_ok (tmF_ok hx.2 hy.1) (tmF_ok hx.1 hy.2).neg) (hI h2).1 h
  have HQ : Hid (sqB y = (((false || tmB y.re y.re) || tmB y.im y.im) || plB (tmF y.re y.re) (tmF y.im y.im))) := by
    show sqB y = _
    rw [Bool.false_or]
    rfl
  have HN : Hid (nV (divN x y) = .agg #[.int .i64 (tmF (dvRe x y) (sqF y).inv).n, .int .i64 (tmF (dvRe x y) (sqF y).inv).d, .int .i64 (tmF (dvIm x y) (sqF y).inv).n, .int .i64 (tmF (dvIm x y) (sqF y).inv).d]) := rfl
  have HX : Hid (nV x = .agg #[.int .i64 x.re.n, .int .i64 x.re.d, .int .i64 x.im.n, .int .i64 x.im.d]) := rfl
  have HD : Hid (divB x y = (((((((((false || false) || tmB x.re y.re) || tmB x.im y.im) || tmB x.im y.re) || tmB x.re y.im) || plB (tmF x.re y.re) (tmF x.im y.im)) || plB (tmF x.im y.re) (tmF x.re y.im).neg) || tmB (dvRe x y) (sqF y).inv) || tmB (dvIm x y) (sqF y).inv)) := by
    show divB x y = _
    unfold divB
    cases tmB x.re y.re <;> cases tmB x.im y.im <;> cases tmB x.im y.re <;> cases tmB x.re y.im <;> cases plB (tmF x.re y.re) (tmF x.im y.im) <;> cases plB (tmF x.im y.re) (tmF x.re y.im).neg <;> cases tmB (dvRe x y) (sqF y).inv <;> rfl
  generalize nV (divN x y) = V at *
  generalize nV x = VX at *
  generalize divB x y = DB at *
  generalize tmF (dvRe x y) (sqF y).inv = G4 at *
  generalize tmB (dvRe x y) (sqF y).inv = H4 at *
  generalize tmF (dvIm x y) (sqF y).inv = G8 at *
  generalize tmB (dvIm x y) (sqF y).inv = H8 at *
  clear hI hS3
  generalize (sqF y).inv = I at *
  generalize sqF y = S3 at *
  generalize sqB y = SB at *
  generalize dvRe x y = G3 at *
  generalize dvIm x y = G7 at *
  generalize plB (tmF x.im y.re) (tmF x.re y.im).neg = H7 at *
  generalize plB (tmF x.re y.re) (tmF x.im y.im) = H3 at *
  generalize plB (tmF y.re y.re) (tmF y.im y.im) = B3 at *
  generalize tmF y.re y.re = S1 at *
  generalize tmF y.im y.im = S2 at *
  generalize tmB y.re y.re = B1 at *
  generalize tmB y.im y.im = B2 at *
  generalize tmF x.re y.re = G1 at *
  generalize tmF x.im y.im = G2 at *
  generalize tmF x.im y.re = G5 at *
  generalize tmF x.re y.im = G6 at *
  generalize tmB x.re y.re = H1 at *
  generalize tmB x.im y.im = H2 at *
  generalize tmB x.im y.re = H5 at *
  generalize tmB x.re y.im = H6 at *
  have H := hidMk (Wek.new w b false x y h)
  clear hx hy h hnz
  go_enter Tryz.func93, Tryz.ntmps93
  obtain ⟨X0, X1, X2, X3⟩ := four_cells H.out.hx
  obtain ⟨Y0, Y1, Y2, Y3⟩ := four_cells H.out.hy
  go_wp2_with fail
  refine (C1.out _ _ H.out.hr).mono ?_
  rintro e w1 ⟨rfl, hr1, hg1⟩
  have H1 := hidMk ((H.out.grown hg1 hr1).push S1)
  clear H hr1 hg1 X0 X1 X2 X3 Y0 Y1 Y2 Y3
  have H := H1
  clear H1
  obtain ⟨X0, X1, X2, X3⟩ := four_cells H.out.hx
  obtain ⟨Y0, Y1, Y2, Y3⟩ := four_cells H.out.hy
  go_wp2_with fail
  refine (C2.out _ _ H.out.hr).mono ?_
  rintro e w2 ⟨rfl, hr2, hg2⟩
  have H2 := hidMk ((H.out.grown hg2 hr2).push S2)
  clear H hr2 hg2 X0 X1 X2 X3 Y0 Y1 Y2 Y3
  have H := H2
  clear H2
  obtain ⟨X0, X1, X2, X3⟩ := four_cells H.out.hx
  obtain ⟨Y0, Y1, Y2, Y3⟩ := four_cells H.out.hy
  obtain ⟨L10, L11, _, _⟩ := two_cells (H.out.hex (w1.heap.size, S1) (by simp)).2
  obtain ⟨L20, L21, _, _⟩ := two_cells (H.out.hex (w2.heap.size, S2) (by simp)).2
  go_wp2_with fail
  refine (C3.out _ _ H.out.hr).mono ?_
  rintro e w3 ⟨rfl, hr3, hg3⟩
  have H3 := hidMk ((H.out.grown hg3 hr3).push S3)
  clear H hr3 hg3 X0 X1 X2 X3 Y0 Y1 Y2 Y3
  have H := H3
  clear H3
  clear L10 L11 L20 L21
  have hH := H.out
  rw [← HQ.out] at hH
  have H3 := hidMk hH
  clear H hH C1 C2 C3 HQ
  have H := H3
  clear H3
  have hlt := H.out.lt
  have hbl := H.out.hlt
  obtain ⟨r0, fr0⟩ := H.out.hr.cells
  cases SB with
  | true =>
    obtain ⟨X0, X1, X2, X3⟩ := four_cells H.out.hx
    obtain ⟨z0, z1, z2, z3⟩ := four_cells H.out.hz
    obtain ⟨f0, f1, f2, f3⟩ := four_frozen H.out.hz
    clear E1 E2 E3 E4 E5 E6 E7 E8 CI
    go_wp2_with fail
    refine bp_gen (fun W' => W'.heap[w.heap.size + 1 + 1]? = some (.cells #[.int .i64 x.re.n, .int .i64 x.re.d, .int .i64 x.im.n, .int .i64 x.im.d] 92 (0, 0)) ∧ WySt b true W' ∧ w.grownBy W' (some b)) ⟨four_set H.out.hz _ _ _ _, ?_, ?_⟩ ?_
    · unfold WySt
      rw [Below.heap_setCell _ _ _ _ (by simp; omega), Below.heap_setCell _ _ _ _ (by simp; omega), Below.heap_setCell _ _ _ _ (by simp; omega), Below.heap_setCell _ _ _ _ (by simp; omega)]
      exact H.out.hr
    · exact gb_new (gb_new (gb_new (gb_new H.out.hg (by omega) 0 _) (by omega) 1 _) (by omega) 2 _) (by omega) 3 _
    · rintro W ⟨hz, hr, hg⟩
      obtain ⟨z0, z1, z2, z3⟩ := four_cells hz
      refine bodyPost_ret (v := .agg #[.int .i64 x.re.n, .int .i64 x.re.d, .int .i64 x.im.n, .int .i64 x.im.d]) (by simp [results, Tryz.results93, go_sem, z0, z1, z2, z3]) rfl ⟨?_, ?_, hg⟩
      · show Ending.returned _ = Ending.returned VX
        rw [HX.out]
      · exact hr
  | false =>
    have CI' := hidMk (CI.out rfl)
    have E4' := hidMk (E4.out rfl)
    have E8' := hidMk (E8.out rfl)
    clear CI E4 E8
    obtain ⟨X0, X1, X2, X3⟩ := four_cells H.out.hx
    obtain ⟨Y0, Y1, Y2, Y3⟩ := four_cells H.out.hy
    obtain ⟨L30, L31, _, _⟩ := two_cells (H.out.hex (w3.heap.size, S3) (by simp)).2
    go_wp2_with fail
    refine (CI'.out _ _ H.out.hr).mono ?_
    rintro e w4 ⟨rfl, hr4, hg4⟩
    have H4 := hidMk ((H.out.grown hg4 hr4).push I)
    clear H hr4 hg4 X0 X1 X2 X3 Y0 Y1 Y2 Y3
    have H := H4
    clear H4
    clear L30 L31
    clear r0 fr0
    obtain ⟨X0, X1, X2, X3⟩ := four_cells H.out.hx
    obtain ⟨Y0, Y1, Y2, Y3⟩ := four_cells H.out.hy
    go_wp2_with fail
    refine (E1.out _ _ H.out.hr).mono ?_
    rintro e w5 ⟨rfl, hr5, hg5⟩
    have H5 := hidMk ((H.out.grown hg5 hr5).push G1)
    clear H hr5 hg5 X0 X1 X2 X3 Y0 Y1 Y2 Y3
    have H := H5
    clear H5
    obtain ⟨X0, X1, X2, X3⟩ := four_cells H.out.hx
    obtain ⟨Y0, Y1, Y2, Y3⟩ := four_cells H.out.hy
    go_wp2_with fail
    refine (E2.out _ _ H.out.hr).mono ?_
    rintro e w6 ⟨rfl, hr6, hg6⟩
    have H6 := hidMk ((H.out.grown hg6 hr6).push G2)
    clear H hr6 hg6 X0 X1 X2 X3 Y0 Y1 Y2 Y3
    have H := H6
    clear H6
    obtain ⟨X0, X1, X2, X3⟩ := four_cells H.out.hx
    obtain ⟨Y0, Y1, Y2, Y3⟩ := four_cells H.out.hy
    go_wp2_with fail
    refine (E5.out _ _ H.out.hr).mono ?_
    rintro e w7 ⟨rfl, hr7, hg7⟩
    have H7 := hidMk ((H.out.grown hg7 hr7).push G5)
    clear H hr7 hg7 X0 X1 X2 X3 Y0 Y1 Y2 Y3
    have H := H7
    clear H7
    obtain ⟨X0, X1, X2, X3⟩ := four_cells H.out.hx
    obtain ⟨Y0, Y1, Y2, Y3⟩ := four_cells H.out.hy
    go_wp2_with fail
    refine (E6.out _ _ H.out.hr).mono ?_
    rintro e w8 ⟨rfl, hr8, hg8⟩
    have H8 := hidMk ((H.out.grown hg8 hr8).push G6)
    clear H hr8 hg8 X0 X1 X2 X3 Y0 Y1 Y2 Y3
    have H := H8
    clear H8
    obtain ⟨X0, X1, X2, X3⟩ := four_cells H.out.hx
    obtain ⟨Y0, Y1, Y2, Y3⟩ := four_cells H.out.hy
    obtain ⟨L50, L51, _, _⟩ := two_cells (H.out.hex (w5.heap.size, G1) (by simp)).2
    obtain ⟨L60, L61, _, _⟩ := two_cells (H.out.hex (w6.heap.size, G2) (by simp)).2
    go_wp2_with fail
    refine (E3.out _ _ H.out.hr).mono ?_
    rintro e w9 ⟨rfl, hr9, hg9⟩
    have H9 := hidMk ((H.out.grown hg9 hr9).push G3)
    clear H hr9 hg9 X0 X1 X2 X3 Y0 Y1 Y2 Y3
    have H := H9
    clear H9
    clear L50 L51 L60 L61
    obtain ⟨X0, X1, X2, X3⟩ := four_cells H.out.hx
    obtain ⟨Y0, Y1, Y2, Y3⟩ := four_cells H.out.hy
    obtain ⟨L70, L71, _, _⟩ := two_cells (H.out.hex (w7.heap.size, G5) (by simp)).2
    obtain ⟨L80, L81, _, _⟩ := two_cells (H.out.hex (w8.heap.size, G6) (by simp)).2
    go_wp2_with fail
    refine (E7.out _ _ H.out.hr).mono ?_
    rintro e w10 ⟨rfl, hr10, hg10⟩
    have H10 := hidMk ((H.out.grown hg10 hr10).push G7)
    clear H hr10 hg10 X0 X1 X2 X3 Y0 Y1 Y2 Y3
    have H := H10
    clear H10
    clear L70 L71 L80 L81
    obtain ⟨X0, X1, X2, X3⟩ := four_cells H.out.hx
    obtain ⟨Y0, Y1, Y2, Y3⟩ := four_cells H.out.hy
    obtain ⟨L90, L91, _, _⟩ := two_cells (H.out.hex (w9.heap.size, G3) (by simp)).2
    obtain ⟨L40, L41, _, _⟩ := two_cells (H.out.hex (w4.heap.size, I) (by simp)).2
    go_wp2_with fail
    refine (E4'.out _ _ H.out.hr).mono ?_
    rintro e w11 ⟨rfl, hr11, hg11⟩
    have H11 := hidMk ((H.out.grown hg11 hr11).push G4)
    clear H hr11 hg11 X0 X1 X2 X3 Y0 Y1 Y2 Y3
    have H := H11
    clear H11
    clear L90 L91 L40 L41
    obtain ⟨X0, X1, X2, X3⟩ := four_cells H.out.hx
    obtain ⟨Y0, Y1, Y2, Y3⟩ := four_cells H.out.hy
    obtain ⟨L100, L101, _, _⟩ := two_cells (H.out.hex (w10.heap.size, G7) (by simp)).2
    obtain ⟨L40, L41, _, _⟩ := two_cells (H.out.hex (w4.heap.size, I) (by simp)).2
    go_wp2_with fail
    refine (E8'.out _ _ H.out.hr).mono ?_
    rintro e w12 ⟨rfl, hr12, hg12⟩
    have H12 := hidMk ((H.out.grown hg12 hr12).push G8)
    clear H hr12 hg12 X0 X1 X2 X3 Y0 Y1 Y2 Y3
    have H := H12
    clear H12
    clear L100 L101 L40 L41
    have hlt2 := H.out.lt
    obtain ⟨L110, L111, _, _⟩ := two_cells (H.out.hex (w11.heap.size, G4) (by simp)).2
    obtain ⟨L120, L121, _, _⟩ := two_cells (H.out.hex (w12.heap.size, G8) (by simp)).2
    obtain ⟨z0, z1, z2, z3⟩ := four_cells H.out.hz
    obtain ⟨f0, f1, f2, f3⟩ := four_frozen H.out.hz
    clear E1 E2 E3 E4' E5 E6 E7 E8' CI'
    go_wp2_with fail
    refine bp_gen (fun W' => W'.heap[w.heap.size + 1 + 1]? = some (.cells #[.int .i64 G4.n, .int .i64 G4.d, .int .i64 G8.n, .int .i64 G8.d] 92 (0, 0)) ∧ WySt b DB W' ∧ w.grownBy W' (some b)) ⟨four_set H.out.hz _ _ _ _, ?_, ?_⟩ ?_
    · rw [HD.out]
      unfold WySt
      rw [Below.heap_setCell _ _ _ _ (by simp; omega), Below.heap_setCell _ _ _ _ (by simp; omega), Below.heap_setCell _ _ _ _ (by simp; omega), Below.heap_setCell _ _ _ _ (by simp; omega)]
      exact H.out.hr
    · exact gb_new (gb_new (gb_new (gb_new H.out.hg (by omega) 0 _) (by omega) 1 _) (by omega) 2 _) (by omega) 3 _
    · rintro W ⟨hz, hr, hg⟩
      obtain ⟨z0, z1, z2, z3⟩ := four_cells hz
      refine bodyPost_ret (v := .agg #[.int .i64 G4.n, .int .i64 G4.d, .int .i64 G8.n, .int .i64 G8.d]) (by simp [results, Tryz.results93, go_sem, z0, z1, z2, z3]) rfl ⟨?_, ?_, hg⟩
      · show Ending.returned _ = Ending.returned V
        rw [HN.out]
      · exact hr
end Go.Proofs.YtodabmkcihafhaaGreatDoor

import Derived.Deep.DeepCutAuto
import Derived.Test.YtodabmkcihafhaaGreatDoorK7

/- The program's Divide. -/
namespace Go.Proofs.YtodabmkcihafhaaGreatDoor
open Go.RowKit
set_option linter.unusedVariables false

set_option maxHeartbeats 400000 in
theorem isZero_any (f : Fr) (w : World) : Calls Tryz.prog 180 #[.agg #[.int .i64 f.n, .int .i64 f.d]] w fun e w' => e = .returned (.bool (f.n == 0)) ∧ Below w.heap.size w w' := by
  go_enter Tryz.func180, Tryz.ntmps180
  go_wp2_with fail
  go_ret
  exact ⟨rfl, fr_below w _⟩

/-- The two numbers and the result, ahead of the reckoner. -/
structure Tri (w0 : World) (x y : Num) (w : World) : Prop where
  hx : w.heap[w0.heap.size]? = some (.cells #[.int .i64 x.re.n, .int .i64 x.re.d, .int .i64 x.im.n, .int .i64 x.im.d] 82 (0, 0))
  hy : w.heap[w0.heap.size + 1]? = some (.cells #[.int .i64 y.re.n, .int .i64 y.re.d, .int .i64 y.im.n, .int .i64 y.im.d] 82 (0, 0))
  hz : w.heap[w0.heap.size + 1 + 1]? = some (.cells #[.int .i64 0, .int .i64 0, .int .i64 0, .int .i64 0] 82 (0, 0))
  hb : Below w0.heap.size w0 w
theorem Tri.lt {w0 w : World} {x y : Num} (h : Tri w0 x y w) : w0.heap.size + 1 + 1 < w.heap.size := (Array.getElem?_eq_some_iff.1 h.hz).1
theorem Tri.below {w0 w w' : World} {x y : Num} (h : Tri w0 x y w) (g : Below w.heap.size w w') : Tri w0 x y w' := by
  have l := h.lt
  exact ⟨by rw [g.block _ (by omega)]; exact h.hx, by rw [g.block _ (by omega)]; exact h.hy, by rw [g.block _ (by omega)]; exact h.hz, h.hb.trans (g.mono (by omega))⟩
theorem Tri.new (w : World) (x y : Num) : Tri w x y (((w.alloc (.cells #[.int .i64 x.re.n, .int .i64 x.re.d, .int .i64 x.im.n, .int .i64 x.im.d] 82)).alloc (.cells #[.int .i64 y.re.n, .int .i64 y.re.d, .int .i64 y.im.n, .int .i64 y.im.d] 82)).alloc (.cells #[.int .i64 0, .int .i64 0, .int .i64 0, .int .i64 0] 82)) := by
  refine ⟨?_, ?_, ?_, ?_⟩
  · rw [Below.heap_alloc _ _ _ (by simp; omega), Below.heap_alloc _ _ _ (by simp)]
    exact heap_alloc_new w _
  · rw [Below.heap_alloc _ _ _ (by simp)]
    have := heap_alloc_new (w.alloc (.cells #[.int .i64 x.re.n, .int .i64 x.re.d, .int .i64 x.im.n, .int .i64 x.im.d] 82)) (.cells #[.int .i64 y.re.n, .int .i64 y.re.d, .int .i64 y.im.n, .int .i64 y.im.d] 82)
    simpa using this
  · have := heap_alloc_new ((w.alloc (.cells #[.int .i64 x.re.n, .int .i64 x.re.d, .int .i64 x.im.n, .int .i64 x.im.d] 82)).alloc (.cells #[.int .i64 y.re.n, .int .i64 y.re.d, .int .i64 y.im.n, .int .i64 y.im.d] 82)) (.cells #[.int .i64 0, .int .i64 0, .int .i64 0, .int .i64 0] 82)
    simpa using this
  · exact (((Below.refl _ w).alloc (Nat.le_refl _) _).alloc (by simp) _).alloc (by simp; omega) _
theorem Tri.rek {w0 w : World} {x y : Num} (h : Tri w0 x y w) : Rek w0 w.heap.size x y [] false (w.alloc (.cells #[.bool false] 254)) := by
  have l := h.lt
  have g := h.below (fr_below w (.cells #[.bool false] 254))
  exact ⟨g.hx, g.hy, g.hz, RkSt.new w, l, g.hb, fun p hp => by cases hp⟩

def divV (aZ aB : Addr) (x y : Num) : Value := if y.zero then .tuple #[.agg #[.int .i64 0, .int .i64 0, .int .i64 0, .int .i64 0], .iface 285 (.pointer (some aZ))] else outV aB (sqB y || divB x y) (divN x y)

set_option maxHeartbeats 8000000 in
set_option maxRecDepth 100000 in
theorem div_any (N : Nat) (aZ aB : Addr) (x y : Num) (w : World) (hS : Sen N aZ aB w) (hN : N ≤ w.heap.size) (hx : x.Ok) (hy : y.Ok) :
    Calls Tryz.prog 171 #[.agg #[.int .i64 x.re.n, .int .i64 x.re.d, .int .i64 x.im.n, .int .i64 x.im.d], .agg #[.int .i64 y.re.n, .int .i64 y.re.d, .int .i64 y.im.n, .int .i64 y.im.d]] w fun e w' => e = .returned (divV aZ aB x y) ∧ Below w.heap.size w w' := by
  have hI : y.zero = false → sqB y = false → (sqF y).inv.Ok := fun h1 h2 => (mk_of_inv (plF_ok (tmF_ok hy.1 hy.1) (tmF_ok hy.2 hy.2)) (sq_pos hy h1 h2)).2.2
  have C1 : Hid (∀ b fl W, RkSt b fl W → Calls Tryz.prog 179 #[.pointer (some ⟨b, 0, none⟩), .agg #[.int .i64 (y.re).n, .int .i64 (y.re).d], .agg #[.int .i64 (y.re).n, .int .i64 (y.re).d]] W fun e w' => e = .returned (.agg #[.int .i64 (tmF y.re y.re).n, .int .i64 (tmF y.re y.re).d]) ∧ RkSt b (fl || tmB y.re y.re) w' ∧ W.grownBy w' (some b)) := fun b fl W h => times_any b fl _ _ W hy.1 hy.1 h
  have C2 : Hid (∀ b fl W, RkSt b fl W → Calls Tryz.prog 179 #[.pointer (some ⟨b, 0, none⟩), .agg #[.int .i64 (y.im).n, .int .i64 (y.im).d], .agg #[.int .i64 (y.im).n, .int .i64 (y.im).d]] W fun e w' => e = .returned (.agg #[.int .i64 (tmF y.im y.im).n, .int .i64 (tmF y.im y.im).d]) ∧ RkSt b (fl || tmB y.im y.im) w' ∧ W.grownBy w' (some b)) := fun b fl W h => times_any b fl _ _ W hy.2 hy.2 h
  have C3 : Hid (∀ b fl W, RkSt b fl W → Calls Tryz.prog 177 #[.pointer (some ⟨b, 0, none⟩), .agg #[.int .i64 (tmF y.re y.re).n, .int .i64 (tmF y.re y.re).d], .agg #[.int .i64 (tmF y.im y.im).n, .int .i64 (tmF y.im y.im).d]] W fun e w' => e = .returned (.agg #[.int .i64 (sqF y).n, .int .i64 (sqF y).d]) ∧ RkSt b (fl || plB (tmF y.re y.re) (tmF y.im y.im)) w' ∧ W.grownBy w' (some b)) := fun b fl W h => plus_any b fl _ _ W (tmF_ok hy.1 hy.1) (tmF_ok hy.2 hy.2) h
  have E1 : Hid (∀ b fl W, RkSt b fl W → Calls Tryz.prog 179 #[.pointer (some ⟨b, 0, none⟩), .agg #[.int .i64 (x.re).n, .int .i64 (x.re).d], .agg #[.int .i64 (y.re).n, .int .i64 (y.re).d]] W fun e w' => e = .returned (.agg #[.int .i64 (tmF x.re y.re).n, .int .i64 (tmF x.re y.re).d]) ∧ RkSt b (fl || tmB x.re y.re) w' ∧ W.grownBy w' (some b)) := fun b fl W h => times_any b fl _ _ W hx.1 hy.1 h
  have E2 : Hid (∀ b fl W, RkSt b fl W → Calls Tryz.prog 179 #[.pointer (some ⟨b, 0, none⟩), .agg #[.int .i64 (x.im).n, .int .i64 (x.im).d], .agg #[.int .i64 (y.im).n, .int .i64 (y.im).d]] W fun e w' => e = .returned (.agg #[.int .i64 (tmF x.im y.im).n, .int .i64 (tmF x.im y.im).d]) ∧ RkSt b (fl || tmB x.im y.im) w' ∧ W.grownBy w' (some b)) := fun b fl W h => times_any b fl _ _ W hx.2 hy.2 h
  have E3 : Hid (∀ b fl W, RkSt b fl W → Calls Tryz.prog 177 #[.pointer (some ⟨b, 0, none⟩), .agg #[.int .i64 (tmF x.re y.re).n, .int .i64 (tmF x.re y.re).d], .agg #[.int .i64 (tmF x.im y.im).n, .int .i64 (tmF x.im y.im).d]] W fun e w' => e = .returned (.agg #[.int .i64 (dvRe x y).n, .int .i64 (dvRe x y).d]) ∧ RkSt b (fl || plB (tmF x.re y.re) (tmF x.im y.im)) w' ∧ W.grownBy w' (some b)) := fun b fl W h => plus_any b fl _ _ W (tmF_ok hx.1 hy.1) (tmF_ok hx.2 hy.2) h
  have E5 : Hid (∀ b fl W, RkSt b fl W → Calls Tryz.prog 179 #[.pointer (some ⟨b, 0, none⟩), .agg #[.int .i64 (x.im).n, .int .i64 (x.im).d], .agg #[.int .i64 (y.re).n, .int .i64 (y.re).d]] W fun e w' => e = .returned (.agg #[.int .i64 (tmF x.im y.re).n, .int .i64 (tmF x.im y.re).d]) ∧ RkSt b (fl || tmB x.im y.re) w' ∧ W.grownBy w' (some b)) := fun b fl W h => times_any b fl _ _ W hx.2 hy.1 h
  have E6 : Hid (∀ b fl W, RkSt b fl W → Calls Tryz.prog 179 #[.pointer (some ⟨b, 0, none⟩), .agg #[.int .i64 (x.re).n, .int .i64 (x.re).d], .agg #[.int .i64 (y.im).n, .int .i64 (y.im).d]] W fun e w' => e = .returned (.agg #[.int .i64 (tmF x.re y.im).n, .int .i64 (tmF x.re y.im).d]) ∧ RkSt b (fl || tmB x.re y.im) w' ∧ W.grownBy w' (some b)) := fun b fl W h => times_any b fl _ _ W hx.1 hy.2 h
  have E7 : Hid (∀ b fl W, RkSt b fl W → Calls Tryz.prog 178 #[.pointer (some ⟨b, 0, none⟩), .agg #[.int .i64 (tmF x.im y.re).n, .int .i64 (tmF x.im y.re).d], .agg #[.int .i64 (tmF x.re y.im).n, .int .i64 (tmF x.re y.im).d]] W fun e w' => e = .returned (.agg #[.int .i64 (dvIm x y).n, .int .i64 (dvIm x y).d]) ∧ RkSt b (fl || plB (tmF x.im y.re) (tmF x.re y.im).neg) w' ∧ W.grownBy w' (some b)) := fun b fl W h => less_any b fl _ _ W (tmF_ok hx.2 hy.1) (tmF_ok hx.1 hy.2) h
  have E4 : Hid (y.zero = false → sqB y = false → ∀ b fl W, RkSt b fl W → Calls Tryz.prog 179 #[.pointer (some ⟨b, 0, none⟩), .agg #[.int .i64 (dvRe x y).n, .int .i64 (dvRe x y).d], .agg #[.int .i64 ((sqF y).inv).n, .int .i64 ((sqF y).inv).d]] W fun e w' => e = .returned (.agg #[.int .i64 (tmF (dvRe x y) (sqF y).inv).n, .int .i64 (tmF (dvRe x y) (sqF y).inv).d]) ∧ RkSt b (fl || tmB (dvRe x y) (sqF y).inv) w' ∧ W.grownBy w' (some b)) := fun h1 h2 b fl W h => times_any b fl _ _ W (plF_ok (tmF_ok hx.1 hy.1) (tmF_ok hx.2 hy.2)) (hI h1 h2) h
  have E8 : Hid (y.zero = false → sqB y = false → ∀ b fl W, RkSt b fl W → Calls Tryz.prog 179 #[.pointer (some ⟨b, 0, none⟩), .agg #[.int .i64 (dvIm x y).n, .int .i64 (dvIm x y).d], .agg #[.int .i64 ((sqF y).inv).n, .int .i64 ((sqF y).inv).d]] W fun e w' => e = .returned (.agg #[.int .i64 (tmF (dvIm x y) (sqF y).inv).n, .int .i64 (tmF (dvIm x y) (sqF y).inv).d]) ∧ RkSt b (fl || tmB (dvIm x y) (sqF y).inv) w' ∧ W.grownBy w' (some b)) := fun h1 h2 b fl W h => times_any b fl _ _ W (plF_ok (tmF_ok hx.2 hy.1) (tmF_ok hx.1 hy.2).neg) (hI h1 h2) h
  have HQ : Hid (sqB y = (((false || tmB y.re y.re) || tmB y.im y.im) || plB (tmF y.re y.re) (tmF y.im y.im))) := by
    show sqB y = _
    rw [Bool.false_or]
    rfl
  have HO : Hid (y.zero = false → sqB y = false → divV aZ aB x y = outV aB ((((((((false || tmB x.re y.re) || tmB x.im y.im) || plB (tmF x.re y.re) (tmF x.im y.im)) || tmB (dvRe x y) (sqF y).inv) || tmB x.im y.re) || tmB x.re y.im) || plB (tmF x.im y.re) (tmF x.re y.im).neg) || tmB (dvIm x y) (sqF y).inv) ⟨tmF (dvRe x y) (sqF y).inv, tmF (dvIm x y) (sqF y).inv⟩) := by
    intro h1 h2
    unfold divV
    rw [h1, h2, Bool.false_or, Bool.false_or]
    rfl
  have HB : Hid (y.zero = false → sqB y = true → divV aZ aB x y = .tuple #[.agg #[.int .i64 0, .int .i64 0, .int .i64 0, .int .i64 0], .iface 285 (.pointer (some aB))]) := by
    intro h1 h2
    unfold divV outV
    rw [h1, h2]
    rfl
  have HZ : Hid (y.zero = true → divV aZ aB x y = .tuple #[.agg #[.int .i64 0, .int .i64 0, .int .i64 0, .int .i64 0], .iface 285 (.pointer (some aZ))]) := by
    intro h1
    unfold divV
    rw [h1]
    rfl
  have HY : Hid (y.zero = (y.re.n == 0 && y.im.n == 0)) := rfl
  have HI2 : Hid ((sqF y).inv = ⟨(sqF y).d, (sqF y).n⟩) := rfl
  generalize divV aZ aB x y = V at *
  generalize tmF (dvRe x y) (sqF y).inv = G4 at *
  generalize tmB (dvRe x y) (sqF y).inv = H4 at *
  generalize tmF (dvIm x y) (sqF y).inv = G8 at *
  generalize tmB (dvIm x y) (sqF y).inv = H8 at *
  generalize (sqF y).inv = I at *
  generalize sqF y = S3 at *
  generalize sqB y = SB at *
  generalize dvRe x y = G3 at *
  generalize dvIm x y = G7 at *
  generalize plB (tmF x.im y.re) (tmF x.re y.im).neg = H7 at *
  generalize plB (tmF x.re y.re) (tmF x.im y.im) = H3 at *
  generalize plB (tmF y.re y.re) (tmF y.im y.im) = B3 at *
  generalize tmF y.re y.re = S1 at *
  generalize tmF y.im y.im = S2 at *
  generalize tmB y.re y.re = B1 at *
  generalize tmB y.im y.im = B2 at *
  generalize tmF x.re y.re = G1 at *
  generalize tmF x.im y.im = G2 at *
  generalize tmF x.im y.re = G5 at *
  generalize tmF x.re y.im = G6 at *
  generalize tmB x.re y.re = H1 at *
  generalize tmB x.im y.im = H2 at *
  generalize tmB x.im y.re = H5 at *
  generalize tmB x.re y.im = H6 at *
  have HS : Hid (Sen N aZ aB w) := hS
  clear hx hy hS hI
  go_enter Tryz.func171, Tryz.ntmps171
  go_upto_region 1 with fail
  have h3 := Tri.new w x y
  generalize ((w.alloc _).alloc _).alloc _ = W at *
  go_cut [18] (fun s18 wc => s18 = .bool y.zero ∧ Tri w x y wc)
  case first =>
    obtain ⟨y0, y1, y2, y3⟩ := four_cells h3.hy
    by_cases hre : y.re.n = 0
    · have HRE := hidMk hre
      clear hre
      go_wp2_with fail
      refine (isZero_any y.re _).mono ?_
      rintro e w1 ⟨rfl, hb1⟩
      rw [show (y.re.n == 0) = true by simpa using HRE.out]
      have h31 := h3.below hb1
      obtain ⟨y0', y1', y2', y3'⟩ := four_cells h31.hy
      have H31 := hidMk h31
      clear h31 h3
      go_wp2_with fail
      refine (isZero_any y.im _).mono ?_
      rintro e w2 ⟨rfl, hb2⟩
      go_wp2_with fail
      go_meet
      case rel => exact ⟨congrArg Value.bool (by rw [HY.out, show (y.re.n == 0) = true by simpa using HRE.out]; rfl), H31.out.below hb2⟩
    · have HRE := hidMk hre
      clear hre
      go_wp2_with fail
      refine (isZero_any y.re _).mono ?_
      rintro e w1 ⟨rfl, hb1⟩
      rw [show (y.re.n == 0) = false by simpa using HRE.out]
      have H31 := hidMk (h3.below hb1)
      clear h3
      go_wp2_with fail
      go_meet
      case rel => exact ⟨congrArg Value.bool (by rw [HY.out, show (y.re.n == 0) = false by simpa using HRE.out]; rfl), H31.out⟩
  case rest =>
    obtain ⟨rfl, h3'⟩ := hcut
    clear h3
    have hS' := HS.out.below h3'.hb hN
    by_cases hz : y.zero = true
    · rw [hz]
      have gz := hS'.z
      have hl := HS.out.lt.1
      have gz0 : ∀ v, (wc.setCell ⟨w.heap.size + 1 + 1, 0, none⟩ v).cell? ⟨2, 0, none⟩ = some (.iface 285 (.pointer (some aZ))) := fun v => (World.cell?_setCell_other _ _ _ _ (by intro e; injection e with e1; omega)).trans gz
      clear hl
      obtain ⟨z0, z1, z2, z3⟩ := four_cells h3'.hz
      obtain ⟨f0, f1, f2, f3⟩ := four_frozen h3'.hz
      have H3 := hidMk h3'
      have HZ1 := hidMk (HZ.out hz)
      clear h3' hz hS'
      go_wp2_with fail
      go_region
      go_wp2_with fail
      refine bodyPost_ret (v := .tuple #[.agg #[.int .i64 0, .int .i64 0, .int .i64 0, .int .i64 0], .iface 285 (.pointer (some aZ))]) (by simp [results, Tryz.results171, go_sem, z0, z1, z2, z3]) rfl ?_
      rw [HZ1.out]
      exact ⟨rfl, (below_four H3.out.hb.drew (by omega) _ _ _ _)⟩
    · have hz' : y.zero = false := by simpa using hz
      rw [hz']
      have HZ2 := hidMk hz'
      clear hz hz' hS'
      go_wp2_with fail
      have h4 := h3'.rek
      generalize wc.alloc _ = W4 at *
      refine region_inv (nt := 72)
        (fun s => match s with
          | 0 => .agg #[.int .i64 x.re.n, .int .i64 x.re.d, .int .i64 x.im.n, .int .i64 x.im.d]
          | 1 => .agg #[.int .i64 y.re.n, .int .i64 y.re.d, .int .i64 y.im.n, .int .i64 y.im.d]
          | 2 => .pointer (some ⟨w.heap.size, 0, none⟩)
          | 3 => .pointer (some ⟨w.heap.size + 1, 0, none⟩)
          | 4 => .pointer (some ⟨w.heap.size + 1 + 1, 0, none⟩)
          | 5 => .nilIface
          | 6 => .pointer (some ⟨wc.heap.size, 0, none⟩)
          | 11 => u11
          | 12 => u12
          | 13 => u13
          | 14 => u14
          | 15 => u15
          | 16 => u16
          | 17 => u17
          | 18 => .bool false
          | 19 => u19
          | 20 => u20
          | 21 => u21
          | 22 => u22
          | 23 => u23
          | 24 => u24
          | 25 => u25
          | 26 => u26
          | 27 => u27
          | 28 => u28
          | 29 => u29
          | 30 => u30
          | 31 => u31
          | 32 => u32
          | 33 => u33
          | 34 => u34
          | 35 => u35
          | 36 => u36
          | 37 => u37
          | 38 => u38
          | 39 => u39
          | 40 => u40
          | 41 => u41
          | 42 => u42
          | 43 => u43
          | 44 => u44
          | 45 => u45
          | 46 => u46
          | 47 => u47
          | 48 => u48
          | 49 => u49
          | 50 => u50
          | 51 => u51
          | 52 => u52
          | 53 => u53
          | 54 => u54
          | 55 => u55
          | 56 => u56
          | 57 => u57
          | 58 => u58
          | 59 => u59
          | 60 => u60
          | 61 => u61
          | 62 => u62
          | 63 => u63
          | 64 => u64
          | 65 => u65
          | 66 => u66
          | 67 => u67
          | 68 => u68
          | 69 => u69
          | 70 => u70
          | 71 => u71
          | s => undef)
        (fun k v => match k with
          | 0 => v = .pointer (some ⟨w.heap.size + 1, 0, none⟩)
          | 1 => v = .agg #[.int .i64 (y.re).n, .int .i64 (y.re).d]
          | 2 => v = .pointer (some ⟨w.heap.size + 1, 0, none⟩)
          | 3 => v = .agg #[.int .i64 (y.re).n, .int .i64 (y.re).d]
          | 4 => v = .agg #[.int .i64 (S1).n, .int .i64 (S1).d]
          | 5 => v = .pointer (some ⟨w.heap.size + 1, 2, none⟩)
          | 6 => v = .agg #[.int .i64 (y.im).n, .int .i64 (y.im).d]
          | 7 => v = .pointer (some ⟨w.heap.size + 1, 2, none⟩)
          | 8 => v = .agg #[.int .i64 (y.im).n, .int .i64 (y.im).d]
          | 9 => v = .agg #[.int .i64 (S2).n, .int .i64 (S2).d]
          | 10 => v = .agg #[.int .i64 (S3).n, .int .i64 (S3).d]
          | _ => True)
        (fun b u w' => Hid (Rek w (wc.heap.size) x y ([] : List (Nat × Fr)) (if b 10 = true then (((false || B1) || B2) || B3) else (if b 9 = true then ((false || B1) || B2) else (if b 4 = true then (false || B1) else false))) w' ∧ (b 9 = true → b 4 = true) ∧ (b 10 = true → b 9 = true) ∧ (b 12 = true → b 11 = true) ∧
          (b 11 = true → ∃ B, u 7 = .pointer (some ⟨B, 0, none⟩) ∧ (wc.heap.size) < B ∧ (∀ q ∈ ([] : List (Nat × Fr)), q.1 < B) ∧ w'.heap[B]? = some (.cells (if b 12 = true then #[.int .i64 (S3).n, .int .i64 (S3).d] else #[.int .i64 0, .int .i64 0]) 80 (0, 0)))))
        rfl (by kernel_rfl) (by kernel_rfl) (by kernel_rfl) ⟨h4.drew, fun h => h, fun h => h, fun h => h, fun h => by cases h⟩ ?_ ?_
      · intro i o b u w' ho hbi hall hU hW K hK
        have hA : actOf 72 u = ⟨#[u 0, u 1, u 2, u 3, u 4, u 5, u 6, u 7, u 8, u 9, u 10, u 11, u 12, u 13, u 14, u 15, u 16, u 17, u 18, u 19, u 20, u 21, u 22, u 23, u 24, u 25, u 26, u 27, u 28, u 29, u 30, u 31, u 32, u 33, u 34, u 35, u 36, u 37, u 38, u 39, u 40, u 41, u 42, u 43, u 44, u 45, u 46, u 47, u 48, u 49, u 50, u 51, u 52, u 53, u 54, u 55, u 56, u 57, u 58, u 59, u 60, u 61, u 62, u 63, u 64, u 65, u 66, u 67, u 68, u 69, u 70, u 71], []⟩ := rfl
        rw [hA] at hK ⊢
        have c3 : u 3 = .pointer (some ⟨w.heap.size + 1, 0, none⟩) := hU.oldB 3 (by kernel_rfl)
        have c6 : u 6 = .pointer (some ⟨wc.heap.size, 0, none⟩) := hU.oldB 6 (by kernel_rfl)
        have got := hU.got
        clear hU hA h4
        obtain ⟨hF, hc0, hc1, hst, hal⟩ := hW.out
        obtain ⟨x0, x1, x2, x3⟩ := four_cells hF.hx
        obtain ⟨y0, y1, y2, y3⟩ := four_cells hF.hy
        have HC0 : Hid (b 9 = true → b 4 = true) := hc0
        have HC1 : Hid (b 10 = true → b 9 = true) := hc1
        have HST : Hid (b 12 = true → b 11 = true) := hst
        have HAL := hidMk hal
        have HKK := hidMk hK
        have HF := hidMk hF
        clear hK hF hW hc0 hc1 hst hal
        rcases i with _ | _ | _ | _ | _ | _ | _ | _ | _ | _ | _ | _ | _ | i
        · cases ho
          go_simp
          exact HKK.out _ _ _ (by rw [c3, c6]; rfl) (fun _ => rfl) ⟨HF.out, HC0.out, HC1.out, HST.out, HAL.out⟩
        · cases ho
          have g21 : u 21 = .pointer (some ⟨w.heap.size + 1, 0, none⟩) := got 0 21 rfl (hall ⟨0, .data⟩ (by simp) rfl)
          go_simp
          exact HKK.out _ _ _ (by rw [c3, c6, g21]; rfl) (fun _ => rfl) ⟨HF.out, HC0.out, HC1.out, HST.out, HAL.out⟩
        · cases ho
          go_simp
          exact HKK.out _ _ _ (by rw [c3, c6]; rfl) (fun _ => rfl) ⟨HF.out, HC0.out, HC1.out, HST.out, HAL.out⟩
        · cases ho
          have g23 : u 23 = .pointer (some ⟨w.heap.size + 1, 0, none⟩) := got 2 23 rfl (hall ⟨2, .data⟩ (by simp) rfl)
          go_simp
          exact HKK.out _ _ _ (by rw [c3, c6, g23]; rfl) (fun _ => rfl) ⟨HF.out, HC0.out, HC1.out, HST.out, HAL.out⟩
        · cases ho
          have g22 : u 22 = .agg #[.int .i64 (y.re).n, .int .i64 (y.re).d] := got 1 22 rfl (hall ⟨1, .data⟩ (by simp) rfl)
          have g24 : u 24 = .agg #[.int .i64 (y.re).n, .int .i64 (y.re).d] := got 3 24 rfl (hall ⟨3, .data⟩ (by simp) rfl)
          have n9 : b 9 = false := by
            cases h : b 9 with
            | false => rfl
            | true => rw [HC0.out h] at hbi; cases hbi
          have n10 : b 10 = false := by
            cases h : b 10 with
            | false => rfl
            | true => rw [HC1.out h] at n9; cases n9
          have hfl : (if b 10 = true then (((false || B1) || B2) || B3) else (if b 9 = true then ((false || B1) || B2) else (if b 4 = true then (false || B1) else false))) = false := by simp [n9, n10, hbi]
          have hfl2 : (if upB b 4 10 = true then (((false || B1) || B2) || B3) else (if upB b 4 9 = true then ((false || B1) || B2) else (if upB b 4 4 = true then (false || B1) else false))) = (false || B1) := by simp [upB, n9, n10]
          have hr := HF.out.hr
          rw [hfl] at hr
          have HR := hidMk hr
          have HFL := hidMk hfl2
          clear hr hfl hfl2
          go_simp
          refine (C1.out _ _ _ HR.out).mono ?_
          rintro e w2 ⟨rfl, hr2, hg2⟩
          refine HKK.out _ _ _ (by rw [c3, c6, g22, g24]; rfl) (fun _ => rfl) ⟨?_, ?_⟩
          · rw [HFL.out]; exact HF.out.grown hg2 hr2
          refine ⟨fun _ => rfl, HC1.out, HST.out, fun h => ?_⟩
          obtain ⟨B, q1, q2, q3, q4⟩ := HAL.out h
          exact ⟨B, q1, q2, q3, (hg2.block B (Array.getElem?_eq_some_iff.1 q4).1 (by simp; omega)).trans q4⟩
        · cases ho
          go_simp
          exact HKK.out _ _ _ (by rw [c3, c6]; rfl) (fun _ => rfl) ⟨HF.out, HC0.out, HC1.out, HST.out, HAL.out⟩
        · cases ho
          have g26 : u 26 = .pointer (some ⟨w.heap.size + 1, 2, none⟩) := got 5 26 rfl (hall ⟨5, .data⟩ (by simp) rfl)
          go_simp
          exact HKK.out _ _ _ (by rw [c3, c6, g26]; rfl) (fun _ => rfl) ⟨HF.out, HC0.out, HC1.out, HST.out, HAL.out⟩
        · cases ho
          go_simp
          exact HKK.out _ _ _ (by rw [c3, c6]; rfl) (fun _ => rfl) ⟨HF.out, HC0.out, HC1.out, HST.out, HAL.out⟩
        · cases ho
          have g28 : u 28 = .pointer (some ⟨w.heap.size + 1, 2, none⟩) := got 7 28 rfl (hall ⟨7, .data⟩ (by simp) rfl)
          go_simp
          exact HKK.out _ _ _ (by rw [c3, c6, g28]; rfl) (fun _ => rfl) ⟨HF.out, HC0.out, HC1.out, HST.out, HAL.out⟩
        · cases ho
          have g27 : u 27 = .agg #[.int .i64 (y.im).n, .int .i64 (y.im).d] := got 6 27 rfl (hall ⟨6, .data⟩ (by simp) rfl)
          have g29 : u 29 = .agg #[.int .i64 (y.im).n, .int .i64 (y.im).d] := got 8 29 rfl (hall ⟨8, .data⟩ (by simp) rfl)
          have n10 : b 10 = false := by
            cases h : b 10 with
            | false => rfl
            | true => rw [HC1.out h] at hbi; cases hbi
          have y4 : b 4 = true := hall ⟨4, .chain⟩ (by simp) rfl
          have hfl : (if b 10 = true then (((false || B1) || B2) || B3) else (if b 9 = true then ((false || B1) || B2) else (if b 4 = true then (false || B1) else false))) = (false || B1) := by simp [n10, hbi, y4]
          have hfl2 : (if upB b 9 10 = true then (((false || B1) || B2) || B3) else (if upB b 9 9 = true then ((false || B1) || B2) else (if upB b 9 4 = true then (false || B1) else false))) = ((false || B1) || B2) := by simp [upB, n10]
          have hr := HF.out.hr
          rw [hfl] at hr
          have HR := hidMk hr
          have HFL := hidMk hfl2
          clear hr hfl hfl2
          go_simp
          refine (C2.out _ _ _ HR.out).mono ?_
          rintro e w2 ⟨rfl, hr2, hg2⟩
          refine HKK.out _ _ _ (by rw [c3, c6, g27, g29]; rfl) (fun _ => rfl) ⟨?_, ?_⟩
          · rw [HFL.out]; exact HF.out.grown hg2 hr2
          refine ⟨fun _ => y4, fun _ => rfl, HST.out, fun h => ?_⟩
          obtain ⟨B, q1, q2, q3, q4⟩ := HAL.out h
          exact ⟨B, q1, q2, q3, (hg2.block B (Array.getElem?_eq_some_iff.1 q4).1 (by simp; omega)).trans q4⟩
        · cases ho
          have g25 : u 25 = .agg #[.int .i64 (S1).n, .int .i64 (S1).d] := got 4 25 rfl (hall ⟨4, .data⟩ (by simp) rfl)
          have g30 : u 30 = .agg #[.int .i64 (S2).n, .int .i64 (S2).d] := got 9 30 rfl (hall ⟨9, .data⟩ (by simp) rfl)
          have y9 : b 9 = true := hall ⟨9, .chain⟩ (by simp) rfl
          have hfl : (if b 10 = true then (((false || B1) || B2) || B3) else (if b 9 = true then ((false || B1) || B2) else (if b 4 = true then (false || B1) else false))) = ((false || B1) || B2) := by simp [hbi, y9]
          have hfl2 : (if upB b 10 10 = true then (((false || B1) || B2) || B3) else (if upB b 10 9 = true then ((false || B1) || B2) else (if upB b 10 4 = true then (false || B1) else false))) = (((false || B1) || B2) || B3) := by simp [upB, ]
          have hr := HF.out.hr
          rw [hfl] at hr
          have HR := hidMk hr
          have HFL := hidMk hfl2
          clear hr hfl hfl2
          go_simp
          refine (C3.out _ _ _ HR.out).mono ?_
          rintro e w2 ⟨rfl, hr2, hg2⟩
          refine HKK.out _ _ _ (by rw [c3, c6, g25, g30]; rfl) (fun _ => rfl) ⟨?_, ?_⟩
          · rw [HFL.out]; exact HF.out.grown hg2 hr2
          refine ⟨HC0.out, fun _ => y9, HST.out, fun h => ?_⟩
          obtain ⟨B, q1, q2, q3, q4⟩ := HAL.out h
          exact ⟨B, q1, q2, q3, (hg2.block B (Array.getElem?_eq_some_iff.1 q4).1 (by simp; omega)).trans q4⟩
        · cases ho
          have ns : b 12 = false := by
            cases h : b 12 with
            | false => rfl
            | true => rw [HST.out h] at hbi; cases hbi
          have NS := hidMk ns
          clear ns
          go_simp
          refine HKK.out _ _ _ (by rw [c3, c6]; rfl) (fun _ => trivial) ⟨HF.out.below (fr_below w' _), HC0.out, HC1.out, fun _ => rfl, fun _ => ⟨w'.heap.size, rfl, HF.out.hr.lt, fun q hq => (Array.getElem?_eq_some_iff.1 (HF.out.hex q hq).2).1, ?_⟩⟩
          have e : (if upB b 11 12 = true then (#[.int .i64 (S3).n, .int .i64 (S3).d] : Array Value) else #[.int .i64 0, .int .i64 0]) = #[.int .i64 0, .int .i64 0] := by simp [upB, NS.out]
          rw [e]
          exact heap_alloc_new w' _
        · cases ho
          have g31 : u 31 = .agg #[.int .i64 (S3).n, .int .i64 (S3).d] := got 10 31 rfl (hall ⟨10, .data⟩ (by simp) rfl)
          obtain ⟨B, q1, q2, q3, q4⟩ := HAL.out (hall ⟨11, .data⟩ (by simp) rfl)
          rw [if_neg (by rw [hbi]; decide)] at q4
          obtain ⟨s0, s1, fs0, fs1⟩ := two_cells q4
          have Q4 := hidMk q4
          have YA : Hid (b 11 = true) := hall ⟨11, .data⟩ (by simp) rfl
          clear q4
          go_simp
          refine HKK.out undef _ _ (by rw [c3, c6, g31, q1]; rfl) (fun h => by cases h) ⟨?_, HC0.out, HC1.out, fun _ => YA.out, fun _ => ⟨B, q1, q2, q3, ?_⟩⟩
          · exact HF.out.set q2 q3 _ _
          · exact two_set Q4.out _ _
        · simp at ho
      · intro b1 u1 w1 hb1 hU1 hW1
        obtain ⟨hF1, _, _, _, hal1⟩ := hW1.out
        obtain ⟨Bsz, q1, q2, _, q4⟩ := hal1 (hb1 11 (by decide))
        rw [if_pos (hb1 12 (by decide))] at q4
        rw [if_pos (hb1 10 (by decide)), ← HQ.out] at hF1
        have k2 : u1 2 = .pointer (some ⟨w.heap.size, 0, none⟩) := hU1.oldB 2 (by kernel_rfl)
        have k3 : u1 3 = .pointer (some ⟨w.heap.size + 1, 0, none⟩) := hU1.oldB 3 (by kernel_rfl)
        have k4 : u1 4 = .pointer (some ⟨w.heap.size + 1 + 1, 0, none⟩) := hU1.oldB 4 (by kernel_rfl)
        have k5 : u1 5 = .nilIface := hU1.oldB 5 (by kernel_rfl)
        have k6 : u1 6 = .pointer (some ⟨wc.heap.size, 0, none⟩) := hU1.oldB 6 (by kernel_rfl)
        have hA1 : actOf 72 u1 = ⟨#[u1 0, u1 1, u1 2, u1 3, u1 4, u1 5, u1 6, u1 7, u1 8, u1 9, u1 10, u1 11, u1 12, u1 13, u1 14, u1 15, u1 16, u1 17, u1 18, u1 19, u1 20, u1 21, u1 22, u1 23, u1 24, u1 25, u1 26, u1 27, u1 28, u1 29, u1 30, u1 31, u1 32, u1 33, u1 34, u1 35, u1 36, u1 37, u1 38, u1 39, u1 40, u1 41, u1 42, u1 43, u1 44, u1 45, u1 46, u1 47, u1 48, u1 49, u1 50, u1 51, u1 52, u1 53, u1 54, u1 55, u1 56, u1 57, u1 58, u1 59, u1 60, u1 61, u1 62, u1 63, u1 64, u1 65, u1 66, u1 67, u1 68, u1 69, u1 70, u1 71], []⟩ := rfl
        rw [hA1, k2, k3, k4, k5, k6, q1]
        obtain ⟨t0, t1, _, _⟩ := two_cells q4
        obtain ⟨r0, fr0⟩ := hF1.hr.cells
        have HF1 := hidMk hF1
        clear hA1 k2 k3 k4 k5 k6 q1 hW1 hU1 hb1 hal1 q2 q4 h4 h3' hF1
        by_cases hsb : SB = true
        · rw [hsb] at r0
          have gb := (HS.out.below HF1.out.hb hN).b
          have hl := HS.out.lt.1
          have gb0 : ∀ v, (w1.setCell ⟨w.heap.size + 1 + 1, 0, none⟩ v).cell? ⟨4, 0, none⟩ = some (.iface 285 (.pointer (some aB))) := fun v => (World.cell?_setCell_other _ _ _ _ (by intro e; injection e with e1; omega)).trans gb
          clear hl
          obtain ⟨z0, z1, z2, z3⟩ := four_cells HF1.out.hz
          obtain ⟨f0, f1, f2, f3⟩ := four_frozen HF1.out.hz
          have HB1 := hidMk (HB.out HZ2.out hsb)
          clear hsb
          go_wp2_with fail
          go_region
          go_wp2_with fail
          refine bodyPost_ret (v := .tuple #[.agg #[.int .i64 0, .int .i64 0, .int .i64 0, .int .i64 0], .iface 285 (.pointer (some aB))]) (by simp [results, Tryz.results171, go_sem, z0, z1, z2, z3]) rfl ?_
          rw [HB1.out]
          exact ⟨rfl, (below_four HF1.out.hb.drew (by omega) _ _ _ _)⟩
        · have hsb' : SB = false := by simpa using hsb
          rw [hsb'] at r0 HF1
          have HSB := hidMk hsb'
          have E4' := hidMk (E4.out HZ2.out hsb')
          have E8' := hidMk (E8.out HZ2.out hsb')
          have HO1 := hidMk (HO.out HZ2.out hsb')
          have h4 : Rek w (wc.heap.size) x y [(w1.heap.size, I)] false (w1.alloc (.cells #[.int .i64 S3.d, .int .i64 S3.n] 80)) := (HF1.out.below (fr_below w1 _)).more HF1.out.hr.lt (by rw [HI2.out]; exact heap_alloc_new w1 _)
          have H4' := hidMk h4
          clear hsb hsb' E4 E8 HO HB HZ HQ C1 C2 C3 h4 HF1
          go_wp2_with fail
          have h4 := H4'.out
          clear H4'
          generalize w1.alloc _ = W5 at *
          refine region_inv (nt := 72)
            (fun s => match s with
              | 2 => .pointer (some ⟨w.heap.size, 0, none⟩)
              | 3 => .pointer (some ⟨w.heap.size + 1, 0, none⟩)
              | 4 => .pointer (some ⟨w.heap.size + 1 + 1, 0, none⟩)
              | 5 => .nilIface
              | 6 => .pointer (some ⟨wc.heap.size, 0, none⟩)
              | 7 => .pointer (some ⟨Bsz, 0, none⟩)
              | 8 => .pointer (some ⟨w1.heap.size, 0, none⟩)
              | 32 => .pointer (some ⟨wc.heap.size, 0, none⟩)
              | 33 => .bool false
              | 36 => .pointer (some ⟨Bsz, 1, none⟩)
              | 37 => .int .i64 S3.d
              | 38 => .pointer (some ⟨Bsz, 0, none⟩)
              | 39 => .int .i64 S3.n
              | 40 => .agg #[.int .i64 S3.d, .int .i64 S3.n]
              | s => u1 s)
            (fun k v => match k with
              | 0 => v = .pointer (some ⟨w.heap.size, 0, none⟩)
              | 1 => v = .agg #[.int .i64 (x.re).n, .int .i64 (x.re).d]
              | 2 => v = .pointer (some ⟨w.heap.size + 1, 0, none⟩)
              | 3 => v = .agg #[.int .i64 (y.re).n, .int .i64 (y.re).d]
              | 4 => v = .agg #[.int .i64 (G1).n, .int .i64 (G1).d]
              | 5 => v = .pointer (some ⟨w.heap.size, 2, none⟩)
              | 6 => v = .agg #[.int .i64 (x.im).n, .int .i64 (x.im).d]
              | 7 => v = .pointer (some ⟨w.heap.size + 1, 2, none⟩)
              | 8 => v = .agg #[.int .i64 (y.im).n, .int .i64 (y.im).d]
              | 9 => v = .agg #[.int .i64 (G2).n, .int .i64 (G2).d]
              | 10 => v = .agg #[.int .i64 (G3).n, .int .i64 (G3).d]
              | 11 => v = .agg #[.int .i64 (I).n, .int .i64 (I).d]
              | 12 => v = .agg #[.int .i64 (G4).n, .int .i64 (G4).d]
              | _ => True)
            (fun b u w' => Hid (Rek w (wc.heap.size) x y ([(w1.heap.size, I)] : List (Nat × Fr)) (if b 12 = true then ((((false || H1) || H2) || H3) || H4) else (if b 10 = true then (((false || H1) || H2) || H3) else (if b 9 = true then ((false || H1) || H2) else (if b 4 = true then (false || H1) else false)))) w' ∧ (b 9 = true → b 4 = true) ∧ (b 10 = true → b 9 = true) ∧ (b 12 = true → b 10 = true) ∧ (b 14 = true → b 13 = true) ∧
              (b 13 = true → ∃ B, u 9 = .pointer (some ⟨B, 0, none⟩) ∧ (wc.heap.size) < B ∧ (∀ q ∈ ([(w1.heap.size, I)] : List (Nat × Fr)), q.1 < B) ∧ w'.heap[B]? = some (.cells (if b 14 = true then #[.int .i64 (G4).n, .int .i64 (G4).d] else #[.int .i64 0, .int .i64 0]) 80 (0, 0)))))
            rfl (by kernel_rfl) (by kernel_rfl) (by kernel_rfl) ⟨h4.drew, fun h => h, fun h => h, fun h => h, fun h => h, fun h => by cases h⟩ ?_ ?_
          · intro i o b u w' ho hbi hall hU hW K hK
            have hA : actOf 72 u = ⟨#[u 0, u 1, u 2, u 3, u 4, u 5, u 6, u 7, u 8, u 9, u 10, u 11, u 12, u 13, u 14, u 15, u 16, u 17, u 18, u 19, u 20, u 21, u 22, u 23, u 24, u 25, u 26, u 27, u 28, u 29, u 30, u 31, u 32, u 33, u 34, u 35, u 36, u 37, u 38, u 39, u 40, u 41, u 42, u 43, u 44, u 45, u 46, u 47, u 48, u 49, u 50, u 51, u 52, u 53, u 54, u 55, u 56, u 57, u 58, u 59, u 60, u 61, u 62, u 63, u 64, u 65, u 66, u 67, u 68, u 69, u 70, u 71], []⟩ := rfl
            rw [hA] at hK ⊢
            have c2 : u 2 = .pointer (some ⟨w.heap.size, 0, none⟩) := hU.oldB 2 (by kernel_rfl)
            have c3 : u 3 = .pointer (some ⟨w.heap.size + 1, 0, none⟩) := hU.oldB 3 (by kernel_rfl)
            have c6 : u 6 = .pointer (some ⟨wc.heap.size, 0, none⟩) := hU.oldB 6 (by kernel_rfl)
            have c8 : u 8 = .pointer (some ⟨w1.heap.size, 0, none⟩) := hU.oldB 8 (by kernel_rfl)
            have got := hU.got
            clear hU hA h4
            obtain ⟨hF, hc0, hc1, hc2, hst, hal⟩ := hW.out
            obtain ⟨x0, x1, x2, x3⟩ := four_cells hF.hx
            obtain ⟨y0, y1, y2, y3⟩ := four_cells hF.hy
            obtain ⟨ex00, ex01, _, _⟩ := two_cells (hF.hex (w1.heap.size, I) (by simp)).2
            have HC0 : Hid (b 9 = true → b 4 = true) := hc0
            have HC1 : Hid (b 10 = true → b 9 = true) := hc1
            have HC2 : Hid (b 12 = true → b 10 = true) := hc2
            have HST : Hid (b 14 = true → b 13 = true) := hst
            have HAL := hidMk hal
            have HKK := hidMk hK
            have HF := hidMk hF
            clear hK hF hW hc0 hc1 hc2 hst hal
            rcases i with _ | _ | _ | _ | _ | _ | _ | _ | _ | _ | _ | _ | _ | _ | _ | i
            · cases ho
              go_simp
              exact HKK.out _ _ _ (by rw [c2, c3, c6, c8]; rfl) (fun _ => rfl) ⟨HF.out, HC0.out, HC1.out, HC2.out, HST.out, HAL.out⟩
            · cases ho
              have g41 : u 41 = .pointer (some ⟨w.heap.size, 0, none⟩) := got 0 41 rfl (hall ⟨0, .data⟩ (by simp) rfl)
              go_simp
              exact HKK.out _ _ _ (by rw [c2, c3, c6, c8, g41]; rfl) (fun _ => rfl) ⟨HF.out, HC0.out, HC1.out, HC2.out, HST.out, HAL.out⟩
            · cases ho
              go_simp
              exact HKK.out _ _ _ (by rw [c2, c3, c6, c8]; rfl) (fun _ => rfl) ⟨HF.out, HC0.out, HC1.out, HC2.out, HST.out, HAL.out⟩
            · cases ho
              have g43 : u 43 = .pointer (some ⟨w.heap.size + 1, 0, none⟩) := got 2 43 rfl (hall ⟨2, .data⟩ (by simp) rfl)
              go_simp
              exact HKK.out _ _ _ (by rw [c2, c3, c6, c8, g43]; rfl) (fun _ => rfl) ⟨HF.out, HC0.out, HC1.out, HC2.out, HST.out, HAL.out⟩
            · cases ho
              have g42 : u 42 = .agg #[.int .i64 (x.re).n, .int .i64 (x.re).d] := got 1 42 rfl (hall ⟨1, .data⟩ (by simp) rfl)
              have g44 : u 44 = .agg #[.int .i64 (y.re).n, .int .i64 (y.re).d] := got 3 44 rfl (hall ⟨3, .data⟩ (by simp) rfl)
              have n9 : b 9 = false := by
                cases h : b 9 with
                | false => rfl
                | true => rw [HC0.out h] at hbi; cases hbi
              have n10 : b 10 = false := by
                cases h : b 10 with
                | false => rfl
                | true => rw [HC1.out h] at n9; cases n9
              have n12 : b 12 = false := by
                cases h : b 12 with
                | false => rfl
                | true => rw [HC2.out h] at n10; cases n10
              have hfl : (if b 12 = true then ((((false || H1) || H2) || H3) || H4) else (if b 10 = true then (((false || H1) || H2) || H3) else (if b 9 = true then ((false || H1) || H2) else (if b 4 = true then (false || H1) else false)))) = false := by simp [n9, n10, n12, hbi]
              have hfl2 : (if upB b 4 12 = true then ((((false || H1) || H2) || H3) || H4) else (if upB b 4 10 = true then (((false || H1) || H2) || H3) else (if upB b 4 9 = true then ((false || H1) || H2) else (if upB b 4 4 = true then (false || H1) else false)))) = (false || H1) := by simp [upB, n9, n10, n12]
              have hr := HF.out.hr
              rw [hfl] at hr
              have HR := hidMk hr
              have HFL := hidMk hfl2
              clear hr hfl hfl2
              go_simp
              refine (E1.out _ _ _ HR.out).mono ?_
              rintro e w2 ⟨rfl, hr2, hg2⟩
              refine HKK.out _ _ _ (by rw [c2, c3, c6, c8, g42, g44]; rfl) (fun _ => rfl) ⟨?_, ?_⟩
              · rw [HFL.out]; exact HF.out.grown hg2 hr2
              refine ⟨fun _ => rfl, HC1.out, HC2.out, HST.out, fun h => ?_⟩
              obtain ⟨B, q1, q2, q3, q4⟩ := HAL.out h
              exact ⟨B, q1, q2, q3, (hg2.block B (Array.getElem?_eq_some_iff.1 q4).1 (by simp; omega)).trans q4⟩
            · cases ho
              go_simp
              exact HKK.out _ _ _ (by rw [c2, c3, c6, c8]; rfl) (fun _ => rfl) ⟨HF.out, HC0.out, HC1.out, HC2.out, HST.out, HAL.out⟩
            · cases ho
              have g46 : u 46 = .pointer (some ⟨w.heap.size, 2, none⟩) := got 5 46 rfl (hall ⟨5, .data⟩ (by simp) rfl)
              go_simp
              exact HKK.out _ _ _ (by rw [c2, c3, c6, c8, g46]; rfl) (fun _ => rfl) ⟨HF.out, HC0.out, HC1.out, HC2.out, HST.out, HAL.out⟩
            · cases ho
              go_simp
              exact HKK.out _ _ _ (by rw [c2, c3, c6, c8]; rfl) (fun _ => rfl) ⟨HF.out, HC0.out, HC1.out, HC2.out, HST.out, HAL.out⟩
            · cases ho
              have g48 : u 48 = .pointer (some ⟨w.heap.size + 1, 2, none⟩) := got 7 48 rfl (hall ⟨7, .data⟩ (by simp) rfl)
              go_simp
              exact HKK.out _ _ _ (by rw [c2, c3, c6, c8, g48]; rfl) (fun _ => rfl) ⟨HF.out, HC0.out, HC1.out, HC2.out, HST.out, HAL.out⟩
            · cases ho
              have g47 : u 47 = .agg #[.int .i64 (x.im).n, .int .i64 (x.im).d] := got 6 47 rfl (hall ⟨6, .data⟩ (by simp) rfl)
              have g49 : u 49 = .agg #[.int .i64 (y.im).n, .int .i64 (y.im).d] := got 8 49 rfl (hall ⟨8, .data⟩ (by simp) rfl)
              have n10 : b 10 = false := by
                cases h : b 10 with
                | false => rfl
                | true => rw [HC1.out h] at hbi; cases hbi
              have n12 : b 12 = false := by
                cases h : b 12 with
                | false => rfl
                | true => rw [HC2.out h] at n10; cases n10
              have y4 : b 4 = true := hall ⟨4, .chain⟩ (by simp) rfl
              have hfl : (if b 12 = true then ((((false || H1) || H2) || H3) || H4) else (if b 10 = true then (((false || H1) || H2) || H3) else (if b 9 = true then ((false || H1) || H2) else (if b 4 = true then (false || H1) else false)))) = (false || H1) := by simp [n10, n12, hbi, y4]
              have hfl2 : (if upB b 9 12 = true then ((((false || H1) || H2) || H3) || H4) else (if upB b 9 10 = true then (((false || H1) || H2) || H3) else (if upB b 9 9 = true then ((false || H1) || H2) else (if upB b 9 4 = true then (false || H1) else false)))) = ((false || H1) || H2) := by simp [upB, n10, n12]
              have hr := HF.out.hr
              rw [hfl] at hr
              have HR := hidMk hr
              have HFL := hidMk hfl2
              clear hr hfl hfl2
              go_simp
              refine (E2.out _ _ _ HR.out).mono ?_
              rintro e w2 ⟨rfl, hr2, hg2⟩
              refine HKK.out _ _ _ (by rw [c2, c3, c6, c8, g47, g49]; rfl) (fun _ => rfl) ⟨?_, ?_⟩
              · rw [HFL.out]; exact HF.out.grown hg2 hr2
              refine ⟨fun _ => y4, fun _ => rfl, HC2.out, HST.out, fun h => ?_⟩
              obtain ⟨B, q1, q2, q3, q4⟩ := HAL.out h
              exact ⟨B, q1, q2, q3, (hg2.block B (Array.getElem?_eq_some_iff.1 q4).1 (by simp; omega)).trans q4⟩
            · cases ho
              have g45 : u 45 = .agg #[.int .i64 (G1).n, .int .i64 (G1).d] := got 4 45 rfl (hall ⟨4, .data⟩ (by simp) rfl)
              have g50 : u 50 = .agg #[.int .i64 (G2).n, .int .i64 (G2).d] := got 9 50 rfl (hall ⟨9, .data⟩ (by simp) rfl)
              have n12 : b 12 = false := by
                cases h : b 12 with
                | false => rfl
                | true => rw [HC2.out h] at hbi; cases hbi
              have y9 : b 9 = true := hall ⟨9, .chain⟩ (by simp) rfl
              have hfl : (if b 12 = true then ((((false || H1) || H2) || H3) || H4) else (if b 10 = true then (((false || H1) || H2) || H3) else (if b 9 = true then ((false || H1) || H2) else (if b 4 = true then (false || H1) else false)))) = ((false || H1) || H2) := by simp [n12, hbi, y9]
              have hfl2 : (if upB b 10 12 = true then ((((false || H1) || H2) || H3) || H4) else (if upB b 10 10 = true then (((false || H1) || H2) || H3) else (if upB b 10 9 = true then ((false || H1) || H2) else (if upB b 10 4 = true then (false || H1) else false)))) = (((false || H1) || H2) || H3) := by simp [upB, n12]
              have hr := HF.out.hr
              rw [hfl] at hr
              have HR := hidMk hr
              have HFL := hidMk hfl2
              clear hr hfl hfl2
              go_simp
              refine (E3.out _ _ _ HR.out).mono ?_
              rintro e w2 ⟨rfl, hr2, hg2⟩
              refine HKK.out _ _ _ (by rw [c2, c3, c6, c8, g45, g50]; rfl) (fun _ => rfl) ⟨?_, ?_⟩
              · rw [HFL.out]; exact HF.out.grown hg2 hr2
              refine ⟨HC0.out, fun _ => y9, fun _ => rfl, HST.out, fun h => ?_⟩
              obtain ⟨B, q1, q2, q3, q4⟩ := HAL.out h
              exact ⟨B, q1, q2, q3, (hg2.block B (Array.getElem?_eq_some_iff.1 q4).1 (by simp; omega)).trans q4⟩
            · cases ho
              go_simp
              exact HKK.out _ _ _ (by rw [c2, c3, c6, c8]; rfl) (fun _ => rfl) ⟨HF.out, HC0.out, HC1.out, HC2.out, HST.out, HAL.out⟩
            · cases ho
              have g51 : u 51 = .agg #[.int .i64 (G3).n, .int .i64 (G3).d] := got 10 51 rfl (hall ⟨10, .data⟩ (by simp) rfl)
              have g52 : u 52 = .agg #[.int .i64 (I).n, .int .i64 (I).d] := got 11 52 rfl (hall ⟨11, .data⟩ (by simp) rfl)
              have y10 : b 10 = true := hall ⟨10, .chain⟩ (by simp) rfl
              have hfl : (if b 12 = true then ((((false || H1) || H2) || H3) || H4) else (if b 10 = true then (((false || H1) || H2) || H3) else (if b 9 = true then ((false || H1) || H2) else (if b 4 = true then (false || H1) else false)))) = (((false || H1) || H2) || H3) := by simp [hbi, y10]
              have hfl2 : (if upB b 12 12 = true then ((((false || H1) || H2) || H3) || H4) else (if upB b 12 10 = true then (((false || H1) || H2) || H3) else (if upB b 12 9 = true then ((false || H1) || H2) else (if upB b 12 4 = true then (false || H1) else false)))) = ((((false || H1) || H2) || H3) || H4) := by simp [upB, ]
              have hr := HF.out.hr
              rw [hfl] at hr
              have HR := hidMk hr
              have HFL := hidMk hfl2
              clear hr hfl hfl2
              go_simp
              refine (E4'.out _ _ _ HR.out).mono ?_
              rintro e w2 ⟨rfl, hr2, hg2⟩
              refine HKK.out _ _ _ (by rw [c2, c3, c6, c8, g51, g52]; rfl) (fun _ => rfl) ⟨?_, ?_⟩
              · rw [HFL.out]; exact HF.out.grown hg2 hr2
              refine ⟨HC0.out, HC1.out, fun _ => y10, HST.out, fun h => ?_⟩
              obtain ⟨B, q1, q2, q3, q4⟩ := HAL.out h
              exact ⟨B, q1, q2, q3, (hg2.block B (Array.getElem?_eq_some_iff.1 q4).1 (by simp; omega)).trans q4⟩
            · cases ho
              have ns : b 14 = false := by
                cases h : b 14 with
                | false => rfl
                | true => rw [HST.out h] at hbi; cases hbi
              have NS := hidMk ns
              clear ns
              go_simp
              refine HKK.out _ _ _ (by rw [c2, c3, c6, c8]; rfl) (fun _ => trivial) ⟨HF.out.below (fr_below w' _), HC0.out, HC1.out, HC2.out, fun _ => rfl, fun _ => ⟨w'.heap.size, rfl, HF.out.hr.lt, fun q hq => (Array.getElem?_eq_some_iff.1 (HF.out.hex q hq).2).1, ?_⟩⟩
              have e : (if upB b 13 14 = true then (#[.int .i64 (G4).n, .int .i64 (G4).d] : Array Value) else #[.int .i64 0, .int .i64 0]) = #[.int .i64 0, .int .i64 0] := by simp [upB, NS.out]
              rw [e]
              exact heap_alloc_new w' _
            · cases ho
              have g53 : u 53 = .agg #[.int .i64 (G4).n, .int .i64 (G4).d] := got 12 53 rfl (hall ⟨12, .data⟩ (by simp) rfl)
              obtain ⟨B, q1, q2, q3, q4⟩ := HAL.out (hall ⟨13, .data⟩ (by simp) rfl)
              rw [if_neg (by rw [hbi]; decide)] at q4
              obtain ⟨s0, s1, fs0, fs1⟩ := two_cells q4
              have Q4 := hidMk q4
              have YA : Hid (b 13 = true) := hall ⟨13, .data⟩ (by simp) rfl
              clear q4
              go_simp
              refine HKK.out undef _ _ (by rw [c2, c3, c6, c8, g53, q1]; rfl) (fun h => by cases h) ⟨?_, HC0.out, HC1.out, HC2.out, fun _ => YA.out, fun _ => ⟨B, q1, q2, q3, ?_⟩⟩
              · exact HF.out.set q2 q3 _ _
              · exact two_set Q4.out _ _
            · simp at ho
          · intro b2 u2 w2 hb2 hU2 hW2
            obtain ⟨hF2, _, _, _, _, hal2⟩ := hW2.out
            obtain ⟨Bre, q1, q2, _, q4⟩ := hal2 (hb2 13 (by decide))
            rw [if_pos (hb2 14 (by decide))] at q4
            rw [if_pos (hb2 12 (by decide))] at hF2
            have h4 := hF2.more q2 q4
            have k2 : u2 2 = .pointer (some ⟨w.heap.size, 0, none⟩) := hU2.oldB 2 (by kernel_rfl)
            have k3 : u2 3 = .pointer (some ⟨w.heap.size + 1, 0, none⟩) := hU2.oldB 3 (by kernel_rfl)
            have k4 : u2 4 = .pointer (some ⟨w.heap.size + 1 + 1, 0, none⟩) := hU2.oldB 4 (by kernel_rfl)
            have k5 : u2 5 = .nilIface := hU2.oldB 5 (by kernel_rfl)
            have k6 : u2 6 = .pointer (some ⟨wc.heap.size, 0, none⟩) := hU2.oldB 6 (by kernel_rfl)
            have k8 : u2 8 = .pointer (some ⟨w1.heap.size, 0, none⟩) := hU2.oldB 8 (by kernel_rfl)
            have hA2 : actOf 72 u2 = ⟨#[u2 0, u2 1, u2 2, u2 3, u2 4, u2 5, u2 6, u2 7, u2 8, u2 9, u2 10, u2 11, u2 12, u2 13, u2 14, u2 15, u2 16, u2 17, u2 18, u2 19, u2 20, u2 21, u2 22, u2 23, u2 24, u2 25, u2 26, u2 27, u2 28, u2 29, u2 30, u2 31, u2 32, u2 33, u2 34, u2 35, u2 36, u2 37, u2 38, u2 39, u2 40, u2 41, u2 42, u2 43, u2 44, u2 45, u2 46, u2 47, u2 48, u2 49, u2 50, u2 51, u2 52, u2 53, u2 54, u2 55, u2 56, u2 57, u2 58, u2 59, u2 60, u2 61, u2 62, u2 63, u2 64, u2 65, u2 66, u2 67, u2 68, u2 69, u2 70, u2 71], []⟩ := rfl
            rw [hA2, k2, k3, k4, k5, k6, k8, q1]
            clear hA2 k2 k3 k4 k5 k6 k8 q1 hW2 hU2 hb2 hal2 q2 q4 hF2
            have H4' := hidMk h4
            clear h4
            go_wp2_with fail
            have h4 := H4'.out
            clear H4'
            refine region_inv (nt := 72)
              (fun s => match s with
                | 2 => .pointer (some ⟨w.heap.size, 0, none⟩)
                | 3 => .pointer (some ⟨w.heap.size + 1, 0, none⟩)
                | 4 => .pointer (some ⟨w.heap.size + 1 + 1, 0, none⟩)
                | 5 => .nilIface
                | 6 => .pointer (some ⟨wc.heap.size, 0, none⟩)
                | 8 => .pointer (some ⟨w1.heap.size, 0, none⟩)
                | 9 => .pointer (some ⟨Bre, 0, none⟩)
                | s => u2 s)
              (fun k v => match k with
                | 0 => v = .pointer (some ⟨w.heap.size, 2, none⟩)
                | 1 => v = .agg #[.int .i64 (x.im).n, .int .i64 (x.im).d]
                | 2 => v = .pointer (some ⟨w.heap.size + 1, 0, none⟩)
                | 3 => v = .agg #[.int .i64 (y.re).n, .int .i64 (y.re).d]
                | 4 => v = .agg #[.int .i64 (G5).n, .int .i64 (G5).d]
                | 5 => v = .pointer (some ⟨w.heap.size, 0, none⟩)
                | 6 => v = .agg #[.int .i64 (x.re).n, .int .i64 (x.re).d]
                | 7 => v = .pointer (some ⟨w.heap.size + 1, 2, none⟩)
                | 8 => v = .agg #[.int .i64 (y.im).n, .int .i64 (y.im).d]
                | 9 => v = .agg #[.int .i64 (G6).n, .int .i64 (G6).d]
                | 10 => v = .agg #[.int .i64 (G7).n, .int .i64 (G7).d]
                | 11 => v = .agg #[.int .i64 (I).n, .int .i64 (I).d]
                | 12 => v = .agg #[.int .i64 (G8).n, .int .i64 (G8).d]
                | _ => True)
              (fun b u w' => Hid (Rek w (wc.heap.size) x y ([(Bre, G4), (w1.heap.size, I)] : List (Nat × Fr)) (if b 12 = true then ((((((((false || H1) || H2) || H3) || H4) || H5) || H6) || H7) || H8) else (if b 10 = true then (((((((false || H1) || H2) || H3) || H4) || H5) || H6) || H7) else (if b 9 = true then ((((((false || H1) || H2) || H3) || H4) || H5) || H6) else (if b 4 = true then (((((false || H1) || H2) || H3) || H4) || H5) else ((((false || H1) || H2) || H3) || H4))))) w' ∧ (b 9 = true → b 4 = true) ∧ (b 10 = true → b 9 = true) ∧ (b 12 = true → b 10 = true) ∧ (b 14 = true → b 13 = true) ∧
                (b 13 = true → ∃ B, u 10 = .pointer (some ⟨B, 0, none⟩) ∧ (wc.heap.size) < B ∧ (∀ q ∈ ([(Bre, G4), (w1.heap.size, I)] : List (Nat × Fr)), q.1 < B) ∧ w'.heap[B]? = some (.cells (if b 14 = true then #[.int .i64 (G8).n, .int .i64 (G8).d] else #[.int .i64 0, .int .i64 0]) 80 (0, 0)))))
              rfl (by kernel_rfl) (by kernel_rfl) (by kernel_rfl) ⟨h4.drew, fun h => h, fun h => h, fun h => h, fun h => h, fun h => by cases h⟩ ?_ ?_
            · intro i o b u w' ho hbi hall hU hW K hK
              have hA : actOf 72 u = ⟨#[u 0, u 1, u 2, u 3, u 4, u 5, u 6, u 7, u 8, u 9, u 10, u 11, u 12, u 13, u 14, u 15, u 16, u 17, u 18, u 19, u 20, u 21, u 22, u 23, u 24, u 25, u 26, u 27, u 28, u 29, u 30, u 31, u 32, u 33, u 34, u 35, u 36, u 37, u 38, u 39, u 40, u 41, u 42, u 43, u 44, u 45, u 46, u 47, u 48, u 49, u 50, u 51, u 52, u 53, u 54, u 55, u 56, u 57, u 58, u 59, u 60, u 61, u 62, u 63, u 64, u 65, u 66, u 67, u 68, u 69, u 70, u 71], []⟩ := rfl
              rw [hA] at hK ⊢
              have c2 : u 2 = .pointer (some ⟨w.heap.size, 0, none⟩) := hU.oldB 2 (by kernel_rfl)
              have c3 : u 3 = .pointer (some ⟨w.heap.size + 1, 0, none⟩) := hU.oldB 3 (by kernel_rfl)
              have c6 : u 6 = .pointer (some ⟨wc.heap.size, 0, none⟩) := hU.oldB 6 (by kernel_rfl)
              have c8 : u 8 = .pointer (some ⟨w1.heap.size, 0, none⟩) := hU.oldB 8 (by kernel_rfl)
              have got := hU.got
              clear hU hA h4
              obtain ⟨hF, hc0, hc1, hc2, hst, hal⟩ := hW.out
              obtain ⟨x0, x1, x2, x3⟩ := four_cells hF.hx
              obtain ⟨y0, y1, y2, y3⟩ := four_cells hF.hy
              obtain ⟨ex00, ex01, _, _⟩ := two_cells (hF.hex (Bre, G4) (by simp)).2
              obtain ⟨ex10, ex11, _, _⟩ := two_cells (hF.hex (w1.heap.size, I) (by simp)).2
              have HC0 : Hid (b 9 = true → b 4 = true) := hc0
              have HC1 : Hid (b 10 = true → b 9 = true) := hc1
              have HC2 : Hid (b 12 = true → b 10 = true) := hc2
              have HST : Hid (b 14 = true → b 13 = true) := hst
              have HAL := hidMk hal
              have HKK := hidMk hK
              have HF := hidMk hF
              clear hK hF hW hc0 hc1 hc2 hst hal
              rcases i with _ | _ | _ | _ | _ | _ | _ | _ | _ | _ | _ | _ | _ | _ | _ | i
              · cases ho
                go_simp
                exact HKK.out _ _ _ (by rw [c2, c3, c6, c8]; rfl) (fun _ => rfl) ⟨HF.out, HC0.out, HC1.out, HC2.out, HST.out, HAL.out⟩
              · cases ho
                have g54 : u 54 = .pointer (some ⟨w.heap.size, 2, none⟩) := got 0 54 rfl (hall ⟨0, .data⟩ (by simp) rfl)
                go_simp
                exact HKK.out _ _ _ (by rw [c2, c3, c6, c8, g54]; rfl) (fun _ => rfl) ⟨HF.out, HC0.out, HC1.out, HC2.out, HST.out, HAL.out⟩
              · cases ho
                go_simp
                exact HKK.out _ _ _ (by rw [c2, c3, c6, c8]; rfl) (fun _ => rfl) ⟨HF.out, HC0.out, HC1.out, HC2.out, HST.out, HAL.out⟩
              · cases ho
                have g56 : u 56 = .pointer (some ⟨w.heap.size + 1, 0, none⟩) := got 2 56 rfl (hall ⟨2, .data⟩ (by simp) rfl)
                go_simp
                exact HKK.out _ _ _ (by rw [c2, c3, c6, c8, g56]; rfl) (fun _ => rfl) ⟨HF.out, HC0.out, HC1.out, HC2.out, HST.out, HAL.out⟩
              · cases ho
                have g55 : u 55 = .agg #[.int .i64 (x.im).n, .int .i64 (x.im).d] := got 1 55 rfl (hall ⟨1, .data⟩ (by simp) rfl)
                have g57 : u 57 = .agg #[.int .i64 (y.re).n, .int .i64 (y.re).d] := got 3 57 rfl (hall ⟨3, .data⟩ (by simp) rfl)
                have n9 : b 9 = false := by
                  cases h : b 9 with
                  | false => rfl
                  | true => rw [HC0.out h] at hbi; cases hbi
                have n10 : b 10 = false := by
                  cases h : b 10 with
                  | false => rfl
                  | true => rw [HC1.out h] at n9; cases n9
                have n12 : b 12 = false := by
                  cases h : b 12 with
                  | false => rfl
                  | true => rw [HC2.out h] at n10; cases n10
                have hfl : (if b 12 = true then ((((((((false || H1) || H2) || H3) || H4) || H5) || H6) || H7) || H8) else (if b 10 = true then (((((((false || H1) || H2) || H3) || H4) || H5) || H6) || H7) else (if b 9 = true then ((((((false || H1) || H2) || H3) || H4) || H5) || H6) else (if b 4 = true then (((((false || H1) || H2) || H3) || H4) || H5) else ((((false || H1) || H2) || H3) || H4))))) = ((((false || H1) || H2) || H3) || H4) := by simp [n9, n10, n12, hbi]
                have hfl2 : (if upB b 4 12 = true then ((((((((false || H1) || H2) || H3) || H4) || H5) || H6) || H7) || H8) else (if upB b 4 10 = true then (((((((false || H1) || H2) || H3) || H4) || H5) || H6) || H7) else (if upB b 4 9 = true then ((((((false || H1) || H2) || H3) || H4) || H5) || H6) else (if upB b 4 4 = true then (((((false || H1) || H2) || H3) || H4) || H5) else ((((false || H1) || H2) || H3) || H4))))) = (((((false || H1) || H2) || H3) || H4) || H5) := by simp [upB, n9, n10, n12]
                have hr := HF.out.hr
                rw [hfl] at hr
                have HR := hidMk hr
                have HFL := hidMk hfl2
                clear hr hfl hfl2
                go_simp
                refine (E5.out _ _ _ HR.out).mono ?_
                rintro e w2 ⟨rfl, hr2, hg2⟩
                refine HKK.out _ _ _ (by rw [c2, c3, c6, c8, g55, g57]; rfl) (fun _ => rfl) ⟨?_, ?_⟩
                · rw [HFL.out]; exact HF.out.grown hg2 hr2
                refine ⟨fun _ => rfl, HC1.out, HC2.out, HST.out, fun h => ?_⟩
                obtain ⟨B, q1, q2, q3, q4⟩ := HAL.out h
                exact ⟨B, q1, q2, q3, (hg2.block B (Array.getElem?_eq_some_iff.1 q4).1 (by simp; omega)).trans q4⟩
              · cases ho
                go_simp
                exact HKK.out _ _ _ (by rw [c2, c3, c6, c8]; rfl) (fun _ => rfl) ⟨HF.out, HC0.out, HC1.out, HC2.out, HST.out, HAL.out⟩
              · cases ho
                have g59 : u 59 = .pointer (some ⟨w.heap.size, 0, none⟩) := got 5 59 rfl (hall ⟨5, .data⟩ (by simp) rfl)
                go_simp
                exact HKK.out _ _ _ (by rw [c2, c3, c6, c8, g59]; rfl) (fun _ => rfl) ⟨HF.out, HC0.out, HC1.out, HC2.out, HST.out, HAL.out⟩
              · cases ho
                go_simp
                exact HKK.out _ _ _ (by rw [c2, c3, c6, c8]; rfl) (fun _ => rfl) ⟨HF.out, HC0.out, HC1.out, HC2.out, HST.out, HAL.out⟩
              · cases ho
                have g61 : u 61 = .pointer (some ⟨w.heap.size + 1, 2, none⟩) := got 7 61 rfl (hall ⟨7, .data⟩ (by simp) rfl)
                go_simp
                exact HKK.out _ _ _ (by rw [c2, c3, c6, c8, g61]; rfl) (fun _ => rfl) ⟨HF.out, HC0.out, HC1.out, HC2.out, HST.out, HAL.out⟩
              · cases ho
                have g60 : u 60 = .agg #[.int .i64 (x.re).n, .int .i64 (x.re).d] := got 6 60 rfl (hall ⟨6, .data⟩ (by simp) rfl)
                have g62 : u 62 = .agg #[.int .i64 (y.im).n, .int .i64 (y.im).d] := got 8 62 rfl (hall ⟨8, .data⟩ (by simp) rfl)
                have n10 : b 10 = false := by
                  cases h : b 10 with
                  | false => rfl
                  | true => rw [HC1.out h] at hbi; cases hbi
                have n12 : b 12 = false := by
                  cases h : b 12 with
                  | false => rfl
                  | true => rw [HC2.out h] at n10; cases n10
                have y4 : b 4 = true := hall ⟨4, .chain⟩ (by simp) rfl
                have hfl : (if b 12 = true then ((((((((false || H1) || H2) || H3) || H4) || H5) || H6) || H7) || H8) else (if b 10 = true then (((((((false || H1) || H2) || H3) || H4) || H5) || H6) || H7) else (if b 9 = true then ((((((false || H1) || H2) || H3) || H4) || H5) || H6) else (if b 4 = true then (((((false || H1) || H2) || H3) || H4) || H5) else ((((false || H1) || H2) || H3) || H4))))) = (((((false || H1) || H2) || H3) || H4) || H5) := by simp [n10, n12, hbi, y4]
                have hfl2 : (if upB b 9 12 = true then ((((((((false || H1) || H2) || H3) || H4) || H5) || H6) || H7) || H8) else (if upB b 9 10 = true then (((((((false || H1) || H2) || H3) || H4) || H5) || H6) || H7) else (if upB b 9 9 = true then ((((((false || H1) || H2) || H3) || H4) || H5) || H6) else (if upB b 9 4 = true then (((((false || H1) || H2) || H3) || H4) || H5) else ((((false || H1) || H2) || H3) || H4))))) = ((((((false || H1) || H2) || H3) || H4) || H5) || H6) := by simp [upB, n10, n12]
                have hr := HF.out.hr
                rw [hfl] at hr
                have HR := hidMk hr
                have HFL := hidMk hfl2
                clear hr hfl hfl2
                go_simp
                refine (E6.out _ _ _ HR.out).mono ?_
                rintro e w2 ⟨rfl, hr2, hg2⟩
                refine HKK.out _ _ _ (by rw [c2, c3, c6, c8, g60, g62]; rfl) (fun _ => rfl) ⟨?_, ?_⟩
                · rw [HFL.out]; exact HF.out.grown hg2 hr2
                refine ⟨fun _ => y4, fun _ => rfl, HC2.out, HST.out, fun h => ?_⟩
                obtain ⟨B, q1, q2, q3, q4⟩ := HAL.out h
                exact ⟨B, q1, q2, q3, (hg2.block B (Array.getElem?_eq_some_iff.1 q4).1 (by simp; omega)).trans q4⟩
              · cases ho
                have g58 : u 58 = .agg #[.int .i64 (G5).n, .int .i64 (G5).d] := got 4 58 rfl (hall ⟨4, .data⟩ (by simp) rfl)
                have g63 : u 63 = .agg #[.int .i64 (G6).n, .int .i64 (G6).d] := got 9 63 rfl (hall ⟨9, .data⟩ (by simp) rfl)
                have n12 : b 12 = false := by
                  cases h : b 12 with
                  | false => rfl
                  | true => rw [HC2.out h] at hbi; cases hbi
                have y9 : b 9 = true := hall ⟨9, .chain⟩ (by simp) rfl
                have hfl : (if b 12 = true then ((((((((false || H1) || H2) || H3) || H4) || H5) || H6) || H7) || H8) else (if b 10 = true then (((((((false || H1) || H2) || H3) || H4) || H5) || H6) || H7) else (if b 9 = true then ((((((false || H1) || H2) || H3) || H4) || H5) || H6) else (if b 4 = true then (((((false || H1) || H2) || H3) || H4) || H5) else ((((false || H1) || H2) || H3) || H4))))) = ((((((false || H1) || H2) || H3) || H4) || H5) || H6) := by simp [n12, hbi, y9]
                have hfl2 : (if upB b 10 12 = true then ((((((((false || H1) || H2) || H3) || H4) || H5) || H6) || H7) || H8) else (if upB b 10 10 = true then (((((((false || H1) || H2) || H3) || H4) || H5) || H6) || H7) else (if upB b 10 9 = true then ((((((false || H1) || H2) || H3) || H4) || H5) || H6) else (if upB b 10 4 = true then (((((false || H1) || H2) || H3) || H4) || H5) else ((((false || H1) || H2) || H3) || H4))))) = (((((((false || H1) || H2) || H3) || H4) || H5) || H6) || H7) := by simp [upB, n12]
                have hr := HF.out.hr
                rw [hfl] at hr
                have HR := hidMk hr
                have HFL := hidMk hfl2
                clear hr hfl hfl2
                go_simp
                refine (E7.out _ _ _ HR.out).mono ?_
                rintro e w2 ⟨rfl, hr2, hg2⟩
                refine HKK.out _ _ _ (by rw [c2, c3, c6, c8, g58, g63]; rfl) (fun _ => rfl) ⟨?_, ?_⟩
                · rw [HFL.out]; exact HF.out.grown hg2 hr2
                refine ⟨HC0.out, fun _ => y9, fun _ => rfl, HST.out, fun h => ?_⟩
                obtain ⟨B, q1, q2, q3, q4⟩ := HAL.out h
                exact ⟨B, q1, q2, q3, (hg2.block B (Array.getElem?_eq_some_iff.1 q4).1 (by simp; omega)).trans q4⟩
              · cases ho
                go_simp
                exact HKK.out _ _ _ (by rw [c2, c3, c6, c8]; rfl) (fun _ => rfl) ⟨HF.out, HC0.out, HC1.out, HC2.out, HST.out, HAL.out⟩
              · cases ho
                have g64 : u 64 = .agg #[.int .i64 (G7).n, .int .i64 (G7).d] := got 10 64 rfl (hall ⟨10, .data⟩ (by simp) rfl)
                have g65 : u 65 = .agg #[.int .i64 (I).n, .int .i64 (I).d] := got 11 65 rfl (hall ⟨11, .data⟩ (by simp) rfl)
                have y10 : b 10 = true := hall ⟨10, .chain⟩ (by simp) rfl
                have hfl : (if b 12 = true then ((((((((false || H1) || H2) || H3) || H4) || H5) || H6) || H7) || H8) else (if b 10 = true then (((((((false || H1) || H2) || H3) || H4) || H5) || H6) || H7) else (if b 9 = true then ((((((false || H1) || H2) || H3) || H4) || H5) || H6) else (if b 4 = true then (((((false || H1) || H2) || H3) || H4) || H5) else ((((false || H1) || H2) || H3) || H4))))) = (((((((false || H1) || H2) || H3) || H4) || H5) || H6) || H7) := by simp [hbi, y10]
                have hfl2 : (if upB b 12 12 = true then ((((((((false || H1) || H2) || H3) || H4) || H5) || H6) || H7) || H8) else (if upB b 12 10 = true then (((((((false || H1) || H2) || H3) || H4) || H5) || H6) || H7) else (if upB b 12 9 = true then ((((((false || H1) || H2) || H3) || H4) || H5) || H6) else (if upB b 12 4 = true then (((((false || H1) || H2) || H3) || H4) || H5) else ((((false || H1) || H2) || H3) || H4))))) = ((((((((false || H1) || H2) || H3) || H4) || H5) || H6) || H7) || H8) := by simp [upB, ]
                have hr := HF.out.hr
                rw [hfl] at hr
                have HR := hidMk hr
                have HFL := hidMk hfl2
                clear hr hfl hfl2
                go_simp
                refine (E8'.out _ _ _ HR.out).mono ?_
                rintro e w2 ⟨rfl, hr2, hg2⟩
                refine HKK.out _ _ _ (by rw [c2, c3, c6, c8, g64, g65]; rfl) (fun _ => rfl) ⟨?_, ?_⟩
                · rw [HFL.out]; exact HF.out.grown hg2 hr2
                refine ⟨HC0.out, HC1.out, fun _ => y10, HST.out, fun h => ?_⟩
                obtain ⟨B, q1, q2, q3, q4⟩ := HAL.out h
                exact ⟨B, q1, q2, q3, (hg2.block B (Array.getElem?_eq_some_iff.1 q4).1 (by simp; omega)).trans q4⟩
              · cases ho
                have ns : b 14 = false := by
                  cases h : b 14 with
                  | false => rfl
                  | true => rw [HST.out h] at hbi; cases hbi
                have NS := hidMk ns
                clear ns
                go_simp
                refine HKK.out _ _ _ (by rw [c2, c3, c6, c8]; rfl) (fun _ => trivial) ⟨HF.out.below (fr_below w' _), HC0.out, HC1.out, HC2.out, fun _ => rfl, fun _ => ⟨w'.heap.size, rfl, HF.out.hr.lt, fun q hq => (Array.getElem?_eq_some_iff.1 (HF.out.hex q hq).2).1, ?_⟩⟩
                have e : (if upB b 13 14 = true then (#[.int .i64 (G8).n, .int .i64 (G8).d] : Array Value) else #[.int .i64 0, .int .i64 0]) = #[.int .i64 0, .int .i64 0] := by simp [upB, NS.out]
                rw [e]
                exact heap_alloc_new w' _
              · cases ho
                have g66 : u 66 = .agg #[.int .i64 (G8).n, .int .i64 (G8).d] := got 12 66 rfl (hall ⟨12, .data⟩ (by simp) rfl)
                obtain ⟨B, q1, q2, q3, q4⟩ := HAL.out (hall ⟨13, .data⟩ (by simp) rfl)
                rw [if_neg (by rw [hbi]; decide)] at q4
                obtain ⟨s0, s1, fs0, fs1⟩ := two_cells q4
                have Q4 := hidMk q4
                have YA : Hid (b 13 = true) := hall ⟨13, .data⟩ (by simp) rfl
                clear q4
                go_simp
                refine HKK.out undef _ _ (by rw [c2, c3, c6, c8, g66, q1]; rfl) (fun h => by cases h) ⟨?_, HC0.out, HC1.out, HC2.out, fun _ => YA.out, fun _ => ⟨B, q1, q2, q3, ?_⟩⟩
                · exact HF.out.set q2 q3 _ _
                · exact two_set Q4.out _ _
              · simp at ho
            · intro b3 u3 w3 hb3 hU3 hW3
              obtain ⟨hF3, _, _, _, _, hal3⟩ := hW3.out
              obtain ⟨Bim, q1, q2, _, q4⟩ := hal3 (hb3 13 (by decide))
              rw [if_pos (hb3 14 (by decide))] at q4
              rw [if_pos (hb3 12 (by decide))] at hF3
              have h5 := hF3.more q2 q4
              have k4 : u3 4 = .pointer (some ⟨w.heap.size + 1 + 1, 0, none⟩) := hU3.oldB 4 (by kernel_rfl)
              have k5 : u3 5 = .nilIface := hU3.oldB 5 (by kernel_rfl)
              have k6 : u3 6 = .pointer (some ⟨wc.heap.size, 0, none⟩) := hU3.oldB 6 (by kernel_rfl)
              have k9 : u3 9 = .pointer (some ⟨Bre, 0, none⟩) := hU3.oldB 9 (by kernel_rfl)
              have hA3 : actOf 72 u3 = ⟨#[u3 0, u3 1, u3 2, u3 3, u3 4, u3 5, u3 6, u3 7, u3 8, u3 9, u3 10, u3 11, u3 12, u3 13, u3 14, u3 15, u3 16, u3 17, u3 18, u3 19, u3 20, u3 21, u3 22, u3 23, u3 24, u3 25, u3 26, u3 27, u3 28, u3 29, u3 30, u3 31, u3 32, u3 33, u3 34, u3 35, u3 36, u3 37, u3 38, u3 39, u3 40, u3 41, u3 42, u3 43, u3 44, u3 45, u3 46, u3 47, u3 48, u3 49, u3 50, u3 51, u3 52, u3 53, u3 54, u3 55, u3 56, u3 57, u3 58, u3 59, u3 60, u3 61, u3 62, u3 63, u3 64, u3 65, u3 66, u3 67, u3 68, u3 69, u3 70, u3 71], []⟩ := rfl
              rw [hA3, k4, k5, k6, k9, q1]
              clear hA3 k4 k5 k6 k9 q1 hW3 hU3 hb3 hal3 hF3 q2 q4
              obtain ⟨p, q, r, s, E, hO, hE⟩ := outV_parts aB ((((((((false || H1) || H2) || H3) || H4) || H5) || H6) || H7) || H8) ⟨G4, G8⟩
              have hlt := h5.hr.lt
              have hRR := h5.hR
              have cn : Calls Tryz.prog 176 #[.pointer (some ⟨wc.heap.size, 0, none⟩), .agg #[.int .i64 G4.n, .int .i64 G4.d], .agg #[.int .i64 G8.n, .int .i64 G8.d]] w3 fun e w' => e = .returned (outV aB ((((((((false || H1) || H2) || H3) || H4) || H5) || H6) || H7) || H8) ⟨G4, G8⟩) ∧ Below w3.heap.size w3 w' :=
                number_any N _ aZ aB _ G4 G8 w3 (HS.out.below h5.hb hN) (Nat.le_trans hN h5.hb.size) h5.hr
              rw [hO] at cn
              have HO2 := hidMk (HO1.out.trans hO)
              obtain ⟨e0, e1, _, _⟩ := two_cells (h5.hex (Bre, G4) (by simp)).2
              obtain ⟨e2, e3, _, _⟩ := two_cells (h5.hex (Bim, G8) (by simp)).2
              have H5 := hidMk h5
              clear h5 hO HO1 HS E1 E2 E3 E4' E5 E6 E7 E8'
              go_wp2_with fail
              refine cn.mono ?_
              rintro e w4 ⟨rfl, hb4⟩
              have hz4 := (hb4.block _ (by omega)).trans H5.out.hz
              have hb04 := H5.out.hb.trans (hb4.mono H5.out.hb.size)
              obtain ⟨z0, z1, z2, z3⟩ := four_cells hz4
              obtain ⟨f0, f1, f2, f3⟩ := four_frozen hz4
              clear cn e0 e1 e2 e3 hz4 hb4 H5
              go_wp2_with fail
              refine bodyPost_ret (v := .tuple #[.agg #[.int .i64 p, .int .i64 q, .int .i64 r, .int .i64 s], E]) (by simp [results, Tryz.results171, go_sem, z0, z1, z2, z3]) rfl ?_
              rw [HO2.out]
              exact ⟨rfl, below_four hb04 (by omega) _ _ _ _⟩
end Go.Proofs.YtodabmkcihafhaaGreatDoor

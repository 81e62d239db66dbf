import Derived.Deep.DeepCutAuto
import Derived.Test.YtodabmkcihafhaaGreatDoorK12

/- The document's quotient. -/
namespace Go.Proofs.YtodabmkcihafhaaGreatDoor
open Go.RowKit
set_option linter.unusedVariables false

set_option maxHeartbeats 8000000 in
set_option maxRecDepth 100000 in
theorem rquot_any (b : Nat) (x y : Num) (w : World) (hx : x.Ok) (hy : y.Ok) (hnz : y.zero = false) (h : WySt b false w) :
    Calls Tryz.prog 93 #[.pointer (some ⟨b, 0, none⟩), .agg #[.int .i64 x.re.n, .int .i64 x.re.d, .int .i64 x.im.n, .int .i64 x.im.d], .agg #[.int .i64 y.re.n, .int .i64 y.re.d, .int .i64 y.im.n, .int .i64 y.im.d]] w fun e w' => e = .returned (if sqB y then nV x else nV (divN x y)) ∧ WySt b (sqB y || divB x y) w' ∧ w.grownBy w' (some b) := by
  have hI : sqB y = false → (sqF y).inv.Ok ∧ mkF (sqF y).d (sqF y).n = (sqF y).inv ∧ mkB (sqF y).d (sqF y).n = false := fun h2 =>
    have q := mk_of_inv (plF_ok (tmF_ok hy.1 hy.1) (tmF_ok hy.2 hy.2)) (sq_pos hy hnz h2)
    ⟨q.2.2, q.1, q.2.1⟩
  have hS3 : (sqF y).Ok := plF_ok (tmF_ok hy.1 hy.1) (tmF_ok hy.2 hy.2)
  have C1 : Hid (∀ fl W, WySt b fl W → Calls Tryz.prog 131 #[.pointer (some ⟨b, 0, none⟩), .agg #[.int .i64 (y.re).n, .int .i64 (y.re).d], .agg #[.int .i64 (y.re).n, .int .i64 (y.re).d]] W fun e w' => e = .returned (.agg #[.int .i64 (tmF y.re y.re).n, .int .i64 (tmF y.re y.re).d]) ∧ WySt b (fl || tmB y.re y.re) w' ∧ W.grownBy w' (some b)) := fun fl W h => rtimes_any b fl _ _ W hy.1 hy.1 h
  have C2 : Hid (∀ fl W, WySt b fl W → Calls Tryz.prog 131 #[.pointer (some ⟨b, 0, none⟩), .agg #[.int .i64 (y.im).n, .int .i64 (y.im).d], .agg #[.int .i64 (y.im).n, .int .i64 (y.im).d]] W fun e w' => e = .returned (.agg #[.int .i64 (tmF y.im y.im).n, .int .i64 (tmF y.im y.im).d]) ∧ WySt b (fl || tmB y.im y.im) w' ∧ W.grownBy w' (some b)) := fun fl W h => rtimes_any b fl _ _ W hy.2 hy.2 h
  have C3 : Hid (∀ fl W, WySt b fl W → Calls Tryz.prog 90 #[.pointer (some ⟨b, 0, none⟩), .agg #[.int .i64 (tmF y.re y.re).n, .int .i64 (tmF y.re y.re).d], .agg #[.int .i64 (tmF y.im y.im).n, .int .i64 (tmF y.im y.im).d]] W fun e w' => e = .returned (.agg #[.int .i64 (sqF y).n, .int .i64 (sqF y).d]) ∧ WySt b (fl || plB (tmF y.re y.re) (tmF y.im y.im)) w' ∧ W.grownBy w' (some b)) := fun fl W h => rplus_any b fl _ _ W (tmF_ok hy.1 hy.1) (tmF_ok hy.2 hy.2) h
  have CI : Hid (sqB y = false → ∀ fl W, WySt b fl W → Calls Tryz.prog 130 #[.pointer (some ⟨b, 0, none⟩), .int .i64 (sqF y).d, .int .i64 (sqF y).n] W fun e w' => e = .returned (.agg #[.int .i64 ((sqF y).inv).n, .int .i64 ((sqF y).inv).d]) ∧ WySt b (fl || false) w' ∧ W.grownBy w' (some b)) := by
    intro h2 fl W h
    obtain ⟨q1, q2, q3⟩ := hI h2
    have hp := sq_pos hy hnz h2
    obtain ⟨s1, s2, s3, s4, _⟩ := hS3
    have c := made_any b fl (sqF y).d (sqF y).n W (by omega) (by omega) hp (by omega) h
    rw [q2, q3] at c
    exact c
  have E1 : Hid (∀ fl W, WySt b fl W → Calls Tryz.prog 131 #[.pointer (some ⟨b, 0, none⟩), .agg #[.int .i64 (x.re).n, .int .i64 (x.re).d], .agg #[.int .i64 (y.re).n, .int .i64 (y.re).d]] W fun e w' => e = .returned (.agg #[.int .i64 (tmF x.re y.re).n, .int .i64 (tmF x.re y.re).d]) ∧ WySt b (fl || tmB x.re y.re) w' ∧ W.grownBy w' (some b)) := fun fl W h => rtimes_any b fl _ _ W hx.1 hy.1 h
  have E2 : Hid (∀ fl W, WySt b fl W → Calls Tryz.prog 131 #[.pointer (some ⟨b, 0, none⟩), .agg #[.int .i64 (x.im).n, .int .i64 (x.im).d], .agg #[.int .i64 (y.im).n, .int .i64 (y.im).d]] W fun e w' => e = .returned (.agg #[.int .i64 (tmF x.im y.im).n, .int .i64 (tmF x.im y.im).d]) ∧ WySt b (fl || tmB x.im y.im) w' ∧ W.grownBy w' (some b)) := fun fl W h => rtimes_any b fl _ _ W hx.2 hy.2 h
  have E3 : Hid (∀ fl W, WySt b fl W → Calls Tryz.prog 90 #[.pointer (some ⟨b, 0, none⟩), .agg #[.int .i64 (tmF x.re y.re).n, .int .i64 (tmF x.re y.re).d], .agg #[.int .i64 (tmF x.im y.im).n, .int .i64 (tmF x.im y.im).d]] W fun e w' => e = .returned (.agg #[.int .i64 (dvRe x y).n, .int .i64 (dvRe x y).d]) ∧ WySt b (fl || plB (tmF x.re y.re) (tmF x.im y.im)) w' ∧ W.grownBy w' (some b)) := fun fl W h => rplus_any b fl _ _ W (tmF_ok hx.1 hy.1) (tmF_ok hx.2 hy.2) h
  have E5 : Hid (∀ fl W, WySt b fl W → Calls Tryz.prog 131 #[.pointer (some ⟨b, 0, none⟩), .agg #[.int .i64 (x.im).n, .int .i64 (x.im).d], .agg #[.int .i64 (y.re).n, .int .i64 (y.re).d]] W fun e w' => e = .returned (.agg #[.int .i64 (tmF x.im y.re).n, .int .i64 (tmF x.im y.re).d]) ∧ WySt b (fl || tmB x.im y.re) w' ∧ W.grownBy w' (some b)) := fun fl W h => rtimes_any b fl _ _ W hx.2 hy.1 h
  have E6 : Hid (∀ fl W, WySt b fl W → Calls Tryz.prog 131 #[.pointer (some ⟨b, 0, none⟩), .agg #[.int .i64 (x.re).n, .int .i64 (x.re).d], .agg #[.int .i64 (y.im).n, .int .i64 (y.im).d]] W fun e w' => e = .returned (.agg #[.int .i64 (tmF x.re y.im).n, .int .i64 (tmF x.re y.im).d]) ∧ WySt b (fl || tmB x.re y.im) w' ∧ W.grownBy w' (some b)) := fun fl W h => rtimes_any b fl _ _ W hx.1 hy.2 h
  have E7 : Hid (∀ fl W, WySt b fl W → Calls Tryz.prog 91 #[.pointer (some ⟨b, 0, none⟩), .agg #[.int .i64 (tmF x.im y.re).n, .int .i64 (tmF x.im y.re).d], .agg #[.int .i64 (tmF x.re y.im).n, .int .i64 (tmF x.re y.im).d]] W fun e w' => e = .returned (.agg #[.int .i64 (dvIm x y).n, .int .i64 (dvIm x y).d]) ∧ WySt b (fl || plB (tmF x.im y.re) (tmF x.re y.im).neg) w' ∧ W.grownBy w' (some b)) := fun fl W h => rless_any b fl _ _ W (tmF_ok hx.2 hy.1) (tmF_ok hx.1 hy.2) h
  have E4 : Hid (sqB y = false → ∀ fl W, WySt b fl W → Calls Tryz.prog 131 #[.pointer (some ⟨b, 0, none⟩), .agg #[.int .i64 (dvRe x y).n, .int .i64 (dvRe x y).d], .agg #[.int .i64 ((sqF y).inv).n, .int .i64 ((sqF y).inv).d]] W fun e w' => e = .returned (.agg #[.int .i64 (tmF (dvRe x y) (sqF y).inv).n, .int .i64 (tmF (dvRe x y) (sqF y).inv).d]) ∧ WySt b (fl || tmB (dvRe x y) (sqF y).inv) w' ∧ W.grownBy w' (some b)) := fun h2 fl W h => rtimes_any b fl _ _ W (plF_ok (tmF_ok hx.1 hy.1) (tmF_ok hx.2 hy.2)) (hI h2).1 h
  have E8 : Hid (sqB y = false → ∀ fl W, WySt b fl W → Calls Tryz.prog 131 #[.pointer (some ⟨b, 0, none⟩), .agg #[.int .i64 (dvIm x y).n, .int .i64 (dvIm x y).d], .agg #[.int .i64 ((sqF y).inv).n, .int .i64 ((sqF y).inv).d]] W fun e w' => e = .returned (.agg #[.int .i64 (tmF (dvIm x y) (sqF y).inv).n, .int .i64 (tmF (dvIm x y) (sqF y).inv).d]) ∧ WySt b (fl || tmB (dvIm x y) (sqF y).inv) w' ∧ W.grownBy w' (some b)) := fun h2 fl W h => rtimes_any b fl _ _ W (plF_ok (tmF_ok hx.2 hy.1) (tmF_ok hx.1 hy.2).neg) (hI h2).1 h
  have HQ : Hid (sqB y = (((false || tmB y.re y.re) || tmB y.im y.im) || plB (tmF y.re y.re) (tmF y.im y.im))) := by
    show sqB y = _
    rw [Bool.false_or]
    rfl
  have HN : Hid (nV (divN x y) = .agg #[.int .i64 (tmF (dvRe x y) (sqF y).inv).n, .int .i64 (tmF (dvRe x y) (sqF y).inv).d, .int .i64 (tmF (dvIm x y) (sqF y).inv).n, .int .i64 (tmF (dvIm x y) (sqF y).inv).d]) := rfl
  have HX : Hid (nV x = .agg #[.int .i64 x.re.n, .int .i64 x.re.d, .int .i64 x.im.n, .int .i64 x.im.d]) := rfl
  have HD : Hid (divB x y = (((((((((false || false) || tmB x.re y.re) || tmB x.im y.im) || tmB x.im y.re) || tmB x.re y.im) || plB (tmF x.re y.re) (tmF x.im y.im)) || plB (tmF x.im y.re) (tmF x.re y.im).neg) || tmB (dvRe x y) (sqF y).inv) || tmB (dvIm x y) (sqF y).inv)) := by
    show divB x y = _
    unfold divB
    cases tmB x.re y.re <;> cases tmB x.im y.im <;> cases tmB x.im y.re <;> cases tmB x.re y.im <;> cases plB (tmF x.re y.re) (tmF x.im y.im) <;> cases plB (tmF x.im y.re) (tmF x.re y.im).neg <;> cases tmB (dvRe x y) (sqF y).inv <;> rfl
  generalize nV (divN x y) = V at *
  generalize nV x = VX at *
  generalize divB x y = DB at *
  generalize tmF (dvRe x y) (sqF y).inv = G4 at *
  generalize tmB (dvRe x y) (sqF y).inv = H4 at *
  generalize tmF (dvIm x y) (sqF y).inv = G8 at *
  generalize tmB (dvIm x y) (sqF y).inv = H8 at *
  clear hI hS3
  generalize (sqF y).inv = I at *
  generalize sqF y = S3 at *
  generalize sqB y = SB at *
  generalize dvRe x y = G3 at *
  generalize dvIm x y = G7 at *
  generalize plB (tmF x.im y.re) (tmF x.re y.im).neg = H7 at *
  generalize plB (tmF x.re y.re) (tmF x.im y.im) = H3 at *
  generalize plB (tmF y.re y.re) (tmF y.im y.im) = B3 at *
  generalize tmF y.re y.re = S1 at *
  generalize tmF y.im y.im = S2 at *
  generalize tmB y.re y.re = B1 at *
  generalize tmB y.im y.im = B2 at *
  generalize tmF x.re y.re = G1 at *
  generalize tmF x.im y.im = G2 at *
  generalize tmF x.im y.re = G5 at *
  generalize tmF x.re y.im = G6 at *
  generalize tmB x.re y.re = H1 at *
  generalize tmB x.im y.im = H2 at *
  generalize tmB x.im y.re = H5 at *
  generalize tmB x.re y.im = H6 at *
  have H := hidMk (Wek.new w b false x y h)
  clear hx hy h hnz
  go_enter Tryz.func93, Tryz.ntmps93
  obtain ⟨X0, X1, X2, X3⟩ := four_cells H.out.hx
  obtain ⟨Y0, Y1, Y2, Y3⟩ := four_cells H.out.hy
  go_wp2_with fail
  refine (C1.out _ _ H.out.hr).mono ?_
  rintro e w1 ⟨rfl, hr1, hg1⟩
  have H1 := hidMk ((H.out.grown hg1 hr1).push S1)
  clear H hr1 hg1 X0 X1 X2 X3 Y0 Y1 Y2 Y3
  have H := H1
  clear H1
  obtain ⟨X0, X1, X2, X3⟩ := four_cells H.out.hx
  obtain ⟨Y0, Y1, Y2, Y3⟩ := four_cells H.out.hy
  go_wp2_with fail
  refine (C2.out _ _ H.out.hr).mono ?_
  rintro e w2 ⟨rfl, hr2, hg2⟩
  have H2 := hidMk ((H.out.grown hg2 hr2).push S2)
  clear H hr2 hg2 X0 X1 X2 X3 Y0 Y1 Y2 Y3
  have H := H2
  clear H2
  obtain ⟨X0, X1, X2, X3⟩ := four_cells H.out.hx
  obtain ⟨Y0, Y1, Y2, Y3⟩ := four_cells H.out.hy
  obtain ⟨L10, L11, _, _⟩ := two_cells (H.out.hex (w1.heap.size, S1) (by simp)).2
  obtain ⟨L20, L21, _, _⟩ := two_cells (H.out.hex (w2.heap.size, S2) (by simp)).2
  go_wp2_with fail
  refine (C3.out _ _ H.out.hr).mono ?_
  rintro e w3 ⟨rfl, hr3, hg3⟩
  have H3 := hidMk ((H.out.grown hg3 hr3).push S3)
  clear H hr3 hg3 X0 X1 X2 X3 Y0 Y1 Y2 Y3
  have H := H3
  clear H3
  clear L10 L11 L20 L21
  have hH := H.out
  rw [← HQ.out] at hH
  have H3 := hidMk hH
  clear H hH C1 C2 C3 HQ
  have H := H3
  clear H3
  have hlt := H.out.lt
  have hbl := H.out.hlt
  obtain ⟨r0, fr0⟩ := H.out.hr.cells
  cases SB with
  | true =>
    obtain ⟨X0, X1, X2, X3⟩ := four_cells H.out.hx
    obtain ⟨z0, z1, z2, z3⟩ := four_cells H.out.hz
    obtain ⟨f0, f1, f2, f3⟩ := four_frozen H.out.hz
    clear E1 E2 E3 E4 E5 E6 E7 E8 CI
    go_wp2_with fail
    refine bp_gen (fun W' => W'.heap[w.heap.size + 1 + 1]? = some (.cells #[.int .i64 x.re.n, .int .i64 x.re.d, .int .i64 x.im.n, .int .i64 x.im.d] 92 (0, 0)) ∧ WySt b true W' ∧ w.grownBy W' (some b)) ⟨four_set H.out.hz _ _ _ _, ?_, ?_⟩ ?_
    · unfold WySt
      rw [Below.heap_setCell _ _ _ _ (by simp; omega), Below.heap_setCell _ _ _ _ (by simp; omega), Below.heap_setCell _ _ _ _ (by simp; omega), Below.heap_setCell _ _ _ _ (by simp; omega)]
      exact H.out.hr
    · exact gb_new (gb_new (gb_new (gb_new H.out.hg (by omega) 0 _) (by omega) 1 _) (by omega) 2 _) (by omega) 3 _
    · rintro W ⟨hz, hr, hg⟩
      obtain ⟨z0, z1, z2, z3⟩ := four_cells hz
      refine bodyPost_ret (v := .agg #[.int .i64 x.re.n, .int .i64 x.re.d, .int .i64 x.im.n, .int .i64 x.im.d]) (by simp [results, Tryz.results93, go_sem, z0, z1, z2, z3]) rfl ⟨?_, ?_, hg⟩
      · show Ending.returned _ = Ending.returned VX
        rw [HX.out]
      · exact hr
  | false =>
    have CI' := hidMk (CI.out rfl)
    have E4' := hidMk (E4.out rfl)
    have E8' := hidMk (E8.out rfl)
    clear CI E4 E8
    obtain ⟨X0, X1, X2, X3⟩ := four_cells H.out.hx
    obtain ⟨Y0, Y1, Y2, Y3⟩ := four_cells H.out.hy
    obtain ⟨L30, L31, _, _⟩ := two_cells (H.out.hex (w3.heap.size, S3) (by simp)).2
    go_wp2_with fail
    refine (CI'.out _ _ H.out.hr).mono ?_
    rintro e w4 ⟨rfl, hr4, hg4⟩
    have H4 := hidMk ((H.out.grown hg4 hr4).push I)
    clear H hr4 hg4 X0 X1 X2 X3 Y0 Y1 Y2 Y3
    have H := H4
    clear H4
    clear L30 L31
    clear r0 fr0
    obtain ⟨X0, X1, X2, X3⟩ := four_cells H.out.hx
    obtain ⟨Y0, Y1, Y2, Y3⟩ := four_cells H.out.hy
    go_wp2_with fail
    refine (E1.out _ _ H.out.hr).mono ?_
    rintro e w5 ⟨rfl, hr5, hg5⟩
    have H5 := hidMk ((H.out.grown hg5 hr5).push G1)
    clear H hr5 hg5 X0 X1 X2 X3 Y0 Y1 Y2 Y3
    have H := H5
    clear H5
    obtain ⟨X0, X1, X2, X3⟩ := four_cells H.out.hx
    obtain ⟨Y0, Y1, Y2, Y3⟩ := four_cells H.out.hy
    go_wp2_with fail
    refine (E2.out _ _ H.out.hr).mono ?_
    rintro e w6 ⟨rfl, hr6, hg6⟩
    have H6 := hidMk ((H.out.grown hg6 hr6).push G2)
    clear H hr6 hg6 X0 X1 X2 X3 Y0 Y1 Y2 Y3
    have H := H6
    clear H6
    obtain ⟨X0, X1, X2, X3⟩ := four_cells H.out.hx
    obtain ⟨Y0, Y1, Y2, Y3⟩ := four_cells H.out.hy
    go_wp2_with fail
    refine (E5.out _ _ H.out.hr).mono ?_
    rintro e w7 ⟨rfl, hr7, hg7⟩
    have H7 := hidMk ((H.out.grown hg7 hr7).push G5)
    clear H hr7 hg7 X0 X1 X2 X3 Y0 Y1 Y2 Y3
    have H := H7
    clear H7
    obtain ⟨X0, X1, X2, X3⟩ := four_cells H.out.hx
    obtain ⟨Y0, Y1, Y2, Y3⟩ := four_cells H.out.hy
    go_wp2_with fail
    refine (E6.out _ _ H.out.hr).mono ?_
    rintro e w8 ⟨rfl, hr8, hg8⟩
    have H8 := hidMk ((H.out.grown hg8 hr8).push G6)
    clear H hr8 hg8 X0 X1 X2 X3 Y0 Y1 Y2 Y3
    have H := H8
    clear H8
    obtain ⟨X0, X1, X2, X3⟩ := four_cells H.out.hx
    obtain ⟨Y0, Y1, Y2, Y3⟩ := four_cells H.out.hy
    obtain ⟨L50, L51, _, _⟩ := two_cells (H.out.hex (w5.heap.size, G1) (by simp)).2
    obtain ⟨L60, L61, _, _⟩ := two_cells (H.out.hex (w6.heap.size, G2) (by simp)).2
    go_wp2_with fail
    refine (E3.out _ _ H.out.hr).mono ?_
    rintro e w9 ⟨rfl, hr9, hg9⟩
    have H9 := hidMk ((H.out.grown hg9 hr9).push G3)
    clear H hr9 hg9 X0 X1 X2 X3 Y0 Y1 Y2 Y3
    have H := H9
    clear H9
    clear L50 L51 L60 L61
    obtain ⟨X0, X1, X2, X3⟩ := four_cells H.out.hx
    obtain ⟨Y0, Y1, Y2, Y3⟩ := four_cells H.out.hy
    obtain ⟨L70, L71, _, _⟩ := two_cells (H.out.hex (w7.heap.size, G5) (by simp)).2
    obtain ⟨L80, L81, _, _⟩ := two_cells (H.out.hex (w8.heap.size, G6) (by simp)).2
    go_wp2_with fail
    refine (E7.out _ _ H.out.hr).mono ?_
    rintro e w10 ⟨rfl, hr10, hg10⟩
    have H10 := hidMk ((H.out.grown hg10 hr10).push G7)
    clear H hr10 hg10 X0 X1 X2 X3 Y0 Y1 Y2 Y3
    have H := H10
    clear H10
    clear L70 L71 L80 L81
    obtain ⟨X0, X1, X2, X3⟩ := four_cells H.out.hx
    obtain ⟨Y0, Y1, Y2, Y3⟩ := four_cells H.out.hy
    obtain ⟨L90, L91, _, _⟩ := two_cells (H.out.hex (w9.heap.size, G3) (by simp)).2
    obtain ⟨L40, L41, _, _⟩ := two_cells (H.out.hex (w4.heap.size, I) (by simp)).2
    go_wp2_with fail
    refine (E4'.out _ _ H.out.hr).mono ?_
    rintro e w11 ⟨rfl, hr11, hg11⟩
    have H11 := hidMk ((H.out.grown hg11 hr11).push G4)
    clear H hr11 hg11 X0 X1 X2 X3 Y0 Y1 Y2 Y3
    have H := H11
    clear H11
    clear L90 L91 L40 L41
    obtain ⟨X0, X1, X2, X3⟩ := four_cells H.out.hx
    obtain ⟨Y0, Y1, Y2, Y3⟩ := four_cells H.out.hy
    obtain ⟨L100, L101, _, _⟩ := two_cells (H.out.hex (w10.heap.size, G7) (by simp)).2
    obtain ⟨L40, L41, _, _⟩ := two_cells (H.out.hex (w4.heap.size, I) (by simp)).2
    go_wp2_with fail
    refine (E8'.out _ _ H.out.hr).mono ?_
    rintro e w12 ⟨rfl, hr12, hg12⟩
    have H12 := hidMk ((H.out.grown hg12 hr12).push G8)
    clear H hr12 hg12 X0 X1 X2 X3 Y0 Y1 Y2 Y3
    have H := H12
    clear H12
    clear L100 L101 L40 L41
    have hlt2 := H.out.lt
    obtain ⟨L110, L111, _, _⟩ := two_cells (H.out.hex (w11.heap.size, G4) (by simp)).2
    obtain ⟨L120, L121, _, _⟩ := two_cells (H.out.hex (w12.heap.size, G8) (by simp)).2
    obtain ⟨z0, z1, z2, z3⟩ := four_cells H.out.hz
    obtain ⟨f0, f1, f2, f3⟩ := four_frozen H.out.hz
    clear E1 E2 E3 E4' E5 E6 E7 E8' CI'
    go_wp2_with fail
    refine bp_gen (fun W' => W'.heap[w.heap.size + 1 + 1]? = some (.cells #[.int .i64 G4.n, .int .i64 G4.d, .int .i64 G8.n, .int .i64 G8.d] 92 (0, 0)) ∧ WySt b DB W' ∧ w.grownBy W' (some b)) ⟨four_set H.out.hz _ _ _ _, ?_, ?_⟩ ?_
    · rw [HD.out]
      unfold WySt
      rw [Below.heap_setCell _ _ _ _ (by simp; omega), Below.heap_setCell _ _ _ _ (by simp; omega), Below.heap_setCell _ _ _ _ (by simp; omega), Below.heap_setCell _ _ _ _ (by simp; omega)]
      exact H.out.hr
    · exact gb_new (gb_new (gb_new (gb_new H.out.hg (by omega) 0 _) (by omega) 1 _) (by omega) 2 _) (by omega) 3 _
    · rintro W ⟨hz, hr, hg⟩
      obtain ⟨z0, z1, z2, z3⟩ := four_cells hz
      refine bodyPost_ret (v := .agg #[.int .i64 G4.n, .int .i64 G4.d, .int .i64 G8.n, .int .i64 G8.d]) (by simp [results, Tryz.results93, go_sem, z0, z1, z2, z3]) rfl ⟨?_, ?_, hg⟩
      · show Ending.returned _ = Ending.returned V
        rw [HN.out]
      · exact hr
end Go.Proofs.YtodabmkcihafhaaGreatDoor

/- The document's operations. -/
namespace Go.Proofs.YtodabmkcihafhaaGreatDoor
open Go.RowKit
set_option linter.unusedVariables false

set_option maxHeartbeats 1000000 in
theorem rzero_any (x : Num) (w : World) : Calls Tryz.prog 89 #[.agg #[.int .i64 x.re.n, .int .i64 x.re.d, .int .i64 x.im.n, .int .i64 x.im.d]] w fun e w' => e = .returned (.bool x.zero) ∧ Below w.heap.size w w' := by
  have HZ : Hid (x.zero = (x.re.n == 0 && x.im.n == 0)) := rfl
  generalize x.zero = Z at *
  by_cases h : x.re.n = 0
  · have hb : (x.re.n == 0) = true := by simpa using h
    rw [hb] at HZ
    have HH := hidMk h
    clear h
    go_enter Tryz.func89, Tryz.ntmps89
    go_wp2_with fail
    go_ret
    refine ⟨?_, fr_below w _⟩
    rw [HZ.out]
    rfl
  · have hb : (x.re.n == 0) = false := by simpa using h
    rw [hb] at HZ
    go_enter Tryz.func89, Tryz.ntmps89
    go_wp2_with fail
    go_ret
    refine ⟨?_, fr_below w _⟩
    rw [HZ.out]
    rfl

/-- The blocks of worked: the two numbers, the result, the way (block R), and others behind it. -/
structure Wrk (w0 : World) (R : Nat) (x y : Num) (ex : List (Nat × Array Value × TypeId)) (fl : Bool) (w : World) : Prop where
  hx : w.heap[w0.heap.size]? = some (.cells #[.int .i64 x.re.n, .int .i64 x.re.d, .int .i64 x.im.n, .int .i64 x.im.d] 92 (0, 0))
  hy : w.heap[w0.heap.size + 1]? = some (.cells #[.int .i64 y.re.n, .int .i64 y.re.d, .int .i64 y.im.n, .int .i64 y.im.d] 92 (0, 0))
  hz : w.heap[w0.heap.size + 1 + 1]? = some (.cells #[.int .i64 0, .int .i64 0, .int .i64 0, .int .i64 0] 92 (0, 0))
  hr : WySt R fl w
  hR : w0.heap.size + 1 + 1 < R
  hb : Below w0.heap.size w0 w
  hex : ∀ p ∈ ex, R < p.1 ∧ w.heap[p.1]? = some (.cells p.2.1 p.2.2 (0, 0))
theorem Wrk.grown {w0 w w' : World} {R : Nat} {x y : Num} {ex : List (Nat × Array Value × TypeId)} {fl fl' : Bool} (h : Wrk w0 R x y ex fl w) (g : w.grownBy w' (some R)) (hr : WySt R fl' w') : Wrk w0 R x y ex fl' w' := by
  have l := h.hr.lt
  have r := h.hR
  refine ⟨?_, ?_, ?_, hr, r, h.hb.trans (gb_to_below g (by omega) (by omega)), fun p hp => ⟨(h.hex p hp).1, ?_⟩⟩
  · rw [g.block _ (by omega) (by simp; omega)]; exact h.hx
  · rw [g.block _ (by omega) (by simp; omega)]; exact h.hy
  · rw [g.block _ (by omega) (by simp; omega)]; exact h.hz
  · have q := h.hex p hp
    rw [g.block _ (Array.getElem?_eq_some_iff.1 q.2).1 (by simp; omega)]; exact q.2
theorem Wrk.below {w0 w w' : World} {R : Nat} {x y : Num} {ex : List (Nat × Array Value × TypeId)} {fl : Bool} (h : Wrk w0 R x y ex fl w) (g : Below w.heap.size w w') : Wrk w0 R x y ex fl w' :=
  h.grown ⟨g.os, g.tape, g.output, g.size, fun j hj _ => g.block j hj⟩ (h.hr.below g)
theorem Wrk.push {w0 w : World} {R : Nat} {x y : Num} {ex : List (Nat × Array Value × TypeId)} {fl : Bool} (h : Wrk w0 R x y ex fl w) (cs : Array Value) (t : TypeId) : Wrk w0 R x y ((w.heap.size, cs, t) :: ex) fl (w.alloc (.cells cs t)) := by
  have g := h.below (fr_below w (.cells cs t))
  have l := h.hr.lt
  refine ⟨g.hx, g.hy, g.hz, g.hr, g.hR, g.hb, fun p hp => ?_⟩
  rcases List.mem_cons.1 hp with rfl | hp
  · exact ⟨l, heap_alloc_new w _⟩
  · exact g.hex p hp
theorem Wrk.new (w : World) (x y : Num) : Wrk w (w.heap.size + 1 + 1 + 1) x y [] false ((((w.alloc (.cells #[.int .i64 x.re.n, .int .i64 x.re.d, .int .i64 x.im.n, .int .i64 x.im.d] 92)).alloc (.cells #[.int .i64 y.re.n, .int .i64 y.re.d, .int .i64 y.im.n, .int .i64 y.im.d] 92)).alloc (.cells #[.int .i64 0, .int .i64 0, .int .i64 0, .int .i64 0] 92)).alloc (.cells #[.bool false] 205)) := by
  refine ⟨?_, ?_, ?_, ?_, by omega, ?_, fun p hp => by cases hp⟩
  · rw [Below.heap_alloc _ _ _ (by simp; omega), Below.heap_alloc _ _ _ (by simp; omega), Below.heap_alloc _ _ _ (by simp)]
    exact heap_alloc_new w _
  · rw [Below.heap_alloc _ _ _ (by simp), Below.heap_alloc _ _ _ (by simp)]
    have := heap_alloc_new (w.alloc (.cells #[.int .i64 x.re.n, .int .i64 x.re.d, .int .i64 x.im.n, .int .i64 x.im.d] 92)) (.cells #[.int .i64 y.re.n, .int .i64 y.re.d, .int .i64 y.im.n, .int .i64 y.im.d] 92)
    simpa using this
  · rw [Below.heap_alloc _ _ _ (by simp)]
    have := heap_alloc_new ((w.alloc (.cells #[.int .i64 x.re.n, .int .i64 x.re.d, .int .i64 x.im.n, .int .i64 x.im.d] 92)).alloc (.cells #[.int .i64 y.re.n, .int .i64 y.re.d, .int .i64 y.im.n, .int .i64 y.im.d] 92)) (.cells #[.int .i64 0, .int .i64 0, .int .i64 0, .int .i64 0] 92)
    simpa using this
  · have := heap_alloc_new (((w.alloc (.cells #[.int .i64 x.re.n, .int .i64 x.re.d, .int .i64 x.im.n, .int .i64 x.im.d] 92)).alloc (.cells #[.int .i64 y.re.n, .int .i64 y.re.d, .int .i64 y.im.n, .int .i64 y.im.d] 92)).alloc (.cells #[.int .i64 0, .int .i64 0, .int .i64 0, .int .i64 0] 92)) (.cells #[.bool false] 205)
    unfold WySt
    simpa using this
  · exact ((((Below.refl _ w).alloc (Nat.le_refl _) _).alloc (by simp) _).alloc (by simp; omega) _).alloc (by simp; omega) _
/-- A block behind the way, written whole. -/
theorem Wrk.set4 {w0 w : World} {R B : Nat} {x y : Num} {ex : List (Nat × Array Value × TypeId)} {fl : Bool} (h : Wrk w0 R x y ex fl w) (hB : R < B) (hc : w.heap[B]? = some (.cells #[.int .i64 x.re.n, .int .i64 x.re.d, .int .i64 x.im.n, .int .i64 x.im.d] 92 (0, 0))) (p q r s : Value) : Wrk w0 R x y [(B, #[p, q, r, s], 92)] fl ((((w.setCell ⟨B, 0, none⟩ p).setCell ⟨B, 1, none⟩ q).setCell ⟨B, 2, none⟩ r).setCell ⟨B, 3, none⟩ s) := by
  have hR := h.hR
  have k : ∀ j, j ≠ B → ((((w.setCell ⟨B, 0, none⟩ p).setCell ⟨B, 1, none⟩ q).setCell ⟨B, 2, none⟩ r).setCell ⟨B, 3, none⟩ s).heap[j]? = w.heap[j]? := fun j hj => by
    rw [Below.heap_setCell _ _ _ _ hj, Below.heap_setCell _ _ _ _ hj, Below.heap_setCell _ _ _ _ hj, Below.heap_setCell _ _ _ _ hj]
  refine ⟨?_, ?_, ?_, ?_, hR, below_four h.hb (by omega) _ _ _ _, fun u hu => ?_⟩
  · rw [k _ (by omega)]; exact h.hx
  · rw [k _ (by omega)]; exact h.hy
  · rw [k _ (by omega)]; exact h.hz
  · unfold WySt; rw [k _ (by omega)]; exact h.hr
  · have : u = (B, #[p, q, r, s], 92) := by simpa using hu
    subst this
    exact ⟨hB, four_set hc _ _ _ _⟩

def wkV (op : Int) (x y : Num) : Value := match opP op x y with | .ok z => .tuple #[nV z, .int .i64 0] | .err q => .tuple #[nV x, .int .i64 q]

set_option maxHeartbeats 4000000 in
set_option maxRecDepth 100000 in
theorem wk_plus (x y : Num) (w : World) (hx : x.Ok) (hy : y.Ok) :
    Calls Tryz.prog 63 #[.int .i64 43, .agg #[.int .i64 x.re.n, .int .i64 x.re.d, .int .i64 x.im.n, .int .i64 x.im.d], .agg #[.int .i64 y.re.n, .int .i64 y.re.d, .int .i64 y.im.n, .int .i64 y.im.d]] w fun e w' => e = .returned (wkV 43 x y) ∧ Below w.heap.size w w' := by
  have C1 : Hid (∀ fl W, WySt (w.heap.size + 1 + 1 + 1) fl W → Calls Tryz.prog 90 #[.pointer (some ⟨w.heap.size + 1 + 1 + 1, 0, none⟩), .agg #[.int .i64 x.re.n, .int .i64 x.re.d], .agg #[.int .i64 y.re.n, .int .i64 y.re.d]] W fun e w' => e = .returned (.agg #[.int .i64 (plF x.re y.re).n, .int .i64 (plF x.re y.re).d]) ∧ WySt (w.heap.size + 1 + 1 + 1) (fl || plB x.re y.re) w' ∧ W.grownBy w' (some (w.heap.size + 1 + 1 + 1))) := fun fl W h => rplus_any _ fl _ _ W hx.1 hy.1 h
  have C2 : Hid (∀ fl W, WySt (w.heap.size + 1 + 1 + 1) fl W → Calls Tryz.prog 90 #[.pointer (some ⟨w.heap.size + 1 + 1 + 1, 0, none⟩), .agg #[.int .i64 x.im.n, .int .i64 x.im.d], .agg #[.int .i64 y.im.n, .int .i64 y.im.d]] W fun e w' => e = .returned (.agg #[.int .i64 (plF x.im y.im).n, .int .i64 (plF x.im y.im).d]) ∧ WySt (w.heap.size + 1 + 1 + 1) (fl || plB x.im y.im) w' ∧ W.grownBy w' (some (w.heap.size + 1 + 1 + 1))) := fun fl W h => rplus_any _ fl _ _ W hx.2 hy.2 h
  have HV : Hid (wkV 43 x y = if ((false || plB x.re y.re) || plB x.im y.im) then .tuple #[.agg #[.int .i64 x.re.n, .int .i64 x.re.d, .int .i64 x.im.n, .int .i64 x.im.d], .int .i64 5] else .tuple #[.agg #[.int .i64 (plF x.re y.re).n, .int .i64 (plF x.re y.re).d, .int .i64 (plF x.im y.im).n, .int .i64 (plF x.im y.im).d], .int .i64 0]) := by
    show wkV 43 x y = _
    unfold wkV
    rw [show opP 43 x y = bigOr (addB x y) (addN x y) from rfl, Bool.false_or]
    unfold bigOr
    rw [show addB x y = (plB x.re y.re || plB x.im y.im) from rfl]
    cases plB x.re y.re || plB x.im y.im <;> rfl
  generalize wkV 43 x y = V at *
  generalize plF x.re y.re = F1 at *
  generalize plF x.im y.im = F2 at *
  generalize plB x.re y.re = B1 at *
  generalize plB x.im y.im = B2 at *
  have H := hidMk ((Wrk.new w x y).push #[.int .i64 x.re.n, .int .i64 x.re.d, .int .i64 x.im.n, .int .i64 x.im.d] 92)
  obtain ⟨X0, X1, X2, X3⟩ := four_cells H.out.hx
  obtain ⟨Y0, Y1, Y2, Y3⟩ := four_cells H.out.hy
  rw [show ((((w.alloc (.cells #[.int .i64 x.re.n, .int .i64 x.re.d, .int .i64 x.im.n, .int .i64 x.im.d] 92)).alloc (.cells #[.int .i64 y.re.n, .int .i64 y.re.d, .int .i64 y.im.n, .int .i64 y.im.d] 92)).alloc (.cells #[.int .i64 0, .int .i64 0, .int .i64 0, .int .i64 0] 92)).alloc (.cells #[.bool false] 205)).heap.size = w.heap.size + 1 + 1 + 1 + 1 by simp] at H
  clear hx hy
  go_enter Tryz.func63, Tryz.ntmps63
  go_wp2_with fail
  refine (C1.out _ _ H.out.hr).mono ?_
  rintro e w1 ⟨rfl, hr1, hg1⟩
  have H1 := hidMk ((H.out.grown hg1 hr1).push #[.int .i64 F1.n, .int .i64 F1.d] 90)
  clear H X0 X1 X2 X3 Y0 Y1 Y2 Y3 hr1 hg1
  obtain ⟨X0, X1, X2, X3⟩ := four_cells H1.out.hx
  obtain ⟨Y0, Y1, Y2, Y3⟩ := four_cells H1.out.hy
  go_wp2_with fail
  refine (C2.out _ _ H1.out.hr).mono ?_
  rintro e w2 ⟨rfl, hr2, hg2⟩
  have H2 := hidMk ((H1.out.grown hg2 hr2).push #[.int .i64 F2.n, .int .i64 F2.d] 90)
  clear H1 X0 X1 X2 X3 Y0 Y1 Y2 Y3 hr2 hg2 C1 C2
  obtain ⟨L0, L1, _, _⟩ := two_cells (H2.out.hex (w1.heap.size, #[.int .i64 F1.n, .int .i64 F1.d], 90) (by simp)).2
  obtain ⟨L2, L3, _, _⟩ := two_cells (H2.out.hex (w2.heap.size, #[.int .i64 F2.n, .int .i64 F2.d], 90) (by simp)).2
  have hzb := H2.out.hex (w.heap.size + 1 + 1 + 1 + 1, #[.int .i64 x.re.n, .int .i64 x.re.d, .int .i64 x.im.n, .int .i64 x.im.d], 92) (by simp)
  obtain ⟨u0, u1, u2, u3⟩ := four_cells hzb.2
  obtain ⟨g0, g1, g2, g3⟩ := four_frozen hzb.2
  have HZB := hidMk hzb
  clear hzb
  go_upto_region 24 with fail
  have H3 := hidMk (H2.out.set4 HZB.out.1 HZB.out.2 (.int .i64 F1.n) (.int .i64 F1.d) (.int .i64 F2.n) (.int .i64 F2.d))
  clear H2 HZB L0 L1 L2 L3 u0 u1 u2 u3 g0 g1 g2 g3
  generalize (((World.setCell _ _ _).setCell _ _).setCell _ _).setCell _ _ = W3 at *
  have H := H3
  clear H3
  generalize ((false || B1) || B2) = FL at *
  obtain ⟨r0, fr0⟩ := H.out.hr.cells
  obtain ⟨X0, X1, X2, X3⟩ := four_cells H.out.hx
  obtain ⟨z0, z1, z2, z3⟩ := four_cells H.out.hz
  obtain ⟨f0, f1, f2, f3⟩ := four_frozen H.out.hz
  obtain ⟨u0, u1, u2, u3⟩ := four_cells (H.out.hex (w.heap.size + 1 + 1 + 1 + 1, #[.int .i64 F1.n, .int .i64 F1.d, .int .i64 F2.n, .int .i64 F2.d], 92) (by simp)).2
  have hRR := H.out.hR
  cases FL with
  | true =>
    go_wp2_with fail
    refine bp_gen (fun W' => W'.heap[w.heap.size + 1 + 1]? = some (.cells #[.int .i64 x.re.n, .int .i64 x.re.d, .int .i64 x.im.n, .int .i64 x.im.d] 92 (0, 0)) ∧ Below w.heap.size w W') ⟨four_set H.out.hz _ _ _ _, below_four H.out.hb (by omega) _ _ _ _⟩ ?_
    rintro W ⟨hz, hb⟩
    obtain ⟨z0, z1, z2, z3⟩ := four_cells hz
    rw [HV.out]
    exact bodyPost_ret (v := .tuple #[.agg #[.int .i64 x.re.n, .int .i64 x.re.d, .int .i64 x.im.n, .int .i64 x.im.d], .int .i64 5]) (by simp [results, Tryz.results63, go_sem, z0, z1, z2, z3]) rfl ⟨rfl, hb⟩
  | false =>
    go_wp2_with fail
    refine bp_gen (fun W' => W'.heap[w.heap.size + 1 + 1]? = some (.cells #[.int .i64 F1.n, .int .i64 F1.d, .int .i64 F2.n, .int .i64 F2.d] 92 (0, 0)) ∧ Below w.heap.size w W') ⟨four_set H.out.hz _ _ _ _, below_four H.out.hb (by omega) _ _ _ _⟩ ?_
    rintro W ⟨hz, hb⟩
    obtain ⟨z0, z1, z2, z3⟩ := four_cells hz
    rw [HV.out]
    exact bodyPost_ret (v := .tuple #[.agg #[.int .i64 F1.n, .int .i64 F1.d, .int .i64 F2.n, .int .i64 F2.d], .int .i64 0]) (by simp [results, Tryz.results63, go_sem, z0, z1, z2, z3]) rfl ⟨rfl, hb⟩

set_option maxHeartbeats 4000000 in
set_option maxRecDepth 100000 in
theorem wk_less (x y : Num) (w : World) (hx : x.Ok) (hy : y.Ok) :
    Calls Tryz.prog 63 #[.int .i64 8722, .agg #[.int .i64 x.re.n, .int .i64 x.re.d, .int .i64 x.im.n, .int .i64 x.im.d], .agg #[.int .i64 y.re.n, .int .i64 y.re.d, .int .i64 y.im.n, .int .i64 y.im.d]] w fun e w' => e = .returned (wkV 8722 x y) ∧ Below w.heap.size w w' := by
  have C1 : Hid (∀ fl W, WySt (w.heap.size + 1 + 1 + 1) fl W → Calls Tryz.prog 91 #[.pointer (some ⟨w.heap.size + 1 + 1 + 1, 0, none⟩), .agg #[.int .i64 x.re.n, .int .i64 x.re.d], .agg #[.int .i64 y.re.n, .int .i64 y.re.d]] W fun e w' => e = .returned (.agg #[.int .i64 (plF x.re y.re.neg).n, .int .i64 (plF x.re y.re.neg).d]) ∧ WySt (w.heap.size + 1 + 1 + 1) (fl || plB x.re y.re.neg) w' ∧ W.grownBy w' (some (w.heap.size + 1 + 1 + 1))) := fun fl W h => rless_any _ fl _ _ W hx.1 hy.1 h
  have C2 : Hid (∀ fl W, WySt (w.heap.size + 1 + 1 + 1) fl W → Calls Tryz.prog 91 #[.pointer (some ⟨w.heap.size + 1 + 1 + 1, 0, none⟩), .agg #[.int .i64 x.im.n, .int .i64 x.im.d], .agg #[.int .i64 y.im.n, .int .i64 y.im.d]] W fun e w' => e = .returned (.agg #[.int .i64 (plF x.im y.im.neg).n, .int .i64 (plF x.im y.im.neg).d]) ∧ WySt (w.heap.size + 1 + 1 + 1) (fl || plB x.im y.im.neg) w' ∧ W.grownBy w' (some (w.heap.size + 1 + 1 + 1))) := fun fl W h => rless_any _ fl _ _ W hx.2 hy.2 h
  have HV : Hid (wkV 8722 x y = if ((false || plB x.re y.re.neg) || plB x.im y.im.neg) then .tuple #[.agg #[.int .i64 x.re.n, .int .i64 x.re.d, .int .i64 x.im.n, .int .i64 x.im.d], .int .i64 5] else .tuple #[.agg #[.int .i64 (plF x.re y.re.neg).n, .int .i64 (plF x.re y.re.neg).d, .int .i64 (plF x.im y.im.neg).n, .int .i64 (plF x.im y.im.neg).d], .int .i64 0]) := by
    show wkV 8722 x y = _
    unfold wkV
    rw [show opP 8722 x y = bigOr (subB x y) (subN x y) from rfl, Bool.false_or]
    unfold bigOr
    rw [show subB x y = (plB x.re y.re.neg || plB x.im y.im.neg) from rfl]
    cases plB x.re y.re.neg || plB x.im y.im.neg <;> rfl
  generalize wkV 8722 x y = V at *
  generalize plF x.re y.re.neg = F1 at *
  generalize plF x.im y.im.neg = F2 at *
  generalize plB x.re y.re.neg = B1 at *
  generalize plB x.im y.im.neg = B2 at *
  have H := hidMk ((Wrk.new w x y).push #[.int .i64 x.re.n, .int .i64 x.re.d, .int .i64 x.im.n, .int .i64 x.im.d] 92)
  obtain ⟨X0, X1, X2, X3⟩ := four_cells H.out.hx
  obtain ⟨Y0, Y1, Y2, Y3⟩ := four_cells H.out.hy
  rw [show ((((w.alloc (.cells #[.int .i64 x.re.n, .int .i64 x.re.d, .int .i64 x.im.n, .int .i64 x.im.d] 92)).alloc (.cells #[.int .i64 y.re.n, .int .i64 y.re.d, .int .i64 y.im.n, .int .i64 y.im.d] 92)).alloc (.cells #[.int .i64 0, .int .i64 0, .int .i64 0, .int .i64 0] 92)).alloc (.cells #[.bool false] 205)).heap.size = w.heap.size + 1 + 1 + 1 + 1 by simp] at H
  clear hx hy
  go_enter Tryz.func63, Tryz.ntmps63
  go_wp2_with fail
  refine (C1.out _ _ H.out.hr).mono ?_
  rintro e w1 ⟨rfl, hr1, hg1⟩
  have H1 := hidMk ((H.out.grown hg1 hr1).push #[.int .i64 F1.n, .int .i64 F1.d] 90)
  clear H X0 X1 X2 X3 Y0 Y1 Y2 Y3 hr1 hg1
  obtain ⟨X0, X1, X2, X3⟩ := four_cells H1.out.hx
  obtain ⟨Y0, Y1, Y2, Y3⟩ := four_cells H1.out.hy
  go_wp2_with fail
  refine (C2.out _ _ H1.out.hr).mono ?_
  rintro e w2 ⟨rfl, hr2, hg2⟩
  have H2 := hidMk ((H1.out.grown hg2 hr2).push #[.int .i64 F2.n, .int .i64 F2.d] 90)
  clear H1 X0 X1 X2 X3 Y0 Y1 Y2 Y3 hr2 hg2 C1 C2
  obtain ⟨L0, L1, _, _⟩ := two_cells (H2.out.hex (w1.heap.size, #[.int .i64 F1.n, .int .i64 F1.d], 90) (by simp)).2
  obtain ⟨L2, L3, _, _⟩ := two_cells (H2.out.hex (w2.heap.size, #[.int .i64 F2.n, .int .i64 F2.d], 90) (by simp)).2
  have hzb := H2.out.hex (w.heap.size + 1 + 1 + 1 + 1, #[.int .i64 x.re.n, .int .i64 x.re.d, .int .i64 x.im.n, .int .i64 x.im.d], 92) (by simp)
  obtain ⟨u0, u1, u2, u3⟩ := four_cells hzb.2
  obtain ⟨g0, g1, g2, g3⟩ := four_frozen hzb.2
  have HZB := hidMk hzb
  clear hzb
  go_upto_region 24 with fail
  have H3 := hidMk (H2.out.set4 HZB.out.1 HZB.out.2 (.int .i64 F1.n) (.int .i64 F1.d) (.int .i64 F2.n) (.int .i64 F2.d))
  clear H2 HZB L0 L1 L2 L3 u0 u1 u2 u3 g0 g1 g2 g3
  generalize (((World.setCell _ _ _).setCell _ _).setCell _ _).setCell _ _ = W3 at *
  have H := H3
  clear H3
  generalize ((false || B1) || B2) = FL at *
  obtain ⟨r0, fr0⟩ := H.out.hr.cells
  obtain ⟨X0, X1, X2, X3⟩ := four_cells H.out.hx
  obtain ⟨z0, z1, z2, z3⟩ := four_cells H.out.hz
  obtain ⟨f0, f1, f2, f3⟩ := four_frozen H.out.hz
  obtain ⟨u0, u1, u2, u3⟩ := four_cells (H.out.hex (w.heap.size + 1 + 1 + 1 + 1, #[.int .i64 F1.n, .int .i64 F1.d, .int .i64 F2.n, .int .i64 F2.d], 92) (by simp)).2
  have hRR := H.out.hR
  cases FL with
  | true =>
    go_wp2_with fail
    refine bp_gen (fun W' => W'.heap[w.heap.size + 1 + 1]? = some (.cells #[.int .i64 x.re.n, .int .i64 x.re.d, .int .i64 x.im.n, .int .i64 x.im.d] 92 (0, 0)) ∧ Below w.heap.size w W') ⟨four_set H.out.hz _ _ _ _, below_four H.out.hb (by omega) _ _ _ _⟩ ?_
    rintro W ⟨hz, hb⟩
    obtain ⟨z0, z1, z2, z3⟩ := four_cells hz
    rw [HV.out]
    exact bodyPost_ret (v := .tuple #[.agg #[.int .i64 x.re.n, .int .i64 x.re.d, .int .i64 x.im.n, .int .i64 x.im.d], .int .i64 5]) (by simp [results, Tryz.results63, go_sem, z0, z1, z2, z3]) rfl ⟨rfl, hb⟩
  | false =>
    go_wp2_with fail
    refine bp_gen (fun W' => W'.heap[w.heap.size + 1 + 1]? = some (.cells #[.int .i64 F1.n, .int .i64 F1.d, .int .i64 F2.n, .int .i64 F2.d] 92 (0, 0)) ∧ Below w.heap.size w W') ⟨four_set H.out.hz _ _ _ _, below_four H.out.hb (by omega) _ _ _ _⟩ ?_
    rintro W ⟨hz, hb⟩
    obtain ⟨z0, z1, z2, z3⟩ := four_cells hz
    rw [HV.out]
    exact bodyPost_ret (v := .tuple #[.agg #[.int .i64 F1.n, .int .i64 F1.d, .int .i64 F2.n, .int .i64 F2.d], .int .i64 0]) (by simp [results, Tryz.results63, go_sem, z0, z1, z2, z3]) rfl ⟨rfl, hb⟩

set_option maxHeartbeats 4000000 in
set_option maxRecDepth 100000 in
theorem wk_times (x y : Num) (w : World) (hx : x.Ok) (hy : y.Ok) :
    Calls Tryz.prog 63 #[.int .i64 215, .agg #[.int .i64 x.re.n, .int .i64 x.re.d, .int .i64 x.im.n, .int .i64 x.im.d], .agg #[.int .i64 y.re.n, .int .i64 y.re.d, .int .i64 y.im.n, .int .i64 y.im.d]] w fun e w' => e = .returned (wkV 215 x y) ∧ Below w.heap.size w w' := by
  have C1 : Hid (∀ fl W, WySt (w.heap.size + 1 + 1 + 1) fl W → Calls Tryz.prog 92 #[.pointer (some ⟨w.heap.size + 1 + 1 + 1, 0, none⟩), .agg #[.int .i64 x.re.n, .int .i64 x.re.d, .int .i64 x.im.n, .int .i64 x.im.d], .agg #[.int .i64 y.re.n, .int .i64 y.re.d, .int .i64 y.im.n, .int .i64 y.im.d]] W fun e w' => e = .returned (.agg #[.int .i64 (mulN x y).re.n, .int .i64 (mulN x y).re.d, .int .i64 (mulN x y).im.n, .int .i64 (mulN x y).im.d]) ∧ WySt (w.heap.size + 1 + 1 + 1) (fl || mulB x y) w' ∧ W.grownBy w' (some (w.heap.size + 1 + 1 + 1))) := fun fl W h => rprod_any _ fl x y W hx hy h
  have HV : Hid (wkV 215 x y = if (false || mulB x y) then .tuple #[.agg #[.int .i64 x.re.n, .int .i64 x.re.d, .int .i64 x.im.n, .int .i64 x.im.d], .int .i64 5] else .tuple #[.agg #[.int .i64 (mulN x y).re.n, .int .i64 (mulN x y).re.d, .int .i64 (mulN x y).im.n, .int .i64 (mulN x y).im.d], .int .i64 0]) := by
    show wkV 215 x y = _
    unfold wkV
    rw [show opP 215 x y = bigOr (mulB x y) (mulN x y) from rfl, Bool.false_or]
    unfold bigOr
    cases mulB x y <;> rfl
  generalize wkV 215 x y = V at *
  generalize mulB x y = B1 at *
  generalize mulN x y = M at *
  have H := hidMk ((Wrk.new w x y).push #[.int .i64 x.re.n, .int .i64 x.re.d, .int .i64 x.im.n, .int .i64 x.im.d] 92)
  obtain ⟨X0, X1, X2, X3⟩ := four_cells H.out.hx
  obtain ⟨Y0, Y1, Y2, Y3⟩ := four_cells H.out.hy
  rw [show ((((w.alloc (.cells #[.int .i64 x.re.n, .int .i64 x.re.d, .int .i64 x.im.n, .int .i64 x.im.d] 92)).alloc (.cells #[.int .i64 y.re.n, .int .i64 y.re.d, .int .i64 y.im.n, .int .i64 y.im.d] 92)).alloc (.cells #[.int .i64 0, .int .i64 0, .int .i64 0, .int .i64 0] 92)).alloc (.cells #[.bool false] 205)).heap.size = w.heap.size + 1 + 1 + 1 + 1 by simp] at H
  clear hx hy
  have hzb := H.out.hex (w.heap.size + 1 + 1 + 1 + 1, #[.int .i64 x.re.n, .int .i64 x.re.d, .int .i64 x.im.n, .int .i64 x.im.d], 92) (by simp)
  go_enter Tryz.func63, Tryz.ntmps63
  go_wp2_with fail
  refine (C1.out _ _ H.out.hr).mono ?_
  rintro e w1 ⟨rfl, hr1, hg1⟩
  have H2 := hidMk (H.out.grown hg1 hr1)
  clear H X0 X1 X2 X3 Y0 Y1 Y2 Y3 hr1 hg1 C1 hzb
  have hzb := H2.out.hex (w.heap.size + 1 + 1 + 1 + 1, #[.int .i64 x.re.n, .int .i64 x.re.d, .int .i64 x.im.n, .int .i64 x.im.d], 92) (by simp)
  obtain ⟨u0, u1, u2, u3⟩ := four_cells hzb.2
  obtain ⟨g0, g1, g2, g3⟩ := four_frozen hzb.2
  have HZB := hidMk hzb
  clear hzb
  go_upto_region 24 with fail
  have H3 := hidMk (H2.out.set4 HZB.out.1 HZB.out.2 (.int .i64 M.re.n) (.int .i64 M.re.d) (.int .i64 M.im.n) (.int .i64 M.im.d))
  clear H2 HZB u0 u1 u2 u3 g0 g1 g2 g3
  generalize (((World.setCell _ _ _).setCell _ _).setCell _ _).setCell _ _ = W3 at *
  have H := H3
  clear H3
  generalize (false || B1) = FL at *
  obtain ⟨r0, fr0⟩ := H.out.hr.cells
  obtain ⟨X0, X1, X2, X3⟩ := four_cells H.out.hx
  obtain ⟨z0, z1, z2, z3⟩ := four_cells H.out.hz
  obtain ⟨f0, f1, f2, f3⟩ := four_frozen H.out.hz
  obtain ⟨u0, u1, u2, u3⟩ := four_cells (H.out.hex (w.heap.size + 1 + 1 + 1 + 1, #[.int .i64 M.re.n, .int .i64 M.re.d, .int .i64 M.im.n, .int .i64 M.im.d], 92) (by simp)).2
  have hRR := H.out.hR
  cases FL with
  | true =>
    go_wp2_with fail
    refine bp_gen (fun W' => W'.heap[w.heap.size + 1 + 1]? = some (.cells #[.int .i64 x.re.n, .int .i64 x.re.d, .int .i64 x.im.n, .int .i64 x.im.d] 92 (0, 0)) ∧ Below w.heap.size w W') ⟨four_set H.out.hz _ _ _ _, below_four H.out.hb (by omega) _ _ _ _⟩ ?_
    rintro W ⟨hz, hb⟩
    obtain ⟨z0, z1, z2, z3⟩ := four_cells hz
    rw [HV.out]
    exact bodyPost_ret (v := .tuple #[.agg #[.int .i64 x.re.n, .int .i64 x.re.d, .int .i64 x.im.n, .int .i64 x.im.d], .int .i64 5]) (by simp [results, Tryz.results63, go_sem, z0, z1, z2, z3]) rfl ⟨rfl, hb⟩
  | false =>
    go_wp2_with fail
    refine bp_gen (fun W' => W'.heap[w.heap.size + 1 + 1]? = some (.cells #[.int .i64 M.re.n, .int .i64 M.re.d, .int .i64 M.im.n, .int .i64 M.im.d] 92 (0, 0)) ∧ Below w.heap.size w W') ⟨four_set H.out.hz _ _ _ _, below_four H.out.hb (by omega) _ _ _ _⟩ ?_
    rintro W ⟨hz, hb⟩
    obtain ⟨z0, z1, z2, z3⟩ := four_cells hz
    rw [HV.out]
    exact bodyPost_ret (v := .tuple #[.agg #[.int .i64 M.re.n, .int .i64 M.re.d, .int .i64 M.im.n, .int .i64 M.im.d], .int .i64 0]) (by simp [results, Tryz.results63, go_sem, z0, z1, z2, z3]) rfl ⟨rfl, hb⟩

set_option maxHeartbeats 4000000 in
set_option maxRecDepth 100000 in
theorem wk_square (x y : Num) (w : World) (hx : x.Ok) (hy : y.Ok) :
    Calls Tryz.prog 63 #[.int .i64 178, .agg #[.int .i64 x.re.n, .int .i64 x.re.d, .int .i64 x.im.n, .int .i64 x.im.d], .agg #[.int .i64 y.re.n, .int .i64 y.re.d, .int .i64 y.im.n, .int .i64 y.im.d]] w fun e w' => e = .returned (wkV 178 x y) ∧ Below w.heap.size w w' := by
  have C1 : Hid (∀ fl W, WySt (w.heap.size + 1 + 1 + 1) fl W → Calls Tryz.prog 92 #[.pointer (some ⟨w.heap.size + 1 + 1 + 1, 0, none⟩), .agg #[.int .i64 x.re.n, .int .i64 x.re.d, .int .i64 x.im.n, .int .i64 x.im.d], .agg #[.int .i64 x.re.n, .int .i64 x.re.d, .int .i64 x.im.n, .int .i64 x.im.d]] W fun e w' => e = .returned (.agg #[.int .i64 (mulN x x).re.n, .int .i64 (mulN x x).re.d, .int .i64 (mulN x x).im.n, .int .i64 (mulN x x).im.d]) ∧ WySt (w.heap.size + 1 + 1 + 1) (fl || mulB x x) w' ∧ W.grownBy w' (some (w.heap.size + 1 + 1 + 1))) := fun fl W h => rprod_any _ fl x x W hx hx h
  have HV : Hid (wkV 178 x y = if (false || mulB x x) then .tuple #[.agg #[.int .i64 x.re.n, .int .i64 x.re.d, .int .i64 x.im.n, .int .i64 x.im.d], .int .i64 5] else .tuple #[.agg #[.int .i64 (mulN x x).re.n, .int .i64 (mulN x x).re.d, .int .i64 (mulN x x).im.n, .int .i64 (mulN x x).im.d], .int .i64 0]) := by
    show wkV 178 x y = _
    unfold wkV
    rw [show opP 178 x y = bigOr (mulB x x) (mulN x x) from rfl, Bool.false_or]
    unfold bigOr
    cases mulB x x <;> rfl
  generalize wkV 178 x y = V at *
  generalize mulB x x = B1 at *
  generalize mulN x x = M at *
  have H := hidMk ((Wrk.new w x y).push #[.int .i64 x.re.n, .int .i64 x.re.d, .int .i64 x.im.n, .int .i64 x.im.d] 92)
  obtain ⟨X0, X1, X2, X3⟩ := four_cells H.out.hx
  obtain ⟨Y0, Y1, Y2, Y3⟩ := four_cells H.out.hy
  rw [show ((((w.alloc (.cells #[.int .i64 x.re.n, .int .i64 x.re.d, .int .i64 x.im.n, .int .i64 x.im.d] 92)).alloc (.cells #[.int .i64 y.re.n, .int .i64 y.re.d, .int .i64 y.im.n, .int .i64 y.im.d] 92)).alloc (.cells #[.int .i64 0, .int .i64 0, .int .i64 0, .int .i64 0] 92)).alloc (.cells #[.bool false] 205)).heap.size = w.heap.size + 1 + 1 + 1 + 1 by simp] at H
  clear hx hy
  have hzb := H.out.hex (w.heap.size + 1 + 1 + 1 + 1, #[.int .i64 x.re.n, .int .i64 x.re.d, .int .i64 x.im.n, .int .i64 x.im.d], 92) (by simp)
  go_enter Tryz.func63, Tryz.ntmps63
  go_wp2_with fail
  refine (C1.out _ _ H.out.hr).mono ?_
  rintro e w1 ⟨rfl, hr1, hg1⟩
  have H2 := hidMk (H.out.grown hg1 hr1)
  clear H X0 X1 X2 X3 Y0 Y1 Y2 Y3 hr1 hg1 C1 hzb
  have hzb := H2.out.hex (w.heap.size + 1 + 1 + 1 + 1, #[.int .i64 x.re.n, .int .i64 x.re.d, .int .i64 x.im.n, .int .i64 x.im.d], 92) (by simp)
  obtain ⟨u0, u1, u2, u3⟩ := four_cells hzb.2
  obtain ⟨g0, g1, g2, g3⟩ := four_frozen hzb.2
  have HZB := hidMk hzb
  clear hzb
  go_upto_region 24 with fail
  have H3 := hidMk (H2.out.set4 HZB.out.1 HZB.out.2 (.int .i64 M.re.n) (.int .i64 M.re.d) (.int .i64 M.im.n) (.int .i64 M.im.d))
  clear H2 HZB u0 u1 u2 u3 g0 g1 g2 g3
  generalize (((World.setCell _ _ _).setCell _ _).setCell _ _).setCell _ _ = W3 at *
  have H := H3
  clear H3
  generalize (false || B1) = FL at *
  obtain ⟨r0, fr0⟩ := H.out.hr.cells
  obtain ⟨X0, X1, X2, X3⟩ := four_cells H.out.hx
  obtain ⟨z0, z1, z2, z3⟩ := four_cells H.out.hz
  obtain ⟨f0, f1, f2, f3⟩ := four_frozen H.out.hz
  obtain ⟨u0, u1, u2, u3⟩ := four_cells (H.out.hex (w.heap.size + 1 + 1 + 1 + 1, #[.int .i64 M.re.n, .int .i64 M.re.d, .int .i64 M.im.n, .int .i64 M.im.d], 92) (by simp)).2
  have hRR := H.out.hR
  cases FL with
  | true =>
    go_wp2_with fail
    refine bp_gen (fun W' => W'.heap[w.heap.size + 1 + 1]? = some (.cells #[.int .i64 x.re.n, .int .i64 x.re.d, .int .i64 x.im.n, .int .i64 x.im.d] 92 (0, 0)) ∧ Below w.heap.size w W') ⟨four_set H.out.hz _ _ _ _, below_four H.out.hb (by omega) _ _ _ _⟩ ?_
    rintro W ⟨hz, hb⟩
    obtain ⟨z0, z1, z2, z3⟩ := four_cells hz
    rw [HV.out]
    exact bodyPost_ret (v := .tuple #[.agg #[.int .i64 x.re.n, .int .i64 x.re.d, .int .i64 x.im.n, .int .i64 x.im.d], .int .i64 5]) (by simp [results, Tryz.results63, go_sem, z0, z1, z2, z3]) rfl ⟨rfl, hb⟩
  | false =>
    go_wp2_with fail
    refine bp_gen (fun W' => W'.heap[w.heap.size + 1 + 1]? = some (.cells #[.int .i64 M.re.n, .int .i64 M.re.d, .int .i64 M.im.n, .int .i64 M.im.d] 92 (0, 0)) ∧ Below w.heap.size w W') ⟨four_set H.out.hz _ _ _ _, below_four H.out.hb (by omega) _ _ _ _⟩ ?_
    rintro W ⟨hz, hb⟩
    obtain ⟨z0, z1, z2, z3⟩ := four_cells hz
    rw [HV.out]
    exact bodyPost_ret (v := .tuple #[.agg #[.int .i64 M.re.n, .int .i64 M.re.d, .int .i64 M.im.n, .int .i64 M.im.d], .int .i64 0]) (by simp [results, Tryz.results63, go_sem, z0, z1, z2, z3]) rfl ⟨rfl, hb⟩

set_option maxHeartbeats 4000000 in
set_option maxRecDepth 100000 in
theorem wk_neg (x y : Num) (w : World) (hx : x.Ok) (hy : y.Ok) :
    Calls Tryz.prog 63 #[.int .i64 110, .agg #[.int .i64 x.re.n, .int .i64 x.re.d, .int .i64 x.im.n, .int .i64 x.im.d], .agg #[.int .i64 y.re.n, .int .i64 y.re.d, .int .i64 y.im.n, .int .i64 y.im.d]] w fun e w' => e = .returned (wkV 110 x y) ∧ Below w.heap.size w w' := by
  have HV : Hid (wkV 110 x y = .tuple #[.agg #[.int .i64 (x.neg).re.n, .int .i64 (x.neg).re.d, .int .i64 (x.neg).im.n, .int .i64 (x.neg).im.d], .int .i64 0]) := rfl
  have q1 : wrap64 (-x.re.n) = -x.re.n := by unfold wrap64; have := hx.1.2.2; omega
  have q2 : wrap64 (-x.im.n) = -x.im.n := by unfold wrap64; have := hx.2.2.2; omega
  have HM : Hid ((.agg #[.int .i64 (x.neg).re.n, .int .i64 (x.neg).re.d, .int .i64 (x.neg).im.n, .int .i64 (x.neg).im.d] : Value) = .agg #[.int .i64 (-x.re.n), .int .i64 x.re.d, .int .i64 (-x.im.n), .int .i64 x.im.d]) := rfl
  rw [HM.out] at HV
  generalize wkV 110 x y = V at *
  have H := hidMk ((Wrk.new w x y).push #[.int .i64 x.re.n, .int .i64 x.re.d, .int .i64 x.im.n, .int .i64 x.im.d] 92)
  obtain ⟨X0, X1, X2, X3⟩ := four_cells H.out.hx
  obtain ⟨Y0, Y1, Y2, Y3⟩ := four_cells H.out.hy
  rw [show ((((w.alloc (.cells #[.int .i64 x.re.n, .int .i64 x.re.d, .int .i64 x.im.n, .int .i64 x.im.d] 92)).alloc (.cells #[.int .i64 y.re.n, .int .i64 y.re.d, .int .i64 y.im.n, .int .i64 y.im.d] 92)).alloc (.cells #[.int .i64 0, .int .i64 0, .int .i64 0, .int .i64 0] 92)).alloc (.cells #[.bool false] 205)).heap.size = w.heap.size + 1 + 1 + 1 + 1 by simp] at H
  clear hx hy HM
  have hzb := H.out.hex (w.heap.size + 1 + 1 + 1 + 1, #[.int .i64 x.re.n, .int .i64 x.re.d, .int .i64 x.im.n, .int .i64 x.im.d], 92) (by simp)
  obtain ⟨u0, u1, u2, u3⟩ := four_cells hzb.2
  obtain ⟨g0, g1, g2, g3⟩ := four_frozen hzb.2
  clear hzb H
  go_enter Tryz.func63, Tryz.ntmps63
  go_upto_region 24 with fail
  clear X0 X1 X2 X3 Y0 Y1 Y2 Y3 u0 u1 u2 u3 g0 g1 g2 g3
  have H := hidMk ((Wrk.new w x y).push #[.int .i64 (-x.re.n), .int .i64 x.re.d, .int .i64 (-x.im.n), .int .i64 x.im.d] 92)
  rw [show ((((w.alloc (.cells #[.int .i64 x.re.n, .int .i64 x.re.d, .int .i64 x.im.n, .int .i64 x.im.d] 92)).alloc (.cells #[.int .i64 y.re.n, .int .i64 y.re.d, .int .i64 y.im.n, .int .i64 y.im.d] 92)).alloc (.cells #[.int .i64 0, .int .i64 0, .int .i64 0, .int .i64 0] 92)).alloc (.cells #[.bool false] 205)).heap.size = w.heap.size + 1 + 1 + 1 + 1 by simp] at H
  generalize (((((World.alloc w _).alloc _).alloc _).alloc _).alloc _) = W3 at *
  obtain ⟨r0, fr0⟩ := H.out.hr.cells
  obtain ⟨z0, z1, z2, z3⟩ := four_cells H.out.hz
  obtain ⟨f0, f1, f2, f3⟩ := four_frozen H.out.hz
  obtain ⟨u0, u1, u2, u3⟩ := four_cells (H.out.hex (w.heap.size + 1 + 1 + 1 + 1, #[.int .i64 (-x.re.n), .int .i64 x.re.d, .int .i64 (-x.im.n), .int .i64 x.im.d], 92) (by simp)).2
  have hRR := H.out.hR
  go_wp2_with fail
  refine bp_gen (fun W' => W'.heap[w.heap.size + 1 + 1]? = some (.cells #[.int .i64 (-x.re.n), .int .i64 x.re.d, .int .i64 (-x.im.n), .int .i64 x.im.d] 92 (0, 0)) ∧ Below w.heap.size w W') ⟨four_set H.out.hz _ _ _ _, below_four H.out.hb (by omega) _ _ _ _⟩ ?_
  rintro W ⟨hz, hb⟩
  obtain ⟨z0, z1, z2, z3⟩ := four_cells hz
  rw [HV.out]
  exact bodyPost_ret (v := .tuple #[.agg #[.int .i64 (-x.re.n), .int .i64 x.re.d, .int .i64 (-x.im.n), .int .i64 x.im.d], .int .i64 0]) (by simp [results, Tryz.results63, go_sem, z0, z1, z2, z3]) rfl ⟨rfl, hb⟩

set_option maxHeartbeats 4000000 in
set_option maxRecDepth 100000 in
theorem wk_prime (x y : Num) (w : World) (hx : x.Ok) (hy : y.Ok) :
    Calls Tryz.prog 63 #[.int .i64 8242, .agg #[.int .i64 x.re.n, .int .i64 x.re.d, .int .i64 x.im.n, .int .i64 x.im.d], .agg #[.int .i64 y.re.n, .int .i64 y.re.d, .int .i64 y.im.n, .int .i64 y.im.d]] w fun e w' => e = .returned (wkV 8242 x y) ∧ Below w.heap.size w w' := by
  have HV : Hid (wkV 8242 x y = .tuple #[.agg #[.int .i64 (x.conj).re.n, .int .i64 (x.conj).re.d, .int .i64 (x.conj).im.n, .int .i64 (x.conj).im.d], .int .i64 0]) := rfl
  have q1 : wrap64 (-x.re.n) = -x.re.n := by unfold wrap64; have := hx.1.2.2; omega
  have q2 : wrap64 (-x.im.n) = -x.im.n := by unfold wrap64; have := hx.2.2.2; omega
  have HM : Hid ((.agg #[.int .i64 (x.conj).re.n, .int .i64 (x.conj).re.d, .int .i64 (x.conj).im.n, .int .i64 (x.conj).im.d] : Value) = .agg #[.int .i64 (x.re.n), .int .i64 x.re.d, .int .i64 (-x.im.n), .int .i64 x.im.d]) := rfl
  rw [HM.out] at HV
  generalize wkV 8242 x y = V at *
  have H := hidMk ((Wrk.new w x y).push #[.int .i64 x.re.n, .int .i64 x.re.d, .int .i64 x.im.n, .int .i64 x.im.d] 92)
  obtain ⟨X0, X1, X2, X3⟩ := four_cells H.out.hx
  obtain ⟨Y0, Y1, Y2, Y3⟩ := four_cells H.out.hy
  rw [show ((((w.alloc (.cells #[.int .i64 x.re.n, .int .i64 x.re.d, .int .i64 x.im.n, .int .i64 x.im.d] 92)).alloc (.cells #[.int .i64 y.re.n, .int .i64 y.re.d, .int .i64 y.im.n, .int .i64 y.im.d] 92)).alloc (.cells #[.int .i64 0, .int .i64 0, .int .i64 0, .int .i64 0] 92)).alloc (.cells #[.bool false] 205)).heap.size = w.heap.size + 1 + 1 + 1 + 1 by simp] at H
  clear hx hy HM
  have hzb := H.out.hex (w.heap.size + 1 + 1 + 1 + 1, #[.int .i64 x.re.n, .int .i64 x.re.d, .int .i64 x.im.n, .int .i64 x.im.d], 92) (by simp)
  obtain ⟨u0, u1, u2, u3⟩ := four_cells hzb.2
  obtain ⟨g0, g1, g2, g3⟩ := four_frozen hzb.2
  clear hzb H
  go_enter Tryz.func63, Tryz.ntmps63
  go_upto_region 24 with fail
  clear X0 X1 X2 X3 Y0 Y1 Y2 Y3 u0 u1 u2 u3 g0 g1 g2 g3
  have H := hidMk ((Wrk.new w x y).push #[.int .i64 (x.re.n), .int .i64 x.re.d, .int .i64 (-x.im.n), .int .i64 x.im.d] 92)
  rw [show ((((w.alloc (.cells #[.int .i64 x.re.n, .int .i64 x.re.d, .int .i64 x.im.n, .int .i64 x.im.d] 92)).alloc (.cells #[.int .i64 y.re.n, .int .i64 y.re.d, .int .i64 y.im.n, .int .i64 y.im.d] 92)).alloc (.cells #[.int .i64 0, .int .i64 0, .int .i64 0, .int .i64 0] 92)).alloc (.cells #[.bool false] 205)).heap.size = w.heap.size + 1 + 1 + 1 + 1 by simp] at H
  generalize (((((World.alloc w _).alloc _).alloc _).alloc _).alloc _) = W3 at *
  obtain ⟨r0, fr0⟩ := H.out.hr.cells
  obtain ⟨z0, z1, z2, z3⟩ := four_cells H.out.hz
  obtain ⟨f0, f1, f2, f3⟩ := four_frozen H.out.hz
  obtain ⟨u0, u1, u2, u3⟩ := four_cells (H.out.hex (w.heap.size + 1 + 1 + 1 + 1, #[.int .i64 (x.re.n), .int .i64 x.re.d, .int .i64 (-x.im.n), .int .i64 x.im.d], 92) (by simp)).2
  have hRR := H.out.hR
  go_wp2_with fail
  refine bp_gen (fun W' => W'.heap[w.heap.size + 1 + 1]? = some (.cells #[.int .i64 (x.re.n), .int .i64 x.re.d, .int .i64 (-x.im.n), .int .i64 x.im.d] 92 (0, 0)) ∧ Below w.heap.size w W') ⟨four_set H.out.hz _ _ _ _, below_four H.out.hb (by omega) _ _ _ _⟩ ?_
  rintro W ⟨hz, hb⟩
  obtain ⟨z0, z1, z2, z3⟩ := four_cells hz
  rw [HV.out]
  exact bodyPost_ret (v := .tuple #[.agg #[.int .i64 (x.re.n), .int .i64 x.re.d, .int .i64 (-x.im.n), .int .i64 x.im.d], .int .i64 0]) (by simp [results, Tryz.results63, go_sem, z0, z1, z2, z3]) rfl ⟨rfl, hb⟩
end Go.Proofs.YtodabmkcihafhaaGreatDoor

/- The document's operations: divided. -/
namespace Go.Proofs.YtodabmkcihafhaaGreatDoor
open Go.RowKit
set_option linter.unusedVariables false

set_option maxHeartbeats 4000000 in
set_option maxRecDepth 100000 in
theorem wk_div (x y : Num) (w : World) (hx : x.Ok) (hy : y.Ok) :
    Calls Tryz.prog 63 #[.int .i64 247, .agg #[.int .i64 x.re.n, .int .i64 x.re.d, .int .i64 x.im.n, .int .i64 x.im.d], .agg #[.int .i64 y.re.n, .int .i64 y.re.d, .int .i64 y.im.n, .int .i64 y.im.d]] w fun e w' => e = .returned (wkV 247 x y) ∧ Below w.heap.size w w' := by
  have C0 := hidMk (fun W => rzero_any y W)
  have C1 : Hid (y.zero = false → ∀ R W, WySt R false W → Calls Tryz.prog 93 #[.pointer (some ⟨R, 0, none⟩), .agg #[.int .i64 x.re.n, .int .i64 x.re.d, .int .i64 x.im.n, .int .i64 x.im.d], .agg #[.int .i64 y.re.n, .int .i64 y.re.d, .int .i64 y.im.n, .int .i64 y.im.d]] W fun e w' => e = .returned (if sqB y then nV x else nV (divN x y)) ∧ WySt R (sqB y || divB x y) w' ∧ W.grownBy w' (some R)) := fun hz R W h => rquot_any R x y W hx hy hz h
  obtain ⟨p, q, r, s, hQ⟩ : ∃ p q r s : Int, (if sqB y then nV x else nV (divN x y)) = .agg #[.int .i64 p, .int .i64 q, .int .i64 r, .int .i64 s] := by
    cases sqB y
    · exact ⟨_, _, _, _, rfl⟩
    · exact ⟨_, _, _, _, rfl⟩
  have HV0 : Hid (y.zero = true → wkV 247 x y = .tuple #[.agg #[.int .i64 x.re.n, .int .i64 x.re.d, .int .i64 x.im.n, .int .i64 x.im.d], .int .i64 4]) := by
    intro h
    unfold wkV
    rw [show opP 247 x y = if y.zero then .err 4 else bigOr (sqB y || divB x y) (divN x y) from rfl, h]
    rfl
  have HV1 : Hid (y.zero = false → wkV 247 x y = if (sqB y || divB x y) then .tuple #[.agg #[.int .i64 x.re.n, .int .i64 x.re.d, .int .i64 x.im.n, .int .i64 x.im.d], .int .i64 5] else .tuple #[.agg #[.int .i64 p, .int .i64 q, .int .i64 r, .int .i64 s], .int .i64 0]) := by
    intro h
    unfold wkV
    rw [show opP 247 x y = if y.zero then .err 4 else bigOr (sqB y || divB x y) (divN x y) from rfl, h]
    unfold bigOr
    cases hs : sqB y
    · rw [hs] at hQ
      rw [← hQ]
      cases divB x y <;> rfl
    · rfl
  rw [hQ] at C1
  generalize wkV 247 x y = V at *
  clear hQ
  generalize (sqB y || divB x y) = FL at *
  have H := hidMk (Wrk.new w x y)
  obtain ⟨X0, X1, X2, X3⟩ := four_cells H.out.hx
  obtain ⟨Y0, Y1, Y2, Y3⟩ := four_cells H.out.hy
  clear hx hy
  go_enter Tryz.func63, Tryz.ntmps63
  go_wp2_with fail
  refine (C0.out _).mono ?_
  rintro e w1 ⟨rfl, hb1⟩
  have H1 := hidMk (H.out.below hb1)
  clear H X0 X1 X2 X3 Y0 Y1 Y2 Y3 hb1 C0
  obtain ⟨X0, X1, X2, X3⟩ := four_cells H1.out.hx
  by_cases hz : y.zero = true
  · have HVV := hidMk (HV0.out hz)
    rw [hz]
    obtain ⟨z0, z1, z2, z3⟩ := four_cells H1.out.hz
    obtain ⟨f0, f1, f2, f3⟩ := four_frozen H1.out.hz
    have hRR := H1.out.hR
    clear hz C1 HV0 HV1
    go_wp2_with fail
    refine bp_gen (fun W' => W'.heap[w.heap.size + 1 + 1]? = some (.cells #[.int .i64 x.re.n, .int .i64 x.re.d, .int .i64 x.im.n, .int .i64 x.im.d] 92 (0, 0)) ∧ Below w.heap.size w W') ⟨four_set H1.out.hz _ _ _ _, below_four H1.out.hb (by omega) _ _ _ _⟩ ?_
    rintro W ⟨hz, hb⟩
    obtain ⟨z0, z1, z2, z3⟩ := four_cells hz
    rw [HVV.out]
    exact bodyPost_ret (v := .tuple #[.agg #[.int .i64 x.re.n, .int .i64 x.re.d, .int .i64 x.im.n, .int .i64 x.im.d], .int .i64 4]) (by simp [results, Tryz.results63, go_sem, z0, z1, z2, z3]) rfl ⟨rfl, hb⟩
  · have hz' : y.zero = false := by simpa using hz
    rw [hz']
    have C1' := hidMk (C1.out hz')
    have HV := hidMk (HV1.out hz')
    have H := hidMk (H1.out.push #[.int .i64 x.re.n, .int .i64 x.re.d, .int .i64 x.im.n, .int .i64 x.im.d] 92)
    clear hz hz' C1 HV0 HV1 H1
    obtain ⟨XA0, XA1, XA2, XA3⟩ := four_cells H.out.hx
    obtain ⟨Y0, Y1, Y2, Y3⟩ := four_cells H.out.hy
    go_wp2_with fail
    refine (C1'.out _ _ H.out.hr).mono ?_
    rintro e w2 ⟨rfl, hr2, hg2⟩
    have H2 := hidMk (H.out.grown hg2 hr2)
    clear H X0 X1 X2 X3 XA0 XA1 XA2 XA3 Y0 Y1 Y2 Y3 hr2 hg2 C1'
    have hzb := H2.out.hex (w1.heap.size, #[.int .i64 x.re.n, .int .i64 x.re.d, .int .i64 x.im.n, .int .i64 x.im.d], 92) (by simp)
    obtain ⟨u0, u1, u2, u3⟩ := four_cells hzb.2
    obtain ⟨g0, g1, g2, g3⟩ := four_frozen hzb.2
    have HZB := hidMk hzb
    clear hzb
    go_upto_region 24 with fail
    have H3 := hidMk (H2.out.set4 HZB.out.1 HZB.out.2 (.int .i64 p) (.int .i64 q) (.int .i64 r) (.int .i64 s))
    clear H2 HZB u0 u1 u2 u3 g0 g1 g2 g3
    generalize (((World.setCell _ _ _).setCell _ _).setCell _ _).setCell _ _ = W3 at *
    have H := H3
    clear H3
    obtain ⟨r0, fr0⟩ := H.out.hr.cells
    obtain ⟨X0, X1, X2, X3⟩ := four_cells H.out.hx
    obtain ⟨z0, z1, z2, z3⟩ := four_cells H.out.hz
    obtain ⟨f0, f1, f2, f3⟩ := four_frozen H.out.hz
    obtain ⟨u0, u1, u2, u3⟩ := four_cells (H.out.hex (w1.heap.size, #[.int .i64 p, .int .i64 q, .int .i64 r, .int .i64 s], 92) (by simp)).2
    have hRR := H.out.hR
    cases FL with
    | true =>
      go_wp2_with fail
      refine bp_gen (fun W' => W'.heap[w.heap.size + 1 + 1]? = some (.cells #[.int .i64 x.re.n, .int .i64 x.re.d, .int .i64 x.im.n, .int .i64 x.im.d] 92 (0, 0)) ∧ Below w.heap.size w W') ⟨four_set H.out.hz _ _ _ _, below_four H.out.hb (by omega) _ _ _ _⟩ ?_
      rintro W ⟨hz, hb⟩
      obtain ⟨z0, z1, z2, z3⟩ := four_cells hz
      rw [HV.out]
      exact bodyPost_ret (v := .tuple #[.agg #[.int .i64 x.re.n, .int .i64 x.re.d, .int .i64 x.im.n, .int .i64 x.im.d], .int .i64 5]) (by simp [results, Tryz.results63, go_sem, z0, z1, z2, z3]) rfl ⟨rfl, hb⟩
    | false =>
      go_wp2_with fail
      refine bp_gen (fun W' => W'.heap[w.heap.size + 1 + 1]? = some (.cells #[.int .i64 p, .int .i64 q, .int .i64 r, .int .i64 s] 92 (0, 0)) ∧ Below w.heap.size w W') ⟨four_set H.out.hz _ _ _ _, below_four H.out.hb (by omega) _ _ _ _⟩ ?_
      rintro W ⟨hz, hb⟩
      obtain ⟨z0, z1, z2, z3⟩ := four_cells hz
      rw [HV.out]
      exact bodyPost_ret (v := .tuple #[.agg #[.int .i64 p, .int .i64 q, .int .i64 r, .int .i64 s], .int .i64 0]) (by simp [results, Tryz.results63, go_sem, z0, z1, z2, z3]) rfl ⟨rfl, hb⟩
end Go.Proofs.YtodabmkcihafhaaGreatDoor

import Derived.Test.YtodabmkcihafhaaGreatDoorQ32
import Derived.Test.YtodabmkcihafhaaGreatDoorQ14
import Derived.Test.YtodabmkcihafhaaGreatDoorQ20
import Derived.Test.YtodabmkcihafhaaGreatDoorQ13
import Derived.Test.YtodabmkcihafhaaGreatDoorQ30
import Derived.Test.YtodabmkcihafhaaGreatDoorQ22

/- Digits: the program's iterator. -/
namespace Go.Proofs.YtodabmkcihafhaaGreatDoor
open Go.RowKit Go.Shelf
attribute [local go_sem] Oper.semAt_some
set_option linter.unusedVariables false
theorem loop_ghost {F : Fence} {n : Nat} {P : Program} {Q : Exit → Act → World → Prop} {a : Act} {w : World} {c : Code} (Inv : Nat → Act → World → Prop) (m : Nat) (h0 : Inv m a w)
    (hstep : ∀ g a w, Inv g a w → c.wpIn F n P (Exit.then (fun a' w' => ∃ g', g' < g ∧ Inv g' a' w') Q) a w) : (Code.loop c).wpIn F n P Q a w := by
  refine wpIn_loop_rounds (m + 1) ?_
  have key : ∀ k g a w, g < k → Inv g a w → Code.roundsIn F n P c Q k a w := by
    intro k
    induction k with
    | zero => intro g a w h _; omega
    | succ k ih =>
      intro g a w hg hi
      rw [roundsIn_succ]
      refine wpIn_mono (hstep g a w hi) ?_
      rintro e a' w' h
      cases e with
      | normal =>
        obtain ⟨g', h1, h2⟩ := h
        exact ih g' a' w' (by omega) h2
      | exit id => exact h
      | goto l => exact h
      | ret => exact h
      | panic ch => exact h
      | outgrown => exact h
  exact key (m + 1) m a w (by omega) h0
theorem Nw.below {W W' W'' : World} (h : Nw W W') (g : Below W'.heap.size W' W'') : Nw W W'' := ⟨h.b.trans (g.mono h.b.size)⟩
/-- The digits of a number, as they are handed out. -/
def cxV (x : Num) (j : Nat) : Value := .complex .f64 (bF (dg (lf x.re.n (unD x.re (unitP x)) j) (unD x.re (unitP x)))) (bF (dg (lf x.im.n (unD x.im (unitP x)) j) (unD x.im (unitP x))))
set_option maxHeartbeats 4000000 in
set_option maxRecDepth 100000 in
theorem digits1_in (n l bx N : Nat) (x : Num) (J Jx : Nat → World → Prop) (W : World) (hx : x.Ok) (hbx : W.heap[bx]? = some (.cells (numC x) 82 (0, 0)))
    (hJ : ∀ j A A', J j A → Below W.heap.size A A' → J j A') (hN : ∀ j A, J j A → j ≤ N)
    (hY : ∀ j W1, J j W1 → YieldAt Fence.wide (n - 1) Tryz.prog l #[cxV x j] W1 fun e W' => (e = .returned (.bool true) ∧ J (j + 1) W' ∧ Abv W.heap.size W1 W') ∨ (e = .returned (.bool false) ∧ Jx (j + 1) W')) (h0 : J 0 W) :
    CallsIn Fence.wide n Tryz.prog 106 #[.func (.yield l) #[] #[], .pointer (some ⟨bx, 0, none⟩)] W fun e W' => (∃ v, e = .returned v) ∧ ∃ j, Jx j W' := by
  have hro : Fence.wide.round = none := rfl
  have hdd : ∀ k : Nat, (Fence.wide.depth.isSome = true → 1 ≤ k) := fun k h => by cases h
  obtain ⟨u1, u2, u3, u4⟩ := unit_fit hx
  have CE := hidMk (fun W => exponent_any x W hx)
  have CR := hidMk (fun W => untold_any x.re (unitP x) W hx.1 u1)
  have CI := hidMk (fun W => untold_any x.im (unitP x) W hx.2 u1)
  have hR := hidMk (unD_in hx.1 u1)
  have hI := hidMk (unD_in hx.2 u1)
  have LR := hidMk (lf_in hR.out.1 (fit_in u2))
  have LI := hidMk (lf_in hI.out.1 (fit_in u3))
  have LS : Hid (lf x.re.n (unD x.re (unitP x)) 0 = x.re.n ∧ lf x.im.n (unD x.im (unitP x)) 0 = x.im.n ∧ (∀ j, nx (lf x.re.n (unD x.re (unitP x)) j) (unD x.re (unitP x)) = lf x.re.n (unD x.re (unitP x)) (j + 1)) ∧ (∀ j, nx (lf x.im.n (unD x.im (unitP x)) j) (unD x.im (unitP x)) = lf x.im.n (unD x.im (unitP x)) (j + 1))) := ⟨rfl, rfl, fun _ => rfl, fun _ => rfl⟩
  unfold cxV at hY
  clear hx u1 u2 u3 u4
  generalize unD x.re (unitP x) = UR at *
  generalize unD x.im (unitP x) = UI at *
  generalize unitP x = U at *
  generalize hlr : lf x.re.n UR = FR at *
  generalize hli : lf x.im.n UI = FI at *
  clear hlr hli
  have HY := hidMk hY
  have HJ := hidMk hJ
  have HN := hidMk hN
  have H0 := hidMk h0
  have HBX := hidMk hbx
  obtain ⟨c0, c1, c2, c3⟩ := four_cells hbx
  clear hY hJ hN h0 hbx
  refine callsIn_of_wp Tryz.func106 rfl trivial ?_ hro
  simp only [Tryz.ntmps106, List.size_toArray, List.length_cons, List.length_nil, Nat.reduceAdd, Nat.reduceSub, Array.replicate_succ, Array.replicate_zero, List.push_toArray, List.append_toArray, List.nil_append, List.cons_append]
  gi_wp2_with fail
  refine ⟨trivial, hdd _, (callsIn_wide.2 (CE.out _)).mono ?_⟩
  clear CE
  rintro e W3 ⟨rfl, hb3⟩
  gi_upto_region 1 with fail
  have HX := hidMk ((hb3.block _ (Array.getElem?_eq_some_iff.1 HBX.out).1).trans HBX.out)
  have HJ3 := hidMk (HJ.out 0 W W3 H0.out hb3)
  have HS3 := hidMk hb3.size
  clear hb3 HBX H0 c0 c1 c2 c3
  refine region_invIn (nt := 21) _
    (fun j v => match j with
      | 0 => v = .pointer (some ⟨bx, 0, none⟩)
      | 1 => v = .agg #[.int .i64 x.re.n, .int .i64 x.re.d]
      | 2 => v = .int .i64 (U : Nat)
      | 3 => v = .agg #[.int .i64 x.re.n, .int .i64 UR]
      | 4 => v = .pointer (some ⟨bx, 2, none⟩)
      | 5 => v = .agg #[.int .i64 x.im.n, .int .i64 x.im.d]
      | 6 => v = .int .i64 (U : Nat)
      | 7 => v = .agg #[.int .i64 x.im.n, .int .i64 UI]
      | _ => True)
    (fun b u w' => Hid (Nw W3 w' ∧ (b 10 = true → b 8 = true) ∧ (b 11 = true → b 9 = true) ∧ (b 8 = true → ∃ X, u 4 = .pointer (some ⟨X, 0, none⟩) ∧ W3.heap.size ≤ X ∧ w'.heap[X]? = some (.cells (if b 10 = true then #[.int .i64 x.re.n, .int .i64 UR] else #[.int .i64 0, .int .i64 0]) 220 (0, 0))) ∧ (b 9 = true → ∃ X, u 5 = .pointer (some ⟨X, 0, none⟩) ∧ W3.heap.size ≤ X ∧ w'.heap[X]? = some (.cells (if b 11 = true then #[.int .i64 x.im.n, .int .i64 UI] else #[.int .i64 0, .int .i64 0]) 220 (0, 0))) ∧ (b 8 = true → b 9 = true → u 4 ≠ u 5)))
    (act_of rfl rfl) (by kernel_rfl) (by kernel_rfl) (by kernel_rfl) ⟨(Nw.refl W3).drew, fun h => h, fun h => h, fun h => (by cases h), fun h => (by cases h), fun h => by cases h⟩ ?_ ?_
  · intro i o b u w' ho hbi hall hU hW K hK
    have hA : actOf 21 u = ⟨#[u 0, u 1, u 2, u 3, u 4, u 5, u 6, u 7, u 8, u 9, u 10, u 11, u 12, u 13, u 14, u 15, u 16, u 17, u 18, u 19, u 20], []⟩ := rfl
    rw [hA] at hK ⊢
    have c1 : u 1 = .pointer (some ⟨bx, 0, none⟩) := hU.oldB 1 (by kernel_rfl)
    have c3 : u 3 = .int .i64 (U : Nat) := hU.oldB 3 (by kernel_rfl)
    have got := hU.got
    have HW := hW
    have HKK := hidMk hK
    clear hU hA hK hW
    have hxx := (HW.out.1.b.block bx (Array.getElem?_eq_some_iff.1 HX.out).1).trans HX.out
    obtain ⟨x0, x1, x2, x3⟩ := four_cells hxx
    rcases i with _ | _ | _ | _ | _ | _ | _ | _ | _ | _ | _ | _ | i
    · cases ho
      go_simp
      exact HKK.out _ _ _ (by rw [c1, c3]; rfl) (fun _ => rfl) ⟨HW.out.1, HW.out.2.1, HW.out.2.2.1, HW.out.2.2.2.1, HW.out.2.2.2.2.1, HW.out.2.2.2.2.2⟩
    · cases ho
      have g8 : u 8 = .pointer (some ⟨bx, 0, none⟩) := got 0 8 rfl (hall ⟨0, .data⟩ (by simp) rfl)
      go_simp
      exact HKK.out _ _ _ (by rw [c1, c3, g8]; rfl) (fun _ => rfl) ⟨HW.out.1, HW.out.2.1, HW.out.2.2.1, HW.out.2.2.2.1, HW.out.2.2.2.2.1, HW.out.2.2.2.2.2⟩
    · cases ho
      go_simp
      exact HKK.out _ _ _ (by rw [c1, c3]; rfl) (fun _ => rfl) ⟨HW.out.1, HW.out.2.1, HW.out.2.2.1, HW.out.2.2.2.1, HW.out.2.2.2.2.1, HW.out.2.2.2.2.2⟩
    · cases ho
      have g9 : u 9 = .agg #[.int .i64 x.re.n, .int .i64 x.re.d] := got 1 9 rfl (hall ⟨1, .data⟩ (by simp) rfl)
      have g10 : u 10 = .int .i64 (U : Nat) := got 2 10 rfl (hall ⟨2, .data⟩ (by simp) rfl)
      go_simp
      refine ⟨trivial, hdd _, (callsIn_wide.2 (CR.out _)).mono ?_⟩
      rintro e w9 ⟨rfl, hb9⟩
      refine HKK.out _ _ _ (by rw [c1, c3, g9, g10]; rfl) (fun _ => rfl) ⟨HW.out.1.below hb9, HW.out.2.1, HW.out.2.2.1, ?_, ?_, HW.out.2.2.2.2.2⟩
      · intro h
        obtain ⟨X, q1, q2, q3⟩ := HW.out.2.2.2.1 h
        exact ⟨X, q1, q2, (hb9.block _ (Array.getElem?_eq_some_iff.1 q3).1).trans q3⟩
      · intro h
        obtain ⟨X, q1, q2, q3⟩ := HW.out.2.2.2.2.1 h
        exact ⟨X, q1, q2, (hb9.block _ (Array.getElem?_eq_some_iff.1 q3).1).trans q3⟩
    · cases ho
      go_simp
      exact HKK.out _ _ _ (by rw [c1, c3]; rfl) (fun _ => rfl) ⟨HW.out.1, HW.out.2.1, HW.out.2.2.1, HW.out.2.2.2.1, HW.out.2.2.2.2.1, HW.out.2.2.2.2.2⟩
    · cases ho
      have g12 : u 12 = .pointer (some ⟨bx, 2, none⟩) := got 4 12 rfl (hall ⟨4, .data⟩ (by simp) rfl)
      go_simp
      exact HKK.out _ _ _ (by rw [c1, c3, g12]; rfl) (fun _ => rfl) ⟨HW.out.1, HW.out.2.1, HW.out.2.2.1, HW.out.2.2.2.1, HW.out.2.2.2.2.1, HW.out.2.2.2.2.2⟩
    · cases ho
      go_simp
      exact HKK.out _ _ _ (by rw [c1, c3]; rfl) (fun _ => rfl) ⟨HW.out.1, HW.out.2.1, HW.out.2.2.1, HW.out.2.2.2.1, HW.out.2.2.2.2.1, HW.out.2.2.2.2.2⟩
    · cases ho
      have g13 : u 13 = .agg #[.int .i64 x.im.n, .int .i64 x.im.d] := got 5 13 rfl (hall ⟨5, .data⟩ (by simp) rfl)
      have g14 : u 14 = .int .i64 (U : Nat) := got 6 14 rfl (hall ⟨6, .data⟩ (by simp) rfl)
      go_simp
      refine ⟨trivial, hdd _, (callsIn_wide.2 (CI.out _)).mono ?_⟩
      rintro e w9 ⟨rfl, hb9⟩
      refine HKK.out _ _ _ (by rw [c1, c3, g13, g14]; rfl) (fun _ => rfl) ⟨HW.out.1.below hb9, HW.out.2.1, HW.out.2.2.1, ?_, ?_, HW.out.2.2.2.2.2⟩
      · intro h
        obtain ⟨X, q1, q2, q3⟩ := HW.out.2.2.2.1 h
        exact ⟨X, q1, q2, (hb9.block _ (Array.getElem?_eq_some_iff.1 q3).1).trans q3⟩
      · intro h
        obtain ⟨X, q1, q2, q3⟩ := HW.out.2.2.2.2.1 h
        exact ⟨X, q1, q2, (hb9.block _ (Array.getElem?_eq_some_iff.1 q3).1).trans q3⟩
    · cases ho
      have ns : b 10 = false := by
        cases h : b 10 with
        | false => rfl
        | true => rw [HW.out.2.1 h] at hbi; cases hbi
      have NS := hidMk ns
      clear ns
      go_simp
      refine HKK.out _ _ _ (by rw [c1, c3]; rfl) (fun _ => trivial) ⟨HW.out.1.alloc _, ?_, ?_, ?_, ?_, ?_⟩
      · intro _; rfl
      · exact HW.out.2.2.1
      · intro _
        refine ⟨w'.heap.size, rfl, HW.out.1.b.size, ?_⟩
        have e : (if upB b 8 10 = true then (#[.int .i64 x.re.n, .int .i64 UR] : Array Value) else #[.int .i64 0, .int .i64 0]) = #[.int .i64 0, .int .i64 0] := by simp [upB, NS.out]
        rw [e]
        exact heap_alloc_new w' _
      · intro h
        obtain ⟨X, q1, q2, q3⟩ := HW.out.2.2.2.2.1 h
        exact ⟨X, q1, q2, (Below.heap_alloc _ _ _ (Array.getElem?_eq_some_iff.1 q3).1).trans q3⟩
      · intro h4 h5 he
        obtain ⟨X, q1, q2, q3⟩ := HW.out.2.2.2.2.1 h5
        have he' : (.pointer (some ⟨w'.heap.size, 0, none⟩) : Value) = u 5 := he
        rw [q1] at he'
        have hlt := (Array.getElem?_eq_some_iff.1 q3).1
        simp at he'
        try omega
    · cases ho
      have ns : b 11 = false := by
        cases h : b 11 with
        | false => rfl
        | true => rw [HW.out.2.2.1 h] at hbi; cases hbi
      have NS := hidMk ns
      clear ns
      go_simp
      refine HKK.out _ _ _ (by rw [c1, c3]; rfl) (fun _ => trivial) ⟨HW.out.1.alloc _, ?_, ?_, ?_, ?_, ?_⟩
      · exact HW.out.2.1
      · intro _; rfl
      · intro h
        obtain ⟨X, q1, q2, q3⟩ := HW.out.2.2.2.1 h
        exact ⟨X, q1, q2, (Below.heap_alloc _ _ _ (Array.getElem?_eq_some_iff.1 q3).1).trans q3⟩
      · intro _
        refine ⟨w'.heap.size, rfl, HW.out.1.b.size, ?_⟩
        have e : (if upB b 9 11 = true then (#[.int .i64 x.im.n, .int .i64 UI] : Array Value) else #[.int .i64 0, .int .i64 0]) = #[.int .i64 0, .int .i64 0] := by simp [upB, NS.out]
        rw [e]
        exact heap_alloc_new w' _
      · intro h4 h5 he
        obtain ⟨X, q1, q2, q3⟩ := HW.out.2.2.2.1 h4
        have he' : u 4 = (.pointer (some ⟨w'.heap.size, 0, none⟩) : Value) := he
        rw [q1] at he'
        have hlt := (Array.getElem?_eq_some_iff.1 q3).1
        simp at he'
        try omega
    · cases ho
      have g11 : u 11 = .agg #[.int .i64 x.re.n, .int .i64 UR] := got 3 11 rfl (hall ⟨3, .data⟩ (by simp) rfl)
      obtain ⟨X, q1, q2, q3⟩ := HW.out.2.2.2.1 (hall ⟨8, .data⟩ (by simp) rfl)
      rw [if_neg (by rw [hbi]; decide)] at q3
      obtain ⟨s0, s1, f0, f1⟩ := two_cells q3
      have Q3 := hidMk q3
      have YA : Hid (b 8 = true) := hall ⟨8, .data⟩ (by simp) rfl
      clear q3
      go_simp
      refine HKK.out undef _ _ (by rw [c1, c3, g11, q1]; rfl) (fun h => by cases h) ⟨HW.out.1.two q2 _ _, ?_, ?_, ?_, ?_, HW.out.2.2.2.2.2⟩
      · exact fun _ => YA.out
      · exact HW.out.2.2.1
      · exact fun _ => ⟨X, q1, q2, two_set Q3.out _ _⟩
      · intro h
        obtain ⟨Y, y1, y2, y3⟩ := HW.out.2.2.2.2.1 h
        refine ⟨Y, y1, y2, ?_⟩
        have ne : Y ≠ X := fun e => HW.out.2.2.2.2.2 YA.out h (by rw [q1, y1, e])
        rw [two_other ne]
        exact y3
    · cases ho
      have g15 : u 15 = .agg #[.int .i64 x.im.n, .int .i64 UI] := got 7 15 rfl (hall ⟨7, .data⟩ (by simp) rfl)
      obtain ⟨X, q1, q2, q3⟩ := HW.out.2.2.2.2.1 (hall ⟨9, .data⟩ (by simp) rfl)
      rw [if_neg (by rw [hbi]; decide)] at q3
      obtain ⟨s0, s1, f0, f1⟩ := two_cells q3
      have Q3 := hidMk q3
      have YA : Hid (b 9 = true) := hall ⟨9, .data⟩ (by simp) rfl
      clear q3
      go_simp
      refine HKK.out undef _ _ (by rw [c1, c3, g15, q1]; rfl) (fun h => by cases h) ⟨HW.out.1.two q2 _ _, ?_, ?_, ?_, ?_, HW.out.2.2.2.2.2⟩
      · exact HW.out.2.1
      · exact fun _ => YA.out
      · intro h
        obtain ⟨Y, y1, y2, y3⟩ := HW.out.2.2.2.1 h
        refine ⟨Y, y1, y2, ?_⟩
        have ne : Y ≠ X := fun e => HW.out.2.2.2.2.2 h YA.out (by rw [q1, y1, e])
        rw [two_other ne]
        exact y3
      · exact fun _ => ⟨X, q1, q2, two_set Q3.out _ _⟩
    · simp at ho
  · intro b u w' hall hU hW
    obtain ⟨X, q1, q2, q3⟩ := hW.out.2.2.2.1 (hall 8 (by decide))
    obtain ⟨Y, y1, y2, y3⟩ := hW.out.2.2.2.2.1 (hall 9 (by decide))
    have hne := hW.out.2.2.2.2.2 (hall 8 (by decide)) (hall 9 (by decide))
    rw [if_pos (hall 10 (by decide))] at q3
    rw [if_pos (hall 11 (by decide))] at y3
    rw [q1, y1] at hne
    have hXY : X ≠ Y := fun e => hne (by rw [e])
    have hA : actOf 21 u = ⟨#[u 0, u 1, u 2, u 3, u 4, u 5, u 6, u 7, u 8, u 9, u 10, u 11, u 12, u 13, u 14, u 15, u 16, u 17, u 18, u 19, u 20], []⟩ := rfl
    have e0 : u 0 = .func (.yield l) #[] #[] := hU.oldB 0 (by kernel_rfl)
    have e1 : u 1 = .pointer (some ⟨bx, 0, none⟩) := hU.oldB 1 (by kernel_rfl)
    have e2 : u 2 = undef := hU.oldB 2 (by kernel_rfl)
    have e3 : u 3 = .int .i64 (U : Nat) := hU.oldB 3 (by kernel_rfl)
    have e6 : u 6 = .agg (numC x) := hU.oldB 6 (by kernel_rfl)
    have e7 : u 7 = .int .i64 (U : Nat) := hU.oldB 7 (by kernel_rfl)
    have e16 : u 16 = undef := hU.oldB 16 (by kernel_rfl)
    have e17 : u 17 = undef := hU.oldB 17 (by kernel_rfl)
    have e18 : u 18 = undef := hU.oldB 18 (by kernel_rfl)
    have e19 : u 19 = undef := hU.oldB 19 (by kernel_rfl)
    have e20 : u 20 = undef := hU.oldB 20 (by kernel_rfl)
    rw [hA, e0, e1, e2, e3, e6, e7, e16, e17, e18, e19, e20]
    clear hA e0 e1 e2 e3 e6 e7 e16 e17 e18 e19 e20
    rw [q1, y1]
    have HJ4 := hidMk (HJ.out 0 W3 w' HJ3.out (hW.out.1.b.mono HS3.out))
    clear hU hW hall q1 y1 HJ3 HX hne CR CI
    rw [← LS.out.1] at q3
    rw [← LS.out.2.1] at y3
    have hXW : W.heap.size ≤ X := by have := HS3.out; omega
    have hYW : W.heap.size ≤ Y := by have := HS3.out; omega
    have HQ3 := hidMk q3
    have HY3 := hidMk y3
    clear q2 q3 y2 y3 HS3
    gi_wp2_with fail
    refine loop_ghost (fun g a w1 => ∃ (j : Nat) (s16 s17 s18 s19 s20 : Value), Hid (j + g = N) ∧ Hid (J j w1) ∧ Hid (w1.heap[X]? = some (.cells #[.int .i64 (FR j), .int .i64 UR] 220 (0, 0))) ∧ Hid (w1.heap[Y]? = some (.cells #[.int .i64 (FI j), .int .i64 UI] 220 (0, 0))) ∧
      a = ⟨#[.func (.yield l) #[] #[], .pointer (some ⟨bx, 0, none⟩), undef, .int .i64 (U : Nat), .pointer (some ⟨X, 0, none⟩), .pointer (some ⟨Y, 0, none⟩), .agg (numC x), .int .i64 (U : Nat), u 8, u 9, u 10, u 11, u 12, u 13, u 14, u 15, s16, s17, s18, s19, s20], []⟩) N ⟨0, _, _, _, _, _, hidMk (Nat.zero_add N), HJ4.out, HQ3.out, HY3.out, rfl⟩ ?_
    rintro g a w1 ⟨j, s16, s17, s18, s19, s20, hg, hj, hX, hY, rfl⟩
    gi_wp2_with fail
    refine ⟨trivial, hdd _, (callsIn_wide.2 (next_any X (FR j) UR w1 hX.out hR.out (LR.out j))).mono ?_⟩
    rintro e w2 ⟨rfl, hX2, hg2⟩
    rw [LS.out.2.2.1 j] at hX2
    have HX2 := hidMk hX2
    have HY2 := hidMk ((hg2.block Y (Array.getElem?_eq_some_iff.1 hY.out).1 (fun e => hXY (Option.some.inj e).symm)).trans hY.out)
    have HJ2 := hidMk (HJ.out j w1 w2 hj.out (gb_to_below hg2 hXW (by have := (Array.getElem?_eq_some_iff.1 hX.out).1; omega)))
    clear hX2 hX hY hg2 hj
    gi_wp2_with fail
    refine ⟨trivial, hdd _, (callsIn_wide.2 (next_any Y (FI j) UI w2 HY2.out hI.out (LI.out j))).mono ?_⟩
    rintro e w3 ⟨rfl, hY3, hg3⟩
    rw [LS.out.2.2.2 j] at hY3
    have HY3' := hidMk hY3
    have HX3 := hidMk ((hg3.block X (Array.getElem?_eq_some_iff.1 HX2.out).1 (fun e => hXY (Option.some.inj e))).trans HX2.out)
    have HJ3 := hidMk (HJ.out j w2 w3 HJ2.out (gb_to_below hg3 hYW (by have := (Array.getElem?_eq_some_iff.1 HY2.out).1; omega)))
    clear hY3 HX2 HY2 hg3 HJ2
    obtain ⟨fn, tmps, assign, body, hy, hRR⟩ := HY.out j w3 HJ3.out
    unfold flV
    generalize bF (dg (FR j) UR) = BR at *
    generalize bF (dg (FI j) UI) = BI at *
    have HRR := hidMk hRR
    clear hRR
    gi_wp2_with fail
    refine ⟨hdd _, HRR.out.mono ?_⟩
    rintro e w4 (⟨rfl, hJ4, ha4⟩ | ⟨rfl, hx4⟩)
    · have HN4 := hidMk (HN.out _ _ hJ4)
      have HX4 := hidMk ((ha4.same X hXW (Array.getElem?_eq_some_iff.1 HX3.out).1).trans HX3.out)
      have HY4 := hidMk ((ha4.same Y hYW (Array.getElem?_eq_some_iff.1 HY3'.out).1).trans HY3'.out)
      have HJ5 := hidMk hJ4
      clear hJ4 ha4 HX3 HY3' HRR hy
      gi_wp2_with fail
      refine ⟨g - 1, by have := hg.out; have := HN4.out; omega, j + 1, _, _, _, _, _, hidMk (by have := hg.out; have := HN4.out; omega), HJ5.out, HX4.out, HY4.out, rfl⟩
    · have HX5 := hidMk hx4
      clear hx4 HX3 HY3' HRR hy
      gi_wp2_with fail
      go_end0
      exact ⟨⟨_, rfl⟩, _, HX5.out⟩

set_option maxHeartbeats 1000000 in
theorem digits_in (n : Nat) (x : Num) (w : World) :
    CallsIn Fence.wide n Tryz.prog 71 #[.agg (numC x)] w fun e w' => e = .returned (.func (.func 106) #[] #[.pointer (some ⟨w.heap.size, 0, none⟩)]) ∧ w' = w.alloc (.cells (numC x) 82) := by
  have hro : Fence.wide.round = none := rfl
  refine callsIn_of_wp Tryz.func71 rfl trivial ?_ hro
  simp only [Tryz.ntmps71, List.size_toArray, List.length_cons, List.length_nil, Nat.reduceAdd, Nat.reduceSub, Array.replicate_succ, Array.replicate_zero, List.push_toArray, List.append_toArray, List.nil_append, List.cons_append]
  gi_wp2
  go_ret
  exact ⟨rfl, rfl⟩
theorem digits_st (n bx N : Nat) (x : Num) (w : World) (hx : x.Ok) (hb : w.heap[bx]? = some (.cells (numC x) 82 (0, 0))) :
    SeqSt Fence.wide n Tryz.prog 106 #[.pointer (some ⟨bx, 0, none⟩)] (fun j => #[cxV x j]) N w := fun l J Jx W hW hJ hJx hN hY h0 =>
  digits1_in n l bx N x J Jx W hx ((hW.block _ (Array.getElem?_eq_some_iff.1 hb).1).trans hb) hJ hN hY h0
end Go.Proofs.YtodabmkcihafhaaGreatDoor

/- Digits: the program's firstDigits. -/
namespace Go.Proofs.YtodabmkcihafhaaGreatDoor
open Go.RowKit Go.Shelf
attribute [local go_sem] Oper.semAt_some
set_option linter.unusedVariables false
theorem cv_bits (c : Int) (h : c = 1 ∨ c = -1 ∨ c = 0) (W : World) : (convert 156 3 (.float .f64 (bF c))).run Tryz.prog W = .ok (.int .i64 c) W := by
  have h1 : (convert 156 3 (.float .f64 (bF c))).run Tryz.prog W = (Conv.floatToInt .f64 (bF c) .i64).run Tryz.prog W := by
    unfold convert
    simp [run_underlying Tryz.underlying156, run_underlying Tryz.underlying3, Result.andThen]
  rw [h1]
  rcases h with rfl | rfl | rfl
  · have e : (FloatKind.f64.decode (bF 1)).toInt .zero = some 1 := by decide +kernel
    unfold Conv.floatToInt
    rw [e]
    rfl
  · have e : (FloatKind.f64.decode (bF (-1))).toInt .zero = some (-1) := by decide +kernel
    unfold Conv.floatToInt
    rw [e]
    rfl
  · have e : (FloatKind.f64.decode (bF 0)).toInt .zero = some 0 := by decide +kernel
    unfold Conv.floatToInt
    rw [e]
    rfl
/-- The digits of a number: both parts. -/
def dR (x : Num) (j : Nat) : Int := dg (lf x.re.n (unD x.re (unitP x)) j) (unD x.re (unitP x))
def dI (x : Num) (j : Nat) : Int := dg (lf x.im.n (unD x.im (unitP x)) j) (unD x.im (unitP x))
def digP (x : Num) (k : Nat) : List (Int × Int) := (List.range k).map fun j => (dR x j, dI x j)
def dpC (l : List (Int × Int)) : List Value := l.flatMap fun p => [.int .i64 p.1, .int .i64 p.2]
theorem digP_succ (x : Num) (k : Nat) : digP x (k + 1) = digP x k ++ [(dR x k, dI x k)] := by
  unfold digP
  rw [List.range_succ, List.map_append]
  rfl
theorem dpC_snoc (l : List (Int × Int)) (a b : Int) : dpC (l ++ [(a, b)]) = dpC l ++ [.int .i64 a, .int .i64 b] := by simp [dpC]
theorem Tryz.infoDigit : (Tryz.prog.info? 54).map (fun i => (i.zero, i.size, i.bytes)) = some (some (.agg #[.int .i64 0, .int .i64 0]), 2, 16) := by kernel_rfl
theorem dp_one (a b : Int) : ∀ u ∈ [Value.int .i64 a, .int .i64 b], u.oneCell' = true := by
  intro u hu
  simp at hu
  rcases hu with rfl | rfl <;> rfl
theorem dp_new (w : World) (a b : Int) : ∀ j u, [Value.int .i64 a, .int .i64 b][j]? = some u → (w.alloc (.cells #[.int .i64 a, .int .i64 b] 54)).cell? ((⟨w.heap.size, 0, none⟩ : Addr).add j) = some u := by
  refine World.news_of_block (cs := #[.int .i64 a, .int .i64 b]) (t := 54) (fr := (0, 0)) ?_
  exact heap_alloc_new w _
/-- The loop's world, j digits told. -/
structure FD (x : Num) (k : Nat) (w : World) (bd : Nat) (j : Nat) (W : World) : Prop where
  hk : W.heap[w.heap.size + 1]? = some (.cells #[.int .i64 k] 3 (0, 0))
  lt : w.heap.size + 1 + 1 < bd
  hd : W.heap[bd]? = some (.cells #[.slice (some ⟨w.heap.size + 1 + 1, 0, none⟩) j k] 49 (0, 0))
  row : W.ownsRow w.heap.size 54 2 (.slice (some ⟨w.heap.size + 1 + 1, 0, none⟩) j k) j (dpC (digP x j))
  hb : Below w.heap.size w W
  le : j ≤ k
theorem FD.mv {x : Num} {k : Nat} {w : World} {bd j : Nat} {W W' : World} {B : Nat} (h : FD x k w bd j W) (hB : bd < B) (g : Below B W W') : FD x k w bd j W' := by
  have hlt := h.lt
  refine ⟨(g.block _ (by omega)).trans h.hk, hlt, (g.block _ (by omega)).trans h.hd, ?_, h.hb.trans (g.mono (by omega)), h.le⟩
  obtain ⟨h1, h2⟩ := h.row
  refine ⟨h1, ?_⟩
  rcases h2 with ⟨h2, _⟩ | ⟨b, cap, cur, e1, e2, e3, e4, e5, e6, e7⟩
  · cases h2
  · have e1' := e1
    simp only [Value.slice.injEq, Option.some.injEq, Addr.mk.injEq, and_true, true_and] at e1'
    obtain ⟨rfl, rfl⟩ := e1'
    exact Or.inr ⟨_, _, cur, rfl, e2, (g.block _ (by omega)).trans e3, e4, e5, e6, e7⟩
theorem fd_box {x : Num} {k : Nat} {w : World} {bd j : Nat} {W w3 : World} {o : Obj} (h : FD x k w bd j W) (g : (W.alloc o).grownBy w3 (some (w.heap.size + 1 + 1))) :
    w3.heap[bd]? = some (.cells #[.slice (some ⟨w.heap.size + 1 + 1, 0, none⟩) j k] 49 (0, 0)) := by
  have hlt := (Array.getElem?_eq_some_iff.1 h.hd).1
  have := h.lt
  rw [g.block bd (by simp; omega) (fun e => by have := Option.some.inj e; omega), Below.heap_alloc _ _ _ hlt]
  exact h.hd
theorem fd_step {x : Num} {k : Nat} {w : World} {bd j : Nat} {W w3 : World} {o : Obj} {A B : Int} {M : Nat} (h : FD x k w bd j W) (hM : bd < M) (hP : digP x (j + 1) = digP x j ++ [(A, B)])
    (hown : w3.ownsRow w.heap.size 54 2 (.slice (some ⟨w.heap.size + 1 + 1, 0, none⟩) (j + 1) k) (j + 1) (dpC (digP x j) ++ [.int .i64 A, .int .i64 B]))
    (g : (W.alloc o).grownBy w3 (some (w.heap.size + 1 + 1))) (hd : w3.heap[bd]? = some (.cells #[.slice (some ⟨w.heap.size + 1 + 1, 0, none⟩) j k] 49 (0, 0))) (hj : j + 1 ≤ k) :
    Abv M W (w3.setCell ⟨bd, 0, none⟩ (.slice (some ⟨w.heap.size + 1 + 1, 0, none⟩) (j + 1) k)) ∧ FD x k w bd (j + 1) (w3.setCell ⟨bd, 0, none⟩ (.slice (some ⟨w.heap.size + 1 + 1, 0, none⟩) (j + 1) k)) := by
  have hlt := h.lt
  have hsz := g.size
  simp at hsz
  refine ⟨⟨by simp; omega, fun i h1 h2 => ?_⟩, ?_, hlt, one_set hd _, ?_, ?_, hj⟩
  · rw [Below.heap_setCell _ _ _ _ (by simp; omega), g.block i (by simp; omega) (fun e => by have := Option.some.inj e; omega), Below.heap_alloc _ _ _ h2]
  · have h2 := (Array.getElem?_eq_some_iff.1 h.hk).1
    rw [Below.heap_setCell _ _ _ _ (by simp; omega), g.block _ (by simp; omega) (fun e => by have := Option.some.inj e; omega), Below.heap_alloc _ _ _ h2]
    exact h.hk
  · rw [hP, dpC_snoc]
    obtain ⟨h1, h2⟩ := hown
    refine ⟨h1, ?_⟩
    rcases h2 with ⟨h2, _⟩ | ⟨b, cap, cur, e1, e2, e3, e4, e5, e6, e7⟩
    · cases h2
    · have e1' := e1
      simp only [Value.slice.injEq, Option.some.injEq, Addr.mk.injEq, and_true, true_and] at e1'
      obtain ⟨rfl, rfl⟩ := e1'
      refine Or.inr ⟨_, _, cur, rfl, e2, ?_, e4, e5, e6, e7⟩
      rw [Below.heap_setCell _ _ _ _ (by simp; omega)]
      exact e3
  · exact ((h.hb.alloc h.hb.size o).grown g (by have := h.hb.size; simp; omega) (fun i e => by cases e; omega)).setCell (p := ⟨bd, 0, none⟩) (by simp; omega) _
set_option maxHeartbeats 4000000 in
set_option maxRecDepth 100000 in
theorem first_any (x : Num) (k : Nat) (w : World) (hx : x.Ok) (hk : k ≤ 20) :
    Calls Tryz.prog 46 #[.agg (numC x), .int .i64 k] w fun e w' => e = .returned (.slice (some ⟨w.heap.size + 1 + 1, 0, none⟩) k k) ∧ w'.ownsRow w.heap.size 54 2 (.slice (some ⟨w.heap.size + 1 + 1, 0, none⟩) k k) k (dpC (digP x k)) ∧ Below w.heap.size w w' := by
  refine (callsIn_wide (n := 5)).1 ?_
  have hro : Fence.wide.round = none := rfl
  have hdd : ∀ k : Nat, (Fence.wide.depth.isSome = true → 1 ≤ k) := fun k h => by cases h
  obtain ⟨i0, hi, hz0, hz1, hz2⟩ := info_parts Tryz.infoDigit
  have Hi : Hid (Tryz.prog.info? 54 = some i0) := hi
  have Hz : Hid (i0.zero = some (.agg #[.int .i64 0, .int .i64 0])) := hz0
  have Hz1 : Hid (i0.size = 2) := hz1
  have Hz2 : Hid (i0.bytes = 16) := hz2
  clear hi hz0 hz1 hz2
  have C1 := digits_in 4 x
  refine callsIn_of_wp_marks Tryz.func46 rfl trivial ?_ hro
  simp only [Tryz.ntmps46, List.size_toArray, List.length_cons, List.length_nil, Nat.reduceAdd, Nat.reduceSub, Array.replicate_succ, Array.replicate_zero, List.push_toArray, List.append_toArray, List.nil_append, List.cons_append]
  obtain ⟨w2, hmk, hown, hgr⟩ := run_make_own (P := Tryz.prog) ((w.alloc (.cells (numC x) 82)).alloc (.cells #[.int .i64 k] 3)) w.heap.size 49 54 i0 _ 2 Tryz.underlying49 Hi.out Hz.out Hz1.out .i64 .i64 k (by rw [Hz2.out]; omega) (by unfold maxLen; omega) (by simp; omega)
  have hk2 : w2.heap[w.heap.size + 1]? = some (.cells #[.int .i64 k] 3 (0, 0)) := by
    rw [hgr.block _ (by simp) (by simp)]
    have := heap_alloc_new (w.alloc (.cells (numC x) 82)) (.cells #[.int .i64 k] 3)
    simpa using this
  have hx2 : w2.heap[w.heap.size]? = some (.cells (numC x) 82 (0, 0)) := by
    rw [hgr.block _ (by simp; omega) (by simp), Below.heap_alloc _ _ _ (by simp)]
    exact heap_alloc_new w _
  have hb2 : Below w.heap.size w w2 := (((Below.refl _ w).alloc (Nat.le_refl _) _).alloc (by simp) _).grown hgr (by simp; omega) (fun k e => by cases e)
  have hs2 : w.heap.size + 1 + 1 < w2.heap.size := by
    have := (hown.lt _ rfl).2
    simpa using this
  simp only [World.size_alloc] at hmk hown
  gi_upto_region 2 with fail
  have hx3 := (Below.heap_alloc w2 (.cells #[.slice (some ⟨w.heap.size + 1 + 1, 0, none⟩) 0 k] 49) _ (Array.getElem?_eq_some_iff.1 hx2).1).trans hx2
  have h3 : FD x k w w2.heap.size 0 (w2.alloc (.cells #[.slice (some ⟨w.heap.size + 1 + 1, 0, none⟩) 0 k] 49)) :=
    ⟨(Below.heap_alloc w2 _ _ (Array.getElem?_eq_some_iff.1 hk2).1).trans hk2, hs2, heap_alloc_new w2 _, hown.alloc _, hb2.alloc hb2.size _, Nat.zero_le _⟩
  have hs3 : w2.heap.size < (w2.alloc (.cells #[.slice (some ⟨w.heap.size + 1 + 1, 0, none⟩) 0 k] 49)).heap.size := by simp
  generalize w2.alloc _ = W3 at *
  generalize w2.heap.size = bd at *
  obtain ⟨x0, x1, x2, x3⟩ := four_cells hx3
  have H3 := hidMk h3
  have HX3 := hidMk hx3
  clear hx2 hx3 hk2 hb2 hs2 hown hmk hgr h3
  gi_wp2_with fail
  refine ⟨trivial, (C1 _).mono ?_⟩
  rintro e w4 ⟨rfl, rfl⟩
  have hx4 := heap_alloc_new W3 (.cells (numC x) 82)
  have h4 := H3.out.mv hs3 ((fr_below W3 (.cells (numC x) 82)).mono (Nat.le_refl _))
  have hs4 : bd < (W3.alloc (.cells (numC x) 82)).heap.size := by simp; omega
  generalize W3.alloc _ = W4 at *
  generalize W3.heap.size = bx at *
  have CS := hidMk (digits_st 4 bx k x W4 hx hx4)
  have H4 := hidMk h4
  clear x0 x1 x2 x3 H3 HX3 hs3 h4 hx4 C1
  gi_wp2_with fail
  have put : ∀ (A : World) (l : Nat) (o o' : Obj), W4.heap.size ≤ l → A.heap[l]? = some o → Below W4.heap.size A (A.putObj l o') := fun A l o o' hl h =>
    (Below.refl _ A).grown (grownBy_putObj' A l o') (by have := (Array.getElem?_eq_some_iff.1 h).1; omega) (fun k e => by cases e; omega)
  refine wpIn_rangeSt (F := Fence.wide) (n := 5) hro (by decide) (gf := 106) (lb := #[.pointer (some ⟨bx, 0, none⟩)]) rfl trivial (enters_of Tryz.func106 (by kernel_rfl) rfl)
    CS.out (Below.refl _ _) (fun _ => rfl) (fun j W => FD x k w bd j W) (fun c W => c = .exit 0 ∧ FD x k w bd k W)
    (fun j A A' h g => h.mv hs4 g) (fun c A A' h g => ⟨h.1, h.2.mv hs4 g⟩) (fun j A h => h.le) H4.out
    (fun j => { tmps := #[.agg (numC x), .int .i64 k, .pointer (some ⟨w.heap.size, 0, none⟩), .pointer (some ⟨w.heap.size + 1, 0, none⟩), .slice none 0 0, .pointer (some ⟨bd, 0, none⟩), cxV x j, .int .i64 k, .slice (some ⟨w.heap.size + 1 + 1, 0, none⟩) 0 k, .agg (numC x), .func (.func 106) #[] #[.pointer (some ⟨bx, 0, none⟩)], cxV x j, undef, undef, undef, undef, undef, undef, undef, undef, undef, undef, undef, undef, undef, undef, undef], defers := [] }) ?assign ?body ?stop
  case assign =>
    intro l j W K hK
    gi_wp2
    exact hK
  case body =>
    intro l j W hI
    have hc1 := cv_bits (dR x j) (dg_in _ _)
    have hc2 := cv_bits (dI x j) (dg_in _ _)
    have hcx : cxV x j = .complex .f64 (bF (dR x j)) (bF (dI x j)) := rfl
    rw [hcx]
    have hks := hI.hk
    have k0 := one_cell hI.hk
    have d0 := one_cell hI.hd
    have f0 := one_frozen hI.hd
    have HI := hidMk hI
    have hle := hI.le
    have HP := hidMk (digP_succ x j)
    generalize dR x j = A at *
    generalize dI x j = B at *
    clear hcx hI hks CS H4
    by_cases hj : j = k
    · subst hj
      gi_wp2
      exact ⟨⟨Nat.le_refl _, fun _ _ _ => rfl⟩, rfl, HI.out⟩
    · have hjk : ((j : Int) == (k : Int)) = false := by simp; omega
      gi_wp2_with (gi_at_builtin; refine wpListIn_append_fits _ rfl _ _ 49 rfl w.heap.size 54 i0 2 Tryz.underlying49 Hi.out Hz1.out (w.heap.size + 1 + 1) j k (dpC (digP x j)) rfl (HI.out.row.alloc _) ⟨W.heap.size, 0, none⟩ 1 1 [.int .i64 A, .int .i64 B] rfl rfl (dp_new W A B) (dp_one A B) (by omega) ?_; intro w3 hown' hgrow3; have hd3 := fd_box HI.out hgrow3; have d3 := one_cell hd3; have f3 := one_frozen hd3)
      have HW4 := hidMk hown'
      have HG3 := hidMk hgrow3
      have HD3 := hidMk hd3
      clear hown' hgrow3 hd3
      have HS := hidMk (fd_step HI.out hs4 (A := A) (B := B) HP.out HW4.out HG3.out HD3.out (by omega))
      exact HS.out
  case stop =>
    rintro D c W hD ⟨rfl, hI⟩ hK
    have hb := put W D _ (.deferred none) hD hK
    have d0 := one_cell hI.hd
    have HI := hidMk (hI.mv hs4 hb)
    clear hI hb
    gi_wp2
    refine ⟨by simp, .inl ⟨_, _, rfl, run_takeDeferred hK, ?_⟩⟩
    exact ⟨_, results_tmp rfl _ _ _, rfl, HI.out.row, HI.out.hb⟩
end Go.Proofs.YtodabmkcihafhaaGreatDoor

/- Digits: the book's Digits. -/
namespace Go.Proofs.YtodabmkcihafhaaGreatDoor
open Go.RowKit
set_option linter.unusedVariables false
def dgP (a : Ans) (n : Int) : List (Int × Int) := match tellA a n with | .ok x => digP x n.toNat | .err _ _ => []
theorem dgP_re (a : Ans) (n : Int) : dgRe a n = (dgP a n).map (·.1) := by
  unfold dgRe dgP
  cases tellA a n with
  | ok x => simp [digL, digP, dR]
  | err q p => rfl
theorem dgP_im (a : Ans) (n : Int) : dgIm a n = (dgP a n).map (·.2) := by
  unfold dgIm dgP
  cases tellA a n with
  | ok x => simp [digL, digP, dI]
  | err q p => rfl
theorem Tb.below {T r : Nat} {names : List (Int × Num)} {w w' : World} (h : Tb T r names w) (g : Below w.heap.size w w') : Tb T r names w' := by
  obtain ⟨es, clock, h1, h2⟩ := h.hr
  exact ⟨(g.block _ (Array.getElem?_eq_some_iff.1 h.ht).1).trans h.ht, es, clock, (g.block _ (Array.getElem?_eq_some_iff.1 h1).1).trans h1, h2⟩
theorem digP_len (x : Num) (k : Nat) : (digP x k).length = k := by simp [digP]
set_option maxHeartbeats 4000000 in
set_option maxRecDepth 100000 in
theorem bdigits_any (N : Nat) (aZ aB : Addr) (K P m T r : Nat) (names : List (Int × Num)) (s : ByteArray) (n : Int) (w : World) (h : Bk N aZ aB K P m T r names w) :
    Calls Tryz.prog 25 #[.pointer (some ⟨K, 0, none⟩), .string s, .int .i64 n] w fun e w' => ∃ v, e = .returned (.tuple #[.int .i64 (dgU (valS names s) n), v, .int .i64 (ansE (tellA (valS names s) n)), .int .i64 (ansP (tellA (valS names s) n))]) ∧
      w'.ownsRow w.heap.size 54 2 v (dgP (valS names s) n).length (dpC (dgP (valS names s) n)) ∧ (∃ g len cap, v = .slice g len cap) ∧ Tb T r names w' ∧ Kp (· = r) w w' := by
  have CT := hidMk (told_any N aZ aB K P m T r names s n w h)
  have HX0 := hidMk (dg_vals (s := s) h.pw.nm n)
  clear h
  go_enter Tryz.func25, Tryz.ntmps25
  go_wp2_with fail
  refine CT.out.mono ?_
  rintro e w1 ⟨rfl, ht1, hk1⟩
  clear CT
  have HE : Hid ((∃ (x : Num) (k : Nat), n = k ∧ k ≤ 20 ∧ x.Ok ∧ tellA (valS names s) n = .ok x) ∨ ∃ q p, tellA (valS names s) n = .err q p ∧ q ≠ 0) := by
    rcases HX0.out with ⟨x, _, _, ht, hx, _, _, hn0, hn1, hv⟩ | ⟨x, hv, hx, hr, ht⟩ | ⟨q, p, hv, hq, ht⟩
    · exact Or.inl ⟨x, n.toNat, by omega, by omega, hx, ht⟩
    · exact Or.inr ⟨6, 0, ht, by decide⟩
    · exact Or.inr ⟨q, p, ht, hq⟩
  clear HX0
  rcases HE.out with ⟨x, k, rfl, hk, hx, ht⟩ | ⟨q, p, ht, hq⟩
  · have HV : Hid (dgU (valS names s) k = (unitP x : Nat) ∧ dgP (valS names s) k = digP x k ∧ ansE (tellA (valS names s) k) = 0 ∧ ansP (tellA (valS names s) k) = 0) := by
      unfold dgU dgP
      rw [ht]
      exact ⟨rfl, rfl, rfl, rfl⟩
    have CE := hidMk (fun W => exponent_any x W hx)
    have CF := hidMk (fun W => first_any x k W hx hk)
    have HL := hidMk (digP_len x k)
    rw [ht]
    have e1 : ansV (.ok x) = .tuple #[.agg (numC x), .int .i64 0, .int .i64 0] := rfl
    rw [e1]
    clear ht hx HE e1
    generalize unitP x = U at *
    generalize digP x k = DP at *
    go_upto_region 2 with fail
    have hx2 := heap_alloc_new w1 (.cells (numC x) 82)
    have ht2 := ht1.below (fr_below w1 (.cells (numC x) 82))
    have hk2 := hk1.below (fr_below w1 (.cells (numC x) 82))
    generalize w1.alloc _ = W2 at *
    generalize w1.heap.size = b9 at *
    have HX := hidMk hx2
    have HT := hidMk ht2
    have HK := hidMk hk2
    clear hx2 ht2 hk2 ht1 hk1
    go_upto_region 4 with fail
    refine region_inv (nt := 30) _
      (fun j v => match j with
        | 0 => v = .agg (numC x)
        | 1 => v = .int .i64 (U : Nat)
        | 2 => v = .agg (numC x)
        | 3 => v = .int .i64 (k : Nat)
        | 5 => v = .int .i64 (U : Nat)
        | 7 => v = .int .i64 0
        | 8 => v = .int .i64 0
        | _ => True)
      (fun b u w' => Hid (Nw W2 w' ∧ (b 4 = true → (∃ g, u 29 = .slice (some ⟨g, 0, none⟩) k k) ∧ w'.ownsRow W2.heap.size 54 2 (u 29) k (dpC DP)) ∧ (b 6 = true → b 4 = true) ∧ (b 6 = true → u 7 = u 29)))
      (act_of rfl rfl) (by kernel_rfl) (by kernel_rfl) (by kernel_rfl) ⟨(Nw.refl W2).drew, fun h => (by cases h), fun h => h, fun h => by cases h⟩ ?_ ?_
    · intro i o b u w' ho hbi hall hU hW K hK
      have hA : actOf 30 u = ⟨#[u 0, u 1, u 2, u 3, u 4, u 5, u 6, u 7, u 8, u 9, u 10, u 11, u 12, u 13, u 14, u 15, u 16, u 17, u 18, u 19, u 20, u 21, u 22, u 23, u 24, u 25, u 26, u 27, u 28, u 29], []⟩ := rfl
      rw [hA] at hK ⊢
      have c2 : u 2 = .int .i64 (k : Nat) := hU.oldB 2 (by kernel_rfl)
      have c10 : u 10 = .pointer (some ⟨b9, 0, none⟩) := hU.oldB 10 (by kernel_rfl)
      have got := hU.got
      have HW := hW
      have HKK := hidMk hK
      clear hU hA hK hW
      have hxx := (HW.out.1.b.block b9 (Array.getElem?_eq_some_iff.1 HX.out).1).trans HX.out
      obtain ⟨x0, x1, x2, x3⟩ := four_cells hxx
      rcases i with _ | _ | _ | _ | _ | _ | _ | _ | _ | i
      · cases ho
        go_simp
        exact HKK.out _ _ _ (by rw [c2, c10]; rfl) (fun _ => rfl) ⟨HW.out.1, HW.out.2.1, HW.out.2.2.1, HW.out.2.2.2⟩
      · cases ho
        have g25 : u 25 = .agg (numC x) := got 0 25 rfl (hall ⟨0, .data⟩ (by simp) rfl)
        go_simp
        refine (CE.out _).mono ?_
        rintro e w9 ⟨rfl, hb9⟩
        exact HKK.out _ _ _ (by rw [c2, c10, g25]; rfl) (fun _ => rfl) ⟨HW.out.1.below hb9, fun h => ⟨(HW.out.2.1 h).1, row_below (HW.out.2.1 h).2 hb9⟩, HW.out.2.2.1, HW.out.2.2.2⟩
      · cases ho
        go_simp
        exact HKK.out _ _ _ (by rw [c2, c10]; rfl) (fun _ => rfl) ⟨HW.out.1, HW.out.2.1, HW.out.2.2.1, HW.out.2.2.2⟩
      · cases ho
        go_simp
        exact HKK.out _ _ _ (by rw [c2, c10]; rfl) (fun _ => rfl) ⟨HW.out.1, HW.out.2.1, HW.out.2.2.1, HW.out.2.2.2⟩
      · cases ho
        have g27 : u 27 = .agg (numC x) := got 2 27 rfl (hall ⟨2, .data⟩ (by simp) rfl)
        have g28 : u 28 = .int .i64 (k : Nat) := got 3 28 rfl (hall ⟨3, .data⟩ (by simp) rfl)
        have nb : b 6 = false := by
          cases h : b 6 with
          | false => rfl
          | true => rw [HW.out.2.2.1 h] at hbi; cases hbi
        have NB := hidMk nb
        clear nb
        go_simp
        refine (CF.out _).mono ?_
        rintro e w9 ⟨rfl, hr9, hb9⟩
        exact HKK.out _ _ _ (by rw [c2, c10, g27, g28]; rfl) (fun _ => trivial) ⟨HW.out.1.below hb9, fun _ => ⟨⟨_, rfl⟩, row_mono hr9 HW.out.1.b.size⟩, fun _ => rfl, fun h => absurd (show b 6 = true from h) (by rw [NB.out]; decide)⟩
      · cases ho
        have g26 : u 26 = .int .i64 (U : Nat) := got 1 26 rfl (hall ⟨1, .data⟩ (by simp) rfl)
        go_simp
        exact HKK.out _ _ _ (by rw [c2, c10, g26]; rfl) (fun _ => rfl) ⟨HW.out.1, HW.out.2.1, HW.out.2.2.1, HW.out.2.2.2⟩
      · cases ho
        have Y4 : Hid (b 4 = true) := hall ⟨4, .data⟩ (by simp) rfl
        obtain ⟨g9, hg9⟩ := (HW.out.2.1 Y4.out).1
        go_simp
        exact HKK.out _ _ _ (by rw [c2, c10, hg9]; rfl) (fun _ => trivial) ⟨HW.out.1, HW.out.2.1, fun _ => Y4.out, fun _ => hg9.symm⟩
      · cases ho
        go_simp
        exact HKK.out _ _ _ (by rw [c2, c10]; rfl) (fun _ => rfl) ⟨HW.out.1, HW.out.2.1, HW.out.2.2.1, HW.out.2.2.2⟩
      · cases ho
        go_simp
        exact HKK.out _ _ _ (by rw [c2, c10]; rfl) (fun _ => rfl) ⟨HW.out.1, HW.out.2.1, HW.out.2.2.1, HW.out.2.2.2⟩
      · simp at ho
    · intro b u w' hall hU hW
      have e29 := (hW.out.2.1 (hall 4 (by decide))).1
      have hrow := (hW.out.2.1 (hall 4 (by decide))).2
      have e7 := hW.out.2.2.2 (hall 6 (by decide))
      have e6 : u 6 = .int .i64 (U : Nat) := hU.got 5 6 rfl (hall 5 (by decide))
      have e8 : u 8 = .int .i64 0 := hU.got 7 8 rfl (hall 7 (by decide))
      have e9 : u 9 = .int .i64 0 := hU.got 8 9 rfl (hall 8 (by decide))
      obtain ⟨g, hg⟩ := e29
      rw [hg] at e7 hrow
      have HB := hidMk hW.out.1.b
      have HROW := hidMk hrow
      have hA : actOf 30 u = ⟨#[u 0, u 1, u 2, u 3, u 4, u 5, u 6, u 7, u 8, u 9, u 10, u 11, u 12, u 13, u 14, u 15, u 16, u 17, u 18, u 19, u 20, u 21, u 22, u 23, u 24, u 25, u 26, u 27, u 28, u 29], []⟩ := rfl
      have e0 : u 0 = .pointer (some ⟨K, 0, none⟩) := hU.oldB 0 (by kernel_rfl)
      have e1 : u 1 = .string s := hU.oldB 1 (by kernel_rfl)
      have e2 : u 2 = .int .i64 (k : Nat) := hU.oldB 2 (by kernel_rfl)
      have e3 : u 3 = undef := hU.oldB 3 (by kernel_rfl)
      have e4 : u 4 = undef := hU.oldB 4 (by kernel_rfl)
      have e5 : u 5 = undef := hU.oldB 5 (by kernel_rfl)
      have e10 : u 10 = .pointer (some ⟨b9, 0, none⟩) := hU.oldB 10 (by kernel_rfl)
      have e11 : u 11 = .int .i64 0 := hU.oldB 11 (by kernel_rfl)
      have e12 : u 12 = .int .i64 0 := hU.oldB 12 (by kernel_rfl)
      have e13 : u 13 = .tuple #[.agg (numC x), .int .i64 0, .int .i64 0] := hU.oldB 13 (by kernel_rfl)
      have e14 : u 14 = .pointer (some ⟨K, 0, none⟩) := hU.oldB 14 (by kernel_rfl)
      have e15 : u 15 = .string s := hU.oldB 15 (by kernel_rfl)
      have e16 : u 16 = .int .i64 (k : Nat) := hU.oldB 16 (by kernel_rfl)
      have e17 : u 17 = .tuple #[.agg (numC x), .int .i64 0, .int .i64 0] := hU.oldB 17 (by kernel_rfl)
      have e18 : u 18 = .agg (numC x) := hU.oldB 18 (by kernel_rfl)
      have e19 : u 19 = .int .i64 0 := hU.oldB 19 (by kernel_rfl)
      have e20 : u 20 = .int .i64 0 := hU.oldB 20 (by kernel_rfl)
      have e21 : u 21 = .int .i64 0 := hU.oldB 21 (by kernel_rfl)
      have e22 : u 22 = .bool false := hU.oldB 22 (by kernel_rfl)
      have e23 : u 23 = undef := hU.oldB 23 (by kernel_rfl)
      have e24 : u 24 = undef := hU.oldB 24 (by kernel_rfl)
      rw [hA, e0, e1, e2, e3, e4, e5, e10, e11, e12, e13, e14, e15, e16, e17, e18, e19, e20, e21, e22, e23, e24]
      clear hA e0 e1 e2 e3 e4 e5 e10 e11 e12 e13 e14 e15 e16 e17 e18 e19 e20 e21 e22 e23 e24
      rw [e6, e7, e8, e9]
      clear hU hW hall e6 e7 e8 e9 hrow hg
      go_wp2_with fail
      exact bodyPost_ret (v := .tuple #[.int .i64 (U : Nat), .slice (some ⟨g, 0, none⟩) k k, .int .i64 0, .int .i64 0]) (by simp [results, Tryz.results25, go_sem]) rfl
        ⟨_, by rw [HV.out.1, HV.out.2.2.1, HV.out.2.2.2], by rw [HV.out.2.1, HL.out]; exact row_mono HROW.out HK.out.size, ⟨_, _, _, rfl⟩, HT.out.below HB.out, HK.out.below HB.out⟩
  · have HV : Hid (dgU (valS names s) n = 0 ∧ dgP (valS names s) n = [] ∧ ansE (tellA (valS names s) n) = q ∧ ansP (tellA (valS names s) n) = p) := by
      unfold dgU dgP
      rw [ht]
      exact ⟨rfl, rfl, rfl, rfl⟩
    rw [ht]
    have e1 : ansV (.err q p) = .tuple #[.agg (numC ⟨⟨0, 0⟩, ⟨0, 0⟩⟩), .int .i64 q, .int .i64 p] := rfl
    rw [e1]
    have hne : (q != 0) = true := by simpa using hq
    clear ht hq HE e1
    go_upto_region 2 with fail
    have ht2 := ht1.below (fr_below w1 (.cells (numC ⟨⟨0, 0⟩, ⟨0, 0⟩⟩) 82))
    have hk2 := hk1.below (fr_below w1 (.cells (numC ⟨⟨0, 0⟩, ⟨0, 0⟩⟩) 82))
    generalize w1.alloc _ = W2 at *
    go_wp2_with fail
    exact bodyPost_ret (v := .tuple #[.int .i64 0, .slice none 0 0, .int .i64 q, .int .i64 p]) (by simp [results, Tryz.results25, go_sem]) rfl ⟨_, by rw [HV.out.1, HV.out.2.2.1, HV.out.2.2.2], by rw [HV.out.2.1]; exact World.ownsRow_nil _ _ _ _, ⟨_, _, _, rfl⟩, ht2, hk2⟩
end Go.Proofs.YtodabmkcihafhaaGreatDoor

/- The law's digits: what is wanted, the unit. -/
namespace Go.Proofs.YtodabmkcihafhaaGreatDoor
open Go.RowKit
set_option linter.unusedVariables false
theorem row_kept {w w' : World} {base r : Nat} {e : TypeId} {sz : Nat} {v : Value} {n : Nat} {xs : List Value} (h : w.ownsRow base e sz v n xs) (g : Kp (· = r) w w') (hr : r < base) : w'.ownsRow base e sz v n xs := by
  obtain ⟨h1, h2⟩ := h
  refine ⟨h1, ?_⟩
  rcases h2 with h2 | ⟨b, cap, cur, e1, e2, e3, e4, e5, e6, e7⟩
  · exact Or.inl h2
  · exact Or.inr ⟨b, cap, cur, e1, e2, (g.block _ (Array.getElem?_eq_some_iff.1 e3).1 (by omega)).trans e3, e4, e5, e6, e7⟩
theorem row_len {w : World} {base : Nat} {e : TypeId} {sz : Nat} {v : Value} {n : Nat} {xs : List Value} (h : w.ownsRow base e sz v n xs) : ∃ o c, v = .slice o n c := by
  rcases h.2 with ⟨rfl, rfl⟩ | ⟨b, cap, cur, rfl, _⟩
  · exact ⟨_, _, rfl⟩
  · exact ⟨_, _, rfl⟩
/-- A row of ints: its elements, where there are any. -/
theorem row_int {w : World} {base : Nat} {o : Option Addr} {n c : Nat} {l : List Int} {i : Nat} {a : Int} (h : w.ownsRow base 3 1 (.slice o n c) n (iC l)) (hi : l[i]? = some a) (hn : i < n) :
    ∃ g, o = some ⟨g, 0, none⟩ ∧ base ≤ g ∧ w.cell? ⟨g, i, none⟩ = some (.int .i64 a) := by
  rcases h.2 with ⟨h1, rfl⟩ | ⟨b, cap, cur, e1, e2, e3, e4, e5, e6, e7⟩
  · omega
  · simp only [Value.slice.injEq] at e1
    refine ⟨b, e1.1, e2, ?_⟩
    have h2 : cur[i]? = some (.int .i64 a) := by
      rw [← Array.getElem?_toList, ← List.getElem?_take_of_lt (show i < n * 1 by omega), e7]
      simp [iC, hi]
    unfold World.cell?
    rw [e3]
    exact h2
/-- A row of digits: it lies in one block, and holds them. -/
structure LDg (l : List (Int × Int)) (cap g i : Nat) (W : World) : Prop where
  ex : ∃ cur : Array Value, W.heap[g]? = some (.cells cur 54 (0, 0)) ∧ l.length ≤ cap ∧ cur.size = cap * 2 ∧ ∀ j p, i ≤ j → l[j]? = some p → cur[j * 2]? = some (.int .i64 p.1) ∧ cur[j * 2 + 1]? = some (.int .i64 p.2)
theorem dpC_get (l : List (Int × Int)) : ∀ (j : Nat) (p : Int × Int), l[j]? = some p → (dpC l)[j * 2]? = some (.int .i64 p.1) ∧ (dpC l)[j * 2 + 1]? = some (.int .i64 p.2) := by
  induction l with
  | nil => intro j p h; simp at h
  | cons q l ih =>
    intro j p h
    cases j with
    | zero =>
      simp at h
      subst h
      exact ⟨rfl, rfl⟩
    | succ j =>
      simp at h
      have := ih j p h
      rw [show (j + 1) * 2 = j * 2 + 2 by omega]
      exact this
theorem row_digits {w : World} {base : Nat} {v : Value} {l : List (Int × Int)} (h : w.ownsRow base 54 2 v l.length (dpC l)) :
    ∃ o c, v = .slice o l.length c ∧ (l = [] ∨ ∃ g, o = some ⟨g, 0, none⟩ ∧ base ≤ g ∧ LDg l c g 0 w) := by
  rcases h.2 with ⟨h1, h2⟩ | ⟨b, cap, cur, e1, e2, e3, e4, e5, e6, e7⟩
  · have : l = [] := List.length_eq_zero_iff.1 h2
    subst this
    exact ⟨_, _, h1, Or.inl rfl⟩
  · refine ⟨_, _, e1, Or.inr ⟨b, rfl, e2, cur, e3, e4, e6, fun j p _ hp => ?_⟩⟩
    have hj := (List.getElem?_eq_some_iff.1 hp).1
    obtain ⟨q1, q2⟩ := dpC_get l j p hp
    rw [← e7, List.getElem?_take_of_lt (by omega), Array.getElem?_toList] at q1 q2
    exact ⟨q1, q2⟩
theorem LDg.kept {l : List (Int × Int)} {cap g i r : Nat} {W W' : World} (h : LDg l cap g i W) (k : Kp (· = r) W W') (hr : r < g) : LDg l cap g i W' := by
  obtain ⟨cur, h1, h2⟩ := h.ex
  exact ⟨cur, (k.block _ (Array.getElem?_eq_some_iff.1 h1).1 (by omega)).trans h1, h2⟩
theorem LDg.cells {l : List (Int × Int)} {cap g i : Nat} {W : World} (h : LDg l cap g i W) {p : Int × Int} (hp : l[i]? = some p) :
    W.cell? ⟨g, i * 2, none⟩ = some (.int .i64 p.1) ∧ W.cell? ⟨g, i * 2 + 1, none⟩ = some (.int .i64 p.2) ∧ W.frozen? ⟨g, i * 2, none⟩ = false ∧ W.frozen? ⟨g, i * 2 + 1, none⟩ = false := by
  obtain ⟨cur, h1, _, _, h2⟩ := h.ex
  obtain ⟨q1, q2⟩ := h2 i p (Nat.le_refl _) hp
  unfold World.cell? World.frozen?
  rw [h1]
  exact ⟨q1, q2, by simp, by simp⟩
theorem LDg.set {l : List (Int × Int)} {cap g i : Nat} {W : World} (h : LDg l cap g i W) (a b : Value) : LDg l cap g (i + 1) ((W.setCell ⟨g, i * 2, none⟩ a).setCell ⟨g, i * 2 + 1, none⟩ b) := by
  obtain ⟨cur, h1, h2, h3, h4⟩ := h.ex
  have e : ((W.setCell ⟨g, i * 2, none⟩ a).setCell ⟨g, i * 2 + 1, none⟩ b).heap[g]? = some (.cells ((cur.setIfInBounds (i * 2) a).setIfInBounds (i * 2 + 1) b) 54 (0, 0)) := by
    simp [World.setCell, Array.getElem?_modify, h1]
  refine ⟨_, e, h2, by simpa using h3, fun j p hj hp => ?_⟩
  obtain ⟨q1, q2⟩ := h4 j p (by omega) hp
  rw [Array.getElem?_setIfInBounds_ne (by omega), Array.getElem?_setIfInBounds_ne (by omega), Array.getElem?_setIfInBounds_ne (by omega), Array.getElem?_setIfInBounds_ne (by omega)]
  exact ⟨q1, q2⟩

set_option maxHeartbeats 2000000 in
theorem wanted_any (K B : Nat) (names : List (Int × Num)) (s : ByteArray) (n : Int) (w : World) (hl : names.length ≤ 1000) (hok : ∀ p ∈ names, p.2.Ok) (h : NmRow B names w) :
    Calls Tryz.prog 42 #[prV K B, .string s, .int .i64 n] w fun e w' => ∃ v1 v2, e = .returned (.tuple #[v1, v2, .int .i64 (ansE (tellA (valS names s) n)), .int .i64 (ansP (tellA (valS names s) n))]) ∧
      w'.ownsRow w.heap.size 3 1 v1 (dgP (valS names s) n).length (iC ((dgP (valS names s) n).map (·.1))) ∧ w'.ownsRow w.heap.size 3 1 v2 (dgP (valS names s) n).length (iC ((dgP (valS names s) n).map (·.2))) ∧ Below w.heap.size w w' := by
  have CN := hidMk (fun W hW => rbdigits_any B names s n W hl hok hW)
  have hx0 := heap_alloc_new w (.cells #[.pointer (some ⟨K, 0, none⟩), .pointer (some ⟨B, 0, none⟩)] 34)
  have hb0 := fr_below w (.cells #[.pointer (some ⟨K, 0, none⟩), .pointer (some ⟨B, 0, none⟩)] 34)
  have hn0 := hidMk (h.below hb0)
  rw [dgP_re, dgP_im] at CN
  simp only [List.length_map] at CN
  generalize dgP (valS names s) n = DP at *
  generalize ansE (tellA (valS names s) n) = E at *
  generalize ansP (tellA (valS names s) n) = Q at *
  clear hl hok h
  go_enter Tryz.func42, Tryz.ntmps42
  go_upto_region 1 with fail
  generalize w.alloc _ = W at *
  obtain ⟨c0, c1, _, _⟩ := two_cells hx0
  have HB := hidMk hb0
  clear hx0 hb0
  go_wp2_with fail
  refine (CN.out _ hn0.out).mono ?_
  rintro e w1 ⟨v1, v2, rfl, hr1, hr2, hb1⟩
  have HR1 := hidMk (row_mono hr1 HB.out.size)
  have HR2 := hidMk (row_mono hr2 HB.out.size)
  have HB1 := hidMk (HB.out.trans (hb1.mono HB.out.size))
  clear hr1 hr2 hb1 c0 c1
  go_wp2_with fail
  exact bodyPost_ret (v := .tuple #[v1, v2, .int .i64 E, .int .i64 Q]) (by simp [results, Tryz.results42, go_sem]) rfl ⟨v1, v2, rfl, HR1.out, HR2.out, HB1.out⟩
set_option maxHeartbeats 2000000 in
theorem lunit_any (K B : Nat) (names : List (Int × Num)) (s : ByteArray) (n : Int) (w : World) (hl : names.length ≤ 1000) (hok : ∀ p ∈ names, p.2.Ok) (h : NmRow B names w) :
    Calls Tryz.prog 43 #[prV K B, .string s, .int .i64 n] w fun e w' => e = .returned (.int .i64 (dgU (valS names s) n)) ∧ Below w.heap.size w w' := by
  have CN := hidMk (fun W hW => rbdigits_any B names s n W hl hok hW)
  have hx0 := heap_alloc_new w (.cells #[.pointer (some ⟨K, 0, none⟩), .pointer (some ⟨B, 0, none⟩)] 34)
  have hb0 := fr_below w (.cells #[.pointer (some ⟨K, 0, none⟩), .pointer (some ⟨B, 0, none⟩)] 34)
  have hn0 := hidMk (h.below hb0)
  generalize ansE (tellA (valS names s) n) = E at *
  generalize ansP (tellA (valS names s) n) = Q at *
  generalize dgU (valS names s) n = U at *
  clear hl hok h
  go_enter Tryz.func43, Tryz.ntmps43
  go_upto_region 1 with fail
  generalize w.alloc _ = W at *
  obtain ⟨c0, c1, _, _⟩ := two_cells hx0
  have HB := hidMk hb0
  clear hx0 hb0
  go_wp2_with fail
  refine (CN.out _ hn0.out).mono ?_
  rintro e w1 ⟨v1, v2, rfl, hr1, hr2, hb1⟩
  have HB1 := hidMk (HB.out.trans (hb1.mono HB.out.size))
  clear hr1 hr2 hb1 c0 c1
  go_wp2_with fail
  go_ret
  exact ⟨rfl, HB1.out⟩
end Go.Proofs.YtodabmkcihafhaaGreatDoor

import Derived.Test.YtodabmkcihafhaaGreatDoorK7
import Derived.Test.YtodabmkcihafhaaGreatDoorK9

/- The program's Add and Subtract. -/
namespace Go.Proofs.YtodabmkcihafhaaGreatDoor
open Go.RowKit
set_option linter.unusedVariables false

set_option maxHeartbeats 4000000 in
set_option maxRecDepth 100000 in
theorem nadd_any (N : Nat) (aZ aB : Addr) (x y : Num) (w : World) (hS : Sen N aZ aB w) (hN : N ≤ w.heap.size) (hx : x.Ok) (hy : y.Ok) :
    Calls Tryz.prog 168 #[.agg #[.int .i64 x.re.n, .int .i64 x.re.d, .int .i64 x.im.n, .int .i64 x.im.d], .agg #[.int .i64 y.re.n, .int .i64 y.re.d, .int .i64 y.im.n, .int .i64 y.im.d]] w fun e w' => e = .returned (outV aB (addB x y) (addN x y)) ∧ Below w.heap.size w w' := by
  have C1 : Hid (∀ b fl W, RkSt b fl W → Calls Tryz.prog 177 #[.pointer (some ⟨b, 0, none⟩), .agg #[.int .i64 (x.re).n, .int .i64 (x.re).d], .agg #[.int .i64 (y.re).n, .int .i64 (y.re).d]] W fun e w' => e = .returned (.agg #[.int .i64 (plF x.re y.re).n, .int .i64 (plF x.re y.re).d]) ∧ RkSt b (fl || plB x.re y.re) w' ∧ W.grownBy w' (some b)) := fun b fl W h => plus_any b fl _ _ W hx.1 hy.1 h
  have C2 : Hid (∀ b fl W, RkSt b fl W → Calls Tryz.prog 177 #[.pointer (some ⟨b, 0, none⟩), .agg #[.int .i64 (x.im).n, .int .i64 (x.im).d], .agg #[.int .i64 (y.im).n, .int .i64 (y.im).d]] W fun e w' => e = .returned (.agg #[.int .i64 (plF x.im y.im).n, .int .i64 (plF x.im y.im).d]) ∧ RkSt b (fl || plB x.im y.im) w' ∧ W.grownBy w' (some b)) := fun b fl W h => plus_any b fl _ _ W hx.2 hy.2 h
  have HO : Hid (outV aB (addB x y) (addN x y) = outV aB ((false || plB x.re y.re) || plB x.im y.im) ⟨plF x.re y.re, plF x.im y.im⟩) := by
    show outV aB (addB x y) (addN x y) = _
    rw [Bool.false_or]
    rfl
  generalize plF x.re y.re = F1 at *
  generalize plF x.im y.im = F2 at *
  generalize plB x.re y.re = B1 at *
  generalize plB x.im y.im = B2 at *
  obtain ⟨p, q, r, s, E, hO, hE⟩ := outV_parts aB ((false || B1) || B2) ⟨F1, F2⟩
  have CN : Hid (∀ W, Rek w (w.heap.size + 1 + 1 + 1) x y [] ((false || B1) || B2) W → Calls Tryz.prog 176 #[.pointer (some ⟨w.heap.size + 1 + 1 + 1, 0, none⟩), .agg #[.int .i64 F1.n, .int .i64 F1.d], .agg #[.int .i64 F2.n, .int .i64 F2.d]] W fun e w' => e = .returned (.tuple #[.agg #[.int .i64 p, .int .i64 q, .int .i64 r, .int .i64 s], E]) ∧ Below W.heap.size W w') := by
    intro W h
    rw [← hO]
    exact number_any N _ aZ aB _ F1 F2 W (hS.below h.hb hN) (Nat.le_trans hN h.hb.size) h.hr
  have HO2 := hidMk (HO.out.trans hO)
  clear hx hy hS hO HO
  go_enter Tryz.func168, Tryz.ntmps168
  go_wp2_with fail
  have h4 := Rek.new w x y
  generalize (((w.alloc _).alloc _).alloc _).alloc _ = W at *
  refine region_inv (nt := 20)
    (fun s => match s with
      | 0 => .agg #[.int .i64 x.re.n, .int .i64 x.re.d, .int .i64 x.im.n, .int .i64 x.im.d]
      | 1 => .agg #[.int .i64 y.re.n, .int .i64 y.re.d, .int .i64 y.im.n, .int .i64 y.im.d]
      | 2 => .pointer (some ⟨w.heap.size, 0, none⟩)
      | 3 => .pointer (some ⟨w.heap.size + 1, 0, none⟩)
      | 4 => .pointer (some ⟨w.heap.size + 1 + 1, 0, none⟩)
      | 5 => .nilIface
      | 6 => .pointer (some ⟨w.heap.size + 1 + 1 + 1, 0, none⟩)
      | _ => undef)
    (fun k v => match k with
      | 0 => v = .pointer (some ⟨w.heap.size, 0, none⟩)
      | 1 => v = .agg #[.int .i64 (x.re).n, .int .i64 (x.re).d]
      | 2 => v = .pointer (some ⟨w.heap.size + 1, 0, none⟩)
      | 3 => v = .agg #[.int .i64 (y.re).n, .int .i64 (y.re).d]
      | 4 => v = .agg #[.int .i64 (F1).n, .int .i64 (F1).d]
      | 5 => v = .pointer (some ⟨w.heap.size, 2, none⟩)
      | 6 => v = .agg #[.int .i64 (x.im).n, .int .i64 (x.im).d]
      | 7 => v = .pointer (some ⟨w.heap.size + 1, 2, none⟩)
      | 8 => v = .agg #[.int .i64 (y.im).n, .int .i64 (y.im).d]
      | 9 => v = .agg #[.int .i64 (F2).n, .int .i64 (F2).d]
      | 10 => v = .tuple #[.agg #[.int .i64 p, .int .i64 q, .int .i64 r, .int .i64 s], E]
      | 11 => v = .agg #[.int .i64 p, .int .i64 q, .int .i64 r, .int .i64 s]
      | 12 => v = E
      | 14 => v = E
      | _ => True)
    (fun b u w' => Hid ((b 13 = false → Rek w (w.heap.size + 1 + 1 + 1) x y [] (if b 9 = true then ((false || B1) || B2) else (if b 4 = true then (false || B1) else false)) w') ∧ (b 9 = true → b 4 = true) ∧ (b 13 = true → ∀ k, k < 13 → b k = true) ∧
      (b 13 = true → Below w.heap.size w w' ∧ w'.heap[w.heap.size + 1 + 1]? = some (.cells #[.int .i64 p, .int .i64 q, .int .i64 r, .int .i64 s] 82 (0, 0)))))
    rfl (by kernel_rfl) (by kernel_rfl) (by kernel_rfl) ⟨fun _ => h4.drew, fun h => h, fun h => (by cases h), fun h => (by cases h)⟩ ?_ ?_
  · intro i o b u w' ho hbi hall hU hW K hK
    have hA : actOf 20 u = ⟨#[u 0, u 1, u 2, u 3, u 4, u 5, u 6, u 7, u 8, u 9, u 10, u 11, u 12, u 13, u 14, u 15, u 16, u 17, u 18, u 19], []⟩ := rfl
    rw [hA] at hK ⊢
    have c2 : u 2 = .pointer (some ⟨w.heap.size, 0, none⟩) := hU.oldB 2 (by kernel_rfl)
    have c3 : u 3 = .pointer (some ⟨w.heap.size + 1, 0, none⟩) := hU.oldB 3 (by kernel_rfl)
    have c4 : u 4 = .pointer (some ⟨w.heap.size + 1 + 1, 0, none⟩) := hU.oldB 4 (by kernel_rfl)
    have c6 : u 6 = .pointer (some ⟨w.heap.size + 1 + 1 + 1, 0, none⟩) := hU.oldB 6 (by kernel_rfl)
    have got := hU.got
    clear hU hA h4
    obtain ⟨hF0, hc0, hz0, hz1⟩ := hW.out
    have HC0 : Hid (b 9 = true → b 4 = true) := hc0
    have HZ0 := hidMk hz0
    have HZ1 := hidMk hz1
    have HKK := hidMk hK
    have HF0 := hidMk hF0
    clear hK hF0 hW hc0 hz0 hz1
    rcases i with _ | _ | _ | _ | _ | _ | _ | _ | _ | _ | _ | _ | _ | _ | _ | i
    · cases ho
      have nz : b 13 = false := by
        cases h : b 13 with
        | false => rfl
        | true => rw [HZ0.out h 0 (by decide)] at hbi; cases hbi
      have hF := HF0.out nz
      have NZ := hidMk nz
      obtain ⟨x0, x1, x2, x3⟩ := four_cells hF.hx
      obtain ⟨y0, y1, y2, y3⟩ := four_cells hF.hy
      have HF := hidMk hF
      clear hF nz
      go_simp
      exact HKK.out _ _ _ (by rw [c2, c3, c4, c6]; rfl) (fun _ => rfl) ⟨HF0.out, HC0.out, fun h => absurd h (by rw [show upB b 0 13 = b 13 from rfl, NZ.out]; decide), fun h => absurd h (by rw [show upB b 0 13 = b 13 from rfl, NZ.out]; decide)⟩
    · cases ho
      have nz : b 13 = false := by
        cases h : b 13 with
        | false => rfl
        | true => rw [HZ0.out h 1 (by decide)] at hbi; cases hbi
      have hF := HF0.out nz
      have NZ := hidMk nz
      obtain ⟨x0, x1, x2, x3⟩ := four_cells hF.hx
      obtain ⟨y0, y1, y2, y3⟩ := four_cells hF.hy
      have HF := hidMk hF
      clear hF nz
      have g7 : u 7 = .pointer (some ⟨w.heap.size, 0, none⟩) := got 0 7 rfl (hall ⟨0, .data⟩ (by simp) rfl)
      go_simp
      exact HKK.out _ _ _ (by rw [c2, c3, c4, c6, g7]; rfl) (fun _ => rfl) ⟨HF0.out, HC0.out, fun h => absurd h (by rw [show upB b 1 13 = b 13 from rfl, NZ.out]; decide), fun h => absurd h (by rw [show upB b 1 13 = b 13 from rfl, NZ.out]; decide)⟩
    · cases ho
      have nz : b 13 = false := by
        cases h : b 13 with
        | false => rfl
        | true => rw [HZ0.out h 2 (by decide)] at hbi; cases hbi
      have hF := HF0.out nz
      have NZ := hidMk nz
      obtain ⟨x0, x1, x2, x3⟩ := four_cells hF.hx
      obtain ⟨y0, y1, y2, y3⟩ := four_cells hF.hy
      have HF := hidMk hF
      clear hF nz
      go_simp
      exact HKK.out _ _ _ (by rw [c2, c3, c4, c6]; rfl) (fun _ => rfl) ⟨HF0.out, HC0.out, fun h => absurd h (by rw [show upB b 2 13 = b 13 from rfl, NZ.out]; decide), fun h => absurd h (by rw [show upB b 2 13 = b 13 from rfl, NZ.out]; decide)⟩
    · cases ho
      have nz : b 13 = false := by
        cases h : b 13 with
        | false => rfl
        | true => rw [HZ0.out h 3 (by decide)] at hbi; cases hbi
      have hF := HF0.out nz
      have NZ := hidMk nz
      obtain ⟨x0, x1, x2, x3⟩ := four_cells hF.hx
      obtain ⟨y0, y1, y2, y3⟩ := four_cells hF.hy
      have HF := hidMk hF
      clear hF nz
      have g9 : u 9 = .pointer (some ⟨w.heap.size + 1, 0, none⟩) := got 2 9 rfl (hall ⟨2, .data⟩ (by simp) rfl)
      go_simp
      exact HKK.out _ _ _ (by rw [c2, c3, c4, c6, g9]; rfl) (fun _ => rfl) ⟨HF0.out, HC0.out, fun h => absurd h (by rw [show upB b 3 13 = b 13 from rfl, NZ.out]; decide), fun h => absurd h (by rw [show upB b 3 13 = b 13 from rfl, NZ.out]; decide)⟩
    · cases ho
      have nz : b 13 = false := by
        cases h : b 13 with
        | false => rfl
        | true => rw [HZ0.out h 4 (by decide)] at hbi; cases hbi
      have hF := HF0.out nz
      have NZ := hidMk nz
      obtain ⟨x0, x1, x2, x3⟩ := four_cells hF.hx
      obtain ⟨y0, y1, y2, y3⟩ := four_cells hF.hy
      have HF := hidMk hF
      clear hF nz
      have g8 : u 8 = .agg #[.int .i64 (x.re).n, .int .i64 (x.re).d] := got 1 8 rfl (hall ⟨1, .data⟩ (by simp) rfl)
      have g10 : u 10 = .agg #[.int .i64 (y.re).n, .int .i64 (y.re).d] := got 3 10 rfl (hall ⟨3, .data⟩ (by simp) rfl)
      have n9 : b 9 = false := by
        cases h : b 9 with
        | false => rfl
        | true => rw [HC0.out h] at hbi; cases hbi
      have hfl : (if b 9 = true then ((false || B1) || B2) else (if b 4 = true then (false || B1) else false)) = false := by simp [hbi, n9]
      have hfl2 : (if upB b 4 9 = true then ((false || B1) || B2) else (if upB b 4 4 = true then (false || B1) else false)) = (false || B1) := by simp [upB, n9]
      have hr := HF.out.hr
      rw [hfl] at hr
      have HR := hidMk hr
      have HFL := hidMk hfl2
      clear hr hfl hfl2
      go_simp
      refine (C1.out _ _ _ HR.out).mono ?_
      rintro e w2 ⟨rfl, hr2, hg2⟩
      refine HKK.out _ _ _ (by rw [c2, c3, c4, c6, g8, g10]; rfl) (fun _ => rfl) ⟨fun _ => ?_, fun _ => rfl, fun h => absurd h (by rw [show upB b 4 13 = b 13 from rfl, NZ.out]; decide), fun h => absurd h (by rw [show upB b 4 13 = b 13 from rfl, NZ.out]; decide)⟩
      rw [HFL.out]; exact HF.out.grown hg2 hr2
    · cases ho
      have nz : b 13 = false := by
        cases h : b 13 with
        | false => rfl
        | true => rw [HZ0.out h 5 (by decide)] at hbi; cases hbi
      have hF := HF0.out nz
      have NZ := hidMk nz
      obtain ⟨x0, x1, x2, x3⟩ := four_cells hF.hx
      obtain ⟨y0, y1, y2, y3⟩ := four_cells hF.hy
      have HF := hidMk hF
      clear hF nz
      go_simp
      exact HKK.out _ _ _ (by rw [c2, c3, c4, c6]; rfl) (fun _ => rfl) ⟨HF0.out, HC0.out, fun h => absurd h (by rw [show upB b 5 13 = b 13 from rfl, NZ.out]; decide), fun h => absurd h (by rw [show upB b 5 13 = b 13 from rfl, NZ.out]; decide)⟩
    · cases ho
      have nz : b 13 = false := by
        cases h : b 13 with
        | false => rfl
        | true => rw [HZ0.out h 6 (by decide)] at hbi; cases hbi
      have hF := HF0.out nz
      have NZ := hidMk nz
      obtain ⟨x0, x1, x2, x3⟩ := four_cells hF.hx
      obtain ⟨y0, y1, y2, y3⟩ := four_cells hF.hy
      have HF := hidMk hF
      clear hF nz
      have g12 : u 12 = .pointer (some ⟨w.heap.size, 2, none⟩) := got 5 12 rfl (hall ⟨5, .data⟩ (by simp) rfl)
      go_simp
      exact HKK.out _ _ _ (by rw [c2, c3, c4, c6, g12]; rfl) (fun _ => rfl) ⟨HF0.out, HC0.out, fun h => absurd h (by rw [show upB b 6 13 = b 13 from rfl, NZ.out]; decide), fun h => absurd h (by rw [show upB b 6 13 = b 13 from rfl, NZ.out]; decide)⟩
    · cases ho
      have nz : b 13 = false := by
        cases h : b 13 with
        | false => rfl
        | true => rw [HZ0.out h 7 (by decide)] at hbi; cases hbi
      have hF := HF0.out nz
      have NZ := hidMk nz
      obtain ⟨x0, x1, x2, x3⟩ := four_cells hF.hx
      obtain ⟨y0, y1, y2, y3⟩ := four_cells hF.hy
      have HF := hidMk hF
      clear hF nz
      go_simp
      exact HKK.out _ _ _ (by rw [c2, c3, c4, c6]; rfl) (fun _ => rfl) ⟨HF0.out, HC0.out, fun h => absurd h (by rw [show upB b 7 13 = b 13 from rfl, NZ.out]; decide), fun h => absurd h (by rw [show upB b 7 13 = b 13 from rfl, NZ.out]; decide)⟩
    · cases ho
      have nz : b 13 = false := by
        cases h : b 13 with
        | false => rfl
        | true => rw [HZ0.out h 8 (by decide)] at hbi; cases hbi
      have hF := HF0.out nz
      have NZ := hidMk nz
      obtain ⟨x0, x1, x2, x3⟩ := four_cells hF.hx
      obtain ⟨y0, y1, y2, y3⟩ := four_cells hF.hy
      have HF := hidMk hF
      clear hF nz
      have g14 : u 14 = .pointer (some ⟨w.heap.size + 1, 2, none⟩) := got 7 14 rfl (hall ⟨7, .data⟩ (by simp) rfl)
      go_simp
      exact HKK.out _ _ _ (by rw [c2, c3, c4, c6, g14]; rfl) (fun _ => rfl) ⟨HF0.out, HC0.out, fun h => absurd h (by rw [show upB b 8 13 = b 13 from rfl, NZ.out]; decide), fun h => absurd h (by rw [show upB b 8 13 = b 13 from rfl, NZ.out]; decide)⟩
    · cases ho
      have nz : b 13 = false := by
        cases h : b 13 with
        | false => rfl
        | true => rw [HZ0.out h 9 (by decide)] at hbi; cases hbi
      have hF := HF0.out nz
      have NZ := hidMk nz
      obtain ⟨x0, x1, x2, x3⟩ := four_cells hF.hx
      obtain ⟨y0, y1, y2, y3⟩ := four_cells hF.hy
      have HF := hidMk hF
      clear hF nz
      have g13 : u 13 = .agg #[.int .i64 (x.im).n, .int .i64 (x.im).d] := got 6 13 rfl (hall ⟨6, .data⟩ (by simp) rfl)
      have g15 : u 15 = .agg #[.int .i64 (y.im).n, .int .i64 (y.im).d] := got 8 15 rfl (hall ⟨8, .data⟩ (by simp) rfl)
      have y4 : b 4 = true := hall ⟨4, .chain⟩ (by simp) rfl
      have hfl : (if b 9 = true then ((false || B1) || B2) else (if b 4 = true then (false || B1) else false)) = (false || B1) := by simp [hbi, y4]
      have hfl2 : (if upB b 9 9 = true then ((false || B1) || B2) else (if upB b 9 4 = true then (false || B1) else false)) = ((false || B1) || B2) := by simp [upB]
      have hr := HF.out.hr
      rw [hfl] at hr
      have HR := hidMk hr
      have HFL := hidMk hfl2
      clear hr hfl hfl2
      go_simp
      refine (C2.out _ _ _ HR.out).mono ?_
      rintro e w2 ⟨rfl, hr2, hg2⟩
      refine HKK.out _ _ _ (by rw [c2, c3, c4, c6, g13, g15]; rfl) (fun _ => rfl) ⟨fun _ => ?_, fun _ => y4, fun h => absurd h (by rw [show upB b 9 13 = b 13 from rfl, NZ.out]; decide), fun h => absurd h (by rw [show upB b 9 13 = b 13 from rfl, NZ.out]; decide)⟩
      rw [HFL.out]; exact HF.out.grown hg2 hr2
    · cases ho
      have nz : b 13 = false := by
        cases h : b 13 with
        | false => rfl
        | true => rw [HZ0.out h 10 (by decide)] at hbi; cases hbi
      have hF := HF0.out nz
      have NZ := hidMk nz
      obtain ⟨x0, x1, x2, x3⟩ := four_cells hF.hx
      obtain ⟨y0, y1, y2, y3⟩ := four_cells hF.hy
      have HF := hidMk hF
      clear hF nz
      have g11 : u 11 = .agg #[.int .i64 (F1).n, .int .i64 (F1).d] := got 4 11 rfl (hall ⟨4, .data⟩ (by simp) rfl)
      have g16 : u 16 = .agg #[.int .i64 (F2).n, .int .i64 (F2).d] := got 9 16 rfl (hall ⟨9, .data⟩ (by simp) rfl)
      have y0' : b 4 = true := hall ⟨4, .data⟩ (by simp) rfl
      have y1' : b 9 = true := hall ⟨9, .data⟩ (by simp) rfl
      have hfl : (if b 9 = true then ((false || B1) || B2) else (if b 4 = true then (false || B1) else false)) = ((false || B1) || B2) := by simp [y1']
      have hF2 := HF.out
      rw [hfl] at hF2
      have HF2 := hidMk hF2
      have HFL := hidMk (show (if upB b 10 9 = true then ((false || B1) || B2) else (if upB b 10 4 = true then (false || B1) else false)) = ((false || B1) || B2) from hfl)
      clear hfl hF2
      go_simp
      refine (CN.out _ HF2.out).mono ?_
      rintro e w2 ⟨rfl, hb2⟩
      refine HKK.out _ _ _ (by rw [c2, c3, c4, c6, g11, g16]; rfl) (fun _ => rfl) ⟨fun _ => ?_, HC0.out, fun h => absurd h (by rw [show upB b 10 13 = b 13 from rfl, NZ.out]; decide), fun h => absurd h (by rw [show upB b 10 13 = b 13 from rfl, NZ.out]; decide)⟩
      rw [HFL.out]; exact HF2.out.below hb2
    · cases ho
      have nz : b 13 = false := by
        cases h : b 13 with
        | false => rfl
        | true => rw [HZ0.out h 11 (by decide)] at hbi; cases hbi
      have hF := HF0.out nz
      have NZ := hidMk nz
      obtain ⟨x0, x1, x2, x3⟩ := four_cells hF.hx
      obtain ⟨y0, y1, y2, y3⟩ := four_cells hF.hy
      have HF := hidMk hF
      clear hF nz
      have g17 : u 17 = .tuple #[.agg #[.int .i64 p, .int .i64 q, .int .i64 r, .int .i64 s], E] := got 10 17 rfl (hall ⟨10, .data⟩ (by simp) rfl)
      go_simp
      exact HKK.out _ _ _ (by rw [c2, c3, c4, c6, g17]; rfl) (fun _ => rfl) ⟨HF0.out, HC0.out, fun h => absurd h (by rw [show upB b 11 13 = b 13 from rfl, NZ.out]; decide), fun h => absurd h (by rw [show upB b 11 13 = b 13 from rfl, NZ.out]; decide)⟩
    · cases ho
      have nz : b 13 = false := by
        cases h : b 13 with
        | false => rfl
        | true => rw [HZ0.out h 12 (by decide)] at hbi; cases hbi
      have hF := HF0.out nz
      have NZ := hidMk nz
      obtain ⟨x0, x1, x2, x3⟩ := four_cells hF.hx
      obtain ⟨y0, y1, y2, y3⟩ := four_cells hF.hy
      have HF := hidMk hF
      clear hF nz
      have g17 : u 17 = .tuple #[.agg #[.int .i64 p, .int .i64 q, .int .i64 r, .int .i64 s], E] := got 10 17 rfl (hall ⟨10, .data⟩ (by simp) rfl)
      go_simp
      exact HKK.out _ _ _ (by rw [c2, c3, c4, c6, g17]; rfl) (fun _ => rfl) ⟨HF0.out, HC0.out, fun h => absurd h (by rw [show upB b 12 13 = b 13 from rfl, NZ.out]; decide), fun h => absurd h (by rw [show upB b 12 13 = b 13 from rfl, NZ.out]; decide)⟩
    · cases ho
      have g18 : u 18 = .agg #[.int .i64 p, .int .i64 q, .int .i64 r, .int .i64 s] := got 11 18 rfl (hall ⟨11, .data⟩ (by simp) rfl)
      have nz : b 13 = false := hbi
      have hF := HF0.out nz
      obtain ⟨z0, z1, z2, z3⟩ := four_cells hF.hz
      obtain ⟨f0, f1, f2, f3⟩ := four_frozen hF.hz
      have HF := hidMk hF
      have HALL : Hid (∀ k, k < 13 → b k = true) := by
        intro k hk
        rcases k with _ | _ | _ | _ | _ | _ | _ | _ | _ | _ | _ | _ | _ | k
        · exact hall ⟨0, .phase⟩ (by simp) rfl
        · exact hall ⟨1, .phase⟩ (by simp) rfl
        · exact hall ⟨2, .phase⟩ (by simp) rfl
        · exact hall ⟨3, .phase⟩ (by simp) rfl
        · exact hall ⟨4, .phase⟩ (by simp) rfl
        · exact hall ⟨5, .phase⟩ (by simp) rfl
        · exact hall ⟨6, .phase⟩ (by simp) rfl
        · exact hall ⟨7, .phase⟩ (by simp) rfl
        · exact hall ⟨8, .phase⟩ (by simp) rfl
        · exact hall ⟨9, .phase⟩ (by simp) rfl
        · exact hall ⟨10, .phase⟩ (by simp) rfl
        · exact hall ⟨11, .phase⟩ (by simp) rfl
        · exact hall ⟨12, .phase⟩ (by simp) rfl
        · omega
      clear hF nz
      go_simp
      refine HKK.out undef _ _ (by rw [c2, c3, c4, c6, g18]; rfl) (fun h => by cases h) ⟨fun h => absurd h (by simp [upB]), HC0.out, fun _ k hk => ?_, fun _ => ⟨below_four HF.out.hb (by omega) _ _ _ _, four_set HF.out.hz _ _ _ _⟩⟩
      rw [show upB b 13 k = b k from if_neg (by omega)]
      exact HALL.out k hk
    · cases ho
      have g19 : u 19 = E := got 12 19 rfl (hall ⟨12, .data⟩ (by simp) rfl)
      have YZ : Hid (b 13 = true) := hall ⟨13, .phase⟩ (by simp) rfl
      go_simp
      refine HKK.out _ _ _ (by rw [c2, c3, c4, c6, g19]; rfl) (fun _ => rfl) ⟨fun h => absurd h (by rw [show upB b 14 13 = b 13 from rfl, YZ.out]; decide), HC0.out, fun _ k hk => ?_, fun _ => HZ1.out YZ.out⟩
      rw [show upB b 14 k = b k from if_neg (by omega)]
      exact HZ0.out YZ.out k hk
    · simp at ho
  · intro b1 u1 w1 hb1 hU1 hW1
    obtain ⟨hb, hz⟩ := hW1.out.2.2.2 (hb1 13 (by decide))
    obtain ⟨z0, z1, z2, z3⟩ := four_cells hz
    have k4 : u1 4 = .pointer (some ⟨w.heap.size + 1 + 1, 0, none⟩) := hU1.oldB 4 (by kernel_rfl)
    have k5 : u1 5 = E := hU1.got 14 5 rfl (hb1 14 (by decide))
    have hA1 : actOf 20 u1 = ⟨#[u1 0, u1 1, u1 2, u1 3, u1 4, u1 5, u1 6, u1 7, u1 8, u1 9, u1 10, u1 11, u1 12, u1 13, u1 14, u1 15, u1 16, u1 17, u1 18, u1 19], []⟩ := rfl
    rw [hA1, k4, k5]
    clear hA1 k4 k5 hW1 hU1 hb1 hz C1 C2 CN h4
    go_wp2_with fail
    refine bodyPost_ret (v := .tuple #[.agg #[.int .i64 p, .int .i64 q, .int .i64 r, .int .i64 s], E]) (by simp [results, Tryz.results168, go_sem, z0, z1, z2, z3]) rfl ?_
    rw [HO2.out]
    exact ⟨rfl, hb⟩

set_option maxHeartbeats 4000000 in
set_option maxRecDepth 100000 in
theorem sub_any (N : Nat) (aZ aB : Addr) (x y : Num) (w : World) (hS : Sen N aZ aB w) (hN : N ≤ w.heap.size) (hx : x.Ok) (hy : y.Ok) :
    Calls Tryz.prog 169 #[.agg #[.int .i64 x.re.n, .int .i64 x.re.d, .int .i64 x.im.n, .int .i64 x.im.d], .agg #[.int .i64 y.re.n, .int .i64 y.re.d, .int .i64 y.im.n, .int .i64 y.im.d]] w fun e w' => e = .returned (outV aB (subB x y) (subN x y)) ∧ Below w.heap.size w w' := by
  have C1 : Hid (∀ b fl W, RkSt b fl W → Calls Tryz.prog 178 #[.pointer (some ⟨b, 0, none⟩), .agg #[.int .i64 (x.re).n, .int .i64 (x.re).d], .agg #[.int .i64 (y.re).n, .int .i64 (y.re).d]] W fun e w' => e = .returned (.agg #[.int .i64 (plF x.re y.re.neg).n, .int .i64 (plF x.re y.re.neg).d]) ∧ RkSt b (fl || plB x.re y.re.neg) w' ∧ W.grownBy w' (some b)) := fun b fl W h => less_any b fl _ _ W hx.1 hy.1 h
  have C2 : Hid (∀ b fl W, RkSt b fl W → Calls Tryz.prog 178 #[.pointer (some ⟨b, 0, none⟩), .agg #[.int .i64 (x.im).n, .int .i64 (x.im).d], .agg #[.int .i64 (y.im).n, .int .i64 (y.im).d]] W fun e w' => e = .returned (.agg #[.int .i64 (plF x.im y.im.neg).n, .int .i64 (plF x.im y.im.neg).d]) ∧ RkSt b (fl || plB x.im y.im.neg) w' ∧ W.grownBy w' (some b)) := fun b fl W h => less_any b fl _ _ W hx.2 hy.2 h
  have HO : Hid (outV aB (subB x y) (subN x y) = outV aB ((false || plB x.re y.re.neg) || plB x.im y.im.neg) ⟨plF x.re y.re.neg, plF x.im y.im.neg⟩) := by
    show outV aB (subB x y) (subN x y) = _
    rw [Bool.false_or]
    rfl
  generalize plF x.re y.re.neg = F1 at *
  generalize plF x.im y.im.neg = F2 at *
  generalize plB x.re y.re.neg = B1 at *
  generalize plB x.im y.im.neg = B2 at *
  obtain ⟨p, q, r, s, E, hO, hE⟩ := outV_parts aB ((false || B1) || B2) ⟨F1, F2⟩
  have CN : Hid (∀ W, Rek w (w.heap.size + 1 + 1 + 1) x y [] ((false || B1) || B2) W → Calls Tryz.prog 176 #[.pointer (some ⟨w.heap.size + 1 + 1 + 1, 0, none⟩), .agg #[.int .i64 F1.n, .int .i64 F1.d], .agg #[.int .i64 F2.n, .int .i64 F2.d]] W fun e w' => e = .returned (.tuple #[.agg #[.int .i64 p, .int .i64 q, .int .i64 r, .int .i64 s], E]) ∧ Below W.heap.size W w') := by
    intro W h
    rw [← hO]
    exact number_any N _ aZ aB _ F1 F2 W (hS.below h.hb hN) (Nat.le_trans hN h.hb.size) h.hr
  have HO2 := hidMk (HO.out.trans hO)
  clear hx hy hS hO HO
  go_enter Tryz.func169, Tryz.ntmps169
  go_wp2_with fail
  have h4 := Rek.new w x y
  generalize (((w.alloc _).alloc _).alloc _).alloc _ = W at *
  refine region_inv (nt := 20)
    (fun s => match s with
      | 0 => .agg #[.int .i64 x.re.n, .int .i64 x.re.d, .int .i64 x.im.n, .int .i64 x.im.d]
      | 1 => .agg #[.int .i64 y.re.n, .int .i64 y.re.d, .int .i64 y.im.n, .int .i64 y.im.d]
      | 2 => .pointer (some ⟨w.heap.size, 0, none⟩)
      | 3 => .pointer (some ⟨w.heap.size + 1, 0, none⟩)
      | 4 => .pointer (some ⟨w.heap.size + 1 + 1, 0, none⟩)
      | 5 => .nilIface
      | 6 => .pointer (some ⟨w.heap.size + 1 + 1 + 1, 0, none⟩)
      | _ => undef)
    (fun k v => match k with
      | 0 => v = .pointer (some ⟨w.heap.size, 0, none⟩)
      | 1 => v = .agg #[.int .i64 (x.re).n, .int .i64 (x.re).d]
      | 2 => v = .pointer (some ⟨w.heap.size + 1, 0, none⟩)
      | 3 => v = .agg #[.int .i64 (y.re).n, .int .i64 (y.re).d]
      | 4 => v = .agg #[.int .i64 (F1).n, .int .i64 (F1).d]
      | 5 => v = .pointer (some ⟨w.heap.size, 2, none⟩)
      | 6 => v = .agg #[.int .i64 (x.im).n, .int .i64 (x.im).d]
      | 7 => v = .pointer (some ⟨w.heap.size + 1, 2, none⟩)
      | 8 => v = .agg #[.int .i64 (y.im).n, .int .i64 (y.im).d]
      | 9 => v = .agg #[.int .i64 (F2).n, .int .i64 (F2).d]
      | 10 => v = .tuple #[.agg #[.int .i64 p, .int .i64 q, .int .i64 r, .int .i64 s], E]
      | 11 => v = .agg #[.int .i64 p, .int .i64 q, .int .i64 r, .int .i64 s]
      | 12 => v = E
      | 14 => v = E
      | _ => True)
    (fun b u w' => Hid ((b 13 = false → Rek w (w.heap.size + 1 + 1 + 1) x y [] (if b 9 = true then ((false || B1) || B2) else (if b 4 = true then (false || B1) else false)) w') ∧ (b 9 = true → b 4 = true) ∧ (b 13 = true → ∀ k, k < 13 → b k = true) ∧
      (b 13 = true → Below w.heap.size w w' ∧ w'.heap[w.heap.size + 1 + 1]? = some (.cells #[.int .i64 p, .int .i64 q, .int .i64 r, .int .i64 s] 82 (0, 0)))))
    rfl (by kernel_rfl) (by kernel_rfl) (by kernel_rfl) ⟨fun _ => h4.drew, fun h => h, fun h => (by cases h), fun h => (by cases h)⟩ ?_ ?_
  · intro i o b u w' ho hbi hall hU hW K hK
    have hA : actOf 20 u = ⟨#[u 0, u 1, u 2, u 3, u 4, u 5, u 6, u 7, u 8, u 9, u 10, u 11, u 12, u 13, u 14, u 15, u 16, u 17, u 18, u 19], []⟩ := rfl
    rw [hA] at hK ⊢
    have c2 : u 2 = .pointer (some ⟨w.heap.size, 0, none⟩) := hU.oldB 2 (by kernel_rfl)
    have c3 : u 3 = .pointer (some ⟨w.heap.size + 1, 0, none⟩) := hU.oldB 3 (by kernel_rfl)
    have c4 : u 4 = .pointer (some ⟨w.heap.size + 1 + 1, 0, none⟩) := hU.oldB 4 (by kernel_rfl)
    have c6 : u 6 = .pointer (some ⟨w.heap.size + 1 + 1 + 1, 0, none⟩) := hU.oldB 6 (by kernel_rfl)
    have got := hU.got
    clear hU hA h4
    obtain ⟨hF0, hc0, hz0, hz1⟩ := hW.out
    have HC0 : Hid (b 9 = true → b 4 = true) := hc0
    have HZ0 := hidMk hz0
    have HZ1 := hidMk hz1
    have HKK := hidMk hK
    have HF0 := hidMk hF0
    clear hK hF0 hW hc0 hz0 hz1
    rcases i with _ | _ | _ | _ | _ | _ | _ | _ | _ | _ | _ | _ | _ | _ | _ | i
    · cases ho
      have nz : b 13 = false := by
        cases h : b 13 with
        | false => rfl
        | true => rw [HZ0.out h 0 (by decide)] at hbi; cases hbi
      have hF := HF0.out nz
      have NZ := hidMk nz
      obtain ⟨x0, x1, x2, x3⟩ := four_cells hF.hx
      obtain ⟨y0, y1, y2, y3⟩ := four_cells hF.hy
      have HF := hidMk hF
      clear hF nz
      go_simp
      exact HKK.out _ _ _ (by rw [c2, c3, c4, c6]; rfl) (fun _ => rfl) ⟨HF0.out, HC0.out, fun h => absurd h (by rw [show upB b 0 13 = b 13 from rfl, NZ.out]; decide), fun h => absurd h (by rw [show upB b 0 13 = b 13 from rfl, NZ.out]; decide)⟩
    · cases ho
      have nz : b 13 = false := by
        cases h : b 13 with
        | false => rfl
        | true => rw [HZ0.out h 1 (by decide)] at hbi; cases hbi
      have hF := HF0.out nz
      have NZ := hidMk nz
      obtain ⟨x0, x1, x2, x3⟩ := four_cells hF.hx
      obtain ⟨y0, y1, y2, y3⟩ := four_cells hF.hy
      have HF := hidMk hF
      clear hF nz
      have g7 : u 7 = .pointer (some ⟨w.heap.size, 0, none⟩) := got 0 7 rfl (hall ⟨0, .data⟩ (by simp) rfl)
      go_simp
      exact HKK.out _ _ _ (by rw [c2, c3, c4, c6, g7]; rfl) (fun _ => rfl) ⟨HF0.out, HC0.out, fun h => absurd h (by rw [show upB b 1 13 = b 13 from rfl, NZ.out]; decide), fun h => absurd h (by rw [show upB b 1 13 = b 13 from rfl, NZ.out]; decide)⟩
    · cases ho
      have nz : b 13 = false := by
        cases h : b 13 with
        | false => rfl
        | true => rw [HZ0.out h 2 (by decide)] at hbi; cases hbi
      have hF := HF0.out nz
      have NZ := hidMk nz
      obtain ⟨x0, x1, x2, x3⟩ := four_cells hF.hx
      obtain ⟨y0, y1, y2, y3⟩ := four_cells hF.hy
      have HF := hidMk hF
      clear hF nz
      go_simp
      exact HKK.out _ _ _ (by rw [c2, c3, c4, c6]; rfl) (fun _ => rfl) ⟨HF0.out, HC0.out, fun h => absurd h (by rw [show upB b 2 13 = b 13 from rfl, NZ.out]; decide), fun h => absurd h (by rw [show upB b 2 13 = b 13 from rfl, NZ.out]; decide)⟩
    · cases ho
      have nz : b 13 = false := by
        cases h : b 13 with
        | false => rfl
        | true => rw [HZ0.out h 3 (by decide)] at hbi; cases hbi
      have hF := HF0.out nz
      have NZ := hidMk nz
      obtain ⟨x0, x1, x2, x3⟩ := four_cells hF.hx
      obtain ⟨y0, y1, y2, y3⟩ := four_cells hF.hy
      have HF := hidMk hF
      clear hF nz
      have g9 : u 9 = .pointer (some ⟨w.heap.size + 1, 0, none⟩) := got 2 9 rfl (hall ⟨2, .data⟩ (by simp) rfl)
      go_simp
      exact HKK.out _ _ _ (by rw [c2, c3, c4, c6, g9]; rfl) (fun _ => rfl) ⟨HF0.out, HC0.out, fun h => absurd h (by rw [show upB b 3 13 = b 13 from rfl, NZ.out]; decide), fun h => absurd h (by rw [show upB b 3 13 = b 13 from rfl, NZ.out]; decide)⟩
    · cases ho
      have nz : b 13 = false := by
        cases h : b 13 with
        | false => rfl
        | true => rw [HZ0.out h 4 (by decide)] at hbi; cases hbi
      have hF := HF0.out nz
      have NZ := hidMk nz
      obtain ⟨x0, x1, x2, x3⟩ := four_cells hF.hx
      obtain ⟨y0, y1, y2, y3⟩ := four_cells hF.hy
      have HF := hidMk hF
      clear hF nz
      have g8 : u 8 = .agg #[.int .i64 (x.re).n, .int .i64 (x.re).d] := got 1 8 rfl (hall ⟨1, .data⟩ (by simp) rfl)
      have g10 : u 10 = .agg #[.int .i64 (y.re).n, .int .i64 (y.re).d] := got 3 10 rfl (hall ⟨3, .data⟩ (by simp) rfl)
      have n9 : b 9 = false := by
        cases h : b 9 with
        | false => rfl
        | true => rw [HC0.out h] at hbi; cases hbi
      have hfl : (if b 9 = true then ((false || B1) || B2) else (if b 4 = true then (false || B1) else false)) = false := by simp [hbi, n9]
      have hfl2 : (if upB b 4 9 = true then ((false || B1) || B2) else (if upB b 4 4 = true then (false || B1) else false)) = (false || B1) := by simp [upB, n9]
      have hr := HF.out.hr
      rw [hfl] at hr
      have HR := hidMk hr
      have HFL := hidMk hfl2
      clear hr hfl hfl2
      go_simp
      refine (C1.out _ _ _ HR.out).mono ?_
      rintro e w2 ⟨rfl, hr2, hg2⟩
      refine HKK.out _ _ _ (by rw [c2, c3, c4, c6, g8, g10]; rfl) (fun _ => rfl) ⟨fun _ => ?_, fun _ => rfl, fun h => absurd h (by rw [show upB b 4 13 = b 13 from rfl, NZ.out]; decide), fun h => absurd h (by rw [show upB b 4 13 = b 13 from rfl, NZ.out]; decide)⟩
      rw [HFL.out]; exact HF.out.grown hg2 hr2
    · cases ho
      have nz : b 13 = false := by
        cases h : b 13 with
        | false => rfl
        | true => rw [HZ0.out h 5 (by decide)] at hbi; cases hbi
      have hF := HF0.out nz
      have NZ := hidMk nz
      obtain ⟨x0, x1, x2, x3⟩ := four_cells hF.hx
      obtain ⟨y0, y1, y2, y3⟩ := four_cells hF.hy
      have HF := hidMk hF
      clear hF nz
      go_simp
      exact HKK.out _ _ _ (by rw [c2, c3, c4, c6]; rfl) (fun _ => rfl) ⟨HF0.out, HC0.out, fun h => absurd h (by rw [show upB b 5 13 = b 13 from rfl, NZ.out]; decide), fun h => absurd h (by rw [show upB b 5 13 = b 13 from rfl, NZ.out]; decide)⟩
    · cases ho
      have nz : b 13 = false := by
        cases h : b 13 with
        | false => rfl
        | true => rw [HZ0.out h 6 (by decide)] at hbi; cases hbi
      have hF := HF0.out nz
      have NZ := hidMk nz
      obtain ⟨x0, x1, x2, x3⟩ := four_cells hF.hx
      obtain ⟨y0, y1, y2, y3⟩ := four_cells hF.hy
      have HF := hidMk hF
      clear hF nz
      have g12 : u 12 = .pointer (some ⟨w.heap.size, 2, none⟩) := got 5 12 rfl (hall ⟨5, .data⟩ (by simp) rfl)
      go_simp
      exact HKK.out _ _ _ (by rw [c2, c3, c4, c6, g12]; rfl) (fun _ => rfl) ⟨HF0.out, HC0.out, fun h => absurd h (by rw [show upB b 6 13 = b 13 from rfl, NZ.out]; decide), fun h => absurd h (by rw [show upB b 6 13 = b 13 from rfl, NZ.out]; decide)⟩
    · cases ho
      have nz : b 13 = false := by
        cases h : b 13 with
        | false => rfl
        | true => rw [HZ0.out h 7 (by decide)] at hbi; cases hbi
      have hF := HF0.out nz
      have NZ := hidMk nz
      obtain ⟨x0, x1, x2, x3⟩ := four_cells hF.hx
      obtain ⟨y0, y1, y2, y3⟩ := four_cells hF.hy
      have HF := hidMk hF
      clear hF nz
      go_simp
      exact HKK.out _ _ _ (by rw [c2, c3, c4, c6]; rfl) (fun _ => rfl) ⟨HF0.out, HC0.out, fun h => absurd h (by rw [show upB b 7 13 = b 13 from rfl, NZ.out]; decide), fun h => absurd h (by rw [show upB b 7 13 = b 13 from rfl, NZ.out]; decide)⟩
    · cases ho
      have nz : b 13 = false := by
        cases h : b 13 with
        | false => rfl
        | true => rw [HZ0.out h 8 (by decide)] at hbi; cases hbi
      have hF := HF0.out nz
      have NZ := hidMk nz
      obtain ⟨x0, x1, x2, x3⟩ := four_cells hF.hx
      obtain ⟨y0, y1, y2, y3⟩ := four_cells hF.hy
      have HF := hidMk hF
      clear hF nz
      have g14 : u 14 = .pointer (some ⟨w.heap.size + 1, 2, none⟩) := got 7 14 rfl (hall ⟨7, .data⟩ (by simp) rfl)
      go_simp
      exact HKK.out _ _ _ (by rw [c2, c3, c4, c6, g14]; rfl) (fun _ => rfl) ⟨HF0.out, HC0.out, fun h => absurd h (by rw [show upB b 8 13 = b 13 from rfl, NZ.out]; decide), fun h => absurd h (by rw [show upB b 8 13 = b 13 from rfl, NZ.out]; decide)⟩
    · cases ho
      have nz : b 13 = false := by
        cases h : b 13 with
        | false => rfl
        | true => rw [HZ0.out h 9 (by decide)] at hbi; cases hbi
      have hF := HF0.out nz
      have NZ := hidMk nz
      obtain ⟨x0, x1, x2, x3⟩ := four_cells hF.hx
      obtain ⟨y0, y1, y2, y3⟩ := four_cells hF.hy
      have HF := hidMk hF
      clear hF nz
      have g13 : u 13 = .agg #[.int .i64 (x.im).n, .int .i64 (x.im).d] := got 6 13 rfl (hall ⟨6, .data⟩ (by simp) rfl)
      have g15 : u 15 = .agg #[.int .i64 (y.im).n, .int .i64 (y.im).d] := got 8 15 rfl (hall ⟨8, .data⟩ (by simp) rfl)
      have y4 : b 4 = true := hall ⟨4, .chain⟩ (by simp) rfl
      have hfl : (if b 9 = true then ((false || B1) || B2) else (if b 4 = true then (false || B1) else false)) = (false || B1) := by simp [hbi, y4]
      have hfl2 : (if upB b 9 9 = true then ((false || B1) || B2) else (if upB b 9 4 = true then (false || B1) else false)) = ((false || B1) || B2) := by simp [upB]
      have hr := HF.out.hr
      rw [hfl] at hr
      have HR := hidMk hr
      have HFL := hidMk hfl2
      clear hr hfl hfl2
      go_simp
      refine (C2.out _ _ _ HR.out).mono ?_
      rintro e w2 ⟨rfl, hr2, hg2⟩
      refine HKK.out _ _ _ (by rw [c2, c3, c4, c6, g13, g15]; rfl) (fun _ => rfl) ⟨fun _ => ?_, fun _ => y4, fun h => absurd h (by rw [show upB b 9 13 = b 13 from rfl, NZ.out]; decide), fun h => absurd h (by rw [show upB b 9 13 = b 13 from rfl, NZ.out]; decide)⟩
      rw [HFL.out]; exact HF.out.grown hg2 hr2
    · cases ho
      have nz : b 13 = false := by
        cases h : b 13 with
        | false => rfl
        | true => rw [HZ0.out h 10 (by decide)] at hbi; cases hbi
      have hF := HF0.out nz
      have NZ := hidMk nz
      obtain ⟨x0, x1, x2, x3⟩ := four_cells hF.hx
      obtain ⟨y0, y1, y2, y3⟩ := four_cells hF.hy
      have HF := hidMk hF
      clear hF nz
      have g11 : u 11 = .agg #[.int .i64 (F1).n, .int .i64 (F1).d] := got 4 11 rfl (hall ⟨4, .data⟩ (by simp) rfl)
      have g16 : u 16 = .agg #[.int .i64 (F2).n, .int .i64 (F2).d] := got 9 16 rfl (hall ⟨9, .data⟩ (by simp) rfl)
      have y0' : b 4 = true := hall ⟨4, .data⟩ (by simp) rfl
      have y1' : b 9 = true := hall ⟨9, .data⟩ (by simp) rfl
      have hfl : (if b 9 = true then ((false || B1) || B2) else (if b 4 = true then (false || B1) else false)) = ((false || B1) || B2) := by simp [y1']
      have hF2 := HF.out
      rw [hfl] at hF2
      have HF2 := hidMk hF2
      have HFL := hidMk (show (if upB b 10 9 = true then ((false || B1) || B2) else (if upB b 10 4 = true then (false || B1) else false)) = ((false || B1) || B2) from hfl)
      clear hfl hF2
      go_simp
      refine (CN.out _ HF2.out).mono ?_
      rintro e w2 ⟨rfl, hb2⟩
      refine HKK.out _ _ _ (by rw [c2, c3, c4, c6, g11, g16]; rfl) (fun _ => rfl) ⟨fun _ => ?_, HC0.out, fun h => absurd h (by rw [show upB b 10 13 = b 13 from rfl, NZ.out]; decide), fun h => absurd h (by rw [show upB b 10 13 = b 13 from rfl, NZ.out]; decide)⟩
      rw [HFL.out]; exact HF2.out.below hb2
    · cases ho
      have nz : b 13 = false := by
        cases h : b 13 with
        | false => rfl
        | true => rw [HZ0.out h 11 (by decide)] at hbi; cases hbi
      have hF := HF0.out nz
      have NZ := hidMk nz
      obtain ⟨x0, x1, x2, x3⟩ := four_cells hF.hx
      obtain ⟨y0, y1, y2, y3⟩ := four_cells hF.hy
      have HF := hidMk hF
      clear hF nz
      have g17 : u 17 = .tuple #[.agg #[.int .i64 p, .int .i64 q, .int .i64 r, .int .i64 s], E] := got 10 17 rfl (hall ⟨10, .data⟩ (by simp) rfl)
      go_simp
      exact HKK.out _ _ _ (by rw [c2, c3, c4, c6, g17]; rfl) (fun _ => rfl) ⟨HF0.out, HC0.out, fun h => absurd h (by rw [show upB b 11 13 = b 13 from rfl, NZ.out]; decide), fun h => absurd h (by rw [show upB b 11 13 = b 13 from rfl, NZ.out]; decide)⟩
    · cases ho
      have nz : b 13 = false := by
        cases h : b 13 with
        | false => rfl
        | true => rw [HZ0.out h 12 (by decide)] at hbi; cases hbi
      have hF := HF0.out nz
      have NZ := hidMk nz
      obtain ⟨x0, x1, x2, x3⟩ := four_cells hF.hx
      obtain ⟨y0, y1, y2, y3⟩ := four_cells hF.hy
      have HF := hidMk hF
      clear hF nz
      have g17 : u 17 = .tuple #[.agg #[.int .i64 p, .int .i64 q, .int .i64 r, .int .i64 s], E] := got 10 17 rfl (hall ⟨10, .data⟩ (by simp) rfl)
      go_simp
      exact HKK.out _ _ _ (by rw [c2, c3, c4, c6, g17]; rfl) (fun _ => rfl) ⟨HF0.out, HC0.out, fun h => absurd h (by rw [show upB b 12 13 = b 13 from rfl, NZ.out]; decide), fun h => absurd h (by rw [show upB b 12 13 = b 13 from rfl, NZ.out]; decide)⟩
    · cases ho
      have g18 : u 18 = .agg #[.int .i64 p, .int .i64 q, .int .i64 r, .int .i64 s] := got 11 18 rfl (hall ⟨11, .data⟩ (by simp) rfl)
      have nz : b 13 = false := hbi
      have hF := HF0.out nz
      obtain ⟨z0, z1, z2, z3⟩ := four_cells hF.hz
      obtain ⟨f0, f1, f2, f3⟩ := four_frozen hF.hz
      have HF := hidMk hF
      have HALL : Hid (∀ k, k < 13 → b k = true) := by
        intro k hk
        rcases k with _ | _ | _ | _ | _ | _ | _ | _ | _ | _ | _ | _ | _ | k
        · exact hall ⟨0, .phase⟩ (by simp) rfl
        · exact hall ⟨1, .phase⟩ (by simp) rfl
        · exact hall ⟨2, .phase⟩ (by simp) rfl
        · exact hall ⟨3, .phase⟩ (by simp) rfl
        · exact hall ⟨4, .phase⟩ (by simp) rfl
        · exact hall ⟨5, .phase⟩ (by simp) rfl
        · exact hall ⟨6, .phase⟩ (by simp) rfl
        · exact hall ⟨7, .phase⟩ (by simp) rfl
        · exact hall ⟨8, .phase⟩ (by simp) rfl
        · exact hall ⟨9, .phase⟩ (by simp) rfl
        · exact hall ⟨10, .phase⟩ (by simp) rfl
        · exact hall ⟨11, .phase⟩ (by simp) rfl
        · exact hall ⟨12, .phase⟩ (by simp) rfl
        · omega
      clear hF nz
      go_simp
      refine HKK.out undef _ _ (by rw [c2, c3, c4, c6, g18]; rfl) (fun h => by cases h) ⟨fun h => absurd h (by simp [upB]), HC0.out, fun _ k hk => ?_, fun _ => ⟨below_four HF.out.hb (by omega) _ _ _ _, four_set HF.out.hz _ _ _ _⟩⟩
      rw [show upB b 13 k = b k from if_neg (by omega)]
      exact HALL.out k hk
    · cases ho
      have g19 : u 19 = E := got 12 19 rfl (hall ⟨12, .data⟩ (by simp) rfl)
      have YZ : Hid (b 13 = true) := hall ⟨13, .phase⟩ (by simp) rfl
      go_simp
      refine HKK.out _ _ _ (by rw [c2, c3, c4, c6, g19]; rfl) (fun _ => rfl) ⟨fun h => absurd h (by rw [show upB b 14 13 = b 13 from rfl, YZ.out]; decide), HC0.out, fun _ k hk => ?_, fun _ => HZ1.out YZ.out⟩
      rw [show upB b 14 k = b k from if_neg (by omega)]
      exact HZ0.out YZ.out k hk
    · simp at ho
  · intro b1 u1 w1 hb1 hU1 hW1
    obtain ⟨hb, hz⟩ := hW1.out.2.2.2 (hb1 13 (by decide))
    obtain ⟨z0, z1, z2, z3⟩ := four_cells hz
    have k4 : u1 4 = .pointer (some ⟨w.heap.size + 1 + 1, 0, none⟩) := hU1.oldB 4 (by kernel_rfl)
    have k5 : u1 5 = E := hU1.got 14 5 rfl (hb1 14 (by decide))
    have hA1 : actOf 20 u1 = ⟨#[u1 0, u1 1, u1 2, u1 3, u1 4, u1 5, u1 6, u1 7, u1 8, u1 9, u1 10, u1 11, u1 12, u1 13, u1 14, u1 15, u1 16, u1 17, u1 18, u1 19], []⟩ := rfl
    rw [hA1, k4, k5]
    clear hA1 k4 k5 hW1 hU1 hb1 hz C1 C2 CN h4
    go_wp2_with fail
    refine bodyPost_ret (v := .tuple #[.agg #[.int .i64 p, .int .i64 q, .int .i64 r, .int .i64 s], E]) (by simp [results, Tryz.results169, go_sem, z0, z1, z2, z3]) rfl ?_
    rw [HO2.out]
    exact ⟨rfl, hb⟩
end Go.Proofs.YtodabmkcihafhaaGreatDoor

/- A frame, as a function of its slots. -/
namespace Go.Proofs.YtodabmkcihafhaaGreatDoor
open Go.RowKit
set_option linter.unusedVariables false

/-- region_inv, the slots as the frame has them. -/
theorem act_of {a : Act} {nt : Nat} (hs : a.tmps.size = nt) (hd : a.defers = []) : a = actOf nt (fun s => a.tmps.getD s undef) := by
  obtain ⟨t, d⟩ := a
  simp only at hs hd
  subst hd hs
  unfold actOf
  congr 1
  apply Array.ext_getElem?
  intro i
  simp only [List.getElem?_toArray, List.getElem?_map]
  by_cases h : i < t.size
  · simp [Array.getD_eq_getD_getElem?, h]
  · rw [Array.getElem?_eq_none (by omega), List.getElem?_eq_none (by simpa using h)]; rfl
end Go.Proofs.YtodabmkcihafhaaGreatDoor

/- The program's operate. -/
namespace Go.Proofs.YtodabmkcihafhaaGreatDoor
open Go.RowKit
set_option linter.unusedVariables false

theorem tri_other (w : World) (B i : Nat) (p q r s : Nat) (a b c d : Value) (h : i ≠ B) : ((((w.setCell ⟨B, p, none⟩ a).setCell ⟨B, q, none⟩ b).setCell ⟨B, r, none⟩ c).setCell ⟨B, s, none⟩ d).heap[i]? = w.heap[i]? := by
  rw [Below.heap_setCell _ _ _ _ h, Below.heap_setCell _ _ _ _ h, Below.heap_setCell _ _ _ _ h, Below.heap_setCell _ _ _ _ h]
theorem Tri.drew {w0 w : World} {x y : Num} (h : Tri w0 x y w) : Tri w0 x y w.drew := ⟨h.hx, h.hy, h.hz, h.hb.drew⟩
theorem Tri.set4B {w0 w : World} {x y : Num} {B : Nat} (h : Tri w0 x y w) (hB : w0.heap.size + 1 + 1 < B) (a b c d : Value) : Tri w0 x y ((((w.setCell ⟨B, 0, none⟩ a).setCell ⟨B, 1, none⟩ b).setCell ⟨B, 2, none⟩ c).setCell ⟨B, 3, none⟩ d) :=
  ⟨by rw [tri_other _ _ _ _ _ _ _ _ _ _ _ (by omega)]; exact h.hx, by rw [tri_other _ _ _ _ _ _ _ _ _ _ _ (by omega)]; exact h.hy, by rw [tri_other _ _ _ _ _ _ _ _ _ _ _ (by omega)]; exact h.hz, below_four h.hb (by omega) _ _ _ _⟩
def eV (a : Addr) : Value := .iface 285 (.pointer (some a))
/-- What an operation of package number answers, and what the document says. -/
theorem op_parts (N : Nat) (aZ aB : Addr) (c : Int) (x y : Num) (hc : c = 43 ∨ c = 8722 ∨ c = 215 ∨ c = 247) (hx : x.Ok) (hy : y.Ok) : ∃ z E, (∀ w, Sen N aZ aB w → N ≤ w.heap.size →
    Calls Tryz.prog (opF c) #[.agg #[.int .i64 x.re.n, .int .i64 x.re.d, .int .i64 x.im.n, .int .i64 x.im.d], .agg #[.int .i64 y.re.n, .int .i64 y.re.d, .int .i64 y.im.n, .int .i64 y.im.d]] w fun e w' => e = .returned (.tuple #[.agg #[.int .i64 z.re.n, .int .i64 z.re.d, .int .i64 z.im.n, .int .i64 z.im.d], E]) ∧ Below w.heap.size w w') ∧
    ((E = .nilIface ∧ opP c x y = .ok z) ∨ (E = eV aZ ∧ opP c x y = .err 4) ∨ (E = eV aB ∧ opP c x y = .err 5)) := by
  have out : ∀ (fl : Bool) (u : Num) (f : Nat), (∀ w, Sen N aZ aB w → N ≤ w.heap.size → Calls Tryz.prog f #[.agg #[.int .i64 x.re.n, .int .i64 x.re.d, .int .i64 x.im.n, .int .i64 x.im.d], .agg #[.int .i64 y.re.n, .int .i64 y.re.d, .int .i64 y.im.n, .int .i64 y.im.d]] w fun e w' => e = .returned (outV aB fl u) ∧ Below w.heap.size w w') → ∃ z E, (∀ w, Sen N aZ aB w → N ≤ w.heap.size →
    Calls Tryz.prog f #[.agg #[.int .i64 x.re.n, .int .i64 x.re.d, .int .i64 x.im.n, .int .i64 x.im.d], .agg #[.int .i64 y.re.n, .int .i64 y.re.d, .int .i64 y.im.n, .int .i64 y.im.d]] w fun e w' => e = .returned (.tuple #[.agg #[.int .i64 z.re.n, .int .i64 z.re.d, .int .i64 z.im.n, .int .i64 z.im.d], E]) ∧ Below w.heap.size w w') ∧
    ((E = .nilIface ∧ bigOr fl u = .ok z) ∨ (E = eV aZ ∧ bigOr fl u = .err 4) ∨ (E = eV aB ∧ bigOr fl u = .err 5)) := by
    intro fl u f h
    cases fl with
    | false => exact ⟨u, .nilIface, h, Or.inl ⟨rfl, rfl⟩⟩
    | true => exact ⟨⟨⟨0, 0⟩, ⟨0, 0⟩⟩, eV aB, h, Or.inr (Or.inr ⟨rfl, rfl⟩)⟩
  rcases hc with rfl | rfl | rfl | rfl
  · exact out (addB x y) (addN x y) _ (fun w hS hN => nadd_any N aZ aB x y w hS hN hx hy)
  · exact out (subB x y) (subN x y) _ (fun w hS hN => sub_any N aZ aB x y w hS hN hx hy)
  · exact out (mulB x y) (mulN x y) _ (fun w hS hN => mul_any N aZ aB x y w hS hN hx hy)
  · have e : opP 247 x y = if y.zero then .err 4 else bigOr (sqB y || divB x y) (divN x y) := rfl
    rw [e]
    have d : ∀ w, Sen N aZ aB w → N ≤ w.heap.size → Calls Tryz.prog (opF 247) #[.agg #[.int .i64 x.re.n, .int .i64 x.re.d, .int .i64 x.im.n, .int .i64 x.im.d], .agg #[.int .i64 y.re.n, .int .i64 y.re.d, .int .i64 y.im.n, .int .i64 y.im.d]] w fun e w' => e = .returned (divV aZ aB x y) ∧ Below w.heap.size w w' := fun w hS hN => div_any N aZ aB x y w hS hN hx hy
    unfold divV at d
    cases hz : y.zero with
    | true =>
      rw [hz, if_pos rfl] at d
      rw [if_pos rfl]
      exact ⟨⟨⟨0, 0⟩, ⟨0, 0⟩⟩, eV aZ, d, Or.inr (Or.inl ⟨rfl, rfl⟩)⟩
    | false =>
      rw [hz, if_neg (by decide)] at d
      rw [if_neg (by decide)]
      exact out _ _ _ d
def numV0 : Value := .agg #[.int .i64 0, .int .i64 0, .int .i64 0, .int .i64 0]
def gotV (g : Got) (p : Int) : Value := match g with
  | .ok z => .tuple #[.agg #[.int .i64 z.re.n, .int .i64 z.re.d, .int .i64 z.im.n, .int .i64 z.im.d], .int .i64 0, .int .i64 0]
  | .err q => .tuple #[numV0, .int .i64 q, .int .i64 p]

set_option maxHeartbeats 4000000 in
set_option maxRecDepth 100000 in
theorem operate_any (N : Nat) (aZ aB : Addr) (c : Int) (x y : Num) (p : Int) (w : World) (hc : c = 43 ∨ c = 8722 ∨ c = 215 ∨ c = 247) (hS : Sen N aZ aB w) (hN : N ≤ w.heap.size) (hx : x.Ok) (hy : y.Ok) :
    Calls Tryz.prog 149 #[.agg #[.int .i64 x.re.n, .int .i64 x.re.d, .int .i64 x.im.n, .int .i64 x.im.d], .int .i32 c, .agg #[.int .i64 y.re.n, .int .i64 y.re.d, .int .i64 y.im.n, .int .i64 y.im.d], .int .i64 p] w fun e w' => e = .returned (gotV (opP c x y) p) ∧ Below w.heap.size w w' := by
  obtain ⟨z, E, c2, hE⟩ := op_parts N aZ aB c x y hc hx hy
  have C1 := hidMk (fun W => oper_any c W)
  have C2 : Hid (∀ W, Below w.heap.size w W → Calls Tryz.prog (opF c) #[.agg #[.int .i64 x.re.n, .int .i64 x.re.d, .int .i64 x.im.n, .int .i64 x.im.d], .agg #[.int .i64 y.re.n, .int .i64 y.re.d, .int .i64 y.im.n, .int .i64 y.im.d]] W fun e w' => e = .returned (.tuple #[.agg #[.int .i64 z.re.n, .int .i64 z.re.d, .int .i64 z.im.n, .int .i64 z.im.d], E]) ∧ Below W.heap.size W w') := fun W hb => c2 W (hS.below hb hN) (Nat.le_trans hN hb.size)
  have HFC : Hid (opF c = 168 ∨ opF c = 169 ∨ opF c = 170 ∨ opF c = 171) := by
    rcases hc with rfl | rfl | rfl | rfl
    · exact Or.inl rfl
    · exact Or.inr (Or.inl rfl)
    · exact Or.inr (Or.inr (Or.inl rfl))
    · exact Or.inr (Or.inr (Or.inr rfl))
  generalize opF c = FC at *
  have HE := hidMk hE
  have HS := hidMk hS
  have h3 := Tri.new w x y
  generalize opP c x y = GG at *
  clear hc hx hy c2 hE hS
  go_enter Tryz.func149, Tryz.ntmps149
  go_wp2_with fail
  generalize ((w.alloc _).alloc _).alloc _ = W at *
  have H3 := hidMk h3
  clear h3
  refine region_inv (nt := 31) _
    (fun j v => match j with
      | 0 => v = .int .i32 c
      | 1 => v = .func (.func FC) #[] #[]
      | 2 => v = .agg #[.int .i64 x.re.n, .int .i64 x.re.d, .int .i64 x.im.n, .int .i64 x.im.d]
      | 3 => v = .agg #[.int .i64 y.re.n, .int .i64 y.re.d, .int .i64 y.im.n, .int .i64 y.im.d]
      | 4 => v = .tuple #[.agg #[.int .i64 z.re.n, .int .i64 z.re.d, .int .i64 z.im.n, .int .i64 z.im.d], E]
      | 5 => v = .tuple #[.agg #[.int .i64 z.re.n, .int .i64 z.re.d, .int .i64 z.im.n, .int .i64 z.im.d], E]
      | 6 => v = .agg #[.int .i64 z.re.n, .int .i64 z.re.d, .int .i64 z.im.n, .int .i64 z.im.d]
      | 7 => v = E
      | 10 => v = E
      | _ => True)
    (fun b u w' => Hid (Tri w x y w' ∧ (b 9 = true → b 8 = true) ∧ (b 8 = true → ∃ X, u 11 = .pointer (some ⟨X, 0, none⟩) ∧ w.heap.size + 1 + 1 < X ∧ w'.heap[X]? = some (.cells (if b 9 = true then #[.int .i64 z.re.n, .int .i64 z.re.d, .int .i64 z.im.n, .int .i64 z.im.d] else #[.int .i64 0, .int .i64 0, .int .i64 0, .int .i64 0]) 82 (0, 0)))))
    (act_of rfl rfl) (by kernel_rfl) (by kernel_rfl) (by kernel_rfl) ⟨H3.out.drew, fun h => h, fun h => by cases h⟩ ?_ ?_
  · intro i o b u w' ho hbi hall hU hW K hK
    have hA : actOf 31 u = ⟨#[u 0, u 1, u 2, u 3, u 4, u 5, u 6, u 7, u 8, u 9, u 10, u 11, u 12, u 13, u 14, u 15, u 16, u 17, u 18, u 19, u 20, u 21, u 22, u 23, u 24, u 25, u 26, u 27, u 28, u 29, u 30], []⟩ := rfl
    rw [hA] at hK ⊢
    have c1 : u 1 = .int .i32 c := hU.oldB 1 (by kernel_rfl)
    have c4 : u 4 = .pointer (some ⟨w.heap.size, 0, none⟩) := hU.oldB 4 (by kernel_rfl)
    have c6 : u 6 = .pointer (some ⟨w.heap.size + 1, 0, none⟩) := hU.oldB 6 (by kernel_rfl)
    have got := hU.got
    have HW := hW
    have HKK := hidMk hK
    clear hU hA hK hW
    obtain ⟨x0, x1, x2, x3⟩ := four_cells HW.out.1.hx
    obtain ⟨y0, y1, y2, y3⟩ := four_cells HW.out.1.hy
    rcases i with _ | _ | _ | _ | _ | _ | _ | _ | _ | _ | _ | i
    · cases ho
      go_simp
      exact HKK.out _ _ _ (by rw [c1, c4, c6]; rfl) (fun _ => rfl) ⟨HW.out.1, HW.out.2.1, HW.out.2.2⟩
    · cases ho
      have g14 : u 14 = .int .i32 c := got 0 14 rfl (hall ⟨0, .data⟩ (by simp) rfl)
      go_simp
      refine (C1.out _).mono ?_
      rintro e w9 ⟨rfl, hw9⟩
      subst hw9
      exact HKK.out _ _ _ (by rw [c1, c4, c6, g14]; rfl) (fun _ => rfl) ⟨HW.out.1, HW.out.2.1, HW.out.2.2⟩
    · cases ho
      go_simp
      exact HKK.out _ _ _ (by rw [c1, c4, c6]; rfl) (fun _ => rfl) ⟨HW.out.1, HW.out.2.1, HW.out.2.2⟩
    · cases ho
      go_simp
      exact HKK.out _ _ _ (by rw [c1, c4, c6]; rfl) (fun _ => rfl) ⟨HW.out.1, HW.out.2.1, HW.out.2.2⟩
    · cases ho
      have g15 : u 15 = .func (.func FC) #[] #[] := got 1 15 rfl (hall ⟨1, .data⟩ (by simp) rfl)
      have g16 : u 16 = .agg #[.int .i64 x.re.n, .int .i64 x.re.d, .int .i64 x.im.n, .int .i64 x.im.d] := got 2 16 rfl (hall ⟨2, .data⟩ (by simp) rfl)
      have g17 : u 17 = .agg #[.int .i64 y.re.n, .int .i64 y.re.d, .int .i64 y.im.n, .int .i64 y.im.d] := got 3 17 rfl (hall ⟨3, .data⟩ (by simp) rfl)
      rcases HFC.out with rfl | rfl | rfl | rfl
      all_goals
        go_simp
        refine (C2.out _ HW.out.1.hb).mono ?_
        rintro e w9 ⟨rfl, hb9⟩
        refine HKK.out _ _ _ (by rw [c1, c4, c6, g15, g16, g17]; rfl) (fun _ => rfl) ⟨HW.out.1.below hb9, HW.out.2.1, fun h => ?_⟩
        obtain ⟨X, q1, q2, q3⟩ := HW.out.2.2 h
        exact ⟨X, q1, q2, (hb9.block X (Array.getElem?_eq_some_iff.1 q3).1).trans q3⟩
    · cases ho
      have g18 : u 18 = .tuple #[.agg #[.int .i64 z.re.n, .int .i64 z.re.d, .int .i64 z.im.n, .int .i64 z.im.d], E] := got 4 18 rfl (hall ⟨4, .data⟩ (by simp) rfl)
      go_simp
      exact HKK.out _ _ _ (by rw [c1, c4, c6, g18]; rfl) (fun _ => rfl) ⟨HW.out.1, HW.out.2.1, HW.out.2.2⟩
    · cases ho
      have g13 : u 13 = .tuple #[.agg #[.int .i64 z.re.n, .int .i64 z.re.d, .int .i64 z.im.n, .int .i64 z.im.d], E] := got 5 13 rfl (hall ⟨5, .data⟩ (by simp) rfl)
      go_simp
      exact HKK.out _ _ _ (by rw [c1, c4, c6, g13]; rfl) (fun _ => rfl) ⟨HW.out.1, HW.out.2.1, HW.out.2.2⟩
    · cases ho
      have g13 : u 13 = .tuple #[.agg #[.int .i64 z.re.n, .int .i64 z.re.d, .int .i64 z.im.n, .int .i64 z.im.d], E] := got 5 13 rfl (hall ⟨5, .data⟩ (by simp) rfl)
      go_simp
      exact HKK.out _ _ _ (by rw [c1, c4, c6, g13]; rfl) (fun _ => rfl) ⟨HW.out.1, HW.out.2.1, HW.out.2.2⟩
    · cases ho
      have ns : b 9 = false := by
        cases h : b 9 with
        | false => rfl
        | true => rw [HW.out.2.1 h] at hbi; cases hbi
      have NS := hidMk ns
      clear ns
      go_simp
      refine HKK.out _ _ _ (by rw [c1, c4, c6]; rfl) (fun _ => trivial) ⟨HW.out.1.below (fr_below w' _), fun _ => rfl, fun _ => ⟨w'.heap.size, rfl, HW.out.1.lt, ?_⟩⟩
      have e : (if upB b 8 9 = true then (#[.int .i64 z.re.n, .int .i64 z.re.d, .int .i64 z.im.n, .int .i64 z.im.d] : Array Value) else #[.int .i64 0, .int .i64 0, .int .i64 0, .int .i64 0]) = #[.int .i64 0, .int .i64 0, .int .i64 0, .int .i64 0] := by simp [upB, NS.out]
      rw [e]
      exact heap_alloc_new w' _
    · cases ho
      have g19 : u 19 = .agg #[.int .i64 z.re.n, .int .i64 z.re.d, .int .i64 z.im.n, .int .i64 z.im.d] := got 6 19 rfl (hall ⟨6, .data⟩ (by simp) rfl)
      obtain ⟨X, q1, q2, q3⟩ := HW.out.2.2 (hall ⟨8, .data⟩ (by simp) rfl)
      rw [if_neg (by rw [hbi]; decide)] at q3
      obtain ⟨s0, s1, s2, s3⟩ := four_cells q3
      obtain ⟨f0, f1, f2, f3⟩ := four_frozen q3
      have Q3 := hidMk q3
      have YA : Hid (b 8 = true) := hall ⟨8, .data⟩ (by simp) rfl
      clear q3
      go_simp
      refine HKK.out undef _ _ (by rw [c1, c4, c6, g19, q1]; rfl) (fun h => by cases h) ⟨HW.out.1.set4B q2 _ _ _ _, fun _ => YA.out, fun _ => ⟨X, q1, q2, ?_⟩⟩
      exact four_set Q3.out _ _ _ _
    · cases ho
      have g20 : u 20 = E := got 7 20 rfl (hall ⟨7, .data⟩ (by simp) rfl)
      go_simp
      exact HKK.out _ _ _ (by rw [c1, c4, c6, g20]; rfl) (fun _ => rfl) ⟨HW.out.1, HW.out.2.1, HW.out.2.2⟩
    · simp at ho
  · intro b u w' hall hU hW
    obtain ⟨X, q1, q2, q3⟩ := hW.out.2.2 (hall 8 (by decide))
    rw [if_pos (hall 9 (by decide))] at q3
    have e12' : u 12 = E := hU.got 10 12 rfl (hall 10 (by decide))
    have hA : actOf 31 u = ⟨#[u 0, u 1, u 2, u 3, u 4, u 5, u 6, u 7, u 8, u 9, u 10, u 11, u 12, u 13, u 14, u 15, u 16, u 17, u 18, u 19, u 20, u 21, u 22, u 23, u 24, u 25, u 26, u 27, u 28, u 29, u 30], []⟩ := rfl
    have e0 : u 0 = .agg #[.int .i64 x.re.n, .int .i64 x.re.d, .int .i64 x.im.n, .int .i64 x.im.d] := hU.oldB 0 (by kernel_rfl)
    have e1 : u 1 = .int .i32 c := hU.oldB 1 (by kernel_rfl)
    have e2 : u 2 = .agg #[.int .i64 y.re.n, .int .i64 y.re.d, .int .i64 y.im.n, .int .i64 y.im.d] := hU.oldB 2 (by kernel_rfl)
    have e3 : u 3 = .int .i64 p := hU.oldB 3 (by kernel_rfl)
    have e4 : u 4 = .pointer (some ⟨w.heap.size, 0, none⟩) := hU.oldB 4 (by kernel_rfl)
    have e5 : u 5 = undef := hU.oldB 5 (by kernel_rfl)
    have e6 : u 6 = .pointer (some ⟨w.heap.size + 1, 0, none⟩) := hU.oldB 6 (by kernel_rfl)
    have e7 : u 7 = undef := hU.oldB 7 (by kernel_rfl)
    have e8 : u 8 = .pointer (some ⟨w.heap.size + 1 + 1, 0, none⟩) := hU.oldB 8 (by kernel_rfl)
    have e9 : u 9 = .int .i64 0 := hU.oldB 9 (by kernel_rfl)
    have e10 : u 10 = .int .i64 0 := hU.oldB 10 (by kernel_rfl)
    have e21 : u 21 = undef := hU.oldB 21 (by kernel_rfl)
    have e22 : u 22 = undef := hU.oldB 22 (by kernel_rfl)
    have e23 : u 23 = undef := hU.oldB 23 (by kernel_rfl)
    have e24 : u 24 = undef := hU.oldB 24 (by kernel_rfl)
    have e25 : u 25 = undef := hU.oldB 25 (by kernel_rfl)
    have e26 : u 26 = undef := hU.oldB 26 (by kernel_rfl)
    have e27 : u 27 = undef := hU.oldB 27 (by kernel_rfl)
    have e28 : u 28 = undef := hU.oldB 28 (by kernel_rfl)
    have e29 : u 29 = undef := hU.oldB 29 (by kernel_rfl)
    have e30 : u 30 = undef := hU.oldB 30 (by kernel_rfl)
    rw [hA, e0, e1, e2, e3, e4, e5, e6, e7, e8, e9, e10, e21, e22, e23, e24, e25, e26, e27, e28, e29, e30]
    clear hA e0 e1 e2 e3 e4 e5 e6 e7 e8 e9 e10 e21 e22 e23 e24 e25 e26 e27 e28 e29 e30
    rw [q1, e12']
    have HT := hidMk hW.out.1
    have HX := hidMk q3
    clear hU hW hall q1 q3 e12' H3 C1 C2
    have hS' := HS.out.below HT.out.hb hN
    have gz := hS'.z
    obtain ⟨z0, z1, z2, z3⟩ := four_cells HT.out.hz
    obtain ⟨f0, f1, f2, f3⟩ := four_frozen HT.out.hz
    obtain ⟨x0, x1, x2, x3⟩ := four_cells HX.out
    have HSS := hidMk hS'
    clear hS'
    rcases HE.out with ⟨rfl, rfl⟩ | ⟨rfl, rfl⟩ | ⟨rfl, rfl⟩
    · go_wp2_with fail
      refine (is_nil aZ _).mono ?_
      rintro e w1 ⟨rfl, rfl⟩
      go_wp2_with fail
      refine bp_gen (fun W' => W'.heap[w.heap.size + 1 + 1]? = some (.cells #[.int .i64 z.re.n, .int .i64 z.re.d, .int .i64 z.im.n, .int .i64 z.im.d] 82 (0, 0)) ∧ Below w.heap.size w W') ⟨four_set HT.out.hz _ _ _ _, below_four HT.out.hb (by omega) _ _ _ _⟩ ?_
      rintro W ⟨hz, hb⟩
      obtain ⟨z0, z1, z2, z3⟩ := four_cells hz
      exact bodyPost_ret (v := .tuple #[.agg #[.int .i64 z.re.n, .int .i64 z.re.d, .int .i64 z.im.n, .int .i64 z.im.d], .int .i64 0, .int .i64 0]) (by simp [results, Tryz.results149, go_sem, z0, z1, z2, z3]) rfl ⟨rfl, hb⟩
    · unfold eV
      go_wp2_with fail
      refine (is_same aZ _).mono ?_
      rintro e w1 ⟨rfl, rfl⟩
      go_wp2_with fail
      refine bp_gen (fun W' => W'.heap[w.heap.size + 1 + 1]? = some (.cells #[.int .i64 0, .int .i64 0, .int .i64 0, .int .i64 0] 82 (0, 0)) ∧ Below w.heap.size w W') ⟨four_set HT.out.hz _ _ _ _, below_four HT.out.hb (by omega) _ _ _ _⟩ ?_
      rintro W ⟨hz, hb⟩
      obtain ⟨z0, z1, z2, z3⟩ := four_cells hz
      exact bodyPost_ret (v := .tuple #[numV0, .int .i64 4, .int .i64 p]) (by simp [results, Tryz.results149, go_sem, numV0, z0, z1, z2, z3]) rfl ⟨rfl, hb⟩
    · unfold eV
      obtain ⟨ca, ta, ha⟩ := HSS.out.hb
      obtain ⟨cb, tb, hbb⟩ := HSS.out.hz
      have C5 := hidMk (is_other aB aZ ca cb ta tb _ HSS.out.ne ha hbb)
      clear ha hbb
      go_wp2_with fail
      refine C5.out.mono ?_
      rintro e w1 ⟨rfl, rfl⟩
      go_wp2_with fail
      refine bp_gen (fun W' => W'.heap[w.heap.size + 1 + 1]? = some (.cells #[.int .i64 0, .int .i64 0, .int .i64 0, .int .i64 0] 82 (0, 0)) ∧ Below w.heap.size w W') ⟨four_set HT.out.hz _ _ _ _, below_four HT.out.hb (by omega) _ _ _ _⟩ ?_
      rintro W ⟨hz, hb⟩
      obtain ⟨z0, z1, z2, z3⟩ := four_cells hz
      exact bodyPost_ret (v := .tuple #[numV0, .int .i64 5, .int .i64 p]) (by simp [results, Tryz.results149, go_sem, numV0, z0, z1, z2, z3]) rfl ⟨rfl, hb⟩
end Go.Proofs.YtodabmkcihafhaaGreatDoor

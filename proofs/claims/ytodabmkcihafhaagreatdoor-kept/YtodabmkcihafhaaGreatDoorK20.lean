import Derived.Test.YtodabmkcihafhaaGreatDoorK19

/- The program's Value. -/
namespace Go.Proofs.YtodabmkcihafhaaGreatDoor
open Go.RowKit
set_option linter.unusedVariables false

theorem valS_cases (names : List (Int × Num)) (s : ByteArray) (hn : ∀ q ∈ names, q.2.Ok) : (∃ x, valS names s = .ok x) ∨ ∃ q p, valS names s = .err q p ∧ q ≠ 0 := by
  rcases valS_read names s with ⟨hE, hs, hg, hv⟩ | ⟨hE, p, hp, hv⟩
  · rw [hv]
    unfold valT
    cases missT (envOf names) (treeT s) with
    | some p => exact Or.inr ⟨3, p, rfl, by decide⟩
    | none =>
      have ev := ev_ok (env_ok hn) (treeT s) (top_tree s hg).2.2.1
      cases he : evT (envOf names) (treeT s) with
      | ok x => exact Or.inl ⟨x, rfl⟩
      | err q p =>
        have := ev.2 q p he
        exact Or.inr ⟨q, p, rfl, by omega⟩
  · exact Or.inr ⟨_, p, hv, hE⟩
structure VW (N : Nat) (aZ aB : Addr) (K P m T r : Nat) (names : List (Int × Num)) (w : World) (z : Array Value) (W : World) : Prop where
  bk : Bk N aZ aB K P m T r names W
  hz : W.heap[w.heap.size]? = some (.cells z 27 (0, 0))
  hr : r < w.heap.size
  hk : Kp (· = r) w W
section
variable {N : Nat} {aZ aB : Addr} {K P m T r : Nat} {names : List (Int × Num)} {w : World} {z : Array Value} {W W' : World}
theorem VW.below (h : VW N aZ aB K P m T r names w z W) (g : Below W.heap.size W W') : VW N aZ aB K P m T r names w z W' :=
  ⟨h.bk.below g, (g.block _ (Array.getElem?_eq_some_iff.1 h.hz).1).trans h.hz, h.hr, h.hk.below g⟩
theorem VW.drew (h : VW N aZ aB K P m T r names w z W) : VW N aZ aB K P m T r names w z W.drew := h.below ((Below.refl _ W).drew)
theorem VW.kept (h : VW N aZ aB K P m T r names w z W) (g : Kp (· = r) W W') (ht : Tb T r names W') : VW N aZ aB K P m T r names w z W' :=
  ⟨h.bk.kept g ht, (g.block _ (Array.getElem?_eq_some_iff.1 h.hz).1 (by have := h.hr; omega)).trans h.hz, h.hr, h.hk.trans g⟩
theorem VW.setz {a b c d : Value} (h : VW N aZ aB K P m T r names w #[a, b, c, d] W) (x : Num) :
    ((((W.setCell ⟨w.heap.size, 0, none⟩ (.int .i64 x.re.n)).setCell ⟨w.heap.size, 1, none⟩ (.int .i64 x.re.d)).setCell ⟨w.heap.size, 2, none⟩ (.int .i64 x.im.n)).setCell ⟨w.heap.size, 3, none⟩ (.int .i64 x.im.d)).heap[w.heap.size]? = some (.cells (numC x) 27 (0, 0)) ∧
    Tb T r names ((((W.setCell ⟨w.heap.size, 0, none⟩ (.int .i64 x.re.n)).setCell ⟨w.heap.size, 1, none⟩ (.int .i64 x.re.d)).setCell ⟨w.heap.size, 2, none⟩ (.int .i64 x.im.n)).setCell ⟨w.heap.size, 3, none⟩ (.int .i64 x.im.d)) ∧
    Kp (· = r) w ((((W.setCell ⟨w.heap.size, 0, none⟩ (.int .i64 x.re.n)).setCell ⟨w.heap.size, 1, none⟩ (.int .i64 x.re.d)).setCell ⟨w.heap.size, 2, none⟩ (.int .i64 x.im.n)).setCell ⟨w.heap.size, 3, none⟩ (.int .i64 x.im.d)) := by
  have hr := h.hr
  refine ⟨four_set h.hz _ _ _ _, ?_, (((h.hk.setCell (p := ⟨w.heap.size, 0, none⟩) (Or.inr (Nat.le_refl _)) _).setCell (p := ⟨w.heap.size, 1, none⟩) (Or.inr (Nat.le_refl _)) _).setCell (p := ⟨w.heap.size, 2, none⟩) (Or.inr (Nat.le_refl _)) _).setCell (p := ⟨w.heap.size, 3, none⟩) (Or.inr (Nat.le_refl _)) _⟩
  obtain ⟨es, clock, h1, h2⟩ := h.bk.pw.tb.hr
  have nT : T ≠ w.heap.size := fun e => by
    have := h.hz
    rw [← e, h.bk.pw.tb.ht] at this
    simp at this
  have nr : r ≠ w.heap.size := by omega
  refine ⟨?_, es, clock, ?_, h2⟩
  · rw [Below.heap_setCell _ _ _ _ nT, Below.heap_setCell _ _ _ _ nT, Below.heap_setCell _ _ _ _ nT, Below.heap_setCell _ _ _ _ nT]; exact h.bk.pw.tb.ht
  · rw [Below.heap_setCell _ _ _ _ nr, Below.heap_setCell _ _ _ _ nr, Below.heap_setCell _ _ _ _ nr, Below.heap_setCell _ _ _ _ nr]; exact h1
end
/-- Beside what a region began with: only newer blocks are written. -/
structure Nw (W W' : World) : Prop where
  b : Below W.heap.size W W'
theorem Nw.refl (W : World) : Nw W W := ⟨Below.refl _ _⟩
theorem Nw.drew {W W' : World} (h : Nw W W') : Nw W W'.drew := ⟨h.b.drew⟩
theorem Nw.alloc {W W' : World} (h : Nw W W') (o : Obj) : Nw W (W'.alloc o) := ⟨h.b.alloc h.b.size o⟩
theorem Nw.two {W W' : World} (h : Nw W W') {X : Nat} (hX : W.heap.size ≤ X) (a b : Value) : Nw W ((W'.setCell ⟨X, 0, none⟩ a).setCell ⟨X, 1, none⟩ b) := ⟨(h.b.setCell (p := ⟨X, 0, none⟩) hX a).setCell (p := ⟨X, 1, none⟩) hX b⟩
theorem two_other {w : World} {B k : Nat} (h : k ≠ B) (a b : Value) : ((w.setCell ⟨B, 0, none⟩ a).setCell ⟨B, 1, none⟩ b).heap[k]? = w.heap[k]? := by
  rw [Below.heap_setCell _ _ _ _ h, Below.heap_setCell _ _ _ _ h]

set_option maxHeartbeats 4000000 in
set_option maxRecDepth 100000 in
theorem value_any (N : Nat) (aZ aB : Addr) (K P m T r : Nat) (names : List (Int × Num)) (s : ByteArray) (w : World) (h : Bk N aZ aB K P m T r names w) :
    Calls Tryz.prog 14 #[.pointer (some ⟨K, 0, none⟩), .string s] w fun e w' => e = .returned (ansV (valS names s)) ∧ Tb T r names w' ∧ Kp (· = r) w w' := by
  have h0 : VW N aZ aB K P m T r names w #[.int .i64 0, .int .i64 0, .int .i64 0, .int .i64 0] (w.alloc (.cells #[.int .i64 0, .int .i64 0, .int .i64 0, .int .i64 0] 27)) :=
    ⟨h.below (fr_below w _), heap_alloc_new w _, by obtain ⟨es, c, h1, _⟩ := h.pw.tb.hr; exact (Array.getElem?_eq_some_iff.1 h1).1, (Kp.refl _ w).alloc _⟩
  have CC := hidMk (fun W hW => current_any K P W hW)
  have CN := hidMk (fun W hW => pnumber_any N aZ aB P m T r names s W hW)
  have HVS : Hid ((∃ x, valS names s = .ok x) ∨ ∃ q p, valS names s = .err q p ∧ q ≠ 0) := valS_cases names s h.pw.nm
  clear h
  go_enter Tryz.func14, Tryz.ntmps14
  go_upto_region 1 with fail
  generalize w.alloc _ = W at *
  have H0 := hidMk h0
  clear h0
  go_wp2_with fail
  refine (CC.out _ H0.out.bk.hK).mono ?_
  rintro e w1 ⟨rfl, hb1⟩
  have h1 := H0.out.below hb1
  clear H0 hb1
  have H1 := hidMk h1
  go_wp2_with fail
  refine (CN.out _ h1.bk.pw).mono ?_
  rintro e w2 ⟨rfl, ht2, hk2⟩
  have h2 := H1.out.kept hk2 ht2
  clear H1 h1 hk2 ht2 CC CN
  rcases HVS.out with ⟨x, hv⟩ | ⟨q, p, hv, hq⟩
  · have HV : Hid (ansV (valS names s) = .tuple #[.agg (numC x), .int .i64 0, .int .i64 0]) := by
      show _ = _
      rw [hv]
      rfl
    rw [HV.out]
    clear hv
    go_upto_region 2 with fail
    have h3 := h2.below (fr_below w2 (.cells (numC x) 82))
    have hx3 := heap_alloc_new w2 (.cells (numC x) 82)
    generalize w2.alloc _ = W3 at *
    generalize w2.heap.size = bx at *
    have H3 := hidMk h3
    have HX := hidMk hx3
    clear h2 h3 hx3
    go_upto_region 4 with fail
    refine region_inv (nt := 38) _
      (fun j v => match j with
        | 0 => v = .pointer (some ⟨bx, 0, none⟩)
        | 1 => v = .agg #[.int .i64 x.re.n, .int .i64 x.re.d]
        | 2 => v = .pointer (some ⟨bx, 2, none⟩)
        | 3 => v = .agg #[.int .i64 x.im.n, .int .i64 x.im.d]
        | _ => True)
      (fun b u w' => Hid (Nw W3 w' ∧ (b 6 = true → b 4 = true) ∧ (b 7 = true → b 5 = true) ∧ (b 4 = true → ∃ X, u 10 = .pointer (some ⟨X, 0, none⟩) ∧ W3.heap.size ≤ X ∧ w'.heap[X]? = some (.cells (if b 6 = true then #[.int .i64 x.re.n, .int .i64 x.re.d] else #[.int .i64 0, .int .i64 0]) 80 (0, 0))) ∧ (b 5 = true → ∃ X, u 11 = .pointer (some ⟨X, 0, none⟩) ∧ W3.heap.size ≤ X ∧ w'.heap[X]? = some (.cells (if b 7 = true then #[.int .i64 x.im.n, .int .i64 x.im.d] else #[.int .i64 0, .int .i64 0]) 80 (0, 0))) ∧ (b 4 = true → b 5 = true → u 10 ≠ u 11)))
      (act_of rfl rfl) (by kernel_rfl) (by kernel_rfl) (by kernel_rfl) ⟨(Nw.refl W3).drew, fun h => h, fun h => h, fun h => (by cases h), fun h => (by cases h), fun h => by cases h⟩ ?_ ?_
    · intro i o b u w' ho hbi hall hU hW K hK
      have hA : actOf 38 u = ⟨#[u 0, u 1, u 2, u 3, u 4, u 5, u 6, u 7, u 8, u 9, u 10, u 11, u 12, u 13, u 14, u 15, u 16, u 17, u 18, u 19, u 20, u 21, u 22, u 23, u 24, u 25, u 26, u 27, u 28, u 29, u 30, u 31, u 32, u 33, u 34, u 35, u 36, u 37], []⟩ := rfl
      rw [hA] at hK ⊢
      have c7 : u 7 = .pointer (some ⟨bx, 0, none⟩) := hU.oldB 7 (by kernel_rfl)
      have got := hU.got
      have HW := hW
      have HKK := hidMk hK
      clear hU hA hK hW
      have hxx := (HW.out.1.b.block bx (Array.getElem?_eq_some_iff.1 HX.out).1).trans HX.out
      obtain ⟨x0, x1, x2, x3⟩ := four_cells hxx
      rcases i with _ | _ | _ | _ | _ | _ | _ | _ | i
      · cases ho
        go_simp
        exact HKK.out _ _ _ (by rw [c7]; rfl) (fun _ => rfl) ⟨HW.out.1, HW.out.2.1, HW.out.2.2.1, HW.out.2.2.2.1, HW.out.2.2.2.2.1, HW.out.2.2.2.2.2⟩
      · cases ho
        have g25 : u 25 = .pointer (some ⟨bx, 0, none⟩) := got 0 25 rfl (hall ⟨0, .data⟩ (by simp) rfl)
        go_simp
        exact HKK.out _ _ _ (by rw [c7, g25]; rfl) (fun _ => rfl) ⟨HW.out.1, HW.out.2.1, HW.out.2.2.1, HW.out.2.2.2.1, HW.out.2.2.2.2.1, HW.out.2.2.2.2.2⟩
      · cases ho
        go_simp
        exact HKK.out _ _ _ (by rw [c7]; rfl) (fun _ => rfl) ⟨HW.out.1, HW.out.2.1, HW.out.2.2.1, HW.out.2.2.2.1, HW.out.2.2.2.2.1, HW.out.2.2.2.2.2⟩
      · cases ho
        have g27 : u 27 = .pointer (some ⟨bx, 2, none⟩) := got 2 27 rfl (hall ⟨2, .data⟩ (by simp) rfl)
        go_simp
        exact HKK.out _ _ _ (by rw [c7, g27]; rfl) (fun _ => rfl) ⟨HW.out.1, HW.out.2.1, HW.out.2.2.1, HW.out.2.2.2.1, HW.out.2.2.2.2.1, HW.out.2.2.2.2.2⟩
      · cases ho
        have ns : b 6 = false := by
          cases h : b 6 with
          | false => rfl
          | true => rw [HW.out.2.1 h] at hbi; cases hbi
        have NS := hidMk ns
        clear ns
        go_simp
        refine HKK.out _ _ _ (by rw [c7]; rfl) (fun _ => trivial) ⟨HW.out.1.alloc _, ?_, ?_, ?_, ?_, ?_⟩
        · intro _; rfl
        · exact HW.out.2.2.1
        · intro _
          refine ⟨w'.heap.size, rfl, HW.out.1.b.size, ?_⟩
          have e : (if upB b 4 6 = true then (#[.int .i64 x.re.n, .int .i64 x.re.d] : Array Value) else #[.int .i64 0, .int .i64 0]) = #[.int .i64 0, .int .i64 0] := by simp [upB, NS.out]
          rw [e]
          exact heap_alloc_new w' _
        · intro h
          obtain ⟨X, q1, q2, q3⟩ := HW.out.2.2.2.2.1 h
          exact ⟨X, q1, q2, (Below.heap_alloc _ _ _ (Array.getElem?_eq_some_iff.1 q3).1).trans q3⟩
        · intro h4 h5 he
          obtain ⟨X, q1, q2, q3⟩ := HW.out.2.2.2.2.1 h5
          have he' : (.pointer (some ⟨w'.heap.size, 0, none⟩) : Value) = u 11 := he
          rw [q1] at he'
          have hlt := (Array.getElem?_eq_some_iff.1 q3).1
          simp at he'
          try omega
      · cases ho
        have ns : b 7 = false := by
          cases h : b 7 with
          | false => rfl
          | true => rw [HW.out.2.2.1 h] at hbi; cases hbi
        have NS := hidMk ns
        clear ns
        go_simp
        refine HKK.out _ _ _ (by rw [c7]; rfl) (fun _ => trivial) ⟨HW.out.1.alloc _, ?_, ?_, ?_, ?_, ?_⟩
        · exact HW.out.2.1
        · intro _; rfl
        · intro h
          obtain ⟨X, q1, q2, q3⟩ := HW.out.2.2.2.1 h
          exact ⟨X, q1, q2, (Below.heap_alloc _ _ _ (Array.getElem?_eq_some_iff.1 q3).1).trans q3⟩
        · intro _
          refine ⟨w'.heap.size, rfl, HW.out.1.b.size, ?_⟩
          have e : (if upB b 5 7 = true then (#[.int .i64 x.im.n, .int .i64 x.im.d] : Array Value) else #[.int .i64 0, .int .i64 0]) = #[.int .i64 0, .int .i64 0] := by simp [upB, NS.out]
          rw [e]
          exact heap_alloc_new w' _
        · intro h4 h5 he
          obtain ⟨X, q1, q2, q3⟩ := HW.out.2.2.2.1 h4
          have he' : u 10 = (.pointer (some ⟨w'.heap.size, 0, none⟩) : Value) := he
          rw [q1] at he'
          have hlt := (Array.getElem?_eq_some_iff.1 q3).1
          simp at he'
          try omega
      · cases ho
        have g26 : u 26 = .agg #[.int .i64 x.re.n, .int .i64 x.re.d] := got 1 26 rfl (hall ⟨1, .data⟩ (by simp) rfl)
        obtain ⟨X, q1, q2, q3⟩ := HW.out.2.2.2.1 (hall ⟨4, .data⟩ (by simp) rfl)
        rw [if_neg (by rw [hbi]; decide)] at q3
        obtain ⟨s0, s1, f0, f1⟩ := two_cells q3
        have Q3 := hidMk q3
        have YA : Hid (b 4 = true) := hall ⟨4, .data⟩ (by simp) rfl
        clear q3
        go_simp
        refine HKK.out undef _ _ (by rw [c7, g26, q1]; rfl) (fun h => by cases h) ⟨HW.out.1.two q2 _ _, ?_, ?_, ?_, ?_, HW.out.2.2.2.2.2⟩
        · exact fun _ => YA.out
        · exact HW.out.2.2.1
        · exact fun _ => ⟨X, q1, q2, two_set Q3.out _ _⟩
        · intro h
          obtain ⟨Y, y1, y2, y3⟩ := HW.out.2.2.2.2.1 h
          refine ⟨Y, y1, y2, ?_⟩
          have ne : Y ≠ X := fun e => HW.out.2.2.2.2.2 YA.out h (by rw [q1, y1, e])
          rw [two_other ne]
          exact y3
      · cases ho
        have g28 : u 28 = .agg #[.int .i64 x.im.n, .int .i64 x.im.d] := got 3 28 rfl (hall ⟨3, .data⟩ (by simp) rfl)
        obtain ⟨X, q1, q2, q3⟩ := HW.out.2.2.2.2.1 (hall ⟨5, .data⟩ (by simp) rfl)
        rw [if_neg (by rw [hbi]; decide)] at q3
        obtain ⟨s0, s1, f0, f1⟩ := two_cells q3
        have Q3 := hidMk q3
        have YA : Hid (b 5 = true) := hall ⟨5, .data⟩ (by simp) rfl
        clear q3
        go_simp
        refine HKK.out undef _ _ (by rw [c7, g28, q1]; rfl) (fun h => by cases h) ⟨HW.out.1.two q2 _ _, ?_, ?_, ?_, ?_, HW.out.2.2.2.2.2⟩
        · exact HW.out.2.1
        · exact fun _ => YA.out
        · intro h
          obtain ⟨Y, y1, y2, y3⟩ := HW.out.2.2.2.1 h
          refine ⟨Y, y1, y2, ?_⟩
          have ne : Y ≠ X := fun e => HW.out.2.2.2.2.2 h YA.out (by rw [q1, y1, e])
          rw [two_other ne]
          exact y3
        · exact fun _ => ⟨X, q1, q2, two_set Q3.out _ _⟩
      · simp at ho
    · intro b u w' hall hU hW
      obtain ⟨X, q1, q2, q3⟩ := hW.out.2.2.2.1 (hall 4 (by decide))
      obtain ⟨Y, y1, y2, y3⟩ := hW.out.2.2.2.2.1 (hall 5 (by decide))
      rw [if_pos (hall 6 (by decide))] at q3
      rw [if_pos (hall 7 (by decide))] at y3
      have hA : actOf 38 u = ⟨#[u 0, u 1, u 2, u 3, u 4, u 5, u 6, u 7, u 8, u 9, u 10, u 11, u 12, u 13, u 14, u 15, u 16, u 17, u 18, u 19, u 20, u 21, u 22, u 23, u 24, u 25, u 26, u 27, u 28, u 29, u 30, u 31, u 32, u 33, u 34, u 35, u 36, u 37], []⟩ := rfl
      have e0 : u 0 = .pointer (some ⟨K, 0, none⟩) := hU.oldB 0 (by kernel_rfl)
      have e1 : u 1 = .string s := hU.oldB 1 (by kernel_rfl)
      have e2 : u 2 = undef := hU.oldB 2 (by kernel_rfl)
      have e3 : u 3 = undef := hU.oldB 3 (by kernel_rfl)
      have e4 : u 4 = .pointer (some ⟨w.heap.size, 0, none⟩) := hU.oldB 4 (by kernel_rfl)
      have e5 : u 5 = .int .i64 0 := hU.oldB 5 (by kernel_rfl)
      have e6 : u 6 = .int .i64 0 := hU.oldB 6 (by kernel_rfl)
      have e7 : u 7 = .pointer (some ⟨bx, 0, none⟩) := hU.oldB 7 (by kernel_rfl)
      have e8 : u 8 = .int .i64 0 := hU.oldB 8 (by kernel_rfl)
      have e9 : u 9 = .int .i64 0 := hU.oldB 9 (by kernel_rfl)
      have e12 : u 12 = .tuple #[.agg (numC x), .int .i64 0, .int .i64 0] := hU.oldB 12 (by kernel_rfl)
      have e13 : u 13 = .pointer (some ⟨K, 0, none⟩) := hU.oldB 13 (by kernel_rfl)
      have e14 : u 14 = .pointer (some ⟨P, 0, none⟩) := hU.oldB 14 (by kernel_rfl)
      have e15 : u 15 = .string s := hU.oldB 15 (by kernel_rfl)
      have e16 : u 16 = .tuple #[.agg (numC x), .int .i64 0, .int .i64 0] := hU.oldB 16 (by kernel_rfl)
      have e17 : u 17 = .agg (numC x) := hU.oldB 17 (by kernel_rfl)
      have e18 : u 18 = .int .i64 0 := hU.oldB 18 (by kernel_rfl)
      have e19 : u 19 = .int .i64 0 := hU.oldB 19 (by kernel_rfl)
      have e20 : u 20 = .int .i64 0 := hU.oldB 20 (by kernel_rfl)
      have e21 : u 21 = .bool false := hU.oldB 21 (by kernel_rfl)
      have e22 : u 22 = undef := hU.oldB 22 (by kernel_rfl)
      have e23 : u 23 = undef := hU.oldB 23 (by kernel_rfl)
      have e24 : u 24 = undef := hU.oldB 24 (by kernel_rfl)
      have e29 : u 29 = undef := hU.oldB 29 (by kernel_rfl)
      have e30 : u 30 = undef := hU.oldB 30 (by kernel_rfl)
      have e31 : u 31 = undef := hU.oldB 31 (by kernel_rfl)
      have e32 : u 32 = undef := hU.oldB 32 (by kernel_rfl)
      have e33 : u 33 = undef := hU.oldB 33 (by kernel_rfl)
      have e34 : u 34 = undef := hU.oldB 34 (by kernel_rfl)
      have e35 : u 35 = undef := hU.oldB 35 (by kernel_rfl)
      have e36 : u 36 = undef := hU.oldB 36 (by kernel_rfl)
      have e37 : u 37 = undef := hU.oldB 37 (by kernel_rfl)
      rw [hA, e0, e1, e2, e3, e4, e5, e6, e7, e8, e9, e12, e13, e14, e15, e16, e17, e18, e19, e20, e21, e22, e23, e24, e29, e30, e31, e32, e33, e34, e35, e36, e37]
      clear hA e0 e1 e2 e3 e4 e5 e6 e7 e8 e9 e12 e13 e14 e15 e16 e17 e18 e19 e20 e21 e22 e23 e24 e29 e30 e31 e32 e33 e34 e35 e36 e37
      rw [q1, y1]
      have H4 := hidMk (H3.out.below hW.out.1.b)
      have Q3 := hidMk q3
      have Y3 := hidMk y3
      clear hU hW hall q1 q2 q3 y1 y2 y3 H3 HX
      obtain ⟨p0, p1, _, _⟩ := two_cells Q3.out
      obtain ⟨r0, r1, _, _⟩ := two_cells Y3.out
      obtain ⟨z0, z1, z2, z3⟩ := four_cells H4.out.hz
      obtain ⟨f0, f1, f2, f3⟩ := four_frozen H4.out.hz
      go_wp2_with fail
      refine bp_gen (fun W' => W'.heap[w.heap.size]? = some (.cells (numC x) 27 (0, 0)) ∧ Tb T r names W' ∧ Kp (· = r) w W') (H4.out.setz x) ?_
      rintro W ⟨hz, ht, hk⟩
      obtain ⟨z0, z1, z2, z3⟩ := four_cells hz
      rw [HV.out]
      exact bodyPost_ret (v := .tuple #[.agg (numC x), .int .i64 0, .int .i64 0]) (by simp [results, Tryz.results14, go_sem, z0, z1, z2, z3]) rfl ⟨rfl, ht, hk⟩
  · have HV : Hid (ansV (valS names s) = .tuple #[.agg (numC ⟨⟨0, 0⟩, ⟨0, 0⟩⟩), .int .i64 q, .int .i64 p]) := by
      show _ = _
      rw [hv]
      rfl
    rw [HV.out]
    have hne : (q != 0) = true := by simpa using hq
    clear hv hq
    go_upto_region 2 with fail
    have h3 := h2.below (fr_below w2 (.cells (numC ⟨⟨0, 0⟩, ⟨0, 0⟩⟩) 82))
    generalize w2.alloc _ = W3 at *
    generalize w2.heap.size = bx at *
    obtain ⟨z0, z1, z2, z3⟩ := four_cells h3.hz
    obtain ⟨f0, f1, f2, f3⟩ := four_frozen h3.hz
    have H3 := hidMk h3
    clear h2 h3
    go_wp2_with fail
    refine bp_gen (fun W' => W'.heap[w.heap.size]? = some (.cells (numC ⟨⟨0, 0⟩, ⟨0, 0⟩⟩) 27 (0, 0)) ∧ Tb T r names W' ∧ Kp (· = r) w W') (H3.out.setz ⟨⟨0, 0⟩, ⟨0, 0⟩⟩) ?_
    rintro W ⟨hz, ht, hk⟩
    obtain ⟨z0, z1, z2, z3⟩ := four_cells hz
    rw [HV.out]
    exact bodyPost_ret (v := .tuple #[.agg (numC ⟨⟨0, 0⟩, ⟨0, 0⟩⟩), .int .i64 q, .int .i64 p]) (by simp [results, Tryz.results14, go_sem, z0, z1, z2, z3]) rfl ⟨rfl, ht, hk⟩
end Go.Proofs.YtodabmkcihafhaaGreatDoor

/- The program's New. -/
namespace Go.Proofs.YtodabmkcihafhaaGreatDoor
open Go.RowKit
set_option linter.unusedVariables false

theorem mk_map {w : World} (t : TypeId) (k e : TypeId) (h : Tryz.prog.underlying t = some (.map k e)) : (Instr.makeMap t none).run Tryz.prog w = .ok (.map (some w.heap.size)) (w.alloc (.map #[] 0)) := by
  simp [Instr.makeMap, Result.andThen, go_sem]
set_option maxHeartbeats 1000000 in
theorem knew_any (n : Int) (w : World) : Calls Tryz.prog 51 #[.int .i64 n] w fun e w' => e = .returned (.pointer (some ⟨w.heap.size + 1, 0, none⟩)) ∧ w' = (w.alloc (.map #[] 0)).alloc (.cells #[.int .i32 0, .int .u32 0, .map (some w.heap.size), .int .i64 n] 164) := by
  have hmm := mk_map (w := w) 162 _ _ Tryz.underlying162
  go_enter Tryz.func51, Tryz.ntmps51
  go_wp2_with fail
  go_ret
  exact ⟨by simp, rfl⟩
set_option maxHeartbeats 1000000 in
theorem newPage_any (N : Nat) (aZ aB : Addr) (m : Nat) (names : List (Int × Num)) (w : World) (hS : Sen N aZ aB w) (hN : N ≤ w.heap.size) (hm : ∃ es clock, w.heap[m]? = some (.map es clock) ∧ nmE names es) (nm : ∀ q ∈ names, q.2.Ok) :
    Calls Tryz.prog 31 #[.map (some m)] w fun e w' => e = .returned (.pointer (some ⟨w.heap.size + 1 + 1, 0, none⟩)) ∧ Pw N aZ aB (w.heap.size + 1 + 1) m (w.heap.size + 1) w.heap.size names w' ∧ Below w.heap.size w w' ∧ w'.heap.size = w.heap.size + 3 := by
  have C1 := knew_any 64 w
  have h1 := heap_alloc_new w (.map #[] 0)
  have h2 := heap_alloc_new (w.alloc (.map #[] 0)) (.cells #[.int .i32 0, .int .u32 0, .map (some w.heap.size), .int .i64 64] 164)
  have h3 := heap_alloc_new ((w.alloc (.map #[] 0)).alloc (.cells #[.int .i32 0, .int .u32 0, .map (some w.heap.size), .int .i64 64] 164)) (.cells #[.map (some m), .pointer (some ⟨w.heap.size + 1, 0, none⟩)] 118)
  have hb : Below w.heap.size w (((w.alloc (.map #[] 0)).alloc (.cells #[.int .i32 0, .int .u32 0, .map (some w.heap.size), .int .i64 64] 164)).alloc (.cells #[.map (some m), .pointer (some ⟨w.heap.size + 1, 0, none⟩)] 118)) := (((Below.refl _ w).alloc (Nat.le_refl _) _).alloc (by simp) _).alloc (by simp; omega) _
  simp only [World.size_alloc] at h2 h3
  have r1 : (((w.alloc (.map #[] 0)).alloc (.cells #[.int .i32 0, .int .u32 0, .map (some w.heap.size), .int .i64 64] 164)).alloc (.cells #[.map (some m), .pointer (some ⟨w.heap.size + 1, 0, none⟩)] 118)).heap[w.heap.size]? = some (.map #[] 0) := by
    rw [Below.heap_alloc _ _ _ (by simp; omega), Below.heap_alloc _ _ _ (by simp)]; exact h1
  have r2 : (((w.alloc (.map #[] 0)).alloc (.cells #[.int .i32 0, .int .u32 0, .map (some w.heap.size), .int .i64 64] 164)).alloc (.cells #[.map (some m), .pointer (some ⟨w.heap.size + 1, 0, none⟩)] 118)).heap[w.heap.size + 1]? = some (.cells #[.int .i32 0, .int .u32 0, .map (some w.heap.size), .int .i64 64] 164 (0, 0)) := by
    rw [Below.heap_alloc _ _ _ (by simp)]; exact h2
  obtain ⟨es, clock, m1, m2⟩ := hm
  have hmlt := (Array.getElem?_eq_some_iff.1 m1).1
  go_enter Tryz.func31, Tryz.ntmps31
  go_wp2_with (go_at_call 51; refine C1.mono ?_; rintro e w' ⟨rfl, rfl⟩)
  refine bodyPost_ret (v := .pointer (some ⟨w.heap.size + 1 + 1, 0, none⟩)) (by simp [results, Tryz.results31, go_sem]) rfl ⟨rfl, ⟨⟨hS.below hb hN, Nat.le_trans hN hb.size, (two_cells h3).1, es, clock, (hb.block m hmlt).trans m1, m2⟩, h3, ⟨r2, #[], 0, r1, fun x hx => by simp at hx⟩, by omega, hN, nm⟩, hb, by simp⟩
theorem nmE_nil : nmE [] #[] := rfl
set_option maxHeartbeats 1000000 in
theorem new_any (N : Nat) (aZ aB : Addr) (w : World) (hS : Sen N aZ aB w) (hN : N ≤ w.heap.size) :
    Calls Tryz.prog 12 #[] w fun e w' => e = .returned (.pointer (some ⟨w.heap.size + 4, 0, none⟩)) ∧ Bk N aZ aB (w.heap.size + 4) (w.heap.size + 3) w.heap.size (w.heap.size + 2) (w.heap.size + 1) [] w' ∧ Below w.heap.size w w' := by
  have hmm := mk_map (w := w) 64 _ _ Tryz.underlying64
  have h1 := heap_alloc_new w (.map #[] 0)
  have C1 := newPage_any N aZ aB w.heap.size [] (w.alloc (.map #[] 0)) (hS.alloc hN _) (by simp; omega) ⟨#[], 0, h1, nmE_nil⟩ (fun q hq => by simp at hq)
  have hb0 := fr_below w (.map #[] 0)
  simp only [World.size_alloc] at C1
  generalize w.alloc (.map #[] 0) = W at *
  have HS := hidMk hS
  have HB := hidMk hb0
  clear h1 hS hb0
  go_enter Tryz.func12, Tryz.ntmps12
  go_wp2_with (go_at_call 31; refine C1.mono ?_; rintro e w' ⟨rfl, hp, hb, hsz⟩)
  have hb2 := fr_below w' (.cells #[.int .i32 0, .int .u32 0, .pointer (some ⟨w.heap.size + 1 + 1 + 1, 0, none⟩)] 73)
  have h3 := heap_alloc_new w' (.cells #[.int .i32 0, .int .u32 0, .pointer (some ⟨w.heap.size + 1 + 1 + 1, 0, none⟩)] 73)
  rw [hsz] at h3
  refine bodyPost_ret (v := .pointer (some ⟨w.heap.size + 4, 0, none⟩)) (by simp [results, Tryz.results12, go_sem]) rfl ⟨rfl, ⟨h3, hp.below hb2⟩, HB.out.trans ((hb.mono (by omega)).trans (hb2.mono ?_))⟩
  have := HB.out.size
  omega
end Go.Proofs.YtodabmkcihafhaaGreatDoor

import Derived.Sort.CutIn
import Derived.Test.YtodabmkcihafhaaGreatDoorProg
import Derived.Conc.MuData
import Derived.KernelRfl
import Derived.Shelf.Pu.Clone
import Derived.Test.YtodabmkcihafhaaGreatDoorK15
import Derived.Test.YtodabmkcihafhaaGreatDoorK6
import Derived.Test.YtodabmkcihafhaaGreatDoorK14
import Derived.Test.YtodabmkcihafhaaGreatDoorK5
import Derived.Test.YtodabmkcihafhaaGreatDoorK11

/- The program's work: all names are asked for, then the operations are made. -/
namespace Go.Proofs.YtodabmkcihafhaaGreatDoor
open Go.RowKit Go.Shelf
attribute [local go_sem] Oper.semAt_some
set_option linter.unusedVariables false

set_option maxHeartbeats 1000000 in
theorem names1_in (F : Fence) (hd : F.depth = none) (n : Nat) (h1 : F.fn 119) (h2 : F.fn 120) (hro : F.round = none) (l Bt B : Nat) (e : Ex) (J Jx : List (Int × Nat) → World → Prop) (hA : AbidesFrom B J)
    (hY : ∀ pre x W, J pre W → pre.length < (nmL e).length → YieldAt F (n - 1) Tryz.prog l #[nmV x] W fun r W' =>
      (r = .returned (.bool true) ∧ J (pre ++ [x]) W' ∧ KC W W') ∨ (r = .returned (.bool false) ∧ Jx (pre ++ [x]) W'))
    (W : World) (hBt : W.cell? ⟨Bt, 0, none⟩ = some (exV e)) (h0 : J [] W) :
    CallsIn F n Tryz.prog 119 #[.func (.yield l) #[] #[], .pointer (some ⟨Bt, 0, none⟩)] W fun x W' => (∃ v, x = .returned v) ∧
      ((∃ ys, ys = nmL e ∧ J ys W') ∨ (∃ pre, pre <+: nmL e ∧ Jx pre W')) := by
  have hdd : ∀ k : Nat, (F.depth.isSome = true → 1 ≤ k) := fun k h => by rw [hd] at h; cases h
  have hp := each_any F hd h2 hro l (nmL e).length B J Jx hA (fun m pre x W hj hl => yield_any hd m (hY pre x W hj hl)) e (n - 1) [] W h0 (by simp)
  have hII := hidMk (exV_iface e)
  clear hY hA
  generalize exV e = v at *
  obtain ⟨T, yy, rfl⟩ := hII.out
  refine callsIn_of_wp Tryz.func119 rfl h1 ?_ hro
  simp only [Tryz.ntmps119, List.size_toArray, List.length_cons, List.length_nil, Nat.reduceAdd, Nat.reduceSub, Array.replicate_succ, Array.replicate_zero, List.push_toArray, List.append_toArray, List.nil_append, List.cons_append]
  gi_wp2_with ((try refine ⟨hdd _, ?_⟩); gi_at_call 120; refine hp.mono ?_; clear hp; rintro e W1 (⟨rfl, hJ1, _⟩ | ⟨rfl, q, hq, hx⟩))
  · go_end0
    exact ⟨⟨_, rfl⟩, .inl ⟨_, rfl, by simpa using hJ1⟩⟩
  · go_end0
    exact ⟨⟨_, rfl⟩, .inr ⟨q, hq, by simpa using hx⟩⟩

set_option maxHeartbeats 1000000 in
theorem names_in (F : Fence) (n : Nat) (h : F.fn 82) (hro : F.round = none) (e : Ex) (w : World) :
    CallsIn F n Tryz.prog 82 #[exV e] w fun x w' => x = .returned (.func (.func 119) #[] #[.pointer (some ⟨w.heap.size, 0, none⟩)]) ∧ w' = w.alloc (.cells #[exV e] 75) := by
  have hII := hidMk (exV_iface e)
  generalize exV e = v at *
  obtain ⟨T, yy, rfl⟩ := hII.out
  refine callsIn_of_wp Tryz.func82 rfl h ?_ hro
  simp only [Tryz.ntmps82, List.size_toArray, List.length_cons, List.length_nil, Nat.reduceAdd, Nat.reduceSub, Array.replicate_succ, Array.replicate_zero, List.push_toArray, List.append_toArray, List.nil_append, List.cons_append]
  gi_wp2
  go_ret
  exact ⟨rfl, rfl⟩
theorem names_stops (F : Fence) (hd : F.depth = none) (n : Nat) (h1 : F.fn 119) (h2 : F.fn 120) (hro : F.round = none) (Bt : Nat) (e : Ex) (w : World) (hBt : Bt < w.heap.size) (hc : w.cell? ⟨Bt, 0, none⟩ = some (exV e)) :
    SeqStopsK F n Tryz.prog 119 #[.pointer (some ⟨Bt, 0, none⟩)] (fun x : Int × Nat => #[nmV x]) KC (fun ys => ys = nmL e) (fun pre => pre <+: nmL e) (nmL e).length w := fun l J Jx W hW hA _ hY h0 =>
  names1_in F hd n h1 h2 hro l Bt W.heap.size e J Jx hA hY W ((hW.cell (p := ⟨Bt, 0, none⟩) hBt).trans hc) h0

/-! ### Which names are there -/
theorem miss_nm (env : Env) : ∀ e, missT env e = ((nmL e).find? fun x => !(env x.1).isSome).map (·.2) := by
  intro e
  induction e with
  | num l p => rfl
  | leaf c p =>
    simp only [missT, nmL]
    by_cases hc : c = 105
    · rw [if_pos (Or.inl hc), if_pos hc]; rfl
    · rw [if_neg hc]
      cases h : env c with
      | none => simp [hc, h]
      | some x => simp [h]
  | un c p e ih => exact ih
  | bin c p l r ihl ihr =>
    simp only [missT, nmL]
    rw [ihl, ihr, List.find?_append]
    cases List.find? (fun x => !(env x.fst).isSome) (nmL l) with
    | none => rfl
    | some x => rfl
theorem miss_none {env : Env} {e : Ex} (h : ∀ x ∈ nmL e, (env x.1).isSome = true) : missT env e = none := by
  rw [miss_nm, List.find?_eq_none.2 (fun x hx => by simp [h x hx])]
  rfl
theorem miss_some {env : Env} {e : Ex} {q : List (Int × Nat)} {x : Int × Nat} (hq : ∀ y ∈ q, (env y.1).isSome = true) (hx : (env x.1).isSome = false) (hp : (q ++ [x]) <+: nmL e) : missT env e = some x.2 := by
  obtain ⟨r, hr⟩ := hp
  rw [miss_nm, ← hr, List.append_assoc, List.find?_append, List.find?_eq_none.2 (fun y hy => by simp [hq y hy])]
  have : List.find? (fun x => !(env x.fst).isSome) ([x] ++ r) = some x := by
    show List.find? _ (x :: r) = _
    rw [List.find?_cons, hx]
    rfl
  rw [this]
  rfl

/-! ### The loop's world -/
theorem heap_own {B : Nat} {W W' : World} {row : Option Nat} {k : Nat} {o : Obj} (hg : W.grownBy W' row) (hr : ∀ r, row = some r → B ≤ r ∧ ∃ o : Obj, W.heap[r]? = some o ∧ o.isCells = false) (hk : W.heap[k]? = some o) (hc : o.isCells = true) : W'.heap[k]? = some o :=
  (grownBy_keeps_cells hg (fun r e => (hr r e).2) hk hc).trans hk
structure LW (w : World) (P : Nat) (z : Array Value) (q r : Value) (W : World) : Prop where
  hp : W.heap[w.heap.size]? = some (.cells #[.pointer (some ⟨P, 0, none⟩)] 62 (0, 0))
  hz : W.heap[w.heap.size + 1]? = some (.cells z 82 (0, 0))
  hq : W.heap[w.heap.size + 1 + 1]? = some (.cells #[q] 24 (0, 0))
  hr : W.heap[w.heap.size + 1 + 1 + 1]? = some (.cells #[r] 3 (0, 0))
  hb : Below w.heap.size w W
theorem LW.own {w : World} {P : Nat} {z : Array Value} {q r : Value} {W W' : World} {row : Option Nat} {B : Nat} (h : LW w P z q r W) (hB : w.heap.size ≤ B) (hg : W.grownBy W' row) (ho : ∀ k, row = some k → B ≤ k ∧ ∃ o : Obj, W.heap[k]? = some o ∧ o.isCells = false) : LW w P z q r W' :=
  ⟨heap_own hg ho h.hp rfl, heap_own hg ho h.hz rfl, heap_own hg ho h.hq rfl, heap_own hg ho h.hr rfl, h.hb.grown hg h.hb.size (fun k e => Nat.le_trans hB (ho k e).1)⟩
theorem LW.below {w : World} {P : Nat} {z : Array Value} {q r : Value} {W W' : World} (h : LW w P z q r W) (g : Below W.heap.size W W') : LW w P z q r W' :=
  ⟨(g.block _ (Array.getElem?_eq_some_iff.1 h.hp).1).trans h.hp, (g.block _ (Array.getElem?_eq_some_iff.1 h.hz).1).trans h.hz, (g.block _ (Array.getElem?_eq_some_iff.1 h.hq).1).trans h.hq, (g.block _ (Array.getElem?_eq_some_iff.1 h.hr).1).trans h.hr, h.hb.trans (g.mono h.hb.size)⟩
def zer4 : Array Value := #[.int .i64 0, .int .i64 0, .int .i64 0, .int .i64 0]
theorem LW.new (w : World) (P : Nat) (v : Value) : LW w P zer4 (.int .i64 0) (.int .i64 0) (((((w.alloc (.cells #[.pointer (some ⟨P, 0, none⟩)] 62)).alloc (.cells zer4 82)).alloc (.cells #[.int .i64 0] 24)).alloc (.cells #[.int .i64 0] 3)).alloc (.cells #[v] 75)) ∧
    (((((w.alloc (.cells #[.pointer (some ⟨P, 0, none⟩)] 62)).alloc (.cells zer4 82)).alloc (.cells #[.int .i64 0] 24)).alloc (.cells #[.int .i64 0] 3)).alloc (.cells #[v] 75)).heap[w.heap.size + 1 + 1 + 1 + 1]? = some (.cells #[v] 75 (0, 0)) := by
  refine ⟨⟨?_, ?_, ?_, ?_, (((((Below.refl _ w).alloc (Nat.le_refl _) _).alloc (by simp) _).alloc (by simp; omega) _).alloc (by simp; omega) _).alloc (by simp; omega) _⟩, ?_⟩
  · rw [Below.heap_alloc _ _ _ (by simp; omega), Below.heap_alloc _ _ _ (by simp; omega), Below.heap_alloc _ _ _ (by simp; omega), Below.heap_alloc _ _ _ (by simp)]
    exact heap_alloc_new w _
  · rw [Below.heap_alloc _ _ _ (by simp), Below.heap_alloc _ _ _ (by simp), Below.heap_alloc _ _ _ (by simp)]
    have := heap_alloc_new (w.alloc (.cells #[.pointer (some ⟨P, 0, none⟩)] 62)) (.cells zer4 82)
    simpa using this
  · rw [Below.heap_alloc _ _ _ (by simp), Below.heap_alloc _ _ _ (by simp)]
    have := heap_alloc_new ((w.alloc (.cells #[.pointer (some ⟨P, 0, none⟩)] 62)).alloc (.cells zer4 82)) (.cells #[.int .i64 0] 24)
    simpa using this
  · rw [Below.heap_alloc _ _ _ (by simp)]
    have := heap_alloc_new (((w.alloc (.cells #[.pointer (some ⟨P, 0, none⟩)] 62)).alloc (.cells zer4 82)).alloc (.cells #[.int .i64 0] 24)) (.cells #[.int .i64 0] 3)
    simpa using this
  · have := heap_alloc_new ((((w.alloc (.cells #[.pointer (some ⟨P, 0, none⟩)] 62)).alloc (.cells zer4 82)).alloc (.cells #[.int .i64 0] 24)).alloc (.cells #[.int .i64 0] 3)) (.cells #[v] 75)
    simpa using this
theorem one_frozen {w : World} {B : Nat} {a : Value} {t : TypeId} (h : w.heap[B]? = some (.cells #[a] t (0, 0))) : w.frozen? ⟨B, 0, none⟩ = false := by
  simp [World.frozen?, h]
theorem one_set {w : World} {B : Nat} {a : Value} {t : TypeId} (h : w.heap[B]? = some (.cells #[a] t (0, 0))) (b : Value) : (w.setCell ⟨B, 0, none⟩ b).heap[B]? = some (.cells #[b] t (0, 0)) := by
  obtain ⟨hlt, hk⟩ := Array.getElem?_eq_some_iff.1 h
  show (w.heap.modify B _)[B]? = _
  rw [Array.getElem?_eq_getElem (by rw [Array.size_modify]; exact hlt), Array.getElem_modify_self, hk]
  rfl
theorem LW.set {w : World} {P : Nat} {W : World} (h : LW w P #[.int .i64 0, .int .i64 0, .int .i64 0, .int .i64 0] (.int .i64 0) (.int .i64 0) W) (z : Num) (q r : Int) :
    LW w P #[.int .i64 z.re.n, .int .i64 z.re.d, .int .i64 z.im.n, .int .i64 z.im.d] (.int .i64 q) (.int .i64 r)
      ((((((W.setCell ⟨w.heap.size + 1, 0, none⟩ (.int .i64 z.re.n)).setCell ⟨w.heap.size + 1, 1, none⟩ (.int .i64 z.re.d)).setCell ⟨w.heap.size + 1, 2, none⟩ (.int .i64 z.im.n)).setCell ⟨w.heap.size + 1, 3, none⟩ (.int .i64 z.im.d)).setCell ⟨w.heap.size + 1 + 1, 0, none⟩ (.int .i64 q)).setCell ⟨w.heap.size + 1 + 1 + 1, 0, none⟩ (.int .i64 r)) := by
  have hz := four_set h.hz (.int .i64 z.re.n) (.int .i64 z.re.d) (.int .i64 z.im.n) (.int .i64 z.im.d)
  have o4 : ∀ k, k ≠ w.heap.size + 1 → ((((W.setCell ⟨w.heap.size + 1, 0, none⟩ (.int .i64 z.re.n)).setCell ⟨w.heap.size + 1, 1, none⟩ (.int .i64 z.re.d)).setCell ⟨w.heap.size + 1, 2, none⟩ (.int .i64 z.im.n)).setCell ⟨w.heap.size + 1, 3, none⟩ (.int .i64 z.im.d)).heap[k]? = W.heap[k]? := fun k hk => by
    rw [Below.heap_setCell _ _ _ _ hk, Below.heap_setCell _ _ _ _ hk, Below.heap_setCell _ _ _ _ hk, Below.heap_setCell _ _ _ _ hk]
  have hb4 := below_four h.hb (B := w.heap.size + 1) (by omega) (.int .i64 z.re.n) (.int .i64 z.re.d) (.int .i64 z.im.n) (.int .i64 z.im.d)
  generalize (((W.setCell _ _).setCell _ _).setCell _ _).setCell _ _ = W4 at *
  have hq4 := (o4 (w.heap.size + 1 + 1) (by omega)).trans h.hq
  have hr4 := (o4 (w.heap.size + 1 + 1 + 1) (by omega)).trans h.hr
  have hp4 := (o4 w.heap.size (by omega)).trans h.hp
  refine ⟨?_, ?_, ?_, ?_, (hb4.setCell (p := ⟨w.heap.size + 1 + 1, 0, none⟩) (by simp; omega) _).setCell (p := ⟨w.heap.size + 1 + 1 + 1, 0, none⟩) (by simp; omega) _⟩
  · rw [Below.heap_setCell _ _ _ _ (by simp <;> omega), Below.heap_setCell _ _ _ _ (by simp <;> omega)]; exact hp4
  · rw [Below.heap_setCell _ _ _ _ (by simp <;> omega), Below.heap_setCell _ _ _ _ (by simp <;> omega)]; exact hz
  · rw [Below.heap_setCell _ _ _ _ (by simp)]; exact one_set hq4 _
  · refine one_set (a := .int .i64 0) ?_ _
    rw [Below.heap_setCell _ _ _ _ (by simp)]; exact hr4
theorem work_end {w : World} {P : Nat} {z : Num} {q r : Int} {W : World} {D : Nat} {a : Act} {V : Value} (h : LW w P #[.int .i64 z.re.n, .int .i64 z.re.d, .int .i64 z.im.n, .int .i64 z.im.d] (.int .i64 q) (.int .i64 r) W)
    (hK : W.heap[D]? = some (.deferred (some []))) (hD : w.heap.size ≤ D) (hV : V = .tuple #[.agg #[.int .i64 z.re.n, .int .i64 z.re.d, .int .i64 z.im.n, .int .i64 z.im.d], .int .i64 q, .int .i64 r])
    (h4 : a.tmps[4]? = some (.pointer (some ⟨w.heap.size + 1, 0, none⟩))) (h5 : a.tmps[5]? = some (.pointer (some ⟨w.heap.size + 1 + 1, 0, none⟩))) (h6 : a.tmps[6]? = some (.pointer (some ⟨w.heap.size + 1 + 1 + 1, 0, none⟩))) (hd : a.defers = [{ target := .collected D, args := #[] }]) :
    bodyPostM Fence.wide 5 Tryz.prog Tryz.f56 (fun x w' => x = .returned V ∧ Below w.heap.size w w') .ret a W := by
  obtain ⟨T, ds⟩ := a
  simp only at h4 h5 h6 hd
  subst hd
  refine ⟨by simp, .inl ⟨_, _, rfl, run_takeDeferred hK, ?_⟩⟩
  have hL := h.own (B := w.heap.size) (W' := W.putObj D (.deferred none)) (Nat.le_refl _) (grownBy_putObj' _ D (.deferred none)) (fun k e => by cases e; exact ⟨hD, _, hK, rfl⟩)
  obtain ⟨z0, z1, z2, z3⟩ := four_cells hL.hz
  have q0 := one_cell hL.hq
  have r0 := one_cell hL.hr
  refine ⟨V, ?_, rfl, hL.hb⟩
  rw [hV]
  simp [results, Tryz.f56, go_sem, z0, z1, z2, z3, q0, r0, h4, h5, h6]
/-- The body's world. -/
structure RB (w : World) (P Bx : Nat) (c : Int) (p : Nat) (W W' : World) : Prop where
  lw : LW w P #[.int .i64 0, .int .i64 0, .int .i64 0, .int .i64 0] (.int .i64 0) (.int .i64 0) W'
  hx : W'.heap[Bx]? = some (.cells #[.int .i32 c, .int .i64 p] 185 (0, 0))
  hW : Below W.heap.size W W'
theorem RB.below {w : World} {P Bx : Nat} {c : Int} {p : Nat} {W W' W'' : World} (h : RB w P Bx c p W W') (g : Below W'.heap.size W' W'') : RB w P Bx c p W W'' :=
  ⟨h.lw.below g, (g.block _ (Array.getElem?_eq_some_iff.1 h.hx).1).trans h.hx, h.hW.trans (g.mono h.hW.size)⟩
theorem RB.drew {w : World} {P Bx : Nat} {c : Int} {p : Nat} {W W' : World} (h : RB w P Bx c p W W') : RB w P Bx c p W W'.drew := h.below ((Below.refl _ _).drew)
theorem RB.set4 {w : World} {P Bx : Nat} {c : Int} {p : Nat} {W W' : World} {X : Nat} (h : RB w P Bx c p W W') (h0 : LW w P #[.int .i64 0, .int .i64 0, .int .i64 0, .int .i64 0] (.int .i64 0) (.int .i64 0) W) (hb : W.heap[Bx]? = some (.cells #[.int .i32 c, .int .i64 p] 185 (0, 0))) (hX : W.heap.size ≤ X) (a b d e : Value) : RB w P Bx c p W ((((W'.setCell ⟨X, 0, none⟩ a).setCell ⟨X, 1, none⟩ b).setCell ⟨X, 2, none⟩ d).setCell ⟨X, 3, none⟩ e) := by
  have g := below_four h.hW hX a b d e
  exact ⟨h0.below g, (g.block _ (Array.getElem?_eq_some_iff.1 hb).1).trans hb, g⟩
/-- The world while the answer is written. -/
structure R5 (w : World) (P Bx : Nat) (c : Int) (p : Nat) (W : World) (q r : Int) (W' : World) : Prop where
  lw : LW w P #[.int .i64 0, .int .i64 0, .int .i64 0, .int .i64 0] (.int .i64 q) (.int .i64 r) W'
  hx : W'.heap[Bx]? = some (.cells #[.int .i32 c, .int .i64 p] 185 (0, 0))
  ko : KeepsOthers W W'
theorem KeepsOthers.of_below {W W' : World} (h : Below W.heap.size W W') : KeepsOthers W W' := ⟨h.size, fun k o hk _ => (h.block k (Array.getElem?_eq_some_iff.1 hk).1).trans hk⟩
theorem R5.drew {w : World} {P Bx : Nat} {c : Int} {p : Nat} {W W' : World} {q r : Int} (h : R5 w P Bx c p W q r W') : R5 w P Bx c p W q r W'.drew :=
  ⟨h.lw.below ((Below.refl _ _).drew), h.hx, h.ko.trans (KeepsOthers.of_below ((Below.refl _ _).drew))⟩
/-- A store into one block of cells leaves the others. -/
theorem LW.other {w : World} {P : Nat} {z : Array Value} {q r : Value} {W W' : World} (h : LW w P z q r W) (hb : Below w.heap.size w W') (k : Nat) (hk : ∀ j, j ≠ k → W'.heap[j]? = W.heap[j]?) (hp : k ≠ w.heap.size) {z' : Array Value} {q' r' : Value}
    (hz : if k = w.heap.size + 1 then W'.heap[w.heap.size + 1]? = some (.cells z' 82 (0, 0)) else z' = z) (hq : if k = w.heap.size + 1 + 1 then W'.heap[w.heap.size + 1 + 1]? = some (.cells #[q'] 24 (0, 0)) else q' = q) (hr : if k = w.heap.size + 1 + 1 + 1 then W'.heap[w.heap.size + 1 + 1 + 1]? = some (.cells #[r'] 3 (0, 0)) else r' = r) : LW w P z' q' r' W' := by
  refine ⟨(hk _ (Ne.symm hp)).trans h.hp, ?_, ?_, ?_, hb⟩
  · split at hz
    · exact hz
    · rename_i hn; rw [hz]; exact (hk _ (Ne.symm hn)).trans h.hz
  · split at hq
    · exact hq
    · rename_i hn; rw [hq]; exact (hk _ (Ne.symm hn)).trans h.hq
  · split at hr
    · exact hr
    · rename_i hn; rw [hr]; exact (hk _ (Ne.symm hn)).trans h.hr
theorem R5.bx {w : World} {P Bx : Nat} {c : Int} {p : Nat} {W W' : World} {q r : Int} (h : R5 w P Bx c p W q r W') : Bx ≠ w.heap.size + 1 ∧ Bx ≠ w.heap.size + 1 + 1 ∧ Bx ≠ w.heap.size + 1 + 1 + 1 := by
  refine ⟨fun e => ?_, fun e => ?_, fun e => ?_⟩ <;> subst e
  · have := h.hx.symm.trans h.lw.hz; simp at this
  · have := h.hx.symm.trans h.lw.hq; simp at this
  · have := h.hx.symm.trans h.lw.hr; simp at this
theorem R5.setz {w : World} {P Bx : Nat} {c : Int} {p : Nat} {W W' : World} {q r : Int} (h : R5 w P Bx c p W q r W') : R5 w P Bx c p W q r ((((W'.setCell ⟨w.heap.size + 1, 0, none⟩ (.int .i64 0)).setCell ⟨w.heap.size + 1, 1, none⟩ (.int .i64 0)).setCell ⟨w.heap.size + 1, 2, none⟩ (.int .i64 0)).setCell ⟨w.heap.size + 1, 3, none⟩ (.int .i64 0)) := by
  have o : ∀ k, k ≠ w.heap.size + 1 → ((((W'.setCell ⟨w.heap.size + 1, 0, none⟩ (.int .i64 0)).setCell ⟨w.heap.size + 1, 1, none⟩ (.int .i64 0)).setCell ⟨w.heap.size + 1, 2, none⟩ (.int .i64 0)).setCell ⟨w.heap.size + 1, 3, none⟩ (.int .i64 0)).heap[k]? = W'.heap[k]? := fun k hk => by
    rw [Below.heap_setCell _ _ _ _ hk, Below.heap_setCell _ _ _ _ hk, Below.heap_setCell _ _ _ _ hk, Below.heap_setCell _ _ _ _ hk]
  refine ⟨h.lw.other (below_four h.lw.hb (by omega) _ _ _ _) (w.heap.size + 1) o (by omega) ?_ ?_ ?_, (o _ h.bx.1).trans h.hx, h.ko.trans ((KeepsOthers.setCell _ _ _).trans ((KeepsOthers.setCell _ _ _).trans ((KeepsOthers.setCell _ _ _).trans (KeepsOthers.setCell _ _ _))))⟩
  · rw [if_pos rfl]; exact four_set h.lw.hz _ _ _ _
  · rw [if_neg (by omega)]
  · rw [if_neg (by omega)]
theorem R5.setq {w : World} {P Bx : Nat} {c : Int} {p : Nat} {W W' : World} {q r : Int} (h : R5 w P Bx c p W q r W') : R5 w P Bx c p W 3 r (W'.setCell ⟨w.heap.size + 1 + 1, 0, none⟩ (.int .i64 3)) := by
  refine ⟨h.lw.other (h.lw.hb.setCell (p := ⟨w.heap.size + 1 + 1, 0, none⟩) (by simp <;> omega) _) (w.heap.size + 1 + 1) (fun k hk => Below.heap_setCell _ _ _ _ hk) (by omega) ?_ ?_ ?_, (Below.heap_setCell _ _ _ _ h.bx.2.1).trans h.hx, h.ko.trans (KeepsOthers.setCell _ _ _)⟩
  · rw [if_neg (by omega)]
  · rw [if_pos rfl]; exact one_set h.lw.hq _
  · rw [if_neg (by omega)]
theorem R5.setr {w : World} {P Bx : Nat} {c : Int} {p : Nat} {W W' : World} {q r : Int} (h : R5 w P Bx c p W q r W') : R5 w P Bx c p W q p (W'.setCell ⟨w.heap.size + 1 + 1 + 1, 0, none⟩ (.int .i64 p)) := by
  refine ⟨h.lw.other (h.lw.hb.setCell (p := ⟨w.heap.size + 1 + 1 + 1, 0, none⟩) (by simp <;> omega) _) (w.heap.size + 1 + 1 + 1) (fun k hk => Below.heap_setCell _ _ _ _ hk) (by omega) ?_ ?_ ?_, (Below.heap_setCell _ _ _ _ h.bx.2.2).trans h.hx, h.ko.trans (KeepsOthers.setCell _ _ _)⟩
  · rw [if_neg (by omega)]
  · rw [if_neg (by omega)]
  · rw [if_pos rfl]; exact one_set h.lw.hr _
theorem all_snoc {α : Type} {P : α → Prop} {l : List α} {x : α} (h : ∀ y ∈ l, P y) (hx : P x) : ∀ y ∈ l ++ [x], P y := by
  intro y hy
  rcases List.mem_append.1 hy with hy | hy
  · exact h y hy
  · simp at hy; subst hy; exact hx
/-- What a name's number is; 0 by 0 where there is none. -/
def envN (names : List (Int × Num)) (c : Int) : Num := (envOf names c).getD ⟨⟨0, 0⟩, ⟨0, 0⟩⟩
theorem envV_N (names : List (Int × Num)) (c : Int) : envV names c = .agg #[.int .i64 (envN names c).re.n, .int .i64 (envN names c).re.d, .int .i64 (envN names c).im.n, .int .i64 (envN names c).im.d] := by
  unfold envV envN
  cases envOf names c <;> rfl
theorem val_miss {env : Env} {e : Ex} {p : Nat} (h : missT env e = some p) : valT env e = .err 3 p := by unfold valT; rw [h]
theorem val_none {env : Env} {e : Ex} (h : missT env e = none) : valT env e = evT env e := by unfold valT; rw [h]

set_option maxHeartbeats 4000000 in
set_option maxRecDepth 100000 in
theorem work_any (N : Nat) (aZ aB : Addr) (P m : Nat) (names : List (Int × Num)) (e : Ex) (w : World) (hn : ∀ q ∈ names, q.2.Ok) (he : ExOk e) (hP : Pg N aZ aB P m names w) :
    Calls Tryz.prog 56 #[.pointer (some ⟨P, 0, none⟩), exV e] w fun x w' => x = .returned (ansV (valT (envOf names) e)) ∧ Below w.heap.size w w' := by
  refine (callsIn_wide (n := 5)).1 ?_
  have hdp : Fence.wide.depth = none := rfl
  have hro : Fence.wide.round = none := rfl
  have C1 := names_in Fence.wide 4 trivial hro e
  have CP : Hid (missT (envOf names) e = none → ∀ W, Below w.heap.size w W → Calls Tryz.prog 83 #[.pointer (some ⟨P, 0, none⟩), exV e] W fun x w' => x = .returned (ansV (evT (envOf names) e)) ∧ Below W.heap.size W w') := fun hm W hb => workPart_any N aZ aB P m names hn e he hm W (hP.below hb)
  obtain ⟨L0, L1⟩ := LW.new w P (exV e)
  have hII := hidMk (exV_iface e)
  have CS := hidMk (fun (W : World) (hb : w.heap.size + 1 + 1 + 1 + 1 < W.heap.size) (hc : W.cell? ⟨w.heap.size + 1 + 1 + 1 + 1, 0, none⟩ = some (exV e)) => names_stops Fence.wide hdp 4 trivial trivial hro (w.heap.size + 1 + 1 + 1 + 1) e W hb hc)
  have HPG := hidMk hP
  have HM0 := hidMk (fun h => val_none (env := envOf names) (miss_none (env := envOf names) (e := e) h))
  have HM2 := hidMk (fun h => miss_none (env := envOf names) (e := e) h)
  have HM1 := hidMk (fun q x hq hx hp => val_miss (miss_some (env := envOf names) (e := e) (q := q) (x := x) hq hx hp))
  clear hn he hP
  refine callsIn_of_wp_marks Tryz.func56 rfl trivial ?_ hro
  simp only [Tryz.ntmps56, List.size_toArray, List.length_cons, List.length_nil, Nat.reduceAdd, Nat.reduceSub, Array.replicate_succ, Array.replicate_zero, List.push_toArray, List.append_toArray, List.nil_append, List.cons_append]
  generalize hv : exV e = v at *
  obtain ⟨T, yy, rfl⟩ := hII.out
  gi_wp2_with ((try refine ⟨trivial, ?_⟩); gi_at_call 82; refine (C1 _).mono ?_; rintro e' w' ⟨rfl, rfl⟩)
  have hsz : w.heap.size + 1 + 1 + 1 + 1 < (((((w.alloc (.cells #[.pointer (some ⟨P, 0, none⟩)] 62)).alloc (.cells zer4 82)).alloc (.cells #[.int .i64 0] 24)).alloc (.cells #[.int .i64 0] 3)).alloc (.cells #[.iface T yy] 75)).heap.size := by simp
  have hcs := CS.out _ hsz (one_cell L1)
  unfold zer4 at L0 L1 hcs hsz
  generalize (((((w.alloc _).alloc _).alloc _).alloc _).alloc _) = W0 at *
  have hB0 : w.heap.size ≤ W0.heap.size := by omega
  refine wpIn_rangeFunc_ownH (F := Fence.wide) (n := 5) hro (by decide) (gf := 119) (lb := #[.pointer (some ⟨w.heap.size + 1 + 1 + 1 + 1, 0, none⟩)]) rfl trivial (enters_of Tryz.func119 (by kernel_rfl) rfl)
    hcs KC.trans (fun W l o o' _ ho hc _ => KC.put o' ho hc) (Below.refl _ _) (fun _ => rfl)
    (fun pre W => (∀ y ∈ pre, (envOf names y.1).isSome = true) ∧ LW w P #[.int .i64 0, .int .i64 0, .int .i64 0, .int .i64 0] (.int .i64 0) (.int .i64 0) W)
    (fun c pre W => (c = .ret ∧ ∃ q x, pre = q ++ [x] ∧ (∀ y ∈ q, (envOf names y.1).isSome = true) ∧ (envOf names x.1).isSome = false ∧ LW w P #[.int .i64 0, .int .i64 0, .int .i64 0, .int .i64 0] (.int .i64 3) (.int .i64 x.2) W))
    (fun s A B row hs hg hr => ⟨hs.1, hs.2.own hB0 hg hr⟩)
    (fun c s A B row hs hg hr => by
      obtain ⟨h1, q, x, h2, h3, h4, h5⟩ := hs
      exact ⟨h1, q, x, h2, h3, h4, h5.own hB0 hg hr⟩)
    ⟨fun y hy => by simp at hy, L0⟩
    (fun x a' W => ∃ Bx, W.heap[Bx]? = some (.cells #[.int .i32 x.1, .int .i64 x.2] 185 (0, 0)) ∧ a' = { tmps := #[.pointer (some ⟨P, 0, none⟩), .iface T yy, .pointer (some ⟨w.heap.size, 0, none⟩), undef, .pointer (some ⟨w.heap.size + 1, 0, none⟩), .pointer (some ⟨w.heap.size + 1 + 1, 0, none⟩), .pointer (some ⟨w.heap.size + 1 + 1 + 1, 0, none⟩), .pointer (some ⟨Bx, 0, none⟩), undef, undef, .iface T yy, .func (.func 119) #[] #[.pointer (some ⟨w.heap.size + 1 + 1 + 1 + 1, 0, none⟩)], nmV x, undef, undef, undef, undef, undef, undef, undef, undef, undef, undef, undef, undef, undef, undef, undef, undef, undef, undef, undef, undef, undef], defers := [] })
    (fun x a' s A B row hs hg hr => by
      obtain ⟨Bx, h1, h2⟩ := hs
      exact ⟨Bx, heap_own hg hr h1 rfl, h2⟩) ?assign ?body ?done ?stop
  case assign =>
    rintro l pre x W K hi hK
    gi_wp2
    exact hK _ _ ((KeepsOthers.alloc _ _).from _) (KC.alloc _ _) ⟨hi.1, hi.2.below (fr_below W _)⟩ ⟨W.heap.size, heap_alloc_new W _, rfl⟩
  case body =>
    rintro l pre ⟨c, p⟩ a' W hl hlr ⟨hI1, hI2⟩ ⟨Bx, hBx, rfl⟩ hlen
    have HLK : Hid (∀ W', LW w P #[.int .i64 0, .int .i64 0, .int .i64 0, .int .i64 0] (.int .i64 0) (.int .i64 0) W' → (Instr.lookup 64 (.map (some m)) (.int .i32 c) true).run Tryz.prog W' = .ok (.tuple #[.agg #[.int .i64 (envN names c).re.n, .int .i64 (envN names c).re.d, .int .i64 (envN names c).im.n, .int .i64 (envN names c).im.d], .bool (envOf names c).isSome]) W') := fun W' hW' => by
      have := (HPG.out.below hW'.hb).look c true
      rw [this, envV_N]
      rfl
    have HPC : Hid (∀ W', LW w P #[.int .i64 0, .int .i64 0, .int .i64 0, .int .i64 0] (.int .i64 0) (.int .i64 0) W' → W'.cell? ⟨P, 0, none⟩ = some (.map (some m))) := fun W' hW' => (HPG.out.below hW'.hb).hp
    have HR0 : Hid (RB w P Bx c p W W) := ⟨hI2, hBx, Below.refl _ _⟩
    have HI1 := hidMk hI1
    have HI2 := hidMk hI2
    have HBX := hidMk hBx
    have hHS : ∃ hs, (envOf names c).isSome = hs := ⟨_, rfl⟩
    obtain ⟨hs, hhs⟩ := hHS
    have HHS := hidMk hhs
    rw [hhs] at HLK
    generalize envN names c = y at *
    clear hhs hI1 hI2 hBx CP C1 CS HM0 HM1 HM2 L0 L1 hcs HPG hlr hl hlen
    gi_upto_region 3 with fail
    refine region_invIn (nt := 34) _
      (fun j v => match j with
        | 0 => v = .pointer (some ⟨P, 0, none⟩)
        | 1 => v = .pointer (some ⟨P, 0, none⟩)
        | 2 => v = .pointer (some ⟨P, 0, none⟩)
        | 3 => v = .map (some m)
        | 4 => v = .pointer (some ⟨Bx, 0, none⟩)
        | 5 => v = .int .i32 c
        | 6 => v = .tuple #[.agg #[.int .i64 y.re.n, .int .i64 y.re.d, .int .i64 y.im.n, .int .i64 y.im.d], .bool hs]
        | 7 => v = .tuple #[.agg #[.int .i64 y.re.n, .int .i64 y.re.d, .int .i64 y.im.n, .int .i64 y.im.d], .bool hs]
        | 8 => v = .agg #[.int .i64 y.re.n, .int .i64 y.re.d, .int .i64 y.im.n, .int .i64 y.im.d]
        | 9 => v = .bool hs
        | 12 => v = .bool hs
        | _ => True)
      (fun b u w' => Hid (RB w P Bx c p W w' ∧ (b 11 = true → b 10 = true) ∧ (b 10 = true → ∃ X, u 8 = .pointer (some ⟨X, 0, none⟩) ∧ W.heap.size ≤ X ∧ w'.heap[X]? = some (.cells (if b 11 = true then #[.int .i64 y.re.n, .int .i64 y.re.d, .int .i64 y.im.n, .int .i64 y.im.d] else #[.int .i64 0, .int .i64 0, .int .i64 0, .int .i64 0]) 82 (0, 0)))))
      (act_of rfl rfl) (by kernel_rfl) (by kernel_rfl) (by kernel_rfl) ⟨HR0.out.drew, fun h => h, fun h => by cases h⟩ ?_ ?_
    · intro i o b u w' ho hbi hall hU hW K hK
      have hA : actOf 34 u = ⟨#[u 0, u 1, u 2, u 3, u 4, u 5, u 6, u 7, u 8, u 9, u 10, u 11, u 12, u 13, u 14, u 15, u 16, u 17, u 18, u 19, u 20, u 21, u 22, u 23, u 24, u 25, u 26, u 27, u 28, u 29, u 30, u 31, u 32, u 33], []⟩ := rfl
      rw [hA] at hK ⊢
      have c2 : u 2 = .pointer (some ⟨w.heap.size, 0, none⟩) := hU.oldB 2 (by kernel_rfl)
      have c7 : u 7 = .pointer (some ⟨Bx, 0, none⟩) := hU.oldB 7 (by kernel_rfl)
      have got := hU.got
      have HW := hW
      have HKK := hidMk hK
      clear hU hA hK hW
      have p0 := one_cell HW.out.1.lw.hp
      have n0 := HPC.out _ HW.out.1.lw
      obtain ⟨x0, x1, _, _⟩ := two_cells HW.out.1.hx
      rcases i with _ | _ | _ | _ | _ | _ | _ | _ | _ | _ | _ | _ | _ | i
      · cases ho
        go_simp
        exact HKK.out _ _ _ (by rw [c2, c7]; rfl) (fun _ => rfl) ⟨HW.out.1, HW.out.2.1, HW.out.2.2⟩
      · cases ho
        have g14 : u 14 = .pointer (some ⟨P, 0, none⟩) := got 0 14 rfl (hall ⟨0, .data⟩ (by simp) rfl)
        go_simp
        exact HKK.out _ _ _ (by rw [c2, c7, g14]; rfl) (fun _ => rfl) ⟨HW.out.1, HW.out.2.1, HW.out.2.2⟩
      · cases ho
        have g15 : u 15 = .pointer (some ⟨P, 0, none⟩) := got 1 15 rfl (hall ⟨1, .data⟩ (by simp) rfl)
        go_simp
        exact HKK.out _ _ _ (by rw [c2, c7, g15]; rfl) (fun _ => rfl) ⟨HW.out.1, HW.out.2.1, HW.out.2.2⟩
      · cases ho
        have g16 : u 16 = .pointer (some ⟨P, 0, none⟩) := got 2 16 rfl (hall ⟨2, .data⟩ (by simp) rfl)
        go_simp
        exact HKK.out _ _ _ (by rw [c2, c7, g16]; rfl) (fun _ => rfl) ⟨HW.out.1, HW.out.2.1, HW.out.2.2⟩
      · cases ho
        go_simp
        exact HKK.out _ _ _ (by rw [c2, c7]; rfl) (fun _ => rfl) ⟨HW.out.1, HW.out.2.1, HW.out.2.2⟩
      · cases ho
        have g18 : u 18 = .pointer (some ⟨Bx, 0, none⟩) := got 4 18 rfl (hall ⟨4, .data⟩ (by simp) rfl)
        go_simp
        exact HKK.out _ _ _ (by rw [c2, c7, g18]; rfl) (fun _ => rfl) ⟨HW.out.1, HW.out.2.1, HW.out.2.2⟩
      · cases ho
        have g17 : u 17 = .map (some m) := got 3 17 rfl (hall ⟨3, .data⟩ (by simp) rfl)
        have g19 : u 19 = .int .i32 c := got 5 19 rfl (hall ⟨5, .data⟩ (by simp) rfl)
        have lk := HLK.out _ HW.out.1.lw
        go_simp
        exact HKK.out _ _ _ (by rw [c2, c7, g17, g19]; rfl) (fun _ => rfl) ⟨HW.out.1, HW.out.2.1, HW.out.2.2⟩
      · cases ho
        have g20 : u 20 = .tuple #[.agg #[.int .i64 y.re.n, .int .i64 y.re.d, .int .i64 y.im.n, .int .i64 y.im.d], .bool hs] := got 6 20 rfl (hall ⟨6, .data⟩ (by simp) rfl)
        go_simp
        exact HKK.out _ _ _ (by rw [c2, c7, g20]; rfl) (fun _ => rfl) ⟨HW.out.1, HW.out.2.1, HW.out.2.2⟩
      · cases ho
        have g13 : u 13 = .tuple #[.agg #[.int .i64 y.re.n, .int .i64 y.re.d, .int .i64 y.im.n, .int .i64 y.im.d], .bool hs] := got 7 13 rfl (hall ⟨7, .data⟩ (by simp) rfl)
        go_simp
        exact HKK.out _ _ _ (by rw [c2, c7, g13]; rfl) (fun _ => rfl) ⟨HW.out.1, HW.out.2.1, HW.out.2.2⟩
      · cases ho
        have g13 : u 13 = .tuple #[.agg #[.int .i64 y.re.n, .int .i64 y.re.d, .int .i64 y.im.n, .int .i64 y.im.d], .bool hs] := got 7 13 rfl (hall ⟨7, .data⟩ (by simp) rfl)
        go_simp
        exact HKK.out _ _ _ (by rw [c2, c7, g13]; rfl) (fun _ => rfl) ⟨HW.out.1, HW.out.2.1, HW.out.2.2⟩
      · cases ho
        have ns : b 11 = false := by
          cases h : b 11 with
          | false => rfl
          | true => rw [HW.out.2.1 h] at hbi; cases hbi
        have NS := hidMk ns
        clear ns
        go_simp
        refine HKK.out _ _ _ (by rw [c2, c7]; rfl) (fun _ => trivial) ⟨HW.out.1.below (fr_below w' _), fun _ => rfl, fun _ => ⟨w'.heap.size, rfl, HW.out.1.hW.size, ?_⟩⟩
        have e : (if upB b 10 11 = true then (#[.int .i64 y.re.n, .int .i64 y.re.d, .int .i64 y.im.n, .int .i64 y.im.d] : Array Value) else #[.int .i64 0, .int .i64 0, .int .i64 0, .int .i64 0]) = #[.int .i64 0, .int .i64 0, .int .i64 0, .int .i64 0] := by simp [upB, NS.out]
        rw [e]
        exact heap_alloc_new w' _
      · cases ho
        have g21 : u 21 = .agg #[.int .i64 y.re.n, .int .i64 y.re.d, .int .i64 y.im.n, .int .i64 y.im.d] := got 8 21 rfl (hall ⟨8, .data⟩ (by simp) rfl)
        obtain ⟨X, q1, q2, q3⟩ := HW.out.2.2 (hall ⟨10, .data⟩ (by simp) rfl)
        rw [if_neg (by rw [hbi]; decide)] at q3
        obtain ⟨s0, s1, s2, s3⟩ := four_cells q3
        obtain ⟨f0, f1, f2, f3⟩ := four_frozen q3
        have Q3 := hidMk q3
        have YA : Hid (b 10 = true) := hall ⟨10, .data⟩ (by simp) rfl
        clear q3
        go_simp
        refine HKK.out undef _ _ (by rw [c2, c7, g21, q1]; rfl) (fun h => by cases h) ⟨HW.out.1.set4 HI2.out HBX.out q2 _ _ _ _, fun _ => YA.out, fun _ => ⟨X, q1, q2, ?_⟩⟩
        exact four_set Q3.out _ _ _ _
      · cases ho
        have g22 : u 22 = .bool hs := got 9 22 rfl (hall ⟨9, .data⟩ (by simp) rfl)
        go_simp
        exact HKK.out _ _ _ (by rw [c2, c7, g22]; rfl) (fun _ => rfl) ⟨HW.out.1, HW.out.2.1, HW.out.2.2⟩
      · simp at ho
    · intro b u w' hall hU hW
      obtain ⟨X, q1, q2, q3⟩ := hW.out.2.2 (hall 10 (by decide))
      have e9' : u 9 = .bool hs := hU.got 12 9 rfl (hall 12 (by decide))
      have hA : actOf 34 u = ⟨#[u 0, u 1, u 2, u 3, u 4, u 5, u 6, u 7, u 8, u 9, u 10, u 11, u 12, u 13, u 14, u 15, u 16, u 17, u 18, u 19, u 20, u 21, u 22, u 23, u 24, u 25, u 26, u 27, u 28, u 29, u 30, u 31, u 32, u 33], []⟩ := rfl
      have e0 : u 0 = .pointer (some ⟨P, 0, none⟩) := hU.oldB 0 (by kernel_rfl)
      have e1 : u 1 = .iface T yy := hU.oldB 1 (by kernel_rfl)
      have e2 : u 2 = .pointer (some ⟨w.heap.size, 0, none⟩) := hU.oldB 2 (by kernel_rfl)
      have e3 : u 3 = undef := hU.oldB 3 (by kernel_rfl)
      have e4 : u 4 = .pointer (some ⟨w.heap.size + 1, 0, none⟩) := hU.oldB 4 (by kernel_rfl)
      have e5 : u 5 = .pointer (some ⟨w.heap.size + 1 + 1, 0, none⟩) := hU.oldB 5 (by kernel_rfl)
      have e6 : u 6 = .pointer (some ⟨w.heap.size + 1 + 1 + 1, 0, none⟩) := hU.oldB 6 (by kernel_rfl)
      have e7 : u 7 = .pointer (some ⟨Bx, 0, none⟩) := hU.oldB 7 (by kernel_rfl)
      have e10 : u 10 = .iface T yy := hU.oldB 10 (by kernel_rfl)
      have e11 : u 11 = .func (.func 119) #[] #[.pointer (some ⟨w.heap.size + 1 + 1 + 1 + 1, 0, none⟩)] := hU.oldB 11 (by kernel_rfl)
      have e12 : u 12 = .agg #[.int .i32 c, .int .i64 p] := hU.oldB 12 (by kernel_rfl)
      have e23 : u 23 = undef := hU.oldB 23 (by kernel_rfl)
      have e24 : u 24 = undef := hU.oldB 24 (by kernel_rfl)
      have e25 : u 25 = undef := hU.oldB 25 (by kernel_rfl)
      have e26 : u 26 = undef := hU.oldB 26 (by kernel_rfl)
      have e27 : u 27 = undef := hU.oldB 27 (by kernel_rfl)
      have e28 : u 28 = undef := hU.oldB 28 (by kernel_rfl)
      have e29 : u 29 = undef := hU.oldB 29 (by kernel_rfl)
      have e30 : u 30 = undef := hU.oldB 30 (by kernel_rfl)
      have e31 : u 31 = undef := hU.oldB 31 (by kernel_rfl)
      have e32 : u 32 = undef := hU.oldB 32 (by kernel_rfl)
      have e33 : u 33 = undef := hU.oldB 33 (by kernel_rfl)
      rw [hA, e0, e1, e2, e3, e4, e5, e6, e7, e10, e11, e12, e23, e24, e25, e26, e27, e28, e29, e30, e31, e32, e33]
      clear hA e0 e1 e2 e3 e4 e5 e6 e7 e10 e11 e12 e23 e24 e25 e26 e27 e28 e29 e30 e31 e32 e33
      rw [q1, e9']
      have HT := hidMk hW.out.1
      clear hU hW hall q1 q2 q3 e9'
      cases hs with
      | true =>
        gi_wp2
        refine ⟨((KeepsOthers.of_below HT.out.hW).from _), KC.below HT.out.hW, ?_, HT.out.lw⟩
        have h3 := all_snoc (x := (c, p)) HI1.out HHS.out
        simpa using h3
      | false =>
        have H5 : Hid (R5 w P Bx c p W 0 0 w') := ⟨HT.out.lw, HT.out.hx, KeepsOthers.of_below HT.out.hW⟩
        gi_upto_region 5 with fail
        refine region_invIn (nt := 34) _
          (fun j v => match j with
            | 0 => v = .agg #[.int .i64 0, .int .i64 0, .int .i64 0, .int .i64 0]
            | 1 => v = .pointer (some ⟨Bx, 1, none⟩)
            | 2 => v = .int .i64 p
            | _ => True)
          (fun b u w' => Hid (R5 w P Bx c p W (if b 4 = true then 3 else 0) (if b 5 = true then p else 0) w'))
          (act_of rfl rfl) (by kernel_rfl) (by kernel_rfl) (by kernel_rfl) H5.out.drew ?_ ?_
        · intro i o b u w' ho hbi hall hU hW K hK
          have hA : actOf 34 u = ⟨#[u 0, u 1, u 2, u 3, u 4, u 5, u 6, u 7, u 8, u 9, u 10, u 11, u 12, u 13, u 14, u 15, u 16, u 17, u 18, u 19, u 20, u 21, u 22, u 23, u 24, u 25, u 26, u 27, u 28, u 29, u 30, u 31, u 32, u 33], []⟩ := rfl
          rw [hA] at hK ⊢
          have c4 : u 4 = .pointer (some ⟨w.heap.size + 1, 0, none⟩) := hU.oldB 4 (by kernel_rfl)
          have c5 : u 5 = .pointer (some ⟨w.heap.size + 1 + 1, 0, none⟩) := hU.oldB 5 (by kernel_rfl)
          have c6 : u 6 = .pointer (some ⟨w.heap.size + 1 + 1 + 1, 0, none⟩) := hU.oldB 6 (by kernel_rfl)
          have c7 : u 7 = .pointer (some ⟨Bx, 0, none⟩) := hU.oldB 7 (by kernel_rfl)
          have got := hU.got
          have HW := hW
          have HKK := hidMk hK
          clear hU hA hK hW
          obtain ⟨x0, x1, _, _⟩ := two_cells HW.out.hx
          rcases i with _ | _ | _ | _ | _ | _ | i
          · cases ho
            go_simp
            exact HKK.out _ _ _ (by rw [c4, c5, c6, c7]; rfl) (fun _ => rfl) HW.out
          · cases ho
            go_simp
            exact HKK.out _ _ _ (by rw [c4, c5, c6, c7]; rfl) (fun _ => rfl) HW.out
          · cases ho
            have g26 : u 26 = .pointer (some ⟨Bx, 1, none⟩) := got 1 26 rfl (hall ⟨1, .data⟩ (by simp) rfl)
            go_simp
            exact HKK.out _ _ _ (by rw [c4, c5, c6, c7, g26]; rfl) (fun _ => rfl) HW.out
          · cases ho
            have g25 : u 25 = .agg #[.int .i64 0, .int .i64 0, .int .i64 0, .int .i64 0] := got 0 25 rfl (hall ⟨0, .data⟩ (by simp) rfl)
            obtain ⟨s0, s1, s2, s3⟩ := four_cells HW.out.lw.hz
            obtain ⟨f0, f1, f2, f3⟩ := four_frozen HW.out.lw.hz
            go_simp
            exact HKK.out undef _ _ (by rw [c4, c5, c6, c7, g25]; rfl) (fun h => by cases h) HW.out.setz
          · cases ho
            have s0 := one_cell HW.out.lw.hq
            have f0 := one_frozen HW.out.lw.hq
            have HB5 : Hid ((if upB b 4 5 = true then (p : Int) else 0) = if b 5 = true then (p : Int) else 0) := by show _ = _; simp [upB]
            go_simp
            refine HKK.out undef _ _ (by rw [c4, c5, c6, c7]; rfl) (fun h => by cases h) ?_
            show R5 w P Bx c p W 3 (if upB b 4 5 = true then (p : Int) else 0) _
            rw [HB5.out]
            exact HW.out.setq
          · cases ho
            have g27 : u 27 = .int .i64 p := got 2 27 rfl (hall ⟨2, .data⟩ (by simp) rfl)
            have s0 := one_cell HW.out.lw.hr
            have f0 := one_frozen HW.out.lw.hr
            have HB4 : Hid ((if upB b 5 4 = true then (3 : Int) else 0) = if b 4 = true then (3 : Int) else 0) := by show _ = _; simp [upB]
            go_simp
            refine HKK.out undef _ _ (by rw [c4, c5, c6, c7, g27]; rfl) (fun h => by cases h) ?_
            show R5 w P Bx c p W (if upB b 5 4 = true then (3 : Int) else 0) (p : Int) _
            rw [HB4.out]
            exact HW.out.setr
          · simp at ho
        · intro b u w' hall hU hW
          have h5 := hW.out
          rw [if_pos (hall 4 (by decide)), if_pos (hall 5 (by decide))] at h5
          have H6 := hidMk h5
          clear h5 hU hW hall
          gi_wp2
          refine ⟨H6.out.ko.from _, ?_⟩
          have h7 : ∃ q x, pre ++ [(c, p)] = q ++ [x] ∧ (∀ y ∈ q, (envOf names y.1).isSome = true) ∧ (envOf names x.1).isSome = false ∧ LW w P #[.int .i64 0, .int .i64 0, .int .i64 0, .int .i64 0] (.int .i64 3) (.int .i64 x.2) w' := ⟨pre, (c, p), rfl, HI1.out, HHS.out, H6.out.lw⟩
          simpa using h7
  case done =>
    rintro D ys W hD rfl ⟨h1, hL⟩ hK
    have CP1 := CP.out (HM2.out h1)
    have hv0 := HM0.out h1
    obtain ⟨z, q, r, hz⟩ := ans_parts (evT (envOf names) e)
    have HVV : Hid (ansV (valT (envOf names) e) = .tuple #[.agg #[.int .i64 z.re.n, .int .i64 z.re.d, .int .i64 z.im.n, .int .i64 z.im.d], .int .i64 q, .int .i64 r]) := by
      show _ = _
      rw [hv0]
      exact hz
    have CP2 : ∀ W, Below w.heap.size w W → Calls Tryz.prog 83 #[.pointer (some ⟨P, 0, none⟩), .iface T yy] W fun x w' => x = .returned (.tuple #[.agg #[.int .i64 z.re.n, .int .i64 z.re.d, .int .i64 z.im.n, .int .i64 z.im.d], .int .i64 q, .int .i64 r]) ∧ Below W.heap.size W w' := fun W hb => by
      have := CP1 W hb
      rw [hz] at this
      exact this
    have HL := hidMk hL
    have HKD := hidMk hK
    have HD := hidMk hD
    have c0 := one_cell hL.hp
    have HC := hidMk (CP2 W hL.hb)
    clear hL hK hD CP CP1 CP2 C1 CS hz hv0 h1 HM0 HM1 HM2 L0 L1 hcs
    gi_wp2_with ((try refine ⟨trivial, ?_⟩); gi_at_call 83; refine (callsIn_wide.2 HC.out).mono ?_; rintro e' w1 ⟨rfl, hb1⟩; have h2 := HL.out.below hb1; have hk2 := (hb1.block D (Array.getElem?_eq_some_iff.1 HKD.out).1).trans HKD.out; obtain ⟨z0, z1, z2, z3⟩ := four_cells h2.hz; obtain ⟨f0, f1, f2, f3⟩ := four_frozen h2.hz; have q0 := one_cell h2.hq; have r0 := one_cell h2.hr; have q1 := one_frozen h2.hq; have r1 := one_frozen h2.hr; have H2 := hidMk h2; have HK2 := hidMk hk2; clear h2 hk2 hb1)
    refine work_end (w := w) (z := z) (q := q) (r := r) (LW.set H2.out _ _ _) ?_ (by have := HD.out; omega) HVV.out rfl rfl rfl rfl
    have hk5 := HK2.out
    have h5 := H2.out
    refine ((KeepsOthers.setCell _ _ _).trans ((KeepsOthers.setCell _ _ _).trans ((KeepsOthers.setCell _ _ _).trans ((KeepsOthers.setCell _ _ _).trans ((KeepsOthers.setCell _ _ _).trans (KeepsOthers.setCell _ _ _)))))).same D _ hk5 rfl
  case stop =>
    rintro D c pre W hD hpre ⟨rfl, q, x, rfl, h2, h3, hL⟩ hK
    have hv0 := HM1.out q x h2 h3 hpre
    have HVV : Hid (ansV (valT (envOf names) e) = .tuple #[.agg #[.int .i64 0, .int .i64 0, .int .i64 0, .int .i64 0], .int .i64 3, .int .i64 x.2]) := by
      show _ = _
      rw [hv0]
      rfl
    clear hv0 h2 h3 hpre CP C1 CS HM0 HM1 HM2 L0 L1 hcs
    gi_wp2
    exact work_end (w := w) (z := ⟨⟨0, 0⟩, ⟨0, 0⟩⟩) (q := 3) (r := x.2) hL hK (by omega) HVV.out rfl rfl rfl rfl
end Go.Proofs.YtodabmkcihafhaaGreatDoor

/- The numbers under which this program holds the library's lock, and that it holds it. -/
namespace Go.Proofs.YtodabmkcihafhaaGreatDoor
abbrev muLink : Go.Conc.Locks.MuLink := { lock := 38, unlock := 39, ilock := 66, iunlock := 67, lockSlow := 99, unlockSlow := 102, disable := 95, enable := 97, acquire := 98, relMerge := 100, cas32 := 96, add32 := 101, tMutex := 71, tIMutex := 69, tPMutex := 147, tPIMutex := 208, tPI32 := 210, tUP := 212, tNoCopy := 66, tU32 := 67 }
theorem muLib : Go.Conc.Locks.MuLib Tryz.prog muLink :=
  ⟨Tryz.func38, Tryz.func39, Tryz.func66, Tryz.func67, Tryz.func95, Tryz.func97, Tryz.func98, Tryz.func100, Tryz.func96, Tryz.func101,
   Tryz.underlying69, Tryz.runUnderlying69, Tryz.sizeOf69, Tryz.isAgg69, Tryz.zeroValue69,
   Tryz.underlying71, Tryz.runUnderlying71, Tryz.sizeOf71, Tryz.isAgg71, Tryz.zeroValue71,
   Tryz.underlying147, Tryz.runUnderlying147, Tryz.sizeOf147, Tryz.isAgg147, Tryz.zeroValue147,
   Tryz.underlying208, Tryz.runUnderlying208, Tryz.sizeOf208, Tryz.isAgg208, Tryz.zeroValue208,
   Tryz.underlying210, Tryz.runUnderlying210, Tryz.sizeOf210, Tryz.isAgg210, Tryz.zeroValue210,
   Tryz.underlying212, Tryz.runUnderlying212, Tryz.sizeOf212, Tryz.isAgg212, Tryz.zeroValue212,
   Tryz.underlying66, Tryz.runUnderlying66, Tryz.sizeOf66, Tryz.isAgg66, Tryz.zeroValue66,
   Tryz.underlying21, Tryz.runUnderlying21, Tryz.sizeOf21, Tryz.isAgg21, Tryz.zeroValue21, (by kernel_rfl)⟩
end Go.Proofs.YtodabmkcihafhaaGreatDoor

/- The library's strings.Clone, laid over this program. -/
namespace Go.Proofs.YtodabmkcihafhaaGreatDoor
open Go.Shelf Go.RowKit

def ren25 : Go.Shelf.Ren := ⟨fun | 25 => 84 | n => n, fun | 0 => 0 | 3 => 3 | 4 => 4 | 5 => 5 | 9 => 9 | 37 => 95 | 47 => 195 | n => n, fun n => n⟩
theorem lays25 : Go.Proofs.LaysPu.n25 Tryz.prog ren25 := {
  mixed := by kernel_rfl
  f25 := Tryz.func84.trans (congrArg some (by kernel_rfl))
  t0 := Tryz.underlying0
  a0 := Tryz.isAgg0
  z0 := Tryz.sizeOf0
  v0 := Tryz.zeroValue0
  i0 := by kernel_rfl
  t3 := Tryz.underlying3
  a3 := Tryz.isAgg3
  z3 := Tryz.sizeOf3
  v3 := Tryz.zeroValue3
  i3 := by kernel_rfl
  t4 := Tryz.underlying4
  a4 := Tryz.isAgg4
  z4 := Tryz.sizeOf4
  v4 := Tryz.zeroValue4
  i4 := by kernel_rfl
  t5 := Tryz.underlying5
  a5 := Tryz.isAgg5
  z5 := Tryz.sizeOf5
  v5 := Tryz.zeroValue5
  i5 := by kernel_rfl
  t9 := Tryz.underlying9
  a9 := Tryz.isAgg9
  z9 := Tryz.sizeOf9
  v9 := Tryz.zeroValue9
  i9 := by kernel_rfl
  t37 := Tryz.underlying95
  a37 := Tryz.isAgg95
  z37 := Tryz.sizeOf95
  v37 := Tryz.zeroValue95
  i37 := by kernel_rfl
  t47 := Tryz.underlying195
  a47 := Tryz.isAgg195
  z47 := Tryz.sizeOf195
  v47 := Tryz.zeroValue195
  i47 := by kernel_rfl }
theorem lite_clone (s : ByteArray) (w : World) (hs : s.size ≤ 281474976710656) : Calls Tryz.prog 84 #[.string s] w fun e w' => e = .returned (.string s) ∧ Below w.heap.size w w' := AnyPu.stringslite_Clone lays25 s w hs
theorem clone_any (s : ByteArray) (w : World) (hs : s.size ≤ 281474976710656) : Calls Tryz.prog 58 #[.string s] w fun e w' => e = .returned (.string s) ∧ Below w.heap.size w w' := by
  have c := lite_clone s w hs
  go_enter Tryz.func58, Tryz.ntmps58
  go_wp2_with (go_at_call 84; refine c.mono ?_; rintro e w1 ⟨rfl, hb⟩)
  go_ret
  exact ⟨rfl, hb⟩
end Go.Proofs.YtodabmkcihafhaaGreatDoor

/- Plain: the one form of a tree, as signs and as bytes. -/
namespace Go.Proofs.YtodabmkcihafhaaGreatDoor
set_option linter.unusedVariables false

def opE : Ex → Int
  | .num _ _ => 48
  | .leaf c _ => c
  | .un c _ _ => c
  | .bin c _ _ _ => c
/-- The one form of a tree. -/
def fmE : Ex → ByteArray
  | .num l _ => encAll l
  | .leaf c _ => Utf8.encode c
  | .un c _ e => if c = 110 then Utf8.encode 8722 ++ brk (rankP (opE e)) 2 (fmE e) else brk (rankP (opE e)) 3 (fmE e) ++ Utf8.encode c
  | .bin c _ l r => if c = 43 ∨ c = 8722 then brk (rankP (opE l)) 0 (fmE l) ++ Utf8.encode c ++ brk (rankP (opE r)) 1 (fmE r) else brk (rankP (opE l)) 1 (fmE l) ++ Utf8.encode c ++ brk (rankP (opE r)) 2 (fmE r)
def brkL (r least : Nat) (l : List Int) : List Int := if r < least then 40 :: (l ++ [41]) else l
/-- Its signs. -/
def sgE : Ex → List Int
  | .num l _ => l
  | .leaf c _ => [c]
  | .un c _ e => if c = 110 then 8722 :: brkL (rankP (opE e)) 2 (sgE e) else brkL (rankP (opE e)) 3 (sgE e) ++ [c]
  | .bin c _ l r => if c = 43 ∨ c = 8722 then brkL (rankP (opE l)) 0 (sgE l) ++ c :: brkL (rankP (opE r)) 1 (sgE r) else brkL (rankP (opE l)) 1 (sgE l) ++ c :: brkL (rankP (opE r)) 2 (sgE r)
def Ex.plain : Ex → Ex
  | .num l _ => .num l 0
  | .leaf c _ => .leaf c 0
  | .un c _ e => .un c 0 e.plain
  | .bin c _ l r => .bin c 0 l.plain r.plain

theorem un_cases {c : Int} (h : isUn c = true) : c = 110 ∨ c = 178 ∨ c = 8242 := by
  unfold isUn at h
  simp at h
  omega
theorem bin_cases {c : Int} (h : isBin c = true) : c = 43 ∨ c = 8722 ∨ c = 215 ∨ c = 247 := by
  unfold isBin at h
  simp at h
  omega
theorem leaf_cases {c : Int} (h : c = 105 ∨ isNm c = true) : c = 105 ∨ (945 ≤ c ∧ c ≤ 969) := by
  unfold isNm at h
  simp at h
  exact h
theorem enc_brk (r least : Nat) (l : List Int) : encAll (brkL r least l) = brk r least (encAll l) := by
  unfold brkL brk
  split
  · rw [encAll_cons, encAll_append]
    have e1 : Utf8.encode 40 = ⟨#[40]⟩ := brO
    have e2 : encAll [41] = ⟨#[41]⟩ := by
      rw [encAll_cons]
      have : Utf8.encode 41 = ⟨#[41]⟩ := brC
      rw [this]
      rfl
    rw [e1, e2, ByteArray.append_assoc]
  · rfl
theorem enc_one' (c : Int) : encAll [c] = Utf8.encode c := by
  rw [encAll_cons]
  show Utf8.encode c ++ ByteArray.empty = _
  simp
theorem fmE_enc : ∀ e : Ex, fmE e = encAll (sgE e) := by
  intro e
  induction e with
  | num l p => rfl
  | leaf c p => exact (enc_one' c).symm
  | un c p e ih =>
    simp only [fmE, sgE]
    split
    · rw [encAll_cons, enc_brk, ih]
    · rw [encAll_append, enc_brk, ih, enc_one']
  | bin c p l r ihl ihr =>
    simp only [fmE, sgE]
    split
    · rw [encAll_append, encAll_cons, enc_brk, enc_brk, ihl, ihr, ByteArray.append_assoc]
    · rw [encAll_append, encAll_cons, enc_brk, enc_brk, ihl, ihr, ByteArray.append_assoc]
theorem opE_plain : ∀ e : Ex, opE e.plain = opE e := by intro e; cases e <;> rfl
theorem fmE_plain : ∀ e : Ex, fmE e.plain = fmE e := by
  intro e
  induction e with
  | num l p => rfl
  | leaf c p => rfl
  | un c p e ih => simp only [Ex.plain, fmE, ih, opE_plain]
  | bin c p l r ihl ihr => simp only [Ex.plain, fmE, ihl, ihr, opE_plain]
theorem fmE_same {a b : Ex} (h : a.plain = b.plain) : fmE a = fmE b := by rw [← fmE_plain a, ← fmE_plain b, h]
theorem shift_plain (k : Nat) : ∀ e : Ex, (e.shift k).plain = e.plain := by
  intro e
  induction e with
  | num l p => rfl
  | leaf c p => rfl
  | un c p e ih => simp only [Ex.shift, Ex.plain, ih]
  | bin c p l r ihl ihr => simp only [Ex.shift, Ex.plain, ihl, ihr]

/-! ### What is a sign of a form -/
def isSg (c : Int) : Bool := isDig c || isFrac c || c == 105 || isNm c || c == 40 || c == 41 || isBin c || isMk c
theorem isSg_known {c : Int} (h : isSg c = true) : ∃ n : Nat, c = n ∧ known n = true ∧ n ≠ 32 := by
  unfold isSg isDig isFrac isNm isBin isMk at h
  simp at h
  have h0 : 0 ≤ c := by omega
  refine ⟨c.toNat, by omega, ?_, by omega⟩
  unfold known
  simp
  omega
theorem nume_sg {l : List Int} (h : NumeOk l) : ∀ c ∈ l, isSg c = true := by
  have f : ∀ c, isFrac c = true → isSg c = true := fun c h => by unfold isSg; simp [h]
  have d : ∀ c, isDig c = true → isSg c = true := fun c h => by unfold isSg; simp [h]
  rcases h with ⟨c, rfl, hc⟩ | ⟨c, ds, fr, rfl, h1, h2, h3, h4, h5⟩
  · intro x hx
    simp at hx
    subst hx
    exact f _ hc
  · intro x hx
    simp at hx
    rcases hx with rfl | hx | hx
    · exact d _ h1
    · exact d _ (h4 _ hx)
    · rcases h5 with rfl | ⟨y, rfl, hy⟩
      · simp at hx
      · simp at hx; subst hx; exact f _ hy
theorem brk_sg {r least : Nat} {l : List Int} (h : ∀ c ∈ l, isSg c = true) : ∀ c ∈ brkL r least l, isSg c = true := by
  unfold brkL
  split
  · intro c hc
    simp at hc
    rcases hc with rfl | hc | rfl
    · decide
    · exact h c hc
    · decide
  · exact h
theorem sg_all : ∀ e : Ex, ExOk e → ∀ c ∈ sgE e, isSg c = true := by
  intro e
  induction e with
  | num l p => intro h; exact nume_sg h
  | leaf c p =>
    intro h x hx
    have hc := leaf_cases h
    simp [sgE] at hx
    subst hx
    unfold isSg isNm
    simp
    omega
  | un c p e ih =>
    intro h
    have hc := un_cases h.1
    have i := ih h.2
    simp only [sgE]
    split
    · intro x hx
      simp at hx
      rcases hx with rfl | hx
      · decide
      · exact brk_sg i x hx
    · rename_i hn
      intro x hx
      simp at hx
      rcases hx with hx | rfl
      · exact brk_sg i x hx
      · rcases hc with hc | hc | hc
        · exact absurd hc hn
        · subst hc; decide
        · subst hc; decide
  | bin c p l r ihl ihr =>
    intro h
    have hs : isSg c = true := by unfold isSg; simp [h.1]
    have il := ihl h.2.1
    have ir := ihr h.2.2
    simp only [sgE]
    split <;>
    · intro x hx
      simp at hx
      rcases hx with hx | rfl | hx
      · exact brk_sg il x hx
      · exact hs
      · exact brk_sg ir x hx

/-! ### The signs of a written text -/
/-- Signs of a text without blanks, wherever they stand. -/
def Tk (l : List Int) (U : List Tok) : Prop := U.map (fun t => (t.c, t.a)) = l.map (fun c => (c, false))
theorem Tk.nil : Tk [] [] := rfl
theorem Tk.cons {c : Int} {p : Nat} {l : List Int} {U : List Tok} (h : Tk l U) : Tk (c :: l) (⟨c, p, false⟩ :: U) := by
  unfold Tk at *
  simp [h]
theorem Tk.cons_inv {c : Int} {l : List Int} {U : List Tok} (h : Tk (c :: l) U) : ∃ p V, U = ⟨c, p, false⟩ :: V ∧ Tk l V := by
  unfold Tk at h
  cases U with
  | nil => simp at h
  | cons t V =>
    simp at h
    obtain ⟨⟨h1, h2⟩, h3⟩ := h
    refine ⟨t.p, V, ?_, by unfold Tk; simpa using h3⟩
    cases t
    simp_all
theorem Tk.append_inv {l m : List Int} {U : List Tok} (h : Tk (l ++ m) U) : ∃ V W, U = V ++ W ∧ Tk l V ∧ Tk m W := by
  unfold Tk at h
  rw [List.map_append] at h
  obtain ⟨V, W, h1, h2, h3⟩ := List.map_eq_append_iff.1 h
  exact ⟨V, W, h1, h2, h3⟩
theorem toks_written : ∀ (l : List Int) (S : ByteArray) (i : Nat), (∀ c ∈ l, isSg c = true) → Sits S i (encAll l) → ∃ U, Tk l U ∧ toks S i false = U ++ toks S (i + (encAll l).size) false := by
  intro l
  induction l with
  | nil => intro S i _ _; exact ⟨[], Tk.nil, rfl⟩
  | cons c l ih =>
    intro S i hl hs
    obtain ⟨n, rfl, hk, hn⟩ := isSg_known (hl c (by simp))
    rw [encAll_cons] at hs ⊢
    obtain ⟨U, h1, h2⟩ := ih S (i + (Utf8.encode (n : Int)).size) (fun c hc => hl c (by simp [hc])) hs.right
    refine ⟨⟨n, i, false⟩ :: U, h1.cons, ?_⟩
    rw [toks_sits hk hn hs.left false, h2, ByteArray.size_append, Nat.add_assoc]
    rfl
end Go.Proofs.YtodabmkcihafhaaGreatDoor

/- Plain: what the program has of a list of nodes, and the list's form: both by the tree. -/
namespace Go.Proofs.YtodabmkcihafhaaGreatDoor
set_option linter.unusedVariables false

theorem opAt_last (L : List Nd) (n : Nd) : opAt (L ++ [n]) L.length = n.op := by
  unfold opAt
  simp

structure Flat (L : List Nd) (k : Nat) (e : Ex) : Prop where
  wf : WfL L
  lt : k < L.length
  dn : den L k = exV e
  fm : fm L k = fmE e
  op : opAt L k = opE e
theorem flat_of : ∀ (e : Ex) (L : List Nd), ExOk e → WfL L → Flat (L ++ e.flat L.length) (L.length + e.size - 1) e := by
  intro e
  induction e with
  | num l p =>
    intro L h hw
    have wn : WfN L.length (nNd l p) := wf_leaf (by decide) (by decide) rfl rfl
    show Flat (L ++ [nNd l p]) (L.length + 1 - 1) (.num l p)
    rw [Nat.add_sub_cancel]
    refine ⟨hw.snoc wn, by simp, ?_, ?_, opAt_last _ _⟩
    · rw [den_last _ _ hw wn]; rfl
    · rw [fm_last _ _ hw wn]; rfl
  | leaf c p =>
    intro L h hw
    have hc := leaf_cases h
    have n1 : isBin c = false := by unfold isBin; simp; omega
    have n2 : isUn c = false := by unfold isUn; simp; omega
    have wn : WfN L.length (opNd c 0 0 p) := wf_leaf (by omega) (by omega) n1 n2
    show Flat (L ++ [opNd c 0 0 p]) (L.length + 1 - 1) (.leaf c p)
    rw [Nat.add_sub_cancel]
    refine ⟨hw.snoc wn, by simp, ?_, ?_, opAt_last _ _⟩
    · rw [den_last _ _ hw wn]
      unfold nodeD
      show (if c = 43 ∨ c = 8722 then _ else if c = 215 ∨ c = 247 then _ else if c = 110 then _ else if c = 178 ∨ c = 8242 then _ else if c = 48 then _ else if c = 105 then _ else _) = _
      rw [if_neg (by omega), if_neg (by omega), if_neg (by omega), if_neg (by omega), if_neg (by omega)]
      rfl
    · rw [fm_last _ _ hw wn]
      unfold nodeF
      show (if c = 43 ∨ c = 8722 then _ else if c = 215 ∨ c = 247 then _ else if c = 110 then _ else if c = 178 ∨ c = 8242 then _ else if c = 48 then _ else _) = _
      rw [if_neg (by omega), if_neg (by omega), if_neg (by omega), if_neg (by omega), if_neg (by omega)]
      rfl
  | un c p e ih =>
    intro L h hw
    obtain ⟨h1, h2⟩ := h
    have i := ih L h2 hw
    have hc := un_cases h1
    have e1 : L ++ (Ex.un c p e).flat L.length = (L ++ e.flat L.length) ++ [opNd c (L.length + e.size - 1) 0 p] := by simp [Ex.flat]
    have e2 : L.length + (Ex.un c p e).size - 1 = (L ++ e.flat L.length).length := by simp [Ex.size, Ex.flat_length]
    rw [e1, e2]
    have n1 : isBin c = false := by unfold isBin; simp; omega
    have wn : WfN (L ++ e.flat L.length).length (opNd c (L.length + e.size - 1) 0 p) := wf_un (by omega) (by omega) n1 i.lt
    refine ⟨i.wf.snoc wn, by simp, ?_, ?_, opAt_last _ _⟩
    · rw [den_last _ _ i.wf wn]
      show nodeD (opNd c _ 0 p) (den _ (L.length + e.size - 1)) (den _ 0) = _
      rw [i.dn]
      rcases hc with rfl | rfl | rfl <;> rfl
    · rw [fm_last _ _ i.wf wn]
      show nodeF (opNd c _ 0 p) (rankP (opAt _ (L.length + e.size - 1))) _ (Go.Proofs.YtodabmkcihafhaaGreatDoor.fm _ (L.length + e.size - 1)) _ = _
      rw [i.fm, i.op]
      rcases hc with rfl | rfl | rfl <;> rfl
  | bin c p l r ihl ihr =>
    intro L h hw
    obtain ⟨h1, h2, h3⟩ := h
    have il := ihl L h2 hw
    have ir := ihr (L ++ l.flat L.length) h3 il.wf
    have e0 : (L ++ l.flat L.length).length = L.length + l.size := by simp [Ex.flat_length]
    rw [e0] at ir
    have hc := bin_cases h1
    have e1 : L ++ (Ex.bin c p l r).flat L.length = (L ++ l.flat L.length ++ r.flat (L.length + l.size)) ++ [opNd c (L.length + l.size - 1) (L.length + l.size + r.size - 1) p] := by simp [Ex.flat]
    have e2 : L.length + (Ex.bin c p l r).size - 1 = (L ++ l.flat L.length ++ r.flat (L.length + l.size)).length := by simp [Ex.size, Ex.flat_length] <;> omega
    rw [e1, e2]
    have lt1 : L.length + l.size - 1 < (L ++ l.flat L.length ++ r.flat (L.length + l.size)).length := by
      have := il.lt
      rw [List.length_append]
      omega
    have wn : WfN (L ++ l.flat L.length ++ r.flat (L.length + l.size)).length (opNd c (L.length + l.size - 1) (L.length + l.size + r.size - 1) p) := wf_bin (by omega) (by omega) lt1 ir.lt
    refine ⟨ir.wf.snoc wn, by simp, ?_, ?_, opAt_last _ _⟩
    · rw [den_last _ _ ir.wf wn]
      show nodeD (opNd c _ _ p) (den _ (L.length + l.size - 1)) (den _ (L.length + l.size + r.size - 1)) = _
      rw [ir.dn, den_append _ _ _ il.wf il.lt, il.dn]
      rcases hc with rfl | rfl | rfl | rfl <;> rfl
    · rw [fm_last _ _ ir.wf wn]
      show nodeF (opNd c _ _ p) (rankP (opAt _ (L.length + l.size - 1))) (rankP (opAt _ (L.length + l.size + r.size - 1))) (Go.Proofs.YtodabmkcihafhaaGreatDoor.fm _ (L.length + l.size - 1)) (Go.Proofs.YtodabmkcihafhaaGreatDoor.fm _ (L.length + l.size + r.size - 1)) = _
      rw [ir.fm, fm_append _ _ _ il.wf il.lt, il.fm, ir.op, opAt_append _ _ _ il.lt, il.op]
      rcases hc with rfl | rfl | rfl | rfl <;> rfl
/-- Of a text that is an expression: what the program reads, and its form. -/
theorem top_flat (s : ByteArray) (hg : good s = true) : den (top s).L (top s).k = exV (treeT s) ∧ fm (top s).L (top s).k = fmE (treeT s) := by
  obtain ⟨h1, h2, h3, _⟩ := top_tree s hg
  have f := flat_of (treeT s) [] h3 (fun k n h => by simp at h)
  simp only [List.nil_append, List.length_nil, Nat.zero_add] at f
  have hk : (top s).k = (treeT s).size - 1 := by omega
  rw [h1, hk]
  exact ⟨f.dn, f.fm⟩
end Go.Proofs.YtodabmkcihafhaaGreatDoor

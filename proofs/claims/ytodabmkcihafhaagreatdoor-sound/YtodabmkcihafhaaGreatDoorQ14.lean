import Derived.RangeFuncNested
import Derived.RangeFuncBound
import Derived.RangeFuncCalls
import Derived.RangeFuncLeaves
import Derived.Shelf.Abstract
import Derived.Shelf.RegionOpen
import Derived.WalkKit
import Derived.OwnWalkIn
import Derived.TacticsInMore
import Derived.LoopNIn
import Derived.LoopIn
import Derived.OrdersIn
import Derived.Test.YtodabmkcihafhaaGreatDoorQ13
import Derived.Test.YtodabmkcihafhaaGreatDoorQ5

/- The program's names of an expression: eachName, an iterator. -/
namespace Go.Proofs.YtodabmkcihafhaaGreatDoor
open Go.RowKit Go.Shelf
attribute [local go_sem] Oper.semAt_some
set_option linter.unusedVariables false

theorem room_none {F : Fence} (hd : F.depth = none) (k : Nat) : F.room k := fun d h => by rw [hd] at h; cases h
theorem round_any {F : Fence} (hd : F.depth = none) {m m' : Nat} {P : Program} {l : Nat} {f : FuncId} {tmps : Array Value} {assign body : Code} {w : World} {R : Ending → World → Prop}
    (h : RoundIn F m P l f tmps assign body w R) : RoundIn F m' P l f tmps assign body w R := ⟨h.1, fun c cs _ => h.2 c cs (room_none hd _)⟩
theorem yield_any {F : Fence} (hd : F.depth = none) {m : Nat} (m' : Nat) {P : Program} {l : Nat} {args : Array Value} {W : World} {R : Ending → World → Prop} (h : YieldAt F m P l args W R) : YieldAt F m' P l args W R := by
  obtain ⟨fn, tmps, assign, body, hy, hR⟩ := h
  exact ⟨fn, tmps, assign, body, hy, round_any hd hR⟩

/-- The names of an expression, in their order, with their places. -/
def nmL : Ex → List (Int × Nat)
  | .num _ _ => []
  | .leaf c p => if c = 105 then [] else [(c, p)]
  | .un _ _ e => nmL e
  | .bin _ _ l r => nmL l ++ nmL r
/-- Cells lie as they lay. -/
structure KC (W W' : World) : Prop where
  size : W.heap.size ≤ W'.heap.size
  same : ∀ (k : Nat) (o : Obj), W.heap[k]? = some o → o.isCells = true → W'.heap[k]? = some o
theorem KC.refl (W : World) : KC W W := ⟨Nat.le_refl _, fun _ _ h _ => h⟩
theorem KC.trans {A B C : World} (h : KC A B) (k : KC B C) : KC A C := ⟨Nat.le_trans h.size k.size, fun i o hi ho => k.same i o (h.same i o hi ho) ho⟩
theorem KC.alloc (W : World) (o : Obj) : KC W (W.alloc o) := ⟨by simp, fun k o' hk _ => (Below.heap_alloc W o k (Array.getElem?_eq_some_iff.1 hk).1).trans hk⟩
theorem KC.below {W W' : World} (h : Below W.heap.size W W') : KC W W' := ⟨h.size, fun k o hk _ => (h.block k (Array.getElem?_eq_some_iff.1 hk).1).trans hk⟩
theorem KC.put {W : World} {l : Nat} {o : Obj} (o' : Obj) (hl : W.heap[l]? = some o) (ho : o.isCells = false) : KC W (W.putObj l o') := by
  refine ⟨by simp, fun k o2 hk hc => ?_⟩
  have : l ≠ k := by
    intro e
    subst e
    rw [hl] at hk
    injection hk with hk
    subst hk
    rw [ho] at hc
    cases hc
  rw [World.putObj_heap_other (Ne.symm this)]
  exact hk
abbrev nmV (x : Int × Nat) : Value := .agg #[.int .i32 x.1, .int .i64 x.2]

/-- What is asked of a round. -/
def Rnd1 (F : Fence) (l N : Nat) (J Jx : List (Int × Nat) → World → Prop) : Prop := ∀ m pre x W, J pre W → pre.length < N → YieldAt F m Tryz.prog l #[nmV x] W fun e W' =>
  (e = .returned (.bool true) ∧ J (pre ++ [x]) W' ∧ KC W W') ∨ (e = .returned (.bool false) ∧ Jx (pre ++ [x]) W')
def Each (F : Fence) (l N : Nat) (J Jx : List (Int × Nat) → World → Prop) (e : Ex) : Prop := ∀ (n : Nat) (pre : List (Int × Nat)) (W : World), J pre W → pre.length + (nmL e).length ≤ N →
  CallsIn F n Tryz.prog 120 #[exV e, .func (.yield l) #[] #[]] W fun x W' =>
    (x = .returned (.bool true) ∧ J (pre ++ nmL e) W' ∧ KC W W') ∨ (x = .returned (.bool false) ∧ ∃ q, q <+: nmL e ∧ Jx (pre ++ q) W')

theorem J_alloc {B : Nat} {J : List (Int × Nat) → World → Prop} (hJ : AbidesFrom B J) {s : List (Int × Nat)} {W : World} (h : J s W) (o : Obj) : J s (W.alloc o) :=
  hJ s W _ none h (World.grownBy_alloc W o none) (fun r e => by cases e)

set_option maxRecDepth 100000 in
set_option maxHeartbeats 2000000 in
theorem each_num (F : Fence) (hf : F.fn 120) (hro : F.round = none) (l N : Nat) (J Jx : List (Int × Nat) → World → Prop) (ls : List Int) (p : Nat) : Each F l N J Jx (.num ls p) := by
  intro n pre W hJ hN
  have e1 : exV (.num ls p) = .iface 178 (.agg #[.string (encAll ls)]) := rfl
  rw [e1]
  have t1 := taNumeralName
  have t2 := taNumeralMarked
  have t3 := taNumeralNegated
  have t4 := taNumeralProduct
  have t5 := taNumeralSum
  clear e1
  refine callsIn_of_wp Tryz.func120 rfl hf ?_ hro
  simp only [Tryz.ntmps120, List.size_toArray, List.length_cons, List.length_nil, Nat.reduceAdd, Nat.reduceSub, Array.replicate_succ, Array.replicate_zero, List.push_toArray, List.append_toArray, List.nil_append, List.cons_append]
  gi_wp2
  go_ret
  exact .inl ⟨rfl, by simpa [nmL] using hJ, KC.refl _⟩
set_option maxRecDepth 100000 in
set_option maxHeartbeats 2000000 in
theorem each_unit (F : Fence) (hf : F.fn 120) (hro : F.round = none) (l N : Nat) (J Jx : List (Int × Nat) → World → Prop) (p : Nat) : Each F l N J Jx (.leaf 105 p) := by
  intro n pre W hJ hN
  have e1 : exV (.leaf 105 p) = .iface 183 (.agg #[]) := rfl
  rw [e1]
  have t1 := taUnitName
  have t2 := taUnitMarked
  have t3 := taUnitNegated
  have t4 := taUnitProduct
  have t5 := taUnitSum
  clear e1
  refine callsIn_of_wp Tryz.func120 rfl hf ?_ hro
  simp only [Tryz.ntmps120, List.size_toArray, List.length_cons, List.length_nil, Nat.reduceAdd, Nat.reduceSub, Array.replicate_succ, Array.replicate_zero, List.push_toArray, List.append_toArray, List.nil_append, List.cons_append]
  gi_wp2
  go_ret
  exact .inl ⟨rfl, by simpa [nmL] using hJ, KC.refl _⟩

set_option maxRecDepth 100000 in
set_option maxHeartbeats 2000000 in
theorem each_name (F : Fence) (hd : F.depth = none) (hf : F.fn 120) (hro : F.round = none) (l N B : Nat) (J Jx : List (Int × Nat) → World → Prop) (hA : AbidesFrom B J) (hY : Rnd1 F l N J Jx) (c : Int) (p : Nat) (hc : c ≠ 105) : Each F l N J Jx (.leaf c p) := by
  intro n pre W hJ hN
  have e1 : exV (.leaf c p) = .iface 185 (.agg #[.int .i32 c, .int .i64 p]) := by simp only [exV]; rw [if_neg hc]
  have e2 : nmL (.leaf c p) = [(c, p)] := by simp only [nmL]; rw [if_neg hc]
  rw [e2] at hN ⊢
  rw [e1]
  simp only [List.length_cons, List.length_nil] at hN
  have hdd : ∀ k : Nat, (F.depth.isSome = true → 1 ≤ k) := fun k h => by rw [hd] at h; cases h
  have t1 := taNameName
  have hJ1 := J_alloc hA hJ (.cells #[.int .i32 c, .int .i64 p] 185)
  have hk1 := KC.alloc W (.cells #[.int .i32 c, .int .i64 p] 185)
  obtain ⟨fn, tmps, assign, body, hy, hR⟩ := hY (n - 1) pre (c, p) _ hJ1 (by omega)
  clear e1 e2 hJ hJ1 hY hA
  refine callsIn_of_wp Tryz.func120 rfl hf ?_ hro
  simp only [Tryz.ntmps120, List.size_toArray, List.length_cons, List.length_nil, Nat.reduceAdd, Nat.reduceSub, Array.replicate_succ, Array.replicate_zero, List.push_toArray, List.append_toArray, List.nil_append, List.cons_append]
  gi_wp2_with (first
      | ((try refine ⟨hdd _, ?_⟩); refine hR.mono ?_; clear hR; rintro e W2 (⟨rfl, hJ2, hk2⟩ | ⟨rfl, hx2⟩)))
  · go_ret
    exact .inl ⟨rfl, hJ2, hk1.trans hk2⟩
  · go_ret
    exact .inr ⟨rfl, [(c, p)], List.prefix_rfl, hx2⟩

set_option maxRecDepth 100000 in
set_option maxHeartbeats 2000000 in
theorem each_neg (F : Fence) (hd : F.depth = none) (hf : F.fn 120) (hro : F.round = none) (l N B : Nat) (J Jx : List (Int × Nat) → World → Prop) (hA : AbidesFrom B J) (c : Int) (p : Nat) (e : Ex) (hc : c = 110) (ih : Each F l N J Jx e) : Each F l N J Jx (.un c p e) := by
  intro n pre W hJ hN
  have e1 : exV (.un c p e) = .iface 191 (.agg #[exV e]) := by simp only [exV]; rw [if_pos hc]
  have e2 : nmL (.un c p e) = nmL e := rfl
  rw [e2] at hN ⊢
  rw [e1]
  have hdd : ∀ k : Nat, (F.depth.isSome = true → 1 ≤ k) := fun k h => by rw [hd] at h; cases h
  have t0 := taNegatedName
  have t1 := taNegatedMarked
  have t2 := taNegatedNegated
  have hJ1 := J_alloc hA hJ (.cells #[exV e] 191)
  have hk1 := KC.alloc W (.cells #[exV e] 191)
  have ih1 := ih (n - 1) pre _ hJ1 hN
  have hII := hidMk (exV_iface e)
  generalize exV e = vl at *
  clear e1 e2 hJ hJ1 hA ih hc hN
  obtain ⟨T, yy, rfl⟩ := hII.out
  refine callsIn_of_wp Tryz.func120 rfl hf ?_ hro
  simp only [Tryz.ntmps120, List.size_toArray, List.length_cons, List.length_nil, Nat.reduceAdd, Nat.reduceSub, Array.replicate_succ, Array.replicate_zero, List.push_toArray, List.append_toArray, List.nil_append, List.cons_append]
  gi_wp2_with (first
      | ((try refine ⟨hdd _, ?_⟩); gi_at_call 120; refine ih1.mono ?_; clear ih1; rintro e W1 (⟨rfl, hJ1, hk2⟩ | ⟨rfl, q, hq, hx1⟩)))
  · go_ret
    exact .inl ⟨rfl, hJ1, hk1.trans hk2⟩
  · go_ret
    exact .inr ⟨rfl, q, hq, hx1⟩

set_option maxRecDepth 100000 in
set_option maxHeartbeats 2000000 in
theorem each_mark (F : Fence) (hd : F.depth = none) (hf : F.fn 120) (hro : F.round = none) (l N B : Nat) (J Jx : List (Int × Nat) → World → Prop) (hA : AbidesFrom B J) (c : Int) (p : Nat) (e : Ex) (hc : c ≠ 110) (ih : Each F l N J Jx e) : Each F l N J Jx (.un c p e) := by
  intro n pre W hJ hN
  have e1 : exV (.un c p e) = .iface 187 (.agg #[exV e, .int .i32 c, .int .i64 p]) := by simp only [exV]; rw [if_neg hc]
  have e2 : nmL (.un c p e) = nmL e := rfl
  rw [e2] at hN ⊢
  rw [e1]
  have hdd : ∀ k : Nat, (F.depth.isSome = true → 1 ≤ k) := fun k h => by rw [hd] at h; cases h
  have t0 := taMarkedName
  have t1 := taMarkedMarked
  have hJ1 := J_alloc hA hJ (.cells #[exV e, .int .i32 c, .int .i64 p] 187)
  have hk1 := KC.alloc W (.cells #[exV e, .int .i32 c, .int .i64 p] 187)
  have ih1 := ih (n - 1) pre _ hJ1 hN
  have hII := hidMk (exV_iface e)
  generalize exV e = vl at *
  clear e1 e2 hJ hJ1 hA ih hc hN
  obtain ⟨T, yy, rfl⟩ := hII.out
  refine callsIn_of_wp Tryz.func120 rfl hf ?_ hro
  simp only [Tryz.ntmps120, List.size_toArray, List.length_cons, List.length_nil, Nat.reduceAdd, Nat.reduceSub, Array.replicate_succ, Array.replicate_zero, List.push_toArray, List.append_toArray, List.nil_append, List.cons_append]
  gi_wp2_with (first
      | ((try refine ⟨hdd _, ?_⟩); gi_at_call 120; refine ih1.mono ?_; clear ih1; rintro e W1 (⟨rfl, hJ1, hk2⟩ | ⟨rfl, q, hq, hx1⟩)))
  · go_ret
    exact .inl ⟨rfl, hJ1, hk1.trans hk2⟩
  · go_ret
    exact .inr ⟨rfl, q, hq, hx1⟩

set_option maxRecDepth 100000 in
set_option maxHeartbeats 4000000 in
theorem each_prod (F : Fence) (hd : F.depth = none) (hf : F.fn 120) (hro : F.round = none) (l N B : Nat) (J Jx : List (Int × Nat) → World → Prop) (hA : AbidesFrom B J) (c : Int) (p : Nat) (a b : Ex) (hc : ¬ (c = 43 ∨ c = 8722)) (ia : Each F l N J Jx a) (ib : Each F l N J Jx b) : Each F l N J Jx (.bin c p a b) := by
  intro n pre W hJ hN
  have e1 : exV (.bin c p a b) = .iface 193 (.agg #[exV a, .int .i32 c, .int .i64 p, exV b]) := by simp only [exV]; rw [if_neg hc]
  have e2 : nmL (.bin c p a b) = nmL a ++ nmL b := rfl
  rw [e2] at hN ⊢
  rw [e1]
  simp only [List.length_append] at hN
  have hdd : ∀ k : Nat, (F.depth.isSome = true → 1 ≤ k) := fun k h => by rw [hd] at h; cases h
  have t0 := taProductName
  have t1 := taProductMarked
  have t2 := taProductNegated
  have t3 := taProductProduct
  have hJ1 := J_alloc hA hJ (.cells #[exV a, .int .i32 c, .int .i64 p, exV b] 193)
  have hk1 := KC.alloc W (.cells #[exV a, .int .i32 c, .int .i64 p, exV b] 193)
  have hbx := heap_alloc_new W (.cells #[exV a, .int .i32 c, .int .i64 p, exV b] 193)
  have ih1 := (ia (n - 1) pre _ hJ1 (by omega)).mono (R' := fun x W1 =>
      (x = .returned (.bool true) ∧ J (pre ++ nmL a) W1 ∧ KC W W1 ∧ W1.cell? ⟨W.heap.size, 3, none⟩ = some (exV b)) ∨ (x = .returned (.bool false) ∧ ∃ q, q <+: nmL a ∧ Jx (pre ++ q) W1))
    (fun x W1 h => h.elim (fun ⟨he, hj, hk2⟩ => .inl ⟨he, hj, hk1.trans hk2, (four_cells' (hk2.same _ _ hbx rfl)).2.2.2⟩) .inr)
  have ih2 : ∀ W1, J (pre ++ nmL a) W1 → CallsIn F (n - 1) Tryz.prog 120 #[exV b, .func (.yield l) #[] #[]] W1 fun x W' =>
      (x = .returned (.bool true) ∧ J (pre ++ nmL a ++ nmL b) W' ∧ KC W1 W') ∨ (x = .returned (.bool false) ∧ ∃ q, q <+: nmL b ∧ Jx (pre ++ nmL a ++ q) W') := fun W1 hj => ib (n - 1) _ W1 hj (by simp; omega)
  have IH2 := hidMk ih2
  have hII := hidMk (exV_iface a)
  have hIJ := hidMk (exV_iface b)
  clear ih2 hJ1 hbx hk1
  generalize exV a = va at *
  generalize exV b = vb at *
  generalize nmL a = na at *
  generalize nmL b = nb at *
  clear e1 e2 hJ hA ia ib hc hN
  obtain ⟨T, yy, rfl⟩ := hII.out
  obtain ⟨T2, yy2, rfl⟩ := hIJ.out
  refine callsIn_of_wp Tryz.func120 rfl hf ?_ hro
  simp only [Tryz.ntmps120, List.size_toArray, List.length_cons, List.length_nil, Nat.reduceAdd, Nat.reduceSub, Array.replicate_succ, Array.replicate_zero, List.push_toArray, List.append_toArray, List.nil_append, List.cons_append]
  gi_wp2_with (first
      | ((try refine ⟨hdd _, ?_⟩); gi_at_call 120; refine ih1.mono ?_; clear ih1; rintro e W1 (⟨rfl, hJ2, hk2, c3⟩ | ⟨rfl, q, hq, hx1⟩))
      | ((try refine ⟨hdd _, ?_⟩); gi_at_call 120; refine (IH2.out _ hJ2).mono ?_; clear IH2; rintro e W3 (⟨rfl, hJ3, hk3⟩ | ⟨rfl, q, hq, hx3⟩)))
  · go_ret
    exact .inl ⟨rfl, by simpa [List.append_assoc] using hJ3, hk2.trans hk3⟩
  · go_ret
    obtain ⟨r, hr'⟩ := hq
    exact .inr ⟨rfl, na ++ q, ⟨r, by simp [← hr']⟩, by simpa [List.append_assoc] using hx3⟩
  · go_ret
    exact .inr ⟨rfl, q, hq.trans (List.prefix_append _ _), hx1⟩

set_option maxRecDepth 100000 in
set_option maxHeartbeats 4000000 in
theorem each_sum (F : Fence) (hd : F.depth = none) (hf : F.fn 120) (hro : F.round = none) (l N B : Nat) (J Jx : List (Int × Nat) → World → Prop) (hA : AbidesFrom B J) (c : Int) (p : Nat) (a b : Ex) (hc : c = 43 ∨ c = 8722) (ia : Each F l N J Jx a) (ib : Each F l N J Jx b) : Each F l N J Jx (.bin c p a b) := by
  intro n pre W hJ hN
  have e1 : exV (.bin c p a b) = .iface 194 (.agg #[exV a, .int .i32 c, .int .i64 p, exV b]) := by simp only [exV]; rw [if_pos hc]
  have e2 : nmL (.bin c p a b) = nmL a ++ nmL b := rfl
  rw [e2] at hN ⊢
  rw [e1]
  simp only [List.length_append] at hN
  have hdd : ∀ k : Nat, (F.depth.isSome = true → 1 ≤ k) := fun k h => by rw [hd] at h; cases h
  have t0 := taSumName
  have t1 := taSumMarked
  have t2 := taSumNegated
  have t3 := taSumProduct
  have t4 := taSumSum
  have hJ1 := J_alloc hA hJ (.cells #[exV a, .int .i32 c, .int .i64 p, exV b] 194)
  have hk1 := KC.alloc W (.cells #[exV a, .int .i32 c, .int .i64 p, exV b] 194)
  have hbx := heap_alloc_new W (.cells #[exV a, .int .i32 c, .int .i64 p, exV b] 194)
  have ih1 := (ia (n - 1) pre _ hJ1 (by omega)).mono (R' := fun x W1 =>
      (x = .returned (.bool true) ∧ J (pre ++ nmL a) W1 ∧ KC W W1 ∧ W1.cell? ⟨W.heap.size, 3, none⟩ = some (exV b)) ∨ (x = .returned (.bool false) ∧ ∃ q, q <+: nmL a ∧ Jx (pre ++ q) W1))
    (fun x W1 h => h.elim (fun ⟨he, hj, hk2⟩ => .inl ⟨he, hj, hk1.trans hk2, (four_cells' (hk2.same _ _ hbx rfl)).2.2.2⟩) .inr)
  have ih2 : ∀ W1, J (pre ++ nmL a) W1 → CallsIn F (n - 1) Tryz.prog 120 #[exV b, .func (.yield l) #[] #[]] W1 fun x W' =>
      (x = .returned (.bool true) ∧ J (pre ++ nmL a ++ nmL b) W' ∧ KC W1 W') ∨ (x = .returned (.bool false) ∧ ∃ q, q <+: nmL b ∧ Jx (pre ++ nmL a ++ q) W') := fun W1 hj => ib (n - 1) _ W1 hj (by simp; omega)
  have IH2 := hidMk ih2
  have hII := hidMk (exV_iface a)
  have hIJ := hidMk (exV_iface b)
  clear ih2 hJ1 hbx hk1
  generalize exV a = va at *
  generalize exV b = vb at *
  generalize nmL a = na at *
  generalize nmL b = nb at *
  clear e1 e2 hJ hA ia ib hc hN
  obtain ⟨T, yy, rfl⟩ := hII.out
  obtain ⟨T2, yy2, rfl⟩ := hIJ.out
  refine callsIn_of_wp Tryz.func120 rfl hf ?_ hro
  simp only [Tryz.ntmps120, List.size_toArray, List.length_cons, List.length_nil, Nat.reduceAdd, Nat.reduceSub, Array.replicate_succ, Array.replicate_zero, List.push_toArray, List.append_toArray, List.nil_append, List.cons_append]
  gi_wp2_with (first
      | ((try refine ⟨hdd _, ?_⟩); gi_at_call 120; refine ih1.mono ?_; clear ih1; rintro e W1 (⟨rfl, hJ2, hk2, c3⟩ | ⟨rfl, q, hq, hx1⟩))
      | ((try refine ⟨hdd _, ?_⟩); gi_at_call 120; refine (IH2.out _ hJ2).mono ?_; clear IH2; rintro e W3 (⟨rfl, hJ3, hk3⟩ | ⟨rfl, q, hq, hx3⟩)))
  · go_ret
    exact .inl ⟨rfl, by simpa [List.append_assoc] using hJ3, hk2.trans hk3⟩
  · go_ret
    obtain ⟨r, hr'⟩ := hq
    exact .inr ⟨rfl, na ++ q, ⟨r, by simp [← hr']⟩, by simpa [List.append_assoc] using hx3⟩
  · go_ret
    exact .inr ⟨rfl, q, hq.trans (List.prefix_append _ _), hx1⟩

theorem each_any (F : Fence) (hd : F.depth = none) (hf : F.fn 120) (hro : F.round = none) (l N B : Nat) (J Jx : List (Int × Nat) → World → Prop) (hA : AbidesFrom B J) (hY : Rnd1 F l N J Jx) : ∀ e, Each F l N J Jx e := by
  intro e
  induction e with
  | num ls p => exact each_num F hf hro l N J Jx ls p
  | leaf c p =>
    by_cases hc : c = 105
    · subst hc
      exact each_unit F hf hro l N J Jx p
    · exact each_name F hd hf hro l N B J Jx hA hY c p hc
  | un c p e ih =>
    by_cases hc : c = 110
    · exact each_neg F hd hf hro l N B J Jx hA c p e hc ih
    · exact each_mark F hd hf hro l N B J Jx hA c p e hc ih
  | bin c p a b ia ib =>
    by_cases hc : c = 43 ∨ c = 8722
    · exact each_sum F hd hf hro l N B J Jx hA c p a b hc ia ib
    · exact each_prod F hd hf hro l N B J Jx hA c p a b hc ia ib
end Go.Proofs.YtodabmkcihafhaaGreatDoor

/- A region that draws its order, by what holds between two operations, within a fence. -/
namespace Go.Proofs.YtodabmkcihafhaaGreatDoor
open Go.RowKit
set_option linter.unusedVariables false

section
variable {F : Fence} {n : Nat} {P : Program} {md : Region.Mode} {ops : Array Oper} {Q : Exit → Act → World → Prop}

/-- What holds between two operations, in whatever order they come up. -/
theorem wpAnyIn_inv {I : Array Bool → Act → World → Prop}
    (hstep : ∀ l a w i o, I l a w → ops[i]? = some o → l.getD i true = false → (∀ e ∈ o.after, Region.binds md e = true → l.getD e.on false = true) →
      ∀ K : Act → World → Prop, (∀ a' w', I (l.setIfInBounds i true) a' w' → K a' w') → if Region.wanted o (yielded ops a.tmps) = true then Oper.wpIn F n P o a w K Q else (∀ f, o.about P w a.eval = some f → F.fn f) ∧ K (a.put o.dst undef) w)
    (hend : ∀ l a w, I l a w → Region.ready md ops l = [] → Q .normal a w) :
    ∀ (fuel : Nat) (l : Array Bool) (a : Act) (w : World), I l a w → l.toList.count false ≤ fuel → wpAnyIn F n P md ops Q fuel l a w := by
  intro fuel
  induction fuel with
  | zero =>
    intro l a w hI hc
    have hr : Region.ready md ops l = [] := by
      rw [List.eq_nil_iff_forall_not_mem]
      intro i hi
      have := inv_count (mem_ready.1 hi).1
      omega
    exact ⟨hr, hend l a w hI hr⟩
  | succ fuel ih =>
    intro l a w hI hc
    refine ⟨fun h0 => hend l a w hI h0, fun i hi => ?_⟩
    obtain ⟨h0, o, ho, hall⟩ := mem_ready.1 hi
    refine wpOpIn_step ho (fun K hK => hstep l a w i o hI ho h0 hall K (fun a' w' h' => hK a' w' (ih _ a' w' h' ?_)))
    have := inv_count h0
    omega


/-- A region that draws its order: R: what each operation yields; WI: the world, by what has come up and what the slots hold. -/
theorem region_invIn {id nt : Nat} {a0 : Act} {w : World} (u0 : Nat → Value) (R : Nat → Value → Prop) (WI : (Nat → Bool) → (Nat → Value) → World → Prop) (ha : a0 = actOf nt u0) (hm : P.follows .mixedOrders = true) (hback : backB ops = true) (hslots : slotsB ops nt = true) (h0 : WI (fun _ => false) u0 { w with drawn := w.drawn + 1 })
    (hstep : ∀ (i : Nat) (o : Oper) (b : Nat → Bool) (u : Nat → Value) (w' : World), ops[i]? = some o → b i = false → (∀ e ∈ o.after, Region.binds .any e = true → b e.on = true) → Slots ops R u0 b u → WI b u w' →
      ∀ K : Act → World → Prop, (∀ v w'' A, (actOf nt u).put o.dst v = A → (o.dst.isSome = true → R i v) → WI (upB b i) (upV u o.dst v) w'' → K A w'') → if Region.wanted o (yielded ops (actOf nt u).tmps) = true then Oper.wpIn F n P o (actOf nt u) w' K Q else (∀ f, o.about P w' (actOf nt u).eval = some f → F.fn f) ∧ K ((actOf nt u).put o.dst undef) w')
    (hend : ∀ (b : Nat → Bool) (u : Nat → Value) (w' : World), (∀ k, k < ops.size → b k = true) → Slots ops R u0 b u → WI b u w' → Q .normal (actOf nt u) w') :
    (Code.region id ops true).wpIn F n P Q a0 w := by
  subst ha
  refine wpIn_region_any hm (wpAnyIn_inv (I := fun l a w' => ∃ (b : Nat → Bool) (u : Nat → Value), l = ((List.range ops.size).map b).toArray ∧ a = actOf nt u ∧ Slots ops R u0 b u ∧ WI b u w') ?_ ?_ _ _ _ _ ?_ ?_)
  · rintro l a w' i o ⟨b, u, rfl, rfl, hU, hW⟩ ho hl hall K hK
    have hi : i < ops.size := (Array.getElem?_eq_some_iff.1 ho).1
    have gd : ∀ k d, k < ops.size → (((List.range ops.size).map b).toArray).getD k d = b k := by
      intro k d hk
      rw [Array.getD_eq_getD_getElem?]
      simp [List.getElem?_range hk]
    have hbi : b i = false := by rw [← gd i true hi]; exact hl
    refine hstep i o b u w' ho hbi (fun e he hb => ?_) hU hW K (fun v w'' A hA hv hW'' => hA ▸ hK _ _ ?_)
    · have h1 := hall e he hb
      rcases Nat.lt_or_ge e.on ops.size with h2 | h2
      · rw [gd _ _ h2] at h1; exact h1
      · rw [Array.getD_eq_getD_getElem?, Array.getElem?_eq_none (by simpa using h2)] at h1; cases h1
    · have hset : (((List.range ops.size).map b).toArray).setIfInBounds i true = ((List.range ops.size).map (upB b i)).toArray := by
        apply Array.ext_getElem?
        intro k
        rw [Array.getElem?_setIfInBounds]
        simp only [List.size_toArray, List.length_map, List.length_range, List.getElem?_toArray, List.getElem?_map]
        by_cases h : i = k
        · subst h
          simp [hi, upB]
        · rw [if_neg h]
          by_cases hk : k < ops.size
          · simp [List.getElem?_range hk, upB, Ne.symm h]
          · rw [List.getElem?_eq_none (by simpa using hk)]; rfl
      have hdst : (ops[i]?).bind Oper.dst = o.dst := by rw [ho]; rfl
      cases hd : o.dst with
      | none =>
        rw [hd] at hW''
        refine ⟨upB b i, u, hset, rfl, ⟨fun k s hk hb => ?_, hU.old⟩, hW''⟩
        unfold upB at hb
        split at hb
        · rename_i e; subst e; rw [hdst, hd] at hk; cases hk
        · exact hU.got k s hk hb
      | some s =>
        rw [hd] at hW''
        have hs : (ops[i]?).bind Oper.dst = some s := by rw [hdst, hd]
        have hv' := hv (by rw [hd]; rfl)
        refine ⟨upB b i, upV u (some s) v, hset, actOf_put nt u s v (slots_lt hslots hs), ⟨fun k t hk hb => ?_, fun t ht => ?_⟩, hW''⟩
        · show R k (if t = s then v else u t)
          by_cases e : t = s
          · subst e
            have := slots_inj hslots hk hs
            subst this
            rw [if_pos rfl]
            exact hv'
          · rw [if_neg e]
            unfold upB at hb
            split at hb
            · rename_i e2; subst e2; rw [hs] at hk; injection hk with hk; exact absurd hk.symm e
            · exact hU.got k t hk hb
        · show (if t = s then v else u t) = u0 t
          have e : t ≠ s := fun e => ht i (by rw [e]; exact hs)
          rw [if_neg e]
          exact hU.old t ht
  · rintro l a w' ⟨b, u, rfl, rfl, hU, hW⟩ hr
    refine hend b u w' (fun k hk => ?_) hU hW
    have := all_listed hback (by simp) hr k hk
    rw [Array.getD_eq_getD_getElem?] at this
    simpa [List.getElem?_range hk] using this
  · refine ⟨fun _ => false, u0, ?_, rfl, ⟨fun k s _ h => (by cases h), fun _ _ => rfl⟩, h0⟩
    apply Array.ext_getElem?
    intro k
    simp only [List.getElem?_toArray, List.getElem?_map]
    by_cases hk : k < ops.size
    · simp [hk]
    · rw [List.getElem?_eq_none (by simpa using hk), Array.getElem?_eq_none (by simpa using hk)]; rfl
  · simp
end
end Go.Proofs.YtodabmkcihafhaaGreatDoor

import Derived.Test.YtodabmkcihafhaaGreatDoorRows
import Derived.WalkKit
import Derived.LaidEql
import Derived.Stop.Asserts
import Derived.RowKitTokens
import Derived.Test.YtodabmkcihafhaaGreatDoorK8
import Derived.Test.YtodabmkcihafhaaGreatDoorK7

/- errors.Is at the sentinels. -/
namespace Go.Proofs.YtodabmkcihafhaaGreatDoor
open Go.RowKit Go.Extern.Stop Go.Stop Go.Extern
set_option linter.unusedVariables false

theorem Tryz.isTypeOf (v : Value) (w : World) : (Extern.ReflectliteType.typeOf #[.iface 285 v]).run Tryz.prog w = .ok (.iface 275 (.agg #[.pointer (some ⟨5, 285, none⟩)])) w := by kernel_rfl
def cmpE : Array Value → Sem Value := Extern.ReflectliteType.method fun t => do Extern.Rtype.noPackHeld "Comparable" t; pure (.bool (← typeInfo t).comparable)
theorem Tryz.isComparable (w : World) : (cmpE #[.agg #[.pointer (some ⟨5, 285, none⟩)]]).run Tryz.prog w = .ok (.bool true) w := by kernel_rfl
theorem Tryz.isMethodComparable (v : Value) (w : World) : (Go.method 418 275 v "Comparable").run Tryz.prog w = .ok (208, v) w := by kernel_rfl
theorem Tryz.isComp : (Tryz.prog.info? 285).map (·.comparable) = some true := by kernel_rfl
theorem Tryz.isSize : (Tryz.prog.info? 307).map (·.size) = some 1 := by kernel_rfl
theorem Tryz.noIsE (v : Value) (xT : TypeId) (w : World) : (Instr.typeAssert (.iface 285 v) xT 277 true).run Tryz.prog w = .ok (.tuple #[.nilIface, .bool false]) w := run_typeAssert_lacksB Tryz.underlying277 (by kernel_rfl) (by kernel_rfl) v xT w
theorem Tryz.noUnwrapE (v : Value) (xT : TypeId) (w : World) : (Instr.typeAssert (.iface 285 v) xT 280 true).run Tryz.prog w = .ok (.tuple #[.nilIface, .bool false]) w := run_typeAssert_lacksB Tryz.underlying280 (by kernel_rfl) (by kernel_rfl) v xT w
theorem Tryz.noUnwrapsE (v : Value) (xT : TypeId) (w : World) : (Instr.typeAssert (.iface 285 v) xT 282 true).run Tryz.prog w = .ok (.tuple #[.nilIface, .bool false]) w := run_typeAssert_lacksB Tryz.underlying282 (by kernel_rfl) (by kernel_rfl) v xT w

set_option maxRecDepth 1000000 in
set_option maxHeartbeats 2000000 in
theorem is_same (a : Addr) (w : World) :
    Calls Tryz.prog 158 #[.iface 285 (.pointer (some a)), .iface 285 (.pointer (some a))] w fun e w' => e = .returned (.bool true) ∧ w' = w := by
  obtain ⟨i, hi, hcmp⟩ := Option.map_eq_some_iff.1 Tryz.isComp
  obtain ⟨j, hj, hjs⟩ := Option.map_eq_some_iff.1 Tryz.isSize
  have h8 := @run_callFunc_extern Tryz.prog 172 _ Extern.ReflectliteType.typeOf Tryz.func172 (by kernel_rfl) (by kernel_rfl) (by kernel_rfl) (by kernel_rfl)
  have h32 := @run_callFunc_extern Tryz.prog 208 _ cmpE Tryz.func208 (by kernel_rfl) (by kernel_rfl) (by kernel_rfl) (by kernel_rfl)
  have tT := Tryz.isTypeOf
  have cT := Tryz.isComparable
  have mR := Tryz.isMethodComparable
  have heq := run_eql_iface_ptr_same (P := Tryz.prog) w a Tryz.underlying180 Tryz.underlying285 hi hcmp hj
  go_enter Tryz.func158, Tryz.ntmps158
  go_wp2
  refine wp_loop_rounds 1 ?_
  rw [rounds_succ]
  go_wp2
  go_ret
  exact ⟨rfl, rfl⟩
set_option maxRecDepth 1000000 in
theorem is_nil (b : Addr) (w : World) :
    Calls Tryz.prog 158 #[.nilIface, .iface 285 (.pointer (some b))] w fun e w' => e = .returned (.bool false) ∧ w' = w := by
  have hn := run_eql_iface_nil_left (P := Tryz.prog) w 285 (.pointer (some b)) Tryz.underlying180
  go_enter Tryz.func158, Tryz.ntmps158
  go_wp2
  go_ret
  exact ⟨rfl, rfl⟩
set_option maxRecDepth 1000000 in
set_option maxHeartbeats 2000000 in
theorem is_other (a b : Addr) (ca cb : Array Value) (ta tb : TypeId) (w : World) (hne : a ≠ b) (ha : w.heap[a.block]? = some (.cells ca ta (0, 0))) (hb : w.heap[b.block]? = some (.cells cb tb (0, 0))) :
    Calls Tryz.prog 158 #[.iface 285 (.pointer (some a)), .iface 285 (.pointer (some b))] w fun e w' => e = .returned (.bool false) ∧ w' = w := by
  obtain ⟨i, hi, hcmp⟩ := Option.map_eq_some_iff.1 Tryz.isComp
  obtain ⟨j, hj, hjs⟩ := Option.map_eq_some_iff.1 Tryz.isSize
  have h8 := @run_callFunc_extern Tryz.prog 172 _ Extern.ReflectliteType.typeOf Tryz.func172 (by kernel_rfl) (by kernel_rfl) (by kernel_rfl) (by kernel_rfl)
  have h32 := @run_callFunc_extern Tryz.prog 208 _ cmpE Tryz.func208 (by kernel_rfl) (by kernel_rfl) (by kernel_rfl) (by kernel_rfl)
  have tT := Tryz.isTypeOf
  have cT := Tryz.isComparable
  have mR := Tryz.isMethodComparable
  have nE := Tryz.noIsE
  have uE := Tryz.noUnwrapE
  have vE := Tryz.noUnwrapsE
  have heq := run_eql_iface_ptr_other (P := Tryz.prog) w Tryz.underlying180 Tryz.underlying285 hi hcmp hj (by rw [hjs]; decide) hne ha hb
  go_enter Tryz.func158, Tryz.ntmps158
  go_wp2
  refine wp_loop_rounds 1 ?_
  rw [rounds_succ]
  go_wp2
  go_ret
  exact ⟨rfl, rfl⟩
end Go.Proofs.YtodabmkcihafhaaGreatDoor

/- The program's numbers: operation, Unit, OfQuarters, Conjugate, Negate. -/
namespace Go.Proofs.YtodabmkcihafhaaGreatDoor
open Go.RowKit
set_option linter.unusedVariables false

def opF (c : Int) : Nat := if c = 43 then 168 else if c = 8722 then 169 else if c = 215 then 170 else 171
theorem oper_any (c : Int) (w : World) : Calls Tryz.prog 157 #[.int .i32 c] w fun e w' => e = .returned (.func (.func (opF c)) #[] #[]) ∧ w' = w := by
  by_cases h1 : c = 43
  · subst h1
    go_enter Tryz.func157, Tryz.ntmps157
    go_wp2_with fail
    go_ret
    exact ⟨rfl, rfl⟩
  by_cases h2 : c = 8722
  · subst h2
    go_enter Tryz.func157, Tryz.ntmps157
    go_wp2_with fail
    go_ret
    exact ⟨rfl, rfl⟩
  by_cases h3 : c = 215
  · subst h3
    go_enter Tryz.func157, Tryz.ntmps157
    go_wp2_with fail
    go_ret
    exact ⟨rfl, rfl⟩
  · have e : opF c = 171 := by unfold opF; rw [if_neg h1, if_neg h2, if_neg h3]
    rw [e]
    have b1 : (c == 43) = false := by simpa using h1
    have b2 : (c == 8722) = false := by simpa using h2
    have b3 : (c == 215) = false := by simpa using h3
    clear h1 h2 h3 e
    go_enter Tryz.func157, Tryz.ntmps157
    go_wp2_with fail
    go_ret
    exact ⟨rfl, rfl⟩
theorem unit_any (w : World) : Calls Tryz.prog 123 #[] w fun e w' => e = .returned (.agg #[.int .i64 0, .int .i64 1, .int .i64 1, .int .i64 1]) ∧ Below w.heap.size w w' := by
  have hz := heap_alloc_new w (.cells #[.int .i64 0, .int .i64 1, .int .i64 1, .int .i64 1] 82)
  have hb := fr_below w (.cells #[.int .i64 0, .int .i64 1, .int .i64 1, .int .i64 1] 82)
  obtain ⟨z0, z1, z2, z3⟩ := four_cells hz
  go_enter Tryz.func123, Tryz.ntmps123
  go_wp2_with fail
  exact bodyPost_ret (v := .agg #[.int .i64 0, .int .i64 1, .int .i64 1, .int .i64 1]) (by simp [results, Tryz.results123, go_sem, z0, z1, z2, z3]) rfl ⟨rfl, hb⟩
theorem quarters_of (q : Int) (w : World) (h0 : 0 ≤ q) (h1 : q ≤ 4000) : Calls Tryz.prog 121 #[.int .i64 q] w fun e w' => e = .returned (.agg #[.int .i64 (mkF q 4).n, .int .i64 (mkF q 4).d, .int .i64 0, .int .i64 1]) ∧ Below w.heap.size w w' := by
  have hz0 : ((w.alloc (.cells #[.int .i64 0, .int .i64 0, .int .i64 0, .int .i64 0] 82)).alloc (.cells #[.bool false] 254)).heap[w.heap.size]? = some (.cells #[.int .i64 0, .int .i64 0, .int .i64 0, .int .i64 0] 82 (0, 0)) := by
    rw [Below.heap_alloc _ _ _ (by simp)]
    exact heap_alloc_new w _
  have hr0 : RkSt (w.heap.size + 1) false ((w.alloc (.cells #[.int .i64 0, .int .i64 0, .int .i64 0, .int .i64 0] 82)).alloc (.cells #[.bool false] 254)) := by
    have := RkSt.new (w.alloc (.cells #[.int .i64 0, .int .i64 0, .int .i64 0, .int .i64 0] 82))
    simpa using this
  have hb0 : Below w.heap.size w ((w.alloc (.cells #[.int .i64 0, .int .i64 0, .int .i64 0, .int .i64 0] 82)).alloc (.cells #[.bool false] 254)) := ((Below.refl _ w).alloc (Nat.le_refl _) _).alloc (by simp) _
  have C1 := hidMk (lowest_any (w.heap.size + 1) false q 4 _ (by omega) (by omega) (by omega) (by omega) hr0)
  generalize mkF q 4 = F at *
  go_enter Tryz.func121, Tryz.ntmps121
  go_wp2_with fail
  refine C1.out.mono ?_
  rintro e w1 ⟨rfl, hr1, hg1⟩
  have hz1 := (hg1.block w.heap.size (by simp; omega) (by simp)).trans hz0
  have hb1 : Below w.heap.size w w1 := hb0.trans (gb_to_below hg1 (by omega) (by simp; omega))
  obtain ⟨z0, z1, z2, z3⟩ := four_cells hz1
  obtain ⟨f0, f1, f2, f3⟩ := four_frozen hz1
  have HZ1 := hidMk hz1
  clear C1 hr0 hz0 hb0 hz1 hr1 hg1
  go_wp2_with fail
  refine bp_gen (fun W' => W'.heap[w.heap.size]? = some (.cells #[.int .i64 F.n, .int .i64 F.d, .int .i64 0, .int .i64 1] 82 (0, 0)) ∧ Below w.heap.size w W') ⟨four_set HZ1.out _ _ _ _, below_four hb1 (Nat.le_refl _) _ _ _ _⟩ ?_
  rintro W ⟨hz, hb⟩
  obtain ⟨z0, z1, z2, z3⟩ := four_cells hz
  exact bodyPost_ret (v := .agg #[.int .i64 F.n, .int .i64 F.d, .int .i64 0, .int .i64 1]) (by simp [results, Tryz.results121, go_sem, z0, z1, z2, z3]) rfl ⟨rfl, hb⟩
/-- A call on one number: it (block w.heap.size), the result behind it. -/
structure One (w0 : World) (x : Num) (w : World) : Prop where
  hx : w.heap[w0.heap.size]? = some (.cells #[.int .i64 x.re.n, .int .i64 x.re.d, .int .i64 x.im.n, .int .i64 x.im.d] 82 (0, 0))
  hz : w.heap[w0.heap.size + 1]? = some (.cells #[.int .i64 0, .int .i64 0, .int .i64 0, .int .i64 0] 82 (0, 0))
  hb : Below w0.heap.size w0 w
theorem One.below {w0 w w' : World} {x : Num} (h : One w0 x w) (g : Below w.heap.size w w') : One w0 x w' :=
  ⟨(g.block _ (Array.getElem?_eq_some_iff.1 h.hx).1).trans h.hx, (g.block _ (Array.getElem?_eq_some_iff.1 h.hz).1).trans h.hz, h.hb.trans (g.mono h.hb.size)⟩
theorem One.drew {w0 w : World} {x : Num} (h : One w0 x w) : One w0 x w.drew := ⟨h.hx, h.hz, h.hb.drew⟩
theorem One.new (w : World) (x : Num) : One w x ((w.alloc (.cells #[.int .i64 x.re.n, .int .i64 x.re.d, .int .i64 x.im.n, .int .i64 x.im.d] 82)).alloc (.cells #[.int .i64 0, .int .i64 0, .int .i64 0, .int .i64 0] 82)) := by
  refine ⟨?_, ?_, ((Below.refl _ w).alloc (Nat.le_refl _) _).alloc (by simp) _⟩
  · rw [Below.heap_alloc _ _ _ (by simp)]
    exact heap_alloc_new w _
  · have := heap_alloc_new (w.alloc (.cells #[.int .i64 x.re.n, .int .i64 x.re.d, .int .i64 x.im.n, .int .i64 x.im.d] 82)) (.cells #[.int .i64 0, .int .i64 0, .int .i64 0, .int .i64 0] 82)
    simpa using this
theorem conj_any (x : Num) (w : World) (hx : x.Ok) : Calls Tryz.prog 150 #[.agg #[.int .i64 x.re.n, .int .i64 x.re.d, .int .i64 x.im.n, .int .i64 x.im.d]] w fun e w' => e = .returned (.agg #[.int .i64 x.re.n, .int .i64 x.re.d, .int .i64 x.im.neg.n, .int .i64 x.im.neg.d]) ∧ Below w.heap.size w w' := by
  have C1 := hidMk (fun W => negated_any x.im W hx.2)
  have h0 := One.new w x
  generalize x.im.neg = G at *
  generalize x.re.neg = F at *
  clear hx
  go_enter Tryz.func150, Tryz.ntmps150
  go_wp2_with fail
  generalize (w.alloc _).alloc _ = W at *
  obtain ⟨x0, x1, x2, x3⟩ := four_cells h0.hx
  have H0 := hidMk h0
  clear h0
  go_region_with (first
    | (go_at_call 148; refine (C1.out _).mono ?_; rintro e w1 ⟨rfl, hb1⟩
       have h1 := H0.out.drew.below hb1
       obtain ⟨xx0, xx1, xx2, xx3⟩ := four_cells h1.hx
       obtain ⟨z0, z1, z2, z3⟩ := four_cells h1.hz
       obtain ⟨f0, f1, f2, f3⟩ := four_frozen h1.hz))
  all_goals
    go_wp2_with fail
    refine bp_gen (fun W' => W'.heap[w.heap.size + 1]? = some (.cells #[.int .i64 x.re.n, .int .i64 x.re.d, .int .i64 G.n, .int .i64 G.d] 82 (0, 0)) ∧ Below w.heap.size w W') ⟨four_set h1.hz _ _ _ _, below_four h1.hb (by omega) _ _ _ _⟩ ?_
    rintro W ⟨hz, hb⟩
    obtain ⟨z0, z1, z2, z3⟩ := four_cells hz
    exact bodyPost_ret (v := .agg #[.int .i64 x.re.n, .int .i64 x.re.d, .int .i64 G.n, .int .i64 G.d]) (by simp [results, Tryz.results150, go_sem, z0, z1, z2, z3]) rfl ⟨rfl, hb⟩
theorem negated_bd (f : Fr) (w : World) (hf : -999999 ≤ f.n ∧ f.n ≤ 999999) : Calls Tryz.prog 148 #[.agg #[.int .i64 f.n, .int .i64 f.d]] w fun e w' => e = .returned (.agg #[.int .i64 f.neg.n, .int .i64 f.neg.d]) ∧ Below w.heap.size w w' := by
  have hw : wrap64 (-f.n) = -f.n := by unfold wrap64; omega
  clear hf
  obtain ⟨n, d⟩ := f
  unfold Fr.neg
  simp only at *
  go_enter Tryz.func148, Tryz.ntmps148
  go_wp2_with fail
  refine bodyPost_ret (v := .agg #[.int .i64 (-n), .int .i64 d]) (by simp [results, Tryz.results148, go_sem, hw]) rfl ?_
  exact ⟨rfl, ((Below.refl _ w).alloc (Nat.le_refl _) _).alloc (by simp) _⟩
set_option maxHeartbeats 2000000 in
theorem neg_bd (x : Num) (w : World) (hx : (-999999 ≤ x.re.n ∧ x.re.n ≤ 999999) ∧ (-999999 ≤ x.im.n ∧ x.im.n ≤ 999999)) : Calls Tryz.prog 124 #[.agg #[.int .i64 x.re.n, .int .i64 x.re.d, .int .i64 x.im.n, .int .i64 x.im.d]] w fun e w' => e = .returned (.agg #[.int .i64 x.re.neg.n, .int .i64 x.re.neg.d, .int .i64 x.im.neg.n, .int .i64 x.im.neg.d]) ∧ Below w.heap.size w w' := by
  have C1 := hidMk (fun W => negated_bd x.im W hx.2)
  have C2 := hidMk (fun W => negated_bd x.re W hx.1)
  have h0 := One.new w x
  generalize x.im.neg = G at *
  generalize x.re.neg = F at *
  clear hx
  go_enter Tryz.func124, Tryz.ntmps124
  go_wp2_with fail
  generalize (w.alloc _).alloc _ = W at *
  obtain ⟨x0, x1, x2, x3⟩ := four_cells h0.hx
  have H0 := hidMk h0
  clear h0
  go_region_with (first
    | (go_at_call 148; have h1' := h1; refine (C1.out _).mono ?_; rintro e w2 ⟨rfl, hb2⟩
       have h2 := h1'.below hb2
       obtain ⟨z0, z1, z2, z3⟩ := four_cells h2.hz
       obtain ⟨f0, f1, f2, f3⟩ := four_frozen h2.hz)
    | (go_at_call 148; refine (C2.out _).mono ?_; rintro e w1 ⟨rfl, hb1⟩
       have h1 := H0.out.drew.below hb1
       obtain ⟨xx0, xx1, xx2, xx3⟩ := four_cells h1.hx))
  all_goals
    go_wp2_with fail
    refine bp_gen (fun W' => W'.heap[w.heap.size + 1]? = some (.cells #[.int .i64 F.n, .int .i64 F.d, .int .i64 G.n, .int .i64 G.d] 82 (0, 0)) ∧ Below w.heap.size w W') ⟨four_set h2.hz _ _ _ _, below_four h2.hb (by omega) _ _ _ _⟩ ?_
    rintro W ⟨hz, hb⟩
    obtain ⟨z0, z1, z2, z3⟩ := four_cells hz
    exact bodyPost_ret (v := .agg #[.int .i64 F.n, .int .i64 F.d, .int .i64 G.n, .int .i64 G.d]) (by simp [results, Tryz.results124, go_sem, z0, z1, z2, z3]) rfl ⟨rfl, hb⟩
end Go.Proofs.YtodabmkcihafhaaGreatDoor

/- The program's Multiply. -/
namespace Go.Proofs.YtodabmkcihafhaaGreatDoor
open Go.RowKit
set_option linter.unusedVariables false

set_option maxHeartbeats 4000000 in
set_option maxRecDepth 100000 in
theorem mul_any (N : Nat) (aZ aB : Addr) (x y : Num) (w : World) (hS : Sen N aZ aB w) (hN : N ≤ w.heap.size) (hx : x.Ok) (hy : y.Ok) :
    Calls Tryz.prog 170 #[.agg #[.int .i64 x.re.n, .int .i64 x.re.d, .int .i64 x.im.n, .int .i64 x.im.d], .agg #[.int .i64 y.re.n, .int .i64 y.re.d, .int .i64 y.im.n, .int .i64 y.im.d]] w fun e w' => e = .returned (outV aB (mulB x y) (mulN x y)) ∧ Below w.heap.size w w' := by
  have C1 : Hid (∀ b fl W, RkSt b fl W → Calls Tryz.prog 179 #[.pointer (some ⟨b, 0, none⟩), .agg #[.int .i64 (x.re).n, .int .i64 (x.re).d], .agg #[.int .i64 (y.re).n, .int .i64 (y.re).d]] W fun e w' => e = .returned (.agg #[.int .i64 (tmF x.re y.re).n, .int .i64 (tmF x.re y.re).d]) ∧ RkSt b (fl || tmB x.re y.re) w' ∧ W.grownBy w' (some b)) := fun b fl W h => times_any b fl _ _ W hx.1 hy.1 h
  have C2 : Hid (∀ b fl W, RkSt b fl W → Calls Tryz.prog 179 #[.pointer (some ⟨b, 0, none⟩), .agg #[.int .i64 (x.im).n, .int .i64 (x.im).d], .agg #[.int .i64 (y.im).n, .int .i64 (y.im).d]] W fun e w' => e = .returned (.agg #[.int .i64 (tmF x.im y.im).n, .int .i64 (tmF x.im y.im).d]) ∧ RkSt b (fl || tmB x.im y.im) w' ∧ W.grownBy w' (some b)) := fun b fl W h => times_any b fl _ _ W hx.2 hy.2 h
  have C4 : Hid (∀ b fl W, RkSt b fl W → Calls Tryz.prog 179 #[.pointer (some ⟨b, 0, none⟩), .agg #[.int .i64 (x.re).n, .int .i64 (x.re).d], .agg #[.int .i64 (y.im).n, .int .i64 (y.im).d]] W fun e w' => e = .returned (.agg #[.int .i64 (tmF x.re y.im).n, .int .i64 (tmF x.re y.im).d]) ∧ RkSt b (fl || tmB x.re y.im) w' ∧ W.grownBy w' (some b)) := fun b fl W h => times_any b fl _ _ W hx.1 hy.2 h
  have C5 : Hid (∀ b fl W, RkSt b fl W → Calls Tryz.prog 179 #[.pointer (some ⟨b, 0, none⟩), .agg #[.int .i64 (x.im).n, .int .i64 (x.im).d], .agg #[.int .i64 (y.re).n, .int .i64 (y.re).d]] W fun e w' => e = .returned (.agg #[.int .i64 (tmF x.im y.re).n, .int .i64 (tmF x.im y.re).d]) ∧ RkSt b (fl || tmB x.im y.re) w' ∧ W.grownBy w' (some b)) := fun b fl W h => times_any b fl _ _ W hx.2 hy.1 h
  have C3 : Hid (∀ b fl W, RkSt b fl W → Calls Tryz.prog 178 #[.pointer (some ⟨b, 0, none⟩), .agg #[.int .i64 (tmF x.re y.re).n, .int .i64 (tmF x.re y.re).d], .agg #[.int .i64 (tmF x.im y.im).n, .int .i64 (tmF x.im y.im).d]] W fun e w' => e = .returned (.agg #[.int .i64 (plF (tmF x.re y.re) (tmF x.im y.im).neg).n, .int .i64 (plF (tmF x.re y.re) (tmF x.im y.im).neg).d]) ∧ RkSt b (fl || plB (tmF x.re y.re) (tmF x.im y.im).neg) w' ∧ W.grownBy w' (some b)) := fun b fl W h => less_any b fl _ _ W (tmF_ok hx.1 hy.1) (tmF_ok hx.2 hy.2) h
  have C6 : Hid (∀ b fl W, RkSt b fl W → Calls Tryz.prog 177 #[.pointer (some ⟨b, 0, none⟩), .agg #[.int .i64 (tmF x.re y.im).n, .int .i64 (tmF x.re y.im).d], .agg #[.int .i64 (tmF x.im y.re).n, .int .i64 (tmF x.im y.re).d]] W fun e w' => e = .returned (.agg #[.int .i64 (plF (tmF x.re y.im) (tmF x.im y.re)).n, .int .i64 (plF (tmF x.re y.im) (tmF x.im y.re)).d]) ∧ RkSt b (fl || plB (tmF x.re y.im) (tmF x.im y.re)) w' ∧ W.grownBy w' (some b)) := fun b fl W h => plus_any b fl _ _ W (tmF_ok hx.1 hy.2) (tmF_ok hx.2 hy.1) h
  have HO : Hid (outV aB (mulB x y) (mulN x y) = outV aB ((((((false || tmB x.re y.re) || tmB x.im y.im) || plB (tmF x.re y.re) (tmF x.im y.im).neg) || tmB x.re y.im) || tmB x.im y.re) || plB (tmF x.re y.im) (tmF x.im y.re)) ⟨plF (tmF x.re y.re) (tmF x.im y.im).neg, plF (tmF x.re y.im) (tmF x.im y.re)⟩) := by
    show outV aB (mulB x y) (mulN x y) = _
    rw [Bool.false_or]
    rfl
  generalize plF (tmF x.re y.re) (tmF x.im y.im).neg = F3 at *
  generalize plB (tmF x.re y.re) (tmF x.im y.im).neg = B3 at *
  generalize plF (tmF x.re y.im) (tmF x.im y.re) = F6 at *
  generalize plB (tmF x.re y.im) (tmF x.im y.re) = B6 at *
  generalize tmF x.re y.re = F1 at *
  generalize tmF x.im y.im = F2 at *
  generalize tmF x.re y.im = F4 at *
  generalize tmF x.im y.re = F5 at *
  generalize tmB x.re y.re = B1 at *
  generalize tmB x.im y.im = B2 at *
  generalize tmB x.re y.im = B4 at *
  generalize tmB x.im y.re = B5 at *
  have HS : Hid (Sen N aZ aB w) := hS
  clear hx hy hS
  go_enter Tryz.func170, Tryz.ntmps170
  go_wp2_with fail
  have h4 := Rek.new w x y
  generalize (((w.alloc _).alloc _).alloc _).alloc _ = W at *
  refine region_inv (nt := 36)
    (fun s => match s with
      | 0 => .agg #[.int .i64 x.re.n, .int .i64 x.re.d, .int .i64 x.im.n, .int .i64 x.im.d]
      | 1 => .agg #[.int .i64 y.re.n, .int .i64 y.re.d, .int .i64 y.im.n, .int .i64 y.im.d]
      | 2 => .pointer (some ⟨w.heap.size, 0, none⟩)
      | 3 => .pointer (some ⟨w.heap.size + 1, 0, none⟩)
      | 4 => .pointer (some ⟨w.heap.size + 1 + 1, 0, none⟩)
      | 5 => .nilIface
      | 6 => .pointer (some ⟨w.heap.size + 1 + 1 + 1, 0, none⟩)
      | s => undef)
    (fun k v => match k with
      | 0 => v = .pointer (some ⟨w.heap.size, 0, none⟩)
      | 1 => v = .agg #[.int .i64 (x.re).n, .int .i64 (x.re).d]
      | 2 => v = .pointer (some ⟨w.heap.size + 1, 0, none⟩)
      | 3 => v = .agg #[.int .i64 (y.re).n, .int .i64 (y.re).d]
      | 4 => v = .agg #[.int .i64 (F1).n, .int .i64 (F1).d]
      | 5 => v = .pointer (some ⟨w.heap.size, 2, none⟩)
      | 6 => v = .agg #[.int .i64 (x.im).n, .int .i64 (x.im).d]
      | 7 => v = .pointer (some ⟨w.heap.size + 1, 2, none⟩)
      | 8 => v = .agg #[.int .i64 (y.im).n, .int .i64 (y.im).d]
      | 9 => v = .agg #[.int .i64 (F2).n, .int .i64 (F2).d]
      | 10 => v = .agg #[.int .i64 (F3).n, .int .i64 (F3).d]
      | _ => True)
    (fun b u w' => Hid (Rek w (w.heap.size + 1 + 1 + 1) x y ([] : List (Nat × Fr)) (if b 10 = true then (((false || B1) || B2) || B3) else (if b 9 = true then ((false || B1) || B2) else (if b 4 = true then (false || B1) else false))) w' ∧ (b 9 = true → b 4 = true) ∧ (b 10 = true → b 9 = true) ∧ (b 12 = true → b 11 = true) ∧
      (b 11 = true → ∃ B, u 7 = .pointer (some ⟨B, 0, none⟩) ∧ (w.heap.size + 1 + 1 + 1) < B ∧ (∀ q ∈ ([] : List (Nat × Fr)), q.1 < B) ∧ w'.heap[B]? = some (.cells (if b 12 = true then #[.int .i64 (F3).n, .int .i64 (F3).d] else #[.int .i64 0, .int .i64 0]) 80 (0, 0)))))
    rfl (by kernel_rfl) (by kernel_rfl) (by kernel_rfl) ⟨h4.drew, fun h => h, fun h => h, fun h => h, fun h => by cases h⟩ ?_ ?_
  · intro i o b u w' ho hbi hall hU hW K hK
    have hA : actOf 36 u = ⟨#[u 0, u 1, u 2, u 3, u 4, u 5, u 6, u 7, u 8, u 9, u 10, u 11, u 12, u 13, u 14, u 15, u 16, u 17, u 18, u 19, u 20, u 21, u 22, u 23, u 24, u 25, u 26, u 27, u 28, u 29, u 30, u 31, u 32, u 33, u 34, u 35], []⟩ := rfl
    rw [hA] at hK ⊢
    have c2 : u 2 = .pointer (some ⟨w.heap.size, 0, none⟩) := hU.oldB 2 (by kernel_rfl)
    have c3 : u 3 = .pointer (some ⟨w.heap.size + 1, 0, none⟩) := hU.oldB 3 (by kernel_rfl)
    have c6 : u 6 = .pointer (some ⟨w.heap.size + 1 + 1 + 1, 0, none⟩) := hU.oldB 6 (by kernel_rfl)
    have got := hU.got
    clear hU hA h4
    obtain ⟨hF, hc0, hc1, hst, hal⟩ := hW.out
    obtain ⟨x0, x1, x2, x3⟩ := four_cells hF.hx
    obtain ⟨y0, y1, y2, y3⟩ := four_cells hF.hy
    have HC0 : Hid (b 9 = true → b 4 = true) := hc0
    have HC1 : Hid (b 10 = true → b 9 = true) := hc1
    have HST : Hid (b 12 = true → b 11 = true) := hst
    have HAL := hidMk hal
    have HKK := hidMk hK
    have HF := hidMk hF
    clear hK hF hW hc0 hc1 hst hal
    rcases i with _ | _ | _ | _ | _ | _ | _ | _ | _ | _ | _ | _ | _ | i
    · cases ho
      go_simp
      exact HKK.out _ _ _ (by rw [c2, c3, c6]; rfl) (fun _ => rfl) ⟨HF.out, HC0.out, HC1.out, HST.out, HAL.out⟩
    · cases ho
      have g9 : u 9 = .pointer (some ⟨w.heap.size, 0, none⟩) := got 0 9 rfl (hall ⟨0, .data⟩ (by simp) rfl)
      go_simp
      exact HKK.out _ _ _ (by rw [c2, c3, c6, g9]; rfl) (fun _ => rfl) ⟨HF.out, HC0.out, HC1.out, HST.out, HAL.out⟩
    · cases ho
      go_simp
      exact HKK.out _ _ _ (by rw [c2, c3, c6]; rfl) (fun _ => rfl) ⟨HF.out, HC0.out, HC1.out, HST.out, HAL.out⟩
    · cases ho
      have g11 : u 11 = .pointer (some ⟨w.heap.size + 1, 0, none⟩) := got 2 11 rfl (hall ⟨2, .data⟩ (by simp) rfl)
      go_simp
      exact HKK.out _ _ _ (by rw [c2, c3, c6, g11]; rfl) (fun _ => rfl) ⟨HF.out, HC0.out, HC1.out, HST.out, HAL.out⟩
    · cases ho
      have g10 : u 10 = .agg #[.int .i64 (x.re).n, .int .i64 (x.re).d] := got 1 10 rfl (hall ⟨1, .data⟩ (by simp) rfl)
      have g12 : u 12 = .agg #[.int .i64 (y.re).n, .int .i64 (y.re).d] := got 3 12 rfl (hall ⟨3, .data⟩ (by simp) rfl)
      have n9 : b 9 = false := by
        cases h : b 9 with
        | false => rfl
        | true => rw [HC0.out h] at hbi; cases hbi
      have n10 : b 10 = false := by
        cases h : b 10 with
        | false => rfl
        | true => rw [HC1.out h] at n9; cases n9
      have hfl : (if b 10 = true then (((false || B1) || B2) || B3) else (if b 9 = true then ((false || B1) || B2) else (if b 4 = true then (false || B1) else false))) = false := by simp [n9, n10, hbi]
      have hfl2 : (if upB b 4 10 = true then (((false || B1) || B2) || B3) else (if upB b 4 9 = true then ((false || B1) || B2) else (if upB b 4 4 = true then (false || B1) else false))) = (false || B1) := by simp [upB, n9, n10]
      have hr := HF.out.hr
      rw [hfl] at hr
      have HR := hidMk hr
      have HFL := hidMk hfl2
      clear hr hfl hfl2
      go_simp
      refine (C1.out _ _ _ HR.out).mono ?_
      rintro e w2 ⟨rfl, hr2, hg2⟩
      refine HKK.out _ _ _ (by rw [c2, c3, c6, g10, g12]; rfl) (fun _ => rfl) ⟨?_, ?_⟩
      · rw [HFL.out]; exact HF.out.grown hg2 hr2
      refine ⟨fun _ => rfl, HC1.out, HST.out, fun h => ?_⟩
      obtain ⟨B, q1, q2, q3, q4⟩ := HAL.out h
      exact ⟨B, q1, q2, q3, (hg2.block B (Array.getElem?_eq_some_iff.1 q4).1 (by simp; omega)).trans q4⟩
    · cases ho
      go_simp
      exact HKK.out _ _ _ (by rw [c2, c3, c6]; rfl) (fun _ => rfl) ⟨HF.out, HC0.out, HC1.out, HST.out, HAL.out⟩
    · cases ho
      have g14 : u 14 = .pointer (some ⟨w.heap.size, 2, none⟩) := got 5 14 rfl (hall ⟨5, .data⟩ (by simp) rfl)
      go_simp
      exact HKK.out _ _ _ (by rw [c2, c3, c6, g14]; rfl) (fun _ => rfl) ⟨HF.out, HC0.out, HC1.out, HST.out, HAL.out⟩
    · cases ho
      go_simp
      exact HKK.out _ _ _ (by rw [c2, c3, c6]; rfl) (fun _ => rfl) ⟨HF.out, HC0.out, HC1.out, HST.out, HAL.out⟩
    · cases ho
      have g16 : u 16 = .pointer (some ⟨w.heap.size + 1, 2, none⟩) := got 7 16 rfl (hall ⟨7, .data⟩ (by simp) rfl)
      go_simp
      exact HKK.out _ _ _ (by rw [c2, c3, c6, g16]; rfl) (fun _ => rfl) ⟨HF.out, HC0.out, HC1.out, HST.out, HAL.out⟩
    · cases ho
      have g15 : u 15 = .agg #[.int .i64 (x.im).n, .int .i64 (x.im).d] := got 6 15 rfl (hall ⟨6, .data⟩ (by simp) rfl)
      have g17 : u 17 = .agg #[.int .i64 (y.im).n, .int .i64 (y.im).d] := got 8 17 rfl (hall ⟨8, .data⟩ (by simp) rfl)
      have n10 : b 10 = false := by
        cases h : b 10 with
        | false => rfl
        | true => rw [HC1.out h] at hbi; cases hbi
      have y4 : b 4 = true := hall ⟨4, .chain⟩ (by simp) rfl
      have hfl : (if b 10 = true then (((false || B1) || B2) || B3) else (if b 9 = true then ((false || B1) || B2) else (if b 4 = true then (false || B1) else false))) = (false || B1) := by simp [n10, hbi, y4]
      have hfl2 : (if upB b 9 10 = true then (((false || B1) || B2) || B3) else (if upB b 9 9 = true then ((false || B1) || B2) else (if upB b 9 4 = true then (false || B1) else false))) = ((false || B1) || B2) := by simp [upB, n10]
      have hr := HF.out.hr
      rw [hfl] at hr
      have HR := hidMk hr
      have HFL := hidMk hfl2
      clear hr hfl hfl2
      go_simp
      refine (C2.out _ _ _ HR.out).mono ?_
      rintro e w2 ⟨rfl, hr2, hg2⟩
      refine HKK.out _ _ _ (by rw [c2, c3, c6, g15, g17]; rfl) (fun _ => rfl) ⟨?_, ?_⟩
      · rw [HFL.out]; exact HF.out.grown hg2 hr2
      refine ⟨fun _ => y4, fun _ => rfl, HST.out, fun h => ?_⟩
      obtain ⟨B, q1, q2, q3, q4⟩ := HAL.out h
      exact ⟨B, q1, q2, q3, (hg2.block B (Array.getElem?_eq_some_iff.1 q4).1 (by simp; omega)).trans q4⟩
    · cases ho
      have g13 : u 13 = .agg #[.int .i64 (F1).n, .int .i64 (F1).d] := got 4 13 rfl (hall ⟨4, .data⟩ (by simp) rfl)
      have g18 : u 18 = .agg #[.int .i64 (F2).n, .int .i64 (F2).d] := got 9 18 rfl (hall ⟨9, .data⟩ (by simp) rfl)
      have y9 : b 9 = true := hall ⟨9, .chain⟩ (by simp) rfl
      have hfl : (if b 10 = true then (((false || B1) || B2) || B3) else (if b 9 = true then ((false || B1) || B2) else (if b 4 = true then (false || B1) else false))) = ((false || B1) || B2) := by simp [hbi, y9]
      have hfl2 : (if upB b 10 10 = true then (((false || B1) || B2) || B3) else (if upB b 10 9 = true then ((false || B1) || B2) else (if upB b 10 4 = true then (false || B1) else false))) = (((false || B1) || B2) || B3) := by simp [upB, ]
      have hr := HF.out.hr
      rw [hfl] at hr
      have HR := hidMk hr
      have HFL := hidMk hfl2
      clear hr hfl hfl2
      go_simp
      refine (C3.out _ _ _ HR.out).mono ?_
      rintro e w2 ⟨rfl, hr2, hg2⟩
      refine HKK.out _ _ _ (by rw [c2, c3, c6, g13, g18]; rfl) (fun _ => rfl) ⟨?_, ?_⟩
      · rw [HFL.out]; exact HF.out.grown hg2 hr2
      refine ⟨HC0.out, fun _ => y9, HST.out, fun h => ?_⟩
      obtain ⟨B, q1, q2, q3, q4⟩ := HAL.out h
      exact ⟨B, q1, q2, q3, (hg2.block B (Array.getElem?_eq_some_iff.1 q4).1 (by simp; omega)).trans q4⟩
    · cases ho
      have ns : b 12 = false := by
        cases h : b 12 with
        | false => rfl
        | true => rw [HST.out h] at hbi; cases hbi
      have NS := hidMk ns
      clear ns
      go_simp
      refine HKK.out _ _ _ (by rw [c2, c3, c6]; rfl) (fun _ => trivial) ⟨HF.out.below (fr_below w' _), HC0.out, HC1.out, fun _ => rfl, fun _ => ⟨w'.heap.size, rfl, HF.out.hr.lt, fun q hq => (Array.getElem?_eq_some_iff.1 (HF.out.hex q hq).2).1, ?_⟩⟩
      have e : (if upB b 11 12 = true then (#[.int .i64 (F3).n, .int .i64 (F3).d] : Array Value) else #[.int .i64 0, .int .i64 0]) = #[.int .i64 0, .int .i64 0] := by simp [upB, NS.out]
      rw [e]
      exact heap_alloc_new w' _
    · cases ho
      have g19 : u 19 = .agg #[.int .i64 (F3).n, .int .i64 (F3).d] := got 10 19 rfl (hall ⟨10, .data⟩ (by simp) rfl)
      obtain ⟨B, q1, q2, q3, q4⟩ := HAL.out (hall ⟨11, .data⟩ (by simp) rfl)
      rw [if_neg (by rw [hbi]; decide)] at q4
      obtain ⟨s0, s1, fs0, fs1⟩ := two_cells q4
      have Q4 := hidMk q4
      have YA : Hid (b 11 = true) := hall ⟨11, .data⟩ (by simp) rfl
      clear q4
      go_simp
      refine HKK.out undef _ _ (by rw [c2, c3, c6, g19, q1]; rfl) (fun h => by cases h) ⟨?_, HC0.out, HC1.out, fun _ => YA.out, fun _ => ⟨B, q1, q2, q3, ?_⟩⟩
      · exact HF.out.set q2 q3 _ _
      · exact two_set Q4.out _ _
    · simp at ho
  · intro b1 u1 w1 hb1 hU1 hW1
    obtain ⟨hF1, _, _, _, hal1⟩ := hW1.out
    obtain ⟨Bre, q1, q2, _, q4⟩ := hal1 (hb1 11 (by decide))
    rw [if_pos (hb1 12 (by decide))] at q4
    rw [if_pos (hb1 10 (by decide))] at hF1
    have h4 := hF1.more q2 q4
    have k2 : u1 2 = .pointer (some ⟨w.heap.size, 0, none⟩) := hU1.oldB 2 (by kernel_rfl)
    have k3 : u1 3 = .pointer (some ⟨w.heap.size + 1, 0, none⟩) := hU1.oldB 3 (by kernel_rfl)
    have k4 : u1 4 = .pointer (some ⟨w.heap.size + 1 + 1, 0, none⟩) := hU1.oldB 4 (by kernel_rfl)
    have k5 : u1 5 = .nilIface := hU1.oldB 5 (by kernel_rfl)
    have k6 : u1 6 = .pointer (some ⟨w.heap.size + 1 + 1 + 1, 0, none⟩) := hU1.oldB 6 (by kernel_rfl)
    have hA1 : actOf 36 u1 = ⟨#[u1 0, u1 1, u1 2, u1 3, u1 4, u1 5, u1 6, u1 7, u1 8, u1 9, u1 10, u1 11, u1 12, u1 13, u1 14, u1 15, u1 16, u1 17, u1 18, u1 19, u1 20, u1 21, u1 22, u1 23, u1 24, u1 25, u1 26, u1 27, u1 28, u1 29, u1 30, u1 31, u1 32, u1 33, u1 34, u1 35], []⟩ := rfl
    rw [hA1, k2, k3, k4, k5, k6, q1]
    have Q2 := hidMk q2
    clear hA1 k2 k3 k4 k5 k6 q1 hW1 hU1 hb1 hal1 hF1 q2 q4
    go_wp2_with fail
    refine region_inv (nt := 36)
      (fun s => match s with
        | 2 => .pointer (some ⟨w.heap.size, 0, none⟩)
        | 3 => .pointer (some ⟨w.heap.size + 1, 0, none⟩)
        | 4 => .pointer (some ⟨w.heap.size + 1 + 1, 0, none⟩)
        | 5 => .nilIface
        | 6 => .pointer (some ⟨w.heap.size + 1 + 1 + 1, 0, none⟩)
        | 7 => .pointer (some ⟨Bre, 0, none⟩)
        | s => u1 s)
      (fun k v => match k with
        | 0 => v = .pointer (some ⟨w.heap.size, 0, none⟩)
        | 1 => v = .agg #[.int .i64 (x.re).n, .int .i64 (x.re).d]
        | 2 => v = .pointer (some ⟨w.heap.size + 1, 2, none⟩)
        | 3 => v = .agg #[.int .i64 (y.im).n, .int .i64 (y.im).d]
        | 4 => v = .agg #[.int .i64 (F4).n, .int .i64 (F4).d]
        | 5 => v = .pointer (some ⟨w.heap.size, 2, none⟩)
        | 6 => v = .agg #[.int .i64 (x.im).n, .int .i64 (x.im).d]
        | 7 => v = .pointer (some ⟨w.heap.size + 1, 0, none⟩)
        | 8 => v = .agg #[.int .i64 (y.re).n, .int .i64 (y.re).d]
        | 9 => v = .agg #[.int .i64 (F5).n, .int .i64 (F5).d]
        | 10 => v = .agg #[.int .i64 (F6).n, .int .i64 (F6).d]
        | _ => True)
      (fun b u w' => Hid (Rek w (w.heap.size + 1 + 1 + 1) x y ([(Bre, F3)] : List (Nat × Fr)) (if b 10 = true then ((((((false || B1) || B2) || B3) || B4) || B5) || B6) else (if b 9 = true then (((((false || B1) || B2) || B3) || B4) || B5) else (if b 4 = true then ((((false || B1) || B2) || B3) || B4) else (((false || B1) || B2) || B3)))) w' ∧ (b 9 = true → b 4 = true) ∧ (b 10 = true → b 9 = true) ∧ (b 12 = true → b 11 = true) ∧
        (b 11 = true → ∃ B, u 8 = .pointer (some ⟨B, 0, none⟩) ∧ (w.heap.size + 1 + 1 + 1) < B ∧ (∀ q ∈ ([(Bre, F3)] : List (Nat × Fr)), q.1 < B) ∧ w'.heap[B]? = some (.cells (if b 12 = true then #[.int .i64 (F6).n, .int .i64 (F6).d] else #[.int .i64 0, .int .i64 0]) 80 (0, 0)))))
      rfl (by kernel_rfl) (by kernel_rfl) (by kernel_rfl) ⟨h4.drew, fun h => h, fun h => h, fun h => h, fun h => by cases h⟩ ?_ ?_
    · intro i o b u w' ho hbi hall hU hW K hK
      have hA : actOf 36 u = ⟨#[u 0, u 1, u 2, u 3, u 4, u 5, u 6, u 7, u 8, u 9, u 10, u 11, u 12, u 13, u 14, u 15, u 16, u 17, u 18, u 19, u 20, u 21, u 22, u 23, u 24, u 25, u 26, u 27, u 28, u 29, u 30, u 31, u 32, u 33, u 34, u 35], []⟩ := rfl
      rw [hA] at hK ⊢
      have c2 : u 2 = .pointer (some ⟨w.heap.size, 0, none⟩) := hU.oldB 2 (by kernel_rfl)
      have c3 : u 3 = .pointer (some ⟨w.heap.size + 1, 0, none⟩) := hU.oldB 3 (by kernel_rfl)
      have c6 : u 6 = .pointer (some ⟨w.heap.size + 1 + 1 + 1, 0, none⟩) := hU.oldB 6 (by kernel_rfl)
      have got := hU.got
      clear hU hA h4
      obtain ⟨hF, hc0, hc1, hst, hal⟩ := hW.out
      obtain ⟨x0, x1, x2, x3⟩ := four_cells hF.hx
      obtain ⟨y0, y1, y2, y3⟩ := four_cells hF.hy
      obtain ⟨ex00, ex01, _, _⟩ := two_cells (hF.hex (Bre, F3) (by simp)).2
      have HC0 : Hid (b 9 = true → b 4 = true) := hc0
      have HC1 : Hid (b 10 = true → b 9 = true) := hc1
      have HST : Hid (b 12 = true → b 11 = true) := hst
      have HAL := hidMk hal
      have HKK := hidMk hK
      have HF := hidMk hF
      clear hK hF hW hc0 hc1 hst hal
      rcases i with _ | _ | _ | _ | _ | _ | _ | _ | _ | _ | _ | _ | _ | i
      · cases ho
        go_simp
        exact HKK.out _ _ _ (by rw [c2, c3, c6]; rfl) (fun _ => rfl) ⟨HF.out, HC0.out, HC1.out, HST.out, HAL.out⟩
      · cases ho
        have g20 : u 20 = .pointer (some ⟨w.heap.size, 0, none⟩) := got 0 20 rfl (hall ⟨0, .data⟩ (by simp) rfl)
        go_simp
        exact HKK.out _ _ _ (by rw [c2, c3, c6, g20]; rfl) (fun _ => rfl) ⟨HF.out, HC0.out, HC1.out, HST.out, HAL.out⟩
      · cases ho
        go_simp
        exact HKK.out _ _ _ (by rw [c2, c3, c6]; rfl) (fun _ => rfl) ⟨HF.out, HC0.out, HC1.out, HST.out, HAL.out⟩
      · cases ho
        have g22 : u 22 = .pointer (some ⟨w.heap.size + 1, 2, none⟩) := got 2 22 rfl (hall ⟨2, .data⟩ (by simp) rfl)
        go_simp
        exact HKK.out _ _ _ (by rw [c2, c3, c6, g22]; rfl) (fun _ => rfl) ⟨HF.out, HC0.out, HC1.out, HST.out, HAL.out⟩
      · cases ho
        have g21 : u 21 = .agg #[.int .i64 (x.re).n, .int .i64 (x.re).d] := got 1 21 rfl (hall ⟨1, .data⟩ (by simp) rfl)
        have g23 : u 23 = .agg #[.int .i64 (y.im).n, .int .i64 (y.im).d] := got 3 23 rfl (hall ⟨3, .data⟩ (by simp) rfl)
        have n9 : b 9 = false := by
          cases h : b 9 with
          | false => rfl
          | true => rw [HC0.out h] at hbi; cases hbi
        have n10 : b 10 = false := by
          cases h : b 10 with
          | false => rfl
          | true => rw [HC1.out h] at n9; cases n9
        have hfl : (if b 10 = true then ((((((false || B1) || B2) || B3) || B4) || B5) || B6) else (if b 9 = true then (((((false || B1) || B2) || B3) || B4) || B5) else (if b 4 = true then ((((false || B1) || B2) || B3) || B4) else (((false || B1) || B2) || B3)))) = (((false || B1) || B2) || B3) := by simp [n9, n10, hbi]
        have hfl2 : (if upB b 4 10 = true then ((((((false || B1) || B2) || B3) || B4) || B5) || B6) else (if upB b 4 9 = true then (((((false || B1) || B2) || B3) || B4) || B5) else (if upB b 4 4 = true then ((((false || B1) || B2) || B3) || B4) else (((false || B1) || B2) || B3)))) = ((((false || B1) || B2) || B3) || B4) := by simp [upB, n9, n10]
        have hr := HF.out.hr
        rw [hfl] at hr
        have HR := hidMk hr
        have HFL := hidMk hfl2
        clear hr hfl hfl2
        go_simp
        refine (C4.out _ _ _ HR.out).mono ?_
        rintro e w2 ⟨rfl, hr2, hg2⟩
        refine HKK.out _ _ _ (by rw [c2, c3, c6, g21, g23]; rfl) (fun _ => rfl) ⟨?_, ?_⟩
        · rw [HFL.out]; exact HF.out.grown hg2 hr2
        refine ⟨fun _ => rfl, HC1.out, HST.out, fun h => ?_⟩
        obtain ⟨B, q1, q2, q3, q4⟩ := HAL.out h
        exact ⟨B, q1, q2, q3, (hg2.block B (Array.getElem?_eq_some_iff.1 q4).1 (by simp; omega)).trans q4⟩
      · cases ho
        go_simp
        exact HKK.out _ _ _ (by rw [c2, c3, c6]; rfl) (fun _ => rfl) ⟨HF.out, HC0.out, HC1.out, HST.out, HAL.out⟩
      · cases ho
        have g25 : u 25 = .pointer (some ⟨w.heap.size, 2, none⟩) := got 5 25 rfl (hall ⟨5, .data⟩ (by simp) rfl)
        go_simp
        exact HKK.out _ _ _ (by rw [c2, c3, c6, g25]; rfl) (fun _ => rfl) ⟨HF.out, HC0.out, HC1.out, HST.out, HAL.out⟩
      · cases ho
        go_simp
        exact HKK.out _ _ _ (by rw [c2, c3, c6]; rfl) (fun _ => rfl) ⟨HF.out, HC0.out, HC1.out, HST.out, HAL.out⟩
      · cases ho
        have g27 : u 27 = .pointer (some ⟨w.heap.size + 1, 0, none⟩) := got 7 27 rfl (hall ⟨7, .data⟩ (by simp) rfl)
        go_simp
        exact HKK.out _ _ _ (by rw [c2, c3, c6, g27]; rfl) (fun _ => rfl) ⟨HF.out, HC0.out, HC1.out, HST.out, HAL.out⟩
      · cases ho
        have g26 : u 26 = .agg #[.int .i64 (x.im).n, .int .i64 (x.im).d] := got 6 26 rfl (hall ⟨6, .data⟩ (by simp) rfl)
        have g28 : u 28 = .agg #[.int .i64 (y.re).n, .int .i64 (y.re).d] := got 8 28 rfl (hall ⟨8, .data⟩ (by simp) rfl)
        have n10 : b 10 = false := by
          cases h : b 10 with
          | false => rfl
          | true => rw [HC1.out h] at hbi; cases hbi
        have y4 : b 4 = true := hall ⟨4, .chain⟩ (by simp) rfl
        have hfl : (if b 10 = true then ((((((false || B1) || B2) || B3) || B4) || B5) || B6) else (if b 9 = true then (((((false || B1) || B2) || B3) || B4) || B5) else (if b 4 = true then ((((false || B1) || B2) || B3) || B4) else (((false || B1) || B2) || B3)))) = ((((false || B1) || B2) || B3) || B4) := by simp [n10, hbi, y4]
        have hfl2 : (if upB b 9 10 = true then ((((((false || B1) || B2) || B3) || B4) || B5) || B6) else (if upB b 9 9 = true then (((((false || B1) || B2) || B3) || B4) || B5) else (if upB b 9 4 = true then ((((false || B1) || B2) || B3) || B4) else (((false || B1) || B2) || B3)))) = (((((false || B1) || B2) || B3) || B4) || B5) := by simp [upB, n10]
        have hr := HF.out.hr
        rw [hfl] at hr
        have HR := hidMk hr
        have HFL := hidMk hfl2
        clear hr hfl hfl2
        go_simp
        refine (C5.out _ _ _ HR.out).mono ?_
        rintro e w2 ⟨rfl, hr2, hg2⟩
        refine HKK.out _ _ _ (by rw [c2, c3, c6, g26, g28]; rfl) (fun _ => rfl) ⟨?_, ?_⟩
        · rw [HFL.out]; exact HF.out.grown hg2 hr2
        refine ⟨fun _ => y4, fun _ => rfl, HST.out, fun h => ?_⟩
        obtain ⟨B, q1, q2, q3, q4⟩ := HAL.out h
        exact ⟨B, q1, q2, q3, (hg2.block B (Array.getElem?_eq_some_iff.1 q4).1 (by simp; omega)).trans q4⟩
      · cases ho
        have g24 : u 24 = .agg #[.int .i64 (F4).n, .int .i64 (F4).d] := got 4 24 rfl (hall ⟨4, .data⟩ (by simp) rfl)
        have g29 : u 29 = .agg #[.int .i64 (F5).n, .int .i64 (F5).d] := got 9 29 rfl (hall ⟨9, .data⟩ (by simp) rfl)
        have y9 : b 9 = true := hall ⟨9, .chain⟩ (by simp) rfl
        have hfl : (if b 10 = true then ((((((false || B1) || B2) || B3) || B4) || B5) || B6) else (if b 9 = true then (((((false || B1) || B2) || B3) || B4) || B5) else (if b 4 = true then ((((false || B1) || B2) || B3) || B4) else (((false || B1) || B2) || B3)))) = (((((false || B1) || B2) || B3) || B4) || B5) := by simp [hbi, y9]
        have hfl2 : (if upB b 10 10 = true then ((((((false || B1) || B2) || B3) || B4) || B5) || B6) else (if upB b 10 9 = true then (((((false || B1) || B2) || B3) || B4) || B5) else (if upB b 10 4 = true then ((((false || B1) || B2) || B3) || B4) else (((false || B1) || B2) || B3)))) = ((((((false || B1) || B2) || B3) || B4) || B5) || B6) := by simp [upB, ]
        have hr := HF.out.hr
        rw [hfl] at hr
        have HR := hidMk hr
        have HFL := hidMk hfl2
        clear hr hfl hfl2
        go_simp
        refine (C6.out _ _ _ HR.out).mono ?_
        rintro e w2 ⟨rfl, hr2, hg2⟩
        refine HKK.out _ _ _ (by rw [c2, c3, c6, g24, g29]; rfl) (fun _ => rfl) ⟨?_, ?_⟩
        · rw [HFL.out]; exact HF.out.grown hg2 hr2
        refine ⟨HC0.out, fun _ => y9, HST.out, fun h => ?_⟩
        obtain ⟨B, q1, q2, q3, q4⟩ := HAL.out h
        exact ⟨B, q1, q2, q3, (hg2.block B (Array.getElem?_eq_some_iff.1 q4).1 (by simp; omega)).trans q4⟩
      · cases ho
        have ns : b 12 = false := by
          cases h : b 12 with
          | false => rfl
          | true => rw [HST.out h] at hbi; cases hbi
        have NS := hidMk ns
        clear ns
        go_simp
        refine HKK.out _ _ _ (by rw [c2, c3, c6]; rfl) (fun _ => trivial) ⟨HF.out.below (fr_below w' _), HC0.out, HC1.out, fun _ => rfl, fun _ => ⟨w'.heap.size, rfl, HF.out.hr.lt, fun q hq => (Array.getElem?_eq_some_iff.1 (HF.out.hex q hq).2).1, ?_⟩⟩
        have e : (if upB b 11 12 = true then (#[.int .i64 (F6).n, .int .i64 (F6).d] : Array Value) else #[.int .i64 0, .int .i64 0]) = #[.int .i64 0, .int .i64 0] := by simp [upB, NS.out]
        rw [e]
        exact heap_alloc_new w' _
      · cases ho
        have g30 : u 30 = .agg #[.int .i64 (F6).n, .int .i64 (F6).d] := got 10 30 rfl (hall ⟨10, .data⟩ (by simp) rfl)
        obtain ⟨B, q1, q2, q3, q4⟩ := HAL.out (hall ⟨11, .data⟩ (by simp) rfl)
        rw [if_neg (by rw [hbi]; decide)] at q4
        obtain ⟨s0, s1, fs0, fs1⟩ := two_cells q4
        have Q4 := hidMk q4
        have YA : Hid (b 11 = true) := hall ⟨11, .data⟩ (by simp) rfl
        clear q4
        go_simp
        refine HKK.out undef _ _ (by rw [c2, c3, c6, g30, q1]; rfl) (fun h => by cases h) ⟨?_, HC0.out, HC1.out, fun _ => YA.out, fun _ => ⟨B, q1, q2, q3, ?_⟩⟩
        · exact HF.out.set q2 q3 _ _
        · exact two_set Q4.out _ _
      · simp at ho
    · intro b2 u2 w2 hb2 hU2 hW2
      obtain ⟨hF2, _, _, _, hal2⟩ := hW2.out
      obtain ⟨Bim, q1, q2, _, q4⟩ := hal2 (hb2 11 (by decide))
      rw [if_pos (hb2 12 (by decide))] at q4
      rw [if_pos (hb2 10 (by decide))] at hF2
      have h5 := hF2.more q2 q4
      have k2 : u2 2 = .pointer (some ⟨w.heap.size, 0, none⟩) := hU2.oldB 2 (by kernel_rfl)
      have k3 : u2 3 = .pointer (some ⟨w.heap.size + 1, 0, none⟩) := hU2.oldB 3 (by kernel_rfl)
      have k4 : u2 4 = .pointer (some ⟨w.heap.size + 1 + 1, 0, none⟩) := hU2.oldB 4 (by kernel_rfl)
      have k5 : u2 5 = .nilIface := hU2.oldB 5 (by kernel_rfl)
      have k6 : u2 6 = .pointer (some ⟨w.heap.size + 1 + 1 + 1, 0, none⟩) := hU2.oldB 6 (by kernel_rfl)
      have k7 : u2 7 = .pointer (some ⟨Bre, 0, none⟩) := hU2.oldB 7 (by kernel_rfl)
      have hA2 : actOf 36 u2 = ⟨#[u2 0, u2 1, u2 2, u2 3, u2 4, u2 5, u2 6, u2 7, u2 8, u2 9, u2 10, u2 11, u2 12, u2 13, u2 14, u2 15, u2 16, u2 17, u2 18, u2 19, u2 20, u2 21, u2 22, u2 23, u2 24, u2 25, u2 26, u2 27, u2 28, u2 29, u2 30, u2 31, u2 32, u2 33, u2 34, u2 35], []⟩ := rfl
      rw [hA2, k2, k3, k4, k5, k6, k7, q1]
      clear hA2 k2 k3 k4 k5 k6 k7 q1 hW2 hU2 hb2 hal2 hF2 q2 q4
      obtain ⟨p, q, r, s, E, hO, hE⟩ := outV_parts aB ((((((false || B1) || B2) || B3) || B4) || B5) || B6) ⟨F3, F6⟩
      have hlt := h5.hr.lt
      have hRR := h5.hR
      have cn : Calls Tryz.prog 176 #[.pointer (some ⟨w.heap.size + 1 + 1 + 1, 0, none⟩), .agg #[.int .i64 F3.n, .int .i64 F3.d], .agg #[.int .i64 F6.n, .int .i64 F6.d]] w2 fun e w' => e = .returned (outV aB ((((((false || B1) || B2) || B3) || B4) || B5) || B6) ⟨F3, F6⟩) ∧ Below w2.heap.size w2 w' :=
        number_any N _ aZ aB _ F3 F6 w2 (HS.out.below h5.hb hN) (Nat.le_trans hN h5.hb.size) h5.hr
      rw [hO] at cn
      have HO2 := hidMk (HO.out.trans hO)
      obtain ⟨e0, e1, _, _⟩ := two_cells (h5.hex (Bre, F3) (by simp)).2
      obtain ⟨e2, e3, _, _⟩ := two_cells (h5.hex (Bim, F6) (by simp)).2
      have H5 := hidMk h5
      clear h5 hO HO HS C1 C2 C3 C4 C5 C6
      go_wp2_with fail
      refine cn.mono ?_
      rintro e w3 ⟨rfl, hb3⟩
      have hz3 := (hb3.block _ (by omega)).trans H5.out.hz
      have hb03 := H5.out.hb.trans (hb3.mono H5.out.hb.size)
      obtain ⟨z0, z1, z2, z3⟩ := four_cells hz3
      obtain ⟨f0, f1, f2, f3⟩ := four_frozen hz3
      clear cn e0 e1 e2 e3 hz3 hb3 H5
      go_wp2_with fail
      refine bodyPost_ret (v := .tuple #[.agg #[.int .i64 p, .int .i64 q, .int .i64 r, .int .i64 s], E]) (by simp [results, Tryz.results170, go_sem, z0, z1, z2, z3]) rfl ?_
      rw [HO2.out]
      exact ⟨rfl, below_four hb03 (by omega) _ _ _ _⟩
end Go.Proofs.YtodabmkcihafhaaGreatDoor

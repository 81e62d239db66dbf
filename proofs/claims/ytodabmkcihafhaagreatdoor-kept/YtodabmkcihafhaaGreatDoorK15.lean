import Derived.RangeFuncNested
import Derived.RangeFuncBound
import Derived.RangeFuncCalls
import Derived.RangeFuncLeaves
import Derived.Shelf.Abstract
import Derived.Shelf.RegionOpen
import Derived.WalkKit
import Derived.OwnWalkIn
import Derived.TacticsInMore
import Derived.LoopNIn
import Derived.LoopIn
import Derived.OrdersIn
import Derived.Test.YtodabmkcihafhaaGreatDoorK14
import Derived.Test.YtodabmkcihafhaaGreatDoorK10

/- The program's workPart. -/
namespace Go.Proofs.YtodabmkcihafhaaGreatDoor
open Go.RowKit
set_option linter.unusedVariables false

theorem Pg.drew {N : Nat} {aZ aB : Addr} {P m : Nat} {names : List (Int × Num)} {w : World} (h : Pg N aZ aB P m names w) : Pg N aZ aB P m names w.drew := h.below ((Below.refl _ w).drew)
/-- A call's result (block w0.heap.size), and a copy behind it (block w0.heap.size + 1). -/
structure Res3 (w0 : World) (cs : Array Value) (t : TypeId) (w : World) : Prop where
  hz : w.heap[w0.heap.size]? = some (.cells #[.int .i64 0, .int .i64 0, .int .i64 0, .int .i64 0] 82 (0, 0))
  hx : w.heap[w0.heap.size + 1]? = some (.cells cs t (0, 0))
  hb : Below w0.heap.size w0 w
theorem Res3.below {w0 w w' : World} {cs : Array Value} {t : TypeId} (h : Res3 w0 cs t w) (g : Below w.heap.size w w') : Res3 w0 cs t w' :=
  ⟨(g.block _ (Array.getElem?_eq_some_iff.1 h.hz).1).trans h.hz, (g.block _ (Array.getElem?_eq_some_iff.1 h.hx).1).trans h.hx, h.hb.trans (g.mono h.hb.size)⟩
theorem Res3.drew {w0 w : World} {cs : Array Value} {t : TypeId} (h : Res3 w0 cs t w) : Res3 w0 cs t w.drew := ⟨h.hz, h.hx, h.hb.drew⟩
theorem Res3.new (w : World) (cs : Array Value) (t : TypeId) : Res3 w cs t ((w.alloc (.cells #[.int .i64 0, .int .i64 0, .int .i64 0, .int .i64 0] 82)).alloc (.cells cs t)) := by
  refine ⟨?_, ?_, ((Below.refl _ w).alloc (Nat.le_refl _) _).alloc (by simp) _⟩
  · rw [Below.heap_alloc _ _ _ (by simp)]
    exact heap_alloc_new w _
  · have := heap_alloc_new (w.alloc (.cells #[.int .i64 0, .int .i64 0, .int .i64 0, .int .i64 0] 82)) (.cells cs t)
    simpa using this
theorem one_cell {w : World} {B : Nat} {a : Value} {t : TypeId} (h : w.heap[B]? = some (.cells #[a] t (0, 0))) : w.cell? ⟨B, 0, none⟩ = some a := by
  simp [World.cell?, h]

set_option maxHeartbeats 4000000 in
set_option maxRecDepth 100000 in
theorem wp_num (N : Nat) (aZ aB : Addr) (P m : Nat) (names : List (Int × Num)) (l : List Int) (p : Nat) (he : NumeOk l) : WP N aZ aB P m names (.num l p) := by
  intro w hP
  obtain ⟨q1, q2, q3⟩ := qu_num he
  have C1 := hidMk (fun W => quarters_any l W he)
  have C2 : Hid (∀ W, Calls Tryz.prog 121 #[.int .i64 (quP l)] W fun e w' => e = .returned (.agg #[.int .i64 (numeN l).re.n, .int .i64 (numeN l).re.d, .int .i64 0, .int .i64 1]) ∧ Below W.heap.size W w') := fun W => by
    have := quarters_of (quP l) W q2 q3
    rw [q1] at this
    exact this
  have HV : Hid (ansV (evT (envOf names) (.num l p)) = .tuple #[.agg #[.int .i64 (numeN l).re.n, .int .i64 (numeN l).re.d, .int .i64 0, .int .i64 1], .int .i64 0, .int .i64 0]) := rfl
  have h0 := Res3.new w #[.string (encAll l)] 178
  have e1 : exV (.num l p) = .iface 178 (.agg #[.string (encAll l)]) := rfl
  rw [e1]
  generalize ansV (evT (envOf names) (.num l p)) = V at *
  generalize (numeN l).re = F at *
  generalize quP l = Q at *
  generalize encAll l = s at *
  have t1 := taNumeralNumeral
  clear he hP q1 q2 q3 e1
  go_enter Tryz.func83, Tryz.ntmps83
  go_wp2_with fail
  generalize (w.alloc _).alloc _ = W at *
  refine (C1.out _).mono ?_
  rintro e w1 ⟨rfl, hb1⟩
  have h1 := h0.below hb1
  clear h0 hb1
  go_wp2_with fail
  refine (C2.out _).mono ?_
  rintro e w2 ⟨rfl, hb2⟩
  have h2 := h1.below hb2
  clear h1 hb2
  obtain ⟨z0, z1, z2, z3⟩ := four_cells h2.hz
  obtain ⟨f0, f1, f2, f3⟩ := four_frozen h2.hz
  have H2 := hidMk h2
  clear h2
  go_wp2_with fail
  refine bp_gen (fun W' => W'.heap[w.heap.size]? = some (.cells #[.int .i64 F.n, .int .i64 F.d, .int .i64 0, .int .i64 1] 82 (0, 0)) ∧ Below w.heap.size w W') ⟨four_set H2.out.hz _ _ _ _, below_four H2.out.hb (Nat.le_refl _) _ _ _ _⟩ ?_
  rintro W ⟨hz, hb⟩
  obtain ⟨z0, z1, z2, z3⟩ := four_cells hz
  rw [HV.out]
  exact bodyPost_ret (v := .tuple #[.agg #[.int .i64 F.n, .int .i64 F.d, .int .i64 0, .int .i64 1], .int .i64 0, .int .i64 0]) (by simp [results, Tryz.results83, go_sem, z0, z1, z2, z3]) rfl ⟨rfl, hb⟩

set_option maxHeartbeats 4000000 in
set_option maxRecDepth 100000 in
theorem wp_unit (N : Nat) (aZ aB : Addr) (P m : Nat) (names : List (Int × Num)) (p : Nat) : WP N aZ aB P m names (.leaf 105 p) := by
  intro w hP
  have C1 := hidMk (fun W => unit_any W)
  have h0 := Res3.new w #[] 183
  have e1 : exV (.leaf 105 p) = .iface 183 (.agg #[]) := rfl
  have HV : Hid (ansV (evT (envOf names) (.leaf 105 p)) = .tuple #[.agg #[.int .i64 0, .int .i64 1, .int .i64 1, .int .i64 1], .int .i64 0, .int .i64 0]) := rfl
  rw [e1]
  generalize ansV (evT (envOf names) (.leaf 105 p)) = V at *
  have t1 := taUnitNumeral
  have t2 := taUnitUnit
  clear hP e1
  go_enter Tryz.func83, Tryz.ntmps83
  go_wp2_with fail
  generalize (w.alloc _).alloc _ = W at *
  refine (C1.out _).mono ?_
  rintro e w2 ⟨rfl, hb2⟩
  have h2 := h0.below hb2
  clear h0 hb2
  obtain ⟨z0, z1, z2, z3⟩ := four_cells h2.hz
  obtain ⟨f0, f1, f2, f3⟩ := four_frozen h2.hz
  have H2 := hidMk h2
  clear h2
  go_wp2_with fail
  refine bp_gen (fun W' => W'.heap[w.heap.size]? = some (.cells #[.int .i64 0, .int .i64 1, .int .i64 1, .int .i64 1] 82 (0, 0)) ∧ Below w.heap.size w W') ⟨four_set H2.out.hz _ _ _ _, below_four H2.out.hb (Nat.le_refl _) _ _ _ _⟩ ?_
  rintro W ⟨hz, hb⟩
  obtain ⟨z0, z1, z2, z3⟩ := four_cells hz
  rw [HV.out]
  exact bodyPost_ret (v := .tuple #[.agg #[.int .i64 0, .int .i64 1, .int .i64 1, .int .i64 1], .int .i64 0, .int .i64 0]) (by simp [results, Tryz.results83, go_sem, z0, z1, z2, z3]) rfl ⟨rfl, hb⟩

set_option maxHeartbeats 4000000 in
set_option maxRecDepth 100000 in
theorem wp_name (N : Nat) (aZ aB : Addr) (P m : Nat) (names : List (Int × Num)) (c : Int) (p : Nat) (hc : c ≠ 105) (x : Num) (hx : envOf names c = some x) : WP N aZ aB P m names (.leaf c p) := by
  intro w hP
  have h0 := Res3.new w #[.int .i32 c, .int .i64 p] 185
  have e1 : exV (.leaf c p) = .iface 185 (.agg #[.int .i32 c, .int .i64 p]) := by simp only [exV]; rw [if_neg hc]
  have HV : Hid (ansV (evT (envOf names) (.leaf c p)) = .tuple #[.agg #[.int .i64 x.re.n, .int .i64 x.re.d, .int .i64 x.im.n, .int .i64 x.im.d], .int .i64 0, .int .i64 0]) := by
    show _ = _
    simp only [evT, leafN, if_neg hc, hx]
    rfl
  rw [e1]
  generalize ansV (evT (envOf names) (.leaf c p)) = V at *
  have t1 := taNameNumeral
  have t2 := taNameUnit
  have t3 := taNameName
  have hlook : ∀ W, Pg N aZ aB P m names W → (Instr.lookup 64 (.map (some m)) (.int .i32 c) false).run Tryz.prog W = .ok (.agg #[.int .i64 x.re.n, .int .i64 x.re.d, .int .i64 x.im.n, .int .i64 x.im.d]) W := fun W hW => by
    have := hW.look c false
    rw [this]
    unfold envV
    rw [hx]
    rfl
  have HL := hidMk hlook
  have HPG := hidMk hP
  clear hP e1 hlook hx
  go_enter Tryz.func83, Tryz.ntmps83
  go_wp2_with fail
  generalize (w.alloc _).alloc _ = W at *
  have hPW := (HPG.out.below h0.hb).drew
  have lk := HL.out _ hPW
  have pc := hPW.hp
  have h1 := h0.drew
  obtain ⟨x0, x1, _, _⟩ := two_cells h1.hx
  obtain ⟨z0, z1, z2, z3⟩ := four_cells h1.hz
  obtain ⟨f0, f1, f2, f3⟩ := four_frozen h1.hz
  obtain ⟨x0', x1', _, _⟩ := two_cells h0.hx
  have pc' := (HPG.out.below h0.hb).hp
  obtain ⟨z0', z1', z2', z3'⟩ := four_cells h0.hz
  obtain ⟨f0', f1', f2', f3'⟩ := four_frozen h0.hz
  have H1 := hidMk h1
  clear h0 h1 hPW
  go_region
  go_wp2_with fail
  refine bp_gen (fun W' => W'.heap[w.heap.size]? = some (.cells #[.int .i64 x.re.n, .int .i64 x.re.d, .int .i64 x.im.n, .int .i64 x.im.d] 82 (0, 0)) ∧ Below w.heap.size w W') ⟨four_set H1.out.hz _ _ _ _, below_four H1.out.hb (Nat.le_refl _) _ _ _ _⟩ ?_
  rintro W ⟨hz, hb⟩
  obtain ⟨z0, z1, z2, z3⟩ := four_cells hz
  rw [HV.out]
  exact bodyPost_ret (v := .tuple #[.agg #[.int .i64 x.re.n, .int .i64 x.re.d, .int .i64 x.im.n, .int .i64 x.im.d], .int .i64 0, .int .i64 0]) (by simp [results, Tryz.results83, go_sem, z0, z1, z2, z3]) rfl ⟨rfl, hb⟩
end Go.Proofs.YtodabmkcihafhaaGreatDoor

/- The program's workPart, the rest of it: signs ahead and behind, sums and products; workPart whole. -/
namespace Go.Proofs.YtodabmkcihafhaaGreatDoor
open Go.RowKit
set_option linter.unusedVariables false

theorem env_ok {names : List (Int × Num)} (hn : ∀ q ∈ names, q.2.Ok) : ∀ c x, envOf names c = some x → x.Ok := fun c x h => by
  obtain ⟨q, hq, rfl⟩ := env_mem h
  exact hn q hq
theorem ansN_bd {env : Env} {e : Ex} (he : ∀ c x, env c = some x → x.Ok) (h : ExOk e) : (-999999 ≤ (ansN (evT env e)).re.n ∧ (ansN (evT env e)).re.n ≤ 999999) ∧ (-999999 ≤ (ansN (evT env e)).im.n ∧ (ansN (evT env e)).im.n ≤ 999999) := by
  obtain ⟨o, _⟩ := ev_ok he e h
  cases hv : evT env e with
  | ok x =>
    obtain ⟨h1, h2⟩ := o x hv
    exact ⟨⟨h1.2.2.1, h1.2.2.2.1⟩, h2.2.2.1, h2.2.2.2.1⟩
  | err q p => exact ⟨⟨show -999999 ≤ (0 : Int) by decide, show (0 : Int) ≤ 999999 by decide⟩, show -999999 ≤ (0 : Int) by decide, show (0 : Int) ≤ 999999 by decide⟩
theorem ans_neg (env : Env) (e : Ex) (p : Nat) : ansV (evT env (.un 110 p e)) = .tuple #[.agg #[.int .i64 (ansN (evT env e)).re.neg.n, .int .i64 (ansN (evT env e)).re.neg.d, .int .i64 (ansN (evT env e)).im.neg.n, .int .i64 (ansN (evT env e)).im.neg.d], .int .i64 (ansE (evT env e)), .int .i64 (ansP (evT env e))] := by
  simp only [evT]
  cases evT env e with
  | ok x => rfl
  | err q r => rfl

set_option maxHeartbeats 4000000 in
set_option maxRecDepth 100000 in
theorem wp_neg (N : Nat) (aZ aB : Addr) (P m : Nat) (names : List (Int × Num)) (e : Ex) (p : Nat) (hn : ∀ q ∈ names, q.2.Ok) (he : ExOk e) (ie : WP N aZ aB P m names e) : WP N aZ aB P m names (.un 110 p e) := by
  intro w hP
  have hbd := hidMk (ansN_bd (env_ok hn) he)
  have CL : Hid (∀ W, Below w.heap.size w W → Calls Tryz.prog 83 #[.pointer (some ⟨P, 0, none⟩), exV e] W fun x w' => x = .returned (ansV (evT (envOf names) e)) ∧ Below W.heap.size W w') := fun W hb => ie W (hP.below hb)
  have HV := hidMk (ans_neg (envOf names) e p)
  have h0 := Res3.new w #[exV e] 191
  have e1 : exV (.un 110 p e) = .iface 191 (.agg #[exV e]) := rfl
  have hII := hidMk (exV_iface e)
  rw [e1]
  generalize ansV (evT (envOf names) (.un 110 p e)) = V at *
  generalize evT (envOf names) e = al at *
  generalize exV e = vl at *
  have t1 := taNegatedNumeral
  have t2 := taNegatedUnit
  have t3 := taNegatedName
  have t4 := taNegatedNegated
  clear hn he ie hP e1
  obtain ⟨T, yy, rfl⟩ := hII.out
  go_enter Tryz.func83, Tryz.ntmps83
  go_wp2_with fail
  generalize (w.alloc _).alloc _ = W at *
  have c0 := one_cell h0.hx
  have H0 := hidMk h0
  clear h0
  go_wp2_with fail
  refine (CL.out _ H0.out.hb).mono ?_
  rintro e w1 ⟨rfl, hb1⟩
  have h1 := H0.out.below hb1
  clear H0 hb1 CL c0
  unfold ansV
  have HA1 : Hid (∃ x q s, ansN al = x ∧ ansE al = q ∧ ansP al = s) := ⟨_, _, _, rfl, rfl, rfl⟩
  obtain ⟨x, q, s, hx, hq, hs⟩ := HA1.out
  have hv := HV.out
  have hb := hbd.out
  rw [hx] at hb
  rw [hx, hq, hs] at hv
  rw [hx, hq, hs]
  have HV2 := hidMk hv
  have HB := hidMk hb
  clear hx hq hs HA1 hv hb HV hbd
  go_upto_region 14 with fail
  have h2 := h1.below (fr_below w1 (.cells #[.int .i64 x.re.n, .int .i64 x.re.d, .int .i64 x.im.n, .int .i64 x.im.d] 82))
  have hx2 := heap_alloc_new w1 (.cells #[.int .i64 x.re.n, .int .i64 x.re.d, .int .i64 x.im.n, .int .i64 x.im.d] 82)
  generalize w1.alloc _ = W2 at *
  generalize w1.heap.size = bx at *
  have H2 := hidMk h2
  clear h1 h2
  obtain ⟨x0, x1, x2, x3⟩ := four_cells hx2
  clear hx2
  go_wp2_with fail
  refine (neg_bd x _ HB.out).mono ?_
  rintro e w5 ⟨rfl, hb5⟩
  have h5 := H2.out.below hb5
  clear H2 x0 x1 x2 x3 hb5
  generalize x.re.neg = F at *
  generalize x.im.neg = G at *
  obtain ⟨z0, z1, z2, z3⟩ := four_cells h5.hz
  obtain ⟨f0, f1, f2, f3⟩ := four_frozen h5.hz
  have H5 := hidMk h5
  clear h5
  go_wp2_with fail
  refine bp_gen (fun W' => W'.heap[w.heap.size]? = some (.cells #[.int .i64 F.n, .int .i64 F.d, .int .i64 G.n, .int .i64 G.d] 82 (0, 0)) ∧ Below w.heap.size w W') ⟨four_set H5.out.hz _ _ _ _, below_four H5.out.hb (Nat.le_refl _) _ _ _ _⟩ ?_
  rintro W ⟨hz, hb⟩
  obtain ⟨z0, z1, z2, z3⟩ := four_cells hz
  rw [HV2.out]
  exact bodyPost_ret (v := .tuple #[.agg #[.int .i64 F.n, .int .i64 F.d, .int .i64 G.n, .int .i64 G.d], .int .i64 q, .int .i64 s]) (by simp [results, Tryz.results83, go_sem, z0, z1, z2, z3]) rfl ⟨rfl, hb⟩

theorem ans_parts (a : Ans) : ∃ (z : Num) (q r : Int), ansV a = .tuple #[.agg #[.int .i64 z.re.n, .int .i64 z.re.d, .int .i64 z.im.n, .int .i64 z.im.d], .int .i64 q, .int .i64 r] := ⟨_, _, _, rfl⟩

set_option maxHeartbeats 4000000 in
set_option maxRecDepth 100000 in
theorem wp_mark (N : Nat) (aZ aB : Addr) (P m : Nat) (names : List (Int × Num)) (e : Ex) (c : Int) (p : Nat) (hn : ∀ q ∈ names, q.2.Ok) (he : ExOk e) (hc : c = 178 ∨ c = 8242) (ie : WP N aZ aB P m names e) : WP N aZ aB P m names (.un c p e) := by
  intro w hP
  obtain ⟨z, q, r, hv⟩ := ans_parts (evT (envOf names) (.un c p e))
  have CL : Hid (∀ W, Below w.heap.size w W → Calls Tryz.prog 125 #[.pointer (some ⟨P, 0, none⟩), .agg #[exV e, .int .i32 c, .int .i64 p]] W fun x w' => x = .returned (.tuple #[.agg #[.int .i64 z.re.n, .int .i64 z.re.d, .int .i64 z.im.n, .int .i64 z.im.d], .int .i64 q, .int .i64 r]) ∧ Below W.heap.size W w') := fun W hb => by
    have := workMarked_of N aZ aB P m names e c p hn he hc ie W (hP.below hb)
    rw [hv] at this
    exact this
  have h0 := Res3.new w #[exV e, .int .i32 c, .int .i64 p] 187
  have e1 : exV (.un c p e) = .iface 187 (.agg #[exV e, .int .i32 c, .int .i64 p]) := by simp only [exV]; rw [if_neg (by omega)]
  have hII := hidMk (exV_iface e)
  have HV := hidMk hv
  rw [e1]
  generalize ansV (evT (envOf names) (.un c p e)) = V at *
  generalize exV e = vl at *
  have t1 := taMarkedNumeral
  have t2 := taMarkedUnit
  have t3 := taMarkedName
  have t4 := taMarkedNegated
  have t5 := taMarkedMarked
  clear hn he hc ie hP e1 hv
  obtain ⟨T, yy, rfl⟩ := hII.out
  go_enter Tryz.func83, Tryz.ntmps83
  go_wp2_with fail
  generalize (w.alloc _).alloc _ = W at *
  obtain ⟨c0, c1, c2⟩ := three_cells h0.hx
  have H0 := hidMk h0
  clear h0
  go_wp2_with fail
  refine (CL.out _ H0.out.hb).mono ?_
  rintro e w1 ⟨rfl, hb1⟩
  have h5 := H0.out.below hb1
  clear H0 hb1 CL c0 c1 c2
  obtain ⟨z0, z1, z2, z3⟩ := four_cells h5.hz
  obtain ⟨f0, f1, f2, f3⟩ := four_frozen h5.hz
  have H5 := hidMk h5
  clear h5
  go_wp2_with fail
  refine bp_gen (fun W' => W'.heap[w.heap.size]? = some (.cells #[.int .i64 z.re.n, .int .i64 z.re.d, .int .i64 z.im.n, .int .i64 z.im.d] 82 (0, 0)) ∧ Below w.heap.size w W') ⟨four_set H5.out.hz _ _ _ _, below_four H5.out.hb (Nat.le_refl _) _ _ _ _⟩ ?_
  rintro W ⟨hz, hb⟩
  obtain ⟨z0, z1, z2, z3⟩ := four_cells hz
  rw [HV.out]
  exact bodyPost_ret (v := .tuple #[.agg #[.int .i64 z.re.n, .int .i64 z.re.d, .int .i64 z.im.n, .int .i64 z.im.d], .int .i64 q, .int .i64 r]) (by simp [results, Tryz.results83, go_sem, z0, z1, z2, z3]) rfl ⟨rfl, hb⟩

theorem four_cells' {w : World} {B : Nat} {a b c d : Value} {t : TypeId} (h : w.heap[B]? = some (.cells #[a, b, c, d] t (0, 0))) : w.cell? ⟨B, 0, none⟩ = some a ∧ w.cell? ⟨B, 1, none⟩ = some b ∧ w.cell? ⟨B, 2, none⟩ = some c ∧ w.cell? ⟨B, 3, none⟩ = some d := by
  refine ⟨?_, ?_, ?_, ?_⟩ <;> simp [World.cell?, h]
set_option maxHeartbeats 4000000 in
set_option maxRecDepth 100000 in
theorem wp_prod (N : Nat) (aZ aB : Addr) (P m : Nat) (names : List (Int × Num)) (l r : Ex) (c : Int) (p : Nat) (hn : ∀ q ∈ names, q.2.Ok) (hl : ExOk l) (hr : ExOk r) (hc : c = 215 ∨ c = 247) (il : WP N aZ aB P m names l) (ir : WP N aZ aB P m names r) : WP N aZ aB P m names (.bin c p l r) := by
  intro w hP
  obtain ⟨z, q, s, hv⟩ := ans_parts (evT (envOf names) (.bin c p l r))
  have CL : Hid (∀ W, Below w.heap.size w W → Calls Tryz.prog 126 #[.pointer (some ⟨P, 0, none⟩), exV l, .agg #[.int .i32 c, .int .i64 p], exV r] W fun x w' => x = .returned (.tuple #[.agg #[.int .i64 z.re.n, .int .i64 z.re.d, .int .i64 z.im.n, .int .i64 z.im.d], .int .i64 q, .int .i64 s]) ∧ Below W.heap.size W w') := fun W hb => by
    have := workTwo_of N aZ aB P m names l r c p hn hl hr (by omega) il ir W (hP.below hb)
    rw [hv] at this
    exact this
  have h0 := Res3.new w #[exV l, .int .i32 c, .int .i64 p, exV r] 193
  have e1 : exV (.bin c p l r) = .iface 193 (.agg #[exV l, .int .i32 c, .int .i64 p, exV r]) := by simp only [exV]; rw [if_neg (by omega)]
  have hII := hidMk (exV_iface l)
  have hIJ := hidMk (exV_iface r)
  have HV := hidMk hv
  rw [e1]
  generalize ansV (evT (envOf names) (.bin c p l r)) = V at *
  generalize exV l = vl at *
  generalize exV r = vr at *
  have t0 := taProductNumeral
  have t1 := taProductUnit
  have t2 := taProductName
  have t3 := taProductNegated
  have t4 := taProductMarked
  have t5 := taProductProduct
  clear hn hl hr hc il ir hP e1 hv
  obtain ⟨T, yy, rfl⟩ := hII.out
  obtain ⟨T2, yy2, rfl⟩ := hIJ.out
  go_enter Tryz.func83, Tryz.ntmps83
  go_wp2_with fail
  generalize (w.alloc _).alloc _ = W at *
  obtain ⟨c0, c1, c2, c3⟩ := four_cells' h0.hx
  have H0 := hidMk h0
  clear h0
  go_wp2_with fail
  refine (CL.out _ H0.out.hb).mono ?_
  rintro e w1 ⟨rfl, hb1⟩
  have h5 := H0.out.below hb1
  clear H0 hb1 CL c0 c1 c2 c3
  obtain ⟨z0, z1, z2, z3⟩ := four_cells h5.hz
  obtain ⟨f0, f1, f2, f3⟩ := four_frozen h5.hz
  have H5 := hidMk h5
  clear h5
  go_wp2_with fail
  refine bp_gen (fun W' => W'.heap[w.heap.size]? = some (.cells #[.int .i64 z.re.n, .int .i64 z.re.d, .int .i64 z.im.n, .int .i64 z.im.d] 82 (0, 0)) ∧ Below w.heap.size w W') ⟨four_set H5.out.hz _ _ _ _, below_four H5.out.hb (Nat.le_refl _) _ _ _ _⟩ ?_
  rintro W ⟨hz, hb⟩
  obtain ⟨z0, z1, z2, z3⟩ := four_cells hz
  rw [HV.out]
  exact bodyPost_ret (v := .tuple #[.agg #[.int .i64 z.re.n, .int .i64 z.re.d, .int .i64 z.im.n, .int .i64 z.im.d], .int .i64 q, .int .i64 s]) (by simp [results, Tryz.results83, go_sem, z0, z1, z2, z3]) rfl ⟨rfl, hb⟩
set_option maxHeartbeats 4000000 in
set_option maxRecDepth 100000 in
theorem wp_sum (N : Nat) (aZ aB : Addr) (P m : Nat) (names : List (Int × Num)) (l r : Ex) (c : Int) (p : Nat) (hn : ∀ q ∈ names, q.2.Ok) (hl : ExOk l) (hr : ExOk r) (hc : c = 43 ∨ c = 8722) (il : WP N aZ aB P m names l) (ir : WP N aZ aB P m names r) : WP N aZ aB P m names (.bin c p l r) := by
  intro w hP
  obtain ⟨z, q, s, hv⟩ := ans_parts (evT (envOf names) (.bin c p l r))
  have CL : Hid (∀ W, Below w.heap.size w W → Calls Tryz.prog 126 #[.pointer (some ⟨P, 0, none⟩), exV l, .agg #[.int .i32 c, .int .i64 p], exV r] W fun x w' => x = .returned (.tuple #[.agg #[.int .i64 z.re.n, .int .i64 z.re.d, .int .i64 z.im.n, .int .i64 z.im.d], .int .i64 q, .int .i64 s]) ∧ Below W.heap.size W w') := fun W hb => by
    have := workTwo_of N aZ aB P m names l r c p hn hl hr (by omega) il ir W (hP.below hb)
    rw [hv] at this
    exact this
  have h0 := Res3.new w #[exV l, .int .i32 c, .int .i64 p, exV r] 194
  have e1 : exV (.bin c p l r) = .iface 194 (.agg #[exV l, .int .i32 c, .int .i64 p, exV r]) := by simp only [exV]; rw [if_pos hc]
  have hII := hidMk (exV_iface l)
  have hIJ := hidMk (exV_iface r)
  have HV := hidMk hv
  rw [e1]
  generalize ansV (evT (envOf names) (.bin c p l r)) = V at *
  generalize exV l = vl at *
  generalize exV r = vr at *
  have t0 := taSumNumeral
  have t1 := taSumUnit
  have t2 := taSumName
  have t3 := taSumNegated
  have t4 := taSumMarked
  have t5 := taSumProduct
  have t6 := taSumSum
  clear hn hl hr hc il ir hP e1 hv
  obtain ⟨T, yy, rfl⟩ := hII.out
  obtain ⟨T2, yy2, rfl⟩ := hIJ.out
  go_enter Tryz.func83, Tryz.ntmps83
  go_wp2_with fail
  generalize (w.alloc _).alloc _ = W at *
  obtain ⟨c0, c1, c2, c3⟩ := four_cells' h0.hx
  have H0 := hidMk h0
  clear h0
  go_wp2_with fail
  refine (CL.out _ H0.out.hb).mono ?_
  rintro e w1 ⟨rfl, hb1⟩
  have h5 := H0.out.below hb1
  clear H0 hb1 CL c0 c1 c2 c3
  obtain ⟨z0, z1, z2, z3⟩ := four_cells h5.hz
  obtain ⟨f0, f1, f2, f3⟩ := four_frozen h5.hz
  have H5 := hidMk h5
  clear h5
  go_wp2_with fail
  refine bp_gen (fun W' => W'.heap[w.heap.size]? = some (.cells #[.int .i64 z.re.n, .int .i64 z.re.d, .int .i64 z.im.n, .int .i64 z.im.d] 82 (0, 0)) ∧ Below w.heap.size w W') ⟨four_set H5.out.hz _ _ _ _, below_four H5.out.hb (Nat.le_refl _) _ _ _ _⟩ ?_
  rintro W ⟨hz, hb⟩
  obtain ⟨z0, z1, z2, z3⟩ := four_cells hz
  rw [HV.out]
  exact bodyPost_ret (v := .tuple #[.agg #[.int .i64 z.re.n, .int .i64 z.re.d, .int .i64 z.im.n, .int .i64 z.im.d], .int .i64 q, .int .i64 s]) (by simp [results, Tryz.results83, go_sem, z0, z1, z2, z3]) rfl ⟨rfl, hb⟩
theorem workPart_any (N : Nat) (aZ aB : Addr) (P m : Nat) (names : List (Int × Num)) (hn : ∀ q ∈ names, q.2.Ok) : ∀ e, ExOk e → missT (envOf names) e = none → WP N aZ aB P m names e := by
  intro e
  induction e with
  | num l p => intro h _; exact wp_num N aZ aB P m names l p h
  | leaf c p =>
    intro h hm
    by_cases hc : c = 105
    · subst hc
      exact wp_unit N aZ aB P m names p
    · simp only [missT] at hm
      cases hx : envOf names c with
      | none =>
        rw [if_neg (by rw [hx]; simp [hc])] at hm
        cases hm
      | some x => exact wp_name N aZ aB P m names c p hc x hx
  | un c p e ih =>
    intro h hm
    have i := ih h.2 hm
    have hc := h.1
    unfold isUn at hc
    simp at hc
    by_cases h1 : c = 110
    · subst h1
      exact wp_neg N aZ aB P m names e p hn h.2 i
    · exact wp_mark N aZ aB P m names e c p hn h.2 (by omega) i
  | bin c p l r ihl ihr =>
    intro h hm
    simp only [missT] at hm
    cases hl : missT (envOf names) l with
    | some q => rw [hl] at hm; cases hm
    | none =>
      rw [hl] at hm
      have il := ihl h.2.1 hl
      have ir := ihr h.2.2 hm
      have hc := h.1
      unfold isBin at hc
      simp at hc
      by_cases h1 : c = 43 ∨ c = 8722
      · exact wp_sum N aZ aB P m names l r c p hn h.2.1 h.2.2 h1 il ir
      · exact wp_prod N aZ aB P m names l r c p hn h.2.1 h.2.2 (by omega) il ir
end Go.Proofs.YtodabmkcihafhaaGreatDoor

/- The program's names of an expression: eachName, an iterator. -/
namespace Go.Proofs.YtodabmkcihafhaaGreatDoor
open Go.RowKit Go.Shelf
attribute [local go_sem] Oper.semAt_some
set_option linter.unusedVariables false

theorem room_none {F : Fence} (hd : F.depth = none) (k : Nat) : F.room k := fun d h => by rw [hd] at h; cases h
theorem round_any {F : Fence} (hd : F.depth = none) {m m' : Nat} {P : Program} {l : Nat} {f : FuncId} {tmps : Array Value} {assign body : Code} {w : World} {R : Ending → World → Prop}
    (h : RoundIn F m P l f tmps assign body w R) : RoundIn F m' P l f tmps assign body w R := ⟨h.1, fun c cs _ => h.2 c cs (room_none hd _)⟩
theorem yield_any {F : Fence} (hd : F.depth = none) {m : Nat} (m' : Nat) {P : Program} {l : Nat} {args : Array Value} {W : World} {R : Ending → World → Prop} (h : YieldAt F m P l args W R) : YieldAt F m' P l args W R := by
  obtain ⟨fn, tmps, assign, body, hy, hR⟩ := h
  exact ⟨fn, tmps, assign, body, hy, round_any hd hR⟩

/-- The names of an expression, in their order, with their places. -/
def nmL : Ex → List (Int × Nat)
  | .num _ _ => []
  | .leaf c p => if c = 105 then [] else [(c, p)]
  | .un _ _ e => nmL e
  | .bin _ _ l r => nmL l ++ nmL r
/-- Cells lie as they lay. -/
structure KC (W W' : World) : Prop where
  size : W.heap.size ≤ W'.heap.size
  same : ∀ (k : Nat) (o : Obj), W.heap[k]? = some o → o.isCells = true → W'.heap[k]? = some o
theorem KC.refl (W : World) : KC W W := ⟨Nat.le_refl _, fun _ _ h _ => h⟩
theorem KC.trans {A B C : World} (h : KC A B) (k : KC B C) : KC A C := ⟨Nat.le_trans h.size k.size, fun i o hi ho => k.same i o (h.same i o hi ho) ho⟩
theorem KC.alloc (W : World) (o : Obj) : KC W (W.alloc o) := ⟨by simp, fun k o' hk _ => (Below.heap_alloc W o k (Array.getElem?_eq_some_iff.1 hk).1).trans hk⟩
theorem KC.below {W W' : World} (h : Below W.heap.size W W') : KC W W' := ⟨h.size, fun k o hk _ => (h.block k (Array.getElem?_eq_some_iff.1 hk).1).trans hk⟩
theorem KC.put {W : World} {l : Nat} {o : Obj} (o' : Obj) (hl : W.heap[l]? = some o) (ho : o.isCells = false) : KC W (W.putObj l o') := by
  refine ⟨by simp, fun k o2 hk hc => ?_⟩
  have : l ≠ k := by
    intro e
    subst e
    rw [hl] at hk
    injection hk with hk
    subst hk
    rw [ho] at hc
    cases hc
  rw [World.putObj_heap_other (Ne.symm this)]
  exact hk
abbrev nmV (x : Int × Nat) : Value := .agg #[.int .i32 x.1, .int .i64 x.2]

/-- What is asked of a round. -/
def Rnd1 (F : Fence) (l N : Nat) (J Jx : List (Int × Nat) → World → Prop) : Prop := ∀ m pre x W, J pre W → pre.length < N → YieldAt F m Tryz.prog l #[nmV x] W fun e W' =>
  (e = .returned (.bool true) ∧ J (pre ++ [x]) W' ∧ KC W W') ∨ (e = .returned (.bool false) ∧ Jx (pre ++ [x]) W')
def Each (F : Fence) (l N : Nat) (J Jx : List (Int × Nat) → World → Prop) (e : Ex) : Prop := ∀ (n : Nat) (pre : List (Int × Nat)) (W : World), J pre W → pre.length + (nmL e).length ≤ N →
  CallsIn F n Tryz.prog 120 #[exV e, .func (.yield l) #[] #[]] W fun x W' =>
    (x = .returned (.bool true) ∧ J (pre ++ nmL e) W' ∧ KC W W') ∨ (x = .returned (.bool false) ∧ ∃ q, q <+: nmL e ∧ Jx (pre ++ q) W')

theorem J_alloc {B : Nat} {J : List (Int × Nat) → World → Prop} (hJ : AbidesFrom B J) {s : List (Int × Nat)} {W : World} (h : J s W) (o : Obj) : J s (W.alloc o) :=
  hJ s W _ none h (World.grownBy_alloc W o none) (fun r e => by cases e)

set_option maxRecDepth 100000 in
set_option maxHeartbeats 2000000 in
theorem each_num (F : Fence) (hf : F.fn 120) (hro : F.round = none) (l N : Nat) (J Jx : List (Int × Nat) → World → Prop) (ls : List Int) (p : Nat) : Each F l N J Jx (.num ls p) := by
  intro n pre W hJ hN
  have e1 : exV (.num ls p) = .iface 178 (.agg #[.string (encAll ls)]) := rfl
  rw [e1]
  have t1 := taNumeralName
  have t2 := taNumeralMarked
  have t3 := taNumeralNegated
  have t4 := taNumeralProduct
  have t5 := taNumeralSum
  clear e1
  refine callsIn_of_wp Tryz.func120 rfl hf ?_ hro
  simp only [Tryz.ntmps120, List.size_toArray, List.length_cons, List.length_nil, Nat.reduceAdd, Nat.reduceSub, Array.replicate_succ, Array.replicate_zero, List.push_toArray, List.append_toArray, List.nil_append, List.cons_append]
  gi_wp2
  go_ret
  exact .inl ⟨rfl, by simpa [nmL] using hJ, KC.refl _⟩
set_option maxRecDepth 100000 in
set_option maxHeartbeats 2000000 in
theorem each_unit (F : Fence) (hf : F.fn 120) (hro : F.round = none) (l N : Nat) (J Jx : List (Int × Nat) → World → Prop) (p : Nat) : Each F l N J Jx (.leaf 105 p) := by
  intro n pre W hJ hN
  have e1 : exV (.leaf 105 p) = .iface 183 (.agg #[]) := rfl
  rw [e1]
  have t1 := taUnitName
  have t2 := taUnitMarked
  have t3 := taUnitNegated
  have t4 := taUnitProduct
  have t5 := taUnitSum
  clear e1
  refine callsIn_of_wp Tryz.func120 rfl hf ?_ hro
  simp only [Tryz.ntmps120, List.size_toArray, List.length_cons, List.length_nil, Nat.reduceAdd, Nat.reduceSub, Array.replicate_succ, Array.replicate_zero, List.push_toArray, List.append_toArray, List.nil_append, List.cons_append]
  gi_wp2
  go_ret
  exact .inl ⟨rfl, by simpa [nmL] using hJ, KC.refl _⟩

set_option maxRecDepth 100000 in
set_option maxHeartbeats 2000000 in
theorem each_name (F : Fence) (hd : F.depth = none) (hf : F.fn 120) (hro : F.round = none) (l N B : Nat) (J Jx : List (Int × Nat) → World → Prop) (hA : AbidesFrom B J) (hY : Rnd1 F l N J Jx) (c : Int) (p : Nat) (hc : c ≠ 105) : Each F l N J Jx (.leaf c p) := by
  intro n pre W hJ hN
  have e1 : exV (.leaf c p) = .iface 185 (.agg #[.int .i32 c, .int .i64 p]) := by simp only [exV]; rw [if_neg hc]
  have e2 : nmL (.leaf c p) = [(c, p)] := by simp only [nmL]; rw [if_neg hc]
  rw [e2] at hN ⊢
  rw [e1]
  simp only [List.length_cons, List.length_nil] at hN
  have hdd : ∀ k : Nat, (F.depth.isSome = true → 1 ≤ k) := fun k h => by rw [hd] at h; cases h
  have t1 := taNameName
  have hJ1 := J_alloc hA hJ (.cells #[.int .i32 c, .int .i64 p] 185)
  have hk1 := KC.alloc W (.cells #[.int .i32 c, .int .i64 p] 185)
  obtain ⟨fn, tmps, assign, body, hy, hR⟩ := hY (n - 1) pre (c, p) _ hJ1 (by omega)
  clear e1 e2 hJ hJ1 hY hA
  refine callsIn_of_wp Tryz.func120 rfl hf ?_ hro
  simp only [Tryz.ntmps120, List.size_toArray, List.length_cons, List.length_nil, Nat.reduceAdd, Nat.reduceSub, Array.replicate_succ, Array.replicate_zero, List.push_toArray, List.append_toArray, List.nil_append, List.cons_append]
  gi_wp2_with (first
      | ((try refine ⟨hdd _, ?_⟩); refine hR.mono ?_; clear hR; rintro e W2 (⟨rfl, hJ2, hk2⟩ | ⟨rfl, hx2⟩)))
  · go_ret
    exact .inl ⟨rfl, hJ2, hk1.trans hk2⟩
  · go_ret
    exact .inr ⟨rfl, [(c, p)], List.prefix_rfl, hx2⟩

set_option maxRecDepth 100000 in
set_option maxHeartbeats 2000000 in
theorem each_neg (F : Fence) (hd : F.depth = none) (hf : F.fn 120) (hro : F.round = none) (l N B : Nat) (J Jx : List (Int × Nat) → World → Prop) (hA : AbidesFrom B J) (c : Int) (p : Nat) (e : Ex) (hc : c = 110) (ih : Each F l N J Jx e) : Each F l N J Jx (.un c p e) := by
  intro n pre W hJ hN
  have e1 : exV (.un c p e) = .iface 191 (.agg #[exV e]) := by simp only [exV]; rw [if_pos hc]
  have e2 : nmL (.un c p e) = nmL e := rfl
  rw [e2] at hN ⊢
  rw [e1]
  have hdd : ∀ k : Nat, (F.depth.isSome = true → 1 ≤ k) := fun k h => by rw [hd] at h; cases h
  have t0 := taNegatedName
  have t1 := taNegatedMarked
  have t2 := taNegatedNegated
  have hJ1 := J_alloc hA hJ (.cells #[exV e] 191)
  have hk1 := KC.alloc W (.cells #[exV e] 191)
  have ih1 := ih (n - 1) pre _ hJ1 hN
  have hII := hidMk (exV_iface e)
  generalize exV e = vl at *
  clear e1 e2 hJ hJ1 hA ih hc hN
  obtain ⟨T, yy, rfl⟩ := hII.out
  refine callsIn_of_wp Tryz.func120 rfl hf ?_ hro
  simp only [Tryz.ntmps120, List.size_toArray, List.length_cons, List.length_nil, Nat.reduceAdd, Nat.reduceSub, Array.replicate_succ, Array.replicate_zero, List.push_toArray, List.append_toArray, List.nil_append, List.cons_append]
  gi_wp2_with (first
      | ((try refine ⟨hdd _, ?_⟩); gi_at_call 120; refine ih1.mono ?_; clear ih1; rintro e W1 (⟨rfl, hJ1, hk2⟩ | ⟨rfl, q, hq, hx1⟩)))
  · go_ret
    exact .inl ⟨rfl, hJ1, hk1.trans hk2⟩
  · go_ret
    exact .inr ⟨rfl, q, hq, hx1⟩

set_option maxRecDepth 100000 in
set_option maxHeartbeats 2000000 in
theorem each_mark (F : Fence) (hd : F.depth = none) (hf : F.fn 120) (hro : F.round = none) (l N B : Nat) (J Jx : List (Int × Nat) → World → Prop) (hA : AbidesFrom B J) (c : Int) (p : Nat) (e : Ex) (hc : c ≠ 110) (ih : Each F l N J Jx e) : Each F l N J Jx (.un c p e) := by
  intro n pre W hJ hN
  have e1 : exV (.un c p e) = .iface 187 (.agg #[exV e, .int .i32 c, .int .i64 p]) := by simp only [exV]; rw [if_neg hc]
  have e2 : nmL (.un c p e) = nmL e := rfl
  rw [e2] at hN ⊢
  rw [e1]
  have hdd : ∀ k : Nat, (F.depth.isSome = true → 1 ≤ k) := fun k h => by rw [hd] at h; cases h
  have t0 := taMarkedName
  have t1 := taMarkedMarked
  have hJ1 := J_alloc hA hJ (.cells #[exV e, .int .i32 c, .int .i64 p] 187)
  have hk1 := KC.alloc W (.cells #[exV e, .int .i32 c, .int .i64 p] 187)
  have ih1 := ih (n - 1) pre _ hJ1 hN
  have hII := hidMk (exV_iface e)
  generalize exV e = vl at *
  clear e1 e2 hJ hJ1 hA ih hc hN
  obtain ⟨T, yy, rfl⟩ := hII.out
  refine callsIn_of_wp Tryz.func120 rfl hf ?_ hro
  simp only [Tryz.ntmps120, List.size_toArray, List.length_cons, List.length_nil, Nat.reduceAdd, Nat.reduceSub, Array.replicate_succ, Array.replicate_zero, List.push_toArray, List.append_toArray, List.nil_append, List.cons_append]
  gi_wp2_with (first
      | ((try refine ⟨hdd _, ?_⟩); gi_at_call 120; refine ih1.mono ?_; clear ih1; rintro e W1 (⟨rfl, hJ1, hk2⟩ | ⟨rfl, q, hq, hx1⟩)))
  · go_ret
    exact .inl ⟨rfl, hJ1, hk1.trans hk2⟩
  · go_ret
    exact .inr ⟨rfl, q, hq, hx1⟩

set_option maxRecDepth 100000 in
set_option maxHeartbeats 4000000 in
theorem each_prod (F : Fence) (hd : F.depth = none) (hf : F.fn 120) (hro : F.round = none) (l N B : Nat) (J Jx : List (Int × Nat) → World → Prop) (hA : AbidesFrom B J) (c : Int) (p : Nat) (a b : Ex) (hc : ¬ (c = 43 ∨ c = 8722)) (ia : Each F l N J Jx a) (ib : Each F l N J Jx b) : Each F l N J Jx (.bin c p a b) := by
  intro n pre W hJ hN
  have e1 : exV (.bin c p a b) = .iface 193 (.agg #[exV a, .int .i32 c, .int .i64 p, exV b]) := by simp only [exV]; rw [if_neg hc]
  have e2 : nmL (.bin c p a b) = nmL a ++ nmL b := rfl
  rw [e2] at hN ⊢
  rw [e1]
  simp only [List.length_append] at hN
  have hdd : ∀ k : Nat, (F.depth.isSome = true → 1 ≤ k) := fun k h => by rw [hd] at h; cases h
  have t0 := taProductName
  have t1 := taProductMarked
  have t2 := taProductNegated
  have t3 := taProductProduct
  have hJ1 := J_alloc hA hJ (.cells #[exV a, .int .i32 c, .int .i64 p, exV b] 193)
  have hk1 := KC.alloc W (.cells #[exV a, .int .i32 c, .int .i64 p, exV b] 193)
  have hbx := heap_alloc_new W (.cells #[exV a, .int .i32 c, .int .i64 p, exV b] 193)
  have ih1 := (ia (n - 1) pre _ hJ1 (by omega)).mono (R' := fun x W1 =>
      (x = .returned (.bool true) ∧ J (pre ++ nmL a) W1 ∧ KC W W1 ∧ W1.cell? ⟨W.heap.size, 3, none⟩ = some (exV b)) ∨ (x = .returned (.bool false) ∧ ∃ q, q <+: nmL a ∧ Jx (pre ++ q) W1))
    (fun x W1 h => h.elim (fun ⟨he, hj, hk2⟩ => .inl ⟨he, hj, hk1.trans hk2, (four_cells' (hk2.same _ _ hbx rfl)).2.2.2⟩) .inr)
  have ih2 : ∀ W1, J (pre ++ nmL a) W1 → CallsIn F (n - 1) Tryz.prog 120 #[exV b, .func (.yield l) #[] #[]] W1 fun x W' =>
      (x = .returned (.bool true) ∧ J (pre ++ nmL a ++ nmL b) W' ∧ KC W1 W') ∨ (x = .returned (.bool false) ∧ ∃ q, q <+: nmL b ∧ Jx (pre ++ nmL a ++ q) W') := fun W1 hj => ib (n - 1) _ W1 hj (by simp; omega)
  have IH2 := hidMk ih2
  have hII := hidMk (exV_iface a)
  have hIJ := hidMk (exV_iface b)
  clear ih2 hJ1 hbx hk1
  generalize exV a = va at *
  generalize exV b = vb at *
  generalize nmL a = na at *
  generalize nmL b = nb at *
  clear e1 e2 hJ hA ia ib hc hN
  obtain ⟨T, yy, rfl⟩ := hII.out
  obtain ⟨T2, yy2, rfl⟩ := hIJ.out
  refine callsIn_of_wp Tryz.func120 rfl hf ?_ hro
  simp only [Tryz.ntmps120, List.size_toArray, List.length_cons, List.length_nil, Nat.reduceAdd, Nat.reduceSub, Array.replicate_succ, Array.replicate_zero, List.push_toArray, List.append_toArray, List.nil_append, List.cons_append]
  gi_wp2_with (first
      | ((try refine ⟨hdd _, ?_⟩); gi_at_call 120; refine ih1.mono ?_; clear ih1; rintro e W1 (⟨rfl, hJ2, hk2, c3⟩ | ⟨rfl, q, hq, hx1⟩))
      | ((try refine ⟨hdd _, ?_⟩); gi_at_call 120; refine (IH2.out _ hJ2).mono ?_; clear IH2; rintro e W3 (⟨rfl, hJ3, hk3⟩ | ⟨rfl, q, hq, hx3⟩)))
  · go_ret
    exact .inl ⟨rfl, by simpa [List.append_assoc] using hJ3, hk2.trans hk3⟩
  · go_ret
    obtain ⟨r, hr'⟩ := hq
    exact .inr ⟨rfl, na ++ q, ⟨r, by simp [← hr']⟩, by simpa [List.append_assoc] using hx3⟩
  · go_ret
    exact .inr ⟨rfl, q, hq.trans (List.prefix_append _ _), hx1⟩

set_option maxRecDepth 100000 in
set_option maxHeartbeats 4000000 in
theorem each_sum (F : Fence) (hd : F.depth = none) (hf : F.fn 120) (hro : F.round = none) (l N B : Nat) (J Jx : List (Int × Nat) → World → Prop) (hA : AbidesFrom B J) (c : Int) (p : Nat) (a b : Ex) (hc : c = 43 ∨ c = 8722) (ia : Each F l N J Jx a) (ib : Each F l N J Jx b) : Each F l N J Jx (.bin c p a b) := by
  intro n pre W hJ hN
  have e1 : exV (.bin c p a b) = .iface 194 (.agg #[exV a, .int .i32 c, .int .i64 p, exV b]) := by simp only [exV]; rw [if_pos hc]
  have e2 : nmL (.bin c p a b) = nmL a ++ nmL b := rfl
  rw [e2] at hN ⊢
  rw [e1]
  simp only [List.length_append] at hN
  have hdd : ∀ k : Nat, (F.depth.isSome = true → 1 ≤ k) := fun k h => by rw [hd] at h; cases h
  have t0 := taSumName
  have t1 := taSumMarked
  have t2 := taSumNegated
  have t3 := taSumProduct
  have t4 := taSumSum
  have hJ1 := J_alloc hA hJ (.cells #[exV a, .int .i32 c, .int .i64 p, exV b] 194)
  have hk1 := KC.alloc W (.cells #[exV a, .int .i32 c, .int .i64 p, exV b] 194)
  have hbx := heap_alloc_new W (.cells #[exV a, .int .i32 c, .int .i64 p, exV b] 194)
  have ih1 := (ia (n - 1) pre _ hJ1 (by omega)).mono (R' := fun x W1 =>
      (x = .returned (.bool true) ∧ J (pre ++ nmL a) W1 ∧ KC W W1 ∧ W1.cell? ⟨W.heap.size, 3, none⟩ = some (exV b)) ∨ (x = .returned (.bool false) ∧ ∃ q, q <+: nmL a ∧ Jx (pre ++ q) W1))
    (fun x W1 h => h.elim (fun ⟨he, hj, hk2⟩ => .inl ⟨he, hj, hk1.trans hk2, (four_cells' (hk2.same _ _ hbx rfl)).2.2.2⟩) .inr)
  have ih2 : ∀ W1, J (pre ++ nmL a) W1 → CallsIn F (n - 1) Tryz.prog 120 #[exV b, .func (.yield l) #[] #[]] W1 fun x W' =>
      (x = .returned (.bool true) ∧ J (pre ++ nmL a ++ nmL b) W' ∧ KC W1 W') ∨ (x = .returned (.bool false) ∧ ∃ q, q <+: nmL b ∧ Jx (pre ++ nmL a ++ q) W') := fun W1 hj => ib (n - 1) _ W1 hj (by simp; omega)
  have IH2 := hidMk ih2
  have hII := hidMk (exV_iface a)
  have hIJ := hidMk (exV_iface b)
  clear ih2 hJ1 hbx hk1
  generalize exV a = va at *
  generalize exV b = vb at *
  generalize nmL a = na at *
  generalize nmL b = nb at *
  clear e1 e2 hJ hA ia ib hc hN
  obtain ⟨T, yy, rfl⟩ := hII.out
  obtain ⟨T2, yy2, rfl⟩ := hIJ.out
  refine callsIn_of_wp Tryz.func120 rfl hf ?_ hro
  simp only [Tryz.ntmps120, List.size_toArray, List.length_cons, List.length_nil, Nat.reduceAdd, Nat.reduceSub, Array.replicate_succ, Array.replicate_zero, List.push_toArray, List.append_toArray, List.nil_append, List.cons_append]
  gi_wp2_with (first
      | ((try refine ⟨hdd _, ?_⟩); gi_at_call 120; refine ih1.mono ?_; clear ih1; rintro e W1 (⟨rfl, hJ2, hk2, c3⟩ | ⟨rfl, q, hq, hx1⟩))
      | ((try refine ⟨hdd _, ?_⟩); gi_at_call 120; refine (IH2.out _ hJ2).mono ?_; clear IH2; rintro e W3 (⟨rfl, hJ3, hk3⟩ | ⟨rfl, q, hq, hx3⟩)))
  · go_ret
    exact .inl ⟨rfl, by simpa [List.append_assoc] using hJ3, hk2.trans hk3⟩
  · go_ret
    obtain ⟨r, hr'⟩ := hq
    exact .inr ⟨rfl, na ++ q, ⟨r, by simp [← hr']⟩, by simpa [List.append_assoc] using hx3⟩
  · go_ret
    exact .inr ⟨rfl, q, hq.trans (List.prefix_append _ _), hx1⟩

theorem each_any (F : Fence) (hd : F.depth = none) (hf : F.fn 120) (hro : F.round = none) (l N B : Nat) (J Jx : List (Int × Nat) → World → Prop) (hA : AbidesFrom B J) (hY : Rnd1 F l N J Jx) : ∀ e, Each F l N J Jx e := by
  intro e
  induction e with
  | num ls p => exact each_num F hf hro l N J Jx ls p
  | leaf c p =>
    by_cases hc : c = 105
    · subst hc
      exact each_unit F hf hro l N J Jx p
    · exact each_name F hd hf hro l N B J Jx hA hY c p hc
  | un c p e ih =>
    by_cases hc : c = 110
    · exact each_neg F hd hf hro l N B J Jx hA c p e hc ih
    · exact each_mark F hd hf hro l N B J Jx hA c p e hc ih
  | bin c p a b ia ib =>
    by_cases hc : c = 43 ∨ c = 8722
    · exact each_sum F hd hf hro l N B J Jx hA c p a b hc ia ib
    · exact each_prod F hd hf hro l N B J Jx hA c p a b hc ia ib
end Go.Proofs.YtodabmkcihafhaaGreatDoor

/- A region that draws its order, by what holds between two operations, within a fence. -/
namespace Go.Proofs.YtodabmkcihafhaaGreatDoor
open Go.RowKit
set_option linter.unusedVariables false

section
variable {F : Fence} {n : Nat} {P : Program} {md : Region.Mode} {ops : Array Oper} {Q : Exit → Act → World → Prop}

/-- What holds between two operations, in whatever order they come up. -/
theorem wpAnyIn_inv {I : Array Bool → Act → World → Prop}
    (hstep : ∀ l a w i o, I l a w → ops[i]? = some o → l.getD i true = false → (∀ e ∈ o.after, Region.binds md e = true → l.getD e.on false = true) →
      ∀ K : Act → World → Prop, (∀ a' w', I (l.setIfInBounds i true) a' w' → K a' w') → if Region.wanted o (yielded ops a.tmps) = true then Oper.wpIn F n P o a w K Q else (∀ f, o.about P w a.eval = some f → F.fn f) ∧ K (a.put o.dst undef) w)
    (hend : ∀ l a w, I l a w → Region.ready md ops l = [] → Q .normal a w) :
    ∀ (fuel : Nat) (l : Array Bool) (a : Act) (w : World), I l a w → l.toList.count false ≤ fuel → wpAnyIn F n P md ops Q fuel l a w := by
  intro fuel
  induction fuel with
  | zero =>
    intro l a w hI hc
    have hr : Region.ready md ops l = [] := by
      rw [List.eq_nil_iff_forall_not_mem]
      intro i hi
      have := inv_count (mem_ready.1 hi).1
      omega
    exact ⟨hr, hend l a w hI hr⟩
  | succ fuel ih =>
    intro l a w hI hc
    refine ⟨fun h0 => hend l a w hI h0, fun i hi => ?_⟩
    obtain ⟨h0, o, ho, hall⟩ := mem_ready.1 hi
    refine wpOpIn_step ho (fun K hK => hstep l a w i o hI ho h0 hall K (fun a' w' h' => hK a' w' (ih _ a' w' h' ?_)))
    have := inv_count h0
    omega


/-- A region that draws its order: R: what each operation yields; WI: the world, by what has come up and what the slots hold. -/
theorem region_invIn {id nt : Nat} {a0 : Act} {w : World} (u0 : Nat → Value) (R : Nat → Value → Prop) (WI : (Nat → Bool) → (Nat → Value) → World → Prop) (ha : a0 = actOf nt u0) (hm : P.follows .mixedOrders = true) (hback : backB ops = true) (hslots : slotsB ops nt = true) (h0 : WI (fun _ => false) u0 { w with drawn := w.drawn + 1 })
    (hstep : ∀ (i : Nat) (o : Oper) (b : Nat → Bool) (u : Nat → Value) (w' : World), ops[i]? = some o → b i = false → (∀ e ∈ o.after, Region.binds .any e = true → b e.on = true) → Slots ops R u0 b u → WI b u w' →
      ∀ K : Act → World → Prop, (∀ v w'' A, (actOf nt u).put o.dst v = A → (o.dst.isSome = true → R i v) → WI (upB b i) (upV u o.dst v) w'' → K A w'') → if Region.wanted o (yielded ops (actOf nt u).tmps) = true then Oper.wpIn F n P o (actOf nt u) w' K Q else (∀ f, o.about P w' (actOf nt u).eval = some f → F.fn f) ∧ K ((actOf nt u).put o.dst undef) w')
    (hend : ∀ (b : Nat → Bool) (u : Nat → Value) (w' : World), (∀ k, k < ops.size → b k = true) → Slots ops R u0 b u → WI b u w' → Q .normal (actOf nt u) w') :
    (Code.region id ops true).wpIn F n P Q a0 w := by
  subst ha
  refine wpIn_region_any hm (wpAnyIn_inv (I := fun l a w' => ∃ (b : Nat → Bool) (u : Nat → Value), l = ((List.range ops.size).map b).toArray ∧ a = actOf nt u ∧ Slots ops R u0 b u ∧ WI b u w') ?_ ?_ _ _ _ _ ?_ ?_)
  · rintro l a w' i o ⟨b, u, rfl, rfl, hU, hW⟩ ho hl hall K hK
    have hi : i < ops.size := (Array.getElem?_eq_some_iff.1 ho).1
    have gd : ∀ k d, k < ops.size → (((List.range ops.size).map b).toArray).getD k d = b k := by
      intro k d hk
      rw [Array.getD_eq_getD_getElem?]
      simp [List.getElem?_range hk]
    have hbi : b i = false := by rw [← gd i true hi]; exact hl
    refine hstep i o b u w' ho hbi (fun e he hb => ?_) hU hW K (fun v w'' A hA hv hW'' => hA ▸ hK _ _ ?_)
    · have h1 := hall e he hb
      rcases Nat.lt_or_ge e.on ops.size with h2 | h2
      · rw [gd _ _ h2] at h1; exact h1
      · rw [Array.getD_eq_getD_getElem?, Array.getElem?_eq_none (by simpa using h2)] at h1; cases h1
    · have hset : (((List.range ops.size).map b).toArray).setIfInBounds i true = ((List.range ops.size).map (upB b i)).toArray := by
        apply Array.ext_getElem?
        intro k
        rw [Array.getElem?_setIfInBounds]
        simp only [List.size_toArray, List.length_map, List.length_range, List.getElem?_toArray, List.getElem?_map]
        by_cases h : i = k
        · subst h
          simp [hi, upB]
        · rw [if_neg h]
          by_cases hk : k < ops.size
          · simp [List.getElem?_range hk, upB, Ne.symm h]
          · rw [List.getElem?_eq_none (by simpa using hk)]; rfl
      have hdst : (ops[i]?).bind Oper.dst = o.dst := by rw [ho]; rfl
      cases hd : o.dst with
      | none =>
        rw [hd] at hW''
        refine ⟨upB b i, u, hset, rfl, ⟨fun k s hk hb => ?_, hU.old⟩, hW''⟩
        unfold upB at hb
        split at hb
        · rename_i e; subst e; rw [hdst, hd] at hk; cases hk
        · exact hU.got k s hk hb
      | some s =>
        rw [hd] at hW''
        have hs : (ops[i]?).bind Oper.dst = some s := by rw [hdst, hd]
        have hv' := hv (by rw [hd]; rfl)
        refine ⟨upB b i, upV u (some s) v, hset, actOf_put nt u s v (slots_lt hslots hs), ⟨fun k t hk hb => ?_, fun t ht => ?_⟩, hW''⟩
        · show R k (if t = s then v else u t)
          by_cases e : t = s
          · subst e
            have := slots_inj hslots hk hs
            subst this
            rw [if_pos rfl]
            exact hv'
          · rw [if_neg e]
            unfold upB at hb
            split at hb
            · rename_i e2; subst e2; rw [hs] at hk; injection hk with hk; exact absurd hk.symm e
            · exact hU.got k t hk hb
        · show (if t = s then v else u t) = u0 t
          have e : t ≠ s := fun e => ht i (by rw [e]; exact hs)
          rw [if_neg e]
          exact hU.old t ht
  · rintro l a w' ⟨b, u, rfl, rfl, hU, hW⟩ hr
    refine hend b u w' (fun k hk => ?_) hU hW
    have := all_listed hback (by simp) hr k hk
    rw [Array.getD_eq_getD_getElem?] at this
    simpa [List.getElem?_range hk] using this
  · refine ⟨fun _ => false, u0, ?_, rfl, ⟨fun k s _ h => (by cases h), fun _ _ => rfl⟩, h0⟩
    apply Array.ext_getElem?
    intro k
    simp only [List.getElem?_toArray, List.getElem?_map]
    by_cases hk : k < ops.size
    · simp [hk]
    · rw [List.getElem?_eq_none (by simpa using hk), Array.getElem?_eq_none (by simpa using hk)]; rfl
  · simp
end
end Go.Proofs.YtodabmkcihafhaaGreatDoor

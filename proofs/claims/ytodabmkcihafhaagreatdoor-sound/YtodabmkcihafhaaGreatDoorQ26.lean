import Derived.Test.YtodabmkcihafhaaGreatDoorQ24
import Derived.Test.YtodabmkcihafhaaGreatDoorQ1

/- The laws' value, text, begun, joined, alike. -/
namespace Go.Proofs.YtodabmkcihafhaaGreatDoor
open Go.RowKit
set_option linter.unusedVariables false

/-- The number of a text, by a book without names; whether there is one. -/
def vN (s : ByteArray) : Num := ansN (valS [] s)
def vB (s : ByteArray) : Bool := ansE (valS [] s) == 0
structure VQ (w : World) (z : Array Value) (b5 : Nat) (x : Num) (W : World) : Prop where
  hz : W.heap[w.heap.size]? = some (.cells z 27 (0, 0))
  hx : W.heap[b5]? = some (.cells (numC x) 27 (0, 0))
  ne : b5 ≠ w.heap.size
  hb : Below w.heap.size w W
theorem VQ.drew {w : World} {z : Array Value} {b5 : Nat} {x : Num} {W : World} (h : VQ w z b5 x W) : VQ w z b5 x W.drew := ⟨h.hz, h.hx, h.ne, h.hb.drew⟩
theorem VQ.setz {w : World} {b5 : Nat} {x : Num} {a b c d : Value} {W : World} (h : VQ w #[a, b, c, d] b5 x W) : VQ w (numC x) b5 x ((((W.setCell ⟨w.heap.size, 0, none⟩ (.int .i64 x.re.n)).setCell ⟨w.heap.size, 1, none⟩ (.int .i64 x.re.d)).setCell ⟨w.heap.size, 2, none⟩ (.int .i64 x.im.n)).setCell ⟨w.heap.size, 3, none⟩ (.int .i64 x.im.d)) :=
  ⟨four_set h.hz _ _ _ _, (four_other h.ne _ _ _ _).trans h.hx, h.ne, below_four h.hb (Nat.le_refl _) _ _ _ _⟩
set_option maxHeartbeats 4000000 in
set_option maxRecDepth 100000 in
theorem value_fn (N : Nat) (aZ aB : Addr) (s : ByteArray) (w : World) (hS : Sen N aZ aB w) (hN : N ≤ w.heap.size) :
    Calls Tryz.prog 22 #[.string s] w fun e w' => e = .returned (.tuple #[.agg (numC (vN s)), .bool (vB s)]) ∧ Below w.heap.size w w' := by
  have h0 := heap_alloc_new w (.cells #[.int .i64 0, .int .i64 0, .int .i64 0, .int .i64 0] 27)
  have hb0 := fr_below w (.cells #[.int .i64 0, .int .i64 0, .int .i64 0, .int .i64 0] 27)
  have C1 := hidMk (new_any N aZ aB (w.alloc (.cells #[.int .i64 0, .int .i64 0, .int .i64 0, .int .i64 0] 27)) (hS.alloc hN _) (by simp; omega))
  have CV := hidMk (fun W K P m T r h => value_any N aZ aB K P m T r [] s W h)
  have CM := hidMk (fun e W => num_any e W)
  have H0 := hidMk h0
  have HB0 := hidMk hb0
  clear hS hN h0 hb0
  unfold vN vB
  go_enter Tryz.func22, Tryz.ntmps22
  go_wp2_with fail
  refine C1.out.mono ?_
  rintro e w1 ⟨rfl, hbk, hb1⟩
  simp only [World.size_alloc] at hbk hb1 ⊢
  have hz1 := (hb1.block w.heap.size (by omega)).trans H0.out
  have hbb1 := HB0.out.trans (hb1.mono (by omega))
  have HB := hidMk hbk
  have HBB := hidMk hbb1
  have HZ := hidMk hz1
  clear hbk hb1 hbb1 hz1 H0 HB0 C1
  generalize w.alloc _ = W0 at *
  generalize w.heap.size + 1 + 4 = K at *
  go_wp2_with fail
  refine (CV.out _ _ _ _ _ _ HB.out).mono ?_
  rintro e w3 ⟨rfl, ht3, hk3⟩
  have hbb3 := HBB.out.trans (hk3.low (by omega) HBB.out.size)
  have hz3 := (hk3.block w.heap.size (Array.getElem?_eq_some_iff.1 HZ.out).1 (by omega)).trans HZ.out
  rw [ansV_parts]
  obtain ⟨z, hz⟩ : ∃ z, ansN (valS [] s) = z := ⟨_, rfl⟩
  obtain ⟨q, hq⟩ : ∃ q, ansE (valS [] s) = q := ⟨_, rfl⟩
  rw [hz, hq]
  have HZQ := hidMk (And.intro hz hq)
  generalize ansP (valS [] s) = p at *
  clear HB HBB HZ ht3 hk3 CV hz hq
  go_upto_region 5 with fail
  have h4 : VQ w #[.int .i64 0, .int .i64 0, .int .i64 0, .int .i64 0] w3.heap.size z (w3.alloc (.cells (numC z) 27)) :=
    ⟨(Below.heap_alloc w3 _ _ (Array.getElem?_eq_some_iff.1 hz3).1).trans hz3, heap_alloc_new w3 _, by have := (Array.getElem?_eq_some_iff.1 hz3).1; omega, hbb3.trans ((fr_below w3 _).mono hbb3.size)⟩
  generalize w3.alloc _ = W4 at *
  generalize w3.heap.size = b5 at *
  have H4 := hidMk h4.drew
  clear hbb3 hz3 h4
  refine region_inv (nt := 23) _
    (fun j v => match j with
      | 0 => v = .agg (numC z)
      | 1 => v = .int .i64 q
      | 2 => v = .int .i64 q
      | 3 => v = .bool (q == 0)
      | 5 => v = .bool (q == 0)
      | _ => True)
    (fun b u w' => Hid (VQ w (if b 4 = true then numC z else #[.int .i64 0, .int .i64 0, .int .i64 0, .int .i64 0]) b5 z w'))
    (act_of rfl rfl) (by kernel_rfl) (by kernel_rfl) (by kernel_rfl) H4.out ?_ ?_
  · intro i o b u w' ho hbi hall hU hW K hK
    have hA : actOf 23 u = ⟨#[u 0, u 1, u 2, u 3, u 4, u 5, u 6, u 7, u 8, u 9, u 10, u 11, u 12, u 13, u 14, u 15, u 16, u 17, u 18, u 19, u 20, u 21, u 22], []⟩ := rfl
    rw [hA] at hK ⊢
    have c2 : u 2 = .pointer (some ⟨w.heap.size, 0, none⟩) := hU.oldB 2 (by kernel_rfl)
    have c5 : u 5 = .pointer (some ⟨b5, 0, none⟩) := hU.oldB 5 (by kernel_rfl)
    have c6 : u 6 = .int .i64 q := hU.oldB 6 (by kernel_rfl)
    have got := hU.got
    have HW := hW
    have HKK := hidMk hK
    clear hU hA hK hW
    obtain ⟨x0, x1, x2, x3⟩ := four_cells HW.out.hx
    rcases i with _ | _ | _ | _ | _ | _ | i
    · cases ho
      go_simp
      exact HKK.out _ _ _ (by rw [c2, c5, c6]; rfl) (fun _ => rfl) HW.out
    · cases ho
      go_simp
      exact HKK.out _ _ _ (by rw [c2, c5, c6]; rfl) (fun _ => rfl) HW.out
    · cases ho
      have g20 : u 20 = .int .i64 q := got 1 20 rfl (hall ⟨1, .data⟩ (by simp) rfl)
      go_simp
      refine (CM.out _ _).mono ?_
      rintro e w9 ⟨rfl, hw9⟩
      subst hw9
      exact HKK.out _ _ _ (by rw [c2, c5, c6, g20]; rfl) (fun _ => rfl) HW.out
    · cases ho
      have g21 : u 21 = .int .i64 q := got 2 21 rfl (hall ⟨2, .data⟩ (by simp) rfl)
      go_simp
      exact HKK.out _ _ _ (by rw [c2, c5, c6, g21]; rfl) (fun _ => rfl) HW.out
    · cases ho
      have g19 : u 19 = .agg (numC z) := got 0 19 rfl (hall ⟨0, .data⟩ (by simp) rfl)
      have h5 := HW.out
      rw [if_neg (by rw [hbi]; decide)] at h5
      obtain ⟨s0, s1, s2, s3⟩ := four_cells h5.hz
      obtain ⟨f0, f1, f2, f3⟩ := four_frozen h5.hz
      have H5 := hidMk h5
      clear h5
      go_simp
      exact HKK.out undef _ _ (by rw [c2, c5, c6, g19]; rfl) (fun h => by cases h) H5.out.setz
    · cases ho
      have g22 : u 22 = .bool (q == 0) := got 3 22 rfl (hall ⟨3, .data⟩ (by simp) rfl)
      go_simp
      exact HKK.out _ _ _ (by rw [c2, c5, c6, g22]; rfl) (fun _ => rfl) HW.out
    · simp at ho
  · intro b u w' hall hU hW
    have e3' : u 3 = .bool (q == 0) := hU.got 5 3 rfl (hall 5 (by decide))
    have h5 := hW.out
    rw [if_pos (hall 4 (by decide))] at h5
    have hA : actOf 23 u = ⟨#[u 0, u 1, u 2, u 3, u 4, u 5, u 6, u 7, u 8, u 9, u 10, u 11, u 12, u 13, u 14, u 15, u 16, u 17, u 18, u 19, u 20, u 21, u 22], []⟩ := rfl
    have e0 : u 0 = .string s := hU.oldB 0 (by kernel_rfl)
    have e1 : u 1 = undef := hU.oldB 1 (by kernel_rfl)
    have e2 : u 2 = .pointer (some ⟨w.heap.size, 0, none⟩) := hU.oldB 2 (by kernel_rfl)
    have e4 : u 4 = .pointer (some ⟨K, 0, none⟩) := hU.oldB 4 (by kernel_rfl)
    have e5 : u 5 = .pointer (some ⟨b5, 0, none⟩) := hU.oldB 5 (by kernel_rfl)
    have e6 : u 6 = .int .i64 q := hU.oldB 6 (by kernel_rfl)
    have e7 : u 7 = .int .i64 p := hU.oldB 7 (by kernel_rfl)
    have e8 : u 8 = .pointer (some ⟨K, 0, none⟩) := hU.oldB 8 (by kernel_rfl)
    have e9 : u 9 = .pointer (some ⟨K, 0, none⟩) := hU.oldB 9 (by kernel_rfl)
    have e10 : u 10 = .bool false := hU.oldB 10 (by kernel_rfl)
    have e11 : u 11 = undef := hU.oldB 11 (by kernel_rfl)
    have e12 : u 12 = .tuple #[.agg (numC z), .int .i64 q, .int .i64 p] := hU.oldB 12 (by kernel_rfl)
    have e13 : u 13 = .pointer (some ⟨K, 0, none⟩) := hU.oldB 13 (by kernel_rfl)
    have e14 : u 14 = .string s := hU.oldB 14 (by kernel_rfl)
    have e15 : u 15 = .tuple #[.agg (numC z), .int .i64 q, .int .i64 p] := hU.oldB 15 (by kernel_rfl)
    have e16 : u 16 = .agg (numC z) := hU.oldB 16 (by kernel_rfl)
    have e17 : u 17 = .int .i64 q := hU.oldB 17 (by kernel_rfl)
    have e18 : u 18 = .int .i64 p := hU.oldB 18 (by kernel_rfl)
    rw [hA, e0, e1, e2, e4, e5, e6, e7, e8, e9, e10, e11, e12, e13, e14, e15, e16, e17, e18]
    clear hA e0 e1 e2 e4 e5 e6 e7 e8 e9 e10 e11 e12 e13 e14 e15 e16 e17 e18
    rw [e3']
    have H5 := hidMk h5
    clear hU hW hall e3' H4 h5 CM
    obtain ⟨z0, z1, z2, z3⟩ := four_cells H5.out.hz
    go_wp2_with fail
    exact bodyPost_ret (v := .tuple #[.agg (numC z), .bool (q == 0)]) (by simp [results, Tryz.results22, go_sem, z0, z1, z2, z3]) rfl ⟨by rw [HZQ.out.1, HZQ.out.2], H5.out.hb⟩
end Go.Proofs.YtodabmkcihafhaaGreatDoor

/- Plain: fractions in lowest terms, as rational numbers; the laws of sums and products. -/
namespace Go.Proofs.YtodabmkcihafhaaGreatDoor
set_option linter.unusedVariables false

def Fr.q (f : Fr) : Rat := (f.n : Rat) / (f.d : Rat)
theorem cast_ne {d : Int} (h : 0 < d) : (d : Rat) ≠ 0 := by
  intro h0
  have : d = 0 := by exact_mod_cast h0
  omega
theorem low_q {n d : Int} (h : 0 < d) : (lowP n d).q = (n : Rat) / (d : Rat) := by
  have h1 := low_mul_n n d
  have h2 := low_mul_d n d
  have h3 := gcdP_pos (n := n) h
  have h4 := low_d_pos (n := n) h
  unfold Fr.q
  generalize (lowP n d).n = a at *
  generalize (lowP n d).d = b at *
  generalize gcdP n d = g at *
  subst h1 h2
  have g0 := cast_ne h3
  have b0 := cast_ne h4
  rw [Rat.intCast_mul, Rat.intCast_mul]
  grind
theorem mk_q {n d : Int} (h : 0 < d) (hb : mkB n d = false) : (mkF n d).q = (n : Rat) / (d : Rat) := by
  rw [mkF_of_not hb]
  exact low_q h
theorem pl_q {a b : Fr} (ha : a.Ok) (hb : b.Ok) (h : plB a b = false) : (plF a b).q = a.q + b.q := by
  unfold plF
  rw [mk_q (mul_pos' ha.1 hb.1) h]
  unfold Fr.q
  have h1 := cast_ne ha.1
  have h2 := cast_ne hb.1
  rw [Rat.intCast_add, Rat.intCast_mul, Rat.intCast_mul, Rat.intCast_mul]
  grind
theorem tm_q {a b : Fr} (ha : a.Ok) (hb : b.Ok) (h : tmB a b = false) : (tmF a b).q = a.q * b.q := by
  unfold tmF
  rw [mk_q (mul_pos' ha.1 hb.1) h]
  unfold Fr.q
  have h1 := cast_ne ha.1
  have h2 := cast_ne hb.1
  rw [Rat.intCast_mul, Rat.intCast_mul]
  grind
theorem neg_q (a : Fr) : a.neg.q = -a.q := by
  unfold Fr.q Fr.neg
  simp only
  rw [Rat.intCast_neg]
  grind
theorem inv_q {a : Fr} (ha : a.Ok) (h : 0 < a.n) : a.inv.q = 1 / a.q ∧ a.q ≠ 0 := by
  have h1 := cast_ne ha.1
  have h2 := cast_ne h
  unfold Fr.q Fr.inv
  simp only
  constructor
  · grind
  · grind
theorem q_inj {a b : Fr} (ha : a.Ok) (hb : b.Ok) (h : a.q = b.q) : a = b := by
  obtain ⟨a1, _, _, _, a5⟩ := ha
  obtain ⟨b1, _, _, _, b5⟩ := hb
  have h1 := cast_ne a1
  have h2 := cast_ne b1
  unfold Fr.q at h
  have e : (a.n : Rat) * (b.d : Rat) = (b.n : Rat) * (a.d : Rat) := by grind
  have e2 : a.n * b.d = b.n * a.d := by exact_mod_cast e
  have e3 : a.n.natAbs * b.d.natAbs = b.n.natAbs * a.d.natAbs := by
    rw [← Int.natAbs_mul, ← Int.natAbs_mul, e2]
  have d1 : a.d.natAbs ∣ b.d.natAbs := by
    have : a.d.natAbs ∣ a.n.natAbs * b.d.natAbs := by rw [e3]; exact Nat.dvd_mul_left _ _
    exact Nat.Coprime.dvd_of_dvd_mul_left (Nat.Coprime.symm a5) this
  have d2 : b.d.natAbs ∣ a.d.natAbs := by
    have : b.d.natAbs ∣ b.n.natAbs * a.d.natAbs := by rw [← e3]; exact Nat.dvd_mul_left _ _
    exact Nat.Coprime.dvd_of_dvd_mul_left (Nat.Coprime.symm b5) this
  have d3 := Nat.dvd_antisymm d1 d2
  have d4 : a.d = b.d := by omega
  have d5 : a.n = b.n := by
    rw [d4] at e2
    exact Int.eq_of_mul_eq_mul_right (by omega) e2
  cases a
  cases b
  simp_all

/-! ### Numbers -/
theorem num_ext {x y : Num} (hx : x.Ok) (hy : y.Ok) (h1 : x.re.q = y.re.q) (h2 : x.im.q = y.im.q) : x = y := by
  have e1 := q_inj hx.1 hy.1 h1
  have e2 := q_inj hx.2 hy.2 h2
  cases x
  cases y
  simp_all
structure Sum2 (x y z : Num) : Prop where
  ok : z.Ok
  re : z.re.q = x.re.q + y.re.q
  im : z.im.q = x.im.q + y.im.q
theorem add_q {x y : Num} (hx : x.Ok) (hy : y.Ok) (h : addB x y = false) : Sum2 x y (addN x y) := by
  unfold addB at h
  simp only [Bool.or_eq_false_iff] at h
  exact ⟨addN_ok hx hy, pl_q hx.1 hy.1 h.1, pl_q hx.2 hy.2 h.2⟩
structure Dif2 (x y z : Num) : Prop where
  ok : z.Ok
  re : z.re.q = x.re.q - y.re.q
  im : z.im.q = x.im.q - y.im.q
theorem sub_q {x y : Num} (hx : x.Ok) (hy : y.Ok) (h : subB x y = false) : Dif2 x y (subN x y) := by
  have a := add_q hx hy.neg h
  refine ⟨a.ok, ?_, ?_⟩
  · have := a.re
    rw [show y.neg.re.q = -y.re.q from neg_q _] at this
    unfold subN
    grind
  · have := a.im
    rw [show y.neg.im.q = -y.im.q from neg_q _] at this
    unfold subN
    grind
structure Mul2 (x y z : Num) : Prop where
  ok : z.Ok
  re : z.re.q = x.re.q * y.re.q - x.im.q * y.im.q
  im : z.im.q = x.re.q * y.im.q + x.im.q * y.re.q
theorem mul_q {x y : Num} (hx : x.Ok) (hy : y.Ok) (h : mulB x y = false) : Mul2 x y (mulN x y) := by
  unfold mulB at h
  simp only [Bool.or_eq_false_iff] at h
  obtain ⟨⟨⟨⟨⟨h1, h2⟩, h3⟩, h4⟩, h5⟩, h6⟩ := h
  refine ⟨mulN_ok hx hy, ?_, ?_⟩
  · show (plF (tmF x.re y.re) (tmF x.im y.im).neg).q = _
    rw [pl_q (tmF_ok hx.1 hy.1) (tmF_ok hx.2 hy.2).neg h3, neg_q, tm_q hx.1 hy.1 h1, tm_q hx.2 hy.2 h2]
    grind
  · show (plF (tmF x.re y.im) (tmF x.im y.re)).q = _
    rw [pl_q (tmF_ok hx.1 hy.2) (tmF_ok hx.2 hy.1) h6, tm_q hx.1 hy.2 h4, tm_q hx.2 hy.1 h5]
structure Div2 (x y z : Num) : Prop where
  ok : z.Ok
  ne : y.re.q * y.re.q + y.im.q * y.im.q ≠ 0
  re : z.re.q = (x.re.q * y.re.q + x.im.q * y.im.q) / (y.re.q * y.re.q + y.im.q * y.im.q)
  im : z.im.q = (x.im.q * y.re.q - x.re.q * y.im.q) / (y.re.q * y.re.q + y.im.q * y.im.q)
theorem div_q {x y : Num} (hx : x.Ok) (hy : y.Ok) (hz : y.zero = false) (hs : sqB y = false) (h : divB x y = false) : Div2 x y (divN x y) := by
  have sp := sq_pos hy hz hs
  have so : (sqF y).Ok := plF_ok (tmF_ok hy.1 hy.1) (tmF_ok hy.2 hy.2)
  obtain ⟨iq, in0⟩ := inv_q so sp
  have io := (mk_of_inv so sp).2.2
  unfold sqB at hs
  simp only [Bool.or_eq_false_iff] at hs
  obtain ⟨⟨s1, s2⟩, s3⟩ := hs
  have sq : (sqF y).q = y.re.q * y.re.q + y.im.q * y.im.q := by
    unfold sqF
    rw [pl_q (tmF_ok hy.1 hy.1) (tmF_ok hy.2 hy.2) s3, tm_q hy.1 hy.1 s1, tm_q hy.2 hy.2 s2]
  unfold divB at h
  simp only [Bool.or_eq_false_iff] at h
  obtain ⟨⟨⟨⟨⟨⟨⟨h1, h2⟩, h3⟩, h4⟩, h5⟩, h6⟩, h7⟩, h8⟩ := h
  rw [sq] at iq in0
  refine ⟨⟨tmF_ok (plF_ok (tmF_ok hx.1 hy.1) (tmF_ok hx.2 hy.2)) io, tmF_ok (plF_ok (tmF_ok hx.2 hy.1) (tmF_ok hx.1 hy.2).neg) io⟩, in0, ?_, ?_⟩
  · show (tmF (dvRe x y) (sqF y).inv).q = _
    rw [tm_q (a := dvRe x y) (plF_ok (tmF_ok hx.1 hy.1) (tmF_ok hx.2 hy.2)) io h4, iq]
    unfold dvRe
    rw [pl_q (tmF_ok hx.1 hy.1) (tmF_ok hx.2 hy.2) h3, tm_q hx.1 hy.1 h1, tm_q hx.2 hy.2 h2]
    grind
  · show (tmF (dvIm x y) (sqF y).inv).q = _
    rw [tm_q (a := dvIm x y) (plF_ok (tmF_ok hx.2 hy.1) (tmF_ok hx.1 hy.2).neg) io h8, iq]
    unfold dvIm
    rw [pl_q (tmF_ok hx.2 hy.1) (tmF_ok hx.1 hy.2).neg h7, neg_q, tm_q hx.2 hy.1 h5, tm_q hx.1 hy.2 h6]
    grind

/-! ### The laws -/
theorem bigOr_ok {b : Bool} {x z : Num} (h : bigOr b x = .ok z) : b = false ∧ z = x := by
  unfold bigOr at h
  cases b with
  | true => simp at h
  | false => simp at h; exact ⟨rfl, h.symm⟩
theorem op_add {x y z : Num} (hx : x.Ok) (hy : y.Ok) (h : opP 43 x y = .ok z) : Sum2 x y z := by
  obtain ⟨hb, rfl⟩ := bigOr_ok (show bigOr _ _ = _ from h)
  exact add_q hx hy hb
theorem op_sub {x y z : Num} (hx : x.Ok) (hy : y.Ok) (h : opP 8722 x y = .ok z) : Dif2 x y z := by
  obtain ⟨hb, rfl⟩ := bigOr_ok (show bigOr _ _ = _ from h)
  exact sub_q hx hy hb
theorem op_mul {x y z : Num} (hx : x.Ok) (hy : y.Ok) (h : opP 215 x y = .ok z) : Mul2 x y z := by
  obtain ⟨hb, rfl⟩ := bigOr_ok (show bigOr _ _ = _ from h)
  exact mul_q hx hy hb
theorem op_div {x y z : Num} (hx : x.Ok) (hy : y.Ok) (h : opP 247 x y = .ok z) : Div2 x y z := by
  have h' : (if y.zero = true then Got.err 4 else bigOr (sqB y || divB x y) (divN x y)) = .ok z := h
  by_cases hz : y.zero = true
  · rw [if_pos hz] at h'; cases h'
  · rw [if_neg hz] at h'
    obtain ⟨hb, rfl⟩ := bigOr_ok h'
    simp only [Bool.or_eq_false_iff] at hb
    exact div_q hx hy (by simpa using hz) hb.1 hb.2
theorem ring_one {x y u v : Num} (hx : x.Ok) (hy : y.Ok) (h1 : opP 43 x y = .ok u) (h2 : opP 43 y x = .ok v) : u = v := by
  have a := op_add hx hy h1
  have b := op_add hy hx h2
  refine num_ext a.ok b.ok ?_ ?_
  · rw [a.re, b.re]; grind
  · rw [a.im, b.im]; grind
theorem ring_two {x y u v : Num} (hx : x.Ok) (hy : y.Ok) (h1 : opP 215 x y = .ok u) (h2 : opP 215 y x = .ok v) : u = v := by
  have a := op_mul hx hy h1
  have b := op_mul hy hx h2
  refine num_ext a.ok b.ok ?_ ?_
  · rw [a.re, b.re]; grind
  · rw [a.im, b.im]; grind
theorem ring_three {x y u v : Num} (hx : x.Ok) (hy : y.Ok) (h1 : opP 43 x y = .ok u) (h2 : opP 8722 u y = .ok v) : v = x := by
  have a := op_add hx hy h1
  have b := op_sub a.ok hy h2
  refine num_ext b.ok hx ?_ ?_
  · rw [b.re, a.re]; grind
  · rw [b.im, a.im]; grind
theorem ring_four {x y u v : Num} (hx : x.Ok) (hy : y.Ok) (h1 : opP 215 x y = .ok u) (h2 : opP 247 u y = .ok v) : v = x := by
  have a := op_mul hx hy h1
  have b := op_div a.ok hy h2
  have n := b.ne
  refine num_ext b.ok hx ?_ ?_
  · rw [b.re, a.re, a.im]; grind
  · rw [b.im, a.re, a.im]; grind
theorem ring_five {x y z u v p q r : Num} (hx : x.Ok) (hy : y.Ok) (hz : z.Ok) (h1 : opP 43 x y = .ok u) (h2 : opP 215 u z = .ok v) (h3 : opP 215 x z = .ok p) (h4 : opP 215 y z = .ok q) (h5 : opP 43 p q = .ok r) : v = r := by
  have a := op_add hx hy h1
  have b := op_mul a.ok hz h2
  have c := op_mul hx hz h3
  have d := op_mul hy hz h4
  have e := op_add c.ok d.ok h5
  refine num_ext b.ok e.ok ?_ ?_
  · rw [b.re, e.re, a.re, a.im, c.re, d.re]; grind
  · rw [b.im, e.im, a.re, a.im, c.im, d.im]; grind
theorem mirror_mul {x y u v : Num} (hx : x.Ok) (hy : y.Ok) (h1 : opP 215 x y = .ok u) (h2 : opP 215 x.conj y.conj = .ok v) : u.conj = v := by
  have a := op_mul hx hy h1
  have b := op_mul hx.conj hy.conj h2
  refine num_ext a.ok.conj b.ok ?_ ?_
  · rw [b.re]
    show u.re.q = x.re.q * y.re.q - x.im.neg.q * y.im.neg.q
    rw [a.re, neg_q, neg_q]; grind
  · rw [b.im]
    show u.im.neg.q = x.re.q * y.im.neg.q + x.im.neg.q * y.re.q
    rw [neg_q, a.im, neg_q, neg_q]; grind
theorem conj_conj (x : Num) : x.conj.conj = x := by
  cases x
  unfold Num.conj Fr.neg
  simp
end Go.Proofs.YtodabmkcihafhaaGreatDoor

/- The laws' begun, joined, alike. -/
namespace Go.Proofs.YtodabmkcihafhaaGreatDoor
open Go.RowKit
set_option linter.unusedVariables false

def begT : ByteArray := (⟨#[40, 49, 194, 189, 43, 105, 41]⟩ : ByteArray) ++ Utf8.encode 215 ++ ⟨#[105]⟩
theorem begT_v : vN begT = ⟨⟨-1, 1⟩, ⟨3, 2⟩⟩ ∧ vB begT = true := by
  constructor
  · kernel_rfl
  · kernel_rfl
theorem text_fn (c : Nat) (w : World) (hc : c < 55296) : Calls Tryz.prog 21 #[.int .i64 c] w fun e w' => e = .returned (.string (Utf8.encode (c : Int))) ∧ Below w.heap.size w w' :=
  (text_any c w hc).mono fun e w' ⟨h1, o, h2⟩ => ⟨h1, by rw [h2]; exact fr_below w o⟩
theorem cat_run (a b : ByteArray) (h : a.size + b.size ≤ 1152921504606846976) (w : World) : (Op.stringOp .add a b).run Tryz.prog w = .ok (.string (a ++ b)) w := by
  have : ¬ ((a.size + b.size : Nat) : Int) > IntKind.i64.max := by
    have : IntKind.i64.max = 9223372036854775807 := by decide
    rw [this]
    omega
  simp only [Op.stringOp]
  rw [if_neg this]
  rfl

set_option maxHeartbeats 2000000 in
set_option maxRecDepth 100000 in
theorem begun_fn (N : Nat) (aZ aB : Addr) (w : World) (hS : Sen N aZ aB w) (hN : N ≤ w.heap.size) :
    Calls Tryz.prog 18 #[] w fun e w' => e = .returned (.bool true) ∧ Below w.heap.size w w' := by
  have CT := hidMk (text_fn 215 w (by decide))
  have CV := hidMk (fun W (hb : Below w.heap.size w W) => value_fn N aZ aB begT W (hS.below hb hN) (Nat.le_trans hN hb.size))
  have hv := begT_v
  have es : (Utf8.encode 215).size = 2 := by decide
  have c1 := fun W => cat_run ⟨#[40, 49, 194, 189, 43, 105, 41]⟩ (Utf8.encode 215) (by rw [es]; decide) W
  have c2 := fun W => cat_run ((⟨#[40, 49, 194, 189, 43, 105, 41]⟩ : ByteArray) ++ Utf8.encode 215) ⟨#[105]⟩ (by rw [ByteArray.size_append, es]; decide) W
  have C1 := hidMk c1
  have C2 := hidMk c2
  have HV := hidMk hv
  clear hS hN c1 c2 hv es
  go_enter Tryz.func18, Tryz.ntmps18
  go_wp2_with fail
  refine CT.out.mono ?_
  rintro e w1 ⟨rfl, hb1⟩
  have c1 := C1.out w1
  have c2 := C2.out w1
  have e1 : ((215 : Nat) : Int) = 215 := rfl
  rw [e1]
  have HB1 := hidMk hb1
  clear hb1 CT C1 C2 e1
  go_wp2_with fail
  refine (CV.out w1 HB1.out).mono ?_
  rintro e w2 ⟨rfl, hb2⟩
  rw [HV.out.1, HV.out.2]
  have hbb := HB1.out.trans (hb2.mono HB1.out.size)
  clear HB1 hb2 CV HV c1 c2
  go_upto_region 2 with fail
  have hx3 := heap_alloc_new w2 (.cells (numC ⟨⟨-1, 1⟩, ⟨3, 2⟩⟩) 27)
  have hb3 := hbb.trans ((fr_below w2 (.cells (numC ⟨⟨-1, 1⟩, ⟨3, 2⟩⟩) 27)).mono hbb.size)
  generalize w2.alloc _ = W3 at *
  generalize w2.heap.size = b1 at *
  obtain ⟨x0, x1, x2, x3⟩ := four_cells hx3
  have heq := eq4_same (-1) 1 3 2 W3
  have HB3 := hidMk hb3
  clear hbb hb3 hx3
  go_wp2_with fail
  go_ret
  exact ⟨rfl, HB3.out⟩

/-! ### Joined -/
def jT (a : ByteArray) (c : Nat) (b : ByteArray) : ByteArray := (⟨#[40]⟩ : ByteArray) ++ a ++ ⟨#[41]⟩ ++ Utf8.encode (c : Int) ++ ⟨#[40]⟩ ++ b ++ ⟨#[41]⟩
theorem jT_eq (a : ByteArray) (c : Nat) (b : ByteArray) : jT a c b = inBr a ++ Utf8.encode (c : Int) ++ inBr b := by
  unfold jT inBr
  simp [ByteArray.append_assoc]
def jB (a : ByteArray) (c : Nat) (b : ByteArray) : Bool := (refE a == 0 && refE b == 0) && decide (((jT a c b).size : Int) ≤ 120)
theorem cat6 (a : ByteArray) (c : Nat) (b : ByteArray) (ha : a.size ≤ 281474976710656) (hb : b.size ≤ 281474976710656) (hc : c < 55296) :
    ((⟨#[40]⟩ : ByteArray).size + a.size ≤ 1152921504606846976) ∧ (((⟨#[40]⟩ : ByteArray) ++ a).size + (⟨#[41]⟩ : ByteArray).size ≤ 1152921504606846976) ∧ (((⟨#[40]⟩ : ByteArray) ++ a ++ ⟨#[41]⟩).size + (Utf8.encode (c : Int)).size ≤ 1152921504606846976) ∧
    (((⟨#[40]⟩ : ByteArray) ++ a ++ ⟨#[41]⟩ ++ Utf8.encode (c : Int)).size + (⟨#[40]⟩ : ByteArray).size ≤ 1152921504606846976) ∧ (((⟨#[40]⟩ : ByteArray) ++ a ++ ⟨#[41]⟩ ++ Utf8.encode (c : Int) ++ ⟨#[40]⟩).size + b.size ≤ 1152921504606846976) ∧
    (((⟨#[40]⟩ : ByteArray) ++ a ++ ⟨#[41]⟩ ++ Utf8.encode (c : Int) ++ ⟨#[40]⟩ ++ b).size + (⟨#[41]⟩ : ByteArray).size ≤ 1152921504606846976) := by
  have h4 := enc_size (c : Int)
  have e1 : (⟨#[40]⟩ : ByteArray).size = 1 := rfl
  have e2 : (⟨#[41]⟩ : ByteArray).size = 1 := rfl
  simp only [ByteArray.size_append, e1, e2]
  omega

set_option maxHeartbeats 2000000 in
set_option maxRecDepth 100000 in
theorem joined_fn (a : ByteArray) (c : Nat) (b : ByteArray) (w : World) (ha : a.size ≤ 281474976710656) (hb : b.size ≤ 281474976710656) (hc : c < 55296) :
    Calls Tryz.prog 19 #[.string a, .int .i64 c, .string b] w fun e w' => e = .returned (.tuple #[.string (jT a c b), .bool (jB a c b)]) ∧ Below w.heap.size w w' := by
  obtain ⟨k1, k2, k3, k4, k5, k6⟩ := cat6 a c b ha hb hc
  have K1 := hidMk (fun W => cat_run _ _ k1 W)
  have K2 := hidMk (fun W => cat_run _ _ k2 W)
  have K3 := hidMk (fun W => cat_run _ _ k3 W)
  have K4 := hidMk (fun W => cat_run _ _ k4 W)
  have K5 := hidMk (fun W => cat_run _ _ k5 W)
  have K6 := hidMk (fun W => cat_run _ _ k6 W)
  have CP := hidMk (fun t W => print_any t W)
  have CT := hidMk (fun W => text_fn c W hc)
  have CM := hidMk (fun e W => num_any e W)
  have HJ : Hid (jB a c b = ((refE a == 0 && refE b == 0) && decide (((jT a c b).size : Int) ≤ 120))) := rfl
  have HT : Hid (jT a c b = (⟨#[40]⟩ : ByteArray) ++ a ++ ⟨#[41]⟩ ++ Utf8.encode (c : Int) ++ ⟨#[40]⟩ ++ b ++ ⟨#[41]⟩) := rfl
  clear ha hb hc k1 k2 k3 k4 k5 k6
  go_enter Tryz.func19, Tryz.ntmps19
  go_wp2_with fail
  refine (CP.out a w).mono ?_
  rintro e w1 ⟨rfl, hb1⟩
  have HB1 := hidMk hb1
  clear hb1
  go_wp2_with fail
  refine (CP.out b w1).mono ?_
  rintro e w2 ⟨rfl, hb2⟩
  have hbb2 := HB1.out.trans (hb2.mono HB1.out.size)
  have HB2 := hidMk hbb2
  clear hb2 hbb2 HB1
  have r1 := K1.out w2
  have r2 := K2.out w2
  go_wp2_with fail
  refine (CT.out w2).mono ?_
  rintro e w3 ⟨rfl, hb3⟩
  have hbb3 := HB2.out.trans (hb3.mono HB2.out.size)
  have HB3 := hidMk hbb3
  clear hb3 hbb3 HB2 r1 r2
  have r3 := K3.out w3
  have r4 := K4.out w3
  have r5 := K5.out w3
  have r6 := K6.out w3
  go_upto_region 4 with fail
  clear r3 r4 r5 r6 K1 K2 K3 K4 K5 K6
  have ht := HT.out
  have hj := HJ.out
  generalize (⟨#[40]⟩ : ByteArray) ++ a ++ ⟨#[41]⟩ ++ Utf8.encode (c : Int) ++ ⟨#[40]⟩ ++ b ++ ⟨#[41]⟩ = t at *
  rw [ht] at hj
  have HJ2 := hidMk hj
  have HT2 := hidMk ht
  clear HJ HT hj ht
  generalize refE a = p at *
  generalize refE b = q at *
  go_wp2_with (go_at_call 15; refine (CM.out _ _).mono ?_; rintro e w7 ⟨rfl, rfl⟩)
  · rename_i hp hq
    subst hp hq
    go_ret2
    refine ⟨?_, HB3.out⟩
    rw [HT2.out, HJ2.out]
    rfl
  · rename_i hp hq
    subst hp
    go_ret2
    refine ⟨?_, HB3.out⟩
    rw [HT2.out, HJ2.out]
    simp [hq]
  · rename_i hp
    go_ret2
    refine ⟨?_, HB3.out⟩
    rw [HT2.out, HJ2.out]
    simp [hp]
end Go.Proofs.YtodabmkcihafhaaGreatDoor

/- The laws' alike. -/
namespace Go.Proofs.YtodabmkcihafhaaGreatDoor
open Go.RowKit
set_option linter.unusedVariables false

/-- Two texts are worked to the same, if both can be worked. -/
def Alike (a b : ByteArray) : Prop := vB a = true → vB b = true → vN a = vN b
set_option maxHeartbeats 2000000 in
set_option maxRecDepth 100000 in
theorem alike_fn (N : Nat) (aZ aB : Addr) (a b : ByteArray) (w : World) (hS : Sen N aZ aB w) (hN : N ≤ w.heap.size) (h : Alike a b) :
    Calls Tryz.prog 20 #[.string a, .string b] w fun e w' => e = .returned (.bool true) ∧ Below w.heap.size w w' := by
  have CV := hidMk (fun t W (hb : Below w.heap.size w W) => value_fn N aZ aB t W (hS.below hb hN) (Nat.le_trans hN hb.size))
  have HA := hidMk h
  clear hS hN h
  unfold Alike at HA
  go_enter Tryz.func20, Tryz.ntmps20
  go_wp2_with fail
  refine (CV.out a w (Below.refl _ _)).mono ?_
  rintro e w1 ⟨rfl, hb1⟩
  generalize vN a = x at *
  generalize vB a = p at *
  go_upto_region 2 with fail
  have hx2 := heap_alloc_new w1 (.cells (numC x) 27)
  have hb2 := hb1.trans ((fr_below w1 (.cells (numC x) 27)).mono hb1.size)
  generalize w1.alloc _ = W2 at *
  generalize w1.heap.size = b5 at *
  have HX := hidMk hx2
  have HB := hidMk hb2
  clear hb1 hx2 hb2
  go_wp2_with fail
  refine (CV.out b W2 HB.out).mono ?_
  rintro e w3 ⟨rfl, hb3⟩
  have hx3 := (hb3.block _ (Array.getElem?_eq_some_iff.1 HX.out).1).trans HX.out
  have hbb3 := HB.out.trans (hb3.mono HB.out.size)
  generalize vN b = y at *
  generalize vB b = q at *
  clear HX HB hb3 CV
  go_upto_region 3 with fail
  have hx4 := (Below.heap_alloc w3 (.cells (numC y) 27) _ (Array.getElem?_eq_some_iff.1 hx3).1).trans hx3
  have hy4 := heap_alloc_new w3 (.cells (numC y) 27)
  have hb4 := hbb3.trans ((fr_below w3 (.cells (numC y) 27)).mono hbb3.size)
  generalize w3.alloc _ = W4 at *
  generalize w3.heap.size = b7 at *
  obtain ⟨x0, x1, x2, x3⟩ := four_cells hx4
  obtain ⟨y0, y1, y2, y3⟩ := four_cells hy4
  have HB4 := hidMk hb4
  clear hx3 hbb3 hx4 hy4 hb4
  cases p with
  | false =>
    clear HA
    go_wp2_with fail
    go_ret
    exact ⟨rfl, HB4.out⟩
  | true =>
    cases q with
    | false =>
      clear HA
      go_wp2_with fail
      go_ret
      exact ⟨rfl, HB4.out⟩
    | true =>
      have he := HA.out rfl rfl
      subst he
      have heq := eq4_same x.re.n x.re.d x.im.n x.im.d W4
      clear HA
      go_wp2_with fail
      go_ret
      exact ⟨rfl, HB4.out⟩
end Go.Proofs.YtodabmkcihafhaaGreatDoor

/- Plain: the numbers of joined texts. -/
namespace Go.Proofs.YtodabmkcihafhaaGreatDoor
set_option linter.unusedVariables false

theorem nm0 : ∀ q ∈ ([] : List (Int × Num)), q.2.Ok := fun q hq => by simp at hq
theorem vB_ok {s : ByteArray} (h : vB s = true) : valS [] s = .ok (vN s) := by
  rcases valS_cases [] s nm0 with ⟨x, hv⟩ | ⟨q, p, hv, hq⟩
  · unfold vN
    rw [hv]
    rfl
  · unfold vB at h
    rw [hv] at h
    have : q = 0 := by simpa [ansE] using h
    exact absurd this hq
theorem vB_of {s : ByteArray} {x : Num} (h : valS [] s = .ok x) : vB s = true ∧ vN s = x := by
  unfold vB vN
  rw [h]
  exact ⟨rfl, rfl⟩
abbrev en0 : Env := envOf []
theorem val_tree {s : ByteArray} (hs : s.size ≤ 120) (hg : good s = true) : valS [] s = valT en0 (treeT s) := by
  unfold valS
  rw [if_neg (by omega), if_pos hg]
theorem valT_ok {e : Ex} {x : Num} (h : valT en0 e = .ok x) : missT en0 e = none ∧ evT en0 e = .ok x := by
  unfold valT at h
  cases hm : missT en0 e with
  | some p => rw [hm] at h; cases h
  | none => rw [hm] at h; exact ⟨rfl, h⟩
theorem valT_mk {e : Ex} {x : Num} (h1 : missT en0 e = none) (h2 : evT en0 e = .ok x) : valT en0 e = .ok x := by
  unfold valT
  rw [h1]
  exact h2
theorem ev_unshift {env : Env} {k : Nat} {e : Ex} {x : Num} (h : evT env (e.shift k) = .ok x) : evT env e = .ok x := by
  obtain ⟨h1, h2⟩ := evT_shift env k e
  cases he : evT env e with
  | ok y =>
    rw [h1 y he] at h
    injection h with h
    rw [h]
  | err q p =>
    obtain ⟨p', hp⟩ := h2 q p he
    rw [hp] at h
    cases h
theorem miss_unshift {env : Env} {k : Nat} {e : Ex} (h : missT env (e.shift k) = none) : missT env e = none := by
  rw [missT_shift] at h
  cases hm : missT env e with
  | none => rfl
  | some p => rw [hm] at h; cases h
theorem valT_unshift {k : Nat} {e : Ex} {x : Num} (h : valT en0 (e.shift k) = .ok x) : valT en0 e = .ok x := by
  obtain ⟨h1, h2⟩ := valT_ok h
  exact valT_mk (miss_unshift h1) (ev_unshift h2)
theorem valT_ok_num {e : Ex} (he : ExOk e) {x : Num} (h : valT en0 e = .ok x) : x.Ok := (ev_ok (env_ok nm0) e he).1 x (valT_ok h).2
theorem at_ok' {g : Got} {p : Nat} {x : Num} (h : g.at p = .ok x) : g = .ok x := by
  cases g with
  | ok y => injection h with h; rw [h]
  | err q => cases h
theorem valT_bin {c : Int} {p : Nat} {l r : Ex} {z : Num} (h : valT en0 (.bin c p l r) = .ok z) : ∃ x y, valT en0 l = .ok x ∧ valT en0 r = .ok y ∧ opP c x y = .ok z := by
  obtain ⟨h1, h2⟩ := valT_ok h
  simp only [missT] at h1
  simp only [evT] at h2
  cases hl : missT en0 l with
  | some q => rw [hl] at h1; cases h1
  | none =>
    rw [hl] at h1
    cases el : evT en0 l with
    | err q s => rw [el] at h2; cases h2
    | ok x =>
      rw [el] at h2
      cases er : evT en0 r with
      | err q s => rw [er] at h2; cases h2
      | ok y =>
        rw [er] at h2
        exact ⟨x, y, valT_mk hl el, valT_mk h1 er, at_ok' h2⟩
theorem valT_un {c : Int} {p : Nat} {e : Ex} {z : Num} (h : valT en0 (.un c p e) = .ok z) : ∃ x, valT en0 e = .ok x ∧ opP c x x = .ok z := by
  obtain ⟨h1, h2⟩ := valT_ok h
  simp only [missT] at h1
  simp only [evT] at h2
  cases el : evT en0 e with
  | err q s => rw [el] at h2; cases h2
  | ok x =>
    rw [el] at h2
    exact ⟨x, valT_mk h1 el, at_ok' h2⟩
theorem refE_ok {s : ByteArray} (h : refE s = 0) : s.size ≤ 120 ∧ good s = true := by
  rcases valS_read [] s with ⟨_, hs, hg, _⟩ | ⟨hE, _⟩
  · exact ⟨hs, hg⟩
  · exact absurd h hE
/-- A text that is an expression, and its number. -/
structure Has (s : ByteArray) (x : Num) : Prop where
  v : valS [] s = .ok x
  ok : x.Ok
theorem has_of {s : ByteArray} (h : vB s = true) : Has s (vN s) := by
  have hv := vB_ok h
  rcases valS_read [] s with ⟨_, hs, hg, hr⟩ | ⟨hE, p, hp, hr⟩
  · refine ⟨hv, ?_⟩
    rw [hr] at hv
    exact valT_ok_num (top_tree s hg).2.2.1 hv
  · rw [hr] at hv; cases hv
theorem Has.eq {s : ByteArray} {x y : Num} (h : Has s x) (k : Has s y) : x = y := by
  have := h.v.symm.trans k.v
  injection this
structure Joined (a : ByteArray) (c : Nat) (b : ByteArray) : Prop where
  ea : refE a = 0
  eb : refE b = 0
  sz : (jT a c b).size ≤ 120
theorem joined_of {a : ByteArray} {c : Nat} {b : ByteArray} (h : jB a c b = true) : Joined a c b := by
  unfold jB at h
  simp only [Bool.and_eq_true, beq_iff_eq, decide_eq_true_eq] at h
  exact ⟨h.1.1, h.1.2, by omega⟩
theorem joined_val {a : ByteArray} {c : Nat} {b : ByteArray} (h : Joined a c b) (hc : signs2 c) {z : Num} (hz : Has (jT a c b) z) : ∃ x y, Has a x ∧ Has b y ∧ opP c x y = .ok z := by
  obtain ⟨sa, ga⟩ := refE_ok h.ea
  obtain ⟨sb, gb⟩ := refE_ok h.eb
  obtain ⟨gj, p, q, r, ht⟩ := joined_tree a b c hc ga gb (jT a c b) (jT_eq a c b) h.sz
  have hv := hz.v
  rw [val_tree h.sz gj, ht] at hv
  obtain ⟨x, y, h1, h2, h3⟩ := valT_bin hv
  have h1' := valT_unshift h1
  have h2' := valT_unshift h2
  exact ⟨x, y, ⟨(val_tree sa ga).trans h1', valT_ok_num (top_tree a ga).2.2.1 h1'⟩, ⟨(val_tree sb gb).trans h2', valT_ok_num (top_tree b gb).2.2.1 h2'⟩, h3⟩
theorem joined_good {a : ByteArray} {c : Nat} {b : ByteArray} (h : Joined a c b) (hc : signs2 c) : refE (jT a c b) = 0 := by
  obtain ⟨sa, ga⟩ := refE_ok h.ea
  obtain ⟨sb, gb⟩ := refE_ok h.eb
  obtain ⟨gj, _⟩ := joined_tree a b c hc ga gb (jT a c b) (jT_eq a c b) h.sz
  have := h.sz
  unfold refE
  rw [if_neg (by omega), if_pos gj]
theorem ring1 {a b : ByteArray} (h1 : Joined a 43 b) (h2 : Joined b 43 a) : Alike (jT a 43 b) (jT b 43 a) := by
  intro v1 v2
  obtain ⟨x, y, hx, hy, e1⟩ := joined_val h1 (Or.inl rfl) (has_of v1)
  obtain ⟨y', x', hy', hx', e2⟩ := joined_val h2 (Or.inl rfl) (has_of v2)
  obtain rfl := hx.eq hx'
  obtain rfl := hy.eq hy'
  exact ring_one hx.ok hy.ok e1 e2
theorem ring2 {a b : ByteArray} (h1 : Joined a 215 b) (h2 : Joined b 215 a) : Alike (jT a 215 b) (jT b 215 a) := by
  intro v1 v2
  obtain ⟨x, y, hx, hy, e1⟩ := joined_val h1 (Or.inr (Or.inr (Or.inl rfl))) (has_of v1)
  obtain ⟨y', x', hy', hx', e2⟩ := joined_val h2 (Or.inr (Or.inr (Or.inl rfl))) (has_of v2)
  obtain rfl := hx.eq hx'
  obtain rfl := hy.eq hy'
  exact ring_two hx.ok hy.ok e1 e2
theorem ring3 {a b : ByteArray} (h1 : Joined a 43 b) (h2 : Joined (jT a 43 b) 8722 b) : Alike (jT (jT a 43 b) 8722 b) a := by
  intro v1 v2
  obtain ⟨u, y, hu, hy, e2⟩ := joined_val h2 (Or.inr (Or.inl rfl)) (has_of v1)
  obtain ⟨x, y', hx, hy', e1⟩ := joined_val h1 (Or.inl rfl) hu
  obtain rfl := hy.eq hy'
  rw [ring_three hx.ok hy.ok e1 e2]
  exact hx.eq (has_of v2)
theorem ring4 {a b : ByteArray} (h1 : Joined a 215 b) (h2 : Joined (jT a 215 b) 247 b) : Alike (jT (jT a 215 b) 247 b) a := by
  intro v1 v2
  obtain ⟨u, y, hu, hy, e2⟩ := joined_val h2 (Or.inr (Or.inr (Or.inr rfl))) (has_of v1)
  obtain ⟨x, y', hx, hy', e1⟩ := joined_val h1 (Or.inr (Or.inr (Or.inl rfl))) hu
  obtain rfl := hy.eq hy'
  rw [ring_four hx.ok hy.ok e1 e2]
  exact hx.eq (has_of v2)
theorem ring5 {a b c : ByteArray} (h1 : Joined a 43 b) (h2 : Joined (jT a 43 b) 215 c) (h3 : Joined a 215 c) (h4 : Joined b 215 c) (h5 : Joined (jT a 215 c) 43 (jT b 215 c)) : Alike (jT (jT a 43 b) 215 c) (jT (jT a 215 c) 43 (jT b 215 c)) := by
  intro v1 v2
  have tm : signs2 215 := Or.inr (Or.inr (Or.inl rfl))
  obtain ⟨u, z, hu, hz, e2⟩ := joined_val h2 tm (has_of v1)
  obtain ⟨x, y, hx, hy, e1⟩ := joined_val h1 (Or.inl rfl) hu
  obtain ⟨p, q, hp, hq, e5⟩ := joined_val h5 (Or.inl rfl) (has_of v2)
  obtain ⟨x', z', hx', hz', e3⟩ := joined_val h3 tm hp
  obtain ⟨y', z'', hy', hz'', e4⟩ := joined_val h4 tm hq
  obtain rfl := hx.eq hx'
  obtain rfl := hy.eq hy'
  obtain rfl := hz.eq hz'
  obtain rfl := hz.eq hz''
  exact ring_five hx.ok hy.ok hz.ok e1 e2 e3 e4 e5
end Go.Proofs.YtodabmkcihafhaaGreatDoor

/- The law Ring. -/
namespace Go.Proofs.YtodabmkcihafhaaGreatDoor
open Go.RowKit
set_option linter.unusedVariables false

theorem jT_size (a : ByteArray) (c : Nat) (b : ByteArray) : (jT a c b).size ≤ a.size + b.size + 8 := by
  rw [jT_eq, ByteArray.size_append, ByteArray.size_append, inBr_size, inBr_size]
  have := enc_size (c : Int)
  omega
set_option maxHeartbeats 8000000 in
set_option maxRecDepth 100000 in
theorem ring_law (N : Nat) (aZ aB : Addr) (a b c : ByteArray) (w : World) (hS : Sen N aZ aB w) (hN : N ≤ w.heap.size) (ha : a.size ≤ 140737488351232) (hb : b.size ≤ 140737488351232) (hc : c.size ≤ 140737488351232) :
    Calls Tryz.prog 5 #[.string a, .string b, .string c] w fun e w' => e = .returned (.bool true) ∧ Below w.heap.size w w' := by
  have CB := hidMk (begun_fn N aZ aB w hS hN)
  have CA := hidMk (fun s t W (hb : Below w.heap.size w W) (h : Alike s t) => alike_fn N aZ aB s t W (hS.below hb hN) (Nat.le_trans hN hb.size) h)
  have J1 := hidMk (fun W => joined_fn a 43 b W (by omega) (by omega) (by decide))
  have J2 := hidMk (fun W => joined_fn b 43 a W (by omega) (by omega) (by decide))
  have J3 := hidMk (fun W => joined_fn a 215 b W (by omega) (by omega) (by decide))
  have J4 := hidMk (fun W => joined_fn b 215 a W (by omega) (by omega) (by decide))
  have s1 : jB a 43 b = true → (jT a 43 b).size ≤ 120 := fun h => (joined_of h).sz
  have s2 : jB a 215 b = true → (jT a 215 b).size ≤ 120 := fun h => (joined_of h).sz
  have J5 := hidMk (fun (h : jB a 43 b = true) W => joined_fn (jT a 43 b) 8722 b W (by have := s1 h; omega) (by omega) (by decide))
  have J6 := hidMk (fun (h : jB a 215 b = true) W => joined_fn (jT a 215 b) 247 b W (by have := s2 h; omega) (by omega) (by decide))
  have J7 := hidMk (fun (h : jB a 43 b = true) W => joined_fn (jT a 43 b) 215 c W (by have := s1 h; omega) (by omega) (by decide))
  have J8 := hidMk (fun W => joined_fn a 215 c W (by omega) (by omega) (by decide))
  have J9 := hidMk (fun W => joined_fn b 215 c W (by omega) (by omega) (by decide))
  have J10 : Hid (jB a 43 b = true → ∀ W, Calls Tryz.prog 19 #[.string (jT a 215 c), .int .i64 (43 : Nat), .string (jT b 215 c)] W fun e w' => e = .returned (.tuple #[.string (jT (jT a 215 c) 43 (jT b 215 c)), .bool (jB (jT a 215 c) 43 (jT b 215 c))]) ∧ Below W.heap.size W w') := fun h W => by
    have h1 := s1 h
    have h2 := jT_size a 215 c
    have h3 := jT_size b 215 c
    have e1 : (jT a 43 b).size = a.size + b.size + 4 + (Utf8.encode ((43 : Nat) : Int)).size := by
      rw [jT_eq, ByteArray.size_append, ByteArray.size_append, inBr_size, inBr_size]
      omega
    exact joined_fn (jT a 215 c) 43 (jT b 215 c) W (by omega) (by omega) (by decide)
  have A1 : Hid (jB a 43 b = true → jB b 43 a = true → Alike (jT a 43 b) (jT b 43 a)) := fun h1 h2 => ring1 (joined_of h1) (joined_of h2)
  have A2 : Hid (jB a 215 b = true → jB b 215 a = true → Alike (jT a 215 b) (jT b 215 a)) := fun h1 h2 => ring2 (joined_of h1) (joined_of h2)
  have A3 : Hid (jB a 43 b = true → jB (jT a 43 b) 8722 b = true → Alike (jT (jT a 43 b) 8722 b) a) := fun h1 h2 => ring3 (joined_of h1) (joined_of h2)
  have A4 : Hid (jB a 215 b = true → jB (jT a 215 b) 247 b = true → Alike (jT (jT a 215 b) 247 b) a) := fun h1 h2 => ring4 (joined_of h1) (joined_of h2)
  have A5 : Hid (jB a 43 b = true → jB (jT a 43 b) 215 c = true → jB a 215 c = true → jB b 215 c = true → jB (jT a 215 c) 43 (jT b 215 c) = true → Alike (jT (jT a 43 b) 215 c) (jT (jT a 215 c) 43 (jT b 215 c))) := fun h1 h2 h3 h4 h5 => ring5 (joined_of h1) (joined_of h2) (joined_of h3) (joined_of h4) (joined_of h5)
  clear hS hN ha hb hc s1 s2
  generalize jB (jT a 215 c) 43 (jT b 215 c) = k10 at *
  generalize jT (jT a 215 c) 43 (jT b 215 c) = t10 at *
  generalize jB (jT a 43 b) 215 c = k7 at *
  generalize jT (jT a 43 b) 215 c = t7 at *
  generalize jB (jT a 43 b) 8722 b = k5 at *
  generalize jT (jT a 43 b) 8722 b = t5 at *
  generalize jB (jT a 215 b) 247 b = k6 at *
  generalize jT (jT a 215 b) 247 b = t6 at *
  generalize jB a 215 c = k8 at *
  generalize jT a 215 c = t8 at *
  generalize jB b 215 c = k9 at *
  generalize jT b 215 c = t9 at *
  generalize jB a 43 b = k1 at *
  generalize jT a 43 b = t1 at *
  generalize jB b 43 a = k2 at *
  generalize jT b 43 a = t2 at *
  generalize jB a 215 b = k3 at *
  generalize jT a 215 b = t3 at *
  generalize jB b 215 a = k4 at *
  generalize jT b 215 a = t4 at *
  go_enter Tryz.func5, Tryz.ntmps5
  go_wp2_with fail
  refine CB.out.mono ?_
  rintro e w1 ⟨rfl, hb1⟩
  have HB1 := hidMk hb1
  clear hb1 CB
  go_wp2_with fail
  refine (J1.out w1).mono ?_
  rintro e w2 ⟨rfl, hb2⟩
  have hbb := HB1.out.trans (hb2.mono HB1.out.size)
  have HB2 := hidMk hbb
  clear HB1 hb2 hbb J1
  go_wp2_with fail
  refine (J2.out w2).mono ?_
  rintro e w3 ⟨rfl, hb3⟩
  have hbb := HB2.out.trans (hb3.mono HB2.out.size)
  have HB3 := hidMk hbb
  clear HB2 hb3 hbb J2
  go_wp2_with fail
  refine (J3.out w3).mono ?_
  rintro e w4 ⟨rfl, hb4⟩
  have hbb := HB3.out.trans (hb4.mono HB3.out.size)
  have HB4 := hidMk hbb
  clear HB3 hb4 hbb J3
  go_wp2_with fail
  refine (J4.out w4).mono ?_
  rintro e w5 ⟨rfl, hb5⟩
  have hbb := HB4.out.trans (hb5.mono HB4.out.size)
  have HB5 := hidMk hbb
  clear HB4 hb5 hbb J4
  cases k1 with
  | false =>
    clear CA J5 J6 J7 J8 J9 J10 A1 A2 A3 A4 A5
    go_wp2_with fail
    go_ret
    exact ⟨rfl, HB5.out⟩
  | true =>
  cases k2 with
  | false =>
    clear CA J5 J6 J7 J8 J9 J10 A1 A2 A3 A4 A5
    go_wp2_with fail
    go_ret
    exact ⟨rfl, HB5.out⟩
  | true =>
  cases k3 with
  | false =>
    clear CA J5 J6 J7 J8 J9 J10 A1 A2 A3 A4 A5
    go_wp2_with fail
    go_ret
    exact ⟨rfl, HB5.out⟩
  | true =>
  cases k4 with
  | false =>
    clear CA J5 J6 J7 J8 J9 J10 A1 A2 A3 A4 A5
    go_wp2_with fail
    go_ret
    exact ⟨rfl, HB5.out⟩
  | true =>
  go_wp2_with fail
  refine (CA.out t1 t2 w5 HB5.out (A1.out (by first | exact rfl | exact trivial) (by first | exact rfl | exact trivial))).mono ?_
  rintro e w6 ⟨rfl, hb6⟩
  have hbb := HB5.out.trans (hb6.mono HB5.out.size)
  have HB6 := hidMk hbb
  clear HB5 hb6 hbb A1
  go_wp2_with fail
  refine (CA.out t3 t4 w6 HB6.out (A2.out (by first | exact rfl | exact trivial) (by first | exact rfl | exact trivial))).mono ?_
  rintro e w7 ⟨rfl, hb7⟩
  have hbb := HB6.out.trans (hb7.mono HB6.out.size)
  have HB7 := hidMk hbb
  clear HB6 hb7 hbb A2
  go_wp2_with fail
  refine (J5.out (by first | exact rfl | exact trivial) w7).mono ?_
  rintro e w8 ⟨rfl, hb8⟩
  have hbb := HB7.out.trans (hb8.mono HB7.out.size)
  have HB8 := hidMk hbb
  clear HB7 hb8 hbb J5
  go_wp2_with fail
  refine (J6.out (by first | exact rfl | exact trivial) w8).mono ?_
  rintro e w9 ⟨rfl, hb9⟩
  have hbb := HB8.out.trans (hb9.mono HB8.out.size)
  have HB9 := hidMk hbb
  clear HB8 hb9 hbb J6
  cases k5 with
  | false =>
    clear A3
    cases k6 with
    | false =>
      clear A4
      go_wp2_with fail
      refine (J7.out (by first | exact rfl | exact trivial) _).mono ?_
      rintro e x7 ⟨rfl, hbn⟩
      have hbb := HB9.out.trans (hbn.mono HB9.out.size)
      have HBx7 := hidMk hbb
      clear HB9 hbn hbb J7
      go_wp2_with fail
      refine (J8.out _).mono ?_
      rintro e x8 ⟨rfl, hbn⟩
      have hbb := HBx7.out.trans (hbn.mono HBx7.out.size)
      have HBx8 := hidMk hbb
      clear HBx7 hbn hbb J8
      go_wp2_with fail
      refine (J9.out _).mono ?_
      rintro e x9 ⟨rfl, hbn⟩
      have hbb := HBx8.out.trans (hbn.mono HBx8.out.size)
      have HBx9 := hidMk hbb
      clear HBx8 hbn hbb J9
      go_wp2_with fail
      refine (J10.out (by first | exact rfl | exact trivial) _).mono ?_
      rintro e x10 ⟨rfl, hbn⟩
      have hbb := HBx9.out.trans (hbn.mono HBx9.out.size)
      have HBx10 := hidMk hbb
      clear HBx9 hbn hbb J10
      cases k7 with
      | false =>
        clear CA A5
        go_wp2_with fail
        go_ret
        exact ⟨rfl, HBx10.out⟩
      | true =>
      cases k8 with
      | false =>
        clear CA A5
        go_wp2_with fail
        go_ret
        exact ⟨rfl, HBx10.out⟩
      | true =>
      cases k9 with
      | false =>
        clear CA A5
        go_wp2_with fail
        go_ret
        exact ⟨rfl, HBx10.out⟩
      | true =>
      cases k10 with
      | false =>
        clear CA A5
        go_wp2_with fail
        go_ret
        exact ⟨rfl, HBx10.out⟩
      | true =>
      go_wp2_with fail
      refine (CA.out t7 t10 _ HBx10.out (A5.out (by first | exact rfl | exact trivial) (by first | exact rfl | exact trivial) (by first | exact rfl | exact trivial) (by first | exact rfl | exact trivial) (by first | exact rfl | exact trivial))).mono ?_
      rintro e x11 ⟨rfl, hbn⟩
      have hbb := HBx10.out.trans (hbn.mono HBx10.out.size)
      have HBx11 := hidMk hbb
      clear HBx10 hbn hbb A5
      go_wp2_with fail
      go_ret
      exact ⟨rfl, HBx11.out⟩
    | true =>
    go_wp2_with fail
    refine (CA.out t6 a _ HB9.out (A4.out (by first | exact rfl | exact trivial) (by first | exact rfl | exact trivial))).mono ?_
    rintro e y6 ⟨rfl, hbn⟩
    have hbb := HB9.out.trans (hbn.mono HB9.out.size)
    have HBy6 := hidMk hbb
    clear HB9 hbn hbb A4
    go_wp2_with fail
    refine (J7.out (by first | exact rfl | exact trivial) _).mono ?_
    rintro e x7 ⟨rfl, hbn⟩
    have hbb := HBy6.out.trans (hbn.mono HBy6.out.size)
    have HBx7 := hidMk hbb
    clear HBy6 hbn hbb J7
    go_wp2_with fail
    refine (J8.out _).mono ?_
    rintro e x8 ⟨rfl, hbn⟩
    have hbb := HBx7.out.trans (hbn.mono HBx7.out.size)
    have HBx8 := hidMk hbb
    clear HBx7 hbn hbb J8
    go_wp2_with fail
    refine (J9.out _).mono ?_
    rintro e x9 ⟨rfl, hbn⟩
    have hbb := HBx8.out.trans (hbn.mono HBx8.out.size)
    have HBx9 := hidMk hbb
    clear HBx8 hbn hbb J9
    go_wp2_with fail
    refine (J10.out (by first | exact rfl | exact trivial) _).mono ?_
    rintro e x10 ⟨rfl, hbn⟩
    have hbb := HBx9.out.trans (hbn.mono HBx9.out.size)
    have HBx10 := hidMk hbb
    clear HBx9 hbn hbb J10
    cases k7 with
    | false =>
      clear CA A5
      go_wp2_with fail
      go_ret
      exact ⟨rfl, HBx10.out⟩
    | true =>
    cases k8 with
    | false =>
      clear CA A5
      go_wp2_with fail
      go_ret
      exact ⟨rfl, HBx10.out⟩
    | true =>
    cases k9 with
    | false =>
      clear CA A5
      go_wp2_with fail
      go_ret
      exact ⟨rfl, HBx10.out⟩
    | true =>
    cases k10 with
    | false =>
      clear CA A5
      go_wp2_with fail
      go_ret
      exact ⟨rfl, HBx10.out⟩
    | true =>
    go_wp2_with fail
    refine (CA.out t7 t10 _ HBx10.out (A5.out (by first | exact rfl | exact trivial) (by first | exact rfl | exact trivial) (by first | exact rfl | exact trivial) (by first | exact rfl | exact trivial) (by first | exact rfl | exact trivial))).mono ?_
    rintro e x11 ⟨rfl, hbn⟩
    have hbb := HBx10.out.trans (hbn.mono HBx10.out.size)
    have HBx11 := hidMk hbb
    clear HBx10 hbn hbb A5
    go_wp2_with fail
    go_ret
    exact ⟨rfl, HBx11.out⟩
  | true =>
  go_wp2_with fail
  refine (CA.out t5 a _ HB9.out (A3.out (by first | exact rfl | exact trivial) (by first | exact rfl | exact trivial))).mono ?_
  rintro e y5 ⟨rfl, hbn⟩
  have hbb := HB9.out.trans (hbn.mono HB9.out.size)
  have HBy5 := hidMk hbb
  clear HB9 hbn hbb A3
  cases k6 with
  | false =>
    clear A4
    go_wp2_with fail
    refine (J7.out (by first | exact rfl | exact trivial) _).mono ?_
    rintro e x7 ⟨rfl, hbn⟩
    have hbb := HBy5.out.trans (hbn.mono HBy5.out.size)
    have HBx7 := hidMk hbb
    clear HBy5 hbn hbb J7
    go_wp2_with fail
    refine (J8.out _).mono ?_
    rintro e x8 ⟨rfl, hbn⟩
    have hbb := HBx7.out.trans (hbn.mono HBx7.out.size)
    have HBx8 := hidMk hbb
    clear HBx7 hbn hbb J8
    go_wp2_with fail
    refine (J9.out _).mono ?_
    rintro e x9 ⟨rfl, hbn⟩
    have hbb := HBx8.out.trans (hbn.mono HBx8.out.size)
    have HBx9 := hidMk hbb
    clear HBx8 hbn hbb J9
    go_wp2_with fail
    refine (J10.out (by first | exact rfl | exact trivial) _).mono ?_
    rintro e x10 ⟨rfl, hbn⟩
    have hbb := HBx9.out.trans (hbn.mono HBx9.out.size)
    have HBx10 := hidMk hbb
    clear HBx9 hbn hbb J10
    cases k7 with
    | false =>
      clear CA A5
      go_wp2_with fail
      go_ret
      exact ⟨rfl, HBx10.out⟩
    | true =>
    cases k8 with
    | false =>
      clear CA A5
      go_wp2_with fail
      go_ret
      exact ⟨rfl, HBx10.out⟩
    | true =>
    cases k9 with
    | false =>
      clear CA A5
      go_wp2_with fail
      go_ret
      exact ⟨rfl, HBx10.out⟩
    | true =>
    cases k10 with
    | false =>
      clear CA A5
      go_wp2_with fail
      go_ret
      exact ⟨rfl, HBx10.out⟩
    | true =>
    go_wp2_with fail
    refine (CA.out t7 t10 _ HBx10.out (A5.out (by first | exact rfl | exact trivial) (by first | exact rfl | exact trivial) (by first | exact rfl | exact trivial) (by first | exact rfl | exact trivial) (by first | exact rfl | exact trivial))).mono ?_
    rintro e x11 ⟨rfl, hbn⟩
    have hbb := HBx10.out.trans (hbn.mono HBx10.out.size)
    have HBx11 := hidMk hbb
    clear HBx10 hbn hbb A5
    go_wp2_with fail
    go_ret
    exact ⟨rfl, HBx11.out⟩
  | true =>
  go_wp2_with fail
  refine (CA.out t6 a _ HBy5.out (A4.out (by first | exact rfl | exact trivial) (by first | exact rfl | exact trivial))).mono ?_
  rintro e y6 ⟨rfl, hbn⟩
  have hbb := HBy5.out.trans (hbn.mono HBy5.out.size)
  have HBy6 := hidMk hbb
  clear HBy5 hbn hbb A4
  go_wp2_with fail
  refine (J7.out (by first | exact rfl | exact trivial) _).mono ?_
  rintro e x7 ⟨rfl, hbn⟩
  have hbb := HBy6.out.trans (hbn.mono HBy6.out.size)
  have HBx7 := hidMk hbb
  clear HBy6 hbn hbb J7
  go_wp2_with fail
  refine (J8.out _).mono ?_
  rintro e x8 ⟨rfl, hbn⟩
  have hbb := HBx7.out.trans (hbn.mono HBx7.out.size)
  have HBx8 := hidMk hbb
  clear HBx7 hbn hbb J8
  go_wp2_with fail
  refine (J9.out _).mono ?_
  rintro e x9 ⟨rfl, hbn⟩
  have hbb := HBx8.out.trans (hbn.mono HBx8.out.size)
  have HBx9 := hidMk hbb
  clear HBx8 hbn hbb J9
  go_wp2_with fail
  refine (J10.out (by first | exact rfl | exact trivial) _).mono ?_
  rintro e x10 ⟨rfl, hbn⟩
  have hbb := HBx9.out.trans (hbn.mono HBx9.out.size)
  have HBx10 := hidMk hbb
  clear HBx9 hbn hbb J10
  cases k7 with
  | false =>
    clear CA A5
    go_wp2_with fail
    go_ret
    exact ⟨rfl, HBx10.out⟩
  | true =>
  cases k8 with
  | false =>
    clear CA A5
    go_wp2_with fail
    go_ret
    exact ⟨rfl, HBx10.out⟩
  | true =>
  cases k9 with
  | false =>
    clear CA A5
    go_wp2_with fail
    go_ret
    exact ⟨rfl, HBx10.out⟩
  | true =>
  cases k10 with
  | false =>
    clear CA A5
    go_wp2_with fail
    go_ret
    exact ⟨rfl, HBx10.out⟩
  | true =>
  go_wp2_with fail
  refine (CA.out t7 t10 _ HBx10.out (A5.out (by first | exact rfl | exact trivial) (by first | exact rfl | exact trivial) (by first | exact rfl | exact trivial) (by first | exact rfl | exact trivial) (by first | exact rfl | exact trivial))).mono ?_
  rintro e x11 ⟨rfl, hbn⟩
  have hbb := HBx10.out.trans (hbn.mono HBx10.out.size)
  have HBx11 := hidMk hbb
  clear HBx10 hbn hbb A5
  go_wp2_with fail
  go_ret
  exact ⟨rfl, HBx11.out⟩
end Go.Proofs.YtodabmkcihafhaaGreatDoor

import Derived.Test.YtodabmkcihafhaaGreatDoorQ26

/- Plain: the numbers of texts with a mark. -/
namespace Go.Proofs.YtodabmkcihafhaaGreatDoor
set_option linter.unusedVariables false

def mT (a : ByteArray) (m : Nat) : ByteArray := (⟨#[40]⟩ : ByteArray) ++ a ++ ⟨#[41]⟩ ++ Utf8.encode (m : Int)
def nT (a : ByteArray) : ByteArray := Utf8.encode ((8722 : Nat) : Int) ++ ⟨#[40]⟩ ++ a ++ ⟨#[41]⟩
theorem mT_eq (a : ByteArray) (m : Nat) : mT a m = inBr a ++ Utf8.encode (m : Int) := rfl
theorem nT_eq (a : ByteArray) : nT a = Utf8.encode ((8722 : Nat) : Int) ++ inBr a := by
  unfold nT inBr
  simp [ByteArray.append_assoc]
theorem mT_size (a : ByteArray) (m : Nat) : (mT a m).size ≤ a.size + 6 := by
  rw [mT_eq, ByteArray.size_append, inBr_size]
  have := enc_size (m : Int)
  omega
theorem nT_size (a : ByteArray) : (nT a).size ≤ a.size + 6 := by
  rw [nT_eq, ByteArray.size_append, inBr_size]
  have := enc_size ((8722 : Nat) : Int)
  omega
theorem op_prime (x : Num) : opP 8242 x x = .ok x.conj := rfl
theorem op_neg' (x : Num) : opP 110 x x = .ok x.neg := rfl
theorem valT_shift {k : Nat} {e : Ex} {x : Num} (h : valT en0 e = .ok x) : valT en0 (e.shift k) = .ok x := by
  obtain ⟨h1, h2⟩ := valT_ok h
  refine valT_mk ?_ ((evT_shift en0 k e).1 x h2)
  rw [missT_shift, h1]
  rfl
theorem valT_un_mk {c : Int} {p : Nat} {e : Ex} {x z : Num} (h : valT en0 e = .ok x) (ho : opP c x x = .ok z) : valT en0 (.un c p e) = .ok z := by
  obtain ⟨h1, h2⟩ := valT_ok h
  refine valT_mk h1 ?_
  simp only [evT, h2, ho]
  rfl
structure Expr1 (a : ByteArray) : Prop where
  s : a.size ≤ 100
  g : good a = true
theorem expr_of {a : ByteArray} (h : refE a = 0) (hs : a.size ≤ 100) : Expr1 a := ⟨hs, (refE_ok h).2⟩
theorem mark_has {a : ByteArray} (h : Expr1 a) {m : Nat} (hm : m = 178 ∨ m = 8242) : (∀ z, Has (mT a m) z → ∃ x, Has a x ∧ opP m x x = .ok z) ∧ (∀ x z, Has a x → opP m x x = .ok z → valS [] (mT a m) = .ok z) ∧ refE (mT a m) = 0 := by
  have hs := h.s
  have hz := mT_size a m
  obtain ⟨gm, p, q, ht⟩ := mark_tree a m hm h.g (mT a m) (mT_eq a m) (by omega)
  have hv := val_tree (s := mT a m) (by omega) gm
  have ha := val_tree (s := a) (by omega) h.g
  refine ⟨fun z hz' => ?_, fun x z hx ho => ?_, by unfold refE; rw [if_neg (by omega), if_pos gm]⟩
  · have h1 := hz'.v
    rw [hv, ht] at h1
    obtain ⟨x, h2, h3⟩ := valT_un h1
    have h4 := valT_unshift h2
    exact ⟨x, ⟨ha.trans h4, valT_ok_num (top_tree a h.g).2.2.1 h4⟩, h3⟩
  · rw [hv, ht]
    have h1 := hx.v
    rw [ha] at h1
    exact valT_un_mk (valT_shift h1) ho
theorem prime_v {a : ByteArray} (h : Expr1 a) : vB (mT a 8242) = vB a ∧ (vB a = true → vN (mT a 8242) = (vN a).conj) := by
  obtain ⟨m1, m2, _⟩ := mark_has h (m := 8242) (Or.inr rfl)
  have up : vB a = true → vB (mT a 8242) = true ∧ vN (mT a 8242) = (vN a).conj := fun hv => vB_of (m2 _ _ (has_of hv) (op_prime _))
  refine ⟨?_, fun hv => (up hv).2⟩
  cases hv : vB a with
  | true => exact (up hv).1
  | false =>
    cases hm : vB (mT a 8242) with
    | false => rfl
    | true =>
      obtain ⟨x, hx, _⟩ := m1 _ (has_of hm)
      have := (vB_of hx.v).1
      rw [hv] at this
      cases this
theorem neg_v {a : ByteArray} (h : Expr1 a) : vB (nT a) = vB a ∧ (vB a = true → vN (nT a) = (vN a).neg) := by
  have hs := h.s
  have hz := nT_size a
  obtain ⟨gm, p, q, ht⟩ := neg_tree a h.g (nT a) (nT_eq a) (by omega)
  have hv := val_tree (s := nT a) (by omega) gm
  have ha := val_tree (s := a) (by omega) h.g
  have up : vB a = true → vB (nT a) = true ∧ vN (nT a) = (vN a).neg := fun hx => by
    refine vB_of ?_
    rw [hv, ht]
    have h1 := (has_of hx).v
    rw [ha] at h1
    exact valT_un_mk (valT_shift h1) (op_neg' _)
  refine ⟨?_, fun hx => (up hx).2⟩
  cases hx : vB a with
  | true => exact (up hx).1
  | false =>
    cases hm : vB (nT a) with
    | false => rfl
    | true =>
      have h1 := vB_ok hm
      rw [hv, ht] at h1
      obtain ⟨x, h2, _⟩ := valT_un h1
      have := (vB_of (ha.trans (valT_unshift h2))).1
      rw [hx] at this
      cases this
theorem mir1 {a b : ByteArray} (ha : Expr1 a) (hb : Expr1 b) (h1 : Joined a 215 b) (h2 : Joined (mT a 8242) 215 (mT b 8242)) (hs : (jT a 215 b).size ≤ 100) : Alike (mT (jT a 215 b) 8242) (jT (mT a 8242) 215 (mT b 8242)) := by
  intro v1 v2
  have tm : signs2 215 := Or.inr (Or.inr (Or.inl rfl))
  have hp : Expr1 (jT a 215 b) := expr_of (joined_good h1 tm) hs
  obtain ⟨u, hu, e1⟩ := (mark_has hp (m := 8242) (Or.inr rfl)).1 _ (has_of v1)
  obtain ⟨x, y, hx, hy, e2⟩ := joined_val h1 tm hu
  obtain ⟨x', y', hx', hy', e3⟩ := joined_val h2 tm (has_of v2)
  obtain ⟨x2, hx2, e4⟩ := (mark_has ha (m := 8242) (Or.inr rfl)).1 _ hx'
  obtain ⟨y2, hy2, e5⟩ := (mark_has hb (m := 8242) (Or.inr rfl)).1 _ hy'
  obtain rfl := hx.eq hx2
  obtain rfl := hy.eq hy2
  have f1 : u.conj = vN (mT (jT a 215 b) 8242) := by injection e1
  have f2 : x.conj = x' := by injection e4
  have f3 : y.conj = y' := by injection e5
  rw [← f1]
  rw [← f2, ← f3] at e3
  exact mirror_mul hx.ok hy.ok e2 e3
theorem mir2 {a : ByteArray} (ha : Expr1 a) (h1 : Joined a 215 a) : Alike (mT a 178) (jT a 215 a) := by
  intro v1 v2
  have tm : signs2 215 := Or.inr (Or.inr (Or.inl rfl))
  obtain ⟨x, hx, e1⟩ := (mark_has ha (m := 178) (Or.inl rfl)).1 _ (has_of v1)
  obtain ⟨x', y', hx', hy', e2⟩ := joined_val h1 tm (has_of v2)
  obtain rfl := hx.eq hx'
  obtain rfl := hx.eq hy'
  have e3 : opP 178 x x = opP 215 x x := rfl
  have e1' : opP 178 x x = .ok (vN (mT a 178)) := e1
  rw [e3] at e1'
  have e2' : opP 215 x x = .ok (vN (jT a 215 a)) := e2
  rw [e1'] at e2'
  injection e2'
theorem mir3 {a : ByteArray} (ha : Expr1 a) : Alike (mT a 8242 ++ Utf8.encode ((8242 : Nat) : Int)) a := by
  intro v1 v2
  have hs := ha.s
  have hz := mT_size a 8242
  have he := enc_size ((8242 : Nat) : Int)
  have hsz : (mT a 8242 ++ Utf8.encode ((8242 : Nat) : Int)).size ≤ 120 := by
    rw [ByteArray.size_append]
    omega
  obtain ⟨g, p, p', q, ht⟩ := mark2_tree a 8242 (Or.inr rfl) ha.g (mT a 8242 ++ Utf8.encode ((8242 : Nat) : Int)) rfl hsz
  have h1 := vB_ok v1
  rw [val_tree hsz g, ht] at h1
  obtain ⟨y, h2, e1⟩ := valT_un h1
  obtain ⟨x, h3, e2⟩ := valT_un h2
  have h4 := (val_tree (s := a) (by omega) ha.g).trans (valT_unshift h3)
  have hx := (vB_of h4).2
  have f1 : x.conj = y := by injection e2
  have f2 : y.conj = vN (mT a 8242 ++ Utf8.encode ((8242 : Nat) : Int)) := by injection e1
  rw [← f2, ← f1, conj_conj, hx]
end Go.Proofs.YtodabmkcihafhaaGreatDoor

/- The law Mirrored. -/
namespace Go.Proofs.YtodabmkcihafhaaGreatDoor
open Go.RowKit
set_option linter.unusedVariables false

theorem catS (a b : ByteArray) (ha : a.size ≤ 1000) (hb : b.size ≤ 1000) (W : World) : (Op.stringOp .add a b).run Tryz.prog W = .ok (.string (a ++ b)) W := cat_run a b (by omega) W
set_option maxHeartbeats 8000000 in
set_option maxRecDepth 100000 in
theorem mirrored_law (N : Nat) (aZ aB : Addr) (a b : ByteArray) (w : World) (hS : Sen N aZ aB w) (hN : N ≤ w.heap.size) (ha : a.size ≤ 140737488351232) (hb : b.size ≤ 140737488351232) :
    Calls Tryz.prog 6 #[.string a, .string b] w fun e w' => e = .returned (.bool true) ∧ Below w.heap.size w w' := by
  have CB := hidMk (begun_fn N aZ aB w hS hN)
  have CA := hidMk (fun s t W (hb : Below w.heap.size w W) (h : Alike s t) => alike_fn N aZ aB s t W (hS.below hb hN) (Nat.le_trans hN hb.size) h)
  have CV := hidMk (fun s W (hb : Below w.heap.size w W) => value_fn N aZ aB s W (hS.below hb hN) (Nat.le_trans hN hb.size))
  have CP := hidMk (fun t W => print_any t W)
  have CM := hidMk (fun e W => num_any e W)
  have CT1 := hidMk (fun W => text_fn 8242 W (by decide))
  have CT2 := hidMk (fun W => text_fn 178 W (by decide))
  have CT3 := hidMk (fun W => text_fn 8722 W (by decide))
  have wa : wrap64 ((a.size : Int) + b.size) = (a.size : Int) + b.size := by unfold wrap64; omega
  have wb : wrap64 (2 * ((a.size : Int) + b.size)) = 2 * ((a.size : Int) + b.size) := by unfold wrap64; omega
  have wc : wrap64 (2 * ((a.size : Int) + b.size) + 30) = 2 * ((a.size : Int) + b.size) + 30 := by unfold wrap64; omega
  clear hS hN
  go_enter Tryz.func6, Tryz.ntmps6
  go_wp2_with fail
  refine CB.out.mono ?_
  rintro e w1 ⟨rfl, hb1⟩
  have HB1 := hidMk hb1
  clear hb1 CB
  go_wp2_with fail
  refine (CT1.out w1).mono ?_
  rintro e w2 ⟨rfl, hb2⟩
  have hbb := HB1.out.trans (hb2.mono HB1.out.size)
  have HB2 := hidMk hbb
  clear HB1 hb2 hbb CT1
  go_wp2_with fail
  refine (CT2.out w2).mono ?_
  rintro e w3 ⟨rfl, hb3⟩
  have hbb := HB2.out.trans (hb3.mono HB2.out.size)
  have HB3 := hidMk hbb
  clear HB2 hb3 hbb CT2
  go_wp2_with fail
  refine (CP.out a w3).mono ?_
  rintro e w4 ⟨rfl, hb4⟩
  have hbb := HB3.out.trans (hb4.mono HB3.out.size)
  have HB4 := hidMk hbb
  clear HB3 hb4 hbb
  go_wp2_with fail
  refine (CP.out b w4).mono ?_
  rintro e w5 ⟨rfl, hb5⟩
  have hbb := HB4.out.trans (hb5.mono HB4.out.size)
  have HB5 := hidMk hbb
  clear HB4 hb5 hbb CP
  by_cases hA : ¬ refE a = 0
  · have hne : (refE a != 0) = true := by simpa using hA
    clear hA
    go_wp2_with (go_at_call 15; refine (CM.out _ _).mono ?_; rintro e w7 ⟨rfl, rfl⟩)
    go_ret
    exact ⟨rfl, HB5.out⟩
  have hA : refE a = 0 := Decidable.of_not_not hA
  by_cases hB : ¬ refE b = 0
  · have hne : (refE b != 0) = true := by simpa using hB
    rw [hA]
    clear hA hB
    go_wp2_with (go_at_call 15; refine (CM.out _ _).mono ?_; rintro e w7 ⟨rfl, rfl⟩)
    go_ret
    exact ⟨rfl, HB5.out⟩
  have hB : refE b = 0 := Decidable.of_not_not hB
  rw [hA, hB]
  by_cases hL : 2 * ((a.size : Int) + b.size) + 30 > 120
  · go_wp2_with (go_at_call 15; refine (CM.out _ _).mono ?_; rintro e w7 ⟨rfl, rfl⟩)
    go_ret
    exact ⟨rfl, HB5.out⟩
  have xa : Expr1 a := expr_of hA (by omega)
  have xb : Expr1 b := expr_of hB (by omega)
  have hab : a.size + b.size ≤ 45 := by omega
  go_upto_region 10 with (go_at_call 15; refine (CM.out _ _).mono ?_; rintro e w7 ⟨rfl, rfl⟩)
  have P1 := hidMk (prime_v xa)
  have P2 := hidMk (neg_v xa)
  have ma := mT_size a 8242
  have mb := mT_size b 8242
  have jz := jT_size a 215 b
  have J1 := hidMk (fun W => joined_fn a 215 b W (by omega) (by omega) (by decide))
  have J2 := hidMk (fun W => joined_fn (mT a 8242) 215 (mT b 8242) W (by omega) (by omega) (by decide))
  have J3 := hidMk (fun W => joined_fn a 215 a W (by omega) (by omega) (by decide))
  have A1 : Hid (jB a 215 b = true → jB (mT a 8242) 215 (mT b 8242) = true → Alike (mT (jT a 215 b) 8242) (jT (mT a 8242) 215 (mT b 8242))) := fun h1 h2 => mir1 xa xb (joined_of h1) (joined_of h2) (by omega)
  have A2 : Hid (jB a 215 a = true → Alike (mT a 178) (jT a 215 a)) := fun h1 => mir2 xa (joined_of h1)
  have A3 : Hid (Alike (mT a 8242 ++ Utf8.encode ((8242 : Nat) : Int)) a) := mir3 xa
  have XO : Hid (vB a = true → (vN a).Ok) := fun h => (has_of h).ok
  have z1 : (Utf8.encode 8242).size ≤ 4 := enc_size 8242
  have z2 : (Utf8.encode 178).size ≤ 4 := enc_size 178
  have z3 : (Utf8.encode 8722).size ≤ 4 := enc_size 8722
  have o1 : (⟨#[40]⟩ : ByteArray).size = 1 := rfl
  have o2 : (⟨#[41]⟩ : ByteArray).size = 1 := rfl
  have K1 := hidMk (fun W => catS ⟨#[40]⟩ a (by omega) (by omega) W)
  have K2 := hidMk (fun W => catS (⟨#[40]⟩ ++ a) ⟨#[41]⟩ (by rw [ByteArray.size_append]; omega) (by omega) W)
  have K3 := hidMk (fun W => catS (⟨#[40]⟩ ++ a ++ ⟨#[41]⟩) (Utf8.encode 8242) (by rw [ByteArray.size_append, ByteArray.size_append]; omega) (by omega) W)
  have K4 := hidMk (fun W => catS (Utf8.encode 8722) ⟨#[40]⟩ (by omega) (by omega) W)
  have K5 := hidMk (fun W => catS (Utf8.encode 8722 ++ ⟨#[40]⟩) a (by rw [ByteArray.size_append]; omega) (by omega) W)
  have K6 := hidMk (fun W => catS (Utf8.encode 8722 ++ ⟨#[40]⟩ ++ a) ⟨#[41]⟩ (by rw [ByteArray.size_append, ByteArray.size_append]; omega) (by omega) W)
  have K7 := hidMk (fun W => catS ⟨#[40]⟩ b (by omega) (by omega) W)
  have K8 := hidMk (fun W => catS (⟨#[40]⟩ ++ b) ⟨#[41]⟩ (by rw [ByteArray.size_append]; omega) (by omega) W)
  have K9 := hidMk (fun W => catS (⟨#[40]⟩ ++ b ++ ⟨#[41]⟩) (Utf8.encode 8242) (by rw [ByteArray.size_append, ByteArray.size_append]; omega) (by omega) W)
  have K10 := hidMk (fun W => catS ⟨#[40]⟩ (jT a 215 b) (by omega) (by omega) W)
  have K11 := hidMk (fun W => catS (⟨#[40]⟩ ++ jT a 215 b) ⟨#[41]⟩ (by rw [ByteArray.size_append]; omega) (by omega) W)
  have K12 := hidMk (fun W => catS (⟨#[40]⟩ ++ jT a 215 b ++ ⟨#[41]⟩) (Utf8.encode 8242) (by rw [ByteArray.size_append, ByteArray.size_append]; omega) (by omega) W)
  have K13 := hidMk (fun W => catS (⟨#[40]⟩ ++ a ++ ⟨#[41]⟩) (Utf8.encode 178) (by rw [ByteArray.size_append, ByteArray.size_append]; omega) (by omega) W)
  have K14 := hidMk (fun W => catS (⟨#[40]⟩ ++ a ++ ⟨#[41]⟩ ++ Utf8.encode 8242) (Utf8.encode 8242) (by rw [ByteArray.size_append, ByteArray.size_append, ByteArray.size_append]; omega) (by omega) W)
  clear ma mb jz z1 z2 z3 o1 o2 xa xb hA hB ha hb wa wb wc hL hab CM
  go_wp2_with fail
  refine (CV.out a _ HB5.out).mono ?_
  rintro e w6 ⟨rfl, hb6⟩
  have hbb6 := HB5.out.trans (hb6.mono HB5.out.size)
  generalize vN a = x at *
  generalize vB a = p at *
  clear HB5 hb6
  go_upto_region 11 with fail
  have hx7 := heap_alloc_new w6 (.cells (numC x) 27)
  have hb7 := hbb6.trans ((fr_below w6 (.cells (numC x) 27)).mono hbb6.size)
  generalize w6.alloc _ = W7 at *
  generalize w6.heap.size = b14 at *
  have HX7 := hidMk hx7
  have HB7 := hidMk hb7
  clear hbb6 hx7 hb7
  have r1 := K1.out W7
  have r2 := K2.out W7
  have r3 := K3.out W7
  go_wp2_with fail
  refine (CV.out (mT a 8242) W7 HB7.out).mono ?_
  rintro e w8 ⟨rfl, hb8⟩
  clear r1 r2 r3
  rw [P1.out.1]
  have HM : Hid (p = true → vN (mT a 8242) = x.conj) := P1.out.2
  have hbb8 := HB7.out.trans (hb8.mono HB7.out.size)
  have hx8 := (hb8.block _ (Array.getElem?_eq_some_iff.1 HX7.out).1).trans HX7.out
  generalize vN (mT a 8242) = y at *
  clear HB7 HX7 hb8 P1
  go_upto_region 12 with fail
  have hx9 := (Below.heap_alloc w8 (.cells (numC y) 27) _ (Array.getElem?_eq_some_iff.1 hx8).1).trans hx8
  have hy9 := heap_alloc_new w8 (.cells (numC y) 27)
  have hb9 := hbb8.trans ((fr_below w8 (.cells (numC y) 27)).mono hbb8.size)
  generalize w8.alloc _ = W9 at *
  generalize w8.heap.size = b16 at *
  have HX9 := hidMk hx9
  have HY9 := hidMk hy9
  have HB9 := hidMk hb9
  clear hbb8 hx8 hx9 hy9 hb9
  go_wp2_with fail
  refine (CT3.out W9).mono ?_
  rintro e w10 ⟨rfl, hb10⟩
  have hbb10 := HB9.out.trans (hb10.mono HB9.out.size)
  have hx10 := (hb10.block _ (Array.getElem?_eq_some_iff.1 HX9.out).1).trans HX9.out
  have hy10 := (hb10.block _ (Array.getElem?_eq_some_iff.1 HY9.out).1).trans HY9.out
  have HX10 := hidMk hx10
  have HY10 := hidMk hy10
  have HB10 := hidMk hbb10
  clear HX9 HY9 HB9 hb10 hbb10 hx10 hy10 CT3
  have r4 := K4.out w10
  have r5 := K5.out w10
  have r6 := K6.out w10
  go_wp2_with fail
  refine (CV.out (nT a) w10 HB10.out).mono ?_
  rintro e w11 ⟨rfl, hb11⟩
  clear r4 r5 r6
  rw [P2.out.1]
  have HN : Hid (p = true → vN (nT a) = x.neg) := P2.out.2
  have hbb11 := HB10.out.trans (hb11.mono HB10.out.size)
  have hx11 := (hb11.block _ (Array.getElem?_eq_some_iff.1 HX10.out).1).trans HX10.out
  have hy11 := (hb11.block _ (Array.getElem?_eq_some_iff.1 HY10.out).1).trans HY10.out
  generalize vN (nT a) = z at *
  clear HB10 HX10 HY10 hb11 P2 CV
  go_upto_region 13 with fail
  have hx12 := (Below.heap_alloc w11 (.cells (numC z) 27) _ (Array.getElem?_eq_some_iff.1 hx11).1).trans hx11
  have hy12 := (Below.heap_alloc w11 (.cells (numC z) 27) _ (Array.getElem?_eq_some_iff.1 hy11).1).trans hy11
  have hz12 := heap_alloc_new w11 (.cells (numC z) 27)
  have hb12 := hbb11.trans ((fr_below w11 (.cells (numC z) 27)).mono hbb11.size)
  generalize w11.alloc _ = W12 at *
  generalize w11.heap.size = b18 at *
  have HB12 := hidMk hb12
  obtain ⟨x0, x1, x2, x3⟩ := four_cells hx12
  obtain ⟨y0, y1, y2, y3⟩ := four_cells hy12
  obtain ⟨zz0, zz1, zz2, zz3⟩ := four_cells hz12
  clear hbb11 hx11 hy11 hx12 hy12 hz12 hb12
  have r1 := K1.out W12
  generalize jB a 215 b = k1 at *
  generalize jB (mT a 8242) 215 (mT b 8242) = k2 at *
  generalize jB a 215 a = k3 at *
  cases p with
  | false =>
    clear HM HN XO
    go_upto_region 17 with fail
    clear x0 x1 x2 x3 y0 y1 y2 y3 zz0 zz1 zz2 zz3 r1
    go_wp2_with fail
    refine (J1.out _).mono ?_
    rintro e u1 ⟨rfl, hbn⟩
    have hbb := HB12.out.trans (hbn.mono HB12.out.size)
    have HBu1 := hidMk hbb
    clear HB12 hbn hbb J1
    have r1 := K1.out u1
    have r2 := K2.out u1
    have r3 := K3.out u1
    have r7 := K7.out u1
    have r8 := K8.out u1
    have r9 := K9.out u1
    go_wp2_with fail
    refine (J2.out _).mono ?_
    rintro e u2 ⟨rfl, hbn⟩
    have hbb := HBu1.out.trans (hbn.mono HBu1.out.size)
    have HBu2 := hidMk hbb
    clear HBu1 hbn hbb J2 r1 r2 r3 r7 r8 r9
    cases k1 with
    | false =>
      go_wp2_with fail
      refine (J3.out _).mono ?_
      rintro e v1 ⟨rfl, hbn⟩
      have hbb := HBu2.out.trans (hbn.mono HBu2.out.size)
      have HBv1 := hidMk hbb
      clear HBu2 hbn hbb J3
      cases k3 with
      | false =>
        have r1 := K1.out v1
        have r2 := K2.out v1
        have r3 := K3.out v1
        have r14 := K14.out v1
        go_wp2_with fail
        refine (CA.out (mT a 8242 ++ Utf8.encode ((8242 : Nat) : Int)) a v1 HBv1.out A3.out).mono ?_
        rintro e v3 ⟨rfl, hbn⟩
        have hbb := HBv1.out.trans (hbn.mono HBv1.out.size)
        have HBv3 := hidMk hbb
        clear HBv1 hbn hbb r1 r2 r3 r14
        go_wp2_with fail
        go_ret
        exact ⟨rfl, HBv3.out⟩
      | true =>
        have r1 := K1.out v1
        have r2 := K2.out v1
        have r13 := K13.out v1
        go_wp2_with fail
        refine (CA.out (mT a 178) (jT a 215 a) v1 HBv1.out (A2.out (by first | exact rfl | exact trivial))).mono ?_
        rintro e v2 ⟨rfl, hbn⟩
        have hbb := HBv1.out.trans (hbn.mono HBv1.out.size)
        have HBv2 := hidMk hbb
        clear HBv1 hbn hbb r1 r2 r13
        have r1 := K1.out v2
        have r2 := K2.out v2
        have r3 := K3.out v2
        have r14 := K14.out v2
        go_wp2_with fail
        refine (CA.out (mT a 8242 ++ Utf8.encode ((8242 : Nat) : Int)) a v2 HBv2.out A3.out).mono ?_
        rintro e v3 ⟨rfl, hbn⟩
        have hbb := HBv2.out.trans (hbn.mono HBv2.out.size)
        have HBv3 := hidMk hbb
        clear HBv2 hbn hbb r1 r2 r3 r14
        go_wp2_with fail
        go_ret
        exact ⟨rfl, HBv3.out⟩
    | true =>
      cases k2 with
      | false =>
        go_wp2_with fail
        refine (J3.out _).mono ?_
        rintro e v1 ⟨rfl, hbn⟩
        have hbb := HBu2.out.trans (hbn.mono HBu2.out.size)
        have HBv1 := hidMk hbb
        clear HBu2 hbn hbb J3
        cases k3 with
        | false =>
          have r1 := K1.out v1
          have r2 := K2.out v1
          have r3 := K3.out v1
          have r14 := K14.out v1
          go_wp2_with fail
          refine (CA.out (mT a 8242 ++ Utf8.encode ((8242 : Nat) : Int)) a v1 HBv1.out A3.out).mono ?_
          rintro e v3 ⟨rfl, hbn⟩
          have hbb := HBv1.out.trans (hbn.mono HBv1.out.size)
          have HBv3 := hidMk hbb
          clear HBv1 hbn hbb r1 r2 r3 r14
          go_wp2_with fail
          go_ret
          exact ⟨rfl, HBv3.out⟩
        | true =>
          have r1 := K1.out v1
          have r2 := K2.out v1
          have r13 := K13.out v1
          go_wp2_with fail
          refine (CA.out (mT a 178) (jT a 215 a) v1 HBv1.out (A2.out (by first | exact rfl | exact trivial))).mono ?_
          rintro e v2 ⟨rfl, hbn⟩
          have hbb := HBv1.out.trans (hbn.mono HBv1.out.size)
          have HBv2 := hidMk hbb
          clear HBv1 hbn hbb r1 r2 r13
          have r1 := K1.out v2
          have r2 := K2.out v2
          have r3 := K3.out v2
          have r14 := K14.out v2
          go_wp2_with fail
          refine (CA.out (mT a 8242 ++ Utf8.encode ((8242 : Nat) : Int)) a v2 HBv2.out A3.out).mono ?_
          rintro e v3 ⟨rfl, hbn⟩
          have hbb := HBv2.out.trans (hbn.mono HBv2.out.size)
          have HBv3 := hidMk hbb
          clear HBv2 hbn hbb r1 r2 r3 r14
          go_wp2_with fail
          go_ret
          exact ⟨rfl, HBv3.out⟩
      | true =>
        have r10 := K10.out u2
        have r11 := K11.out u2
        have r12 := K12.out u2
        go_wp2_with fail
        refine (CA.out (mT (jT a 215 b) 8242) (jT (mT a 8242) 215 (mT b 8242)) u2 HBu2.out (A1.out (by first | exact rfl | exact trivial) (by first | exact rfl | exact trivial))).mono ?_
        rintro e u3 ⟨rfl, hbn⟩
        have hbb := HBu2.out.trans (hbn.mono HBu2.out.size)
        have HBu3 := hidMk hbb
        clear HBu2 hbn hbb r10 r11 r12
        go_wp2_with fail
        refine (J3.out _).mono ?_
        rintro e v1 ⟨rfl, hbn⟩
        have hbb := HBu3.out.trans (hbn.mono HBu3.out.size)
        have HBv1 := hidMk hbb
        clear HBu3 hbn hbb J3
        cases k3 with
        | false =>
          have r1 := K1.out v1
          have r2 := K2.out v1
          have r3 := K3.out v1
          have r14 := K14.out v1
          go_wp2_with fail
          refine (CA.out (mT a 8242 ++ Utf8.encode ((8242 : Nat) : Int)) a v1 HBv1.out A3.out).mono ?_
          rintro e v3 ⟨rfl, hbn⟩
          have hbb := HBv1.out.trans (hbn.mono HBv1.out.size)
          have HBv3 := hidMk hbb
          clear HBv1 hbn hbb r1 r2 r3 r14
          go_wp2_with fail
          go_ret
          exact ⟨rfl, HBv3.out⟩
        | true =>
          have r1 := K1.out v1
          have r2 := K2.out v1
          have r13 := K13.out v1
          go_wp2_with fail
          refine (CA.out (mT a 178) (jT a 215 a) v1 HBv1.out (A2.out (by first | exact rfl | exact trivial))).mono ?_
          rintro e v2 ⟨rfl, hbn⟩
          have hbb := HBv1.out.trans (hbn.mono HBv1.out.size)
          have HBv2 := hidMk hbb
          clear HBv1 hbn hbb r1 r2 r13
          have r1 := K1.out v2
          have r2 := K2.out v2
          have r3 := K3.out v2
          have r14 := K14.out v2
          go_wp2_with fail
          refine (CA.out (mT a 8242 ++ Utf8.encode ((8242 : Nat) : Int)) a v2 HBv2.out A3.out).mono ?_
          rintro e v3 ⟨rfl, hbn⟩
          have hbb := HBv2.out.trans (hbn.mono HBv2.out.size)
          have HBv3 := hidMk hbb
          clear HBv2 hbn hbb r1 r2 r3 r14
          go_wp2_with fail
          go_ret
          exact ⟨rfl, HBv3.out⟩
  | true =>
    obtain ⟨⟨_, _, xr1, xr2, _⟩, ⟨_, _, xi1, xi2, _⟩⟩ := XO.out (by first | exact rfl | exact trivial)
    have wr : wrap64 (-x.re.n) = -x.re.n := by unfold wrap64; omega
    have wi : wrap64 (-x.im.n) = -x.im.n := by unfold wrap64; omega
    have hm := HM.out (by first | exact rfl | exact trivial)
    have hn := HN.out (by first | exact rfl | exact trivial)
    subst hm hn
    have q1 := eq4_same x.re.n x.re.d (-x.im.n) x.im.d W12
    have q2 := eq4_same (-x.re.n) x.re.d (-x.im.n) x.im.d W12
    clear HM HN XO xr1 xr2 xi1 xi2
    unfold Num.conj Num.neg Fr.neg at *
    simp only at *
    go_upto_region 17 with fail
    clear x0 x1 x2 x3 y0 y1 y2 y3 zz0 zz1 zz2 zz3 r1
    go_wp2_with fail
    refine (J1.out _).mono ?_
    rintro e u1 ⟨rfl, hbn⟩
    have hbb := HB12.out.trans (hbn.mono HB12.out.size)
    have HBu1 := hidMk hbb
    clear HB12 hbn hbb J1
    have r1 := K1.out u1
    have r2 := K2.out u1
    have r3 := K3.out u1
    have r7 := K7.out u1
    have r8 := K8.out u1
    have r9 := K9.out u1
    go_wp2_with fail
    refine (J2.out _).mono ?_
    rintro e u2 ⟨rfl, hbn⟩
    have hbb := HBu1.out.trans (hbn.mono HBu1.out.size)
    have HBu2 := hidMk hbb
    clear HBu1 hbn hbb J2 r1 r2 r3 r7 r8 r9
    cases k1 with
    | false =>
      go_wp2_with fail
      refine (J3.out _).mono ?_
      rintro e v1 ⟨rfl, hbn⟩
      have hbb := HBu2.out.trans (hbn.mono HBu2.out.size)
      have HBv1 := hidMk hbb
      clear HBu2 hbn hbb J3
      cases k3 with
      | false =>
        have r1 := K1.out v1
        have r2 := K2.out v1
        have r3 := K3.out v1
        have r14 := K14.out v1
        go_wp2_with fail
        refine (CA.out (mT a 8242 ++ Utf8.encode ((8242 : Nat) : Int)) a v1 HBv1.out A3.out).mono ?_
        rintro e v3 ⟨rfl, hbn⟩
        have hbb := HBv1.out.trans (hbn.mono HBv1.out.size)
        have HBv3 := hidMk hbb
        clear HBv1 hbn hbb r1 r2 r3 r14
        go_wp2_with fail
        go_ret
        exact ⟨rfl, HBv3.out⟩
      | true =>
        have r1 := K1.out v1
        have r2 := K2.out v1
        have r13 := K13.out v1
        go_wp2_with fail
        refine (CA.out (mT a 178) (jT a 215 a) v1 HBv1.out (A2.out (by first | exact rfl | exact trivial))).mono ?_
        rintro e v2 ⟨rfl, hbn⟩
        have hbb := HBv1.out.trans (hbn.mono HBv1.out.size)
        have HBv2 := hidMk hbb
        clear HBv1 hbn hbb r1 r2 r13
        have r1 := K1.out v2
        have r2 := K2.out v2
        have r3 := K3.out v2
        have r14 := K14.out v2
        go_wp2_with fail
        refine (CA.out (mT a 8242 ++ Utf8.encode ((8242 : Nat) : Int)) a v2 HBv2.out A3.out).mono ?_
        rintro e v3 ⟨rfl, hbn⟩
        have hbb := HBv2.out.trans (hbn.mono HBv2.out.size)
        have HBv3 := hidMk hbb
        clear HBv2 hbn hbb r1 r2 r3 r14
        go_wp2_with fail
        go_ret
        exact ⟨rfl, HBv3.out⟩
    | true =>
      cases k2 with
      | false =>
        go_wp2_with fail
        refine (J3.out _).mono ?_
        rintro e v1 ⟨rfl, hbn⟩
        have hbb := HBu2.out.trans (hbn.mono HBu2.out.size)
        have HBv1 := hidMk hbb
        clear HBu2 hbn hbb J3
        cases k3 with
        | false =>
          have r1 := K1.out v1
          have r2 := K2.out v1
          have r3 := K3.out v1
          have r14 := K14.out v1
          go_wp2_with fail
          refine (CA.out (mT a 8242 ++ Utf8.encode ((8242 : Nat) : Int)) a v1 HBv1.out A3.out).mono ?_
          rintro e v3 ⟨rfl, hbn⟩
          have hbb := HBv1.out.trans (hbn.mono HBv1.out.size)
          have HBv3 := hidMk hbb
          clear HBv1 hbn hbb r1 r2 r3 r14
          go_wp2_with fail
          go_ret
          exact ⟨rfl, HBv3.out⟩
        | true =>
          have r1 := K1.out v1
          have r2 := K2.out v1
          have r13 := K13.out v1
          go_wp2_with fail
          refine (CA.out (mT a 178) (jT a 215 a) v1 HBv1.out (A2.out (by first | exact rfl | exact trivial))).mono ?_
          rintro e v2 ⟨rfl, hbn⟩
          have hbb := HBv1.out.trans (hbn.mono HBv1.out.size)
          have HBv2 := hidMk hbb
          clear HBv1 hbn hbb r1 r2 r13
          have r1 := K1.out v2
          have r2 := K2.out v2
          have r3 := K3.out v2
          have r14 := K14.out v2
          go_wp2_with fail
          refine (CA.out (mT a 8242 ++ Utf8.encode ((8242 : Nat) : Int)) a v2 HBv2.out A3.out).mono ?_
          rintro e v3 ⟨rfl, hbn⟩
          have hbb := HBv2.out.trans (hbn.mono HBv2.out.size)
          have HBv3 := hidMk hbb
          clear HBv2 hbn hbb r1 r2 r3 r14
          go_wp2_with fail
          go_ret
          exact ⟨rfl, HBv3.out⟩
      | true =>
        have r10 := K10.out u2
        have r11 := K11.out u2
        have r12 := K12.out u2
        go_wp2_with fail
        refine (CA.out (mT (jT a 215 b) 8242) (jT (mT a 8242) 215 (mT b 8242)) u2 HBu2.out (A1.out (by first | exact rfl | exact trivial) (by first | exact rfl | exact trivial))).mono ?_
        rintro e u3 ⟨rfl, hbn⟩
        have hbb := HBu2.out.trans (hbn.mono HBu2.out.size)
        have HBu3 := hidMk hbb
        clear HBu2 hbn hbb r10 r11 r12
        go_wp2_with fail
        refine (J3.out _).mono ?_
        rintro e v1 ⟨rfl, hbn⟩
        have hbb := HBu3.out.trans (hbn.mono HBu3.out.size)
        have HBv1 := hidMk hbb
        clear HBu3 hbn hbb J3
        cases k3 with
        | false =>
          have r1 := K1.out v1
          have r2 := K2.out v1
          have r3 := K3.out v1
          have r14 := K14.out v1
          go_wp2_with fail
          refine (CA.out (mT a 8242 ++ Utf8.encode ((8242 : Nat) : Int)) a v1 HBv1.out A3.out).mono ?_
          rintro e v3 ⟨rfl, hbn⟩
          have hbb := HBv1.out.trans (hbn.mono HBv1.out.size)
          have HBv3 := hidMk hbb
          clear HBv1 hbn hbb r1 r2 r3 r14
          go_wp2_with fail
          go_ret
          exact ⟨rfl, HBv3.out⟩
        | true =>
          have r1 := K1.out v1
          have r2 := K2.out v1
          have r13 := K13.out v1
          go_wp2_with fail
          refine (CA.out (mT a 178) (jT a 215 a) v1 HBv1.out (A2.out (by first | exact rfl | exact trivial))).mono ?_
          rintro e v2 ⟨rfl, hbn⟩
          have hbb := HBv1.out.trans (hbn.mono HBv1.out.size)
          have HBv2 := hidMk hbb
          clear HBv1 hbn hbb r1 r2 r13
          have r1 := K1.out v2
          have r2 := K2.out v2
          have r3 := K3.out v2
          have r14 := K14.out v2
          go_wp2_with fail
          refine (CA.out (mT a 8242 ++ Utf8.encode ((8242 : Nat) : Int)) a v2 HBv2.out A3.out).mono ?_
          rintro e v3 ⟨rfl, hbn⟩
          have hbb := HBv2.out.trans (hbn.mono HBv2.out.size)
          have HBv3 := hidMk hbb
          clear HBv2 hbn hbb r1 r2 r3 r14
          go_wp2_with fail
          go_ret
          exact ⟨rfl, HBv3.out⟩
end Go.Proofs.YtodabmkcihafhaaGreatDoor

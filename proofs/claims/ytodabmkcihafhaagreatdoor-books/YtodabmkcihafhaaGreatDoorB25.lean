import Derived.RangeFuncNested
import Derived.RangeFuncBound
import Derived.RangeFuncCalls
import Derived.RangeFuncLeaves
import Derived.Shelf.Abstract
import Derived.Shelf.RegionOpen
import Derived.WalkKit
import Derived.OwnWalkIn
import Derived.TacticsInMore
import Derived.LoopNIn
import Derived.LoopIn
import Derived.Test.YtodabmkcihafhaaGreatDoorB24
import Derived.Test.YtodabmkcihafhaaGreatDoorB15
import Derived.Test.YtodabmkcihafhaaGreatDoorB21
import Derived.Test.YtodabmkcihafhaaGreatDoorB14

/- Digits: the document's Digits. -/
namespace Go.Proofs.YtodabmkcihafhaaGreatDoor
open Go.RowKit
set_option linter.unusedVariables false
def dgU (a : Ans) (n : Int) : Int := match tellA a n with | .ok x => (unitP x : Nat) | .err _ _ => 0
def dgRe (a : Ans) (n : Int) : List Int := match tellA a n with | .ok x => digL x.re (unitP x) n.toNat | .err _ _ => []
def dgIm (a : Ans) (n : Int) : List Int := match tellA a n with | .ok x => digL x.im (unitP x) n.toNat | .err _ _ => []
theorem row_below {w w' : World} {base : Nat} {e : TypeId} {sz : Nat} {v : Value} {n : Nat} {xs : List Value} (h : w.ownsRow base e sz v n xs) (g : Below w.heap.size w w') : w'.ownsRow base e sz v n xs := by
  obtain ⟨h1, h2⟩ := h
  refine ⟨h1, ?_⟩
  rcases h2 with h2 | ⟨b, cap, cur, e1, e2, e3, e4, e5, e6, e7⟩
  · exact Or.inl h2
  · exact Or.inr ⟨b, cap, cur, e1, e2, (g.block _ (Array.getElem?_eq_some_iff.1 e3).1).trans e3, e4, e5, e6, e7⟩
theorem row_mono {w : World} {base base' : Nat} {e : TypeId} {sz : Nat} {v : Value} {n : Nat} {xs : List Value} (h : w.ownsRow base e sz v n xs) (g : base' ≤ base) : w.ownsRow base' e sz v n xs := by
  obtain ⟨h1, h2⟩ := h
  refine ⟨h1, ?_⟩
  rcases h2 with h2 | ⟨b, cap, cur, e1, e2, e3, e4, e5, e6, e7⟩
  · exact Or.inl h2
  · exact Or.inr ⟨b, cap, cur, e1, by omega, e3, e4, e5, e6, e7⟩
theorem dg_vals {names : List (Int × Num)} {s : ByteArray} (hok : ∀ p ∈ names, p.2.Ok) (n : Int) :
    (∃ x q p, tellA (valS names s) n = .ok x ∧ x.Ok ∧ q = (0 : Int) ∧ p = (0 : Int) ∧ 0 ≤ n ∧ n ≤ 20 ∧ valS names s = .ok x) ∨
    (∃ x, valS names s = .ok x ∧ x.Ok ∧ (n < 0 ∨ n > 20) ∧ tellA (valS names s) n = .err 6 0) ∨
    (∃ q p, valS names s = .err q p ∧ q ≠ 0 ∧ tellA (valS names s) n = .err q p) := by
  rcases valS_cases names s hok with ⟨x, hv⟩ | ⟨q, p, hv, hq⟩
  · have hx := valS_num hok hv
    by_cases hr : n < 0 ∨ n > 20
    · exact Or.inr (Or.inl ⟨x, hv, hx, hr, by unfold tellA; rw [hv]; exact if_pos hr⟩)
    · exact Or.inl ⟨x, 0, 0, by unfold tellA; rw [hv]; exact if_neg hr, hx, rfl, rfl, by omega, by omega, hv⟩
  · exact Or.inr (Or.inr ⟨q, p, hv, hq, by unfold tellA; rw [hv]⟩)
set_option maxHeartbeats 4000000 in
set_option maxRecDepth 100000 in
theorem rbdigits_any (B : Nat) (names : List (Int × Num)) (s : ByteArray) (n : Int) (w : World) (hl : names.length ≤ 1000) (hok : ∀ p ∈ names, p.2.Ok) (h : NmRow B names w) :
    Calls Tryz.prog 69 #[.pointer (some ⟨B, 0, none⟩), .string s, .int .i64 n] w fun e w' => ∃ v1 v2, e = .returned (.tuple #[.int .i64 (dgU (valS names s) n), v1, v2, .int .i64 (ansE (tellA (valS names s) n)), .int .i64 (ansP (tellA (valS names s) n))]) ∧
      w'.ownsRow w.heap.size 3 1 v1 (dgRe (valS names s) n).length (iC (dgRe (valS names s) n)) ∧ w'.ownsRow w.heap.size 3 1 v2 (dgIm (valS names s) n).length (iC (dgIm (valS names s) n)) ∧ Below w.heap.size w w' := by
  have CN : Hid (Calls Tryz.prog 36 #[.pointer (some ⟨B, 0, none⟩), .string s] w fun e w' => e = .returned (ansV (valS names s)) ∧ Below w.heap.size w w') := by
    have := rnumber_any B names s w hl hok h
    rw [refV_ans] at this
    exact this
  have HX := hidMk (dg_vals (s := s) hok n)
  clear hl hok h
  go_enter Tryz.func69, Tryz.ntmps69
  go_wp2_with fail
  refine CN.out.mono ?_
  rintro e w1 ⟨rfl, hb1⟩
  rcases HX.out with ⟨x, _, _, ht, hx, _, _, hn0, hn1, hv⟩ | ⟨x, hv, hx, hr, ht⟩ | ⟨q, p, hv, hq, ht⟩
  · obtain ⟨k, rfl⟩ : ∃ k : Nat, n = k := ⟨n.toNat, by omega⟩
    have HV : Hid (dgU (valS names s) k = (unitP x : Nat) ∧ dgRe (valS names s) k = digL x.re (unitP x) k ∧ dgIm (valS names s) k = digL x.im (unitP x) k ∧ ansE (tellA (valS names s) k) = 0 ∧ ansP (tellA (valS names s) k) = 0) := by
      unfold dgU dgRe dgIm
      rw [ht]
      exact ⟨rfl, rfl, rfl, rfl, rfl⟩
    obtain ⟨u1, u2, u3, u4⟩ := unit_fit hx
    have C0 := hidMk (fun W => runit_any x W hx)
    have C1 := hidMk (fun W => rdigits_any x.re (unitP x) k W hx.1 u1 (by omega) u2)
    have C2 := hidMk (fun W => rdigits_any x.im (unitP x) k W hx.2 u1 (by omega) u3)
    rw [hv]
    have e1 : ansV (.ok x) = .tuple #[.agg (numC x), .int .i64 0, .int .i64 0] := rfl
    rw [e1]
    have HLN : Hid ((digL x.re (unitP x) k).length = k ∧ (digL x.im (unitP x) k).length = k) := ⟨digL_len _ _ _, digL_len _ _ _⟩
    clear u2 u3 u4 hv ht hx CN HX e1
    generalize digL x.re (unitP x) k = DR at *
    generalize digL x.im (unitP x) k = DI at *
    generalize unitP x = U at *
    go_upto_region 2 with fail
    have hx2 := heap_alloc_new w1 (.cells (numC x) 92)
    have hb2 := hb1.trans ((fr_below w1 (.cells (numC x) 92)).mono hb1.size)
    generalize w1.alloc _ = W2 at *
    generalize w1.heap.size = b10 at *
    obtain ⟨c0, c1, c2, c3⟩ := four_cells hx2
    have HX2 := hidMk hx2
    have HB2 := hidMk hb2
    clear hx2 hb2 hb1
    go_wp2_with fail
    refine (C0.out _).mono ?_
    rintro e w3 ⟨rfl, hb3⟩
    have HX3 := hidMk ((hb3.block _ (Array.getElem?_eq_some_iff.1 HX2.out).1).trans HX2.out)
    have HB3 := hidMk (HB2.out.trans (hb3.mono HB2.out.size))
    clear c0 c1 c2 c3 HX2 HB2 hb3 C0
    obtain ⟨c0, c1, c2, c3⟩ := four_cells HX3.out
    go_wp2_with fail
    refine (C1.out _).mono ?_
    rintro e w4 ⟨v1, rfl, hr1, hb4⟩
    have HX4 := hidMk ((hb4.block _ (Array.getElem?_eq_some_iff.1 HX3.out).1).trans HX3.out)
    have HB4 := hidMk (HB3.out.trans (hb4.mono HB3.out.size))
    have HR1 := hidMk (row_mono hr1 HB3.out.size)
    clear c0 c1 c2 c3 HX3 HB3 hb4 C1 hr1
    obtain ⟨c0, c1, c2, c3⟩ := four_cells HX4.out
    go_wp2_with fail
    refine (C2.out _).mono ?_
    rintro e w5 ⟨v2, rfl, hr2, hb5⟩
    have HB5 := hidMk (HB4.out.trans (hb5.mono HB4.out.size))
    have HR2 := hidMk (row_mono hr2 HB4.out.size)
    have HR1' := hidMk (row_below HR1.out hb5)
    clear c0 c1 c2 c3 HX4 HB4 hb5 C2 hr2
    go_wp2_with fail
    exact bodyPost_ret (v := .tuple #[.int .i64 (U : Nat), v1, v2, .int .i64 0, .int .i64 0]) (by simp [results, Tryz.results69, go_sem]) rfl ⟨v1, v2, by rw [HV.out.1, HV.out.2.2.2.1, HV.out.2.2.2.2], by rw [HV.out.2.1, HLN.out.1]; exact HR1'.out, by rw [HV.out.2.2.1, HLN.out.2]; exact HR2.out, HB5.out⟩
  · have HV : Hid (dgU (valS names s) n = 0 ∧ dgRe (valS names s) n = [] ∧ dgIm (valS names s) n = [] ∧ ansE (tellA (valS names s) n) = 6 ∧ ansP (tellA (valS names s) n) = 0) := by
      unfold dgU dgRe dgIm
      rw [ht]
      exact ⟨rfl, rfl, rfl, rfl, rfl⟩
    rw [hv]
    have e1 : ansV (.ok x) = .tuple #[.agg (numC x), .int .i64 0, .int .i64 0] := rfl
    rw [e1]
    clear hv ht hx CN HX e1
    go_upto_region 2 with fail
    have hb2 := hb1.trans ((fr_below w1 (.cells (numC x) 92)).mono hb1.size)
    generalize w1.alloc _ = W2 at *
    generalize w1.heap.size = b10 at *
    go_wp2_with fail
    all_goals exact bodyPost_ret (v := .tuple #[.int .i64 0, .slice none 0 0, .slice none 0 0, .int .i64 6, .int .i64 0]) (by simp [results, Tryz.results69, go_sem]) rfl ⟨_, _, by rw [HV.out.1, HV.out.2.2.2.1, HV.out.2.2.2.2], by rw [HV.out.2.1]; exact World.ownsRow_nil _ _ _ _, by rw [HV.out.2.2.1]; exact World.ownsRow_nil _ _ _ _, hb2⟩
  · have HV : Hid (dgU (valS names s) n = 0 ∧ dgRe (valS names s) n = [] ∧ dgIm (valS names s) n = [] ∧ ansE (tellA (valS names s) n) = q ∧ ansP (tellA (valS names s) n) = p) := by
      unfold dgU dgRe dgIm
      rw [ht]
      exact ⟨rfl, rfl, rfl, rfl, rfl⟩
    rw [hv]
    have e1 : ansV (.err q p) = .tuple #[.agg (numC ⟨⟨0, 0⟩, ⟨0, 0⟩⟩), .int .i64 q, .int .i64 p] := rfl
    rw [e1]
    have hne : (q != 0) = true := by simpa using hq
    clear hv hq e1 CN HX ht
    go_upto_region 2 with fail
    have hb2 := hb1.trans ((fr_below w1 (.cells (numC ⟨⟨0, 0⟩, ⟨0, 0⟩⟩) 92)).mono hb1.size)
    generalize w1.alloc _ = W2 at *
    go_wp2_with fail
    exact bodyPost_ret (v := .tuple #[.int .i64 0, .slice none 0 0, .slice none 0 0, .int .i64 q, .int .i64 p]) (by simp [results, Tryz.results69, go_sem]) rfl ⟨_, _, by rw [HV.out.1, HV.out.2.2.2.1, HV.out.2.2.2.2], by rw [HV.out.2.1]; exact World.ownsRow_nil _ _ _ _, by rw [HV.out.2.2.1]; exact World.ownsRow_nil _ _ _ _, hb2⟩
end Go.Proofs.YtodabmkcihafhaaGreatDoor

/- Digits: the program's untold and next. -/
namespace Go.Proofs.YtodabmkcihafhaaGreatDoor
open Go.RowKit
set_option linter.unusedVariables false
/-- A digit as a float. -/
def bF (c : Int) : Nat := if c = 1 then 4607182418800017408 else if c = -1 then 13830554455654793216 else 0
def flV (c : Int) : Value := .float .f64 (bF c)
set_option maxHeartbeats 4000000 in
set_option maxRecDepth 100000 in
theorem next_any (b : Nat) (L D : Int) (w : World) (h : w.heap[b]? = some (.cells #[.int .i64 L, .int .i64 D] 220 (0, 0))) (hD : 0 < D ∧ D ≤ 1048574951424) (hL : -D ≤ L ∧ L ≤ D) :
    Calls Tryz.prog 108 #[.pointer (some ⟨b, 0, none⟩)] w fun e w' => e = .returned (flV (dg L D)) ∧ w'.heap[b]? = some (.cells #[.int .i64 (nx L D), .int .i64 D] 220 (0, 0)) ∧ w.grownBy w' (some b) := by
  have HC := hidMk (dg_cases L D hD.1)
  have w2 : wrap64 (L * 2) = 2 * L := by unfold wrap64; omega
  have w4 : wrap64 (2 * (2 * L)) = 2 * (2 * L) := by unfold wrap64; omega
  have wD : wrap64 (-D) = -D := by unfold wrap64; omega
  obtain ⟨c0, c1, f0, f1⟩ := two_cells h
  have HH := hidMk h
  clear h
  go_enter Tryz.func108, Tryz.ntmps108
  go_upto_region 2 with fail
  have e2 : L * 2 = 2 * L := by omega
  rw [e2]
  clear w2 e2
  have h2 : (w.setCell ⟨b, 0, none⟩ (.int .i64 (2 * L))).heap[b]? = some (.cells #[.int .i64 (2 * L), .int .i64 D] 220 (0, 0)) := by
    simp [World.setCell, Array.getElem?_modify, HH.out]
  have g2 : w.grownBy (w.setCell ⟨b, 0, none⟩ (.int .i64 (2 * L))) (some b) := gb_set (World.grownBy.refl _ _) _ _
  generalize w.setCell ⟨b, 0, none⟩ (.int .i64 (2 * L)) = W at *
  clear c0 c1 f0 f1 HH
  obtain ⟨c0, c1, f0, f1⟩ := two_cells h2
  have H2 := hidMk h2
  have G2 := hidMk g2
  clear h2 g2
  rcases HC.out with ⟨h1, e3, e4⟩ | ⟨h1, h2, e3, e4⟩ | ⟨h1, h2, e3, e4⟩
  · have HE : Hid (flV (dg L D) = .float .f64 4607182418800017408 ∧ nx L D = 2 * L - D) := ⟨by rw [e3]; rfl, e4⟩
    clear e3 e4 HC
    have q1 : decide (2 * (2 * L) > D) = true := by simpa using h1
    go_wp2_with fail
    go_quiet (fail)
    go_wp2_with fail
    go_region
    all_goals go_wp2_with fail
    refine bodyPost_ret (v := .float .f64 4607182418800017408) (by simp [results, Tryz.results108, go_sem]) rfl ⟨by rw [HE.out.1], ?_, gb_set (gb_drewN G2.out _) _ _⟩
    rw [HE.out.2]
    simp [World.setCell, Array.getElem?_modify, H2.out]
  · have HE : Hid (flV (dg L D) = .float .f64 13830554455654793216 ∧ nx L D = 2 * L + D) := ⟨by rw [e3]; rfl, e4⟩
    clear e3 e4 HC
    have q1 : decide (2 * (2 * L) > D) = false := by simpa using h1
    have q2 : decide (2 * (2 * L) < -D) = true := by simpa using h2
    go_wp2_with fail
    go_quiet (fail)
    go_wp2_with fail
    go_quiet (fail)
    go_wp2_with fail
    go_region
    go_wp2_with fail
    refine bodyPost_ret (v := .float .f64 13830554455654793216) (by simp [results, Tryz.results108, go_sem]) rfl ⟨by rw [HE.out.1], ?_, gb_set (gb_drewN G2.out _) _ _⟩
    rw [HE.out.2]
    simp [World.setCell, Array.getElem?_modify, H2.out]
  · have HE : Hid (flV (dg L D) = .float .f64 0 ∧ nx L D = 2 * L) := ⟨by rw [e3]; rfl, e4⟩
    clear e3 e4 HC
    have q1 : decide (2 * (2 * L) > D) = false := by simpa using h1
    have q2 : decide (2 * (2 * L) < -D) = false := by simpa using h2
    go_wp2_with fail
    go_quiet (fail)
    go_wp2_with fail
    go_quiet (fail)
    go_wp2_with fail
    refine bodyPost_ret (v := .float .f64 0) (by simp [results, Tryz.results108, go_sem]) rfl ⟨by rw [HE.out.1], ?_, gb_drewN (gb_drewN G2.out _) _⟩
    rw [HE.out.2]
    exact H2.out

set_option maxHeartbeats 1000000 in
theorem untold_any (f : Fr) (e : Nat) (w : World) (hf : f.Ok) (he : e ≤ 20) : Calls Tryz.prog 107 #[.agg #[.int .i64 f.n, .int .i64 f.d], .int .i64 e] w fun r w' => r = .returned (.agg #[.int .i64 f.n, .int .i64 (unD f e)]) ∧ Below w.heap.size w w' := by
  obtain ⟨p1, p2⟩ := pow20 e he
  obtain ⟨u1, u2⟩ := unD_in hf he
  have wM : wrap64 (f.d * 2 ^ e) = unD f e := by show wrap64 (unD f e) = _; unfold wrap64; omega
  obtain ⟨d1, d2, n1, n2, _⟩ := hf
  have hx := heap_alloc_new w (.cells #[.int .i64 f.n, .int .i64 f.d] 80)
  have hb := fr_below w (.cells #[.int .i64 f.n, .int .i64 f.d] 80)
  generalize unD f e = U at *
  go_enter Tryz.func107, Tryz.ntmps107
  go_upto_region 1 with fail
  have hx2 := (Below.heap_alloc (w.alloc (.cells #[.int .i64 f.n, .int .i64 f.d] 80)) (.cells #[.int .i64 0, .int .i64 0] 220) _ (Array.getElem?_eq_some_iff.1 hx).1).trans hx
  have hy2 := heap_alloc_new (w.alloc (.cells #[.int .i64 f.n, .int .i64 f.d] 80)) (.cells #[.int .i64 0, .int .i64 0] 220)
  have hb2 := hb.alloc (by simp) (.cells #[.int .i64 0, .int .i64 0] 220)
  simp only [World.size_alloc] at hy2
  generalize (w.alloc _).alloc _ = W at *
  obtain ⟨c0, c1, _, _⟩ := two_cells hx2
  obtain ⟨y0, y1, f0, f1⟩ := two_cells hy2
  have HY := hidMk hy2
  have HB := hidMk hb2
  clear hx hb hx2 hy2 hb2
  go_region
  go_wp2_with fail
  refine bp_gen (fun W' => W'.heap[w.heap.size + 1]? = some (.cells #[.int .i64 f.n, .int .i64 U] 220 (0, 0)) ∧ Below w.heap.size w W') ⟨two_set HY.out _ _, ((HB.out.setCell (p := ⟨w.heap.size + 1, 0, none⟩) (by simp) _).setCell (p := ⟨w.heap.size + 1, 1, none⟩) (by simp) _).drew⟩ ?_
  rintro W' ⟨hz, hb⟩
  obtain ⟨z0, z1, _, _⟩ := two_cells hz
  exact bodyPost_ret (v := .agg #[.int .i64 f.n, .int .i64 U]) (by simp [results, Tryz.results107, go_sem, z0, z1]) rfl ⟨rfl, hb⟩
end Go.Proofs.YtodabmkcihafhaaGreatDoor

/- A range over an iterator that keeps state of its own in cells. -/
namespace Go.Proofs.YtodabmkcihafhaaGreatDoor
open Go.RowKit Go.Shelf
set_option linter.unusedVariables false
/-- What lies at B or above lies as it lay. -/
structure Abv (B : Nat) (W W' : World) : Prop where
  size : W.heap.size ≤ W'.heap.size
  same : ∀ k, B ≤ k → k < W.heap.size → W'.heap[k]? = W.heap[k]?
theorem Abv.trans {B : Nat} {A C D : World} (h : Abv B A C) (k : Abv B C D) : Abv B A D :=
  ⟨Nat.le_trans h.size k.size, fun i h1 h2 => (k.same i h1 (Nat.lt_of_lt_of_le h2 h.size)).trans (h.same i h1 h2)⟩
theorem Abv.mono {B B' : Nat} {A C : World} (h : Abv B A C) (hb : B ≤ B') : Abv B' A C := ⟨h.size, fun i h1 h2 => h.same i (Nat.le_trans hb h1) h2⟩
theorem Abv.putObj {B : Nat} (W : World) {l : Nat} (o : Obj) (hl : l < B) : Abv B W (W.putObj l o) :=
  ⟨(grownBy_putObj' W l o).size, fun k h1 h2 => World.putObj_heap_other (by omega)⟩
/-- How a round may end: it goes on, or it is left by a jump. -/
def stPost (B : Nat) (I : Nat → World → Prop) (Ix : Code → World → Prop) (j : Nat) (W : World) : Exit → Act → World → Prop
  | .normal, _, W' => Abv B W W' ∧ I (j + 1) W'
  | .exit id, _, W' => Abv B W W' ∧ Ix (.exit id) W'
  | .ret, _, _ => False
  | .goto _, _, _ => False
  | .panic _, _, _ => False
  | .outgrown, _, _ => False
variable {F : Fence} {n : Nat} {P : Program}
/-- The contract of an iterator that never ends by itself, its elements told by their place. -/
def SeqSt (F : Fence) (n : Nat) (P : Program) (g : Nat) (lb : Array Value) (encs : Nat → Array Value) (N : Nat) (w : World) : Prop :=
  ∀ (l : Nat) (J Jx : Nat → World → Prop) (W : World), Below w.heap.size w W →
    (∀ j A A', J j A → Below W.heap.size A A' → J j A') → (∀ j A A', Jx j A → Below W.heap.size A A' → Jx j A') → (∀ j A, J j A → j ≤ N) →
    (∀ j W1, J j W1 → YieldAt F (n - 1) P l (encs j) W1 fun e W' => (e = .returned (.bool true) ∧ J (j + 1) W' ∧ Abv W.heap.size W1 W') ∨ (e = .returned (.bool false) ∧ Jx (j + 1) W')) →
    J 0 W → CallsIn F n P g (#[.func (.yield l) #[] #[]] ++ lb) W fun e W' => (∃ v, e = .returned v) ∧ ∃ j, Jx j W'

theorem wpIn_rangeSt {g : Operand} {ps : Array Tmp} {assign body : Code} {Q : Exit → Act → World → Prop} {a : Act} {w : World}
    (hro : F.round = none) (h1 : 1 ≤ n) {gf : Nat} {lb : Array Value} (hg : a.eval g = .func (.func gf) #[] lb) (hFg : F.fn gf) (eg : ∀ args w, (callFunc gf args).run P w = .ok (.enter gf args) w)
    {encs : Nat → Array Value} {N : Nat} {w0 : World} (hseq : SeqSt F (n - 1) P gf lb encs N w0) (hb0 : Below w0.heap.size w0 w) (hps : ∀ j, (encs j).size = ps.size)
    (I : Nat → World → Prop) (Ix : Code → World → Prop) (hI : ∀ j A A', I j A → Below w.heap.size A A' → I j A') (hIx : ∀ c A A', Ix c A → Below w.heap.size A A' → Ix c A') (hN : ∀ j A, I j A → j ≤ N) (h0 : I 0 w) (a₁ : Nat → Act)
    (hassign : ∀ (l : Nat) (j : Nat) (W : World) (K : Act → World → Prop), K (a₁ j) W →
      assign.wpIn (F.inRound l) (n - 1 - 1) P (Exit.then K (fun _ _ _ => False)) { tmps := (ps.zip (encs j)).foldl (fun t (p, v) => t.setIfInBounds p v) a.tmps, defers := [] } W)
    (hbody : ∀ (l : Nat) (j : Nat) (W : World), I j W → body.wpIn (F.inRound l) (n - 1 - 1) P (stPost w.heap.size I Ix j W) (a₁ j) W)
    (hstop : ∀ (D : Nat) (c : Code) (W : World), w.heap.size ≤ D → Ix c W → W.heap[D]? = some (.deferred (some [])) → c.wpIn F n P Q { a with defers := { target := .collected D, args := #[] } :: a.defers } W) :
    (Code.rangeFunc g ps assign body).wpIn F n P Q a w := by
  refine wpIn_rangeFunc ?_
  intro fn hfn
  rw [hro]
  obtain ⟨rec, hrec⟩ : ∃ rec : LoopState → Option Code → Loop, rec = fun st pe => { state := st, pending := pe, fn, tmps := a.tmps, params := ps, assign, body, defers := w.heap.size } := ⟨_, rfl⟩
  obtain ⟨W1, hW1⟩ : ∃ W1, (w.alloc (.deferred (some []))).alloc (.loop (rec .ready none)) = W1 := ⟨_, rfl⟩
  have hL1 : W1.heap[w.heap.size + 1]? = some (.loop (rec .ready none)) := by
    rw [← hW1]; have := World.alloc_heap_new (w.alloc (.deferred (some []))) (.loop (rec .ready none)); rwa [World.size_alloc] at this
  have hK1 : W1.heap[w.heap.size]? = some (.deferred (some [])) := by
    rw [← hW1]; exact (Below.heap_alloc _ _ _ (by simp)).trans (World.alloc_heap_new w _)
  have hs1 : W1.heap.size = w.heap.size + 2 := by rw [← hW1]; simp
  have hbw1 : Below w.heap.size w W1 := by rw [← hW1]; exact ((Below.refl _ w).alloc (Nat.le_refl _) _).alloc (by simp) _
  have hb1 : Below w0.heap.size w0 W1 := hb0.trans (hbw1.mono hb0.size)
  refine ⟨w.heap.size + 1, [{ target := .collected w.heap.size, args := #[] }], W1, { target := .fn (.func gf) lb, args := #[.func (.yield (w.heap.size + 1)) #[] #[]] }, W1, gf,
    #[.func (.yield (w.heap.size + 1)) #[] #[]] ++ lb, W1, ?_, ?_, ?_, ?_, fun _ => h1, ?_⟩
  · rw [← hW1, hrec]; exact run_enterLoop_outer _ _ _ _ _
  · simp only [resolve, hg]
    simp [go_sem]
  · intro f' hf'; simp [Target.leads] at hf'; subst hf'; exact hFg
  · simp [invoke, go_sem, eg]
  · have put : ∀ (A : World) (l : Nat) (o o' : Obj), w.heap.size ≤ l → A.heap[l]? = some o → Below w.heap.size A (A.putObj l o') := fun A l o o' hl h =>
      (Below.refl _ A).grown (grownBy_putObj' A l o') (by have := (Array.getElem?_eq_some_iff.1 h).1; omega) (fun k e => by cases e; omega)
    refine (hseq (w.heap.size + 1)
      (fun j W => I j W ∧ W.heap[w.heap.size + 1]? = some (.loop (rec .ready none)) ∧ W.heap[w.heap.size]? = some (.deferred (some [])))
      (fun j W => ∃ c, Ix c W ∧ W.heap[w.heap.size + 1]? = some (.loop (rec .done (some c))) ∧ W.heap[w.heap.size]? = some (.deferred (some [])))
      W1 hb1
      (fun j A A' hs hb => ⟨hI j A A' hs.1 (hb.mono (by omega)), (hb.block _ (by omega)).trans hs.2.1, (hb.block _ (by omega)).trans hs.2.2⟩)
      (fun j A A' hs hb => by
        obtain ⟨c, hc, hl, hk⟩ := hs
        exact ⟨c, hIx c A A' hc (hb.mono (by omega)), (hb.block _ (by omega)).trans hl, (hb.block _ (by omega)).trans hk⟩)
      (fun j A hs => hN j A hs.1)
      ?_ ⟨hI _ _ _ h0 hbw1, hL1, hK1⟩).mono ?_
    · rintro j W ⟨hi, hl, hk⟩
      have hlt : w.heap.size + 1 < W.heap.size := (Array.getElem?_eq_some_iff.1 hl).1
      have hy := run_yield (P := P) (args := encs j) hl (by rw [hrec]; exact hps j)
      rw [hrec] at hy
      refine ⟨fn, _, assign, body, hy, roundIn_of_wpIn hfn (hassign _ j W _ ⟨_, run_beginRound hl (by rw [hrec]), ?_⟩)⟩
      have hl2 : (W.putObj (w.heap.size + 1) (.loop { rec .ready none with state := .busy })).heap[w.heap.size + 1]? = some (.loop { rec .ready none with state := .busy }) := World.putObj_heap_same hlt
      have hk2 : (W.putObj (w.heap.size + 1) (.loop { rec .ready none with state := .busy })).heap[w.heap.size]? = some (.deferred (some [])) := (World.putObj_heap_other (by omega)).trans hk
      have ha2 : Abv W1.heap.size W (W.putObj (w.heap.size + 1) (.loop { rec .ready none with state := .busy })) := Abv.putObj W _ (by omega)
      have hs2 : W.heap.size ≤ (W.putObj (w.heap.size + 1) (.loop { rec .ready none with state := .busy })).heap.size := (grownBy_putObj' _ _ _).size
      refine wpIn_mono (hbody _ j _ (hI j _ _ hi (put _ _ _ _ (by omega) hl))) ?_
      generalize hWW : W.putObj (w.heap.size + 1) (.loop { rec .ready none with state := .busy }) = WB at *
      have fin : ∀ (jump : Option Code) (W3 : World), Abv w.heap.size WB W3 →
          (Instr.endRound (w.heap.size + 1) jump).run P W3 = .ok (.bool jump.isNone) (W3.putObj (w.heap.size + 1) (.loop (rec (if jump.isNone then .ready else .done) jump))) ∧
          W3.heap[w.heap.size + 1]? = some (.loop { rec .ready none with state := .busy }) ∧
          (W3.putObj (w.heap.size + 1) (.loop (rec (if jump.isNone then .ready else .done) jump))).heap[w.heap.size + 1]? = some (.loop (rec (if jump.isNone then .ready else .done) jump)) ∧
          (W3.putObj (w.heap.size + 1) (.loop (rec (if jump.isNone then .ready else .done) jump))).heap[w.heap.size]? = some (.deferred (some [])) := fun jump W3 hk3 => by
        have hl3 := (hk3.same _ (by omega) (by omega)).trans hl2
        have hk3' := (hk3.same _ (Nat.le_refl _) (by omega)).trans hk2
        have := run_endRound (P := P) jump hl3
        rw [hrec] at this ⊢
        exact ⟨this, by rw [hrec] at hl3; exact hl3, World.putObj_heap_same (Array.getElem?_eq_some_iff.1 hl3).1, (World.putObj_heap_other (by omega)).trans hk3'⟩
      rintro e a3 W3 hp
      cases e with
      | normal =>
        obtain ⟨hk3, hi3⟩ := hp
        obtain ⟨hr, hl3, hl4, hk4⟩ := fin none W3 hk3
        exact ⟨_, _, hr, .inl ⟨rfl, ⟨hI _ _ _ hi3 (put _ _ _ _ (by omega) hl3), hl4, hk4⟩, (ha2.trans (hk3.mono (by omega))).trans (Abv.putObj _ _ (by omega))⟩⟩
      | exit id =>
        obtain ⟨hk3, hi3⟩ := hp
        obtain ⟨hr, hl3, hl4, hk4⟩ := fin (some (.exit id)) W3 hk3
        exact ⟨_, _, hr, .inr ⟨rfl, .exit id, hIx _ _ _ hi3 (put _ _ _ _ (by omega) hl3), hl4, hk4⟩⟩
      | ret => exact hp.elim
      | goto t => exact hp.elim
      | panic ch => exact hp.elim
      | outgrown => exact hp.elim
    · rintro e W2 ⟨⟨v, rfl⟩, j, c, hi, hl, hk⟩
      exact ⟨some c, _, by have := run_endLoop (P := P) hl (by rw [hrec]; simp); rw [hrec] at this; exact this, hstop _ c _ (Nat.le_refl _) (hIx c _ _ hi (put _ _ _ _ (by omega) hl)) ((World.putObj_heap_other (by omega)).trans hk)⟩
end Go.Proofs.YtodabmkcihafhaaGreatDoor

/- Digits: the program's iterator. -/
namespace Go.Proofs.YtodabmkcihafhaaGreatDoor
open Go.RowKit Go.Shelf
attribute [local go_sem] Oper.semAt_some
set_option linter.unusedVariables false
theorem loop_ghost {F : Fence} {n : Nat} {P : Program} {Q : Exit → Act → World → Prop} {a : Act} {w : World} {c : Code} (Inv : Nat → Act → World → Prop) (m : Nat) (h0 : Inv m a w)
    (hstep : ∀ g a w, Inv g a w → c.wpIn F n P (Exit.then (fun a' w' => ∃ g', g' < g ∧ Inv g' a' w') Q) a w) : (Code.loop c).wpIn F n P Q a w := by
  refine wpIn_loop_rounds (m + 1) ?_
  have key : ∀ k g a w, g < k → Inv g a w → Code.roundsIn F n P c Q k a w := by
    intro k
    induction k with
    | zero => intro g a w h _; omega
    | succ k ih =>
      intro g a w hg hi
      rw [roundsIn_succ]
      refine wpIn_mono (hstep g a w hi) ?_
      rintro e a' w' h
      cases e with
      | normal =>
        obtain ⟨g', h1, h2⟩ := h
        exact ih g' a' w' (by omega) h2
      | exit id => exact h
      | goto l => exact h
      | ret => exact h
      | panic ch => exact h
      | outgrown => exact h
  exact key (m + 1) m a w (by omega) h0
theorem Nw.below {W W' W'' : World} (h : Nw W W') (g : Below W'.heap.size W' W'') : Nw W W'' := ⟨h.b.trans (g.mono h.b.size)⟩
/-- The digits of a number, as they are handed out. -/
def cxV (x : Num) (j : Nat) : Value := .complex .f64 (bF (dg (lf x.re.n (unD x.re (unitP x)) j) (unD x.re (unitP x)))) (bF (dg (lf x.im.n (unD x.im (unitP x)) j) (unD x.im (unitP x))))
set_option maxHeartbeats 4000000 in
set_option maxRecDepth 100000 in
theorem digits1_in (n l bx N : Nat) (x : Num) (J Jx : Nat → World → Prop) (W : World) (hx : x.Ok) (hbx : W.heap[bx]? = some (.cells (numC x) 82 (0, 0)))
    (hJ : ∀ j A A', J j A → Below W.heap.size A A' → J j A') (hN : ∀ j A, J j A → j ≤ N)
    (hY : ∀ j W1, J j W1 → YieldAt Fence.wide (n - 1) Tryz.prog l #[cxV x j] W1 fun e W' => (e = .returned (.bool true) ∧ J (j + 1) W' ∧ Abv W.heap.size W1 W') ∨ (e = .returned (.bool false) ∧ Jx (j + 1) W')) (h0 : J 0 W) :
    CallsIn Fence.wide n Tryz.prog 106 #[.func (.yield l) #[] #[], .pointer (some ⟨bx, 0, none⟩)] W fun e W' => (∃ v, e = .returned v) ∧ ∃ j, Jx j W' := by
  have hro : Fence.wide.round = none := rfl
  have hdd : ∀ k : Nat, (Fence.wide.depth.isSome = true → 1 ≤ k) := fun k h => by cases h
  obtain ⟨u1, u2, u3, u4⟩ := unit_fit hx
  have CE := hidMk (fun W => exponent_any x W hx)
  have CR := hidMk (fun W => untold_any x.re (unitP x) W hx.1 u1)
  have CI := hidMk (fun W => untold_any x.im (unitP x) W hx.2 u1)
  have hR := hidMk (unD_in hx.1 u1)
  have hI := hidMk (unD_in hx.2 u1)
  have LR := hidMk (lf_in hR.out.1 (fit_in u2))
  have LI := hidMk (lf_in hI.out.1 (fit_in u3))
  have LS : Hid (lf x.re.n (unD x.re (unitP x)) 0 = x.re.n ∧ lf x.im.n (unD x.im (unitP x)) 0 = x.im.n ∧ (∀ j, nx (lf x.re.n (unD x.re (unitP x)) j) (unD x.re (unitP x)) = lf x.re.n (unD x.re (unitP x)) (j + 1)) ∧ (∀ j, nx (lf x.im.n (unD x.im (unitP x)) j) (unD x.im (unitP x)) = lf x.im.n (unD x.im (unitP x)) (j + 1))) := ⟨rfl, rfl, fun _ => rfl, fun _ => rfl⟩
  unfold cxV at hY
  clear hx u1 u2 u3 u4
  generalize unD x.re (unitP x) = UR at *
  generalize unD x.im (unitP x) = UI at *
  generalize unitP x = U at *
  generalize hlr : lf x.re.n UR = FR at *
  generalize hli : lf x.im.n UI = FI at *
  clear hlr hli
  have HY := hidMk hY
  have HJ := hidMk hJ
  have HN := hidMk hN
  have H0 := hidMk h0
  have HBX := hidMk hbx
  obtain ⟨c0, c1, c2, c3⟩ := four_cells hbx
  clear hY hJ hN h0 hbx
  refine callsIn_of_wp Tryz.func106 rfl trivial ?_ hro
  simp only [Tryz.ntmps106, List.size_toArray, List.length_cons, List.length_nil, Nat.reduceAdd, Nat.reduceSub, Array.replicate_succ, Array.replicate_zero, List.push_toArray, List.append_toArray, List.nil_append, List.cons_append]
  gi_wp2_with fail
  refine ⟨trivial, hdd _, (callsIn_wide.2 (CE.out _)).mono ?_⟩
  clear CE
  rintro e W3 ⟨rfl, hb3⟩
  gi_upto_region 1 with fail
  have HX := hidMk ((hb3.block _ (Array.getElem?_eq_some_iff.1 HBX.out).1).trans HBX.out)
  have HJ3 := hidMk (HJ.out 0 W W3 H0.out hb3)
  have HS3 := hidMk hb3.size
  clear hb3 HBX H0 c0 c1 c2 c3
  refine region_invIn (nt := 21) _
    (fun j v => match j with
      | 0 => v = .pointer (some ⟨bx, 0, none⟩)
      | 1 => v = .agg #[.int .i64 x.re.n, .int .i64 x.re.d]
      | 2 => v = .int .i64 (U : Nat)
      | 3 => v = .agg #[.int .i64 x.re.n, .int .i64 UR]
      | 4 => v = .pointer (some ⟨bx, 2, none⟩)
      | 5 => v = .agg #[.int .i64 x.im.n, .int .i64 x.im.d]
      | 6 => v = .int .i64 (U : Nat)
      | 7 => v = .agg #[.int .i64 x.im.n, .int .i64 UI]
      | _ => True)
    (fun b u w' => Hid (Nw W3 w' ∧ (b 10 = true → b 8 = true) ∧ (b 11 = true → b 9 = true) ∧ (b 8 = true → ∃ X, u 4 = .pointer (some ⟨X, 0, none⟩) ∧ W3.heap.size ≤ X ∧ w'.heap[X]? = some (.cells (if b 10 = true then #[.int .i64 x.re.n, .int .i64 UR] else #[.int .i64 0, .int .i64 0]) 220 (0, 0))) ∧ (b 9 = true → ∃ X, u 5 = .pointer (some ⟨X, 0, none⟩) ∧ W3.heap.size ≤ X ∧ w'.heap[X]? = some (.cells (if b 11 = true then #[.int .i64 x.im.n, .int .i64 UI] else #[.int .i64 0, .int .i64 0]) 220 (0, 0))) ∧ (b 8 = true → b 9 = true → u 4 ≠ u 5)))
    (act_of rfl rfl) (by kernel_rfl) (by kernel_rfl) (by kernel_rfl) ⟨(Nw.refl W3).drew, fun h => h, fun h => h, fun h => (by cases h), fun h => (by cases h), fun h => by cases h⟩ ?_ ?_
  · intro i o b u w' ho hbi hall hU hW K hK
    have hA : actOf 21 u = ⟨#[u 0, u 1, u 2, u 3, u 4, u 5, u 6, u 7, u 8, u 9, u 10, u 11, u 12, u 13, u 14, u 15, u 16, u 17, u 18, u 19, u 20], []⟩ := rfl
    rw [hA] at hK ⊢
    have c1 : u 1 = .pointer (some ⟨bx, 0, none⟩) := hU.oldB 1 (by kernel_rfl)
    have c3 : u 3 = .int .i64 (U : Nat) := hU.oldB 3 (by kernel_rfl)
    have got := hU.got
    have HW := hW
    have HKK := hidMk hK
    clear hU hA hK hW
    have hxx := (HW.out.1.b.block bx (Array.getElem?_eq_some_iff.1 HX.out).1).trans HX.out
    obtain ⟨x0, x1, x2, x3⟩ := four_cells hxx
    rcases i with _ | _ | _ | _ | _ | _ | _ | _ | _ | _ | _ | _ | i
    · cases ho
      go_simp
      exact HKK.out _ _ _ (by rw [c1, c3]; rfl) (fun _ => rfl) ⟨HW.out.1, HW.out.2.1, HW.out.2.2.1, HW.out.2.2.2.1, HW.out.2.2.2.2.1, HW.out.2.2.2.2.2⟩
    · cases ho
      have g8 : u 8 = .pointer (some ⟨bx, 0, none⟩) := got 0 8 rfl (hall ⟨0, .data⟩ (by simp) rfl)
      go_simp
      exact HKK.out _ _ _ (by rw [c1, c3, g8]; rfl) (fun _ => rfl) ⟨HW.out.1, HW.out.2.1, HW.out.2.2.1, HW.out.2.2.2.1, HW.out.2.2.2.2.1, HW.out.2.2.2.2.2⟩
    · cases ho
      go_simp
      exact HKK.out _ _ _ (by rw [c1, c3]; rfl) (fun _ => rfl) ⟨HW.out.1, HW.out.2.1, HW.out.2.2.1, HW.out.2.2.2.1, HW.out.2.2.2.2.1, HW.out.2.2.2.2.2⟩
    · cases ho
      have g9 : u 9 = .agg #[.int .i64 x.re.n, .int .i64 x.re.d] := got 1 9 rfl (hall ⟨1, .data⟩ (by simp) rfl)
      have g10 : u 10 = .int .i64 (U : Nat) := got 2 10 rfl (hall ⟨2, .data⟩ (by simp) rfl)
      go_simp
      refine ⟨trivial, hdd _, (callsIn_wide.2 (CR.out _)).mono ?_⟩
      rintro e w9 ⟨rfl, hb9⟩
      refine HKK.out _ _ _ (by rw [c1, c3, g9, g10]; rfl) (fun _ => rfl) ⟨HW.out.1.below hb9, HW.out.2.1, HW.out.2.2.1, ?_, ?_, HW.out.2.2.2.2.2⟩
      · intro h
        obtain ⟨X, q1, q2, q3⟩ := HW.out.2.2.2.1 h
        exact ⟨X, q1, q2, (hb9.block _ (Array.getElem?_eq_some_iff.1 q3).1).trans q3⟩
      · intro h
        obtain ⟨X, q1, q2, q3⟩ := HW.out.2.2.2.2.1 h
        exact ⟨X, q1, q2, (hb9.block _ (Array.getElem?_eq_some_iff.1 q3).1).trans q3⟩
    · cases ho
      go_simp
      exact HKK.out _ _ _ (by rw [c1, c3]; rfl) (fun _ => rfl) ⟨HW.out.1, HW.out.2.1, HW.out.2.2.1, HW.out.2.2.2.1, HW.out.2.2.2.2.1, HW.out.2.2.2.2.2⟩
    · cases ho
      have g12 : u 12 = .pointer (some ⟨bx, 2, none⟩) := got 4 12 rfl (hall ⟨4, .data⟩ (by simp) rfl)
      go_simp
      exact HKK.out _ _ _ (by rw [c1, c3, g12]; rfl) (fun _ => rfl) ⟨HW.out.1, HW.out.2.1, HW.out.2.2.1, HW.out.2.2.2.1, HW.out.2.2.2.2.1, HW.out.2.2.2.2.2⟩
    · cases ho
      go_simp
      exact HKK.out _ _ _ (by rw [c1, c3]; rfl) (fun _ => rfl) ⟨HW.out.1, HW.out.2.1, HW.out.2.2.1, HW.out.2.2.2.1, HW.out.2.2.2.2.1, HW.out.2.2.2.2.2⟩
    · cases ho
      have g13 : u 13 = .agg #[.int .i64 x.im.n, .int .i64 x.im.d] := got 5 13 rfl (hall ⟨5, .data⟩ (by simp) rfl)
      have g14 : u 14 = .int .i64 (U : Nat) := got 6 14 rfl (hall ⟨6, .data⟩ (by simp) rfl)
      go_simp
      refine ⟨trivial, hdd _, (callsIn_wide.2 (CI.out _)).mono ?_⟩
      rintro e w9 ⟨rfl, hb9⟩
      refine HKK.out _ _ _ (by rw [c1, c3, g13, g14]; rfl) (fun _ => rfl) ⟨HW.out.1.below hb9, HW.out.2.1, HW.out.2.2.1, ?_, ?_, HW.out.2.2.2.2.2⟩
      · intro h
        obtain ⟨X, q1, q2, q3⟩ := HW.out.2.2.2.1 h
        exact ⟨X, q1, q2, (hb9.block _ (Array.getElem?_eq_some_iff.1 q3).1).trans q3⟩
      · intro h
        obtain ⟨X, q1, q2, q3⟩ := HW.out.2.2.2.2.1 h
        exact ⟨X, q1, q2, (hb9.block _ (Array.getElem?_eq_some_iff.1 q3).1).trans q3⟩
    · cases ho
      have ns : b 10 = false := by
        cases h : b 10 with
        | false => rfl
        | true => rw [HW.out.2.1 h] at hbi; cases hbi
      have NS := hidMk ns
      clear ns
      go_simp
      refine HKK.out _ _ _ (by rw [c1, c3]; rfl) (fun _ => trivial) ⟨HW.out.1.alloc _, ?_, ?_, ?_, ?_, ?_⟩
      · intro _; rfl
      · exact HW.out.2.2.1
      · intro _
        refine ⟨w'.heap.size, rfl, HW.out.1.b.size, ?_⟩
        have e : (if upB b 8 10 = true then (#[.int .i64 x.re.n, .int .i64 UR] : Array Value) else #[.int .i64 0, .int .i64 0]) = #[.int .i64 0, .int .i64 0] := by simp [upB, NS.out]
        rw [e]
        exact heap_alloc_new w' _
      · intro h
        obtain ⟨X, q1, q2, q3⟩ := HW.out.2.2.2.2.1 h
        exact ⟨X, q1, q2, (Below.heap_alloc _ _ _ (Array.getElem?_eq_some_iff.1 q3).1).trans q3⟩
      · intro h4 h5 he
        obtain ⟨X, q1, q2, q3⟩ := HW.out.2.2.2.2.1 h5
        have he' : (.pointer (some ⟨w'.heap.size, 0, none⟩) : Value) = u 5 := he
        rw [q1] at he'
        have hlt := (Array.getElem?_eq_some_iff.1 q3).1
        simp at he'
        try omega
    · cases ho
      have ns : b 11 = false := by
        cases h : b 11 with
        | false => rfl
        | true => rw [HW.out.2.2.1 h] at hbi; cases hbi
      have NS := hidMk ns
      clear ns
      go_simp
      refine HKK.out _ _ _ (by rw [c1, c3]; rfl) (fun _ => trivial) ⟨HW.out.1.alloc _, ?_, ?_, ?_, ?_, ?_⟩
      · exact HW.out.2.1
      · intro _; rfl
      · intro h
        obtain ⟨X, q1, q2, q3⟩ := HW.out.2.2.2.1 h
        exact ⟨X, q1, q2, (Below.heap_alloc _ _ _ (Array.getElem?_eq_some_iff.1 q3).1).trans q3⟩
      · intro _
        refine ⟨w'.heap.size, rfl, HW.out.1.b.size, ?_⟩
        have e : (if upB b 9 11 = true then (#[.int .i64 x.im.n, .int .i64 UI] : Array Value) else #[.int .i64 0, .int .i64 0]) = #[.int .i64 0, .int .i64 0] := by simp [upB, NS.out]
        rw [e]
        exact heap_alloc_new w' _
      · intro h4 h5 he
        obtain ⟨X, q1, q2, q3⟩ := HW.out.2.2.2.1 h4
        have he' : u 4 = (.pointer (some ⟨w'.heap.size, 0, none⟩) : Value) := he
        rw [q1] at he'
        have hlt := (Array.getElem?_eq_some_iff.1 q3).1
        simp at he'
        try omega
    · cases ho
      have g11 : u 11 = .agg #[.int .i64 x.re.n, .int .i64 UR] := got 3 11 rfl (hall ⟨3, .data⟩ (by simp) rfl)
      obtain ⟨X, q1, q2, q3⟩ := HW.out.2.2.2.1 (hall ⟨8, .data⟩ (by simp) rfl)
      rw [if_neg (by rw [hbi]; decide)] at q3
      obtain ⟨s0, s1, f0, f1⟩ := two_cells q3
      have Q3 := hidMk q3
      have YA : Hid (b 8 = true) := hall ⟨8, .data⟩ (by simp) rfl
      clear q3
      go_simp
      refine HKK.out undef _ _ (by rw [c1, c3, g11, q1]; rfl) (fun h => by cases h) ⟨HW.out.1.two q2 _ _, ?_, ?_, ?_, ?_, HW.out.2.2.2.2.2⟩
      · exact fun _ => YA.out
      · exact HW.out.2.2.1
      · exact fun _ => ⟨X, q1, q2, two_set Q3.out _ _⟩
      · intro h
        obtain ⟨Y, y1, y2, y3⟩ := HW.out.2.2.2.2.1 h
        refine ⟨Y, y1, y2, ?_⟩
        have ne : Y ≠ X := fun e => HW.out.2.2.2.2.2 YA.out h (by rw [q1, y1, e])
        rw [two_other ne]
        exact y3
    · cases ho
      have g15 : u 15 = .agg #[.int .i64 x.im.n, .int .i64 UI] := got 7 15 rfl (hall ⟨7, .data⟩ (by simp) rfl)
      obtain ⟨X, q1, q2, q3⟩ := HW.out.2.2.2.2.1 (hall ⟨9, .data⟩ (by simp) rfl)
      rw [if_neg (by rw [hbi]; decide)] at q3
      obtain ⟨s0, s1, f0, f1⟩ := two_cells q3
      have Q3 := hidMk q3
      have YA : Hid (b 9 = true) := hall ⟨9, .data⟩ (by simp) rfl
      clear q3
      go_simp
      refine HKK.out undef _ _ (by rw [c1, c3, g15, q1]; rfl) (fun h => by cases h) ⟨HW.out.1.two q2 _ _, ?_, ?_, ?_, ?_, HW.out.2.2.2.2.2⟩
      · exact HW.out.2.1
      · exact fun _ => YA.out
      · intro h
        obtain ⟨Y, y1, y2, y3⟩ := HW.out.2.2.2.1 h
        refine ⟨Y, y1, y2, ?_⟩
        have ne : Y ≠ X := fun e => HW.out.2.2.2.2.2 h YA.out (by rw [q1, y1, e])
        rw [two_other ne]
        exact y3
      · exact fun _ => ⟨X, q1, q2, two_set Q3.out _ _⟩
    · simp at ho
  · intro b u w' hall hU hW
    obtain ⟨X, q1, q2, q3⟩ := hW.out.2.2.2.1 (hall 8 (by decide))
    obtain ⟨Y, y1, y2, y3⟩ := hW.out.2.2.2.2.1 (hall 9 (by decide))
    have hne := hW.out.2.2.2.2.2 (hall 8 (by decide)) (hall 9 (by decide))
    rw [if_pos (hall 10 (by decide))] at q3
    rw [if_pos (hall 11 (by decide))] at y3
    rw [q1, y1] at hne
    have hXY : X ≠ Y := fun e => hne (by rw [e])
    have hA : actOf 21 u = ⟨#[u 0, u 1, u 2, u 3, u 4, u 5, u 6, u 7, u 8, u 9, u 10, u 11, u 12, u 13, u 14, u 15, u 16, u 17, u 18, u 19, u 20], []⟩ := rfl
    have e0 : u 0 = .func (.yield l) #[] #[] := hU.oldB 0 (by kernel_rfl)
    have e1 : u 1 = .pointer (some ⟨bx, 0, none⟩) := hU.oldB 1 (by kernel_rfl)
    have e2 : u 2 = undef := hU.oldB 2 (by kernel_rfl)
    have e3 : u 3 = .int .i64 (U : Nat) := hU.oldB 3 (by kernel_rfl)
    have e6 : u 6 = .agg (numC x) := hU.oldB 6 (by kernel_rfl)
    have e7 : u 7 = .int .i64 (U : Nat) := hU.oldB 7 (by kernel_rfl)
    have e16 : u 16 = undef := hU.oldB 16 (by kernel_rfl)
    have e17 : u 17 = undef := hU.oldB 17 (by kernel_rfl)
    have e18 : u 18 = undef := hU.oldB 18 (by kernel_rfl)
    have e19 : u 19 = undef := hU.oldB 19 (by kernel_rfl)
    have e20 : u 20 = undef := hU.oldB 20 (by kernel_rfl)
    rw [hA, e0, e1, e2, e3, e6, e7, e16, e17, e18, e19, e20]
    clear hA e0 e1 e2 e3 e6 e7 e16 e17 e18 e19 e20
    rw [q1, y1]
    have HJ4 := hidMk (HJ.out 0 W3 w' HJ3.out (hW.out.1.b.mono HS3.out))
    clear hU hW hall q1 y1 HJ3 HX hne CR CI
    rw [← LS.out.1] at q3
    rw [← LS.out.2.1] at y3
    have hXW : W.heap.size ≤ X := by have := HS3.out; omega
    have hYW : W.heap.size ≤ Y := by have := HS3.out; omega
    have HQ3 := hidMk q3
    have HY3 := hidMk y3
    clear q2 q3 y2 y3 HS3
    gi_wp2_with fail
    refine loop_ghost (fun g a w1 => ∃ (j : Nat) (s16 s17 s18 s19 s20 : Value), Hid (j + g = N) ∧ Hid (J j w1) ∧ Hid (w1.heap[X]? = some (.cells #[.int .i64 (FR j), .int .i64 UR] 220 (0, 0))) ∧ Hid (w1.heap[Y]? = some (.cells #[.int .i64 (FI j), .int .i64 UI] 220 (0, 0))) ∧
      a = ⟨#[.func (.yield l) #[] #[], .pointer (some ⟨bx, 0, none⟩), undef, .int .i64 (U : Nat), .pointer (some ⟨X, 0, none⟩), .pointer (some ⟨Y, 0, none⟩), .agg (numC x), .int .i64 (U : Nat), u 8, u 9, u 10, u 11, u 12, u 13, u 14, u 15, s16, s17, s18, s19, s20], []⟩) N ⟨0, _, _, _, _, _, hidMk (Nat.zero_add N), HJ4.out, HQ3.out, HY3.out, rfl⟩ ?_
    rintro g a w1 ⟨j, s16, s17, s18, s19, s20, hg, hj, hX, hY, rfl⟩
    gi_wp2_with fail
    refine ⟨trivial, hdd _, (callsIn_wide.2 (next_any X (FR j) UR w1 hX.out hR.out (LR.out j))).mono ?_⟩
    rintro e w2 ⟨rfl, hX2, hg2⟩
    rw [LS.out.2.2.1 j] at hX2
    have HX2 := hidMk hX2
    have HY2 := hidMk ((hg2.block Y (Array.getElem?_eq_some_iff.1 hY.out).1 (fun e => hXY (Option.some.inj e).symm)).trans hY.out)
    have HJ2 := hidMk (HJ.out j w1 w2 hj.out (gb_to_below hg2 hXW (by have := (Array.getElem?_eq_some_iff.1 hX.out).1; omega)))
    clear hX2 hX hY hg2 hj
    gi_wp2_with fail
    refine ⟨trivial, hdd _, (callsIn_wide.2 (next_any Y (FI j) UI w2 HY2.out hI.out (LI.out j))).mono ?_⟩
    rintro e w3 ⟨rfl, hY3, hg3⟩
    rw [LS.out.2.2.2 j] at hY3
    have HY3' := hidMk hY3
    have HX3 := hidMk ((hg3.block X (Array.getElem?_eq_some_iff.1 HX2.out).1 (fun e => hXY (Option.some.inj e))).trans HX2.out)
    have HJ3 := hidMk (HJ.out j w2 w3 HJ2.out (gb_to_below hg3 hYW (by have := (Array.getElem?_eq_some_iff.1 HY2.out).1; omega)))
    clear hY3 HX2 HY2 hg3 HJ2
    obtain ⟨fn, tmps, assign, body, hy, hRR⟩ := HY.out j w3 HJ3.out
    unfold flV
    generalize bF (dg (FR j) UR) = BR at *
    generalize bF (dg (FI j) UI) = BI at *
    have HRR := hidMk hRR
    clear hRR
    gi_wp2_with fail
    refine ⟨hdd _, HRR.out.mono ?_⟩
    rintro e w4 (⟨rfl, hJ4, ha4⟩ | ⟨rfl, hx4⟩)
    · have HN4 := hidMk (HN.out _ _ hJ4)
      have HX4 := hidMk ((ha4.same X hXW (Array.getElem?_eq_some_iff.1 HX3.out).1).trans HX3.out)
      have HY4 := hidMk ((ha4.same Y hYW (Array.getElem?_eq_some_iff.1 HY3'.out).1).trans HY3'.out)
      have HJ5 := hidMk hJ4
      clear hJ4 ha4 HX3 HY3' HRR hy
      gi_wp2_with fail
      refine ⟨g - 1, by have := hg.out; have := HN4.out; omega, j + 1, _, _, _, _, _, hidMk (by have := hg.out; have := HN4.out; omega), HJ5.out, HX4.out, HY4.out, rfl⟩
    · have HX5 := hidMk hx4
      clear hx4 HX3 HY3' HRR hy
      gi_wp2_with fail
      go_end0
      exact ⟨⟨_, rfl⟩, _, HX5.out⟩

set_option maxHeartbeats 1000000 in
theorem digits_in (n : Nat) (x : Num) (w : World) :
    CallsIn Fence.wide n Tryz.prog 71 #[.agg (numC x)] w fun e w' => e = .returned (.func (.func 106) #[] #[.pointer (some ⟨w.heap.size, 0, none⟩)]) ∧ w' = w.alloc (.cells (numC x) 82) := by
  have hro : Fence.wide.round = none := rfl
  refine callsIn_of_wp Tryz.func71 rfl trivial ?_ hro
  simp only [Tryz.ntmps71, List.size_toArray, List.length_cons, List.length_nil, Nat.reduceAdd, Nat.reduceSub, Array.replicate_succ, Array.replicate_zero, List.push_toArray, List.append_toArray, List.nil_append, List.cons_append]
  gi_wp2
  go_ret
  exact ⟨rfl, rfl⟩
theorem digits_st (n bx N : Nat) (x : Num) (w : World) (hx : x.Ok) (hb : w.heap[bx]? = some (.cells (numC x) 82 (0, 0))) :
    SeqSt Fence.wide n Tryz.prog 106 #[.pointer (some ⟨bx, 0, none⟩)] (fun j => #[cxV x j]) N w := fun l J Jx W hW hJ hJx hN hY h0 =>
  digits1_in n l bx N x J Jx W hx ((hW.block _ (Array.getElem?_eq_some_iff.1 hb).1).trans hb) hJ hN hY h0
end Go.Proofs.YtodabmkcihafhaaGreatDoor

/- Digits: the program's firstDigits. -/
namespace Go.Proofs.YtodabmkcihafhaaGreatDoor
open Go.RowKit Go.Shelf
attribute [local go_sem] Oper.semAt_some
set_option linter.unusedVariables false
theorem cv_bits (c : Int) (h : c = 1 ∨ c = -1 ∨ c = 0) (W : World) : (convert 156 3 (.float .f64 (bF c))).run Tryz.prog W = .ok (.int .i64 c) W := by
  have h1 : (convert 156 3 (.float .f64 (bF c))).run Tryz.prog W = (Conv.floatToInt .f64 (bF c) .i64).run Tryz.prog W := by
    unfold convert
    simp [run_underlying Tryz.underlying156, run_underlying Tryz.underlying3, Result.andThen]
  rw [h1]
  rcases h with rfl | rfl | rfl
  · have e : (FloatKind.f64.decode (bF 1)).toInt .zero = some 1 := by decide +kernel
    unfold Conv.floatToInt
    rw [e]
    rfl
  · have e : (FloatKind.f64.decode (bF (-1))).toInt .zero = some (-1) := by decide +kernel
    unfold Conv.floatToInt
    rw [e]
    rfl
  · have e : (FloatKind.f64.decode (bF 0)).toInt .zero = some 0 := by decide +kernel
    unfold Conv.floatToInt
    rw [e]
    rfl
/-- The digits of a number: both parts. -/
def dR (x : Num) (j : Nat) : Int := dg (lf x.re.n (unD x.re (unitP x)) j) (unD x.re (unitP x))
def dI (x : Num) (j : Nat) : Int := dg (lf x.im.n (unD x.im (unitP x)) j) (unD x.im (unitP x))
def digP (x : Num) (k : Nat) : List (Int × Int) := (List.range k).map fun j => (dR x j, dI x j)
def dpC (l : List (Int × Int)) : List Value := l.flatMap fun p => [.int .i64 p.1, .int .i64 p.2]
theorem digP_succ (x : Num) (k : Nat) : digP x (k + 1) = digP x k ++ [(dR x k, dI x k)] := by
  unfold digP
  rw [List.range_succ, List.map_append]
  rfl
theorem dpC_snoc (l : List (Int × Int)) (a b : Int) : dpC (l ++ [(a, b)]) = dpC l ++ [.int .i64 a, .int .i64 b] := by simp [dpC]
theorem Tryz.infoDigit : (Tryz.prog.info? 54).map (fun i => (i.zero, i.size, i.bytes)) = some (some (.agg #[.int .i64 0, .int .i64 0]), 2, 16) := by kernel_rfl
theorem dp_one (a b : Int) : ∀ u ∈ [Value.int .i64 a, .int .i64 b], u.oneCell' = true := by
  intro u hu
  simp at hu
  rcases hu with rfl | rfl <;> rfl
theorem dp_new (w : World) (a b : Int) : ∀ j u, [Value.int .i64 a, .int .i64 b][j]? = some u → (w.alloc (.cells #[.int .i64 a, .int .i64 b] 54)).cell? ((⟨w.heap.size, 0, none⟩ : Addr).add j) = some u := by
  refine World.news_of_block (cs := #[.int .i64 a, .int .i64 b]) (t := 54) (fr := (0, 0)) ?_
  exact heap_alloc_new w _
/-- The loop's world, j digits told. -/
structure FD (x : Num) (k : Nat) (w : World) (bd : Nat) (j : Nat) (W : World) : Prop where
  hk : W.heap[w.heap.size + 1]? = some (.cells #[.int .i64 k] 3 (0, 0))
  lt : w.heap.size + 1 + 1 < bd
  hd : W.heap[bd]? = some (.cells #[.slice (some ⟨w.heap.size + 1 + 1, 0, none⟩) j k] 49 (0, 0))
  row : W.ownsRow w.heap.size 54 2 (.slice (some ⟨w.heap.size + 1 + 1, 0, none⟩) j k) j (dpC (digP x j))
  hb : Below w.heap.size w W
  le : j ≤ k
theorem FD.mv {x : Num} {k : Nat} {w : World} {bd j : Nat} {W W' : World} {B : Nat} (h : FD x k w bd j W) (hB : bd < B) (g : Below B W W') : FD x k w bd j W' := by
  have hlt := h.lt
  refine ⟨(g.block _ (by omega)).trans h.hk, hlt, (g.block _ (by omega)).trans h.hd, ?_, h.hb.trans (g.mono (by omega)), h.le⟩
  obtain ⟨h1, h2⟩ := h.row
  refine ⟨h1, ?_⟩
  rcases h2 with ⟨h2, _⟩ | ⟨b, cap, cur, e1, e2, e3, e4, e5, e6, e7⟩
  · cases h2
  · have e1' := e1
    simp only [Value.slice.injEq, Option.some.injEq, Addr.mk.injEq, and_true, true_and] at e1'
    obtain ⟨rfl, rfl⟩ := e1'
    exact Or.inr ⟨_, _, cur, rfl, e2, (g.block _ (by omega)).trans e3, e4, e5, e6, e7⟩
theorem fd_box {x : Num} {k : Nat} {w : World} {bd j : Nat} {W w3 : World} {o : Obj} (h : FD x k w bd j W) (g : (W.alloc o).grownBy w3 (some (w.heap.size + 1 + 1))) :
    w3.heap[bd]? = some (.cells #[.slice (some ⟨w.heap.size + 1 + 1, 0, none⟩) j k] 49 (0, 0)) := by
  have hlt := (Array.getElem?_eq_some_iff.1 h.hd).1
  have := h.lt
  rw [g.block bd (by simp; omega) (fun e => by have := Option.some.inj e; omega), Below.heap_alloc _ _ _ hlt]
  exact h.hd
theorem fd_step {x : Num} {k : Nat} {w : World} {bd j : Nat} {W w3 : World} {o : Obj} {A B : Int} {M : Nat} (h : FD x k w bd j W) (hM : bd < M) (hP : digP x (j + 1) = digP x j ++ [(A, B)])
    (hown : w3.ownsRow w.heap.size 54 2 (.slice (some ⟨w.heap.size + 1 + 1, 0, none⟩) (j + 1) k) (j + 1) (dpC (digP x j) ++ [.int .i64 A, .int .i64 B]))
    (g : (W.alloc o).grownBy w3 (some (w.heap.size + 1 + 1))) (hd : w3.heap[bd]? = some (.cells #[.slice (some ⟨w.heap.size + 1 + 1, 0, none⟩) j k] 49 (0, 0))) (hj : j + 1 ≤ k) :
    Abv M W (w3.setCell ⟨bd, 0, none⟩ (.slice (some ⟨w.heap.size + 1 + 1, 0, none⟩) (j + 1) k)) ∧ FD x k w bd (j + 1) (w3.setCell ⟨bd, 0, none⟩ (.slice (some ⟨w.heap.size + 1 + 1, 0, none⟩) (j + 1) k)) := by
  have hlt := h.lt
  have hsz := g.size
  simp at hsz
  refine ⟨⟨by simp; omega, fun i h1 h2 => ?_⟩, ?_, hlt, one_set hd _, ?_, ?_, hj⟩
  · rw [Below.heap_setCell _ _ _ _ (by simp; omega), g.block i (by simp; omega) (fun e => by have := Option.some.inj e; omega), Below.heap_alloc _ _ _ h2]
  · have h2 := (Array.getElem?_eq_some_iff.1 h.hk).1
    rw [Below.heap_setCell _ _ _ _ (by simp; omega), g.block _ (by simp; omega) (fun e => by have := Option.some.inj e; omega), Below.heap_alloc _ _ _ h2]
    exact h.hk
  · rw [hP, dpC_snoc]
    obtain ⟨h1, h2⟩ := hown
    refine ⟨h1, ?_⟩
    rcases h2 with ⟨h2, _⟩ | ⟨b, cap, cur, e1, e2, e3, e4, e5, e6, e7⟩
    · cases h2
    · have e1' := e1
      simp only [Value.slice.injEq, Option.some.injEq, Addr.mk.injEq, and_true, true_and] at e1'
      obtain ⟨rfl, rfl⟩ := e1'
      refine Or.inr ⟨_, _, cur, rfl, e2, ?_, e4, e5, e6, e7⟩
      rw [Below.heap_setCell _ _ _ _ (by simp; omega)]
      exact e3
  · exact ((h.hb.alloc h.hb.size o).grown g (by have := h.hb.size; simp; omega) (fun i e => by cases e; omega)).setCell (p := ⟨bd, 0, none⟩) (by simp; omega) _
set_option maxHeartbeats 4000000 in
set_option maxRecDepth 100000 in
theorem first_any (x : Num) (k : Nat) (w : World) (hx : x.Ok) (hk : k ≤ 20) :
    Calls Tryz.prog 46 #[.agg (numC x), .int .i64 k] w fun e w' => e = .returned (.slice (some ⟨w.heap.size + 1 + 1, 0, none⟩) k k) ∧ w'.ownsRow w.heap.size 54 2 (.slice (some ⟨w.heap.size + 1 + 1, 0, none⟩) k k) k (dpC (digP x k)) ∧ Below w.heap.size w w' := by
  refine (callsIn_wide (n := 5)).1 ?_
  have hro : Fence.wide.round = none := rfl
  have hdd : ∀ k : Nat, (Fence.wide.depth.isSome = true → 1 ≤ k) := fun k h => by cases h
  obtain ⟨i0, hi, hz0, hz1, hz2⟩ := info_parts Tryz.infoDigit
  have Hi : Hid (Tryz.prog.info? 54 = some i0) := hi
  have Hz : Hid (i0.zero = some (.agg #[.int .i64 0, .int .i64 0])) := hz0
  have Hz1 : Hid (i0.size = 2) := hz1
  have Hz2 : Hid (i0.bytes = 16) := hz2
  clear hi hz0 hz1 hz2
  have C1 := digits_in 4 x
  refine callsIn_of_wp_marks Tryz.func46 rfl trivial ?_ hro
  simp only [Tryz.ntmps46, List.size_toArray, List.length_cons, List.length_nil, Nat.reduceAdd, Nat.reduceSub, Array.replicate_succ, Array.replicate_zero, List.push_toArray, List.append_toArray, List.nil_append, List.cons_append]
  obtain ⟨w2, hmk, hown, hgr⟩ := run_make_own (P := Tryz.prog) ((w.alloc (.cells (numC x) 82)).alloc (.cells #[.int .i64 k] 3)) w.heap.size 49 54 i0 _ 2 Tryz.underlying49 Hi.out Hz.out Hz1.out .i64 .i64 k (by rw [Hz2.out]; omega) (by unfold maxLen; omega) (by simp; omega)
  have hk2 : w2.heap[w.heap.size + 1]? = some (.cells #[.int .i64 k] 3 (0, 0)) := by
    rw [hgr.block _ (by simp) (by simp)]
    have := heap_alloc_new (w.alloc (.cells (numC x) 82)) (.cells #[.int .i64 k] 3)
    simpa using this
  have hx2 : w2.heap[w.heap.size]? = some (.cells (numC x) 82 (0, 0)) := by
    rw [hgr.block _ (by simp; omega) (by simp), Below.heap_alloc _ _ _ (by simp)]
    exact heap_alloc_new w _
  have hb2 : Below w.heap.size w w2 := (((Below.refl _ w).alloc (Nat.le_refl _) _).alloc (by simp) _).grown hgr (by simp; omega) (fun k e => by cases e)
  have hs2 : w.heap.size + 1 + 1 < w2.heap.size := by
    have := (hown.lt _ rfl).2
    simpa using this
  simp only [World.size_alloc] at hmk hown
  gi_upto_region 2 with fail
  have hx3 := (Below.heap_alloc w2 (.cells #[.slice (some ⟨w.heap.size + 1 + 1, 0, none⟩) 0 k] 49) _ (Array.getElem?_eq_some_iff.1 hx2).1).trans hx2
  have h3 : FD x k w w2.heap.size 0 (w2.alloc (.cells #[.slice (some ⟨w.heap.size + 1 + 1, 0, none⟩) 0 k] 49)) :=
    ⟨(Below.heap_alloc w2 _ _ (Array.getElem?_eq_some_iff.1 hk2).1).trans hk2, hs2, heap_alloc_new w2 _, hown.alloc _, hb2.alloc hb2.size _, Nat.zero_le _⟩
  have hs3 : w2.heap.size < (w2.alloc (.cells #[.slice (some ⟨w.heap.size + 1 + 1, 0, none⟩) 0 k] 49)).heap.size := by simp
  generalize w2.alloc _ = W3 at *
  generalize w2.heap.size = bd at *
  obtain ⟨x0, x1, x2, x3⟩ := four_cells hx3
  have H3 := hidMk h3
  have HX3 := hidMk hx3
  clear hx2 hx3 hk2 hb2 hs2 hown hmk hgr h3
  gi_wp2_with fail
  refine ⟨trivial, (C1 _).mono ?_⟩
  rintro e w4 ⟨rfl, rfl⟩
  have hx4 := heap_alloc_new W3 (.cells (numC x) 82)
  have h4 := H3.out.mv hs3 ((fr_below W3 (.cells (numC x) 82)).mono (Nat.le_refl _))
  have hs4 : bd < (W3.alloc (.cells (numC x) 82)).heap.size := by simp; omega
  generalize W3.alloc _ = W4 at *
  generalize W3.heap.size = bx at *
  have CS := hidMk (digits_st 4 bx k x W4 hx hx4)
  have H4 := hidMk h4
  clear x0 x1 x2 x3 H3 HX3 hs3 h4 hx4 C1
  gi_wp2_with fail
  have put : ∀ (A : World) (l : Nat) (o o' : Obj), W4.heap.size ≤ l → A.heap[l]? = some o → Below W4.heap.size A (A.putObj l o') := fun A l o o' hl h =>
    (Below.refl _ A).grown (grownBy_putObj' A l o') (by have := (Array.getElem?_eq_some_iff.1 h).1; omega) (fun k e => by cases e; omega)
  refine wpIn_rangeSt (F := Fence.wide) (n := 5) hro (by decide) (gf := 106) (lb := #[.pointer (some ⟨bx, 0, none⟩)]) rfl trivial (enters_of Tryz.func106 (by kernel_rfl) rfl)
    CS.out (Below.refl _ _) (fun _ => rfl) (fun j W => FD x k w bd j W) (fun c W => c = .exit 0 ∧ FD x k w bd k W)
    (fun j A A' h g => h.mv hs4 g) (fun c A A' h g => ⟨h.1, h.2.mv hs4 g⟩) (fun j A h => h.le) H4.out
    (fun j => { tmps := #[.agg (numC x), .int .i64 k, .pointer (some ⟨w.heap.size, 0, none⟩), .pointer (some ⟨w.heap.size + 1, 0, none⟩), .slice none 0 0, .pointer (some ⟨bd, 0, none⟩), cxV x j, .int .i64 k, .slice (some ⟨w.heap.size + 1 + 1, 0, none⟩) 0 k, .agg (numC x), .func (.func 106) #[] #[.pointer (some ⟨bx, 0, none⟩)], cxV x j, undef, undef, undef, undef, undef, undef, undef, undef, undef, undef, undef, undef, undef, undef, undef], defers := [] }) ?assign ?body ?stop
  case assign =>
    intro l j W K hK
    gi_wp2
    exact hK
  case body =>
    intro l j W hI
    have hc1 := cv_bits (dR x j) (dg_in _ _)
    have hc2 := cv_bits (dI x j) (dg_in _ _)
    have hcx : cxV x j = .complex .f64 (bF (dR x j)) (bF (dI x j)) := rfl
    rw [hcx]
    have hks := hI.hk
    have k0 := one_cell hI.hk
    have d0 := one_cell hI.hd
    have f0 := one_frozen hI.hd
    have HI := hidMk hI
    have hle := hI.le
    have HP := hidMk (digP_succ x j)
    generalize dR x j = A at *
    generalize dI x j = B at *
    clear hcx hI hks CS H4
    by_cases hj : j = k
    · subst hj
      gi_wp2
      exact ⟨⟨Nat.le_refl _, fun _ _ _ => rfl⟩, rfl, HI.out⟩
    · have hjk : ((j : Int) == (k : Int)) = false := by simp; omega
      gi_wp2_with (gi_at_builtin; refine wpListIn_append_fits _ rfl _ _ 49 rfl w.heap.size 54 i0 2 Tryz.underlying49 Hi.out Hz1.out (w.heap.size + 1 + 1) j k (dpC (digP x j)) rfl (HI.out.row.alloc _) ⟨W.heap.size, 0, none⟩ 1 1 [.int .i64 A, .int .i64 B] rfl rfl (dp_new W A B) (dp_one A B) (by omega) ?_; intro w3 hown' hgrow3; have hd3 := fd_box HI.out hgrow3; have d3 := one_cell hd3; have f3 := one_frozen hd3)
      have HW4 := hidMk hown'
      have HG3 := hidMk hgrow3
      have HD3 := hidMk hd3
      clear hown' hgrow3 hd3
      have HS := hidMk (fd_step HI.out hs4 (A := A) (B := B) HP.out HW4.out HG3.out HD3.out (by omega))
      exact HS.out
  case stop =>
    rintro D c W hD ⟨rfl, hI⟩ hK
    have hb := put W D _ (.deferred none) hD hK
    have d0 := one_cell hI.hd
    have HI := hidMk (hI.mv hs4 hb)
    clear hI hb
    gi_wp2
    refine ⟨by simp, .inl ⟨_, _, rfl, run_takeDeferred hK, ?_⟩⟩
    exact ⟨_, results_tmp rfl _ _ _, rfl, HI.out.row, HI.out.hb⟩
end Go.Proofs.YtodabmkcihafhaaGreatDoor

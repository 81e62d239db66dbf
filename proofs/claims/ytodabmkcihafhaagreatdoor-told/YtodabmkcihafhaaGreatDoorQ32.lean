import Derived.BigQuiet
import Derived.RangeFuncNested
import Derived.RangeFuncBound
import Derived.RangeFuncCalls
import Derived.RangeFuncLeaves
import Derived.Shelf.Abstract
import Derived.Shelf.RegionOpen
import Derived.WalkKit
import Derived.OwnWalkIn
import Derived.TacticsInMore
import Derived.LoopNIn
import Derived.LoopIn
import Derived.Test.YtodabmkcihafhaaGreatDoorQ30
import Derived.Test.YtodabmkcihafhaaGreatDoorQ9

/- Digits: the pure side. -/
namespace Go.Proofs.YtodabmkcihafhaaGreatDoor
open Go.RowKit
set_option linter.unusedVariables false

/-- One digit of n by d, and what is left. -/
def dg (n d : Int) : Int := if 2 * (2 * n) > d then 1 else if 2 * (2 * n) < -d then -1 else 0
def nx (n d : Int) : Int := 2 * n - dg n d * d
def lf (n d : Int) : Nat → Int
  | 0 => n
  | j + 1 => nx (lf n d j) d
theorem dg_cases (n d : Int) (hd : 0 < d) : (2 * (2 * n) > d ∧ dg n d = 1 ∧ nx n d = 2 * n - d) ∨ (¬ 2 * (2 * n) > d ∧ 2 * (2 * n) < -d ∧ dg n d = -1 ∧ nx n d = 2 * n + d) ∨ (¬ 2 * (2 * n) > d ∧ ¬ 2 * (2 * n) < -d ∧ dg n d = 0 ∧ nx n d = 2 * n) := by
  unfold nx
  by_cases h1 : 2 * (2 * n) > d
  · have : dg n d = 1 := if_pos h1
    exact Or.inl ⟨h1, this, by rw [this]; omega⟩
  · by_cases h2 : 2 * (2 * n) < -d
    · have : dg n d = -1 := (if_neg h1).trans (if_pos h2)
      exact Or.inr (Or.inl ⟨h1, h2, this, by rw [this]; omega⟩)
    · have : dg n d = 0 := (if_neg h1).trans (if_neg h2)
      exact Or.inr (Or.inr ⟨h1, h2, this, by rw [this]; omega⟩)
theorem nx_in {n d : Int} (hd : 0 < d) (h : -d ≤ n ∧ n ≤ d) : -d ≤ nx n d ∧ nx n d ≤ d := by
  rcases dg_cases n d hd with ⟨h1, _, h3⟩ | ⟨h1, h2, _, h3⟩ | ⟨h1, h2, _, h3⟩ <;> rw [h3] <;> omega
theorem lf_in {n d : Int} (hd : 0 < d) (h : -d ≤ n ∧ n ≤ d) : ∀ j, -d ≤ lf n d j ∧ lf n d j ≤ d
  | 0 => h
  | j + 1 => nx_in hd (lf_in hd h j)
/-- The unit of a number: the least e. -/
def fitB (f : Fr) (e : Nat) : Bool := decide (-(f.d * 2 ^ e) ≤ f.n) && decide (f.n ≤ f.d * 2 ^ e)
def unitP (x : Num) : Nat := ((List.range 21).find? fun e => fitB x.re e && fitB x.im e).getD 0
theorem pow20 (e : Nat) (h : e ≤ 20) : (1 : Int) ≤ 2 ^ e ∧ (2 : Int) ^ e ≤ 1048576 := pow_le20 h
theorem fit20 {f : Fr} (hf : f.Ok) : fitB f 20 = true := by
  obtain ⟨d1, d2, n1, n2, _⟩ := hf
  unfold fitB
  have : (2 : Int) ^ 20 = 1048576 := by decide
  rw [this]
  simp
  omega
theorem unit_is {x : Num} {e : Nat} (he : e ≤ 20) (h1 : fitB x.re e = true ∧ fitB x.im e = true) (h2 : ∀ j < e, ¬ (fitB x.re j = true ∧ fitB x.im j = true)) : unitP x = e := by
  have : (List.range 21).find? (fun e => fitB x.re e && fitB x.im e) = some e := by
    rw [List.find?_range_eq_some]
    refine ⟨by simp [h1.1, h1.2], by simp; omega, fun j hj => ?_⟩
    have := h2 j hj
    revert this
    cases fitB x.re j <;> cases fitB x.im j <;> simp
  unfold unitP
  rw [this]
  rfl
theorem unit_fit {x : Num} (hx : x.Ok) : unitP x ≤ 20 ∧ fitB x.re (unitP x) = true ∧ fitB x.im (unitP x) = true ∧ ∀ j < unitP x, ¬ (fitB x.re j = true ∧ fitB x.im j = true) := by
  unfold unitP
  cases h : (List.range 21).find? (fun e => fitB x.re e && fitB x.im e) with
  | none =>
    rw [List.find?_eq_none] at h
    have := h 20 (by simp)
    simp [fit20 hx.1, fit20 hx.2] at this
  | some e =>
    rw [List.find?_range_eq_some] at h
    obtain ⟨h1, h2, h3⟩ := h
    simp at h1 h2
    refine ⟨by simp; omega, by simpa using h1.1, by simpa using h1.2, fun j hj => ?_⟩
    have := h3 j (by simpa using hj)
    revert this
    cases fitB x.re j <;> cases fitB x.im j <;> simp
/-- The unit's denominator of a part. -/
def unD (f : Fr) (e : Nat) : Int := f.d * 2 ^ e
theorem unD_in {f : Fr} (hf : f.Ok) {e : Nat} (he : e ≤ 20) : 0 < unD f e ∧ unD f e ≤ 1048574951424 := by
  obtain ⟨p1, p2⟩ := pow20 e he
  obtain ⟨d1, d2, _⟩ := hf
  unfold unD
  have h1 := Int.mul_le_mul d2 p2 (by omega) (by omega : (0 : Int) ≤ 999999)
  have h2 := Int.mul_pos d1 (by omega : (0 : Int) < 2 ^ e)
  omega
theorem fit_in {f : Fr} {e : Nat} (h : fitB f e = true) : -(unD f e) ≤ f.n ∧ f.n ≤ unD f e := by
  unfold fitB at h
  unfold unD
  simpa using h
/-- The digits of a part. -/
def digL (f : Fr) (e k : Nat) : List Int := (List.range k).map fun j => dg (lf f.n (unD f e) j) (unD f e)
theorem digL_succ (f : Fr) (e k : Nat) : digL f e (k + 1) = digL f e k ++ [dg (lf f.n (unD f e) k) (unD f e)] := by
  unfold digL
  rw [List.range_succ, List.map_append]
  rfl
theorem digL_len (f : Fr) (e k : Nat) : (digL f e k).length = k := by simp [digL]
theorem digL_get (f : Fr) (e k j : Nat) (h : j < k) : (digL f e k)[j]? = some (dg (lf f.n (unD f e) j) (unD f e)) := by
  simp [digL, List.getElem?_range h]
theorem dg_in (n d : Int) : dg n d = 1 ∨ dg n d = -1 ∨ dg n d = 0 := by
  unfold dg
  split
  · exact Or.inl rfl
  · split
    · exact Or.inr (Or.inl rfl)
    · exact Or.inr (Or.inr rfl)

/-! ### The program's unit -/
set_option maxHeartbeats 1000000 in
theorem within_any (f : Fr) (e : Nat) (w : World) (hf : f.Ok) (he : e ≤ 20) : Calls Tryz.prog 70 #[.agg #[.int .i64 f.n, .int .i64 f.d], .int .i64 e] w fun r w' => r = .returned (.bool (fitB f e)) ∧ Below w.heap.size w w' := by
  obtain ⟨p1, p2⟩ := pow20 e he
  obtain ⟨u1, u2⟩ := unD_in hf he
  have wM : wrap64 (f.d * 2 ^ e) = unD f e := by show wrap64 (unD f e) = _; unfold wrap64; omega
  have wN : wrap64 (-(unD f e)) = -(unD f e) := by unfold wrap64; omega
  have HV : Hid (fitB f e = (decide (-(unD f e) ≤ f.n) && decide (f.n ≤ unD f e))) := rfl
  obtain ⟨d1, d2, n1, n2, _⟩ := hf
  have hx := heap_alloc_new w (.cells #[.int .i64 f.n, .int .i64 f.d] 80)
  have hb := fr_below w (.cells #[.int .i64 f.n, .int .i64 f.d] 80)
  generalize fitB f e = FB at *
  go_enter Tryz.func70, Tryz.ntmps70
  go_upto_region 1 with fail
  generalize w.alloc _ = W at *
  obtain ⟨c0, c1, _, _⟩ := two_cells hx
  generalize unD f e = U at *
  generalize f.n = fn at *
  generalize f.d = fd at *
  clear hx
  go_upto_region 2 with fail
  rw [wM]
  clear wM
  by_cases h1 : -U ≤ fn
  · by_cases h2 : fn ≤ U
    · go_wp2_with fail
      go_ret
      exact ⟨by rw [HV.out]; simp [h1, h2], hb⟩
    · go_wp2_with fail
      go_ret
      exact ⟨by rw [HV.out]; simp [h1, h2], hb⟩
  · go_wp2_with fail
    go_ret
    exact ⟨by rw [HV.out, decide_eq_false (show ¬ -U ≤ fn by omega)]; rfl, hb⟩

set_option maxHeartbeats 2000000 in
theorem exponent_any (x : Num) (w : World) (hx : x.Ok) : Calls Tryz.prog 45 #[.agg (numC x)] w fun r w' => r = .returned (.int .i64 (unitP x : Nat)) ∧ Below w.heap.size w w' := by
  have CR := hidMk (fun e W he => within_any x.re e W hx.1 he)
  have CI := hidMk (fun e W he => within_any x.im e W hx.2 he)
  obtain ⟨q1, q2, q3, q4⟩ := unit_fit hx
  have HU := hidMk (show fitB x.re 20 = true ∧ fitB x.im 20 = true from ⟨fit20 hx.1, fit20 hx.2⟩)
  have HI := hidMk (fun e he h1 h2 => unit_is (x := x) (e := e) he h1 h2)
  have hx0 := heap_alloc_new w (.cells (numC x) 82)
  have hb := fr_below w (.cells (numC x) 82)
  clear hx q1 q2 q3 q4
  generalize unitP x = V at *
  go_enter Tryz.func45, Tryz.ntmps45
  go_upto_region 1 with fail
  generalize w.alloc _ = W at *
  have HX := hidMk hx0
  have HB := hidMk hb
  clear hx0 hb
  go_wp2_with fail
  go_loopg [3] 21 (fun g s3 wr => ∃ e : Nat, s3 = .int .i64 e ∧ e ≤ 20 ∧ Hid (e + g = 21) ∧ Hid (∀ j < e, ¬ (fitB x.re j = true ∧ fitB x.im j = true)) ∧ Hid (wr.heap[w.heap.size]? = some (.cells (numC x) 82 (0, 0)) ∧ Below w.heap.size w wr))
  case atStart =>
    exact ⟨0, rfl, by omega, rfl, fun j hj => by omega, HX.out, HB.out⟩
  case round =>
    obtain ⟨e, rfl, he, hg, hno, hw⟩ := hrel
    obtain ⟨c0, c1, c2, c3⟩ := four_cells hw.out.1
    have cr := CR.out e wr he
    cases hf1 : fitB x.re e with
    | false =>
      rw [hf1] at cr
      have HN : Hid (e + 1 ≤ 20 ∧ ∀ j < e + 1, ¬ (fitB x.re j = true ∧ fitB x.im j = true)) := by
        refine ⟨?_, fun j hj => ?_⟩
        · have := HU.out.1
          by_cases h20 : e = 20
          · subst h20; rw [hf1] at this; cases this
          · omega
        · by_cases hje : j = e
          · subst hje; rw [hf1]; simp
          · exact hno.out j (by omega)
      clear hf1
      go_wp2_with (go_at_call 70; refine cr.mono ?_; clear cr; rintro r w1 ⟨rfl, hb1⟩)
      go_roundg (20 - e)
      case measure => have := hg.out; omega
      case rel => exact ⟨e + 1, rfl, HN.out.1, by have := HN.out.1; show _ = _; omega, HN.out.2, (hb1.block _ (Array.getElem?_eq_some_iff.1 hw.out.1).1).trans hw.out.1, hw.out.2.trans (hb1.mono hw.out.2.size)⟩
    | true =>
      rw [hf1] at cr
      go_wp2_with fail
      refine cr.mono ?_
      clear cr
      rintro r w1 ⟨rfl, hb1⟩
      have hw1 : Hid (w1.heap[w.heap.size]? = some (.cells (numC x) 82 (0, 0)) ∧ Below w.heap.size w w1) := ⟨(hb1.block _ (Array.getElem?_eq_some_iff.1 hw.out.1).1).trans hw.out.1, hw.out.2.trans (hb1.mono hw.out.2.size)⟩
      clear hw c0 c1 c2 c3 hb1
      obtain ⟨c0, c1, c2, c3⟩ := four_cells hw1.out.1
      have ci := CI.out e w1 he
      cases hf2 : fitB x.im e with
      | false =>
        rw [hf2] at ci
        have HN : Hid (e + 1 ≤ 20 ∧ ∀ j < e + 1, ¬ (fitB x.re j = true ∧ fitB x.im j = true)) := by
          refine ⟨?_, fun j hj => ?_⟩
          · have := HU.out.2
            by_cases h20 : e = 20
            · subst h20; rw [hf2] at this; cases this
            · omega
          · by_cases hje : j = e
            · subst hje; rw [hf2]; simp
            · exact hno.out j (by omega)
        clear hf1 hf2
        go_wp2_with fail
        refine ci.mono ?_
        clear ci
        rintro r w2 ⟨rfl, hb2⟩
        go_wp2_with fail
        go_roundg (20 - e)
        case measure => have := hg.out; omega
        case rel => exact ⟨e + 1, rfl, HN.out.1, by have := HN.out.1; show _ = _; omega, HN.out.2, (hb2.block _ (Array.getElem?_eq_some_iff.1 hw1.out.1).1).trans hw1.out.1, hw1.out.2.trans (hb2.mono hw1.out.2.size)⟩
      | true =>
        rw [hf2] at ci
        have HV : Hid (V = e) := HI.out e he ⟨hf1, hf2⟩ hno.out
        clear hf1 hf2
        go_wp2_with fail
        refine ci.mono ?_
        clear ci
        rintro r w2 ⟨rfl, hb2⟩
        go_wp2_with fail
        go_ret
        exact ⟨by rw [HV.out]; rfl, hw1.out.2.trans (hb2.mono hw1.out.2.size)⟩
end Go.Proofs.YtodabmkcihafhaaGreatDoor

/- Digits: the document's unit and digits. -/
namespace Go.Proofs.YtodabmkcihafhaaGreatDoor
open Go.RowKit
set_option linter.unusedVariables false
theorem fit_abs (f : Fr) (e : Nat) : fitB f e = !(decide ((f.n.natAbs : Int) > 2 ^ e * f.d)) := by
  unfold fitB
  rw [Int.mul_comm f.d]
  generalize (2 : Int) ^ e * f.d = U
  by_cases h1 : -U ≤ f.n
  · by_cases h2 : f.n ≤ U
    · have : ¬ ((f.n.natAbs : Int) > U) := by omega
      simp [h1, h2, this]
    · have : ((f.n.natAbs : Int) > U) := by omega
      simp [h1, h2, this]
  · have : ((f.n.natAbs : Int) > U) := by omega
    simp [h1, this]
set_option maxHeartbeats 4000000 in
theorem runit_any (x : Num) (w : World) (hx : x.Ok) : Calls Tryz.prog 104 #[.agg (numC x)] w fun r w' => r = .returned (.int .i64 (unitP x : Nat)) ∧ Below w.heap.size w w' := by
  have CA : Hid (∀ W, Calls Tryz.prog 88 #[.int .i64 x.re.n] W fun e w' => e = .returned (.int .i64 x.re.n.natAbs) ∧ ∃ n, w' = W.drewN n) := fun W => (rabs_any x.re.n W (by have := hx.1.2.2.1; omega) (by have := hx.1.2.2.2.1; omega)).mono fun e w' h => ⟨h.1, 0, h.2⟩
  have CB : Hid (∀ W, Calls Tryz.prog 88 #[.int .i64 x.im.n] W fun e w' => e = .returned (.int .i64 x.im.n.natAbs) ∧ ∃ n, w' = W.drewN n) := fun W => (rabs_any x.im.n W (by have := hx.2.2.2.1; omega) (by have := hx.2.2.2.2.1; omega)).mono fun e w' h => ⟨h.1, 0, h.2⟩
  have CP : Hid (∀ e W, e ≤ 20 → Calls Tryz.prog 110 #[.int .i64 (e : Nat)] W fun r w' => r = .returned (.int .i64 (2 ^ e)) ∧ ∃ n, w' = W.drewN n) := fun e W he => (power_any e W he).mono fun e w' h => ⟨h.1, 0, h.2⟩
  have HU := hidMk (show fitB x.re 20 = true ∧ fitB x.im 20 = true from ⟨fit20 hx.1, fit20 hx.2⟩)
  have HI := hidMk (fun e he h1 h2 => unit_is (x := x) (e := e) he h1 h2)
  have HD := hidMk (fun e (he : e ≤ 20) => (⟨unD_in hx.1 he, unD_in hx.2 he⟩ : (0 < unD x.re e ∧ unD x.re e ≤ 1048574951424) ∧ (0 < unD x.im e ∧ unD x.im e ≤ 1048574951424)))
  have hx0 := heap_alloc_new w (.cells (numC x) 92)
  have hb := fr_below w (.cells (numC x) 92)
  clear hx
  generalize unitP x = V at *
  go_enter Tryz.func104, Tryz.ntmps104
  go_upto_region 1 with fail
  generalize w.alloc _ = W at *
  have HX := hidMk hx0
  have HB := hidMk hb
  clear hx0 hb
  go_wp2_with fail
  go_loopg [3] 21 (fun g s3 wr => ∃ e : Nat, s3 = .int .i64 e ∧ e ≤ 20 ∧ Hid (e + g = 21) ∧ Hid (∀ j < e, ¬ (fitB x.re j = true ∧ fitB x.im j = true)) ∧ Hid (wr.heap[w.heap.size]? = some (.cells (numC x) 92 (0, 0)) ∧ Below w.heap.size w wr))
  case atStart =>
    exact ⟨0, rfl, by omega, rfl, fun j hj => by omega, HX.out, HB.out⟩
  case round =>
    obtain ⟨e, rfl, he, hg, hno, hw⟩ := hrel
    obtain ⟨c0, c1, c2, c3⟩ := four_cells hw.out.1
    have hd := HD.out e he
    have f1 := fit_abs x.re e
    have f2 := fit_abs x.im e
    have wm1 : wrap64 (2 ^ e * x.re.d) = 2 ^ e * x.re.d := by have := hd.1; unfold unD at this; rw [Int.mul_comm] at this; unfold wrap64; omega
    have wm2 : wrap64 (2 ^ e * x.im.d) = 2 ^ e * x.im.d := by have := hd.2; unfold unD at this; rw [Int.mul_comm] at this; unfold wrap64; omega
    have HF : Hid (fitB x.re e = !(decide ((x.re.n.natAbs : Int) > 2 ^ e * x.re.d)) ∧ fitB x.im e = !(decide ((x.im.n.natAbs : Int) > 2 ^ e * x.im.d))) := ⟨f1, f2⟩
    clear f1 f2 hd
    generalize hU1 : (2 : Int) ^ e * x.re.d = U1 at *
    generalize hU2 : (2 : Int) ^ e * x.im.d = U2 at *
    have ca := hidMk CA.out
    generalize ha1 : (x.re.n.natAbs : Int) = A1 at *
    generalize ha2 : (x.im.n.natAbs : Int) = A2 at *
    by_cases h1 : A1 > U1
    · have q1 : decide (A1 > U1) = true := by simpa using h1
      have HN : Hid (e + 1 ≤ 20 ∧ ∀ j < e + 1, ¬ (fitB x.re j = true ∧ fitB x.im j = true)) := by
        have hf1 : fitB x.re e = false := by rw [HF.out.1, q1]; rfl
        refine ⟨?_, fun j hj => ?_⟩
        · have := HU.out.1
          by_cases h20 : e = 20
          · subst h20; rw [hf1] at this; cases this
          · omega
        · by_cases hje : j = e
          · subst hje; rw [hf1]; simp
          · exact hno.out j (by omega)
      clear HF
      go_wp2_with fail
      go_quiet (first | (go_at_call_of 88 (Value.int .i64 x.re.n); exact Calls.quiet_of (CA.out _)) | (go_at_call 110; exact Calls.quiet_of (CP.out e _ he)))
      go_wp2_with fail
      go_roundg (20 - e)
      case measure => have := hg.out; omega
      case rel => exact ⟨e + 1, rfl, HN.out.1, by have := HN.out.1; show _ = _; omega, HN.out.2, by rw [World.heap_drewN]; exact hw.out.1, below_drewN hw.out.2 nq⟩
    · have q1 : decide (A1 > U1) = false := by simpa using h1
      have hf1 : fitB x.re e = true := by rw [HF.out.1, q1]; rfl
      by_cases h2 : A2 > U2
      · have q2 : decide (A2 > U2) = true := by simpa using h2
        have HN : Hid (e + 1 ≤ 20 ∧ ∀ j < e + 1, ¬ (fitB x.re j = true ∧ fitB x.im j = true)) := by
          have hf2 : fitB x.im e = false := by rw [HF.out.2, q2]; rfl
          refine ⟨?_, fun j hj => ?_⟩
          · have := HU.out.2
            by_cases h20 : e = 20
            · subst h20; rw [hf2] at this; cases this
            · omega
          · by_cases hje : j = e
            · subst hje; rw [hf2]; simp
            · exact hno.out j (by omega)
        clear HF hf1
        go_wp2_with fail
        go_quiet (first | (go_at_call_of 88 (Value.int .i64 x.re.n); exact Calls.quiet_of (CA.out _)) | (go_at_call_of 88 (Value.int .i64 x.im.n); exact Calls.quiet_of (CB.out _)) | (go_at_call 110; exact Calls.quiet_of (CP.out e _ he)))
        go_wp2_with fail
        go_roundg (20 - e)
        case measure => have := hg.out; omega
        case rel => exact ⟨e + 1, rfl, HN.out.1, by have := HN.out.1; show _ = _; omega, HN.out.2, by rw [World.heap_drewN]; exact hw.out.1, below_drewN hw.out.2 nq⟩
      · have q2 : decide (A2 > U2) = false := by simpa using h2
        have HV : Hid (V = e) := HI.out e he ⟨hf1, by rw [HF.out.2, q2]; rfl⟩ hno.out
        clear HF hf1
        go_wp2_with fail
        go_quiet (first | (go_at_call_of 88 (Value.int .i64 x.re.n); exact Calls.quiet_of (CA.out _)) | (go_at_call_of 88 (Value.int .i64 x.im.n); exact Calls.quiet_of (CB.out _)) | (go_at_call 110; exact Calls.quiet_of (CP.out e _ he)))
        go_wp2_with fail
        go_ret
        exact ⟨by rw [HV.out]; rfl, below_drewN hw.out.2 nq⟩
end Go.Proofs.YtodabmkcihafhaaGreatDoor

/- Digits: the document's digits of one part. -/
namespace Go.Proofs.YtodabmkcihafhaaGreatDoor
open Go.RowKit
set_option linter.unusedVariables false
def iC (l : List Int) : List Value := l.map (Value.int .i64)
theorem Tryz.infoInt : (Tryz.prog.info? 3).map (fun i => (i.zero, i.size, i.bytes)) = some (some (.int .i64 0), 1, 8) := by kernel_rfl
theorem ic_one (n : Int) : ∀ u ∈ [Value.int .i64 n], u.oneCell' = true := by
  intro u hu
  simp at hu
  subst hu
  rfl
theorem ic_new (w : World) (n : Int) : ∀ j u, [Value.int .i64 n][j]? = some u → (w.alloc (.cells #[.int .i64 n] 3)).cell? ((⟨w.heap.size, 0, none⟩ : Addr).add j) = some u := by
  refine World.news_of_block (cs := #[.int .i64 n]) (t := 3) (fr := (0, 0)) ?_
  exact heap_alloc_new w _
set_option maxHeartbeats 4000000 in
set_option maxRecDepth 1000000 in
theorem rdigits_any (f : Fr) (e k : Nat) (w : World) (hf : f.Ok) (he : e ≤ 20) (hk : k ≤ 20) (hfit : fitB f e = true) :
    Calls Tryz.prog 105 #[.agg #[.int .i64 f.n, .int .i64 f.d], .int .i64 e, .int .i64 k] w fun r w' => ∃ v, r = .returned v ∧ w'.ownsRow w.heap.size 3 1 v k (iC (digL f e k)) ∧ Below w.heap.size w w' := by
  obtain ⟨i0, hi, hz0, hz1, hz2⟩ := info_parts Tryz.infoInt
  have Hi : Hid (Tryz.prog.info? 3 = some i0) := hi
  have Hz : Hid (i0.zero = some (.int .i64 0)) := hz0
  have Hz1 : Hid (i0.size = 1) := hz1
  have Hz2 : Hid (i0.bytes = 8) := hz2
  clear hi hz0 hz1 hz2
  have CP : Hid (∀ W, Calls Tryz.prog 110 #[.int .i64 (e : Nat)] W fun r w' => r = .returned (.int .i64 (2 ^ e)) ∧ ∃ n, w' = W.drewN n) := fun W => (power_any e W he).mono fun e w' h => ⟨h.1, 0, h.2⟩
  have hu := unD_in hf he
  have hin := lf_in hu.1 (fit_in hfit)
  have HS := hidMk (fun j => digL_succ f e j)
  have H0 : Hid (digL f e 0 = [] ∧ lf f.n (unD f e) 0 = f.n) := ⟨rfl, rfl⟩
  have HL := hidMk (fun j => digL_len f e j)
  have hx0 := heap_alloc_new w (.cells #[.int .i64 f.n, .int .i64 f.d] 90)
  have hb := fr_below w (.cells #[.int .i64 f.n, .int .i64 f.d] 90)
  have hU : wrap64 (f.d * 2 ^ e) = unD f e := by show wrap64 (unD f e) = _; unfold wrap64; omega
  have HLS : Hid (∀ j, lf f.n (unD f e) (j + 1) = nx (lf f.n (unD f e) j) (unD f e)) := fun j => rfl
  clear hf he hfit
  generalize hD : unD f e = D at *
  generalize hLF : lf f.n D = LF at *
  generalize hDL : digL f e = DL at *
  clear hD hLF hDL
  go_enter Tryz.func105, Tryz.ntmps105
  go_upto_region 1 with fail
  generalize w.alloc _ = W at *
  obtain ⟨c0, c1, _, _⟩ := two_cells hx0
  have HB := hidMk hb
  clear hx0 hb
  go_wp2_with fail
  go_quiet (first | (go_at_call 110; exact Calls.quiet_of (CP.out _)))
  rw [hU]
  go_wp2_with fail
  go_loopg [7, 8, 10] k (fun g s7 s8 s10 wr => ∃ j : Nat, s10 = .int .i64 j ∧ s8 = .int .i64 (LF j) ∧ Hid (wr.ownsRow w.heap.size 3 1 s7 j (iC (DL j))) ∧ j ≤ k ∧ Hid (k - j = g) ∧ Hid (Below w.heap.size w wr))
  case atStart => exact ⟨0, rfl, by rw [H0.out.2], by rw [H0.out.1]; exact World.ownsRow_nil _ _ _ _, Nat.zero_le _, rfl, below_drewN HB.out nq⟩
  case round =>
    obtain ⟨j, rfl, rfl, hown, hjk, hg, hbw⟩ := hrel
    have HSZ := hidMk hbw.out.size
    by_cases hj : j < k
    · have q0 : (j : Int) < (k : Int) := by omega
      have hb := hin j
      have hs := HS.out j
      have hls := HLS.out j
      have HC := hidMk (dg_cases (LF j) D hu.1)
      generalize hl : LF j = L at *
      generalize hdd : dg L D = C at *
      generalize hnn : nx L D = NX at *
      rcases HC.out with ⟨h1, rfl, h3⟩ | ⟨h1, h2, rfl, h3⟩ | ⟨h1, h2, rfl, h3⟩
      · have HN : Hid (DL (j + 1) = DL j ++ [1] ∧ LF (j + 1) = 2 * L - D) := ⟨hs, by rw [hls, h3]⟩
        have q1 : decide (2 * (2 * L) > D) = true := by simpa using h1
        have q2 : decide (2 * (2 * L) < -D) = false := by simp; omega
        clear hs hls HC h3 hdd hnn hl
        go_wp2_with (at_builtin; refine wpList_append_own _ rfl _ _ 52 rfl w.heap.size 3 i0 _ 1 8 Tryz.underlying52 Hi.out Hz.out Hz1.out Hz2.out rfl (by decide) _ _ _ rfl (hown.out.alloc _) ⟨wr.heap.size, 0, none⟩ 1 1 [.int .i64 (1)] rfl rfl (ic_new wr (1)) (ic_one _) (by unfold maxLen; omega) (by omega) (by have := HSZ.out; simp; omega) ?_; intro v' w3 hown' hgrow3 hnil3)
        go_roundg (k - (j + 1))
        case measure => have := hg.out; omega
        case rel => exact ⟨j + 1, rfl, by rw [HN.out.2], hidMk (by have := hown'; rw [HN.out.1]; simpa [iC] using this), by omega, rfl, Below.grown (hbw.out.alloc HSZ.out _) hgrow3 (by have := HSZ.out; simp; omega) (fun i hi => (hown.out.lt _ hi).1)⟩
      · have HN : Hid (DL (j + 1) = DL j ++ [-1] ∧ LF (j + 1) = 2 * L + D) := ⟨hs, by rw [hls, h3]⟩
        have q1 : decide (2 * (2 * L) > D) = false := by simpa using h1
        have q2 : decide (2 * (2 * L) < -D) = true := by simpa using h2
        clear hs hls HC h3 hdd hnn hl
        go_wp2_with (at_builtin; refine wpList_append_own _ rfl _ _ 52 rfl w.heap.size 3 i0 _ 1 8 Tryz.underlying52 Hi.out Hz.out Hz1.out Hz2.out rfl (by decide) _ _ _ rfl (hown.out.alloc _) ⟨wr.heap.size, 0, none⟩ 1 1 [.int .i64 (-1)] rfl rfl (ic_new wr (-1)) (ic_one _) (by unfold maxLen; omega) (by omega) (by have := HSZ.out; simp; omega) ?_; intro v' w3 hown' hgrow3 hnil3)
        go_roundg (k - (j + 1))
        case measure => have := hg.out; omega
        case rel => exact ⟨j + 1, rfl, by rw [HN.out.2], hidMk (by have := hown'; rw [HN.out.1]; simpa [iC] using this), by omega, rfl, Below.grown (hbw.out.alloc HSZ.out _) hgrow3 (by have := HSZ.out; simp; omega) (fun i hi => (hown.out.lt _ hi).1)⟩
      · have HN : Hid (DL (j + 1) = DL j ++ [0] ∧ LF (j + 1) = 2 * L) := ⟨hs, by rw [hls, h3]⟩
        have q1 : decide (2 * (2 * L) > D) = false := by simpa using h1
        have q2 : decide (2 * (2 * L) < -D) = false := by simpa using h2
        clear hs hls HC h3 hdd hnn hl
        go_wp2_with (at_builtin; refine wpList_append_own _ rfl _ _ 52 rfl w.heap.size 3 i0 _ 1 8 Tryz.underlying52 Hi.out Hz.out Hz1.out Hz2.out rfl (by decide) _ _ _ rfl (hown.out.alloc _) ⟨wr.heap.size, 0, none⟩ 1 1 [.int .i64 (0)] rfl rfl (ic_new wr (0)) (ic_one _) (by unfold maxLen; omega) (by omega) (by have := HSZ.out; simp; omega) ?_; intro v' w3 hown' hgrow3 hnil3)
        go_roundg (k - (j + 1))
        case measure => have := hg.out; omega
        case rel => exact ⟨j + 1, rfl, by rw [HN.out.2], hidMk (by have := hown'; rw [HN.out.1]; simpa [iC] using this), by omega, rfl, Below.grown (hbw.out.alloc HSZ.out _) hgrow3 (by have := HSZ.out; simp; omega) (fun i hi => (hown.out.lt _ hi).1)⟩
    · have hjk2 : j = k := by omega
      subst hjk2
      go_wp2_with fail
      go_ret
      exact ⟨_, rfl, hown.out, hbw.out⟩
end Go.Proofs.YtodabmkcihafhaaGreatDoor

/- Digits: the document's Digits. -/
namespace Go.Proofs.YtodabmkcihafhaaGreatDoor
open Go.RowKit
set_option linter.unusedVariables false
def dgU (a : Ans) (n : Int) : Int := match tellA a n with | .ok x => (unitP x : Nat) | .err _ _ => 0
def dgRe (a : Ans) (n : Int) : List Int := match tellA a n with | .ok x => digL x.re (unitP x) n.toNat | .err _ _ => []
def dgIm (a : Ans) (n : Int) : List Int := match tellA a n with | .ok x => digL x.im (unitP x) n.toNat | .err _ _ => []
theorem row_below {w w' : World} {base : Nat} {e : TypeId} {sz : Nat} {v : Value} {n : Nat} {xs : List Value} (h : w.ownsRow base e sz v n xs) (g : Below w.heap.size w w') : w'.ownsRow base e sz v n xs := by
  obtain ⟨h1, h2⟩ := h
  refine ⟨h1, ?_⟩
  rcases h2 with h2 | ⟨b, cap, cur, e1, e2, e3, e4, e5, e6, e7⟩
  · exact Or.inl h2
  · exact Or.inr ⟨b, cap, cur, e1, e2, (g.block _ (Array.getElem?_eq_some_iff.1 e3).1).trans e3, e4, e5, e6, e7⟩
theorem row_mono {w : World} {base base' : Nat} {e : TypeId} {sz : Nat} {v : Value} {n : Nat} {xs : List Value} (h : w.ownsRow base e sz v n xs) (g : base' ≤ base) : w.ownsRow base' e sz v n xs := by
  obtain ⟨h1, h2⟩ := h
  refine ⟨h1, ?_⟩
  rcases h2 with h2 | ⟨b, cap, cur, e1, e2, e3, e4, e5, e6, e7⟩
  · exact Or.inl h2
  · exact Or.inr ⟨b, cap, cur, e1, by omega, e3, e4, e5, e6, e7⟩
theorem dg_vals {names : List (Int × Num)} {s : ByteArray} (hok : ∀ p ∈ names, p.2.Ok) (n : Int) :
    (∃ x q p, tellA (valS names s) n = .ok x ∧ x.Ok ∧ q = (0 : Int) ∧ p = (0 : Int) ∧ 0 ≤ n ∧ n ≤ 20 ∧ valS names s = .ok x) ∨
    (∃ x, valS names s = .ok x ∧ x.Ok ∧ (n < 0 ∨ n > 20) ∧ tellA (valS names s) n = .err 6 0) ∨
    (∃ q p, valS names s = .err q p ∧ q ≠ 0 ∧ tellA (valS names s) n = .err q p) := by
  rcases valS_cases names s hok with ⟨x, hv⟩ | ⟨q, p, hv, hq⟩
  · have hx := valS_num hok hv
    by_cases hr : n < 0 ∨ n > 20
    · exact Or.inr (Or.inl ⟨x, hv, hx, hr, by unfold tellA; rw [hv]; exact if_pos hr⟩)
    · exact Or.inl ⟨x, 0, 0, by unfold tellA; rw [hv]; exact if_neg hr, hx, rfl, rfl, by omega, by omega, hv⟩
  · exact Or.inr (Or.inr ⟨q, p, hv, hq, by unfold tellA; rw [hv]⟩)
set_option maxHeartbeats 4000000 in
set_option maxRecDepth 100000 in
theorem rbdigits_any (B : Nat) (names : List (Int × Num)) (s : ByteArray) (n : Int) (w : World) (hl : names.length ≤ 1000) (hok : ∀ p ∈ names, p.2.Ok) (h : NmRow B names w) :
    Calls Tryz.prog 69 #[.pointer (some ⟨B, 0, none⟩), .string s, .int .i64 n] w fun e w' => ∃ v1 v2, e = .returned (.tuple #[.int .i64 (dgU (valS names s) n), v1, v2, .int .i64 (ansE (tellA (valS names s) n)), .int .i64 (ansP (tellA (valS names s) n))]) ∧
      w'.ownsRow w.heap.size 3 1 v1 (dgRe (valS names s) n).length (iC (dgRe (valS names s) n)) ∧ w'.ownsRow w.heap.size 3 1 v2 (dgIm (valS names s) n).length (iC (dgIm (valS names s) n)) ∧ Below w.heap.size w w' := by
  have CN : Hid (Calls Tryz.prog 36 #[.pointer (some ⟨B, 0, none⟩), .string s] w fun e w' => e = .returned (ansV (valS names s)) ∧ Below w.heap.size w w') := by
    have := rnumber_any B names s w hl hok h
    rw [refV_ans] at this
    exact this
  have HX := hidMk (dg_vals (s := s) hok n)
  clear hl hok h
  go_enter Tryz.func69, Tryz.ntmps69
  go_wp2_with fail
  refine CN.out.mono ?_
  rintro e w1 ⟨rfl, hb1⟩
  rcases HX.out with ⟨x, _, _, ht, hx, _, _, hn0, hn1, hv⟩ | ⟨x, hv, hx, hr, ht⟩ | ⟨q, p, hv, hq, ht⟩
  · obtain ⟨k, rfl⟩ : ∃ k : Nat, n = k := ⟨n.toNat, by omega⟩
    have HV : Hid (dgU (valS names s) k = (unitP x : Nat) ∧ dgRe (valS names s) k = digL x.re (unitP x) k ∧ dgIm (valS names s) k = digL x.im (unitP x) k ∧ ansE (tellA (valS names s) k) = 0 ∧ ansP (tellA (valS names s) k) = 0) := by
      unfold dgU dgRe dgIm
      rw [ht]
      exact ⟨rfl, rfl, rfl, rfl, rfl⟩
    obtain ⟨u1, u2, u3, u4⟩ := unit_fit hx
    have C0 := hidMk (fun W => runit_any x W hx)
    have C1 := hidMk (fun W => rdigits_any x.re (unitP x) k W hx.1 u1 (by omega) u2)
    have C2 := hidMk (fun W => rdigits_any x.im (unitP x) k W hx.2 u1 (by omega) u3)
    rw [hv]
    have e1 : ansV (.ok x) = .tuple #[.agg (numC x), .int .i64 0, .int .i64 0] := rfl
    rw [e1]
    have HLN : Hid ((digL x.re (unitP x) k).length = k ∧ (digL x.im (unitP x) k).length = k) := ⟨digL_len _ _ _, digL_len _ _ _⟩
    clear u2 u3 u4 hv ht hx CN HX e1
    generalize digL x.re (unitP x) k = DR at *
    generalize digL x.im (unitP x) k = DI at *
    generalize unitP x = U at *
    go_upto_region 2 with fail
    have hx2 := heap_alloc_new w1 (.cells (numC x) 92)
    have hb2 := hb1.trans ((fr_below w1 (.cells (numC x) 92)).mono hb1.size)
    generalize w1.alloc _ = W2 at *
    generalize w1.heap.size = b10 at *
    obtain ⟨c0, c1, c2, c3⟩ := four_cells hx2
    have HX2 := hidMk hx2
    have HB2 := hidMk hb2
    clear hx2 hb2 hb1
    go_wp2_with fail
    refine (C0.out _).mono ?_
    rintro e w3 ⟨rfl, hb3⟩
    have HX3 := hidMk ((hb3.block _ (Array.getElem?_eq_some_iff.1 HX2.out).1).trans HX2.out)
    have HB3 := hidMk (HB2.out.trans (hb3.mono HB2.out.size))
    clear c0 c1 c2 c3 HX2 HB2 hb3 C0
    obtain ⟨c0, c1, c2, c3⟩ := four_cells HX3.out
    go_wp2_with fail
    refine (C1.out _).mono ?_
    rintro e w4 ⟨v1, rfl, hr1, hb4⟩
    have HX4 := hidMk ((hb4.block _ (Array.getElem?_eq_some_iff.1 HX3.out).1).trans HX3.out)
    have HB4 := hidMk (HB3.out.trans (hb4.mono HB3.out.size))
    have HR1 := hidMk (row_mono hr1 HB3.out.size)
    clear c0 c1 c2 c3 HX3 HB3 hb4 C1 hr1
    obtain ⟨c0, c1, c2, c3⟩ := four_cells HX4.out
    go_wp2_with fail
    refine (C2.out _).mono ?_
    rintro e w5 ⟨v2, rfl, hr2, hb5⟩
    have HB5 := hidMk (HB4.out.trans (hb5.mono HB4.out.size))
    have HR2 := hidMk (row_mono hr2 HB4.out.size)
    have HR1' := hidMk (row_below HR1.out hb5)
    clear c0 c1 c2 c3 HX4 HB4 hb5 C2 hr2
    go_wp2_with fail
    exact bodyPost_ret (v := .tuple #[.int .i64 (U : Nat), v1, v2, .int .i64 0, .int .i64 0]) (by simp [results, Tryz.results69, go_sem]) rfl ⟨v1, v2, by rw [HV.out.1, HV.out.2.2.2.1, HV.out.2.2.2.2], by rw [HV.out.2.1, HLN.out.1]; exact HR1'.out, by rw [HV.out.2.2.1, HLN.out.2]; exact HR2.out, HB5.out⟩
  · have HV : Hid (dgU (valS names s) n = 0 ∧ dgRe (valS names s) n = [] ∧ dgIm (valS names s) n = [] ∧ ansE (tellA (valS names s) n) = 6 ∧ ansP (tellA (valS names s) n) = 0) := by
      unfold dgU dgRe dgIm
      rw [ht]
      exact ⟨rfl, rfl, rfl, rfl, rfl⟩
    rw [hv]
    have e1 : ansV (.ok x) = .tuple #[.agg (numC x), .int .i64 0, .int .i64 0] := rfl
    rw [e1]
    clear hv ht hx CN HX e1
    go_upto_region 2 with fail
    have hb2 := hb1.trans ((fr_below w1 (.cells (numC x) 92)).mono hb1.size)
    generalize w1.alloc _ = W2 at *
    generalize w1.heap.size = b10 at *
    go_wp2_with fail
    all_goals exact bodyPost_ret (v := .tuple #[.int .i64 0, .slice none 0 0, .slice none 0 0, .int .i64 6, .int .i64 0]) (by simp [results, Tryz.results69, go_sem]) rfl ⟨_, _, by rw [HV.out.1, HV.out.2.2.2.1, HV.out.2.2.2.2], by rw [HV.out.2.1]; exact World.ownsRow_nil _ _ _ _, by rw [HV.out.2.2.1]; exact World.ownsRow_nil _ _ _ _, hb2⟩
  · have HV : Hid (dgU (valS names s) n = 0 ∧ dgRe (valS names s) n = [] ∧ dgIm (valS names s) n = [] ∧ ansE (tellA (valS names s) n) = q ∧ ansP (tellA (valS names s) n) = p) := by
      unfold dgU dgRe dgIm
      rw [ht]
      exact ⟨rfl, rfl, rfl, rfl, rfl⟩
    rw [hv]
    have e1 : ansV (.err q p) = .tuple #[.agg (numC ⟨⟨0, 0⟩, ⟨0, 0⟩⟩), .int .i64 q, .int .i64 p] := rfl
    rw [e1]
    have hne : (q != 0) = true := by simpa using hq
    clear hv hq e1 CN HX ht
    go_upto_region 2 with fail
    have hb2 := hb1.trans ((fr_below w1 (.cells (numC ⟨⟨0, 0⟩, ⟨0, 0⟩⟩) 92)).mono hb1.size)
    generalize w1.alloc _ = W2 at *
    go_wp2_with fail
    exact bodyPost_ret (v := .tuple #[.int .i64 0, .slice none 0 0, .slice none 0 0, .int .i64 q, .int .i64 p]) (by simp [results, Tryz.results69, go_sem]) rfl ⟨_, _, by rw [HV.out.1, HV.out.2.2.2.1, HV.out.2.2.2.2], by rw [HV.out.2.1]; exact World.ownsRow_nil _ _ _ _, by rw [HV.out.2.2.1]; exact World.ownsRow_nil _ _ _ _, hb2⟩
end Go.Proofs.YtodabmkcihafhaaGreatDoor

/- Digits: the program's untold and next. -/
namespace Go.Proofs.YtodabmkcihafhaaGreatDoor
open Go.RowKit
set_option linter.unusedVariables false
/-- A digit as a float. -/
def bF (c : Int) : Nat := if c = 1 then 4607182418800017408 else if c = -1 then 13830554455654793216 else 0
def flV (c : Int) : Value := .float .f64 (bF c)
set_option maxHeartbeats 4000000 in
set_option maxRecDepth 100000 in
theorem next_any (b : Nat) (L D : Int) (w : World) (h : w.heap[b]? = some (.cells #[.int .i64 L, .int .i64 D] 220 (0, 0))) (hD : 0 < D ∧ D ≤ 1048574951424) (hL : -D ≤ L ∧ L ≤ D) :
    Calls Tryz.prog 108 #[.pointer (some ⟨b, 0, none⟩)] w fun e w' => e = .returned (flV (dg L D)) ∧ w'.heap[b]? = some (.cells #[.int .i64 (nx L D), .int .i64 D] 220 (0, 0)) ∧ w.grownBy w' (some b) := by
  have HC := hidMk (dg_cases L D hD.1)
  have w2 : wrap64 (L * 2) = 2 * L := by unfold wrap64; omega
  have w4 : wrap64 (2 * (2 * L)) = 2 * (2 * L) := by unfold wrap64; omega
  have wD : wrap64 (-D) = -D := by unfold wrap64; omega
  obtain ⟨c0, c1, f0, f1⟩ := two_cells h
  have HH := hidMk h
  clear h
  go_enter Tryz.func108, Tryz.ntmps108
  go_upto_region 2 with fail
  have e2 : L * 2 = 2 * L := by omega
  rw [e2]
  clear w2 e2
  have h2 : (w.setCell ⟨b, 0, none⟩ (.int .i64 (2 * L))).heap[b]? = some (.cells #[.int .i64 (2 * L), .int .i64 D] 220 (0, 0)) := by
    simp [World.setCell, Array.getElem?_modify, HH.out]
  have g2 : w.grownBy (w.setCell ⟨b, 0, none⟩ (.int .i64 (2 * L))) (some b) := gb_set (World.grownBy.refl _ _) _ _
  generalize w.setCell ⟨b, 0, none⟩ (.int .i64 (2 * L)) = W at *
  clear c0 c1 f0 f1 HH
  obtain ⟨c0, c1, f0, f1⟩ := two_cells h2
  have H2 := hidMk h2
  have G2 := hidMk g2
  clear h2 g2
  rcases HC.out with ⟨h1, e3, e4⟩ | ⟨h1, h2, e3, e4⟩ | ⟨h1, h2, e3, e4⟩
  · have HE : Hid (flV (dg L D) = .float .f64 4607182418800017408 ∧ nx L D = 2 * L - D) := ⟨by rw [e3]; rfl, e4⟩
    clear e3 e4 HC
    have q1 : decide (2 * (2 * L) > D) = true := by simpa using h1
    go_wp2_with fail
    go_quiet (fail)
    go_wp2_with fail
    go_region
    all_goals go_wp2_with fail
    refine bodyPost_ret (v := .float .f64 4607182418800017408) (by simp [results, Tryz.results108, go_sem]) rfl ⟨by rw [HE.out.1], ?_, gb_set (gb_drewN G2.out _) _ _⟩
    rw [HE.out.2]
    simp [World.setCell, Array.getElem?_modify, H2.out]
  · have HE : Hid (flV (dg L D) = .float .f64 13830554455654793216 ∧ nx L D = 2 * L + D) := ⟨by rw [e3]; rfl, e4⟩
    clear e3 e4 HC
    have q1 : decide (2 * (2 * L) > D) = false := by simpa using h1
    have q2 : decide (2 * (2 * L) < -D) = true := by simpa using h2
    go_wp2_with fail
    go_quiet (fail)
    go_wp2_with fail
    go_quiet (fail)
    go_wp2_with fail
    go_region
    go_wp2_with fail
    refine bodyPost_ret (v := .float .f64 13830554455654793216) (by simp [results, Tryz.results108, go_sem]) rfl ⟨by rw [HE.out.1], ?_, gb_set (gb_drewN G2.out _) _ _⟩
    rw [HE.out.2]
    simp [World.setCell, Array.getElem?_modify, H2.out]
  · have HE : Hid (flV (dg L D) = .float .f64 0 ∧ nx L D = 2 * L) := ⟨by rw [e3]; rfl, e4⟩
    clear e3 e4 HC
    have q1 : decide (2 * (2 * L) > D) = false := by simpa using h1
    have q2 : decide (2 * (2 * L) < -D) = false := by simpa using h2
    go_wp2_with fail
    go_quiet (fail)
    go_wp2_with fail
    go_quiet (fail)
    go_wp2_with fail
    refine bodyPost_ret (v := .float .f64 0) (by simp [results, Tryz.results108, go_sem]) rfl ⟨by rw [HE.out.1], ?_, gb_drewN (gb_drewN G2.out _) _⟩
    rw [HE.out.2]
    exact H2.out

set_option maxHeartbeats 1000000 in
theorem untold_any (f : Fr) (e : Nat) (w : World) (hf : f.Ok) (he : e ≤ 20) : Calls Tryz.prog 107 #[.agg #[.int .i64 f.n, .int .i64 f.d], .int .i64 e] w fun r w' => r = .returned (.agg #[.int .i64 f.n, .int .i64 (unD f e)]) ∧ Below w.heap.size w w' := by
  obtain ⟨p1, p2⟩ := pow20 e he
  obtain ⟨u1, u2⟩ := unD_in hf he
  have wM : wrap64 (f.d * 2 ^ e) = unD f e := by show wrap64 (unD f e) = _; unfold wrap64; omega
  obtain ⟨d1, d2, n1, n2, _⟩ := hf
  have hx := heap_alloc_new w (.cells #[.int .i64 f.n, .int .i64 f.d] 80)
  have hb := fr_below w (.cells #[.int .i64 f.n, .int .i64 f.d] 80)
  generalize unD f e = U at *
  go_enter Tryz.func107, Tryz.ntmps107
  go_upto_region 1 with fail
  have hx2 := (Below.heap_alloc (w.alloc (.cells #[.int .i64 f.n, .int .i64 f.d] 80)) (.cells #[.int .i64 0, .int .i64 0] 220) _ (Array.getElem?_eq_some_iff.1 hx).1).trans hx
  have hy2 := heap_alloc_new (w.alloc (.cells #[.int .i64 f.n, .int .i64 f.d] 80)) (.cells #[.int .i64 0, .int .i64 0] 220)
  have hb2 := hb.alloc (by simp) (.cells #[.int .i64 0, .int .i64 0] 220)
  simp only [World.size_alloc] at hy2
  generalize (w.alloc _).alloc _ = W at *
  obtain ⟨c0, c1, _, _⟩ := two_cells hx2
  obtain ⟨y0, y1, f0, f1⟩ := two_cells hy2
  have HY := hidMk hy2
  have HB := hidMk hb2
  clear hx hb hx2 hy2 hb2
  go_region
  go_wp2_with fail
  refine bp_gen (fun W' => W'.heap[w.heap.size + 1]? = some (.cells #[.int .i64 f.n, .int .i64 U] 220 (0, 0)) ∧ Below w.heap.size w W') ⟨two_set HY.out _ _, ((HB.out.setCell (p := ⟨w.heap.size + 1, 0, none⟩) (by simp) _).setCell (p := ⟨w.heap.size + 1, 1, none⟩) (by simp) _).drew⟩ ?_
  rintro W' ⟨hz, hb⟩
  obtain ⟨z0, z1, _, _⟩ := two_cells hz
  exact bodyPost_ret (v := .agg #[.int .i64 f.n, .int .i64 U]) (by simp [results, Tryz.results107, go_sem, z0, z1]) rfl ⟨rfl, hb⟩
end Go.Proofs.YtodabmkcihafhaaGreatDoor

/- A range over an iterator that keeps state of its own in cells. -/
namespace Go.Proofs.YtodabmkcihafhaaGreatDoor
open Go.RowKit Go.Shelf
set_option linter.unusedVariables false
/-- What lies at B or above lies as it lay. -/
structure Abv (B : Nat) (W W' : World) : Prop where
  size : W.heap.size ≤ W'.heap.size
  same : ∀ k, B ≤ k → k < W.heap.size → W'.heap[k]? = W.heap[k]?
theorem Abv.trans {B : Nat} {A C D : World} (h : Abv B A C) (k : Abv B C D) : Abv B A D :=
  ⟨Nat.le_trans h.size k.size, fun i h1 h2 => (k.same i h1 (Nat.lt_of_lt_of_le h2 h.size)).trans (h.same i h1 h2)⟩
theorem Abv.mono {B B' : Nat} {A C : World} (h : Abv B A C) (hb : B ≤ B') : Abv B' A C := ⟨h.size, fun i h1 h2 => h.same i (Nat.le_trans hb h1) h2⟩
theorem Abv.putObj {B : Nat} (W : World) {l : Nat} (o : Obj) (hl : l < B) : Abv B W (W.putObj l o) :=
  ⟨(grownBy_putObj' W l o).size, fun k h1 h2 => World.putObj_heap_other (by omega)⟩
/-- How a round may end: it goes on, or it is left by a jump. -/
def stPost (B : Nat) (I : Nat → World → Prop) (Ix : Code → World → Prop) (j : Nat) (W : World) : Exit → Act → World → Prop
  | .normal, _, W' => Abv B W W' ∧ I (j + 1) W'
  | .exit id, _, W' => Abv B W W' ∧ Ix (.exit id) W'
  | .ret, _, _ => False
  | .goto _, _, _ => False
  | .panic _, _, _ => False
  | .outgrown, _, _ => False
variable {F : Fence} {n : Nat} {P : Program}
/-- The contract of an iterator that never ends by itself, its elements told by their place. -/
def SeqSt (F : Fence) (n : Nat) (P : Program) (g : Nat) (lb : Array Value) (encs : Nat → Array Value) (N : Nat) (w : World) : Prop :=
  ∀ (l : Nat) (J Jx : Nat → World → Prop) (W : World), Below w.heap.size w W →
    (∀ j A A', J j A → Below W.heap.size A A' → J j A') → (∀ j A A', Jx j A → Below W.heap.size A A' → Jx j A') → (∀ j A, J j A → j ≤ N) →
    (∀ j W1, J j W1 → YieldAt F (n - 1) P l (encs j) W1 fun e W' => (e = .returned (.bool true) ∧ J (j + 1) W' ∧ Abv W.heap.size W1 W') ∨ (e = .returned (.bool false) ∧ Jx (j + 1) W')) →
    J 0 W → CallsIn F n P g (#[.func (.yield l) #[] #[]] ++ lb) W fun e W' => (∃ v, e = .returned v) ∧ ∃ j, Jx j W'

theorem wpIn_rangeSt {g : Operand} {ps : Array Tmp} {assign body : Code} {Q : Exit → Act → World → Prop} {a : Act} {w : World}
    (hro : F.round = none) (h1 : 1 ≤ n) {gf : Nat} {lb : Array Value} (hg : a.eval g = .func (.func gf) #[] lb) (hFg : F.fn gf) (eg : ∀ args w, (callFunc gf args).run P w = .ok (.enter gf args) w)
    {encs : Nat → Array Value} {N : Nat} {w0 : World} (hseq : SeqSt F (n - 1) P gf lb encs N w0) (hb0 : Below w0.heap.size w0 w) (hps : ∀ j, (encs j).size = ps.size)
    (I : Nat → World → Prop) (Ix : Code → World → Prop) (hI : ∀ j A A', I j A → Below w.heap.size A A' → I j A') (hIx : ∀ c A A', Ix c A → Below w.heap.size A A' → Ix c A') (hN : ∀ j A, I j A → j ≤ N) (h0 : I 0 w) (a₁ : Nat → Act)
    (hassign : ∀ (l : Nat) (j : Nat) (W : World) (K : Act → World → Prop), K (a₁ j) W →
      assign.wpIn (F.inRound l) (n - 1 - 1) P (Exit.then K (fun _ _ _ => False)) { tmps := (ps.zip (encs j)).foldl (fun t (p, v) => t.setIfInBounds p v) a.tmps, defers := [] } W)
    (hbody : ∀ (l : Nat) (j : Nat) (W : World), I j W → body.wpIn (F.inRound l) (n - 1 - 1) P (stPost w.heap.size I Ix j W) (a₁ j) W)
    (hstop : ∀ (D : Nat) (c : Code) (W : World), w.heap.size ≤ D → Ix c W → W.heap[D]? = some (.deferred (some [])) → c.wpIn F n P Q { a with defers := { target := .collected D, args := #[] } :: a.defers } W) :
    (Code.rangeFunc g ps assign body).wpIn F n P Q a w := by
  refine wpIn_rangeFunc ?_
  intro fn hfn
  rw [hro]
  obtain ⟨rec, hrec⟩ : ∃ rec : LoopState → Option Code → Loop, rec = fun st pe => { state := st, pending := pe, fn, tmps := a.tmps, params := ps, assign, body, defers := w.heap.size } := ⟨_, rfl⟩
  obtain ⟨W1, hW1⟩ : ∃ W1, (w.alloc (.deferred (some []))).alloc (.loop (rec .ready none)) = W1 := ⟨_, rfl⟩
  have hL1 : W1.heap[w.heap.size + 1]? = some (.loop (rec .ready none)) := by
    rw [← hW1]; have := World.alloc_heap_new (w.alloc (.deferred (some []))) (.loop (rec .ready none)); rwa [World.size_alloc] at this
  have hK1 : W1.heap[w.heap.size]? = some (.deferred (some [])) := by
    rw [← hW1]; exact (Below.heap_alloc _ _ _ (by simp)).trans (World.alloc_heap_new w _)
  have hs1 : W1.heap.size = w.heap.size + 2 := by rw [← hW1]; simp
  have hbw1 : Below w.heap.size w W1 := by rw [← hW1]; exact ((Below.refl _ w).alloc (Nat.le_refl _) _).alloc (by simp) _
  have hb1 : Below w0.heap.size w0 W1 := hb0.trans (hbw1.mono hb0.size)
  refine ⟨w.heap.size + 1, [{ target := .collected w.heap.size, args := #[] }], W1, { target := .fn (.func gf) lb, args := #[.func (.yield (w.heap.size + 1)) #[] #[]] }, W1, gf,
    #[.func (.yield (w.heap.size + 1)) #[] #[]] ++ lb, W1, ?_, ?_, ?_, ?_, fun _ => h1, ?_⟩
  · rw [← hW1, hrec]; exact run_enterLoop_outer _ _ _ _ _
  · simp only [resolve, hg]
    simp [go_sem]
  · intro f' hf'; simp [Target.leads] at hf'; subst hf'; exact hFg
  · simp [invoke, go_sem, eg]
  · have put : ∀ (A : World) (l : Nat) (o o' : Obj), w.heap.size ≤ l → A.heap[l]? = some o → Below w.heap.size A (A.putObj l o') := fun A l o o' hl h =>
      (Below.refl _ A).grown (grownBy_putObj' A l o') (by have := (Array.getElem?_eq_some_iff.1 h).1; omega) (fun k e => by cases e; omega)
    refine (hseq (w.heap.size + 1)
      (fun j W => I j W ∧ W.heap[w.heap.size + 1]? = some (.loop (rec .ready none)) ∧ W.heap[w.heap.size]? = some (.deferred (some [])))
      (fun j W => ∃ c, Ix c W ∧ W.heap[w.heap.size + 1]? = some (.loop (rec .done (some c))) ∧ W.heap[w.heap.size]? = some (.deferred (some [])))
      W1 hb1
      (fun j A A' hs hb => ⟨hI j A A' hs.1 (hb.mono (by omega)), (hb.block _ (by omega)).trans hs.2.1, (hb.block _ (by omega)).trans hs.2.2⟩)
      (fun j A A' hs hb => by
        obtain ⟨c, hc, hl, hk⟩ := hs
        exact ⟨c, hIx c A A' hc (hb.mono (by omega)), (hb.block _ (by omega)).trans hl, (hb.block _ (by omega)).trans hk⟩)
      (fun j A hs => hN j A hs.1)
      ?_ ⟨hI _ _ _ h0 hbw1, hL1, hK1⟩).mono ?_
    · rintro j W ⟨hi, hl, hk⟩
      have hlt : w.heap.size + 1 < W.heap.size := (Array.getElem?_eq_some_iff.1 hl).1
      have hy := run_yield (P := P) (args := encs j) hl (by rw [hrec]; exact hps j)
      rw [hrec] at hy
      refine ⟨fn, _, assign, body, hy, roundIn_of_wpIn hfn (hassign _ j W _ ⟨_, run_beginRound hl (by rw [hrec]), ?_⟩)⟩
      have hl2 : (W.putObj (w.heap.size + 1) (.loop { rec .ready none with state := .busy })).heap[w.heap.size + 1]? = some (.loop { rec .ready none with state := .busy }) := World.putObj_heap_same hlt
      have hk2 : (W.putObj (w.heap.size + 1) (.loop { rec .ready none with state := .busy })).heap[w.heap.size]? = some (.deferred (some [])) := (World.putObj_heap_other (by omega)).trans hk
      have ha2 : Abv W1.heap.size W (W.putObj (w.heap.size + 1) (.loop { rec .ready none with state := .busy })) := Abv.putObj W _ (by omega)
      have hs2 : W.heap.size ≤ (W.putObj (w.heap.size + 1) (.loop { rec .ready none with state := .busy })).heap.size := (grownBy_putObj' _ _ _).size
      refine wpIn_mono (hbody _ j _ (hI j _ _ hi (put _ _ _ _ (by omega) hl))) ?_
      generalize hWW : W.putObj (w.heap.size + 1) (.loop { rec .ready none with state := .busy }) = WB at *
      have fin : ∀ (jump : Option Code) (W3 : World), Abv w.heap.size WB W3 →
          (Instr.endRound (w.heap.size + 1) jump).run P W3 = .ok (.bool jump.isNone) (W3.putObj (w.heap.size + 1) (.loop (rec (if jump.isNone then .ready else .done) jump))) ∧
          W3.heap[w.heap.size + 1]? = some (.loop { rec .ready none with state := .busy }) ∧
          (W3.putObj (w.heap.size + 1) (.loop (rec (if jump.isNone then .ready else .done) jump))).heap[w.heap.size + 1]? = some (.loop (rec (if jump.isNone then .ready else .done) jump)) ∧
          (W3.putObj (w.heap.size + 1) (.loop (rec (if jump.isNone then .ready else .done) jump))).heap[w.heap.size]? = some (.deferred (some [])) := fun jump W3 hk3 => by
        have hl3 := (hk3.same _ (by omega) (by omega)).trans hl2
        have hk3' := (hk3.same _ (Nat.le_refl _) (by omega)).trans hk2
        have := run_endRound (P := P) jump hl3
        rw [hrec] at this ⊢
        exact ⟨this, by rw [hrec] at hl3; exact hl3, World.putObj_heap_same (Array.getElem?_eq_some_iff.1 hl3).1, (World.putObj_heap_other (by omega)).trans hk3'⟩
      rintro e a3 W3 hp
      cases e with
      | normal =>
        obtain ⟨hk3, hi3⟩ := hp
        obtain ⟨hr, hl3, hl4, hk4⟩ := fin none W3 hk3
        exact ⟨_, _, hr, .inl ⟨rfl, ⟨hI _ _ _ hi3 (put _ _ _ _ (by omega) hl3), hl4, hk4⟩, (ha2.trans (hk3.mono (by omega))).trans (Abv.putObj _ _ (by omega))⟩⟩
      | exit id =>
        obtain ⟨hk3, hi3⟩ := hp
        obtain ⟨hr, hl3, hl4, hk4⟩ := fin (some (.exit id)) W3 hk3
        exact ⟨_, _, hr, .inr ⟨rfl, .exit id, hIx _ _ _ hi3 (put _ _ _ _ (by omega) hl3), hl4, hk4⟩⟩
      | ret => exact hp.elim
      | goto t => exact hp.elim
      | panic ch => exact hp.elim
      | outgrown => exact hp.elim
    · rintro e W2 ⟨⟨v, rfl⟩, j, c, hi, hl, hk⟩
      exact ⟨some c, _, by have := run_endLoop (P := P) hl (by rw [hrec]; simp); rw [hrec] at this; exact this, hstop _ c _ (Nat.le_refl _) (hIx c _ _ hi (put _ _ _ _ (by omega) hl)) ((World.putObj_heap_other (by omega)).trans hk)⟩
end Go.Proofs.YtodabmkcihafhaaGreatDoor
